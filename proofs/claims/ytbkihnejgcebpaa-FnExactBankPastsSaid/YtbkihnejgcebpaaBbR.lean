/- All bank states of a height and a number of cards, by the specification. No condition. -/
import Derived.Test.YtbkihnejgcebpaaBbP
import Derived.Test.YtbkihnejgcebpaaBbQ
import Derived.Test.YtbkihnejgcebpaaGk
namespace Go.Proofs.Ytbkihnejgcebpaa
open Go.RowKit
set_option linter.unusedVariables false
set_option linter.unusedSimpArgs false
set_option maxRecDepth 20000

theorem rowBk_take (H l : Nat) (R : List (List Int)) (j : Nat) (ys : List Int) (hj : j < R.length) (hy : R.getD j [] = ys) :
    (R.take (j + 1)).map (fun p => (⟨(H : Int), (l : Int), p⟩ : Bk)) = (R.take j).map (fun p => (⟨(H : Int), (l : Int), p⟩ : Bk)) ++ [⟨(H : Int), (l : Int), ys⟩] := by
  rw [List.take_add_one, List.getElem?_eq_getElem hj, List.map_append]
  rw [List.getD_eq_getElem?_getD, List.getElem?_eq_getElem hj] at hy
  simp at hy
  simp [hy]
set_option maxHeartbeats 3200000 in
set_option maxRecDepth 100000 in
theorem baAll_any (H N : Nat) (w : World) (hH : H ≤ 10) (hN : N ≤ 14) :
    Calls Try.prog 33 #[.int .i64 H, .int .i64 N] w fun e w' => ∃ ao n cap, e = .returned (.slice ao n cap) ∧ BksOwn w.heap.size w'.heap.size w' ao n cap (baL H N (min H (N + 1))) ∧ Below w.heap.size w w' := by
  have hcon := fun l (q : l ≤ N) W => piAll_any (N - l) (N - l) H W (Nat.le_refl _) (by omega) (by omega)
  have hbl := fun k => baL_length hH hN k
  have hrl := fun l => rowBk_length hH hN l
  have Hcon := Lib.hid hcon; clear hcon
  have Hbl := Lib.hid hbl; clear hbl
  have Hrl := Lib.hid hrl; clear hrl
  go_enter Try.func33, Try.ntmps33
  go_wp2
  go_loopw [5, 6] (fun v i wr => ∃ (k : Nat) (a : Option Addr) (p c : Nat), k ≤ min H (N + 1) ∧ i = .int .i64 k ∧ v = .slice a p c ∧ BksOwn w.heap.size wr.heap.size wr a p c (baL H N k) ∧ Below w.heap.size w wr) (fun _ i _ => H - (intOf i).toNat)
  case atStart => exact ⟨0, none, 0, 0, Nat.zero_le _, rfl, rfl, by rw [baL_zero]; exact BksOwn.nil _ _ _, Below.refl _ _⟩
  case round =>
    obtain ⟨k, a, p, c, hk, rfl, rfl, hown, hb⟩ := hrel
    by_cases hlt : k < min H (N + 1)
    · have hkH : (k : Int) < H := by omega
      have hkN : (k : Int) ≤ N := by omega
      have hcon2 := Hcon.out k (by omega) wr
      have ecast : ((N - k : Nat) : Int) = (N : Int) - (k : Int) := by omega
      rw [ecast] at hcon2
      have hp0 := hown.length
      have hp1 := Hbl.out k
      have hst := baL_succ H N k
      have hrk := Hrl.out k
      have hry := getD_row (allF_row (N - k) (N - k) H)
      unfold rowBk at hst hrk
      rw [List.length_map] at hrk
      generalize allF (N - k) (N - k) H = R at *
      generalize hPX : baL H N k = PX at *
      have hk10 : k ≤ 10 := by omega
      have Hcon2 := Lib.hid hcon2; clear hcon2
      have Hst := Lib.hid hst; clear hst
      have Hrk := Lib.hid hrk; clear hrk
      have HPX := Lib.hid hPX; clear hPX
      have Hp0 := Lib.hid hp0; clear hp0
      have Hp1 := Lib.hid hp1; clear hp1
      have Ecast := Lib.hid ecast; clear ecast
      have Hry := Lib.hid hry; clear hry
      go_wp2_with fail
      with_reducible refine (Hcon2.out).mono ?_
      rintro e w1 ⟨a1, n1, c1, rfl, ho1, hb1⟩
      have hn1 := ho1.length
      have hown1 := hown.keep hb1
      have hbw := belowTrans hb hb1 (Nat.le_refl _)
      have hB1 := hb1.size
      have hB2 := hb.size
      have hn8 : n1 ≤ 3718 := by have := Hrk.out; omega
      have hp8 : p ≤ 37180 := by have := Hp0.out; have := Hp1.out; omega
      clear hown hb hb1
      have Hn1 := Lib.hid hn1; clear hn1
      obtain ⟨wi, hwi⟩ : ∃ wi : World, wi = wr := ⟨_, rfl⟩
      subst hwi
      obtain ⟨wo, hwo⟩ : ∃ wo : World, wo = w1 := ⟨_, rfl⟩
      subst hwo
      go_wp2_with fail
      go_loopw [5, 25] (fun v i wq => ∃ (j : Nat) (a : Option Addr) (q c : Nat), j ≤ n1 ∧ i = .int .i64 j ∧ v = .slice a q c ∧ q = p + j ∧ BksOwn w.heap.size wq.heap.size wq a q c (PX ++ (R.take j).map (fun p => (⟨(H : Int), (k : Int), p⟩ : Bk))) ∧ Below w.heap.size w wq ∧ OwnRows wi.heap.size wo.heap.size wq a1 n1 c1 R ∧ wo.heap.size ≤ wq.heap.size) (fun _ i _ => n1 - (intOf i).toNat)
      case atStart => exact ⟨0, a, p, c, Nat.zero_le _, rfl, rfl, rfl, by simpa using hown1.mono (Nat.le_refl _) hB1, hbw, ho1, Nat.le_refl _⟩
      case round =>
        obtain ⟨j, a2, p2, c2, hj, rfl, rfl, hq2, hoq, hbq, hrs, hsz⟩ := hrel
        clear hown1 hbw ho1
        have hp2' : p2 ≤ 40898 := by omega
        have Hq2 := Lib.hid hq2; clear hq2
        by_cases hlt2 : j < n1
        · obtain ⟨b, oo, rfl, hbl, hc⟩ := hrs.at.cell j hlt2
          obtain ⟨a3, m3, c3, hck, hi⟩ := hc j hlt2
          clear hc
          have hm3 : m3 ≤ 1048576 := by have := Hry.out j; rw [hi.length] at this; omega
          generalize hx : R.getD j [] = ys at hi
          have htk := rowBk_take H k R j ys (by have := Hn1.out; omega) hx
          have hl1 := fun W (q : IntsAt W a3 m3 c3 ys) => l1Own_any a3 m3 c3 ys W q hm3
          have Hx := Lib.hid hx; clear hx
          have Htk := Lib.hid htk; clear htk
          have Hl1 := Lib.hid hl1; clear hl1
          go_wp2_with fail
          with_reducible refine (Hl1.out _ hi).mono ?_
          rintro e w4 ⟨a4, c4, rfl, ho4, hb4⟩
          have hoq4 := hoq.keep hb4
          have hbq4 := belowTrans hbq hb4 (Nat.le_refl _)
          have hrs4 := hrs.keep hb4
          have hs4 := hb4.size
          have hsB := hbq.size
          clear hoq hck hi hb4 hrs hbq
          go_wp2_with (at_builtin; refine wpList_pushBk w4 rfl _ _ rfl w.heap.size wr.heap.size w4.heap.size a2 p2 c2 _ rfl hoq4 (H : Int) (k : Int) a4 m3 c4 ys ho4 hsB hs4 (Nat.le_refl _) rfl (by omega) ?_)
          intro a5 c5 w5 ho5 hc5
          have hb5 : Below w.heap.size w w5 := hbq4.trans (hoq4.chgBelow hc5 hbq4.size)
          have hrs5 := hrs4.chgBks hoq4 hc5
          have hsz5 : wo.heap.size ≤ w5.heap.size := by have := hc5.size; omega
          clear hoq4 hc5 ho4 hrs4 hbq4
          go_wp2
          go_roundw
          case rel => exact ⟨j + 1, a5, p2 + 1, c5, by omega, by go_num, rfl, by have := Hq2.out; omega, by rw [Htk.out]; simpa using ho5, hb5, hrs5, hsz5⟩
          case measure => simp [intOf] <;> omega
        · obtain rfl : n1 = j := by omega
          rw [List.take_of_length_le (by have := Hn1.out; omega), ← Hst.out] at hoq
          clear hrs
          go_wp2
          go_roundw
          case rel => exact ⟨k + 1, a2, p2, c2, by omega, by go_num, rfl, hoq, hbq⟩
          case measure => simp [intOf] <;> omega
    · have hk' : k = min H (N + 1) := by omega
      have hlast : BksOwn w.heap.size wr.heap.size wr a p c (baL H N (min H (N + 1))) := by rw [← hk']; exact hown
      clear hown
      by_cases hkH : k < H
      · have h1 : (k : Int) < H := by omega
        have h2 : ¬ (k : Int) ≤ N := by omega
        have Hk' := Lib.hid hk'; clear hk'
        have Hlast := Lib.hid hlast; clear hlast
        go_wp2
        go_ret
        exact ⟨_, _, _, rfl, Hlast.out, hb⟩
      · have h1 : ¬ (k : Int) < H := by omega
        have Hk' := Lib.hid hk'; clear hk'
        have Hlast := Lib.hid hlast; clear hlast
        go_wp2
        go_ret
        exact ⟨_, _, _, rfl, Hlast.out, hb⟩
end Go.Proofs.Ytbkihnejgcebpaa
