/- AllBanks by the program. No condition. -/
import Derived.Test.YtnebfojnbjbogaaGreatDoorBbS
import Derived.Test.YtnebfojnbjbogaaGreatDoorGc
import Derived.Test.YtnebfojnbjbogaaGreatDoorGf
import Derived.Test.YtnebfojnbjbogaaGreatDoorAllI
import Derived.Lib.MinMax
namespace Go.Proofs.YtnebfojnbjbogaaGreatDoor
open Go.RowKit
set_option linter.unusedVariables false
set_option linter.unusedSimpArgs false
set_option maxRecDepth 20000

def mkBk (H k : Nat) (p : List Int) : Bk := ⟨(H : Int), (k : Int), p⟩
def keptF (H k : Nat) (R : List (List Int)) (j : Nat) : List Bk := ((R.take j).map (mkBk H k)).filter bankB
theorem keptF_zero (H k : Nat) (R : List (List Int)) : keptF H k R 0 = [] := rfl
theorem keptF_length (H k : Nat) (R : List (List Int)) (j : Nat) : (keptF H k R j).length ≤ j := by
  unfold keptF
  have h1 := List.length_filter_le bankB ((R.take j).map (mkBk H k))
  rw [List.length_map, List.length_take] at h1
  omega
theorem take_row {R : List (List Int)} {j : Nat} {ys : List Int} (hj : j < R.length) (hy : R.getD j [] = ys) : R.take (j + 1) = R.take j ++ [ys] := by
  rw [List.take_add_one, List.getElem?_eq_getElem hj]
  rw [List.getD_eq_getElem?_getD, List.getElem?_eq_getElem hj] at hy
  simp at hy
  simp [hy]
theorem keptF_yes (H k : Nat) {R : List (List Int)} {j : Nat} {ys : List Int} (hj : j < R.length) (hy : R.getD j [] = ys) (hb : bankB ⟨(H : Int), (k : Int), ys⟩ = true) : keptF H k R (j + 1) = keptF H k R j ++ [⟨(H : Int), (k : Int), ys⟩] := by
  unfold keptF
  rw [take_row hj hy, List.map_append, List.filter_append, List.map_cons, List.map_nil, List.filter_cons_of_pos (by exact hb)]
  rfl
theorem keptF_no (H k : Nat) {R : List (List Int)} {j : Nat} {ys : List Int} (hj : j < R.length) (hy : R.getD j [] = ys) (hb : bankB ⟨(H : Int), (k : Int), ys⟩ = false) : keptF H k R (j + 1) = keptF H k R j := by
  unfold keptF
  rw [take_row hj hy, List.map_append, List.filter_append, List.map_cons, List.map_nil, List.filter_cons_of_neg (by show ¬ (bankB ⟨(H : Int), (k : Int), ys⟩ = true); rw [hb]; decide)]
  simp
theorem keptF_all (H k : Nat) (R : List (List Int)) : keptF H k R R.length = (R.map (mkBk H k)).filter bankB := by
  unfold keptF; rw [List.take_length]

set_option maxHeartbeats 3200000 in
set_option maxRecDepth 100000 in
theorem impl_AllBanks (h n : Int) (w : World) :
    Calls Tryz.prog 12 #[.int .i64 h, .int .i64 n] w fun e w' => ∃ ao m cap, e = .returned (.tuple #[.slice ao m cap, .bool (mAllBanks h n).2]) ∧ BksOwn w.heap.size w'.heap.size w' ao m cap (mAllBanks h n).1 ∧ Below w.heap.size w w' := by
  by_cases hh : 1 ≤ h ∧ h ≤ 10
  · by_cases hn : 0 ≤ n ∧ n ≤ 14
    · obtain ⟨H, rfl⟩ := Int.eq_ofNat_of_zero_le (show 0 ≤ h by omega)
      obtain ⟨N, rfl⟩ := Int.eq_ofNat_of_zero_le hn.1
      have hH : H ≤ 10 := by omega
      have hN : N ≤ 14 := by omega
      have hm := mAllBanks_yes H N ⟨hh, hn⟩
      have hbl := fun k => baL_length hH hN k
      have hmn : min (H : Int) ((N : Int) + 1) = ((min H (N + 1) : Nat) : Int) := by omega
      have hK1 : min H (N + 1) ≤ H := by omega
      have hK2 : min H (N + 1) ≤ N + 1 := by omega
      generalize min H (N + 1) = K at *
      have h1 := isHeight_yes (H : Int) w hh
      have h2 := inRange_yes (N : Int) 14 w hn
      have Hmn := Lib.hid hmn; clear hmn
      have Hm := Lib.hid hm; clear hm
      have H1 := Lib.hid h1; clear h1
      have H2 := Lib.hid h2; clear h2
      have Hh := Lib.hid hh; clear hh
      have Hn := Lib.hid hn; clear hn
      have Hbl := Lib.hid hbl; clear hbl
      go_enter Tryz.func12, Tryz.ntmps12
      go_wp2_with fail
      with_reducible refine ((H1.out)).mono ?_
      rintro e w' ⟨rfl, rfl⟩
      go_wp2_with fail
      with_reducible refine ((H2.out)).mono ?_
      rintro e w' ⟨rfl, rfl⟩
      go_wp2_with fail
      rw [Hmn.out]
      go_loopw [6, 25] (fun v i wr => ∃ (k : Nat) (a : Option Addr) (p c : Nat), k ≤ K ∧ i = .int .i64 k ∧ v = .slice a p c ∧ BksOwn w.heap.size wr.heap.size wr a p c (baL H N k) ∧ Below w.heap.size w wr) (fun _ i _ => H - (intOf i).toNat)
      case atStart => exact ⟨0, none, 0, 0, Nat.zero_le _, rfl, rfl, by rw [baL_zero]; exact BksOwn.nil _ _ _, Below.refl _ _⟩
      case round =>
        obtain ⟨k, a, p, c, hk, rfl, rfl, hown, hb⟩ := hrel
        by_cases hlt : k < K
        · have hcon2 := impl_AllPiles ((N - k : Nat) : Int) wr
          rw [mAll_yes (N - k) (by omega)] at hcon2
          have ecast : ((N - k : Nat) : Int) = (N : Int) - (k : Int) := by omega
          rw [ecast] at hcon2
          have hp0 := hown.length
          have hp1 := Hbl.out k
          have hst := baL_succ H N k
          rw [← kept_row (H := H) (N := N) (l := k) (by have := Hh.out; omega) hN (by omega) (by omega)] at hst
          have hrl : (allL (N - k)).length ≤ 3718 := by
            rw [allL_length (by omega)]
            have := cnt_le (N - k) (by omega) (N - k) (by omega)
            omega
          have hry : ∀ j, ((allL (N - k)).getD j []).length ≤ 28 := fun j => by
            by_cases hj : j < (allL (N - k)).length
            · have hmem : (allL (N - k)).getD j [] ∈ allL (N - k) := by
                rw [List.getD_eq_getElem?_getD, List.getElem?_eq_getElem hj]
                exact List.getElem_mem _
              exact (allL_good (by omega) hmem).1.len
            · rw [List.getD_eq_getElem?_getD, List.getElem?_eq_none (by omega)]
              simp
          generalize allL (N - k) = R at *
          generalize hPX : baL H N k = PX at *
          have hk10 : k ≤ 10 := by omega
          have Hcon2 := Lib.hid hcon2; clear hcon2
          have Hst := Lib.hid hst; clear hst
          have Hrl := Lib.hid hrl; clear hrl
          have HPX := Lib.hid hPX; clear hPX
          have Hp0 := Lib.hid hp0; clear hp0
          have Hp1 := Lib.hid hp1; clear hp1
          have Ecast := Lib.hid ecast; clear ecast
          have Hry := Lib.hid hry; clear hry
          go_wp2_with fail
          with_reducible refine (Hcon2.out).mono ?_
          rintro e w1 ⟨a1, n1, c1, rfl, ho1, hb1⟩
          have hn1 := ho1.length
          have hown1 := hown.keep hb1
          have hbw := belowTrans hb hb1 (Nat.le_refl _)
          have hB1 := hb1.size
          have hB2 := hb.size
          have hn8 : n1 ≤ 3718 := by have := Hrl.out; omega
          have hp8 : p ≤ 37180 := by have := Hp0.out; have := Hp1.out; omega
          obtain ⟨us, hro⟩ := ho1.named
          have hfr := BksR.first hown1 hro hB1
          clear hown hb hb1 ho1 hown1
          have Hn1 := Lib.hid hn1; clear hn1
          have Hfr := Lib.hid hfr; clear hfr
          obtain ⟨wi, hwi⟩ : ∃ wi : World, wi = wr := ⟨_, rfl⟩
          subst hwi
          obtain ⟨wo, hwo⟩ : ∃ wo : World, wo = w1 := ⟨_, rfl⟩
          subst hwo
          go_wp2_with fail
          go_loopw [6, 37] (fun v i wq => ∃ (j : Nat) (a : Option Addr) (q c : Nat), j ≤ n1 ∧ i = .int .i64 j ∧ v = .slice a q c ∧ q ≤ p + j ∧ Hid (BksR w.heap.size w.heap.size wq.heap.size wq a q c (PX ++ keptF H k R j) us j n1) ∧ Below w.heap.size w wq ∧ Hid (RowsN wi.heap.size wo.heap.size wq a1 n1 c1 us R) ∧ wo.heap.size ≤ wq.heap.size) (fun _ i _ => n1 - (intOf i).toNat)
          case atStart => exact ⟨0, a, p, c, Nat.zero_le _, rfl, rfl, by omega, Lib.hid (by rw [keptF_zero, List.append_nil]; exact Hfr.out), hbw, Lib.hid hro, Nat.le_refl _⟩
          case round =>
            obtain ⟨j, a2, p2, c2, hj, rfl, rfl, hq2, Hoq, hbq, Hrs, hsz⟩ := hrel
            clear hbw hro
            have hp2' : p2 ≤ 40898 := by omega
            have hsB := hbq.size
            have Hq2 := Lib.hid hq2; clear hq2
            by_cases hlt2 : j < n1
            · obtain ⟨b, a3, m3, c3, rfl, hbl3, hus, hck, hi⟩ := Hrs.out.cell j hlt2
              have hm3 : m3 ≤ 28 := by have := Hry.out j; rw [hi.length] at this; omega
              generalize hx : R.getD j [] = ys at hi
              have hjr : j < R.length := by have := Hn1.out; omega
              obtain ⟨wv, hwv⟩ : ∃ wv : World, wv = wr.alloc (.cells #[.int .i64 (H : Int), .int .i64 (k : Int), .slice a3 m3 c3] 32) := ⟨_, rfl⟩
              have hba := belowAlloc wr (.cells #[.int .i64 (H : Int), .int .i64 (k : Int), .slice a3 m3 c3] 32)
              have kb := Blk.new wr (H : Int) (k : Int) a3 m3 c3 32
              have hib := hi.keep hba
              have hsq : (wr.alloc (.cells #[.int .i64 (H : Int), .int .i64 (k : Int), .slice a3 m3 c3] 32)).heap.size = wr.heap.size + 1 := by simp
              have hoq4 := Hoq.out.keep hba
              have hro4 := Hrs.out.keep hba
              have hbq4 := belowTrans hbq hba (Nat.le_refl _)
              have hcb := isBank_any (H : Int) (k : Int) a3 m3 c3 ys (wr.alloc (.cells #[.int .i64 (H : Int), .int .i64 (k : Int), .slice a3 m3 c3] 32)) hib.at
              unfold bankV at hcb
              by_cases hbk : bankB ⟨(H : Int), (k : Int), ys⟩ = true
              · rw [hbk] at hcb
                have hky := keptF_yes H k hjr hx hbk
                obtain ⟨⟨u0, u1, u2⟩, v0, v1, v2⟩ := kb.cells
                clear Hoq Hrs hbq hi hwv
                have Hx := Lib.hid hx; clear hx
                have Hjr := Lib.hid hjr; clear hjr
                have Hus := Lib.hid hus; clear hus
                have Hib := Lib.hid hib; clear hib
                have Hoq4 := Lib.hid hoq4; clear hoq4
                have Hro4 := Lib.hid hro4; clear hro4
                have Hbq4 := Lib.hid hbq4; clear hbq4
                have Hcb := Lib.hid hcb; clear hcb
                have Hbk := Lib.hid hbk; clear hbk
                have Hky := Lib.hid hky; clear hky
                have Kb := Lib.hid kb; clear kb
                have Hba := Lib.hid hba; clear hba
                have Hsq := Lib.hid hsq; clear hsq
                go_wp2_with fail
                with_reducible refine (Hcb.out).mono ?_
                rintro e w4 ⟨rfl, hb4⟩
                have hoq5 := Hoq4.out.keep hb4
                have hro5 := Hro4.out.keep hb4
                have hbq5 := belowTrans Hbq4.out hb4 (Nat.le_refl _)
                have hi5 := Hib.out.keep hb4
                have k5 := Kb.out.keep hb4
                obtain ⟨⟨u0, u1, u2⟩, v0, v1, v2⟩ := k5.cells
                have hs5 : wr.heap.size + 1 ≤ w4.heap.size := by have := hb4.size; rw [Hsq.out] at this; exact this
                have hs6 : w.heap.size ≤ wr.heap.size := hsB
                clear u0 u1 u2 v0 v1 v2
                obtain ⟨⟨u0, u1, u2⟩, v0, v1, v2⟩ := k5.cells
                have Hb4 := Lib.hid hb4; clear hb4
                have K5 := Lib.hid k5; clear k5
                go_wp2_with (at_builtin; refine wpList_pushBR w4 rfl _ _ rfl w.heap.size w.heap.size wi.heap.size wr.heap.size wo.heap.size a2 p2 c2 _ us n1 j rfl hoq5 hro5.apart hlt2 (H : Int) (k : Int) a3 m3 c3 ys Hus.out hi5 hB2 hsz (by omega) hs6 rfl (by omega) ?_)
                intro a5 c5 w5 ho5 hc5
                obtain ⟨vs5, hv5⟩ := hoq5.row3
                have hr5 := hro5.chg3 hv5 hc5
                have hb5 : Below w.heap.size w w5 := hbq5.trans (hoq5.chgBelow hc5 hbq5.size)
                have hsz5 : wo.heap.size ≤ w5.heap.size := by have := hc5.size; omega
                clear hoq5 hc5 hi5 hro5 hbq5 hv5
                have Ho5 := Lib.hid ho5; clear ho5
                have Hr5 := Lib.hid hr5; clear hr5
                go_wp2
                go_roundw
                case rel => exact ⟨j + 1, a5, p2 + 1, c5, by omega, by go_num, rfl, by have := Hq2.out; omega, Lib.hid (by rw [Hky.out]; simpa [List.append_assoc] using Ho5.out), hb5, Hr5, hsz5⟩
                case measure => simp [intOf] <;> omega
              · have hbk' : bankB ⟨(H : Int), (k : Int), ys⟩ = false := by simpa using hbk
                rw [hbk'] at hcb
                have hky := keptF_no H k hjr hx hbk'
                obtain ⟨⟨u0, u1, u2⟩, v0, v1, v2⟩ := kb.cells
                clear Hoq Hrs hbq hi hwv hbk
                have Hx := Lib.hid hx; clear hx
                have Hjr := Lib.hid hjr; clear hjr
                have Hus := Lib.hid hus; clear hus
                have Hib := Lib.hid hib; clear hib
                have Hoq4 := Lib.hid hoq4; clear hoq4
                have Hro4 := Lib.hid hro4; clear hro4
                have Hbq4 := Lib.hid hbq4; clear hbq4
                have Hcb := Lib.hid hcb; clear hcb
                have Hbk' := Lib.hid hbk'; clear hbk'
                have Hky := Lib.hid hky; clear hky
                have Kb := Lib.hid kb; clear kb
                have Hba := Lib.hid hba; clear hba
                have Hsq := Lib.hid hsq; clear hsq
                go_wp2_with fail
                with_reducible refine (Hcb.out).mono ?_
                rintro e w4 ⟨rfl, hb4⟩
                have hoq5 := (Hoq4.out.keep hb4).skip
                have hro5 := Hro4.out.keep hb4
                have hbq5 := belowTrans Hbq4.out hb4 (Nat.le_refl _)
                have hs5 : wr.heap.size + 1 ≤ w4.heap.size := by have := hb4.size; rw [Hsq.out] at this; exact this
                have hoq6 := hoq5.mono (E' := w4.heap.size) (by omega)
                clear hoq5
                have Hb4 := Lib.hid hb4; clear hb4
                have Hoq6 := Lib.hid hoq6; clear hoq6
                have Hro5 := Lib.hid hro5; clear hro5
                go_wp2
                go_roundw
                case rel => exact ⟨j + 1, a2, p2, c2, by omega, by go_num, rfl, by have := Hq2.out; omega, Lib.hid (by rw [Hky.out]; exact Hoq6.out), hbq5, Hro5, by omega⟩
                case measure => simp [intOf] <;> omega
            · obtain rfl : n1 = j := by omega
              have hoq := Hoq.out.own (Nat.le_refl _)
              rw [show keptF H k R n1 = (R.map (mkBk H k)).filter bankB by rw [← Hn1.out]; exact keptF_all H k R] at hoq
              have hoq2 : BksOwn w.heap.size wr.heap.size wr a2 p2 c2 (baL H N (k + 1)) := by rw [Hst.out]; exact hoq
              clear Hrs Hoq hoq
              go_wp2
              go_roundw
              case rel => exact ⟨k + 1, a2, p2, c2, by omega, by go_num, rfl, hoq2, hbq⟩
              case measure => simp [intOf] <;> omega
        · obtain rfl : k = K := by omega
          go_wp2
          go_ret2
          rw [Hm.out]
          exact ⟨_, _, _, rfl, hown, hb⟩
    · have hm := mAllBanks_no h n (fun q => hn q.2)
      have h1 := isHeight_yes h w hh
      have h2 := inRange_no n 14 w hn
      have Hm := Lib.hid hm; clear hm
      have H1 := Lib.hid h1; clear h1
      have H2 := Lib.hid h2; clear h2
      have Hh := Lib.hid hh; clear hh
      have Hn := Lib.hid hn; clear hn
      go_enter Tryz.func12, Tryz.ntmps12
      go_wp2_with fail
      with_reducible refine ((H1.out)).mono ?_
      rintro e w' ⟨rfl, rfl⟩
      go_wp2_with fail
      with_reducible refine ((H2.out)).mono ?_
      rintro e w' ⟨rfl, rfl⟩
      go_wp2
      go_ret2
      rw [Hm.out]
      exact ⟨none, 0, 0, rfl, BksOwn.nil _ _ _, Below.refl _ _⟩
  · have hm := mAllBanks_no h n (fun q => hh q.1)
    have h1 := isHeight_no h w hh
    have Hm := Lib.hid hm; clear hm
    have H1 := Lib.hid h1; clear h1
    have Hh := Lib.hid hh; clear hh
    go_enter Tryz.func12, Tryz.ntmps12
    go_wp2_with fail
    with_reducible refine ((H1.out)).mono ?_
    rintro e w' ⟨rfl, rfl⟩
    go_wp2
    go_ret2
    rw [Hm.out]
    exact ⟨none, 0, 0, rfl, BksOwn.nil _ _ _, Below.refl _ _⟩
end Go.Proofs.YtnebfojnbjbogaaGreatDoor
