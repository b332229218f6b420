/- Chapter 1: AllPiles by the model. No condition. -/
import Derived.Test.YthppkfhhidlpiaaGa
import Derived.Test.YthppkfhhidlpiaaPastsB
import Derived.Test.YthppkfhhidlpiaaAppX
namespace Go.Proofs.Ythppkfhhidlpiaa
open Go.RowKit
set_option linter.unusedVariables false
set_option linter.unusedSimpArgs false

theorem mAllPiles_bound (n : Int) : (mAllPiles n).1.length ≤ 1048576 ∧ total (mAllPiles n).1 ≤ 1048576 := by
  unfold mAllPiles
  split
  · next h =>
    have h1 := allF_length 28 n.toNat n.toNat (by omega) (by omega) (by omega)
    have h2 := cnt_le n.toNat (by omega) n.toNat (by omega)
    have h3 := total_le (allL n.toNat) 28 (fun ys hy => Nat.le_trans (allF_row 28 n.toNat n.toNat ys hy) (by omega))
    have h4 : (allL n.toNat).length = cnt n.toNat n.toNat := h1
    exact ⟨by show (allL n.toNat).length ≤ _; omega, by show total (allL n.toNat) ≤ _; omega⟩
  · simp [total]

theorem own_one (w : World) (x : Int) : Own w.heap.size (w.heap.size + 1) (w.alloc (.cells #[.int .i64 x] 3)) (some ⟨w.heap.size, 0, none⟩) 1 1 [x] :=
  ⟨⟨rfl, .inr ⟨w.heap.size, 1, #[.int .i64 x], rfl, Nat.le_refl _, heap_alloc_new w _, Nat.le_refl _, by unfold maxLen; omega, rfl, rfl⟩⟩, fun g hg => by simp [Value.ownBlock] at hg; omega⟩

set_option maxHeartbeats 3200000 in
set_option maxRecDepth 100000 in
theorem piAll_any (f : Nat) : ∀ (n most : Nat) (w : World), n ≤ f → n ≤ 28 → most ≤ 28 →
    Calls Try.prog 143 #[.int .i64 n, .int .i64 most] w fun e w' => ∃ ao' n' cap', e = .returned (.slice ao' n' cap') ∧ OwnRows w.heap.size w'.heap.size w' ao' n' cap' (allF f n most) ∧ Below w.heap.size w w' := by
  induction f with
  | zero =>
    intro n most w h1 h2 h3
    obtain rfl : n = 0 := by omega
    have ho := OwnRows.one (w := w) (Own.nil w.heap.size (w.heap.size + 1) w) w.heap.size (Nat.le_refl _) (Nat.le_refl _) (Nat.le_refl _)
    go_enter Try.func143, Try.ntmps143
    go_wp2_with fail
    go_ret
    exact ⟨_, _, _, rfl, by simpa [allF] using ho, belowAlloc w _⟩
  | succ f ih =>
    intro n most w h1 h2 h3
    by_cases hn : n = 0
    · subst hn
      have ho := OwnRows.one (w := w) (Own.nil w.heap.size (w.heap.size + 1) w) w.heap.size (Nat.le_refl _) (Nat.le_refl _) (Nat.le_refl _)
      go_enter Try.func143, Try.ntmps143
      go_wp2_with fail
      go_ret
      exact ⟨_, _, _, rfl, by simpa [allF] using ho, belowAlloc w _⟩
    · have hne : ((n : Int) == 0) = false := by simp; omega
      have hmn : min (n : Int) (most : Int) = ((min n most : Nat) : Int) := by omega
      have hq : min n most ≤ n := Nat.min_le_left _ _
      have hlen := fun X => allPart_length f n most X hn h1 h2 h3
      have hend := allPart_end f n most hn
      have hstart := allPart_start f n (min n most)
      have hstep := fun X => allPart_step f n (min n most) X
      have hcon := l1Least_any (n : Int) (most : Int) w
      rw [hmn] at hcon
      generalize min n most = Q at *
      have Hmn := Lib.hid hmn; clear hmn
      have Hlen := Lib.hid hlen; clear hlen
      have Hend := Lib.hid hend; clear hend
      have Hstart := Lib.hid hstart; clear hstart
      have Hstep := Lib.hid hstep; clear hstep
      have Hcon := Lib.hid hcon; clear hcon
      have Ih := Lib.hid ih; clear ih
      go_enter Try.func143, Try.ntmps143
      go_wp2_with fail
      with_reducible refine (Hcon.out).mono ?_
      rintro e w' ⟨rfl, rfl⟩
      go_wp2_with fail
      go_loopw [5, 6] (fun v x wr => ∃ (X : Nat) (a : Option Addr) (p c : Nat), X ≤ Q ∧ x = .int .i64 X ∧ v = .slice a p c ∧ OwnRows w.heap.size wr.heap.size wr a p c (allPart f n Q X) ∧ Below w.heap.size w wr) (fun _ x _ => (intOf x).toNat)
      case atStart => exact ⟨Q, none, 0, 0, Nat.le_refl _, rfl, rfl, by rw [Hstart.out]; exact OwnRows.nil _ _ _, Below.refl _ _⟩
      case round =>
        obtain ⟨X, a, p, c, hX, rfl, rfl, hown, hb⟩ := hrel
        by_cases hlt : 1 ≤ X
        · have hcon2 := Ih.out (n - X) X wr (by omega) (by omega) (by omega)
          have ecast : ((n - X : Nat) : Int) = (n : Int) - (X : Int) := by omega
          rw [ecast] at hcon2
          have hst := Hstep.out X hlt hX
          have hrow := allF_row f (n - X) X
          have hlen2 := allF_length f (n - X) X (by omega) (by omega) (by omega)
          have hcl := cnt_le X (by omega) (n - X) (by omega)
          rw [← hlen2] at hcl
          have hpl := Hlen.out X
          have hpl1 := Hlen.out (X - 1)
          have hp0 := hown.length
          generalize allF f (n - X) X = R at *
          generalize hPX : allPart f n Q X = PX at *
          have hrl := getD_row hrow
          have Hcon2 := Lib.hid hcon2; clear hcon2
          have Ecast := Lib.hid ecast; clear ecast
          have Hst := Lib.hid hst; clear hst
          have Hrow := Lib.hid hrow; clear hrow
          have Hrl := Lib.hid hrl; clear hrl
          have HPX := Lib.hid hPX; clear hPX
          have Hpl1 := Lib.hid hpl1; clear hpl1
          have Hlen2 := Lib.hid hlen2; clear hlen2
          go_wp2_with fail
          with_reducible refine (Hcon2.out).mono ?_
          rintro e w1 ⟨a1, n1, c1, rfl, ho1, hb1⟩
          have hn1 := ho1.length
          have hown1 := hown.keep hb1
          have hbw := belowTrans hb hb1 (Nat.le_refl _)
          rw [hp0] at hpl
          rw [hn1] at hcl
          have Hn1 := Lib.hid hn1; clear hn1
          have Hp0 := Lib.hid hp0; clear hp0
          have hB1 := hb1.size
          have hB2 := hb.size
          have hsp : ∀ g, (Value.slice a p c).ownBlock = some g → g < wr.heap.size := by
            obtain ⟨vs, k1, _⟩ := hown
            exact fun g hg => k1.2 g hg
          clear hown hb hb1
          obtain ⟨wi, hwi⟩ : ∃ wi : World, wi = wr := ⟨_, rfl⟩
          subst hwi
          obtain ⟨wo, hwo⟩ : ∃ wo : World, wo = w1 := ⟨_, rfl⟩
          subst hwo
          have Hsp := Lib.hid hsp; clear hsp
          go_wp2_with fail
          go_loopw [5, 25] (fun v i wq => ∃ (j : Nat) (a : Option Addr) (p c : Nat), j ≤ n1 ∧ i = .int .i64 j ∧ v = .slice a p c ∧ OwnRows w.heap.size wq.heap.size wq a p c (PX ++ (R.take j).map ((X : Int) :: ·)) ∧ Below w.heap.size w wq ∧ OwnRows wi.heap.size wo.heap.size wq a1 n1 c1 R ∧ wo.heap.size ≤ wq.heap.size ∧ Hid (∀ g, (Value.slice a p c).ownBlock = some g → g < wi.heap.size ∨ wo.heap.size ≤ g)) (fun _ i _ => n1 - (intOf i).toNat)
          case atStart => exact ⟨0, a, p, c, Nat.zero_le _, rfl, rfl, by simpa using hown1.mono (Nat.le_refl _) hB1, hbw, ho1, Nat.le_refl _, Lib.hid (fun g hg => .inl (Hsp.out g hg))⟩
          case round =>
            obtain ⟨j, a2, p2, c2, hj, rfl, rfl, hoq, hbq, hrs, hsz, hsep⟩ := hrel
            clear hown1 hbw ho1
            have hp2 := hoq.length
            simp only [List.length_append, List.length_map, List.length_take] at hp2
            have hp2' : p2 ≤ 7436 := by have := Hp0.out; omega
            have Hp2 := Lib.hid hp2; clear hp2
            by_cases hlt2 : j < n1
            · obtain ⟨b, oo, rfl, hbl, hc⟩ := hrs.at.cell j hlt2
              obtain ⟨a3, m3, c3, hck, hi⟩ := hc j hlt2
              clear hc
              have hm3 := Hrl.out j
              rw [hi.length] at hm3
              generalize hx : R.getD j [] = ys at hi
              have ho1 := own_one wr (X : Int)
              have hbx := belowAlloc wr (.cells #[.int .i64 (X : Int)] 3)
              have hi1 := hi.keep hbx
              have Hx := Lib.hid hx; clear hx
              go_wp2_with (at_builtin; refine wpList_cat _ rfl _ _ rfl wr.heap.size _ _ 1 1 [(X : Int)] rfl ho1 a3 m3 c3 ys rfl hi1 (by omega) (by simp) ?_)
              intro a4 c4 w4 ho4 hc4
              have hb4 : Below wr.heap.size wr w4 := hbx.trans (ho1.chgBelow hc4 (by simp))
              have hoq4 := hoq.keep hb4
              have hbq4 := belowTrans hbq hb4 (Nat.le_refl _)
              have hrs4 := hrs.keep hb4
              have hs4 := hb4.size
              have htk := take_snocR Hx.out hlt2 (show R.length = n1 by have := Hn1.out; omega)
              have Htk := Lib.hid htk; clear htk
              clear hoq hck hi hi1 hc4 hbx ho1 hrs
              go_wp2_with (at_builtin; refine wpList_pushRX w4 rfl _ _ rfl w.heap.size wr.heap.size a2 p2 c2 _ rfl hoq4 hs4 a4 (1 + m3) c4 wr.heap.size _ ho4 hbq.size ho4.ge rfl (by omega) hbq4.size ?_)
              intro a5 c5 w5 ho5 hc5 hnew
              have hb5 : Below w.heap.size w w5 := hbq4.trans (hoq4.chgBelow hc5 hbq4.size)
              have hrs5 : OwnRows wi.heap.size wo.heap.size w5 _ n1 c1 R := hrs4.chg hc5 fun g g1 g2 hg => by
                have := hsep.out g hg; omega
              have hsep5 := Lib.hid (show ∀ g, (Value.slice a5 (p2 + 1) c5).ownBlock = some g → g < wi.heap.size ∨ wo.heap.size ≤ g from fun g hg => by
                rcases hnew g hg with h' | h'
                · exact hsep.out g h'
                · exact .inr (by omega))
              have hsz5 : wo.heap.size ≤ w5.heap.size := by have := hc5.size; omega
              clear hoq4 hc5 ho4 hb4 hrs4 hnew
              go_wp2
              go_roundw
              case rel => exact ⟨j + 1, a5, p2 + 1, c5, by omega, by go_num, rfl, by rw [Htk.out, List.map_append]; simpa using ho5, hb5, hrs5, hsz5, hsep5⟩
              case measure => simp [intOf] <;> omega
            · obtain rfl : n1 = j := by omega
              rw [List.take_of_length_le (by have := Hn1.out; omega), ← Hst.out] at hoq
              clear hrs
              go_wp2
              go_roundw
              case rel => exact ⟨X - 1, a2, p2, c2, by omega, valI (by omega), rfl, hoq, hbq⟩
              case measure => simp [intOf] <;> omega
        · obtain rfl : X = 0 := by omega
          rw [Hend.out] at hown
          go_wp2
          go_ret
          exact ⟨_, _, _, rfl, hown, hb⟩

end Go.Proofs.Ythppkfhhidlpiaa
