/- The draws of chapter 4's laws, second part: steps back. No condition but sizes. -/
import Derived.Test.YtmfdimdcoeapoaaGreatGd
namespace Go.Proofs.YtmfdimdcoeapoaaGreat
open Go.RowKit
set_option linter.unusedVariables false
set_option linter.unusedSimpArgs false

/-! ### Steps back -/
theorem back_any (w : World) (g A : Nat) (h : Cur w g A) (hA : A ≤ 800000000) :
    Calls Tryz.prog 18 #[.pointer (some ⟨g, 0, none⟩)] w fun e w' => ∃ r : Int, e = .returned (.int .i64 r) ∧ -1 ≤ r ∧ r ≤ 100 ∧ Cur w' g (A + 4) ∧ Chg (fun k => k = g) w w' := by
  have hone := one_any 10 w g A h (by omega) (by omega) (by omega)
  rw [show ((10 : Nat) : Int) = 10 from rfl] at hone
  have hp := fun W hW => pick_any 7 W g (A + 2) hW (by omega) (by omega) (by omega)
  simp only [show ((7 : Nat) : Int) = 7 from rfl] at hp
  have Hone := Lib.hid hone; clear hone
  have Hp := Lib.hid hp; clear hp
  go_enter Tryz.func18, Tryz.ntmps18
  go_wp2_with fail
  with_reducible refine (Hone.out).mono ?_
  rintro e w1 ⟨t, rfl, hc, hg⟩
  cases t
  · go_wp2_with fail
    with_reducible refine (Hp.out w1 hc).mono ?_
    rintro e w2 ⟨b, hb, rfl, hc2, hg2⟩
    go_wp2
    go_ret
    exact ⟨_, rfl, by omega, by omega, hc2, hg.trans hg2⟩
  · have hlt := hc.lt
    have ha := among_any 4 4 _ _ _ g _ (intsAt_new w1 [-1, 0, 60, 61] (by simp [maxLen])) (fun b o e => by cases e; omega) (hc.keep ((Below.refl _ _).alloc (Nat.le_refl _) _)) (by omega) (by omega) (by omega)
    simp only [List.map_cons, List.map_nil] at ha
    have Ha := Lib.hid ha; clear ha
    go_wp2_with fail
    with_reducible refine (Ha.out).mono ?_
    rintro e w5 ⟨i, hi, rfl, hc5, hg5⟩
    have hmem := mem_of_getD (xs := [-1, 0, 60, 61]) (i := i) (by simpa using hi)
    generalize ([-1, 0, 60, 61] : List Int).getD i 0 = x at hmem ⊢
    have hx : -1 ≤ x ∧ x ≤ 100 := by simp at hmem; omega
    clear hmem Ha
    go_wp2
    go_ret
    exact ⟨_, rfl, hx.1, hx.2, hc5, hg.trans hg5.allocFirst⟩
set_option maxHeartbeats 800000 in
theorem DrawCountAt_any (ac : Option Addr) (nc cc : Nat) (w : World) (hnc : nc ≤ 1048576) (hby : ByteIn w w.heap.size ac nc) :
    Calls Tryz.prog 9 #[.slice ac nc cc] w fun e w' => ∃ ao n cap xs, ∃ k : Int, e = .returned (.tuple #[.slice ao n cap, .int .i64 k]) ∧ Own w.heap.size w'.heap.size w' ao n cap xs ∧ Near xs ∧ -1 ≤ k ∧ k ≤ 100 ∧ Below w.heap.size w w' := by
  have hany := anyPiles_any 14 _ _ 0 (cur_new w ac nc cc hnc hby) (by omega) (by omega)
  rw [show ((14 : Nat) : Int) = 14 from rfl] at hany
  have hbk := fun W A (hW : Cur W w.heap.size A) (hA : A ≤ 800000000) => back_any W w.heap.size A hW hA
  have Hany := Lib.hid hany; clear hany
  have Hbk := Lib.hid hbk; clear hbk
  have Hby := Lib.hid hby; clear hby
  go_enter Tryz.func9, Tryz.ntmps9
  go_wp2_with fail
  with_reducible refine (Hany.out).mono ?_
  rintro e w1 ⟨a, n, c, xs, rfl, ho, hn, hc1, hg1⟩
  have hlt := hc1.lt
  have ho1 : Own w.heap.size w1.heap.size w1 a n c xs := ho.mono (curSize _ _) (Nat.le_refl _)
  have hoB : ∀ W, Chg (fun k => k = w.heap.size) w1 W → Own w.heap.size W.heap.size W a n c xs := fun W hW => (ho.chg hW (fun j h1 _ _ e => by rw [e] at h1; simp at h1; omega)).mono (curSize _ _) hW.size
  clear ho ho1
  have HoB := Lib.hid hoB; clear hoB
  go_wp2_with fail
  with_reducible refine (Hbk.out _ _ hc1 (by omega)).mono ?_
  rintro e w2 ⟨k, rfl, hk1, hk2, hc2, hg2⟩
  go_wp2_with fail
  go_ret2
  exact ⟨_, _, _, _, _, rfl, HoB.out _ hg2, hn, hk1, hk2, (hg1.trans hg2).drawn⟩
set_option maxHeartbeats 800000 in
theorem DrawPastsAt_any (ac : Option Addr) (nc cc : Nat) (w : World) (hnc : nc ≤ 1048576) (hby : ByteIn w w.heap.size ac nc) :
    Calls Tryz.prog 5 #[.slice ac nc cc] w fun e w' => ∃ ao n cap xs, ∃ k : Int, e = .returned (.tuple #[.slice ao n cap, .int .i64 k]) ∧ Own w.heap.size w'.heap.size w' ao n cap xs ∧ Near xs ∧ -1 ≤ k ∧ k ≤ 100 ∧ Below w.heap.size w w' := by
  have hone := one_any 2 _ _ 0 (cur_new w ac nc cc hnc hby) (by omega) (by omega) (by omega)
  rw [show ((2 : Nat) : Int) = 2 from rfl] at hone
  have hany := fun W hW => anyPiles_any 14 W w.heap.size 2 hW (by omega) (by omega)
  simp only [show ((14 : Nat) : Int) = 14 from rfl] at hany
  have hcyc := fun W hW => cyclicN_any W w.heap.size 2 hW (by omega)
  have hbk := fun W A (hW : Cur W w.heap.size A) (hA : A ≤ 800000000) => back_any W w.heap.size A hW hA
  have Hone := Lib.hid hone; clear hone
  have Hany := Lib.hid hany; clear hany
  have Hcyc := Lib.hid hcyc; clear hcyc
  have Hbk := Lib.hid hbk; clear hbk
  have Hby := Lib.hid hby; clear hby
  go_enter Tryz.func5, Tryz.ntmps5
  go_wp2_with fail
  with_reducible refine (Hone.out).mono ?_
  rintro e w1 ⟨t, rfl, hc1, hg1⟩
  have hlt := hc1.lt
  cases t
  · go_wp2_with fail
    with_reducible refine (Hany.out _ hc1).mono ?_
    rintro e w2 ⟨a, n, c, xs, rfl, ho, hn, hc2, hg2⟩
    have hoB : ∀ W, Chg (fun k => k = w.heap.size) w2 W → Own w.heap.size W.heap.size W a n c xs := fun W hW => (ho.chg hW (fun j h1 _ _ e => by omega)).mono (by omega) hW.size
    clear ho
    have HoB := Lib.hid hoB; clear hoB
    go_wp2_with fail
    with_reducible refine (Hbk.out _ _ hc2 (by omega)).mono ?_
    rintro e w3 ⟨k, rfl, hk1, hk2, hc3, hg3⟩
    go_wp2_with fail
    go_ret2
    exact ⟨_, _, _, _, _, rfl, HoB.out _ hg3, hn, hk1, hk2, ((hg1.trans hg2).trans hg3).drawn⟩
  · go_wp2_with fail
    with_reducible refine (Hcyc.out _ hc1).mono ?_
    rintro e w2 ⟨a, n, c, xs, rfl, ho, hn, hc2, hg2⟩
    have hoB : ∀ W, Chg (fun k => k = w.heap.size) w2 W → Own w.heap.size W.heap.size W a n c xs := fun W hW => (ho.chg hW (fun j h1 _ _ e => by omega)).mono (by omega) hW.size
    clear ho
    have HoB := Lib.hid hoB; clear hoB
    go_wp2_with fail
    with_reducible refine (Hbk.out _ _ hc2 (by omega)).mono ?_
    rintro e w3 ⟨k, rfl, hk1, hk2, hc3, hg3⟩
    go_wp2_with fail
    go_ret2
    exact ⟨_, _, _, _, _, rfl, HoB.out _ hg3, hn, hk1, hk2, ((hg1.trans hg2).trans hg3).drawn⟩
end Go.Proofs.YtmfdimdcoeapoaaGreat
