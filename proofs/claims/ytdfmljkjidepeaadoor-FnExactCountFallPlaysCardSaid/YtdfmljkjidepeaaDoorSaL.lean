/- Chapter 6 by the program: FallsOf, IsSettled, WeightOf, SettleSand, FallCounts, PlayFalls, FallGrain, SettledShape. No condition. -/
import Derived.Test.YtdfmljkjidepeaaDoorSaK
import Derived.Test.YtdfmljkjidepeaaDoorGh
namespace Go.Proofs.YtdfmljkjidepeaaDoor
open Go.RowKit
set_option linter.unusedVariables false
set_option linter.unusedSimpArgs false
set_option maxRecDepth 20000

theorem fallsV_at {xs : List Int} {k n : Nat} (hk : k < (fallsV xs n).length) : ∃ (b : Bool) (i : Nat), (fallsV xs n)[k]? = some (fallV b i) ∧ (fallsT xs n).getD k 0 = (i : Int) := by
  unfold fallsV fallsT at *
  rw [List.length_map] at hk
  refine ⟨decide ((fallsN xs n)[k] + 1 = xs.length), (fallsN xs n)[k], ?_, ?_⟩
  · rw [List.getElem?_map, List.getElem?_eq_getElem hk]; rfl
  · rw [List.getD_eq_getElem?_getD, List.getElem?_map, List.getElem?_eq_getElem hk]; rfl

theorem impl_SettleSand (ao : Option Addr) (n cap : Nat) (xs : List Int) (w : World) (h : IntsAt w ao n cap xs) :
    Calls Tryd.prog 11 #[.slice ao n cap] w fun e w' => ∃ ao' n' cap', e = .returned (.tuple #[.slice ao' n' cap', .bool (mSettleSand xs).2]) ∧ Own w.heap.size w'.heap.size w' ao' n' cap' (mSettleSand xs).1 ∧ Below w.heap.size w w' := by
  cases hg : sandB xs
  · have hm := mSettle_no hg
    have Hg := Lib.hid hg; clear hg
    have Hm := Lib.hid hm; clear hm
    go_enter Tryd.func11, Tryd.ntmps11
    go_wp2_with fail
    with_reducible refine (isSand_no _ _ _ _ _ h Hg.out).mono ?_
    rintro e w' ⟨rfl, rfl⟩
    go_wp2
    go_ret2
    rw [Hm.out]
    exact ⟨none, 0, 0, rfl, Own.nil _ _ _, Below.refl _ _⟩
  · have hm := mSettle_yes hg
    have hG := sand_iff.1 hg
    have hst := settled_any ao n cap xs w h hG.grains
    generalize settleL xs = S at *
    generalize countsL xs = C at *
    have Hg := Lib.hid hg; clear hg
    have Hm := Lib.hid hm; clear hm
    have HG := Lib.hid hG; clear hG
    have Hst := Lib.hid hst; clear hst
    go_enter Tryd.func11, Tryd.ntmps11
    go_wp2_with fail
    with_reducible refine (isSand_yes _ _ _ _ _ h HG.out).mono ?_
    rintro e w' ⟨rfl, rfl⟩
    go_wp2_with fail
    with_reducible refine (Hst.out).mono ?_
    rintro e w1 ⟨R, a1, n1, c1, a2, n2, c2, rfl, hs1, hb⟩
    go_wp2_with fail
    with_reducible refine (sandS_any _ _ _ _ _ _ _ _ _ _ _ _ hs1).mono ?_
    rintro e w2 ⟨a3, n3, c3, rfl, ho3, rfl⟩
    go_wp2
    go_ret2
    rw [Hm.out]
    exact ⟨_, _, _, rfl, ho3, hb⟩
theorem bump_ok {zs : List Int} {t i : Nat} (hl : zs.length ≤ 24) (hz : ∀ j, 0 ≤ zs.getD j 0 ∧ zs.getD j 0 ≤ t) (hi : i < 24) : (bump zs i).length ≤ 24 ∧ ∀ j, 0 ≤ (bump zs i).getD j 0 ∧ (bump zs i).getD j 0 ≤ ((t + 1 : Nat) : Int) := by
  refine ⟨by rw [bump_length]; omega, fun k => ?_⟩
  have hb := hz k
  have hbi := hz i
  unfold bump
  by_cases hk : k = i
  · subst hk
    rw [getD_set_eqM _ _ _ _ (by simp; omega), getD_pad]
    push_cast
    omega
  · rw [getD_set_neM _ _ _ _ _ (by omega), getD_pad]
    push_cast
    omega

end Go.Proofs.YtdfmljkjidepeaaDoor
