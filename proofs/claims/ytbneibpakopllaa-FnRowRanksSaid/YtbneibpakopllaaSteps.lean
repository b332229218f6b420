/- Chapter 1: StepPiles, StepsFrom, PlayOf, by the model and by the program. No condition. -/
import Derived.Test.YtbneibpakopllaaStep
import Derived.Test.YtbneibpakopllaaHelp
namespace Go.Proofs.Ytbneibpakopllaa
open Go.RowKit
set_option linter.unusedVariables false
set_option maxRecDepth 20000
set_option linter.unusedSimpArgs false

theorem stepsL_add (k : Nat) (xs : List Int) : stepsL (k + 1) xs = stepL (stepsL k xs) := rfl
def mStepPiles (xs : List Int) : List Int × Bool := (if goodB xs then stepL xs else [], goodB xs)
theorem mStep_yes {xs : List Int} (h : goodB xs = true) : mStepPiles xs = (stepL xs, true) := by unfold mStepPiles; rw [h]; rfl
theorem mStep_no {xs : List Int} (h : goodB xs = false) : mStepPiles xs = ([], false) := by unfold mStepPiles; rw [h]; rfl
theorem mStepPiles_bound (xs : List Int) : (mStepPiles xs).1.length ≤ 1048576 := by
  cases h : goodB xs
  · rw [mStep_no h]; simp
  · rw [mStep_yes h]; have := (stepL_good (good_iff.1 h)).len; show (stepL xs).length ≤ _; omega
def mStepsFrom (xs : List Int) (k : Int) : List Int × Bool := if goodB xs = true ∧ 0 ≤ k ∧ k ≤ 1000 then (stepsL k.toNat xs, true) else ([], false)
theorem mSteps_yes {xs : List Int} {k : Nat} (h : goodB xs = true) (hk : k ≤ 1000) : mStepsFrom xs k = (stepsL k xs, true) := by unfold mStepsFrom; rw [if_pos ⟨h, by omega, by omega⟩]; rfl
theorem mSteps_no1 {xs : List Int} {k : Int} (h : goodB xs = false) : mStepsFrom xs k = ([], false) := by unfold mStepsFrom; rw [if_neg (by rw [h]; simp)]
theorem mSteps_no2 {xs : List Int} {k : Int} (h : ¬ (0 ≤ k ∧ k ≤ 1000)) : mStepsFrom xs k = ([], false) := by unfold mStepsFrom; rw [if_neg (fun hh => h hh.2)]
theorem mStepsFrom_bound (xs : List Int) (k : Int) : (mStepsFrom xs k).1.length ≤ 1048576 := by
  unfold mStepsFrom
  split
  · next h => have := (stepsL_good (good_iff.1 h.1) k.toNat).len; show (stepsL k.toNat xs).length ≤ _; omega
  · simp

theorem l1In_yes (n lo hi : Int) (w : World) (h : lo ≤ n ∧ n ≤ hi) : Calls Try.prog 129 #[.int .i64 n, .int .i64 lo, .int .i64 hi] w fun e w' => e = .returned (.bool true) ∧ w = w' := by
  have := l1In_any n lo hi w; rw [decide_eq_true h] at this; exact this
theorem l1In_no (n lo hi : Int) (w : World) (h : ¬ (lo ≤ n ∧ n ≤ hi)) : Calls Try.prog 129 #[.int .i64 n, .int .i64 lo, .int .i64 hi] w fun e w' => e = .returned (.bool false) ∧ w = w' := by
  have := l1In_any n lo hi w; rw [decide_eq_false h] at this; exact this

set_option maxHeartbeats 800000 in
theorem impl_StepsFrom (ao : Option Addr) (n cap : Nat) (xs : List Int) (k : Int) (w : World) (h : IntsAt w ao n cap xs) :
    Calls Try.prog 58 #[.slice ao n cap, .int .i64 k] w fun e w' => ∃ ao' n' cap', e = .returned (.tuple #[.slice ao' n' cap', .bool (mStepsFrom xs k).2]) ∧ Own w.heap.size w'.heap.size w' ao' n' cap' (mStepsFrom xs k).1 ∧ Below w.heap.size w w' := by
  cases hg : goodB xs
  · have hm := mSteps_no1 (k := k) hg
    have Hg := Lib.hid hg; clear hg
    have Hm := Lib.hid hm; clear hm
    go_enter Try.func58, Try.ntmps58
    go_wp2_with fail
    with_reducible refine (isPiles_no _ _ _ _ _ h Hg.out).mono ?_
    rintro e w' ⟨rfl, rfl⟩
    go_wp2
    go_ret2
    rw [Hm.out]
    exact ⟨none, 0, 0, rfl, Own.nil _ _ _, Below.refl _ _⟩
  · by_cases hk : 0 ≤ k ∧ k ≤ 1000
    · obtain ⟨q, rfl⟩ := Int.eq_ofNat_of_zero_le hk.1
      have hq : q ≤ 1000 := by omega
      have hm := mSteps_yes hg hq
      have hG := good_iff.1 hg
      have hlen := hG.len
      have hl := h.length
      have hcp := copyOf_any ao n cap xs w h (by omega)
      have Hg := Lib.hid hg; clear hg
      have Hm := Lib.hid hm; clear hm
      have Hk := Lib.hid hk; clear hk
      have HG := Lib.hid hG; clear hG
      have Hcp := Lib.hid hcp; clear hcp
      have Hl := Lib.hid hl; clear hl
      go_enter Try.func58, Try.ntmps58
      go_wp2_with fail
      with_reducible refine (isPiles_yes _ _ _ _ _ h HG.out).mono ?_
      rintro e w' ⟨rfl, rfl⟩
      go_wp2_with fail
      with_reducible refine (inRange_yes _ _ _ Hk.out).mono ?_
      rintro e w' ⟨rfl, rfl⟩
      go_wp2_with fail
      with_reducible refine (Hcp.out).mono ?_
      rintro e w1 ⟨a1, c1, rfl, ho1, hb1⟩
      go_wp2_with fail
      go_loopw [6, 18] (fun v i wr => ∃ (j : Nat) (a : Option Addr) (m c : Nat), j ≤ q ∧ i = .int .i64 j ∧ v = .slice a m c ∧ Own w.heap.size wr.heap.size wr a m c (stepsL j xs) ∧ Below w.heap.size w wr) (fun _ i _ => q - (intOf i).toNat)
      case atStart => exact ⟨0, a1, n, c1, Nat.zero_le _, rfl, rfl, ho1, hb1⟩
      case round =>
        obtain ⟨j, a, m, c, hj, rfl, rfl, hown, hb⟩ := hrel
        have hG2 := stepsL_good HG.out j
        by_cases hlt : j < q
        · have hcon := stepOf_any a m c _ wr hown.at hG2
          have Hcon := Lib.hid hcon; clear hcon
          have HG2 := Lib.hid hG2; clear hG2
          go_wp2_with fail
          with_reducible refine (Hcon.out).mono ?_
          rintro e w2 ⟨a2, m2, c2, rfl, ho2, hb2⟩
          go_wp2
          go_roundw
          case rel => exact ⟨j + 1, a2, m2, c2, by omega, valI (by omega), rfl, ho2.mono hb.size (Nat.le_refl _), belowTrans hb hb2 (Nat.le_refl _)⟩
          case measure => simp [intOf]; omega
        · obtain rfl : q = j := by omega
          go_wp2
          go_ret2
          rw [Hm.out]
          exact ⟨_, _, _, rfl, hown, hb⟩
    · have hm := mSteps_no2 (xs := xs) hk
      have Hg := Lib.hid hg; clear hg
      have Hm := Lib.hid hm; clear hm
      have Hk := Lib.hid hk; clear hk
      go_enter Try.func58, Try.ntmps58
      go_wp2_with fail
      with_reducible refine (isPiles_yes _ _ _ _ _ h (good_iff.1 Hg.out)).mono ?_
      rintro e w' ⟨rfl, rfl⟩
      go_wp2_with fail
      with_reducible refine (inRange_no _ _ _ Hk.out).mono ?_
      rintro e w' ⟨rfl, rfl⟩
      go_wp2
      go_ret2
      rw [Hm.out]
      exact ⟨none, 0, 0, rfl, Own.nil _ _ _, Below.refl _ _⟩

theorem impl_StepPiles (ao : Option Addr) (n cap : Nat) (xs : List Int) (w : World) (h : IntsAt w ao n cap xs) :
    Calls Try.prog 52 #[.slice ao n cap] w fun e w' => ∃ ao' n' cap', e = .returned (.tuple #[.slice ao' n' cap', .bool (mStepPiles xs).2]) ∧ Own w.heap.size w'.heap.size w' ao' n' cap' (mStepPiles xs).1 ∧ Below w.heap.size w w' := by
  have hcon := impl_StepsFrom ao n cap xs 1 w h
  have hm : mStepsFrom xs 1 = mStepPiles xs := by
    unfold mStepsFrom mStepPiles
    cases goodB xs <;> rfl
  rw [hm] at hcon
  have Hcon := Lib.hid hcon; clear hcon
  have Hm := Lib.hid hm; clear hm
  go_enter Try.func52, Try.ntmps52
  go_wp2_with fail
  with_reducible refine (Hcon.out).mono ?_
  rintro e w2 ⟨a2, m2, c2, rfl, ho2, hb2⟩
  go_wp2
  go_ret2
  exact ⟨_, _, _, rfl, ho2, hb2⟩
end Go.Proofs.Ytbneibpakopllaa
