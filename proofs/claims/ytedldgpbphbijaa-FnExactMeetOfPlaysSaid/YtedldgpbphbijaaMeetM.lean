/- Chapter 2: plays that meet: plain mathematics. No condition. -/
import Derived.Test.YtedldgpbphbijaaOrbN
namespace Go.Proofs.Ytedldgpbphbijaa
set_option linter.unusedVariables false
set_option linter.unusedSimpArgs false

theorem cyc_inj {x y : List Int} (hx : Good x) (hy : Good y) (cx : Cyc x) (cy : Cyc y) (h : stepL x = stepL y) : x = y := by
  have hs : x.sum = y.sum := by rw [← stepL_sum hx.1, ← stepL_sum hy.1, h]
  have hL' : hL x = hL y := by unfold hL; rw [hs]
  have e1 := cyc_round hx cx
  have e2 := cyc_round hy cy
  rw [stepsL_front] at e1 e2
  rw [← e1, ← e2, hL', h]
/-- once both are cyclic, what differs goes on to differ -/
theorem never_meet {x y : List Int} (hx : Good x) (hy : Good y) (cx : Cyc x) (cy : Cyc y) (h : x ≠ y) (k : Nat) : stepsL k x ≠ stepsL k y := by
  induction k with
  | zero => exact h
  | succ k ih => exact fun e => ih (cyc_inj (stepsL_good hx k) (stepsL_good hy k) (cyc_steps hx cx k) (cyc_steps hy cy k) e)
theorem never_from {x y : List Int} (hx : Good x) (hy : Good y) {j : Nat} (cx : Cyc (stepsL j x)) (cy : Cyc (stepsL j y)) (h : ∀ i, i ≤ j → stepsL i x ≠ stepsL i y) (k : Nat) : stepsL k x ≠ stepsL k y := by
  by_cases hk : k ≤ j
  · exact h k hk
  · have := never_meet (stepsL_good hx j) (stepsL_good hy j) cx cy (h j (Nat.le_refl _)) (k - j)
    rwa [← stepsL_plus, ← stepsL_plus, show k - j + j = k by omega] at this
def meetL (x y : List Int) : Option Nat := (List.range 3719).find? fun k => decide (stepsL k x = stepsL k y)
theorem meet_some {x y : List Int} {k : Nat} (h1 : stepsL k x = stepsL k y) (h2 : ∀ i, i < k → stepsL i x ≠ stepsL i y) (hk : k ≤ 3718) : meetL x y = some k := by
  unfold meetL
  rw [List.find?_range_eq_some]
  exact ⟨by simpa using h1, List.mem_range.2 (by omega), fun j hj => by simpa using h2 j hj⟩
theorem meet_none {x y : List Int} (h : ∀ k, stepsL k x ≠ stepsL k y) : meetL x y = none := by
  unfold meetL
  rw [List.find?_eq_none]
  intro k _
  simpa using h k
def mMeetOfPlays (x y : List Int) : Int × Bool := if goodB x = true ∧ goodB y = true then (match meetL x y with | some k => ((k : Int), true) | none => (0, false)) else (0, false)
theorem mMeet_no1 {x y : List Int} (h : goodB x = false) : mMeetOfPlays x y = (0, false) := by unfold mMeetOfPlays; rw [if_neg (by rw [h]; simp)]
theorem mMeet_no2 {x y : List Int} (h : goodB y = false) : mMeetOfPlays x y = (0, false) := by unfold mMeetOfPlays; rw [if_neg (by rw [h]; simp)]
theorem mMeet_yes {x y : List Int} {k : Nat} (hx : goodB x = true) (hy : goodB y = true) (h : meetL x y = some k) : mMeetOfPlays x y = ((k : Int), true) := by unfold mMeetOfPlays; rw [if_pos ⟨hx, hy⟩, h]
theorem mMeet_none {x y : List Int} (hx : goodB x = true) (hy : goodB y = true) (h : meetL x y = none) : mMeetOfPlays x y = (0, false) := by unfold mMeetOfPlays; rw [if_pos ⟨hx, hy⟩, h]
theorem sums_differ {x y : List Int} (hx : Good x) (hy : Good y) (h : x.sum ≠ y.sum) (k : Nat) : stepsL k x ≠ stepsL k y := fun e => h (by
  rw [← stepsL_sum hx k, ← stepsL_sum hy k, e])
end Go.Proofs.Ytedldgpbphbijaa
