/- Chapter 1: PastsOf and PastCount, by the model and by the program. No condition. -/
import Derived.Test.YtbkihnejgcebpaaPasts
namespace Go.Proofs.Ytbkihnejgcebpaa
open Go.RowKit
set_option linter.unusedVariables false
set_option linter.unusedSimpArgs false

theorem Own.ge {B E w ao n cap xs} (h : Own B E w ao n cap xs) : ∀ g, (Value.slice ao n cap).ownBlock = some g → B ≤ g := fun g hg => (h.1.lt g hg).1
theorem OwnRows.drewN {B E w ao n cap xss} (h : OwnRows B E w ao n cap xss) (q : Nat) : OwnRows B E (w.drewN q) ao n cap xss := h
theorem OwnRows.chgBelow {B E w w' ao n cap xss} (h : OwnRows B E w ao n cap xss) (hc : Chg (fun k => (Value.slice ao n cap).ownBlock = some k) w w') (hB : B ≤ w.heap.size) : Below B w w' := by
  obtain ⟨vs, h1, _⟩ := h
  exact h1.chgBelow hc hB
theorem pastsOf_take_length (xs : List Int) (k : Nat) : (pastsOf xs (ascP none (xs.take k))).length ≤ xs.length := by
  have h1 := pastsOf_length xs (ascP none (xs.take k))
  rw [asc_none] at h1 ⊢
  have h2 := ascL_length (xs.take k)
  have h3 : (xs.take k).length ≤ xs.length := by rw [List.length_take]; omega
  omega

def mPastsOf (xs : List Int) : List (List Int) × Bool := (if goodB xs then pastsL xs else [], goodB xs)
theorem mPasts_yes {xs : List Int} (h : goodB xs = true) : mPastsOf xs = (pastsL xs, true) := by unfold mPastsOf; rw [h]; rfl
theorem mPasts_no {xs : List Int} (h : goodB xs = false) : mPastsOf xs = ([], false) := by unfold mPastsOf; rw [h]; rfl
theorem pastsL_good {xs : List Int} (hg : Good xs) : ∀ ys ∈ pastsL xs, Good ys := by
  intro ys hy
  unfold pastsL at hy
  split at hy
  · rw [List.mem_singleton.1 hy]; exact good_nil
  · obtain ⟨x, hx, hx1, rfl⟩ := pastsOf_mem hy
    exact past_good hg x (ascL_mem hx) hx1
theorem mPastsOf_bound (xs : List Int) : (mPastsOf xs).1.length ≤ 1048576 ∧ total (mPastsOf xs).1 ≤ 1048576 := by
  cases h : goodB xs
  · rw [mPasts_no h]; simp [total]
  · rw [mPasts_yes h]
    have hG := good_iff.1 h
    have h1 := pastsL_length xs
    have h2 := hG.len
    have h3 := total_le (pastsL xs) 28 (fun ys hy => (pastsL_good hG ys hy).len)
    exact ⟨by show (pastsL xs).length ≤ _; omega, by show total (pastsL xs) ≤ _; omega⟩

def mPastCount (xs : List Int) : Int × Bool := (if goodB xs then ((pastsL xs).length : Int) else 0, goodB xs)
theorem mPastCount_yes {xs : List Int} (h : goodB xs = true) : mPastCount xs = (((pastsL xs).length : Int), true) := by unfold mPastCount; rw [h]; rfl
theorem mPastCount_no {xs : List Int} (h : goodB xs = false) : mPastCount xs = (0, false) := by unfold mPastCount; rw [h]; rfl
end Go.Proofs.Ytbkihnejgcebpaa
