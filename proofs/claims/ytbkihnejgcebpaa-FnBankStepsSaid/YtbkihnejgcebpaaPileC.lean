/- Chapter 1: how many piles some cards make, by the table. No condition. -/
import Derived.Test.YtbkihnejgcebpaaPileB
namespace Go.Proofs.Ytbkihnejgcebpaa
open Go.RowKit
set_option linter.unusedVariables false
set_option linter.unusedSimpArgs false

theorem getD_cells {B E w g n cap xs} (h : Own B E w (some ⟨g, 0, none⟩) n cap xs) (i : Nat) (hi : i < n) : w.cell? ⟨g, i, none⟩ = some (.int .i64 (xs.getD i 0)) := by
  have h1 := World.ownsRow.cellAt h.1 i (by omega)
  have hl := h.length
  rw [h1, List.getElem?_map, List.getElem?_eq_getElem (by omega), List.getD_eq_getElem?_getD, List.getElem?_eq_getElem (by omega)]
  rfl
theorem Own.set {B E w g n cap xs} (h : Own B E w (some ⟨g, 0, none⟩) n cap xs) (i : Nat) (x : Int) :
    Own B E (w.setCell ⟨g, i, none⟩ (.int .i64 x)) (some ⟨g, 0, none⟩) n cap (xs.set i x) ∧ w.grownBy (w.setCell ⟨g, i, none⟩ (.int .i64 x)) (some g) := by
  obtain ⟨h1, h2⟩ := World.ownsRow.stored h.1 i (.int .i64 x)
  exact ⟨⟨by rw [List.map_set]; exact h1, h.2⟩, h2⟩
theorem Own.frozenAt {B E w g n cap xs} (h : Own B E w (some ⟨g, 0, none⟩) n cap xs) (i : Nat) : w.frozen? ⟨g, i, none⟩ = false := World.ownsRow.frozenAt h.1 i
theorem Own.drewN {B E w ao n cap xs} (h : Own B E w ao n cap xs) (q : Nat) : Own B E (w.drewN q) ao n cap xs := h
theorem Own.drew {B E w ao n cap xs} (h : Own B E w ao n cap xs) : Own B E w.drew ao n cap xs := h


def mCountPiles (n : Int) : Int × Bool := if 0 ≤ n ∧ n ≤ 28 then (cnt n.toNat n.toNat, true) else (0, false)
/-! ### Staircases -/
def stairs (k : Nat) : List Int := (List.range k).map fun i => ((k - i : Nat) : Int)
theorem stairs_length (k : Nat) : (stairs k).length = k := by simp [stairs]
def mStaircase (k : Int) : List Int × Bool := if 0 ≤ k ∧ k ≤ 7 then (stairs k.toNat, true) else ([], false)
theorem mStaircase_bound (k : Int) : (mStaircase k).1.length ≤ 1048576 := by
  unfold mStaircase
  split
  · simp [stairs]; omega
  · simp
end Go.Proofs.Ytbkihnejgcebpaa
