/- Chapter 1: all pasts, by the model and by the program. No condition. -/
import Derived.Test.YtbkihnejgcebpaaPast
import Derived.Test.YtbkihnejgcebpaaRowsV
namespace Go.Proofs.Ytbkihnejgcebpaa
open Go.RowKit
set_option linter.unusedVariables false
set_option linter.unusedSimpArgs false

/-! ### Order of lists -/
theorem befB_eq {xs ys : List Int} {k : Nat} (h : xs.take k = ys.take k) (hx : k ≤ xs.length) (hy : k ≤ ys.length) : befB xs ys = befB (xs.drop k) (ys.drop k) := by
  induction k generalizing xs ys with
  | zero => rfl
  | succ k ih =>
    cases xs with
    | nil => simp at hx
    | cons a t1 =>
      cases ys with
      | nil => simp at hy
      | cons b t2 =>
        simp only [List.take_succ_cons, List.cons.injEq] at h
        obtain ⟨rfl, h⟩ := h
        simp only [List.length_cons] at hx hy
        simp only [befB, if_true, List.drop_succ_cons]
        exact ih h (by omega) (by omega)
theorem befB_diff {xs ys : List Int} {k : Nat} {a b : Int} (h : xs.take k = ys.take k) (hx : k < xs.length) (hy : k < ys.length) (ha : xs.getD k 0 = a) (hb : ys.getD k 0 = b) (hab : a ≠ b) : befB xs ys = decide (b < a) := by
  rw [befB_eq h (by omega) (by omega), List.drop_eq_getElem_cons hx, List.drop_eq_getElem_cons hy]
  rw [List.getD_eq_getElem?_getD, List.getElem?_eq_getElem hx] at ha
  rw [List.getD_eq_getElem?_getD, List.getElem?_eq_getElem hy] at hb
  simp only [Option.getD_some] at ha hb
  rw [ha, hb]
  simp only [befB, if_neg hab]
theorem befB_end {xs ys : List Int} {k : Nat} (h : xs.take k = ys.take k) (hx : k ≤ xs.length) (hy : k ≤ ys.length) (hk : k = xs.length ∨ k = ys.length) : befB xs ys = decide (ys.length < xs.length) := by
  rw [befB_eq h hx hy]
  rcases hk with rfl | rfl
  · rw [List.drop_of_length_le (Nat.le_refl _)]
    simp only [befB]
    symm; rw [decide_eq_false_iff_not]; omega
  · rw [List.drop_of_length_le (l := ys) (Nat.le_refl _)]
    cases h' : xs.drop ys.length with
    | nil =>
      have := congrArg List.length h'
      simp at this
      simp only [befB]
      symm; rw [decide_eq_false_iff_not]; omega
    | cons z l =>
      have := congrArg List.length h'
      simp at this
      simp only [befB]
      symm; rw [decide_eq_true_iff]; omega

theorem addL_at {xss : List (List Int)} {ys : List Int} {k : Nat} (h1 : ∀ l ∈ xss.take k, befB l ys = true) (h2 : ∀ l, (xss.drop k).head? = some l → befB l ys = false) : addL xss ys = xss.take k ++ ys :: xss.drop k := by
  have e := List.take_append_drop k xss
  unfold addL
  conv => lhs; rw [← e]
  rw [List.takeWhile_append_of_pos h1, List.dropWhile_append_of_pos h1]
  cases h : xss.drop k with
  | nil => simp
  | cons l t =>
    have := h2 l (by rw [h]; rfl)
    rw [List.takeWhile_cons_of_neg (by rw [this]; simp), List.dropWhile_cons_of_neg (by rw [this]; simp)]
    simp

theorem OwnRow.drew {B E w ty ao n cap vs} (h : OwnRow B E w ty ao n cap vs) : OwnRow B E w.drew ty ao n cap vs := h
theorem ValsAt.drew {w ao n cap vs} (h : ValsAt w ao n cap vs) : ValsAt w.drew ao n cap vs := ⟨h.length, h.le, h.max, h.isNil, h.cell⟩
theorem valsAt_one (w : World) (v : Value) : ValsAt (w.alloc (.cells #[v] 28)) (some ⟨w.heap.size, 0, none⟩) 1 1 [v] :=
  ⟨rfl, Nat.le_refl _, by unfold maxLen; omega, (fun e => by cases e), fun j hj => ⟨_, _, rfl, by simp, fun i hi => by
    obtain rfl : i = 0 := by omega
    rw [World.cell?_alloc_at _ _ _ _ rfl]; rfl⟩⟩

end Go.Proofs.Ytbkihnejgcebpaa
