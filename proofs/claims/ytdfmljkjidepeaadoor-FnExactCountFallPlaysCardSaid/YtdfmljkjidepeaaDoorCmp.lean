/- Chapter 2: the order of lists, by slices.Compare; a ring that comes first of all its turns. No condition. -/
import Derived.Test.YtdfmljkjidepeaaDoorGb
import Derived.Test.YtdfmljkjidepeaaDoorGa
namespace Go.Proofs.YtdfmljkjidepeaaDoor
open Go.RowKit
set_option linter.unusedVariables false
set_option linter.unusedSimpArgs false
set_option maxRecDepth 20000

theorem cmpL_eq (xs ys : List Int) (k : Nat) (h : xs.take k = ys.take k) (hx : k ≤ xs.length) (hy : k ≤ ys.length) : cmpL xs ys = cmpL (xs.drop k) (ys.drop k) := by
  induction k generalizing xs ys with
  | zero => rfl
  | succ k ih =>
    cases xs with
    | nil => simp at hx
    | cons a l => cases ys with
      | nil => simp at hy
      | cons b m =>
        simp only [List.take_succ_cons, List.cons.injEq] at h
        simp only [List.drop_succ_cons, cmpL, if_pos h.1]
        exact ih l m h.2 (by simpa using hx) (by simpa using hy)
theorem drop_cons {xs : List Int} {k n : Nat} {x : Int} (hx : xs.getD k 0 = x) (hk : k < n) (hl : xs.length = n) : xs.drop k = x :: xs.drop (k + 1) := by
  subst hx hl
  rw [List.drop_eq_getElem_cons hk, List.getD_eq_getElem?_getD, List.getElem?_eq_getElem hk]; rfl
end Go.Proofs.YtdfmljkjidepeaaDoor
