/- BankPasts by the specification. No condition. -/
import Derived.Test.YtnebfojnbjbogaaGreatDoorGf
import Derived.Test.YtnebfojnbjbogaaGreatDoorGi
import Derived.Test.YtnebfojnbjbogaaGreatDoorGe
namespace Go.Proofs.YtnebfojnbjbogaaGreatDoor
open Go.RowKit
set_option linter.unusedVariables false
set_option linter.unusedSimpArgs false
set_option maxRecDepth 20000

theorem cutP {P Q : Prop} (f : P → Q) (p : P) : Q := f p
def pastP (b a : Bk) : Bool := decide (stepB a = b)
def filtB (b : Bk) (bs : List Bk) (j : Nat) : List Bk := (bs.take j).filter (pastP b)
theorem filtB_zero (b : Bk) (bs : List Bk) : filtB b bs 0 = [] := rfl
theorem take_rowB {bs : List Bk} {j : Nat} {a : Bk} (hj : j < bs.length) (hy : bs.getD j noBank = a) : bs.take (j + 1) = bs.take j ++ [a] := by
  rw [List.take_add_one, List.getElem?_eq_getElem hj]
  rw [List.getD_eq_getElem?_getD, List.getElem?_eq_getElem hj] at hy
  simp at hy
  simp [hy]
theorem filtB_yes {b a : Bk} {bs : List Bk} {j : Nat} (hj : j < bs.length) (hy : bs.getD j noBank = a) (h : stepB a = b) : filtB b bs (j + 1) = filtB b bs j ++ [a] := by
  unfold filtB
  rw [take_rowB hj hy, List.filter_append, List.filter_cons_of_pos (by exact decide_eq_true h)]
  rfl
theorem filtB_no {b a : Bk} {bs : List Bk} {j : Nat} (hj : j < bs.length) (hy : bs.getD j noBank = a) (h : ¬ stepB a = b) : filtB b bs (j + 1) = filtB b bs j := by
  unfold filtB
  rw [take_rowB hj hy, List.filter_append, List.filter_cons_of_neg (by show ¬ (decide (stepB a = b) = true); simpa using h)]
  simp
theorem filtB_all (b : Bk) (bs : List Bk) : filtB b bs bs.length = bs.filter (fun a => decide (stepB a = b)) := by
  unfold filtB; rw [List.take_length]; rfl

end Go.Proofs.YtnebfojnbjbogaaGreatDoor
