/- slices.SortFunc over lists of piles, the greatest first: the shelf's contract in this seat's words. No condition. -/
import Derived.Test.YtdfmljkjidepeaaDoorCmp
import Derived.Test.YtdfmljkjidepeaaDoorRowsR
import Derived.Test.YtdfmljkjidepeaaDoorSort
import Derived.Test.YtdfmljkjidepeaaDoorGa
namespace Go.Proofs.YtdfmljkjidepeaaDoor
open Go.RowKit Go.Shelf Go.Lib Go.Sort
set_option linter.unusedVariables false
set_option linter.unusedSimpArgs false
set_option maxRecDepth 20000

theorem cmpL_neg (a b : List Int) : cmpL a b < 0 ↔ befB b a = true := by
  induction a generalizing b with
  | nil => cases b <;> simp [befB, cmpL]
  | cons x l ih =>
    cases b with
    | nil => simp [befB, cmpL]
    | cons y m =>
      show (if x = y then cmpL l m else if x < y then -1 else 1) < 0 ↔ (if y = x then befB m l else decide (x < y)) = true
      by_cases h : x = y
      · rw [if_pos h, if_pos h.symm]; exact ih m
      · have h' : ¬ y = x := fun e => h e.symm
        rw [if_neg h, if_neg h']
        by_cases h2 : x < y
        · rw [if_pos h2]; simp; omega
        · rw [if_neg h2]; simp; omega
theorem apart_symm {v u : Value} (h : apart v u) : apart u v := by
  unfold apart at *
  cases e : u.ownBlock with
  | none => exact .inl rfl
  | some g =>
    right
    intro e2
    rcases h with h | h
    · rw [h] at e2; cases e2
    · exact h (e2.symm.trans e.symm)
def encR (vs : List Value) (m : Nat) (i : Fin (m + 1)) : Value := vs.getD i.val undef
def cfR (xss : List (List Int)) (m : Nat) (i j : Fin (m + 1)) : Int := cmpL (xss.getD j.val []) (xss.getD i.val [])
theorem ltR (xss : List (List Int)) (m : Nat) (i j : Fin (m + 1)) : ltOf (cfR xss m) i j = befB (xss.getD i.val []) (xss.getD j.val []) := by
  unfold ltOf cfR
  have := cmpL_neg (xss.getD j.val []) (xss.getD i.val [])
  cases h : befB (xss.getD i.val []) (xss.getD j.val [])
  · rw [decide_eq_false_iff_not]; rw [h] at this; simpa using this
  · rw [decide_eq_true_iff]; exact this.2 h
theorem swoR (xss : List (List Int)) (m : Nat) : SWO (ltOf (cfR xss m)) where
  irrefl x := by rw [ltR]; exact befB_irrefl _
  trans x y z h1 h2 := by rw [ltR] at *; exact bef_trans h1 h2
  ntrans x y z h1 h2 := by rw [ltR] at *; exact befN_trans h2 h1
theorem extract_all {α : Type} (d : Array α) (n : Nat) (h : d.size = n) : d.extract 0 n = d := by subst h; exact Array.extract_size
theorem ofFn_map {α : Type} (l : List α) (m : Nat) (d : α) (hl : l.length = m + 1) : (List.ofFn (fun i : Fin (m + 1) => i)).map (fun i => l.getD i.val d) = l := by
  apply List.ext_getElem
  · simp [hl]
  · intro i h1 h2
    rw [List.getElem_map, List.getElem_ofFn, List.getD_eq_getElem?_getD, List.getElem?_eq_getElem h2]; rfl

end Go.Proofs.YtdfmljkjidepeaaDoor
