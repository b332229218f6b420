/- Chapter 2: the ring that stands for piles. No condition. -/
import Derived.Test.YtkhphdohdnfplaaRingD
namespace Go.Proofs.Ytkhphdohdnfplaa
open Go.RowKit
set_option linter.unusedVariables false
set_option linter.unusedSimpArgs false
set_option maxRecDepth 20000

/-- the cells of a ring of piles, the first k reckoned -/
def ofT (xs : List Int) (K k : Nat) : List Int := ((List.range 8).map fun (j : Nat) => if j < k then xs.getD j 0 - ((K : Int) - j) else xs.getD j 0) ++ [(K : Int) + 1]
theorem ofT_length (xs : List Int) (K k : Nat) : (ofT xs K k).length = 9 := by simp [ofT]
theorem ofT_getD (xs : List Int) (K k j : Nat) (hj : j < 8) : (ofT xs K k).getD j 0 = if j < k then xs.getD j 0 - ((K : Int) - j) else xs.getD j 0 := by
  unfold ofT
  rw [List.getD_eq_getElem?_getD, List.getElem?_append_left (by simp; omega), List.getElem?_map, List.getElem?_range hj]; rfl
theorem ofT_last (xs : List Int) (K k : Nat) : (ofT xs K k).getD 8 0 = (K : Int) + 1 := by
  unfold ofT
  rw [List.getD_eq_getElem?_getD, List.getElem?_append_right (by simp)]; simp
theorem ofT_zero (xs : List Int) (K n : Nat) (hn : xs.length = n) (h8 : n ≤ 8) : xs ++ ([0, 0, 0, 0, 0, 0, 0, 0, (K : Int) + 1] : List Int).drop n = ofT xs K 0 := by
  apply list_ext_getD
  · rw [ofT_length, List.length_append, List.length_drop]; simp; omega
  · intro j hj
    rw [ofT_length] at hj
    by_cases hj8 : j < 8
    · rw [ofT_getD _ _ _ _ hj8, if_neg (by omega)]
      by_cases hjn : j < n
      · rw [List.getD_eq_getElem?_getD, List.getElem?_append_left (by omega), ← List.getD_eq_getElem?_getD]
      · have hx0 : xs.getD j 0 = 0 := by rw [List.getD_eq_getElem?_getD, List.getElem?_eq_none (by omega)]; rfl
        rw [hx0, List.getD_eq_getElem?_getD, List.getElem?_append_right (by omega), List.getElem?_drop, show n + (j - xs.length) = j by omega]
        have : j = 0 ∨ j = 1 ∨ j = 2 ∨ j = 3 ∨ j = 4 ∨ j = 5 ∨ j = 6 ∨ j = 7 := by omega
        rcases this with rfl | rfl | rfl | rfl | rfl | rfl | rfl | rfl <;> rfl
    · have : j = 8 := by omega
      subst this
      rw [ofT_last, List.getD_eq_getElem?_getD, List.getElem?_append_right (by omega), List.getElem?_drop, show n + (8 - xs.length) = 8 by omega]; rfl
theorem ofT_set (xs : List Int) (K k : Nat) (hk : k < 8) : (ofT xs K k).set k (xs.getD k 0 - ((K : Int) - k)) = ofT xs K (k + 1) := by
  apply list_ext_getD
  · rw [List.length_set, ofT_length, ofT_length]
  · intro j hj
    rw [ofT_length] at hj
    by_cases hj8 : j < 8
    · by_cases hjr : j = k
      · subst hjr
        rw [getD_set_eq _ _ _ _ (by rw [ofT_length]; omega), ofT_getD _ _ _ _ hj8, if_pos (by omega)]
      · rw [getD_set_ne _ _ _ _ _ (fun e => hjr e.symm), ofT_getD _ _ _ _ hj8, ofT_getD _ _ _ _ hj8]
        by_cases hlt : j < k
        · rw [if_pos hlt, if_pos (by omega)]
        · rw [if_neg hlt, if_neg (by omega)]
    · have : j = 8 := by omega
      subst this
      rw [getD_set_ne _ _ _ _ _ (by omega), ofT_last, ofT_last]
theorem ofT_all (xs : List Int) (hl : xs.length ≤ hL xs + 1) (j : Nat) (hj : j < 8) : (ofT xs (hL xs) (hL xs + 1)).getD j 0 = (bitsL xs).getD j 0 := by
  rw [ofT_getD _ _ _ _ hj]
  by_cases h : j < hL xs + 1
  · rw [if_pos h, bitsL_getD _ _ h]
  · rw [if_neg h, List.getD_eq_getElem?_getD, List.getElem?_eq_none (by omega), List.getD_eq_getElem?_getD, List.getElem?_eq_none (by rw [bitsL_length]; omega)]

def ofV (xs : List Int) : Value := if cycB xs = true then ringV (bitsL xs) else ring0
theorem ofV_yes {xs : List Int} (h : cycB xs = true) : ofV xs = ringV (bitsL xs) := by unfold ofV; rw [if_pos h]
theorem ofV_no {xs : List Int} (h : cycB xs = false) : ofV xs = ring0 := by unfold ofV; rw [if_neg (by rw [h]; simp)]

theorem height_of (xs : List Int) (w : World) (hg : Good xs) : ∃ r : Int, Calls Try.prog 66 #[.int .i64 xs.sum] w fun e w' => e = .returned (.tuple #[.int .i64 (hL xs), .int .i64 r, .bool true]) ∧ Below w.heap.size w w' := by
  obtain ⟨s, hs, h28⟩ := sum_toNat hg
  have := impl_HeightFor s w
  have hm : mHeightFor s = (((hgt s : Nat) : Int), (s : Int) - ((tri (hgt s) : Nat) : Int), true) := by unfold mHeightFor; rw [if_pos (by omega)]; rfl
  rw [hm] at this
  unfold hL
  rw [hs]
  exact ⟨_, this⟩

end Go.Proofs.Ytkhphdohdnfplaa
