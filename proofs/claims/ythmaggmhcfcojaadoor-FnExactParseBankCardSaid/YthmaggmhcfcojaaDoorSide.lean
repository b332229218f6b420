/- The side of piles: plain mathematics. No condition. -/
import Derived.Test.YthmaggmhcfcojaaDoorCount
namespace Go.Proofs.YthmaggmhcfcojaaDoor
set_option linter.unusedVariables false
set_option linter.unusedSimpArgs false

def above (xs : List Int) (i : Int) : Nat := xs.countP (fun x => decide (i < x))
theorem above_nil (i : Int) : above [] i = 0 := rfl
theorem above_snoc (xs : List Int) (x i : Int) : above (xs ++ [x]) i = above xs i + if i < x then 1 else 0 := by
  unfold above
  rw [List.countP_append, List.countP_singleton]
  simp
theorem above_le (xs : List Int) (i : Int) : above xs i ≤ xs.length := List.countP_le_length
def sideL (xs : List Int) : List Int := (List.range (xs.headD 0).toNat).map fun (i : Nat) => ((above xs i : Nat) : Int)
theorem sideL_length (xs : List Int) : (sideL xs).length = (xs.headD 0).toNat := by simp [sideL]
theorem sideL_getD (xs : List Int) (i : Nat) (h : i < (xs.headD 0).toNat) : (sideL xs).getD i 0 = ((above xs i : Nat) : Int) := by
  unfold sideL
  rw [List.getD_eq_getElem?_getD, List.getElem?_map, List.getElem?_range h]
  rfl
def mSideOf (xs : List Int) : List Int × Bool := (if goodB xs then sideL xs else [], goodB xs)
theorem head_getD (xs : List Int) : xs.headD 0 = xs.getD 0 0 := by cases xs <;> rfl
theorem Good.head {xs : List Int} (h : Good xs) : 0 ≤ xs.headD 0 ∧ xs.headD 0 ≤ 28 := by
  cases xs with
  | nil => simp
  | cons a l => have := h.mem (List.mem_cons_self (a := a) (l := l)); simp only [List.headD_cons]; omega
theorem mSideOf_bound (xs : List Int) : (mSideOf xs).1.length ≤ 1048576 := by
  unfold mSideOf
  cases hg : goodB xs
  · simp
  · simp only [if_true]
    have := (good_iff.1 hg).head
    rw [sideL_length]
    omega

/-- the marks of the first j piles, and of the next one's first i cards -/
def sideT (xs : List Int) (m j i : Nat) : List Int := (List.range m).map fun (q : Nat) => ((above (xs.take j) q + (if q < i then 1 else 0) : Nat) : Int)
theorem sideT_length (xs : List Int) (m j i : Nat) : (sideT xs m j i).length = m := by simp [sideT]
theorem sideT_getD (xs : List Int) (m j i q : Nat) (h : q < m) : (sideT xs m j i).getD q 0 = ((above (xs.take j) q + (if q < i then 1 else 0) : Nat) : Int) := by
  unfold sideT
  rw [List.getD_eq_getElem?_getD, List.getElem?_map, List.getElem?_range h]
  rfl
theorem sideT_zero (xs : List Int) (m : Nat) : List.replicate m (0 : Int) = sideT xs m 0 0 := by
  apply List.ext_getElem
  · simp [sideT_length]
  · intro i h1 h2
    simp [sideT, above_nil]
theorem sideT_set (xs : List Int) (m j i : Nat) (h : i < m) (q : Int) (hq : q = ((above (xs.take j) i : Nat) : Int) + 1) : (sideT xs m j i).set i q = sideT xs m j (i + 1) := by
  subst hq
  apply List.ext_getElem
  · simp [sideT_length]
  · intro r h1 h2
    simp [sideT_length] at h2
    rw [List.getElem_set]
    split
    · next e => subst e; simp only [sideT, List.getElem_map, List.getElem_range]; rw [if_pos (by omega)]; simp
    · next e =>
      simp only [sideT, List.getElem_map, List.getElem_range]
      by_cases hr : r < i
      · rw [if_pos hr, if_pos (by omega)]
      · rw [if_neg hr, if_neg (by omega)]
theorem sideT_next (xs : List Int) (m j n : Nat) (x : Int) (hj : j < n) (hl : xs.length = n) (hx : xs.getD j 0 = x) (h0 : 0 ≤ x) : sideT xs m j x.toNat = sideT xs m (j + 1) 0 := by
  have e : xs.take (j + 1) = xs.take j ++ [x] := by
    subst hx hl
    rw [List.take_add_one, List.getElem?_eq_getElem hj, List.getD_eq_getElem?_getD, List.getElem?_eq_getElem hj]
    rfl
  apply List.ext_getElem
  · simp [sideT_length]
  · intro r h1 h2
    simp [sideT_length] at h2
    simp only [sideT, List.getElem_map, List.getElem_range, e, above_snoc]
    by_cases hr : r < x.toNat
    · rw [if_pos hr, if_pos (by omega)]; simp
    · rw [if_neg hr, if_neg (by omega)]; simp
theorem sideT_all (xs : List Int) (n : Nat) (hl : xs.length = n) : sideT xs (xs.headD 0).toNat n 0 = sideL xs := by
  unfold sideT sideL
  rw [List.take_of_length_le (by omega)]
  simp
theorem good_le_head {xs : List Int} (h : Good xs) {x : Int} (hx : x ∈ xs) : x ≤ xs.headD 0 := by
  cases xs with
  | nil => cases hx
  | cons a l =>
    simp only [List.headD_cons]
    rcases List.mem_cons.1 hx with rfl | hm
    · omega
    · exact (List.pairwise_cons.1 h.2.1).1 x hm
end Go.Proofs.YthmaggmhcfcojaaDoor
