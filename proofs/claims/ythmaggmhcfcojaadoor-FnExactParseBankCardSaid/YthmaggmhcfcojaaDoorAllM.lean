/- Chapter 1: all piles, as lists: plain mathematics. No condition. -/
import Derived.Test.YthmaggmhcfcojaaDoorMathD
namespace Go.Proofs.YthmaggmhcfcojaaDoor
set_option linter.unusedVariables false
set_option linter.unusedSimpArgs false

theorem downs_length (m : Nat) : (downs m).length = m := by
  induction m with
  | zero => rfl
  | succ m ih => simp [downs, ih]
theorem downs_mem {m x : Nat} (h : x ∈ downs m) : 1 ≤ x ∧ x ≤ m := by
  induction m with
  | zero => cases h
  | succ m ih =>
    rcases List.mem_cons.1 h with rfl | h
    · omega
    · have := ih h; omega
theorem downs_take (m X : Nat) (h1 : 1 ≤ X) (h2 : X ≤ m) : (downs m).take (m - (X - 1)) = (downs m).take (m - X) ++ [X] := by
  induction m with
  | zero => omega
  | succ m ih =>
    by_cases hX : X = m + 1
    · subst hX
      simp [downs]
    · have := ih (by omega)
      rw [show m + 1 - (X - 1) = (m - (X - 1)) + 1 by omega, show m + 1 - X = (m - X) + 1 by omega]
      simp only [downs, List.take_succ_cons, this]
      rfl

/-- the lists whose first number is above X -/
def allPart (f n m X : Nat) : List (List Int) := ((downs m).take (m - X)).flatMap fun x => (allF f (n - x) x).map ((x : Int) :: ·)
theorem allPart_start (f n m : Nat) : allPart f n m m = [] := by unfold allPart; simp
theorem allPart_step (f n m X : Nat) (h1 : 1 ≤ X) (h2 : X ≤ m) : allPart f n m (X - 1) = allPart f n m X ++ (allF f (n - X) X).map ((X : Int) :: ·) := by
  unfold allPart
  rw [downs_take m X h1 h2, List.flatMap_append]
  simp
theorem allPart_end (f n most : Nat) (hn : n ≠ 0) : allPart f n (min n most) 0 = allF (f + 1) n most := by
  unfold allPart
  rw [Nat.sub_zero, List.take_of_length_le (by rw [downs_length]; exact Nat.le_refl _)]
  simp [allF, hn]
theorem allF_zero (f most : Nat) : allF f 0 most = [[]] := by cases f <;> simp [allF]

theorem sum_downs (n q : Nat) (hn : 1 ≤ n) (hn2 : n ≤ 28) (hq : q ≤ n) : ((downs q).map fun x => cnt x (n - x)).sum = cnt q n := by
  induction q with
  | zero => have := cnt_none n (by omega); rw [if_neg (by omega)] at this; simp [downs, this]
  | succ q ih =>
    have := cnt_rec q (by omega) n (by omega)
    rw [if_pos (by omega)] at this
    simp only [downs, List.map_cons, List.sum_cons, ih (by omega)]
    omega
theorem allF_length (f : Nat) : ∀ n most, n ≤ f → n ≤ 28 → most ≤ 28 → (allF f n most).length = cnt most n := by
  induction f with
  | zero =>
    intro n most h1 _ h3
    obtain rfl : n = 0 := by omega
    rw [cnt_zero most (by omega)]; rfl
  | succ f ih =>
    intro n most h1 h2 h3
    by_cases hn : n = 0
    · subst hn; rw [cnt_zero most (by omega)]; simp [allF]
    · have e : allF (f + 1) n most = (downs (min n most)).flatMap fun x => (allF f (n - x) x).map ((x : Int) :: ·) := by simp [allF, hn]
      rw [e, List.length_flatMap, ← cnt_min h2 h3, ← sum_downs n (min n most) (by omega) h2 (Nat.min_le_left _ _)]
      congr 1
      apply List.map_congr_left
      intro x hx
      have := downs_mem hx
      rw [List.length_map, ih (n - x) x (by omega) (by omega) (by omega)]
theorem allPart_length (f n most X : Nat) (hn : n ≠ 0) (h1 : n ≤ f + 1) (h2 : n ≤ 28) (h3 : most ≤ 28) : (allPart f n (min n most) X).length ≤ 3718 := by
  have e := allPart_end f n most hn
  have hl := allF_length (f + 1) n most h1 h2 h3
  have hc := cnt_le most (by omega) n (by omega)
  have : (allPart f n (min n most) X).length ≤ (allPart f n (min n most) 0).length := by
    unfold allPart
    have hs := List.take_append_drop (min n most - X) (downs (min n most))
    rw [Nat.sub_zero, List.take_of_length_le (i := min n most) (by rw [downs_length]; exact Nat.le_refl _)]
    conv => rhs; rw [← hs]
    rw [List.flatMap_append, List.length_append]
    omega
  rw [e, hl] at this
  omega
theorem allF_row (f : Nat) : ∀ n most, ∀ ys ∈ allF f n most, ys.length ≤ n := by
  induction f with
  | zero =>
    intro n most ys hy
    unfold allF at hy
    split at hy
    · rw [List.mem_singleton.1 hy]; simp
    · cases hy
  | succ f ih =>
    intro n most ys hy
    unfold allF at hy
    split at hy
    · rw [List.mem_singleton.1 hy]; simp
    · obtain ⟨x, hx, hy⟩ := List.mem_flatMap.1 hy
      obtain ⟨zs, hz, rfl⟩ := List.mem_map.1 hy
      have := downs_mem hx
      have := ih (n - x) x zs hz
      simp only [List.length_cons]
      omega
theorem getD_row {xss : List (List Int)} {b : Nat} (h : ∀ ys ∈ xss, ys.length ≤ b) (i : Nat) : (xss.getD i []).length ≤ b := by
  by_cases hi : i < xss.length
  · rw [List.getD_eq_getElem?_getD, List.getElem?_eq_getElem hi]; exact h _ (List.getElem_mem hi)
  · rw [List.getD_eq_getElem?_getD, List.getElem?_eq_none (by omega)]; simp

def mAllPiles (n : Int) : List (List Int) × Bool := if 0 ≤ n ∧ n ≤ 28 then (allL n.toNat, true) else ([], false)
theorem mAll_yes (n : Nat) (h : n ≤ 28) : mAllPiles n = (allL n, true) := by unfold mAllPiles; rw [if_pos (by omega)]; rfl
theorem mAll_no (n : Int) (h : ¬ (0 ≤ n ∧ n ≤ 28)) : mAllPiles n = ([], false) := by unfold mAllPiles; rw [if_neg h]
end Go.Proofs.YthmaggmhcfcojaaDoor
