/- A step of piles: plain mathematics. No condition. -/
import Derived.Test.YthmaggmhcfcojaaDoorSide
namespace Go.Proofs.YthmaggmhcfcojaaDoor
set_option linter.unusedVariables false
set_option linter.unusedSimpArgs false

/-- all numbers so that they do not rise -/
def sortD (xs : List Int) : List Int := xs.mergeSort (fun x y => decide (y ≤ x))
theorem sortD_perm (xs : List Int) : (sortD xs).Perm xs := List.mergeSort_perm _ _
theorem sortD_sorted (xs : List Int) : (sortD xs).Pairwise (· ≥ ·) := by
  have := List.pairwise_mergeSort (le := fun (x y : Int) => decide (y ≤ x)) (fun a b c h1 h2 => by simp at *; omega) (fun a b => by simp; omega) xs
  exact this.imp (fun {a b} h => by simp at h; show a ≥ b; omega)
/-- two lists that do not rise and have the same numbers are one -/
theorem sorted_unique {xs ys : List Int} (h1 : xs.Pairwise (· ≥ ·)) (h2 : ys.Pairwise (· ≥ ·)) (hp : xs.Perm ys) : xs = ys :=
  List.Perm.eq_of_pairwise (fun a b _ _ h h' => by have h : a ≥ b := h; have h' : b ≥ a := h'; omega) h1 h2 hp
theorem sortD_unique {xs ys : List Int} (h1 : ys.Pairwise (· ≥ ·)) (hp : ys.Perm xs) : ys = sortD xs := sorted_unique h1 (sortD_sorted xs) (hp.trans (sortD_perm xs).symm)
theorem sortD_nil : sortD [] = [] := by unfold sortD; simp
theorem sortD_perm_eq {xs ys : List Int} (h : xs.Perm ys) : sortD xs = sortD ys := sortD_unique (sortD_sorted xs) ((sortD_perm xs).trans h)
theorem sortD_length (xs : List Int) : (sortD xs).length = xs.length := (sortD_perm xs).length_eq
theorem sortD_of_sorted {xs : List Int} (h : xs.Pairwise (· ≥ ·)) : sortD xs = xs := (sortD_unique h (List.Perm.refl _)).symm

theorem perm_sum {xs ys : List Int} (h : xs.Perm ys) : xs.sum = ys.sum := by
  induction h with
  | nil => rfl
  | cons x _ ih => simp only [List.sum_cons, ih]
  | swap x y l => simp only [List.sum_cons]; omega
  | trans _ _ ih1 ih2 => rw [ih1, ih2]

/-- one number put in its place -/
theorem put_eq {xs : List Int} {n : Int} {k : Nat} (hs : xs.Pairwise (· ≥ ·)) (h1 : ∀ x ∈ xs.take k, n ≤ x) (h2 : ∀ x ∈ xs.drop k, x ≤ n) : xs.take k ++ [n] ++ xs.drop k = sortD (xs ++ [n]) := by
  refine sortD_unique ?_ ?_
  · have hsp := hs
    rw [← List.take_append_drop k xs, List.pairwise_append] at hsp
    rw [List.append_assoc, List.pairwise_append]
    refine ⟨hsp.1, ?_, fun a ha b hb => ?_⟩
    · rw [List.singleton_append, List.pairwise_cons]
      exact ⟨fun a ha => h2 a ha, hsp.2.1⟩
    · rcases List.mem_append.1 hb with h | h
      · rw [List.mem_singleton.1 h]; exact h1 a ha
      · exact hsp.2.2 a ha b h
  · have : (xs.take k ++ [n] ++ xs.drop k).Perm (xs.take k ++ (xs.drop k ++ [n])) := by
      rw [List.append_assoc]
      exact List.Perm.append_left _ List.perm_append_comm
    refine this.trans ?_
    rw [← List.append_assoc, List.take_append_drop]

/-- the piles behind a step, before the new one is put in -/
def lowL (xs : List Int) : List Int := (xs.filter (fun x => decide (1 < x))).map (· - 1)
theorem lowL_snoc (xs : List Int) (x : Int) : lowL (xs ++ [x]) = lowL xs ++ if 1 < x then [x - 1] else [] := by
  unfold lowL
  rw [List.filter_append, List.map_append]
  by_cases h : 1 < x <;> simp [h, List.filter_cons]
theorem lowL_length (xs : List Int) : (lowL xs).length ≤ xs.length := by
  unfold lowL; rw [List.length_map]; exact List.length_filter_le _ _
theorem lowL_mem {xs : List Int} {x : Int} (h : x ∈ lowL xs) : ∃ y ∈ xs, 1 < y ∧ x = y - 1 := by
  unfold lowL at h
  obtain ⟨y, hy, rfl⟩ := List.mem_map.1 h
  obtain ⟨hy1, hy2⟩ := List.mem_filter.1 hy
  exact ⟨y, hy1, by simpa using hy2, rfl⟩
theorem lowL_sorted {xs : List Int} (h : xs.Pairwise (· ≥ ·)) : (lowL xs).Pairwise (· ≥ ·) := by
  unfold lowL
  rw [List.pairwise_map]
  exact (h.filter _).imp (fun {a b} h => by have h : a ≥ b := h; show a - 1 ≥ b - 1; omega)
theorem lowL_sum {xs : List Int} (h : ∀ x ∈ xs, 1 ≤ x) : (lowL xs).sum = xs.sum - xs.length := by
  induction xs with
  | nil => rfl
  | cons a l ih =>
    have ih := ih (fun x hx => h x (by simp [hx]))
    have ha := h a (by simp)
    unfold lowL at *
    by_cases h1 : 1 < a
    · rw [List.filter_cons_of_pos (by simpa using h1)]
      simp only [List.map_cons, List.sum_cons, List.length_cons, ih]; omega
    · rw [List.filter_cons_of_neg (by simpa using h1)]
      simp only [List.sum_cons, List.length_cons, ih]; omega

def stepL (xs : List Int) : List Int := if xs = [] then [] else sortD (lowL xs ++ [(xs.length : Int)])
theorem stepL_nil : stepL [] = [] := rfl
theorem stepL_cons {xs : List Int} (h : xs ≠ []) : stepL xs = sortD (lowL xs ++ [(xs.length : Int)]) := by unfold stepL; rw [if_neg h]
theorem stepL_sum {xs : List Int} (h : ∀ x ∈ xs, 1 ≤ x) : (stepL xs).sum = xs.sum := by
  by_cases hx : xs = []
  · subst hx; rfl
  · rw [stepL_cons hx, perm_sum (sortD_perm _), List.sum_append, lowL_sum h]
    simp only [List.sum_cons, List.sum_nil]; omega
theorem stepL_good {xs : List Int} (h : Good xs) : Good (stepL xs) := by
  by_cases hx : xs = []
  · subst hx; exact good_nil
  · refine ⟨fun x hm => ?_, ?_, by rw [stepL_sum h.1]; exact h.2.2⟩
    · rw [stepL_cons hx] at hm
      rcases List.mem_append.1 ((sortD_perm _).mem_iff.1 hm) with hl | hl
      · obtain ⟨y, _, h1, rfl⟩ := lowL_mem hl; omega
      · rw [List.mem_singleton.1 hl]
        have : xs.length ≠ 0 := fun e => hx (List.eq_nil_of_length_eq_zero e)
        omega
    · rw [stepL_cons hx]; exact sortD_sorted _
/-- the piles behind k steps -/
def stepsL : Nat → List Int → List Int
  | 0, xs => xs
  | k + 1, xs => stepL (stepsL k xs)
theorem stepsL_good {xs : List Int} (h : Good xs) (k : Nat) : Good (stepsL k xs) := by
  induction k with
  | zero => exact h
  | succ k ih => exact stepL_good ih

/-! ### A step of a row -/
def rowStepL (xs : List Int) : List Int := if xs = [] then [] else (xs.length : Int) :: lowL xs
theorem rowStepL_nil : rowStepL [] = [] := rfl
theorem rowStepL_cons {xs : List Int} (h : xs ≠ []) : rowStepL xs = (xs.length : Int) :: lowL xs := by unfold rowStepL; rw [if_neg h]
theorem lowL_pos {xs : List Int} {x : Int} (h : x ∈ lowL xs) : 1 ≤ x := by
  obtain ⟨y, _, h1, rfl⟩ := lowL_mem h
  omega
theorem rowStepL_row {xs : List Int} (h : RowOk xs) : RowOk (rowStepL xs) := by
  by_cases hx : xs = []
  · subst hx; exact row_nil
  · rw [rowStepL_cons hx]
    have hl : 1 ≤ xs.length := List.length_pos_iff.2 hx
    refine ⟨fun x hm => ?_, ?_⟩
    · rcases List.mem_cons.1 hm with rfl | hm
      · omega
      · exact lowL_pos hm
    · rw [List.sum_cons, lowL_sum h.1]
      have := h.2
      omega
theorem stepL_row (xs : List Int) : stepL xs = sortD (rowStepL xs) := by
  by_cases hx : xs = []
  · subst hx; rw [stepL_nil, rowStepL_nil, sortD_nil]
  · rw [stepL_cons hx, rowStepL_cons hx]
    exact sortD_perm_eq (List.perm_append_singleton _ _)

end Go.Proofs.YthmaggmhcfcojaaDoor
