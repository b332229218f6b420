/- Piles as lists of numbers: what the functions of chapter 1 come to. Plain mathematics; no condition. -/
import Derived.Lib.Hide
namespace Go.Proofs.YthmaggmhcfcojaaDoor
set_option linter.unusedVariables false
set_option linter.unusedSimpArgs false

def Good (xs : List Int) : Prop := (∀ x ∈ xs, 1 ≤ x) ∧ xs.Pairwise (· ≥ ·) ∧ xs.sum ≤ 28
instance (xs : List Int) : Decidable (Good xs) := by unfold Good; infer_instance
def goodB (xs : List Int) : Bool := decide (Good xs)

theorem good_iff {xs : List Int} : goodB xs = true ↔ Good xs := by unfold goodB; simp

theorem sum_nonneg {xs : List Int} (h : ∀ x ∈ xs, 1 ≤ x) : (xs.length : Int) ≤ xs.sum := by
  induction xs with
  | nil => simp
  | cons a l ih =>
    have := h a (by simp)
    have := ih (fun x hx => h x (by simp [hx]))
    simp only [List.length_cons, List.sum_cons]
    omega

theorem mem_le_sum {xs : List Int} (h : ∀ x ∈ xs, 1 ≤ x) {x : Int} (hx : x ∈ xs) : x ≤ xs.sum := by
  induction xs with
  | nil => cases hx
  | cons a l ih =>
    have h1 := h a (by simp)
    have h2 := sum_nonneg (fun x hx => h x (List.mem_cons_of_mem a hx) : ∀ x ∈ l, 1 ≤ x)
    simp only [List.sum_cons]
    rcases List.mem_cons.1 hx with rfl | hm
    · omega
    · have := ih (fun x hx => h x (by simp [hx])) hm
      omega

theorem Good.len {xs : List Int} (h : Good xs) : xs.length ≤ 28 := by have := sum_nonneg h.1; have := h.2.2; omega
theorem Good.mem {xs : List Int} (h : Good xs) {x : Int} (hx : x ∈ xs) : 1 ≤ x ∧ x ≤ 28 := ⟨h.1 x hx, by have := mem_le_sum h.1 hx; have := h.2.2; omega⟩

theorem Good.pre {xs ys : List Int} (h : Good (xs ++ ys)) : Good xs := by
  obtain ⟨h1, h2, h3⟩ := h
  refine ⟨fun x hx => h1 x (by simp [hx]), (List.pairwise_append.1 h2).1, ?_⟩
  have := sum_nonneg (fun x hx => h1 x (by simp [hx]) : ∀ x ∈ ys, 1 ≤ x)
  rw [List.sum_append] at h3
  omega

theorem Good.take {xs : List Int} (h : Good xs) (k : Nat) : Good (xs.take k) := by
  rw [← List.take_append_drop k xs] at h
  exact h.pre

/-- one more number behind good ones -/
theorem good_snoc {xs : List Int} {x : Int} (h : Good xs) : Good (xs ++ [x]) ↔ 1 ≤ x ∧ x ≤ 28 - xs.sum ∧ (∀ y, xs.getLast? = some y → x ≤ y) := by
  constructor
  · intro hg
    obtain ⟨h1, h2, h3⟩ := hg
    refine ⟨h1 x (by simp), by simp at h3; omega, fun y hy => ?_⟩
    have := (List.pairwise_append.1 h2).2.2 y (List.mem_of_getLast? hy) x (by simp)
    exact this
  · rintro ⟨h1, h2, h3⟩
    refine ⟨fun y hy => ?_, ?_, by simp; omega⟩
    · rcases List.mem_append.1 hy with h' | h'
      · exact h.1 y h'
      · simp at h'; omega
    · rw [List.pairwise_append]
      refine ⟨h.2.1, by simp, fun a ha b hb => ?_⟩
      simp at hb
      subst hb
      rcases List.eq_nil_or_concat xs with rfl | ⟨l, c, e⟩
      · cases ha
      · rw [List.concat_eq_append] at e
        subst e
        have hc := h3 c (by simp)
        rcases List.mem_append.1 ha with h' | h'
        · have := (List.pairwise_append.1 h.2.1).2.2 a h' c (by simp)
          show a ≥ b
          have : a ≥ c := this
          omega
        · simp at h'; subst h'; exact hc

theorem getLast_take {xs : List Int} {k n : Nat} {y : Int} (hk : 0 < k) (hn : k ≤ n) (hl : xs.length = n) (hy : xs.getD (k - 1) 0 = y) : (xs.take k).getLast? = some y := by
  subst hl hy
  rw [List.getLast?_eq_getElem?, List.length_take, Nat.min_eq_left hn, List.getElem?_take, if_pos (by omega), List.getD_eq_getElem?_getD, List.getElem?_eq_getElem (by omega)]
  rfl

theorem good_nil : Good [] := ⟨by simp, by simp, by simp⟩

/-- the round of IsPiles -/
theorem good_round {xs : List Int} {k n : Nat} {t x : Int} (hn : k < n) (hl : xs.length = n) (hx : xs.getD k 0 = x) (ht : (xs.take k).sum = t) (hg : Good (xs.take k))
    (h1 : 1 ≤ x) (h2 : x ≤ 28 - t) (h3 : k = 0 ∨ ∃ y, xs.getD (k - 1) 0 = y ∧ x ≤ y) : Good (xs.take (k + 1)) ∧ (xs.take (k + 1)).sum = t + x ∧ 0 ≤ t := by
  have e : xs.take (k + 1) = xs.take k ++ [x] := by
    subst hx hl
    rw [List.take_add_one, List.getElem?_eq_getElem hn, List.getD_eq_getElem?_getD, List.getElem?_eq_getElem hn]
    rfl
  have h0 := sum_nonneg hg.1
  refine ⟨?_, by rw [e, List.sum_append, ht]; simp, by omega⟩
  rw [e, good_snoc hg]
  refine ⟨h1, by omega, fun y hy => ?_⟩
  rcases Nat.eq_zero_or_pos k with rfl | hk
  · simp at hy
  · rcases h3 with h3 | ⟨z, hz, hxz⟩
    · omega
    · rw [getLast_take hk (by omega) hl hz] at hy
      cases hy
      exact hxz

/-- where the round of IsPiles says no -/
theorem bad_round {xs : List Int} {k n : Nat} {t x : Int} (hn : k < n) (hl : xs.length = n) (hx : xs.getD k 0 = x) (ht : (xs.take k).sum = t)
    (h : x < 1 ∨ 28 - t < x ∨ (0 < k ∧ ∃ y, xs.getD (k - 1) 0 = y ∧ y < x)) : ¬ Good xs := by
  intro hg
  have e : xs.take (k + 1) = xs.take k ++ [x] := by
    subst hx hl
    rw [List.take_add_one, List.getElem?_eq_getElem hn, List.getD_eq_getElem?_getD, List.getElem?_eq_getElem hn]
    rfl
  have h1 := hg.take (k + 1)
  rw [e] at h1
  have h2 := (good_snoc h1.pre).1 h1
  rcases h with h | h | ⟨hk, z, hz, hxz⟩
  · omega
  · omega
  · have := h2.2.2 z (getLast_take hk (by omega) hl hz)
    omega

/-! ### piGood's own way -/
theorem good_spec {xs : List Int} : Good xs ↔ xs.length ≤ 28 ∧ (∀ x ∈ xs, 1 ≤ x ∧ x ≤ 28) ∧ (∀ k, 0 < k → k < xs.length → xs.getD k 0 ≤ xs.getD (k - 1) 0) ∧ xs.sum ≤ 28 := by
  constructor
  · intro h
    refine ⟨h.len, fun x hx => h.mem hx, fun k hk hl => ?_, h.2.2⟩
    have := List.pairwise_iff_getElem.1 h.2.1 (k - 1) k (by omega) hl (by omega)
    rw [List.getD_eq_getElem?_getD, List.getElem?_eq_getElem (by omega), List.getD_eq_getElem?_getD, List.getElem?_eq_getElem (by omega)]
    exact this
  · rintro ⟨_, h2, h3, h4⟩
    refine ⟨fun x hx => (h2 x hx).1, ?_, h4⟩
    rw [List.pairwise_iff_getElem]
    intro i j hi hj hij
    have key : ∀ d i, i + d < xs.length → xs.getD (i + d) 0 ≤ xs.getD i 0 := by
      intro d
      induction d with
      | zero => intro i _; exact Int.le_refl _
      | succ d ih =>
        intro i hi
        have := ih i (by omega)
        have h5 := h3 (i + (d + 1)) (by omega) hi
        rw [show i + (d + 1) - 1 = i + d by omega] at h5
        omega
    have := key (j - i) i (by omega)
    rw [show i + (j - i) = j by omega, List.getD_eq_getElem?_getD, List.getElem?_eq_getElem hj, List.getD_eq_getElem?_getD, List.getElem?_eq_getElem hi] at this
    exact this

/-! ### Rows -/
def RowOk (xs : List Int) : Prop := (∀ x ∈ xs, 1 ≤ x) ∧ xs.sum ≤ 28
instance (xs : List Int) : Decidable (RowOk xs) := by unfold RowOk; infer_instance
def rowB (xs : List Int) : Bool := decide (RowOk xs)
theorem row_iff {xs : List Int} : rowB xs = true ↔ RowOk xs := by unfold rowB; simp
theorem Good.row {xs : List Int} (h : Good xs) : RowOk xs := ⟨h.1, h.2.2⟩
theorem RowOk.len {xs : List Int} (h : RowOk xs) : xs.length ≤ 28 := by have := sum_nonneg h.1; have := h.2; omega
theorem RowOk.mem {xs : List Int} (h : RowOk xs) {x : Int} (hx : x ∈ xs) : 1 ≤ x ∧ x ≤ 28 := ⟨h.1 x hx, by have := mem_le_sum h.1 hx; have := h.2; omega⟩
theorem RowOk.pre {xs ys : List Int} (h : RowOk (xs ++ ys)) : RowOk xs := by
  obtain ⟨h1, h3⟩ := h
  refine ⟨fun x hx => h1 x (by simp [hx]), ?_⟩
  have := sum_nonneg (fun x hx => h1 x (by simp [hx]) : ∀ x ∈ ys, 1 ≤ x)
  rw [List.sum_append] at h3
  omega
theorem RowOk.take {xs : List Int} (h : RowOk xs) (k : Nat) : RowOk (xs.take k) := by
  rw [← List.take_append_drop k xs] at h
  exact h.pre
theorem row_nil : RowOk [] := ⟨by simp, by simp⟩
theorem row_snoc {xs : List Int} {x : Int} (h : RowOk xs) : RowOk (xs ++ [x]) ↔ 1 ≤ x ∧ x ≤ 28 - xs.sum := by
  constructor
  · intro hg
    exact ⟨hg.1 x (by simp), by have := hg.2; simp at this; omega⟩
  · rintro ⟨h1, h2⟩
    refine ⟨fun y hy => ?_, by simp; omega⟩
    rcases List.mem_append.1 hy with h' | h'
    · exact h.1 y h'
    · simp at h'; omega
theorem good_row_sorted {xs : List Int} (hs : ∀ k, 0 < k → k < xs.length → xs.getD k 0 ≤ xs.getD (k - 1) 0) : goodB xs = rowB xs := by
  unfold goodB rowB
  rw [decide_eq_decide, good_spec]
  exact ⟨fun h => ⟨fun x hx => (h.2.1 x hx).1, h.2.2.2⟩, fun h => ⟨h.len, fun x hx => h.mem hx, hs, h.2⟩⟩
theorem rowB_of_goodB {xs : List Int} (h : goodB xs = true) : rowB xs = true := row_iff.2 (good_iff.1 h).row

end Go.Proofs.YthmaggmhcfcojaaDoor
