/- Several texts in one: Math, Count, Side, StepM, MathC, MathD, AllM, LawM, OrbM, OrbN, MeetM, FirstM, FirstC, ByTailM, SrtM. No condition. -/
import Derived.Lib.Hide
namespace Go.Proofs.YtimmjimeldejjaaGreatDoor
section
set_option linter.unusedVariables false
set_option linter.unusedSimpArgs false

def Good (xs : List Int) : Prop := (∀ x ∈ xs, 1 ≤ x) ∧ xs.Pairwise (· ≥ ·) ∧ xs.sum ≤ 28
instance (xs : List Int) : Decidable (Good xs) := by unfold Good; infer_instance
def goodB (xs : List Int) : Bool := decide (Good xs)

theorem good_iff {xs : List Int} : goodB xs = true ↔ Good xs := by unfold goodB; simp

theorem sum_nonneg {xs : List Int} (h : ∀ x ∈ xs, 1 ≤ x) : (xs.length : Int) ≤ xs.sum := by
  induction xs with
  | nil => simp
  | cons a l ih =>
    have := h a (by simp)
    have := ih (fun x hx => h x (by simp [hx]))
    simp only [List.length_cons, List.sum_cons]
    omega

theorem mem_le_sum {xs : List Int} (h : ∀ x ∈ xs, 1 ≤ x) {x : Int} (hx : x ∈ xs) : x ≤ xs.sum := by
  induction xs with
  | nil => cases hx
  | cons a l ih =>
    have h1 := h a (by simp)
    have h2 := sum_nonneg (fun x hx => h x (List.mem_cons_of_mem a hx) : ∀ x ∈ l, 1 ≤ x)
    simp only [List.sum_cons]
    rcases List.mem_cons.1 hx with rfl | hm
    · omega
    · have := ih (fun x hx => h x (by simp [hx])) hm
      omega

theorem Good.len {xs : List Int} (h : Good xs) : xs.length ≤ 28 := by have := sum_nonneg h.1; have := h.2.2; omega
theorem Good.mem {xs : List Int} (h : Good xs) {x : Int} (hx : x ∈ xs) : 1 ≤ x ∧ x ≤ 28 := ⟨h.1 x hx, by have := mem_le_sum h.1 hx; have := h.2.2; omega⟩

theorem Good.pre {xs ys : List Int} (h : Good (xs ++ ys)) : Good xs := by
  obtain ⟨h1, h2, h3⟩ := h
  refine ⟨fun x hx => h1 x (by simp [hx]), (List.pairwise_append.1 h2).1, ?_⟩
  have := sum_nonneg (fun x hx => h1 x (by simp [hx]) : ∀ x ∈ ys, 1 ≤ x)
  rw [List.sum_append] at h3
  omega

theorem Good.take {xs : List Int} (h : Good xs) (k : Nat) : Good (xs.take k) := by
  rw [← List.take_append_drop k xs] at h
  exact h.pre

/-- one more number behind good ones -/
theorem good_snoc {xs : List Int} {x : Int} (h : Good xs) : Good (xs ++ [x]) ↔ 1 ≤ x ∧ x ≤ 28 - xs.sum ∧ (∀ y, xs.getLast? = some y → x ≤ y) := by
  constructor
  · intro hg
    obtain ⟨h1, h2, h3⟩ := hg
    refine ⟨h1 x (by simp), by simp at h3; omega, fun y hy => ?_⟩
    have := (List.pairwise_append.1 h2).2.2 y (List.mem_of_getLast? hy) x (by simp)
    exact this
  · rintro ⟨h1, h2, h3⟩
    refine ⟨fun y hy => ?_, ?_, by simp; omega⟩
    · rcases List.mem_append.1 hy with h' | h'
      · exact h.1 y h'
      · simp at h'; omega
    · rw [List.pairwise_append]
      refine ⟨h.2.1, by simp, fun a ha b hb => ?_⟩
      simp at hb
      subst hb
      rcases List.eq_nil_or_concat xs with rfl | ⟨l, c, e⟩
      · cases ha
      · rw [List.concat_eq_append] at e
        subst e
        have hc := h3 c (by simp)
        rcases List.mem_append.1 ha with h' | h'
        · have := (List.pairwise_append.1 h.2.1).2.2 a h' c (by simp)
          show a ≥ b
          have : a ≥ c := this
          omega
        · simp at h'; subst h'; exact hc

theorem getLast_take {xs : List Int} {k n : Nat} {y : Int} (hk : 0 < k) (hn : k ≤ n) (hl : xs.length = n) (hy : xs.getD (k - 1) 0 = y) : (xs.take k).getLast? = some y := by
  subst hl hy
  rw [List.getLast?_eq_getElem?, List.length_take, Nat.min_eq_left hn, List.getElem?_take, if_pos (by omega), List.getD_eq_getElem?_getD, List.getElem?_eq_getElem (by omega)]
  rfl

theorem good_nil : Good [] := ⟨by simp, by simp, by simp⟩

/-- the round of IsPiles -/
theorem good_round {xs : List Int} {k n : Nat} {t x : Int} (hn : k < n) (hl : xs.length = n) (hx : xs.getD k 0 = x) (ht : (xs.take k).sum = t) (hg : Good (xs.take k))
    (h1 : 1 ≤ x) (h2 : x ≤ 28 - t) (h3 : k = 0 ∨ ∃ y, xs.getD (k - 1) 0 = y ∧ x ≤ y) : Good (xs.take (k + 1)) ∧ (xs.take (k + 1)).sum = t + x ∧ 0 ≤ t := by
  have e : xs.take (k + 1) = xs.take k ++ [x] := by
    subst hx hl
    rw [List.take_add_one, List.getElem?_eq_getElem hn, List.getD_eq_getElem?_getD, List.getElem?_eq_getElem hn]
    rfl
  have h0 := sum_nonneg hg.1
  refine ⟨?_, by rw [e, List.sum_append, ht]; simp, by omega⟩
  rw [e, good_snoc hg]
  refine ⟨h1, by omega, fun y hy => ?_⟩
  rcases Nat.eq_zero_or_pos k with rfl | hk
  · simp at hy
  · rcases h3 with h3 | ⟨z, hz, hxz⟩
    · omega
    · rw [getLast_take hk (by omega) hl hz] at hy
      cases hy
      exact hxz

/-- where the round of IsPiles says no -/
theorem bad_round {xs : List Int} {k n : Nat} {t x : Int} (hn : k < n) (hl : xs.length = n) (hx : xs.getD k 0 = x) (ht : (xs.take k).sum = t)
    (h : x < 1 ∨ 28 - t < x ∨ (0 < k ∧ ∃ y, xs.getD (k - 1) 0 = y ∧ y < x)) : ¬ Good xs := by
  intro hg
  have e : xs.take (k + 1) = xs.take k ++ [x] := by
    subst hx hl
    rw [List.take_add_one, List.getElem?_eq_getElem hn, List.getD_eq_getElem?_getD, List.getElem?_eq_getElem hn]
    rfl
  have h1 := hg.take (k + 1)
  rw [e] at h1
  have h2 := (good_snoc h1.pre).1 h1
  rcases h with h | h | ⟨hk, z, hz, hxz⟩
  · omega
  · omega
  · have := h2.2.2 z (getLast_take hk (by omega) hl hz)
    omega

/-! ### piGood's own way -/
theorem good_spec {xs : List Int} : Good xs ↔ xs.length ≤ 28 ∧ (∀ x ∈ xs, 1 ≤ x ∧ x ≤ 28) ∧ (∀ k, 0 < k → k < xs.length → xs.getD k 0 ≤ xs.getD (k - 1) 0) ∧ xs.sum ≤ 28 := by
  constructor
  · intro h
    refine ⟨h.len, fun x hx => h.mem hx, fun k hk hl => ?_, h.2.2⟩
    have := List.pairwise_iff_getElem.1 h.2.1 (k - 1) k (by omega) hl (by omega)
    rw [List.getD_eq_getElem?_getD, List.getElem?_eq_getElem (by omega), List.getD_eq_getElem?_getD, List.getElem?_eq_getElem (by omega)]
    exact this
  · rintro ⟨_, h2, h3, h4⟩
    refine ⟨fun x hx => (h2 x hx).1, ?_, h4⟩
    rw [List.pairwise_iff_getElem]
    intro i j hi hj hij
    have key : ∀ d i, i + d < xs.length → xs.getD (i + d) 0 ≤ xs.getD i 0 := by
      intro d
      induction d with
      | zero => intro i _; exact Int.le_refl _
      | succ d ih =>
        intro i hi
        have := ih i (by omega)
        have h5 := h3 (i + (d + 1)) (by omega) hi
        rw [show i + (d + 1) - 1 = i + d by omega] at h5
        omega
    have := key (j - i) i (by omega)
    rw [show i + (j - i) = j by omega, List.getD_eq_getElem?_getD, List.getElem?_eq_getElem hj, List.getD_eq_getElem?_getD, List.getElem?_eq_getElem hi] at this
    exact this

/-! ### Rows -/
def RowOk (xs : List Int) : Prop := (∀ x ∈ xs, 1 ≤ x) ∧ xs.sum ≤ 28
instance (xs : List Int) : Decidable (RowOk xs) := by unfold RowOk; infer_instance
def rowB (xs : List Int) : Bool := decide (RowOk xs)
theorem row_iff {xs : List Int} : rowB xs = true ↔ RowOk xs := by unfold rowB; simp
theorem Good.row {xs : List Int} (h : Good xs) : RowOk xs := ⟨h.1, h.2.2⟩
theorem RowOk.len {xs : List Int} (h : RowOk xs) : xs.length ≤ 28 := by have := sum_nonneg h.1; have := h.2; omega
theorem RowOk.mem {xs : List Int} (h : RowOk xs) {x : Int} (hx : x ∈ xs) : 1 ≤ x ∧ x ≤ 28 := ⟨h.1 x hx, by have := mem_le_sum h.1 hx; have := h.2; omega⟩
theorem RowOk.pre {xs ys : List Int} (h : RowOk (xs ++ ys)) : RowOk xs := by
  obtain ⟨h1, h3⟩ := h
  refine ⟨fun x hx => h1 x (by simp [hx]), ?_⟩
  have := sum_nonneg (fun x hx => h1 x (by simp [hx]) : ∀ x ∈ ys, 1 ≤ x)
  rw [List.sum_append] at h3
  omega
theorem RowOk.take {xs : List Int} (h : RowOk xs) (k : Nat) : RowOk (xs.take k) := by
  rw [← List.take_append_drop k xs] at h
  exact h.pre
theorem row_nil : RowOk [] := ⟨by simp, by simp⟩
theorem row_snoc {xs : List Int} {x : Int} (h : RowOk xs) : RowOk (xs ++ [x]) ↔ 1 ≤ x ∧ x ≤ 28 - xs.sum := by
  constructor
  · intro hg
    exact ⟨hg.1 x (by simp), by have := hg.2; simp at this; omega⟩
  · rintro ⟨h1, h2⟩
    refine ⟨fun y hy => ?_, by simp; omega⟩
    rcases List.mem_append.1 hy with h' | h'
    · exact h.1 y h'
    · simp at h'; omega
theorem good_row_sorted {xs : List Int} (hs : ∀ k, 0 < k → k < xs.length → xs.getD k 0 ≤ xs.getD (k - 1) 0) : goodB xs = rowB xs := by
  unfold goodB rowB
  rw [decide_eq_decide, good_spec]
  exact ⟨fun h => ⟨fun x hx => (h.2.1 x hx).1, h.2.2.2⟩, fun h => ⟨h.len, fun x hx => h.mem hx, hs, h.2⟩⟩
theorem rowB_of_goodB {xs : List Int} (h : goodB xs = true) : rowB xs = true := row_iff.2 (good_iff.1 h).row

end
end Go.Proofs.YtimmjimeldejjaaGreatDoor
namespace Go.Proofs.YtimmjimeldejjaaGreatDoor
section
set_option linter.unusedVariables false
set_option linter.unusedSimpArgs false

/-- the next row of the table: piles of p cards more -/
def stepC (l : List Nat) (p : Nat) : List Nat := (List.range 29).foldl (fun acc c => acc ++ [l.getD c 0 + if p ≤ c then acc.getD (c - p) 0 else 0]) []
def crow : Nat → List Nat
  | 0 => 1 :: List.replicate 28 0
  | m + 1 => stepC (crow m) (m + 1)
/-- how many piles of n cards there are, none greater than m (m, n at most 28) -/
def cnt (m n : Nat) : Nat := (crow m).getD n 0

theorem cnt_rec : ∀ m, m < 28 → ∀ n, n < 29 → cnt (m + 1) n = cnt m n + if m + 1 ≤ n then cnt (m + 1) (n - (m + 1)) else 0 := by decide +kernel
theorem cnt_le : ∀ m, m < 29 → ∀ n, n < 29 → cnt m n ≤ 3718 := by decide +kernel
theorem cnt_zero : ∀ m, m < 29 → cnt m 0 = 1 := by decide +kernel
theorem cnt_none : ∀ n, n < 29 → cnt 0 n = if n = 0 then 1 else 0 := by decide +kernel
/-- a greater bound than the cards changes nothing -/
theorem cnt_big : ∀ m, m < 29 → ∀ n, n ≤ m → cnt m n = cnt n n := by decide +kernel
theorem cnt_mono : ∀ m, m < 28 → ∀ n, n < 29 → cnt m n ≤ cnt (m + 1) n := by decide +kernel

/-- the table in the round (p, c) -/
def tabP (p c n : Nat) : List Int := (List.range (n + 1)).map fun i => ((if i < c then cnt p i else cnt (p - 1) i : Nat) : Int)
theorem tabP_length (p c n : Nat) : (tabP p c n).length = n + 1 := by simp [tabP]
theorem tabP_getD (p c n i : Nat) (h : i ≤ n) : (tabP p c n).getD i 0 = ((if i < c then cnt p i else cnt (p - 1) i : Nat) : Int) := by
  unfold tabP
  rw [List.getD_eq_getElem?_getD, List.getElem?_map, List.getElem?_range (by omega)]
  rfl
theorem tabP_set (p c n : Nat) (h1 : 1 ≤ p) (hp : p < 29) (hpc : p ≤ c) (hc : c ≤ n) (hn : n < 29) (q : Int) (hq : q = (cnt (p - 1) c : Int) + (cnt p (c - p) : Int)) :
    (tabP p c n).set c q = tabP p (c + 1) n := by
  have hr := cnt_rec (p - 1) (by omega) c (by omega)
  rw [show p - 1 + 1 = p by omega, if_pos hpc] at hr
  apply List.ext_getElem
  · simp [tabP_length]
  · intro i h2 h3
    simp [tabP_length] at h2
    rw [List.getElem_set]
    split
    · next e => subst e; simp only [tabP, List.getElem_map, List.getElem_range]; rw [if_pos (by omega), hq, hr]; simp
    · next e =>
      simp only [tabP, List.getElem_map, List.getElem_range]
      by_cases hi : i < c
      · rw [if_pos hi, if_pos (by omega)]
      · rw [if_neg hi, if_neg (by omega)]
theorem tabP_start (p n : Nat) (h1 : 1 ≤ p) (hp : p < 29) (hn : n < 29) : tabP p p n = tabP (p - 1) (n + 1) n := by
  apply List.ext_getElem
  · simp [tabP_length]
  · intro i h2 h3
    simp [tabP_length] at h2
    simp only [tabP, List.getElem_map, List.getElem_range]
    rw [if_pos (show i < n + 1 by omega)]
    by_cases hi : i < p
    · have hr := cnt_rec (p - 1) (by omega) i (by omega)
      rw [show p - 1 + 1 = p by omega, if_neg (by omega)] at hr
      rw [if_pos hi, hr]; simp
    · rw [if_neg hi]
theorem tabP_high (p c n : Nat) (h : n < c) : tabP p c n = tabP p (n + 1) n := by
  apply List.ext_getElem
  · simp [tabP_length]
  · intro i h2 h3
    simp [tabP_length] at h2
    simp only [tabP, List.getElem_map, List.getElem_range]
    rw [if_pos (by omega), if_pos (by omega)]
theorem tabP_zero (n : Nat) (hn : n < 29) : (List.replicate (n + 1) (0 : Int)).set 0 1 = tabP 0 (n + 1) n := by
  apply List.ext_getElem
  · simp [tabP_length]
  · intro i h2 h3
    simp [tabP_length] at h2 h3
    simp only [tabP, List.getElem_map, List.getElem_range]
    rw [if_pos (by omega), cnt_none i (by omega), List.getElem_set]
    by_cases h : i = 0
    · subst h; rfl
    · rw [if_neg (by omega), if_neg h]; simp

/-! ### Staircases -/
def hgt (n : Nat) : Nat := if n < 1 then 0 else if n < 3 then 1 else if n < 6 then 2 else if n < 10 then 3 else if n < 15 then 4 else if n < 21 then 5 else if n < 28 then 6 else 7
theorem hgt_cases (n : Nat) (h : n ≤ 28) : (n < 1 ∧ hgt n = 0) ∨ (1 ≤ n ∧ n < 3 ∧ hgt n = 1) ∨ (3 ≤ n ∧ n < 6 ∧ hgt n = 2) ∨ (6 ≤ n ∧ n < 10 ∧ hgt n = 3) ∨ (10 ≤ n ∧ n < 15 ∧ hgt n = 4) ∨ (15 ≤ n ∧ n < 21 ∧ hgt n = 5) ∨ (21 ≤ n ∧ n < 28 ∧ hgt n = 6) ∨ (n = 28 ∧ hgt n = 7) := by
  unfold hgt
  repeat' (first | omega | split)
def tri (k : Nat) : Nat := k * (k + 1) / 2
theorem hgt_le (n : Nat) : hgt n ≤ 7 := by unfold hgt; repeat' (first | omega | split)
theorem tri_hgt : ∀ n, n < 29 → tri (hgt n) ≤ n ∧ n - tri (hgt n) ≤ hgt n := by decide

end
end Go.Proofs.YtimmjimeldejjaaGreatDoor
namespace Go.Proofs.YtimmjimeldejjaaGreatDoor
section
set_option linter.unusedVariables false
set_option linter.unusedSimpArgs false

def above (xs : List Int) (i : Int) : Nat := xs.countP (fun x => decide (i < x))
theorem above_nil (i : Int) : above [] i = 0 := rfl
theorem above_snoc (xs : List Int) (x i : Int) : above (xs ++ [x]) i = above xs i + if i < x then 1 else 0 := by
  unfold above
  rw [List.countP_append, List.countP_singleton]
  simp
theorem above_le (xs : List Int) (i : Int) : above xs i ≤ xs.length := List.countP_le_length
def sideL (xs : List Int) : List Int := (List.range (xs.headD 0).toNat).map fun (i : Nat) => ((above xs i : Nat) : Int)
theorem sideL_length (xs : List Int) : (sideL xs).length = (xs.headD 0).toNat := by simp [sideL]
theorem sideL_getD (xs : List Int) (i : Nat) (h : i < (xs.headD 0).toNat) : (sideL xs).getD i 0 = ((above xs i : Nat) : Int) := by
  unfold sideL
  rw [List.getD_eq_getElem?_getD, List.getElem?_map, List.getElem?_range h]
  rfl
def mSideOf (xs : List Int) : List Int × Bool := (if goodB xs then sideL xs else [], goodB xs)
theorem head_getD (xs : List Int) : xs.headD 0 = xs.getD 0 0 := by cases xs <;> rfl
theorem Good.head {xs : List Int} (h : Good xs) : 0 ≤ xs.headD 0 ∧ xs.headD 0 ≤ 28 := by
  cases xs with
  | nil => simp
  | cons a l => have := h.mem (List.mem_cons_self (a := a) (l := l)); simp only [List.headD_cons]; omega
theorem mSideOf_bound (xs : List Int) : (mSideOf xs).1.length ≤ 1048576 := by
  unfold mSideOf
  cases hg : goodB xs
  · simp
  · simp only [if_true]
    have := (good_iff.1 hg).head
    rw [sideL_length]
    omega

/-- the marks of the first j piles, and of the next one's first i cards -/
def sideT (xs : List Int) (m j i : Nat) : List Int := (List.range m).map fun (q : Nat) => ((above (xs.take j) q + (if q < i then 1 else 0) : Nat) : Int)
theorem sideT_length (xs : List Int) (m j i : Nat) : (sideT xs m j i).length = m := by simp [sideT]
theorem sideT_getD (xs : List Int) (m j i q : Nat) (h : q < m) : (sideT xs m j i).getD q 0 = ((above (xs.take j) q + (if q < i then 1 else 0) : Nat) : Int) := by
  unfold sideT
  rw [List.getD_eq_getElem?_getD, List.getElem?_map, List.getElem?_range h]
  rfl
theorem sideT_zero (xs : List Int) (m : Nat) : List.replicate m (0 : Int) = sideT xs m 0 0 := by
  apply List.ext_getElem
  · simp [sideT_length]
  · intro i h1 h2
    simp [sideT, above_nil]
theorem sideT_set (xs : List Int) (m j i : Nat) (h : i < m) (q : Int) (hq : q = ((above (xs.take j) i : Nat) : Int) + 1) : (sideT xs m j i).set i q = sideT xs m j (i + 1) := by
  subst hq
  apply List.ext_getElem
  · simp [sideT_length]
  · intro r h1 h2
    simp [sideT_length] at h2
    rw [List.getElem_set]
    split
    · next e => subst e; simp only [sideT, List.getElem_map, List.getElem_range]; rw [if_pos (by omega)]; simp
    · next e =>
      simp only [sideT, List.getElem_map, List.getElem_range]
      by_cases hr : r < i
      · rw [if_pos hr, if_pos (by omega)]
      · rw [if_neg hr, if_neg (by omega)]
theorem sideT_next (xs : List Int) (m j n : Nat) (x : Int) (hj : j < n) (hl : xs.length = n) (hx : xs.getD j 0 = x) (h0 : 0 ≤ x) : sideT xs m j x.toNat = sideT xs m (j + 1) 0 := by
  have e : xs.take (j + 1) = xs.take j ++ [x] := by
    subst hx hl
    rw [List.take_add_one, List.getElem?_eq_getElem hj, List.getD_eq_getElem?_getD, List.getElem?_eq_getElem hj]
    rfl
  apply List.ext_getElem
  · simp [sideT_length]
  · intro r h1 h2
    simp [sideT_length] at h2
    simp only [sideT, List.getElem_map, List.getElem_range, e, above_snoc]
    by_cases hr : r < x.toNat
    · rw [if_pos hr, if_pos (by omega)]; simp
    · rw [if_neg hr, if_neg (by omega)]; simp
theorem sideT_all (xs : List Int) (n : Nat) (hl : xs.length = n) : sideT xs (xs.headD 0).toNat n 0 = sideL xs := by
  unfold sideT sideL
  rw [List.take_of_length_le (by omega)]
  simp
theorem good_le_head {xs : List Int} (h : Good xs) {x : Int} (hx : x ∈ xs) : x ≤ xs.headD 0 := by
  cases xs with
  | nil => cases hx
  | cons a l =>
    simp only [List.headD_cons]
    rcases List.mem_cons.1 hx with rfl | hm
    · omega
    · exact (List.pairwise_cons.1 h.2.1).1 x hm
end
end Go.Proofs.YtimmjimeldejjaaGreatDoor
namespace Go.Proofs.YtimmjimeldejjaaGreatDoor
section
set_option linter.unusedVariables false
set_option linter.unusedSimpArgs false

/-- all numbers so that they do not rise -/
def sortD (xs : List Int) : List Int := xs.mergeSort (fun x y => decide (y ≤ x))
theorem sortD_perm (xs : List Int) : (sortD xs).Perm xs := List.mergeSort_perm _ _
theorem sortD_sorted (xs : List Int) : (sortD xs).Pairwise (· ≥ ·) := by
  have := List.pairwise_mergeSort (le := fun (x y : Int) => decide (y ≤ x)) (fun a b c h1 h2 => by simp at *; omega) (fun a b => by simp; omega) xs
  exact this.imp (fun {a b} h => by simp at h; show a ≥ b; omega)
/-- two lists that do not rise and have the same numbers are one -/
theorem sorted_unique {xs ys : List Int} (h1 : xs.Pairwise (· ≥ ·)) (h2 : ys.Pairwise (· ≥ ·)) (hp : xs.Perm ys) : xs = ys :=
  List.Perm.eq_of_pairwise (fun a b _ _ h h' => by have h : a ≥ b := h; have h' : b ≥ a := h'; omega) h1 h2 hp
theorem sortD_unique {xs ys : List Int} (h1 : ys.Pairwise (· ≥ ·)) (hp : ys.Perm xs) : ys = sortD xs := sorted_unique h1 (sortD_sorted xs) (hp.trans (sortD_perm xs).symm)
theorem sortD_nil : sortD [] = [] := by unfold sortD; simp
theorem sortD_perm_eq {xs ys : List Int} (h : xs.Perm ys) : sortD xs = sortD ys := sortD_unique (sortD_sorted xs) ((sortD_perm xs).trans h)
theorem sortD_length (xs : List Int) : (sortD xs).length = xs.length := (sortD_perm xs).length_eq
theorem sortD_of_sorted {xs : List Int} (h : xs.Pairwise (· ≥ ·)) : sortD xs = xs := (sortD_unique h (List.Perm.refl _)).symm

theorem perm_sum {xs ys : List Int} (h : xs.Perm ys) : xs.sum = ys.sum := by
  induction h with
  | nil => rfl
  | cons x _ ih => simp only [List.sum_cons, ih]
  | swap x y l => simp only [List.sum_cons]; omega
  | trans _ _ ih1 ih2 => rw [ih1, ih2]

/-- one number put in its place -/
theorem put_eq {xs : List Int} {n : Int} {k : Nat} (hs : xs.Pairwise (· ≥ ·)) (h1 : ∀ x ∈ xs.take k, n ≤ x) (h2 : ∀ x ∈ xs.drop k, x ≤ n) : xs.take k ++ [n] ++ xs.drop k = sortD (xs ++ [n]) := by
  refine sortD_unique ?_ ?_
  · have hsp := hs
    rw [← List.take_append_drop k xs, List.pairwise_append] at hsp
    rw [List.append_assoc, List.pairwise_append]
    refine ⟨hsp.1, ?_, fun a ha b hb => ?_⟩
    · rw [List.singleton_append, List.pairwise_cons]
      exact ⟨fun a ha => h2 a ha, hsp.2.1⟩
    · rcases List.mem_append.1 hb with h | h
      · rw [List.mem_singleton.1 h]; exact h1 a ha
      · exact hsp.2.2 a ha b h
  · have : (xs.take k ++ [n] ++ xs.drop k).Perm (xs.take k ++ (xs.drop k ++ [n])) := by
      rw [List.append_assoc]
      exact List.Perm.append_left _ List.perm_append_comm
    refine this.trans ?_
    rw [← List.append_assoc, List.take_append_drop]

/-- the piles behind a step, before the new one is put in -/
def lowL (xs : List Int) : List Int := (xs.filter (fun x => decide (1 < x))).map (· - 1)
theorem lowL_snoc (xs : List Int) (x : Int) : lowL (xs ++ [x]) = lowL xs ++ if 1 < x then [x - 1] else [] := by
  unfold lowL
  rw [List.filter_append, List.map_append]
  by_cases h : 1 < x <;> simp [h, List.filter_cons]
theorem lowL_length (xs : List Int) : (lowL xs).length ≤ xs.length := by
  unfold lowL; rw [List.length_map]; exact List.length_filter_le _ _
theorem lowL_mem {xs : List Int} {x : Int} (h : x ∈ lowL xs) : ∃ y ∈ xs, 1 < y ∧ x = y - 1 := by
  unfold lowL at h
  obtain ⟨y, hy, rfl⟩ := List.mem_map.1 h
  obtain ⟨hy1, hy2⟩ := List.mem_filter.1 hy
  exact ⟨y, hy1, by simpa using hy2, rfl⟩
theorem lowL_sorted {xs : List Int} (h : xs.Pairwise (· ≥ ·)) : (lowL xs).Pairwise (· ≥ ·) := by
  unfold lowL
  rw [List.pairwise_map]
  exact (h.filter _).imp (fun {a b} h => by have h : a ≥ b := h; show a - 1 ≥ b - 1; omega)
theorem lowL_sum {xs : List Int} (h : ∀ x ∈ xs, 1 ≤ x) : (lowL xs).sum = xs.sum - xs.length := by
  induction xs with
  | nil => rfl
  | cons a l ih =>
    have ih := ih (fun x hx => h x (by simp [hx]))
    have ha := h a (by simp)
    unfold lowL at *
    by_cases h1 : 1 < a
    · rw [List.filter_cons_of_pos (by simpa using h1)]
      simp only [List.map_cons, List.sum_cons, List.length_cons, ih]; omega
    · rw [List.filter_cons_of_neg (by simpa using h1)]
      simp only [List.sum_cons, List.length_cons, ih]; omega

def stepL (xs : List Int) : List Int := if xs = [] then [] else sortD (lowL xs ++ [(xs.length : Int)])
theorem stepL_nil : stepL [] = [] := rfl
theorem stepL_cons {xs : List Int} (h : xs ≠ []) : stepL xs = sortD (lowL xs ++ [(xs.length : Int)]) := by unfold stepL; rw [if_neg h]
theorem stepL_sum {xs : List Int} (h : ∀ x ∈ xs, 1 ≤ x) : (stepL xs).sum = xs.sum := by
  by_cases hx : xs = []
  · subst hx; rfl
  · rw [stepL_cons hx, perm_sum (sortD_perm _), List.sum_append, lowL_sum h]
    simp only [List.sum_cons, List.sum_nil]; omega
theorem stepL_good {xs : List Int} (h : Good xs) : Good (stepL xs) := by
  by_cases hx : xs = []
  · subst hx; exact good_nil
  · refine ⟨fun x hm => ?_, ?_, by rw [stepL_sum h.1]; exact h.2.2⟩
    · rw [stepL_cons hx] at hm
      rcases List.mem_append.1 ((sortD_perm _).mem_iff.1 hm) with hl | hl
      · obtain ⟨y, _, h1, rfl⟩ := lowL_mem hl; omega
      · rw [List.mem_singleton.1 hl]
        have : xs.length ≠ 0 := fun e => hx (List.eq_nil_of_length_eq_zero e)
        omega
    · rw [stepL_cons hx]; exact sortD_sorted _
/-- the piles behind k steps -/
def stepsL : Nat → List Int → List Int
  | 0, xs => xs
  | k + 1, xs => stepL (stepsL k xs)
theorem stepsL_good {xs : List Int} (h : Good xs) (k : Nat) : Good (stepsL k xs) := by
  induction k with
  | zero => exact h
  | succ k ih => exact stepL_good ih

/-! ### A step of a row -/
def rowStepL (xs : List Int) : List Int := if xs = [] then [] else (xs.length : Int) :: lowL xs
theorem rowStepL_nil : rowStepL [] = [] := rfl
theorem rowStepL_cons {xs : List Int} (h : xs ≠ []) : rowStepL xs = (xs.length : Int) :: lowL xs := by unfold rowStepL; rw [if_neg h]
theorem lowL_pos {xs : List Int} {x : Int} (h : x ∈ lowL xs) : 1 ≤ x := by
  obtain ⟨y, _, h1, rfl⟩ := lowL_mem h
  omega
theorem rowStepL_row {xs : List Int} (h : RowOk xs) : RowOk (rowStepL xs) := by
  by_cases hx : xs = []
  · subst hx; exact row_nil
  · rw [rowStepL_cons hx]
    have hl : 1 ≤ xs.length := List.length_pos_iff.2 hx
    refine ⟨fun x hm => ?_, ?_⟩
    · rcases List.mem_cons.1 hm with rfl | hm
      · omega
      · exact lowL_pos hm
    · rw [List.sum_cons, lowL_sum h.1]
      have := h.2
      omega
theorem stepL_row (xs : List Int) : stepL xs = sortD (rowStepL xs) := by
  by_cases hx : xs = []
  · subst hx; rw [stepL_nil, rowStepL_nil, sortD_nil]
  · rw [stepL_cons hx, rowStepL_cons hx]
    exact sortD_perm_eq (List.perm_append_singleton _ _)

end
end Go.Proofs.YtimmjimeldejjaaGreatDoor
namespace Go.Proofs.YtimmjimeldejjaaGreatDoor
section
set_option linter.unusedVariables false
set_option linter.unusedSimpArgs false

/-! ### The side of the side -/
theorem above_cons (x : Int) (xs : List Int) (i : Int) : above (x :: xs) i = above xs i + if i < x then 1 else 0 := by
  unfold above
  rw [List.countP_cons]
  simp
theorem above_perm {xs ys : List Int} (h : xs.Perm ys) (i : Int) : above xs i = above ys i := h.countP_eq _
theorem above_append (xs ys : List Int) (i : Int) : above (xs ++ ys) i = above xs i + above ys i := by unfold above; exact List.countP_append
theorem above_low (xs : List Int) (i : Int) (h : 0 ≤ i) : above (lowL xs) i = above xs (i + 1) := by
  induction xs with
  | nil => rfl
  | cons x l ih =>
    rw [above_cons, ← ih]
    unfold lowL
    by_cases h1 : 1 < x
    · rw [List.filter_cons_of_pos (by simpa using h1), List.map_cons, above_cons]
      by_cases h2 : i < x - 1
      · rw [if_pos h2, if_pos (by omega)]
      · rw [if_neg h2, if_neg (by omega)]
    · rw [List.filter_cons_of_neg (by simpa using h1), if_neg (by omega)]; rfl
theorem above_zero {xs : List Int} {i : Int} (h : ∀ x ∈ xs, x ≤ i) : above xs i = 0 := by
  unfold above
  rw [List.countP_eq_zero]
  intro x hx
  have := h x hx
  simp; omega
/-- what a sorted list says of its places -/
theorem above_gt {xs : List Int} (hs : xs.Pairwise (· ≥ ·)) (h0 : ∀ x ∈ xs, 0 ≤ x) (i : Nat) (j : Int) (hj : 0 ≤ j) : i < above xs j ↔ j < xs.getD i 0 := by
  induction xs generalizing i with
  | nil => simp [above_nil]; omega
  | cons a l ih =>
    have hs' := List.pairwise_cons.1 hs
    have ih := fun i => ih hs'.2 (fun x hx => h0 x (by simp [hx])) i
    rw [above_cons]
    by_cases hja : j < a
    · rw [if_pos hja]
      cases i with
      | zero => simp [hja]
      | succ i => simp only [List.getD_cons_succ]; rw [← ih i]; omega
    · rw [if_neg hja]
      have hz : above l j = 0 := above_zero (fun x hx => by have : a ≥ x := hs'.1 x hx; omega)
      rw [hz]
      cases i with
      | zero => simp; omega
      | succ i =>
        have := ih i
        rw [hz] at this
        simp only [List.getD_cons_succ]
        omega
theorem countP_range (m : Nat) (v : Int) (h0 : 0 ≤ v) (hv : v ≤ m) : (List.range m).countP (fun (j : Nat) => decide ((j : Int) < v)) = v.toNat := by
  induction m generalizing v with
  | zero => have : v = 0 := by omega
            subst this; rfl
  | succ m ih =>
    rw [List.range_succ, List.countP_append, List.countP_singleton]
    by_cases h : v ≤ m
    · rw [ih v h0 h, if_neg (by simp; omega)]; rfl
    · have hm := ih m (by omega) (by omega)
      have e : (List.range m).countP (fun (j : Nat) => decide ((j : Int) < v)) = (List.range m).countP (fun (j : Nat) => decide ((j : Int) < (m : Int))) := by
        apply List.countP_congr
        intro j hj
        have := List.mem_range.1 hj
        simp; omega
      rw [e, hm, if_pos (by simp; omega)]
      omega
theorem getD_le_head {xs : List Int} (hs : xs.Pairwise (· ≥ ·)) (h0 : ∀ x ∈ xs, 0 ≤ x) (i : Nat) : 0 ≤ xs.getD i 0 ∧ xs.getD i 0 ≤ xs.headD 0 ∧ 0 ≤ xs.headD 0 := by
  cases xs with
  | nil => simp
  | cons a l =>
    have ha := h0 a (by simp)
    cases i with
    | zero => simp [ha]
    | succ i =>
      simp only [List.getD_cons_succ, List.headD_cons]
      by_cases hi : i < l.length
      · rw [List.getD_eq_getElem?_getD, List.getElem?_eq_getElem hi]
        have hm : l[i] ∈ l := List.getElem_mem hi
        have h1 : a ≥ l[i] := (List.pairwise_cons.1 hs).1 _ hm
        have h2 := h0 l[i] (by simp [hm])
        simp only [Option.getD_some]
        exact ⟨h2, h1, ha⟩
      · rw [List.getD_eq_getElem?_getD, List.getElem?_eq_none (by omega)]
        exact ⟨by simp, by simpa using ha, ha⟩
theorem above_side {xs : List Int} (hs : xs.Pairwise (· ≥ ·)) (h0 : ∀ x ∈ xs, 0 ≤ x) (i : Nat) : ((above (sideL xs) i : Nat) : Int) = xs.getD i 0 := by
  have hb := getD_le_head hs h0 i
  unfold sideL above
  rw [List.countP_map]
  have e : (List.range (xs.headD 0).toNat).countP ((fun x => decide ((i : Int) < x)) ∘ fun (j : Nat) => ((above xs j : Nat) : Int)) = (List.range (xs.headD 0).toNat).countP (fun (j : Nat) => decide ((j : Int) < xs.getD i 0)) := by
    apply List.countP_congr
    intro j hj
    have := above_gt hs h0 i j (by omega)
    simp only [Function.comp, decide_eq_true_eq]
    rw [← this]; omega
  unfold above at e
  rw [e, countP_range _ _ hb.1 (by omega)]
  omega

theorem side_sorted {xs : List Int} : (sideL xs).Pairwise (· ≥ ·) := by
  unfold sideL
  rw [List.pairwise_map]
  refine List.Pairwise.imp ?_ List.pairwise_lt_range
  intro a b hab
  show ((above xs a : Nat) : Int) ≥ ((above xs b : Nat) : Int)
  have : above xs b ≤ above xs a := by
    unfold above
    apply List.countP_mono_left
    intro x _ hx
    simp at hx ⊢; omega
  omega
theorem sum_range_add (m : Nat) (f g : Nat → Int) : ((List.range m).map fun i => f i + g i).sum = ((List.range m).map f).sum + ((List.range m).map g).sum := by
  induction m with
  | zero => rfl
  | succ m ih => simp only [List.range_succ, List.map_append, List.sum_append, ih, List.map_cons, List.map_nil, List.sum_cons, List.sum_nil]; omega
theorem sum_range_ind (m : Nat) (v : Int) (h0 : 0 ≤ v) (hv : v ≤ m) : ((List.range m).map fun (i : Nat) => if (i : Int) < v then (1 : Int) else 0).sum = v := by
  have := countP_range m v h0 hv
  have e : ∀ l : List Nat, (l.map fun (i : Nat) => if (i : Int) < v then (1 : Int) else 0).sum = ((l.countP (fun (j : Nat) => decide ((j : Int) < v)) : Nat) : Int) := by
    intro l
    induction l with
    | nil => rfl
    | cons a l ih => rw [List.map_cons, List.sum_cons, ih, List.countP_cons]; by_cases h : (a : Int) < v <;> simp [h]; omega
  rw [e, this]; omega
theorem sum_above (xs : List Int) (m : Nat) (h : ∀ x ∈ xs, 0 ≤ x ∧ x ≤ m) : ((List.range m).map fun (i : Nat) => ((above xs i : Nat) : Int)).sum = xs.sum := by
  induction xs with
  | nil =>
    have : ∀ l : List Nat, (l.map fun (i : Nat) => ((above [] i : Nat) : Int)).sum = 0 := by
      intro l; induction l with
      | nil => rfl
      | cons a l ih => rw [List.map_cons, List.sum_cons, ih, above_nil]; rfl
    exact this _
  | cons x l ih =>
    have hx := h x (by simp)
    have e : (fun (i : Nat) => ((above (x :: l) i : Nat) : Int)) = fun (i : Nat) => ((above l i : Nat) : Int) + if (i : Int) < x then 1 else 0 := by
      funext i
      rw [above_cons]
      by_cases hi : (i : Int) < x <;> simp [hi]
    rw [e, sum_range_add, ih (fun y hy => h y (by simp [hy])), sum_range_ind m x hx.1 hx.2, List.sum_cons]
    omega
theorem side_good {xs : List Int} (h : Good xs) : Good (sideL xs) := by
  have h0 : ∀ x ∈ xs, 0 ≤ x := fun x hx => by have := h.1 x hx; omega
  refine ⟨fun y hy => ?_, side_sorted, ?_⟩
  · unfold sideL at hy
    obtain ⟨i, hi, rfl⟩ := List.mem_map.1 hy
    have hi := List.mem_range.1 hi
    have := (above_gt h.2.1 h0 0 i (by omega)).2 (by rw [← head_getD]; omega)
    omega
  · unfold sideL
    rw [sum_above xs _ (fun x hx => ⟨h0 x hx, by have := good_le_head h hx; omega⟩)]
    exact h.2.2

def sideStepL (xs : List Int) : List Int := (List.range (max (xs.length - 1) (xs.headD 0).toNat)).map fun (i : Nat) => xs.getD (i + 1) 0 + if i < (xs.headD 0).toNat then 1 else 0
theorem eq_of_lt_iff {a b : Nat} (h : ∀ i, i < a ↔ i < b) : a = b := by
  have h1 := h a; have h2 := h b; omega
theorem sideStep_eq {xs : List Int} (h : Good xs) : sideL (stepL (sideL xs)) = sideStepL xs := by
  by_cases hx : xs = []
  · subst hx; rfl
  have h0 : ∀ x ∈ xs, 0 ≤ x := fun x hx => by have := h.1 x hx; omega
  have hh : 1 ≤ xs.headD 0 := by
    cases xs with
    | nil => exact absurd rfl hx
    | cons a l => simpa using h.1 a (by simp)
  have hne : sideL xs ≠ [] := fun e => by have := sideL_length xs; rw [e, List.length_nil] at this; omega
  have hG := stepL_good (side_good h)
  have hab : ∀ i : Nat, ((above (stepL (sideL xs)) i : Nat) : Int) = xs.getD (i + 1) 0 + if i < (xs.headD 0).toNat then 1 else 0 := by
    intro i
    rw [stepL_cons hne, above_perm (sortD_perm _), above_append, above_low _ _ (by omega), sideL_length]
    have := above_side h.2.1 h0 (i + 1)
    rw [show (((i + 1 : Nat)) : Int) = (i : Int) + 1 by omega] at this
    rw [Int.natCast_add, this, above_cons, above_nil]
    by_cases hi : i < (xs.headD 0).toNat
    · rw [if_pos (by omega), if_pos hi]; rfl
    · rw [if_neg (by omega), if_neg hi]; rfl
  have hlen : ((stepL (sideL xs)).headD 0).toNat = max (xs.length - 1) (xs.headD 0).toNat := by
    apply eq_of_lt_iff
    intro i
    have h1 := above_gt hG.2.1 (fun x hx => by have := hG.1 x hx; omega) 0 i (by omega)
    rw [← head_getD] at h1
    have h2 := hab i
    have h3 : 0 < xs.getD (i + 1) 0 ↔ i + 1 < xs.length := by
      constructor
      · intro hp
        by_cases hl : i + 1 < xs.length
        · exact hl
        · rw [List.getD_eq_getElem?_getD, List.getElem?_eq_none (by omega)] at hp; simp at hp
      · intro hl
        rw [List.getD_eq_getElem?_getD, List.getElem?_eq_getElem hl]
        have := h.1 _ (List.getElem_mem hl)
        simp only [Option.getD_some]; omega
    have h4 := getD_le_head h.2.1 h0 (i + 1)
    by_cases hi : i < (xs.headD 0).toNat
    · rw [if_pos hi] at h2; omega
    · rw [if_neg hi] at h2; omega
  unfold sideStepL
  rw [show sideL (stepL (sideL xs)) = (List.range ((stepL (sideL xs)).headD 0).toNat).map fun (i : Nat) => ((above (stepL (sideL xs)) i : Nat) : Int) from rfl, hlen]
  apply List.map_congr_left
  intro i _
  exact hab i

/-! ### Order of lists -/
def befB : List Int → List Int → Bool
  | [], _ => false
  | _ :: _, [] => true
  | a :: as, b :: bs => if a = b then befB as bs else decide (b < a)

/-! ### Pasts -/
def pastL (xs : List Int) (x : Int) : List Int := (xs.erase x).map (· + 1) ++ List.replicate (x.toNat - (xs.length - 1)) 1

theorem past_before (x y : Int) (L R1 R2 : List Int) (hs : (x :: L).Pairwise (· ≥ ·)) (hy : y ∈ L) (hyx : y < x) :
    befB (L.map (· + 1) ++ R1) ((x :: L.erase y).map (· + 1) ++ R2) = false := by
  induction L generalizing x with
  | nil => cases hy
  | cons z L ih =>
    have h1 := List.pairwise_cons.1 hs
    have hzx : x ≥ z := h1.1 z (by simp)
    simp only [List.map_cons, List.cons_append, befB]
    by_cases hz : z = x
    · subst hz
      have hzy : ¬ z = y := by omega
      rw [if_pos rfl]
      have hy' : y ∈ L := by
        rcases List.mem_cons.1 hy with h | h
        · exact absurd h.symm hzy
        · exact h
      rw [List.erase_cons_tail (by simpa using hzy)]
      exact ih z h1.2 hy' hyx
    · rw [if_neg (by omega)]
      simp; omega
theorem past_order {xs : List Int} (hs : xs.Pairwise (· ≥ ·)) {x y : Int} (hx : x ∈ xs) (hy : y ∈ xs) (hyx : y < x) (R1 R2 : List Int) :
    befB ((xs.erase x).map (· + 1) ++ R1) ((xs.erase y).map (· + 1) ++ R2) = false := by
  induction xs with
  | nil => cases hx
  | cons a l ih =>
    have h1 := List.pairwise_cons.1 hs
    by_cases hax : a = x
    · subst hax
      have hay : ¬ a = y := by omega
      have hy' : y ∈ l := by
        rcases List.mem_cons.1 hy with h | h
        · exact absurd h.symm hay
        · exact h
      rw [List.erase_cons_head, List.erase_cons_tail (by simpa using hay)]
      exact past_before a y l R1 R2 hs hy' hyx
    · have hx' : x ∈ l := by
        rcases List.mem_cons.1 hx with h | h
        · exact absurd h.symm hax
        · exact h
      have hxa : a ≥ x := h1.1 x hx'
      have hay : ¬ a = y := by omega
      have hy' : y ∈ l := by
        rcases List.mem_cons.1 hy with h | h
        · exact absurd h.symm hay
        · exact h
      rw [List.erase_cons_tail (by simpa using hax), List.erase_cons_tail (by simpa using hay)]
      simp only [List.map_cons, List.cons_append, befB, if_true]
      exact ih h1.2 hx' hy'

theorem past_sum {xs : List Int} (x : Int) (hx : x ∈ xs) (h1 : (xs.length : Int) - 1 ≤ x) : (pastL xs x).sum = xs.sum := by
  have hp := List.perm_cons_erase hx
  have hl := hp.length_eq
  have hsum := perm_sum hp
  simp only [List.length_cons, List.sum_cons] at hl hsum
  have e : ∀ l : List Int, (l.map (· + 1)).sum = l.sum + l.length := by
    intro l; induction l with
    | nil => rfl
    | cons a l ih => simp only [List.map_cons, List.sum_cons, ih, List.length_cons]; omega
  have er : ∀ k : Nat, (List.replicate k (1 : Int)).sum = k := by
    intro k; induction k with
    | zero => rfl
    | succ k ih => rw [List.replicate_succ, List.sum_cons, ih]; omega
  unfold pastL
  rw [List.sum_append, e, er]
  omega
theorem past_good {xs : List Int} (hg : Good xs) (x : Int) (hx : x ∈ xs) (h1 : (xs.length : Int) - 1 ≤ x) : Good (pastL xs x) := by
  refine ⟨fun y hy => ?_, ?_, by rw [past_sum x hx h1]; exact hg.2.2⟩
  · unfold pastL at hy
    rcases List.mem_append.1 hy with h | h
    · obtain ⟨z, hz, rfl⟩ := List.mem_map.1 h
      have := hg.1 z (List.mem_of_mem_erase hz)
      omega
    · rw [List.mem_replicate] at h; omega
  · unfold pastL
    rw [List.pairwise_append]
    refine ⟨?_, ?_, fun a ha b hb => ?_⟩
    · rw [List.pairwise_map]
      exact (hg.2.1.sublist List.erase_sublist).imp (fun {a b} h => by have h : a ≥ b := h; show a + 1 ≥ b + 1; omega)
    · rw [List.pairwise_replicate]; right; omega
    · obtain ⟨z, hz, rfl⟩ := List.mem_map.1 ha
      have := hg.1 z (List.mem_of_mem_erase hz)
      rw [List.mem_replicate] at hb
      show z + 1 ≥ b
      omega
end
end Go.Proofs.YtimmjimeldejjaaGreatDoor
namespace Go.Proofs.YtimmjimeldejjaaGreatDoor
section
set_option linter.unusedVariables false
set_option linter.unusedSimpArgs false

/-! ### The different numbers of a list, from the last one on -/
def ascP : Option Int → List Int → List Int
  | _, [] => []
  | p, x :: l => ascP (some x) l ++ (if p = some x then [] else [x])
def ascL : List Int → List Int
  | [] => []
  | x :: l => ascL l ++ (if l.head? = some x then [] else [x])
theorem asc_eq (p : Int) (l : List Int) : ascL (p :: l) = ascP (some p) l ++ [p] := by
  induction l generalizing p with
  | nil => rfl
  | cons x l ih =>
    rw [show ascL (p :: x :: l) = ascL (x :: l) ++ (if (x :: l).head? = some p then [] else [p]) from rfl, ih, List.head?_cons,
      show ascP (some p) (x :: l) = ascP (some x) l ++ (if some p = some x then [] else [x]) from rfl]
    by_cases h : x = p
    · subst h; simp
    · have h' : ¬ p = x := fun e => h e.symm
      simp [h, h']
theorem asc_none (xs : List Int) : ascP none xs = ascL xs := by
  cases xs with
  | nil => rfl
  | cons x l => rw [asc_eq]; simp [ascP]
theorem ascP_snoc (p : Option Int) (l : List Int) (x : Int) : ascP p (l ++ [x]) = (if l.getLast?.or p = some x then [] else [x]) ++ ascP p l := by
  induction l generalizing p with
  | nil => cases p <;> simp [ascP]
  | cons a l ih =>
    rw [List.cons_append, show ascP p (a :: (l ++ [x])) = ascP (some a) (l ++ [x]) ++ (if p = some a then [] else [a]) from rfl, ih,
      show ascP p (a :: l) = ascP (some a) l ++ (if p = some a then [] else [a]) from rfl, List.append_assoc]
    congr 2
    cases l with
    | nil => simp
    | cons b l => simp [List.getLast?_cons_cons]; cases h : (b :: l).getLast? with
      | none => simp at h
      | some z => simp
theorem ascL_mem {xs : List Int} {x : Int} (h : x ∈ ascL xs) : x ∈ xs := by
  induction xs with
  | nil => cases h
  | cons a l ih =>
    rcases List.mem_append.1 h with h | h
    · exact List.mem_cons_of_mem _ (ih h)
    · split at h
      · cases h
      · rw [List.mem_singleton.1 h]; exact List.mem_cons_self

/-- the pasts of those numbers of a list -/
def pastsOf (xs l : List Int) : List (List Int) := (l.filter (fun x => decide ((xs.length : Int) - 1 ≤ x))).map (pastL xs)
def pastsL (xs : List Int) : List (List Int) := if xs = [] then [[]] else pastsOf xs (ascL xs)
theorem pastsOf_append (xs l m : List Int) : pastsOf xs (l ++ m) = pastsOf xs l ++ pastsOf xs m := by unfold pastsOf; rw [List.filter_append, List.map_append]
theorem pastsOf_one (xs : List Int) (x : Int) : pastsOf xs [x] = if (xs.length : Int) - 1 ≤ x then [pastL xs x] else [] := by
  unfold pastsOf
  by_cases h : (xs.length : Int) - 1 ≤ x <;> simp [h, List.filter_cons]
theorem pastsOf_nil (xs : List Int) : pastsOf xs [] = [] := rfl
theorem ascL_length (xs : List Int) : (ascL xs).length ≤ xs.length := by
  induction xs with
  | nil => exact Nat.le_refl _
  | cons a l ih =>
    rw [show ascL (a :: l) = ascL l ++ (if l.head? = some a then [] else [a]) from rfl, List.length_append]
    split <;> simp <;> omega
theorem pastsOf_length (xs l : List Int) : (pastsOf xs l).length ≤ l.length := by
  unfold pastsOf; rw [List.length_map]; exact List.length_filter_le _ _
theorem pastsL_length (xs : List Int) : (pastsL xs).length ≤ xs.length + 1 := by
  unfold pastsL
  split
  · simp
  · have := pastsOf_length xs (ascL xs); have := ascL_length xs; omega
theorem pastsOf_mem {xs l ys : List Int} (h : ys ∈ pastsOf xs l) : ∃ x ∈ l, (xs.length : Int) - 1 ≤ x ∧ ys = pastL xs x := by
  unfold pastsOf at h
  obtain ⟨x, hx, rfl⟩ := List.mem_map.1 h
  obtain ⟨h1, h2⟩ := List.mem_filter.1 hx
  exact ⟨x, h1, by simpa using h2, rfl⟩

/-- a list put into lists in order -/
def addL (ls : List (List Int)) (a : List Int) : List (List Int) := ls.takeWhile (fun l => befB l a) ++ a :: ls.dropWhile (fun l => befB l a)
theorem addL_front {ls : List (List Int)} {a : List Int} (h : ∀ l ∈ ls, befB l a = false) : addL ls a = a :: ls := by
  unfold addL
  cases ls with
  | nil => rfl
  | cons l ls => rw [List.takeWhile_cons_of_neg (by rw [h l (by simp)]; simp), List.dropWhile_cons_of_neg (by rw [h l (by simp)]; simp)]; rfl

/-- the round of the model's pasts -/
theorem pasts_round {xs : List Int} (hg : Good xs) {k n : Nat} {x : Int} (hk : k < n) (hl : xs.length = n) (hx : xs.getD k 0 = x) :
    (n : Int) - 1 ≤ x → (k = 0 ∨ ∃ y, xs.getD (k - 1) 0 = y ∧ y ≠ x) → pastsOf xs (ascP none (xs.take (k + 1))) = addL (pastsOf xs (ascP none (xs.take k))) (pastL xs x) := by
  intro h1 h2
  have e : xs.take (k + 1) = xs.take k ++ [x] := by
    subst hx hl
    rw [List.take_add_one, List.getElem?_eq_getElem hk, List.getD_eq_getElem?_getD, List.getElem?_eq_getElem hk]
    rfl
  have hxm : x ∈ xs := by
    subst hx hl
    rw [List.getD_eq_getElem?_getD, List.getElem?_eq_getElem hk]
    exact List.getElem_mem hk
  have hlast : (xs.take k).getLast?.or none ≠ some x := by
    rcases Nat.eq_zero_or_pos k with rfl | hk0
    · simp
    · rcases h2 with h2 | ⟨y, hy, hyx⟩
      · omega
      · rw [getLast_take hk0 (by omega) hl hy]; simp; exact hyx
  rw [e, ascP_snoc, if_neg hlast, pastsOf_append, pastsOf_one, if_pos (by omega)]
  rw [addL_front]
  · rfl
  · intro l hlm
    obtain ⟨y, hy, hy1, rfl⟩ := pastsOf_mem hlm
    rw [asc_none] at hy
    have hyt := ascL_mem hy
    have hym : y ∈ xs := List.mem_of_mem_take hyt
    have hlt : x < y := by
      rcases Nat.eq_zero_or_pos k with rfl | hk0
      · simp at hyt
      · rcases h2 with h2 | ⟨z, hz, hzx⟩
        · omega
        · have hp := (hg.take (k + 1)).2.1
          rw [e] at hp
          have h3 : ∀ a ∈ xs.take k, a ≥ x := fun a ha => (List.pairwise_append.1 hp).2.2 a ha x (by simp)
          have hzl := getLast_take hk0 (Nat.le_of_lt hk) hl hz
          have hzm := List.mem_of_getLast? hzl
          have hzx' := h3 z hzm
          have : y ≥ z := by
            obtain ⟨m, hm⟩ := List.getLast?_eq_some_iff.1 hzl
            have hp2 := (hg.take k).2.1
            rw [hm] at hp2 hyt
            rcases List.mem_append.1 hyt with h | h
            · exact (List.pairwise_append.1 hp2).2.2 y h z (by simp)
            · rw [List.mem_singleton.1 h]; exact Int.le_refl _
          omega
    exact past_order hg.2.1 hym hxm hlt _ _
theorem pasts_skip {xs : List Int} {k n : Nat} {x : Int} (hk : k < n) (hl : xs.length = n) (hx : xs.getD k 0 = x) :
    (x < (n : Int) - 1 ∨ (0 < k ∧ xs.getD (k - 1) 0 = x)) → pastsOf xs (ascP none (xs.take (k + 1))) = pastsOf xs (ascP none (xs.take k)) := by
  intro h
  have e : xs.take (k + 1) = xs.take k ++ [x] := by
    subst hx hl
    rw [List.take_add_one, List.getElem?_eq_getElem hk, List.getD_eq_getElem?_getD, List.getElem?_eq_getElem hk]
    rfl
  rw [e, ascP_snoc]
  split
  · simp [pastsOf_append, pastsOf_nil]
  · next hn =>
    rcases h with h | ⟨hk0, h⟩
    · rw [pastsOf_append, pastsOf_one, if_neg (by omega)]; rfl
    · exact absurd (by rw [getLast_take hk0 (Nat.le_of_lt hk) hl h]; rfl) hn
theorem ascL_drop {xs : List Int} {k n : Nat} {x : Int} (hk : k < n) (hl : xs.length = n) (hx : xs.getD k 0 = x) :
    ascL (xs.drop k) = ascL (xs.drop (k + 1)) ++ (if k + 1 < n ∧ xs.getD (k + 1) 0 = x then [] else [x]) := by
  subst hx hl
  rw [List.drop_eq_getElem_cons hk]
  rw [show ∀ (a : Int) (l : List Int), ascL (a :: l) = ascL l ++ (if l.head? = some a then [] else [a]) from fun _ _ => rfl]
  rw [List.head?_drop, List.getD_eq_getElem?_getD, List.getD_eq_getElem?_getD, List.getElem?_eq_getElem hk]
  by_cases h : k + 1 < xs.length
  · rw [List.getElem?_eq_getElem h]; simp [h]
  · rw [List.getElem?_eq_none (by omega)]; simp [h]

/-! ### Ranks -/
def leftAt (xs : List Int) (k : Nat) : Int := xs.sum - (xs.take k).sum
def mostAt (xs : List Int) (k : Nat) : Int := if k = 0 then xs.sum else xs.getD (k - 1) 0
def rankT (xs : List Int) (k : Nat) : Int := (cnt (min (leftAt xs k) (mostAt xs k)).toNat (leftAt xs k).toNat : Int) - (cnt (xs.getD k 0).toNat (leftAt xs k).toNat : Int)
def rankTo (xs : List Int) : Nat → Int
  | 0 => 0
  | k + 1 => rankTo xs k + rankT xs k
def rankL (xs : List Int) : Int := rankTo xs xs.length
theorem left_bounds {xs : List Int} (h : Good xs) {k n : Nat} {x : Int} (hk : k < n) (hl : xs.length = n) (hx : xs.getD k 0 = x) :
    1 ≤ x ∧ x ≤ leftAt xs k ∧ leftAt xs k ≤ 28 ∧ x ≤ mostAt xs k ∧ mostAt xs k ≤ 28 ∧ leftAt xs (k + 1) = leftAt xs k - x := by
  have hG := h
  have e : xs.take (k + 1) = xs.take k ++ [x] := by
    subst hx hl
    rw [List.take_add_one, List.getElem?_eq_getElem hk, List.getD_eq_getElem?_getD, List.getElem?_eq_getElem hk]
    rfl
  have hxm : x ∈ xs := by
    subst hx hl
    rw [List.getD_eq_getElem?_getD, List.getElem?_eq_getElem hk]
    exact List.getElem_mem hk
  have h1 := h.mem hxm
  have hs := congrArg List.sum (List.take_append_drop (k + 1) xs)
  rw [List.sum_append] at hs
  have hd := sum_nonneg (fun y hy => h.1 y (List.mem_of_mem_drop hy) : ∀ y ∈ xs.drop (k + 1), 1 ≤ y)
  have ht := sum_nonneg (h.take k).1
  have hsum := h.2.2
  have e2 : (xs.take (k + 1)).sum = (xs.take k).sum + x := by rw [e, List.sum_append]; simp
  have hm : x ≤ mostAt xs k ∧ mostAt xs k ≤ 28 := by
    unfold mostAt
    split
    · exact ⟨by omega, by omega⟩
    · next hk0 =>
      have hg := (good_spec.1 h).2.2.1 k (by omega) (by omega)
      rw [hx] at hg
      refine ⟨hg, ?_⟩
      have hm : xs.getD (k - 1) 0 ∈ xs := by
        rw [List.getD_eq_getElem?_getD, List.getElem?_eq_getElem (by omega)]
        exact List.getElem_mem (by omega)
      exact (h.mem hm).2
  unfold leftAt
  exact ⟨h1.1, by omega, by omega, hm.1, hm.2, by omega⟩
theorem cnt_mono_le {a b n : Nat} (hab : a ≤ b) (hb : b < 29) (hn : n < 29) : cnt a n ≤ cnt b n := by
  induction b with
  | zero => have : a = 0 := by omega
            subst this; exact Nat.le_refl _
  | succ b ih =>
    by_cases h : a = b + 1
    · subst h; exact Nat.le_refl _
    · exact Nat.le_trans (ih (by omega) (by omega)) (cnt_mono b (by omega) n hn)
theorem rankT_bounds {xs : List Int} (h : Good xs) {k n : Nat} (hk : k < n) (hl : xs.length = n) : 0 ≤ rankT xs k ∧ rankT xs k ≤ 3718 := by
  obtain ⟨h1, h2, h3, h4, h5, _⟩ := left_bounds h hk hl rfl
  have := cnt_mono_le (a := (xs.getD k 0).toNat) (b := (min (leftAt xs k) (mostAt xs k)).toNat) (n := (leftAt xs k).toNat) (by omega) (by omega) (by omega)
  have := cnt_le (min (leftAt xs k) (mostAt xs k)).toNat (by omega) (leftAt xs k).toNat (by omega)
  unfold rankT
  omega
theorem rankTo_bounds {xs : List Int} (h : Good xs) {k n : Nat} (hk : k ≤ n) (hl : xs.length = n) : 0 ≤ rankTo xs k ∧ rankTo xs k ≤ 3718 * k := by
  induction k with
  | zero => exact ⟨Int.le_refl _, Int.le_refl _⟩
  | succ k ih =>
    have := ih (by omega)
    have := rankT_bounds h (show k < n by omega) hl
    unfold rankTo
    omega

/-! ### Piles of a rank -/
def findX (n : Nat) : Nat → Nat → Nat × Nat
  | 0, r => (0, r)
  | x + 1, r => if cnt (x + 1) (n - (x + 1)) ≤ r then findX n x (r - cnt (x + 1) (n - (x + 1))) else (x + 1, r)
def withF : Nat → Nat → Nat → Nat → List Int
  | 0, _, _, _ => []
  | f + 1, n, most, r => if n = 0 then [] else ((findX n (min n most) r).1 : Int) :: withF f (n - (findX n (min n most) r).1) (findX n (min n most) r).1 (findX n (min n most) r).2
def withL (n r : Nat) : List Int := withF 28 n n r
theorem findX_step (n x r : Nat) (h : cnt x (n - x) ≤ r) (hx : 1 ≤ x) : findX n x r = findX n (x - 1) (r - cnt x (n - x)) := by
  cases x with
  | zero => omega
  | succ x => rw [show findX n (x + 1) r = if cnt (x + 1) (n - (x + 1)) ≤ r then findX n x (r - cnt (x + 1) (n - (x + 1))) else (x + 1, r) from rfl, if_pos h]; rfl
theorem findX_stop (n x r : Nat) (h : r < cnt x (n - x)) (hx : 1 ≤ x) : findX n x r = (x, r) := by
  cases x with
  | zero => omega
  | succ x => rw [show findX n (x + 1) r = if cnt (x + 1) (n - (x + 1)) ≤ r then findX n x (r - cnt (x + 1) (n - (x + 1))) else (x + 1, r) from rfl, if_neg (by omega)]
/-- what is left of the rank is less than there are -/
theorem rank_step {n x r : Nat} (hx : 1 ≤ x) (hxn : x ≤ n) (hn : n ≤ 28) (hr : r < cnt x n) (h : cnt x (n - x) ≤ r) : r - cnt x (n - x) < cnt (x - 1) n ∧ 2 ≤ x := by
  have := cnt_rec (x - 1) (by omega) n (by omega)
  rw [show x - 1 + 1 = x by omega, if_pos hxn] at this
  refine ⟨by omega, ?_⟩
  by_cases h1 : x = 1
  · subst h1
    have h0 := cnt_none n (by omega)
    rw [if_neg (by omega)] at h0
    simp only [Nat.sub_self] at this
    omega
  · omega
theorem cnt_min {n x : Nat} (hn : n ≤ 28) (hx : x ≤ 28) : cnt (min n x) n = cnt x n := by
  by_cases h : n ≤ x
  · rw [Nat.min_eq_left h, cnt_big x (by omega) n h]
  · rw [Nat.min_eq_right (by omega)]

/-! ### All piles -/
def downs : Nat → List Nat
  | 0 => []
  | n + 1 => (n + 1) :: downs n
def allF : Nat → Nat → Nat → List (List Int)
  | 0, n, _ => if n = 0 then [[]] else []
  | f + 1, n, most => if n = 0 then [[]] else (downs (min n most)).flatMap fun x => (allF f (n - x) x).map ((x : Int) :: ·)
def allL (n : Nat) : List (List Int) := allF 28 n n
end
end Go.Proofs.YtimmjimeldejjaaGreatDoor
namespace Go.Proofs.YtimmjimeldejjaaGreatDoor
section
set_option linter.unusedVariables false
set_option linter.unusedSimpArgs false

theorem downs_length (m : Nat) : (downs m).length = m := by
  induction m with
  | zero => rfl
  | succ m ih => simp [downs, ih]
theorem downs_mem {m x : Nat} (h : x ∈ downs m) : 1 ≤ x ∧ x ≤ m := by
  induction m with
  | zero => cases h
  | succ m ih =>
    rcases List.mem_cons.1 h with rfl | h
    · omega
    · have := ih h; omega
theorem downs_take (m X : Nat) (h1 : 1 ≤ X) (h2 : X ≤ m) : (downs m).take (m - (X - 1)) = (downs m).take (m - X) ++ [X] := by
  induction m with
  | zero => omega
  | succ m ih =>
    by_cases hX : X = m + 1
    · subst hX
      simp [downs]
    · have := ih (by omega)
      rw [show m + 1 - (X - 1) = (m - (X - 1)) + 1 by omega, show m + 1 - X = (m - X) + 1 by omega]
      simp only [downs, List.take_succ_cons, this]
      rfl

/-- the lists whose first number is above X -/
def allPart (f n m X : Nat) : List (List Int) := ((downs m).take (m - X)).flatMap fun x => (allF f (n - x) x).map ((x : Int) :: ·)
theorem allPart_start (f n m : Nat) : allPart f n m m = [] := by unfold allPart; simp
theorem allPart_step (f n m X : Nat) (h1 : 1 ≤ X) (h2 : X ≤ m) : allPart f n m (X - 1) = allPart f n m X ++ (allF f (n - X) X).map ((X : Int) :: ·) := by
  unfold allPart
  rw [downs_take m X h1 h2, List.flatMap_append]
  simp
theorem allPart_end (f n most : Nat) (hn : n ≠ 0) : allPart f n (min n most) 0 = allF (f + 1) n most := by
  unfold allPart
  rw [Nat.sub_zero, List.take_of_length_le (by rw [downs_length]; exact Nat.le_refl _)]
  simp [allF, hn]
theorem allF_zero (f most : Nat) : allF f 0 most = [[]] := by cases f <;> simp [allF]

theorem sum_downs (n q : Nat) (hn : 1 ≤ n) (hn2 : n ≤ 28) (hq : q ≤ n) : ((downs q).map fun x => cnt x (n - x)).sum = cnt q n := by
  induction q with
  | zero => have := cnt_none n (by omega); rw [if_neg (by omega)] at this; simp [downs, this]
  | succ q ih =>
    have := cnt_rec q (by omega) n (by omega)
    rw [if_pos (by omega)] at this
    simp only [downs, List.map_cons, List.sum_cons, ih (by omega)]
    omega
theorem allF_length (f : Nat) : ∀ n most, n ≤ f → n ≤ 28 → most ≤ 28 → (allF f n most).length = cnt most n := by
  induction f with
  | zero =>
    intro n most h1 _ h3
    obtain rfl : n = 0 := by omega
    rw [cnt_zero most (by omega)]; rfl
  | succ f ih =>
    intro n most h1 h2 h3
    by_cases hn : n = 0
    · subst hn; rw [cnt_zero most (by omega)]; simp [allF]
    · have e : allF (f + 1) n most = (downs (min n most)).flatMap fun x => (allF f (n - x) x).map ((x : Int) :: ·) := by simp [allF, hn]
      rw [e, List.length_flatMap, ← cnt_min h2 h3, ← sum_downs n (min n most) (by omega) h2 (Nat.min_le_left _ _)]
      congr 1
      apply List.map_congr_left
      intro x hx
      have := downs_mem hx
      rw [List.length_map, ih (n - x) x (by omega) (by omega) (by omega)]
theorem allPart_length (f n most X : Nat) (hn : n ≠ 0) (h1 : n ≤ f + 1) (h2 : n ≤ 28) (h3 : most ≤ 28) : (allPart f n (min n most) X).length ≤ 3718 := by
  have e := allPart_end f n most hn
  have hl := allF_length (f + 1) n most h1 h2 h3
  have hc := cnt_le most (by omega) n (by omega)
  have : (allPart f n (min n most) X).length ≤ (allPart f n (min n most) 0).length := by
    unfold allPart
    have hs := List.take_append_drop (min n most - X) (downs (min n most))
    rw [Nat.sub_zero, List.take_of_length_le (i := min n most) (by rw [downs_length]; exact Nat.le_refl _)]
    conv => rhs; rw [← hs]
    rw [List.flatMap_append, List.length_append]
    omega
  rw [e, hl] at this
  omega
theorem allF_row (f : Nat) : ∀ n most, ∀ ys ∈ allF f n most, ys.length ≤ n := by
  induction f with
  | zero =>
    intro n most ys hy
    unfold allF at hy
    split at hy
    · rw [List.mem_singleton.1 hy]; simp
    · cases hy
  | succ f ih =>
    intro n most ys hy
    unfold allF at hy
    split at hy
    · rw [List.mem_singleton.1 hy]; simp
    · obtain ⟨x, hx, hy⟩ := List.mem_flatMap.1 hy
      obtain ⟨zs, hz, rfl⟩ := List.mem_map.1 hy
      have := downs_mem hx
      have := ih (n - x) x zs hz
      simp only [List.length_cons]
      omega
theorem getD_row {xss : List (List Int)} {b : Nat} (h : ∀ ys ∈ xss, ys.length ≤ b) (i : Nat) : (xss.getD i []).length ≤ b := by
  by_cases hi : i < xss.length
  · rw [List.getD_eq_getElem?_getD, List.getElem?_eq_getElem hi]; exact h _ (List.getElem_mem hi)
  · rw [List.getD_eq_getElem?_getD, List.getElem?_eq_none (by omega)]; simp

def mAllPiles (n : Int) : List (List Int) × Bool := if 0 ≤ n ∧ n ≤ 28 then (allL n.toNat, true) else ([], false)
theorem mAll_yes (n : Nat) (h : n ≤ 28) : mAllPiles n = (allL n, true) := by unfold mAllPiles; rw [if_pos (by omega)]; rfl
theorem mAll_no (n : Int) (h : ¬ (0 ≤ n ∧ n ≤ 28)) : mAllPiles n = ([], false) := by unfold mAllPiles; rw [if_neg h]
end
end Go.Proofs.YtimmjimeldejjaaGreatDoor
namespace Go.Proofs.YtimmjimeldejjaaGreatDoor
section
set_option linter.unusedVariables false
set_option linter.unusedSimpArgs false

/-! ### Steps -/
theorem stepsL_front (k : Nat) (xs : List Int) : stepsL (k + 1) xs = stepsL k (stepL xs) := by
  induction k with
  | zero => rfl
  | succ k ih => show stepL (stepsL (k + 1) xs) = stepL (stepsL k (stepL xs)); rw [ih]
theorem stepsL_sum {xs : List Int} (h : Good xs) (k : Nat) : (stepsL k xs).sum = xs.sum := by
  induction k with
  | zero => rfl
  | succ k ih => show (stepL (stepsL k xs)).sum = _; rw [stepL_sum (stepsL_good h k).1, ih]

/-! ### Sides -/
theorem side_headD {xs : List Int} (h : Good xs) : (sideL xs).headD 0 = xs.length := by
  rw [head_getD]
  cases xs with
  | nil => rfl
  | cons a l =>
    have ha := h.1 a (by simp)
    rw [sideL_getD _ _ (by simp only [List.headD_cons]; omega)]
    unfold above
    rw [List.countP_eq_length.2 (fun x hx => by have := h.1 x hx; simp; omega)]
theorem side_side {xs : List Int} (h : Good xs) : sideL (sideL xs) = xs := by
  have hl := side_headD h
  apply List.ext_getElem
  · rw [sideL_length, hl]; simp
  · intro i h1 h2
    have h3 : i < ((sideL xs).headD 0).toNat := by rw [hl]; simpa using h2
    have e := sideL_getD (sideL xs) i h3
    rw [List.getD_eq_getElem?_getD, List.getElem?_eq_getElem h1] at e
    simp only [Option.getD_some] at e
    rw [e, above_side h.2.1 (fun x hx => by have := h.1 x hx; omega), List.getD_eq_getElem?_getD, List.getElem?_eq_getElem h2]
    rfl
theorem side_sum {xs : List Int} (h : Good xs) : (sideL xs).sum = xs.sum := by
  have := sum_above xs (xs.headD 0).toNat (fun x hx => by have := good_le_head h hx; have := h.1 x hx; have := h.head; omega)
  exact this

/-! ### Order -/
theorem befB_irrefl (a : List Int) : befB a a = false := by
  induction a with
  | nil => rfl
  | cons x l ih => simp only [befB, if_true]; exact ih
theorem befB_total {a b : List Int} (h : befB a b = false) : a = b ∨ befB b a = true := by
  induction a generalizing b with
  | nil => cases b with
    | nil => exact .inl rfl
    | cons y m => exact .inr rfl
  | cons x l ih => cases b with
    | nil => simp [befB] at h
    | cons y m =>
      simp only [befB] at h ⊢
      by_cases hxy : x = y
      · subst hxy
        simp only [if_true] at h ⊢
        rcases ih h with rfl | h
        · exact .inl rfl
        · exact .inr h
      · rw [if_neg hxy] at h
        rw [if_neg (fun e => hxy e.symm)]
        right
        rw [decide_eq_false_iff_not] at h
        rw [decide_eq_true_iff]
        omega
theorem nodup_of_bef {l : List (List Int)} (h : l.Pairwise (fun a b => befB a b = true)) : l.Nodup :=
  h.imp (fun {a b} hab e => by subst e; rw [befB_irrefl] at hab; cases hab)

/-! ### Pasts -/
theorem past_low {xs : List Int} (hg : Good xs) (x : Int) : lowL (pastL xs x) = xs.erase x := by
  unfold lowL pastL
  rw [List.filter_append, List.map_append]
  have h1 : ((xs.erase x).map (· + 1)).filter (fun x => decide (1 < x)) = (xs.erase x).map (· + 1) := by
    rw [List.filter_eq_self]
    intro y hy
    obtain ⟨z, hz, rfl⟩ := List.mem_map.1 hy
    have := hg.1 z (List.mem_of_mem_erase hz)
    simp; omega
  have h2 : (List.replicate (x.toNat - (xs.length - 1)) (1 : Int)).filter (fun x => decide (1 < x)) = [] := by
    rw [List.filter_eq_nil_iff]
    intro y hy
    rw [List.mem_replicate] at hy
    simp; omega
  rw [h1, h2, List.map_map, List.map_nil, List.append_nil]
  conv => rhs; rw [← List.map_id (xs.erase x)]
  apply List.map_congr_left
  intro a _
  simp
theorem past_length {xs : List Int} {x : Int} (hx : x ∈ xs) (h1 : (xs.length : Int) - 1 ≤ x) (h0 : 1 ≤ x) : ((pastL xs x).length : Int) = x := by
  have hl := (List.perm_cons_erase hx).length_eq
  simp only [List.length_cons] at hl
  unfold pastL
  rw [List.length_append, List.length_map, List.length_replicate]
  omega
theorem past_step {xs : List Int} (hg : Good xs) {x : Int} (hx : x ∈ xs) (h1 : (xs.length : Int) - 1 ≤ x) : stepL (pastL xs x) = xs := by
  have h0 := hg.1 x hx
  have hl := past_length hx h1 h0
  have hne : pastL xs x ≠ [] := fun e => by rw [e] at hl; simp at hl; omega
  rw [stepL_cons hne, past_low hg, hl]
  rw [sortD_perm_eq (show (xs.erase x ++ [x]).Perm xs from List.perm_append_comm.trans (List.perm_cons_erase hx).symm), sortD_of_sorted hg.2.1]
theorem pasts_sound {xs ys : List Int} (hg : Good xs) (h : ys ∈ pastsL xs) : stepL ys = xs ∧ Good ys := by
  unfold pastsL at h
  split at h
  · next e => rw [List.mem_singleton.1 h, e]; exact ⟨rfl, good_nil⟩
  · obtain ⟨x, hx, h1, rfl⟩ := pastsOf_mem h
    exact ⟨past_step hg (ascL_mem hx) h1, past_good hg x (ascL_mem hx) h1⟩
theorem mem_ascL {xs : List Int} {x : Int} (h : x ∈ xs) : x ∈ ascL xs := by
  induction xs with
  | nil => cases h
  | cons a l ih =>
    rw [show ascL (a :: l) = ascL l ++ (if l.head? = some a then [] else [a]) from rfl, List.mem_append]
    rcases List.mem_cons.1 h with rfl | h
    · by_cases hh : l.head? = some x
      · exact .inl (ih (List.mem_of_head? hh))
      · rw [if_neg hh]; exact .inr (by simp)
    · exact .inl (ih h)
theorem mem_pasts {xs : List Int} {x : Int} (h : x ∈ xs) (h1 : (xs.length : Int) - 1 ≤ x) : pastL xs x ∈ pastsL xs := by
  unfold pastsL
  rw [if_neg (fun e => by rw [e] at h; cases h)]
  unfold pastsOf
  exact List.mem_map.2 ⟨x, List.mem_filter.2 ⟨mem_ascL h, by simpa using h1⟩, rfl⟩
theorem ascL_up {xs : List Int} (h : xs.Pairwise (· ≥ ·)) : (ascL xs).Pairwise (· < ·) := by
  induction xs with
  | nil => exact List.Pairwise.nil
  | cons a l ih =>
    rw [List.pairwise_cons] at h
    rw [show ascL (a :: l) = ascL l ++ (if l.head? = some a then [] else [a]) from rfl, List.pairwise_append]
    refine ⟨ih h.2, ?_, ?_⟩
    · split <;> simp
    · intro x hx y hy
      split at hy
      · cases hy
      · next hne =>
        rw [List.mem_singleton.1 hy]
        have hxl := ascL_mem hx
        cases l with
        | nil => cases hxl
        | cons b m =>
          have hb : b ≤ a := h.1 b (by simp)
          have hba : b ≠ a := fun e => hne (by rw [e]; rfl)
          have hxb : x ≤ b := by
            rcases List.mem_cons.1 hxl with rfl | hm
            · exact Int.le_refl _
            · exact (List.pairwise_cons.1 h.2).1 x hm
          omega
theorem pasts_up {xs : List Int} (hg : Good xs) : (pastsL xs).Pairwise (fun a b => befB a b = true) := by
  unfold pastsL
  split
  · exact List.pairwise_singleton _ _
  · unfold pastsOf
    rw [List.pairwise_map, List.pairwise_filter]
    refine (ascL_up hg.2.1).imp_of_mem ?_
    intro y x hy hx hyx h1 h2
    have hym := ascL_mem hy
    have hxm := ascL_mem hx
    have h1' : (xs.length : Int) - 1 ≤ y := by simpa using h1
    have h2' : (xs.length : Int) - 1 ≤ x := by simpa using h2
    rcases befB_total (past_order hg.2.1 hxm hym hyx (List.replicate (x.toNat - (xs.length - 1)) 1) (List.replicate (y.toNat - (xs.length - 1)) 1)) with e | e
    · have hly := past_length hym h1' (hg.1 y hym)
      have hlx := past_length hxm h2' (hg.1 x hxm)
      have : pastL xs x = pastL xs y := e
      rw [this] at hlx
      omega
    · exact e
theorem erase_sorted {xs : List Int} (h : xs.Pairwise (· ≥ ·)) (x : Int) : (xs.erase x).Pairwise (· ≥ ·) := h.sublist List.erase_sublist
theorem up_low {p : List Int} (h0 : ∀ x ∈ p, 1 ≤ x) (hs : p.Pairwise (· ≥ ·)) : (lowL p).map (· + 1) ++ List.replicate (p.length - (lowL p).length) 1 = p := by
  induction p with
  | nil => rfl
  | cons a l ih =>
    have hc := List.pairwise_cons.1 hs
    have ha := h0 a (by simp)
    have hl := ih (fun x hx => h0 x (by simp [hx])) hc.2
    have hll := lowL_length l
    by_cases h1 : 1 < a
    · have e : lowL (a :: l) = (a - 1) :: lowL l := by unfold lowL; rw [List.filter_cons_of_pos (by simpa using h1)]; rfl
      rw [e]
      simp only [List.map_cons, List.length_cons, List.cons_append]
      rw [show l.length + 1 - ((lowL l).length + 1) = l.length - (lowL l).length by omega, hl]
      congr 1
      omega
    · have ha1 : a = 1 := by omega
      subst ha1
      have hone : ∀ x ∈ l, x = 1 := fun x hx => by have := hc.1 x hx; have := h0 x (by simp [hx]); omega
      have e1 : lowL l = [] := by
        unfold lowL
        rw [List.filter_eq_nil_iff.2 (fun x hx => by rw [hone x hx]; decide)]; rfl
      have e : lowL (1 :: l) = [] := by
        unfold lowL
        rw [List.filter_cons_of_neg (by decide), List.filter_eq_nil_iff.2 (fun x hx => by rw [hone x hx]; decide)]; rfl
      rw [e]
      simp only [List.map_nil, List.nil_append, List.length_nil, Nat.sub_zero, List.length_cons, List.replicate_succ]
      rw [e1] at hl
      simp only [List.map_nil, List.nil_append, List.length_nil, Nat.sub_zero] at hl
      rw [hl]
theorem past_of_step {p xs : List Int} (hp : Good p) (h : stepL p = xs) : p ∈ pastsL xs := by
  by_cases hne : p = []
  · subst hne; rw [stepL_nil] at h; subst h; simp [pastsL]
  · rw [stepL_cons hne] at h
    have hperm : xs.Perm (lowL p ++ [(p.length : Int)]) := by rw [← h]; exact sortD_perm _
    have hs : xs.Pairwise (· ≥ ·) := by rw [← h]; exact sortD_sorted _
    have hm : (p.length : Int) ∈ xs := hperm.mem_iff.2 (by simp)
    have hlen := hperm.length_eq
    rw [List.length_append, List.length_singleton] at hlen
    have hll := lowL_length p
    have he : xs.erase (p.length : Int) = lowL p := by
      apply sorted_unique (erase_sorted hs _) (lowL_sorted hp.2.1)
      have h1 := (List.perm_cons_erase hm).symm.trans (hperm.trans List.perm_append_comm)
      exact List.Perm.cons_inv h1
    have hpe : pastL xs (p.length : Int) = p := by
      unfold pastL
      rw [he, hlen, Int.toNat_natCast, show p.length - ((lowL p).length + 1 - 1) = p.length - (lowL p).length by omega]
      exact up_low hp.1 hp.2.1
    have := mem_pasts hm (show (xs.length : Int) - 1 ≤ p.length by omega)
    rwa [hpe] at this

/-! ### All piles -/
theorem mem_downs {m x : Nat} (h1 : 1 ≤ x) (h2 : x ≤ m) : x ∈ downs m := by
  induction m with
  | zero => omega
  | succ m ih =>
    unfold downs
    by_cases h : x = m + 1
    · subst h; exact List.mem_cons_self
    · exact List.mem_cons_of_mem _ (ih (by omega))
theorem downs_down (m : Nat) : (downs m).Pairwise (· > ·) := by
  induction m with
  | zero => exact List.Pairwise.nil
  | succ m ih => exact List.pairwise_cons.2 ⟨fun x hx => by have := downs_mem hx; omega, ih⟩
theorem allF_succ (f n most : Nat) (hn : n ≠ 0) : allF (f + 1) n most = (downs (min n most)).flatMap fun x => (allF f (n - x) x).map ((x : Int) :: ·) := by simp [allF, hn]
theorem mem_allF (f : Nat) : ∀ (n most : Nat) (xs : List Int), n ≤ f → (∀ x ∈ xs, 1 ≤ x) → xs.Pairwise (· ≥ ·) → (∀ x ∈ xs, x ≤ most) → xs.sum = n → xs ∈ allF f n most := by
  induction f with
  | zero =>
    intro n most xs hn h1 hs hm hsum
    have hl := sum_nonneg h1
    have : xs = [] := List.eq_nil_of_length_eq_zero (by omega)
    subst this
    have : n = 0 := by omega
    subst this
    simp [allF]
  | succ f ih =>
    intro n most xs hn h1 hs hm hsum
    by_cases hz : n = 0
    · subst hz
      have hl := sum_nonneg h1
      have : xs = [] := List.eq_nil_of_length_eq_zero (by omega)
      subst this
      rw [allF_zero]; simp
    · rw [allF_succ f n most hz]
      cases xs with
      | nil => simp at hsum; omega
      | cons x l =>
        have hx1 := h1 x (by simp)
        have hxm := hm x (by simp)
        obtain ⟨X, rfl⟩ := Int.eq_ofNat_of_zero_le (show 0 ≤ x by omega)
        have hl := sum_nonneg (fun y hy => h1 y (List.mem_cons_of_mem _ hy))
        rw [List.sum_cons] at hsum
        refine List.mem_flatMap.2 ⟨X, mem_downs (by omega) (by omega), List.mem_map.2 ⟨l, ih (n - X) X l (by omega) (fun y hy => h1 y (by simp [hy])) (List.pairwise_cons.1 hs).2 (fun y hy => (List.pairwise_cons.1 hs).1 y hy) (by omega), rfl⟩⟩
theorem allF_sound (f : Nat) : ∀ (n most : Nat) (xs : List Int), n ≤ f → xs ∈ allF f n most → (∀ x ∈ xs, 1 ≤ x) ∧ xs.Pairwise (· ≥ ·) ∧ (∀ x ∈ xs, x ≤ most) ∧ xs.sum = n := by
  induction f with
  | zero =>
    intro n most xs hn h
    obtain rfl : n = 0 := by omega
    rw [allF_zero] at h
    rw [List.mem_singleton.1 h]
    simp
  | succ f ih =>
    intro n most xs hn h
    by_cases hz : n = 0
    · subst hz
      rw [allF_zero] at h
      rw [List.mem_singleton.1 h]
      simp
    · rw [allF_succ f n most hz] at h
      obtain ⟨x, hx, hy⟩ := List.mem_flatMap.1 h
      obtain ⟨zs, hzs, rfl⟩ := List.mem_map.1 hy
      have hd := downs_mem hx
      obtain ⟨a, b, c, d⟩ := ih (n - x) x zs (by omega) hzs
      refine ⟨fun y hy => ?_, List.pairwise_cons.2 ⟨fun y hy => c y hy, b⟩, fun y hy => ?_, by rw [List.sum_cons]; omega⟩
      · rcases List.mem_cons.1 hy with rfl | hy
        · omega
        · exact a y hy
      · rcases List.mem_cons.1 hy with rfl | hy
        · omega
        · have := c y hy; omega
theorem allF_up (f : Nat) : ∀ (n most : Nat), (allF f n most).Pairwise (fun a b => befB a b = true) := by
  induction f with
  | zero =>
    intro n most
    unfold allF
    split
    · exact List.pairwise_singleton _ _
    · exact List.Pairwise.nil
  | succ f ih =>
    intro n most
    by_cases hz : n = 0
    · subst hz; rw [allF_zero]; exact List.pairwise_singleton _ _
    · rw [allF_succ f n most hz, List.pairwise_flatMap]
      refine ⟨fun x hx => ?_, (downs_down _).imp ?_⟩
      · rw [List.pairwise_map]
        exact (ih (n - x) x).imp (fun {a b} h => by simp only [befB, if_true]; exact h)
      · intro x y hxy p hp q hq
        obtain ⟨p', _, rfl⟩ := List.mem_map.1 hp
        obtain ⟨q', _, rfl⟩ := List.mem_map.1 hq
        simp only [befB]
        rw [if_neg (by omega)]
        simp; omega
theorem mem_allL {xs : List Int} (h : Good xs) : xs ∈ allL xs.sum.toNat := by
  have hs := sum_nonneg h.1
  exact mem_allF 28 _ _ xs (by have := h.2.2; omega) h.1 h.2.1 (fun x hx => by have := mem_le_sum h.1 hx; omega) (by omega)
theorem allL_good {n : Nat} (hn : n ≤ 28) {xs : List Int} (h : xs ∈ allL n) : Good xs ∧ xs.sum = n := by
  obtain ⟨a, b, _, d⟩ := allF_sound 28 n n xs hn h
  exact ⟨⟨a, b, by omega⟩, d⟩
theorem allL_up (n : Nat) : (allL n).Pairwise (fun a b => befB a b = true) := allF_up 28 n n
/-- as many of the piles step to these as these have pasts -/
theorem pasts_count {xs : List Int} (h : Good xs) : ((allL xs.sum.toNat).filter (fun p => decide (stepL p = xs))).length = (pastsL xs).length := by
  have hs := sum_nonneg h.1
  have hp : ((allL xs.sum.toNat).filter (fun p => decide (stepL p = xs))).Perm (pastsL xs) := by
    rw [List.perm_ext_iff_of_nodup ((nodup_of_bef (allL_up _)).filter _) (nodup_of_bef (pasts_up h))]
    intro p
    rw [List.mem_filter]
    constructor
    · rintro ⟨hp, he⟩
      exact past_of_step (allL_good (by have := h.2.2; omega) hp).1 (by simpa using he)
    · intro hp
      obtain ⟨he, hg⟩ := pasts_sound h hp
      refine ⟨?_, by simpa using he⟩
      have hsum : p.sum = xs.sum := by rw [← he]; exact (stepL_sum hg.1).symm
      rw [← hsum]
      exact mem_allL hg
  exact hp.length_eq

/-! ### Ranks -/
theorem findX_rank {n q : Nat} (hn1 : 1 ≤ n) (hn : n ≤ 28) : ∀ r, q ≤ n → r < cnt q n → 1 ≤ (findX n q r).1 ∧ (findX n q r).1 ≤ q ∧ (findX n q r).2 < cnt (findX n q r).1 (n - (findX n q r).1) ∧ r + cnt (findX n q r).1 n = cnt q n + (findX n q r).2 := by
  induction q with
  | zero =>
    intro r _ hr
    have := cnt_none n (by omega)
    rw [if_neg (by omega)] at this
    omega
  | succ q ih =>
    intro r hq hr
    have hrec := cnt_rec q (by omega) n (by omega)
    rw [if_pos hq] at hrec
    by_cases hle : cnt (q + 1) (n - (q + 1)) ≤ r
    · rw [findX_step n (q + 1) r hle (by omega), show q + 1 - 1 = q by omega]
      obtain ⟨a, b, c, d⟩ := ih (r - cnt (q + 1) (n - (q + 1))) (by omega) (by omega)
      exact ⟨a, by omega, c, by omega⟩
    · rw [findX_stop n (q + 1) r (by omega) (by omega)]
      exact ⟨by show 1 ≤ q + 1; omega, Nat.le_refl _, by show r < cnt (q + 1) (n - (q + 1)); omega, by show r + cnt (q + 1) n = cnt (q + 1) n + r; omega⟩
theorem flat_at (f n : Nat) (hn1 : 1 ≤ n) (hn : n ≤ 28) (hf : n ≤ f + 1) : ∀ q r, q ≤ n → r < cnt q n →
    ((downs q).flatMap fun x => (allF f (n - x) x).map ((x : Int) :: ·))[r]? = ((allF f (n - (findX n q r).1) (findX n q r).1)[(findX n q r).2]?).map (((findX n q r).1 : Int) :: ·) := by
  intro q
  induction q with
  | zero =>
    intro r _ hr
    have := cnt_none n (by omega)
    rw [if_neg (by omega)] at this
    omega
  | succ q ih =>
    intro r hq hr
    have hrec := cnt_rec q (by omega) n (by omega)
    rw [if_pos hq] at hrec
    have hlen : (allF f (n - (q + 1)) (q + 1)).length = cnt (q + 1) (n - (q + 1)) := allF_length f _ _ (by omega) (by omega) (by omega)
    unfold downs
    rw [List.flatMap_cons]
    by_cases hle : cnt (q + 1) (n - (q + 1)) ≤ r
    · rw [findX_step n (q + 1) r hle (by omega), show q + 1 - 1 = q by omega, List.getElem?_append_right (by rw [List.length_map, hlen]; exact hle), List.length_map, hlen]
      exact ih _ (by omega) (by omega)
    · rw [findX_stop n (q + 1) r (by omega) (by omega), List.getElem?_append_left (by rw [List.length_map, hlen]; omega), List.getElem?_map]
theorem allF_at (f : Nat) : ∀ n most r, n ≤ f → n ≤ 28 → most ≤ 28 → r < cnt most n → (allF f n most)[r]? = some (withF f n most r) := by
  induction f with
  | zero =>
    intro n most r h1 h2 h3 hr
    obtain rfl : n = 0 := by omega
    rw [cnt_zero most (by omega)] at hr
    obtain rfl : r = 0 := by omega
    rfl
  | succ f ih =>
    intro n most r h1 h2 h3 hr
    by_cases hz : n = 0
    · subst hz
      rw [cnt_zero most (by omega)] at hr
      obtain rfl : r = 0 := by omega
      rw [allF_zero]; simp [withF]
    · have hr' : r < cnt (min n most) n := by rw [cnt_min h2 h3]; exact hr
      obtain ⟨a, b, c, d⟩ := findX_rank (by omega) h2 r (Nat.min_le_left n most) hr'
      rw [allF_succ f n most hz, flat_at f n (by omega) h2 h1 _ r (Nat.min_le_left _ _) hr', ih _ _ _ (by omega) (by omega) (by omega) c]
      rw [show withF (f + 1) n most r = if n = 0 then [] else ((findX n (min n most) r).1 : Int) :: withF f (n - (findX n (min n most) r).1) (findX n (min n most) r).1 (findX n (min n most) r).2 from rfl, if_neg hz]
      rfl
theorem allL_at {n r : Nat} (hn : n ≤ 28) (hr : r < cnt n n) : (allL n)[r]? = some (withL n r) := allF_at 28 n n r hn hn hn hr
theorem withL_mem {n r : Nat} (hn : n ≤ 28) (hr : r < cnt n n) : withL n r ∈ allL n := List.mem_of_getElem? (allL_at hn hr)
theorem withL_next {n r : Nat} (hn : n ≤ 28) (hr : r + 1 < cnt n n) : befB (withL n r) (withL n (r + 1)) = true := by
  have h1 := allL_at hn (show r < cnt n n by omega)
  have h2 := allL_at hn hr
  obtain ⟨l1, e1⟩ := List.getElem?_eq_some_iff.1 h1
  obtain ⟨l2, e2⟩ := List.getElem?_eq_some_iff.1 h2
  have := List.pairwise_iff_getElem.1 (allL_up n) r (r + 1) l1 l2 (by omega)
  rwa [e1, e2] at this
/-- the rank, number by number -/
def rankG (n most : Int) : List Int → Int
  | [] => 0
  | x :: l => (cnt (min n most).toNat n.toNat : Int) - (cnt x.toNat n.toNat : Int) + rankG (n - x) x l
theorem rankTo_split (l : List Int) : ∀ pre : List Int, rankTo (pre ++ l) (pre.length + l.length) = rankTo (pre ++ l) pre.length + rankG (leftAt (pre ++ l) pre.length) (mostAt (pre ++ l) pre.length) l := by
  induction l with
  | nil => intro pre; simp [rankG]
  | cons x l ih =>
    intro pre
    have h := ih (pre ++ [x])
    have e1 : pre ++ [x] ++ l = pre ++ x :: l := by simp
    have e2 : (pre ++ [x]).length = pre.length + 1 := by simp
    rw [e1, e2] at h
    have e3 : pre.length + (x :: l).length = pre.length + 1 + l.length := by simp; omega
    rw [e3, h]
    have hx : (pre ++ x :: l).getD pre.length 0 = x := by
      rw [List.getD_eq_getElem?_getD, List.getElem?_append_right (Nat.le_refl _)]; simp
    have e4 : rankTo (pre ++ x :: l) (pre.length + 1) = rankTo (pre ++ x :: l) pre.length + rankT (pre ++ x :: l) pre.length := rfl
    have e5 : leftAt (pre ++ x :: l) (pre.length + 1) = leftAt (pre ++ x :: l) pre.length - x := by
      unfold leftAt
      have h1 : (pre ++ x :: l).take (pre.length + 1) = pre ++ [x] := by
        rw [List.take_append, List.take_of_length_le (by omega)]; simp
      have h2 : (pre ++ x :: l).take pre.length = pre := by simp
      rw [h1, h2, List.sum_append (l₁ := pre) (l₂ := [x])]
      simp only [List.sum_cons, List.sum_nil]
      omega
    have e6 : mostAt (pre ++ x :: l) (pre.length + 1) = x := by
      unfold mostAt
      rw [if_neg (by omega), show pre.length + 1 - 1 = pre.length by omega, hx]
    rw [e4, e5, e6]
    unfold rankT
    rw [hx]
    show _ = _ + rankG _ _ (x :: l)
    rw [show ∀ a b, rankG a b (x :: l) = (cnt (min a b).toNat a.toNat : Int) - (cnt x.toNat a.toNat : Int) + rankG (a - x) x l from fun _ _ => rfl]
    omega
theorem rankL_eq (xs : List Int) : rankL xs = rankG xs.sum xs.sum xs := by
  have h := rankTo_split xs []
  simp only [List.nil_append, List.length_nil, Nat.zero_add] at h
  unfold rankL
  rw [h]
  unfold leftAt mostAt
  simp [rankTo]
theorem rankG_with (f : Nat) : ∀ n most r, n ≤ f → n ≤ 28 → most ≤ 28 → r < cnt most n → rankG n most (withF f n most r) = r := by
  induction f with
  | zero =>
    intro n most r h1 h2 h3 hr
    obtain rfl : n = 0 := by omega
    rw [cnt_zero most (by omega)] at hr
    obtain rfl : r = 0 := by omega
    rfl
  | succ f ih =>
    intro n most r h1 h2 h3 hr
    by_cases hz : n = 0
    · subst hz
      rw [cnt_zero most (by omega)] at hr
      obtain rfl : r = 0 := by omega
      simp [withF, rankG]
    · have hr' : r < cnt (min n most) n := by rw [cnt_min h2 h3]; exact hr
      obtain ⟨a, b, c, d⟩ := findX_rank (by omega) h2 r (Nat.min_le_left n most) hr'
      rw [show withF (f + 1) n most r = if n = 0 then [] else ((findX n (min n most) r).1 : Int) :: withF f (n - (findX n (min n most) r).1) (findX n (min n most) r).1 (findX n (min n most) r).2 from rfl, if_neg hz]
      generalize (findX n (min n most) r).1 = X at a b c d ⊢
      generalize (findX n (min n most) r).2 = R at c d ⊢
      have hi := ih (n - X) X R (by omega) (by omega) (by omega) c
      rw [show rankG (n : Int) most ((X : Int) :: withF f (n - X) X R) = (cnt (min (n : Int) most).toNat (n : Int).toNat : Int) - (cnt (X : Int).toNat (n : Int).toNat : Int) + rankG ((n : Int) - X) X (withF f (n - X) X R) from rfl]
      rw [show ((n : Int) - X) = ((n - X : Nat) : Int) by omega, hi, show (min (n : Int) most).toNat = min n most by omega]
      simp only [Int.toNat_natCast]
      omega
theorem rankL_with {n r : Nat} (hn : n ≤ 28) (hr : r < cnt n n) : rankL (withL n r) = r := by
  rw [rankL_eq, (allL_good hn (withL_mem hn hr)).2]
  exact rankG_with 28 n n r hn hn hn hr
end
end Go.Proofs.YtimmjimeldejjaaGreatDoor
namespace Go.Proofs.YtimmjimeldejjaaGreatDoor
section
set_option linter.unusedVariables false
set_option linter.unusedSimpArgs false

/-! ### The potential (twice it) -/
def potL : List Int → Int
  | [] => 0
  | x :: l => x * x - x + potL l + 2 * l.sum
theorem sq_succ (m : Int) : (m + 1) * (m + 1) - (m + 1) = m * m - m + 2 * m := by
  rw [Int.add_mul, Int.mul_add]; omega
theorem lowL_cons_hi {a : Int} (l : List Int) (h : 1 < a) : lowL (a :: l) = (a - 1) :: lowL l := by
  unfold lowL; rw [List.filter_cons_of_pos (by simpa using h)]; rfl
theorem lowL_cons_lo {a : Int} (l : List Int) (h : ¬ 1 < a) : lowL (a :: l) = lowL l := by
  unfold lowL; rw [List.filter_cons_of_neg (by simpa using h)]
theorem lowL_ones {l : List Int} (h : ∀ x ∈ l, x ≤ 1) : lowL l = [] := by
  unfold lowL; rw [List.filter_eq_nil_iff.2 (fun x hx => by have := h x hx; simp; omega)]; rfl
/-- cards stay on their levels before piles are exchanged -/
theorem pot_low {xs : List Int} (h1 : ∀ x ∈ xs, 1 ≤ x) (hs : xs.Pairwise (· ≥ ·)) :
    potL ((xs.length : Int) :: lowL xs) = potL xs := by
  induction xs with
  | nil => rfl
  | cons a l ih =>
    have ih := ih (fun x hx => h1 x (by simp [hx])) (List.pairwise_cons.1 hs).2
    have ha := h1 a (by simp)
    have hsum := lowL_sum (fun x hx => h1 x (List.mem_cons_of_mem a hx) : ∀ x ∈ l, 1 ≤ x)
    have e1 := sq_succ (l.length : Int)
    have hlen : (((a :: l).length : Nat) : Int) = (l.length : Int) + 1 := by simp
    by_cases h : 1 < a
    · rw [lowL_cons_hi l h]
      have e2 := sq_succ (a - 1)
      rw [show a - 1 + 1 = a by omega] at e2
      simp only [potL, List.sum_cons] at ih ⊢
      rw [hlen]
      omega
    · have h0 : lowL l = [] := lowL_ones (fun x hx => by have : a ≥ x := (List.pairwise_cons.1 hs).1 x hx; omega)
      rw [lowL_cons_lo l h]
      obtain rfl : a = 1 := by omega
      rw [h0] at ih hsum ⊢
      simp only [potL, List.sum_nil] at ih hsum ⊢
      rw [hlen]
      omega
/-- one number put into its place -/
def insL (n : Int) : List Int → List Int
  | [] => [n]
  | x :: l => if n < x then x :: insL n l else n :: x :: l
theorem insL_perm (n : Int) (l : List Int) : (insL n l).Perm (n :: l) := by
  induction l with
  | nil => exact List.Perm.refl _
  | cons x l ih =>
    unfold insL
    split
    · exact (ih.cons x).trans (List.Perm.swap n x l)
    · exact List.Perm.refl _
theorem insL_sorted (n : Int) {l : List Int} (h : l.Pairwise (· ≥ ·)) : (insL n l).Pairwise (· ≥ ·) := by
  induction l with
  | nil => exact List.pairwise_singleton _ _
  | cons x l ih =>
    have hc := List.pairwise_cons.1 h
    unfold insL
    split
    · rw [List.pairwise_cons]
      refine ⟨fun y hy => ?_, ih hc.2⟩
      rcases List.mem_cons.1 ((insL_perm n l).mem_iff.1 hy) with rfl | hy
      · show x ≥ y; omega
      · exact hc.1 y hy
    · rw [List.pairwise_cons]
      refine ⟨fun y hy => ?_, h⟩
      rcases List.mem_cons.1 hy with rfl | hy
      · show n ≥ y; omega
      · have : x ≥ y := hc.1 y hy
        show n ≥ y; omega
theorem pot_ins (n : Int) (l : List Int) : potL (insL n l) ≤ potL (n :: l) ∧ (potL (insL n l) = potL (n :: l) → insL n l = n :: l) := by
  induction l with
  | nil => exact ⟨Int.le_refl _, fun _ => rfl⟩
  | cons x l ih =>
    unfold insL
    split
    · next h =>
      have hp := perm_sum (insL_perm n l)
      have := ih.1
      simp only [potL, List.sum_cons] at *
      refine ⟨by omega, fun e => ?_⟩
      omega
    · exact ⟨Int.le_refl _, fun _ => rfl⟩
theorem stepL_ins {xs : List Int} (hs : xs.Pairwise (· ≥ ·)) (h : xs ≠ []) : stepL xs = insL (xs.length : Int) (lowL xs) := by
  rw [stepL_cons h]
  exact (sortD_unique (insL_sorted _ (lowL_sorted hs)) ((insL_perm _ _).trans (List.perm_append_singleton _ _).symm)).symm
theorem pot_step {xs : List Int} (hg : Good xs) : potL (stepL xs) ≤ potL xs ∧ (potL (stepL xs) = potL xs → xs ≠ [] → stepL xs = (xs.length : Int) :: lowL xs) := by
  by_cases h : xs = []
  · subst h; exact ⟨Int.le_refl _, fun _ h => absurd rfl h⟩
  · rw [stepL_ins hg.2.1 h, ← pot_low hg.1 hg.2.1]
    exact ⟨(pot_ins _ _).1, fun e _ => (pot_ins _ _).2 e⟩

/-! ### Steps add up -/
theorem stepsL_plus (i j : Nat) (xs : List Int) : stepsL (i + j) xs = stepsL i (stepsL j xs) := by
  induction i with
  | zero => simp [stepsL]
  | succ i ih => rw [show i + 1 + j = (i + j) + 1 by omega]; show stepL (stepsL (i + j) xs) = stepL (stepsL i (stepsL j xs)); rw [ih]
theorem stepsL_mul {xs : List Int} {p : Nat} (h : stepsL p xs = xs) (m : Nat) : stepsL (p * m) xs = xs := by
  induction m with
  | zero => rfl
  | succ m ih => rw [Nat.mul_succ, stepsL_plus, h, ih]
theorem pot_steps {xs : List Int} (hg : Good xs) (k : Nat) : potL (stepsL k xs) ≤ potL xs := by
  induction k with
  | zero => exact Int.le_refl _
  | succ k ih => exact Int.le_trans (pot_step (stepsL_good hg k)).1 ih
/-- what comes again is never exchanged -/
theorem straight {xs : List Int} (hg : Good xs) {p : Nat} (hp : 0 < p) (h : stepsL p xs = xs) (t : Nat) (hne : stepsL t xs ≠ []) :
    stepsL (t + 1) xs = ((stepsL t xs).length : Int) :: lowL (stepsL t xs) := by
  have h1 := pot_step (stepsL_good hg t)
  have h2 := pot_steps hg t
  have h3 : potL xs ≤ potL (stepsL (t + 1) xs) := by
    have hle : t + 1 ≤ p * (t + 1) := Nat.le_mul_of_pos_left _ hp
    have e := stepsL_mul h (t + 1)
    have := pot_steps (stepsL_good hg (t + 1)) (p * (t + 1) - (t + 1))
    rw [← stepsL_plus, show p * (t + 1) - (t + 1) + (t + 1) = p * (t + 1) by omega, e] at this
    exact this
  have h4 : stepsL (t + 1) xs = stepL (stepsL t xs) := rfl
  rw [h4] at h3 ⊢
  exact h1.2 (by omega) hne

/-! ### Cards on levels -/
def cel (xs : List Int) (i p : Nat) : Prop := (p : Int) < xs.getD i 0
theorem getD_nonneg {xs : List Int} (h : ∀ x ∈ xs, 1 ≤ x) (i : Nat) : 0 ≤ xs.getD i 0 ∧ (0 < xs.getD i 0 ↔ i < xs.length) := by
  by_cases hi : i < xs.length
  · rw [List.getD_eq_getElem?_getD, List.getElem?_eq_getElem hi]
    have := h _ (List.getElem_mem hi)
    simp only [Option.getD_some]
    exact ⟨by omega, by omega⟩
  · rw [List.getD_eq_getElem?_getD, List.getElem?_eq_none (by omega)]
    simp; omega
theorem lowL_getD {xs : List Int} (h1 : ∀ x ∈ xs, 1 ≤ x) (hs : xs.Pairwise (· ≥ ·)) (i : Nat) : (lowL xs).getD i 0 = if 0 < xs.getD i 0 then xs.getD i 0 - 1 else 0 := by
  induction xs generalizing i with
  | nil => simp [lowL]
  | cons a l ih =>
    have ha := h1 a (by simp)
    have ih := fun i => ih (fun x hx => h1 x (by simp [hx])) (List.pairwise_cons.1 hs).2 i
    by_cases h : 1 < a
    · rw [lowL_cons_hi l h]
      cases i with
      | zero => simp; omega
      | succ i => simp only [List.getD_cons_succ]; exact ih i
    · have hall : ∀ x ∈ a :: l, x ≤ 1 := fun x hx => by
        rcases List.mem_cons.1 hx with rfl | hx
        · omega
        · have : a ≥ x := (List.pairwise_cons.1 hs).1 x hx
          omega
      rw [lowL_ones hall]
      by_cases hi : i < (a :: l).length
      · have e : (a :: l).getD i 0 = (a :: l)[i] := by rw [List.getD_eq_getElem?_getD, List.getElem?_eq_getElem hi]; rfl
        have := hall _ (List.getElem_mem hi)
        have := h1 _ (List.getElem_mem hi)
        rw [e]
        simp only [List.getD_nil]
        split <;> omega
      · rw [List.getD_eq_getElem?_getD (l := a :: l), List.getElem?_eq_none (by omega)]; simp
section
variable {xs : List Int} (hg : Good xs) {p : Nat} (hp : 0 < p) (h : stepsL p xs = xs)
include hg hp h
theorem cel_first (t q : Nat) : cel (stepsL (t + 1) xs) 0 q ↔ cel (stepsL t xs) q 0 := by
  have hG := stepsL_good hg t
  unfold cel
  by_cases hne : stepsL t xs = []
  · rw [show stepsL (t + 1) xs = stepL (stepsL t xs) from rfl, hne, stepL_nil]; simp
  · rw [straight hg hp h t hne]
    have := getD_nonneg hG.1 q
    simp only [List.getD_cons_zero]
    have h2 := this.2
    constructor
    · intro hh; exact h2.2 (by omega)
    · intro hh; have := h2.1 hh; omega
theorem cel_next (t i q : Nat) : cel (stepsL (t + 1) xs) (i + 1) q ↔ cel (stepsL t xs) i (q + 1) := by
  have hG := stepsL_good hg t
  unfold cel
  by_cases hne : stepsL t xs = []
  · rw [show stepsL (t + 1) xs = stepL (stepsL t xs) from rfl, hne, stepL_nil]; simp
    omega
  · rw [straight hg hp h t hne]
    have := getD_nonneg hG.1 i
    simp only [List.getD_cons_succ]
    rw [lowL_getD hG.1 hG.2.1]
    split <;> omega
/-- a card goes along its level -/
theorem lev_run (l j s t : Nat) (hj : j + s ≤ l) : cel (stepsL (t + s) xs) (j + s) (l - (j + s)) ↔ cel (stepsL t xs) j (l - j) := by
  induction s with
  | zero => exact Iff.rfl
  | succ s ih =>
    rw [← ih (by omega), show t + (s + 1) = (t + s) + 1 by omega, show j + (s + 1) = (j + s) + 1 by omega, cel_next hg hp h, show l - (j + s + 1) + 1 = l - (j + s) by omega]
theorem lev_zero (l j t : Nat) (hj : j ≤ l) : cel (stepsL (t + (l + 1 - j)) xs) 0 l ↔ cel (stepsL t xs) j (l - j) := by
  rw [← lev_run hg hp h l j (l - j) t (by omega), show t + (l + 1 - j) = t + (l - j) + 1 by omega, cel_first hg hp h, show j + (l - j) = l by omega, Nat.sub_self]
theorem lev_round (l t m : Nat) : cel (stepsL (t + m * (l + 1)) xs) 0 l ↔ cel (stepsL t xs) 0 l := by
  induction m with
  | zero => simp
  | succ m ih =>
    rw [← ih, Nat.succ_mul, ← Nat.add_assoc]
    have := lev_zero hg hp h l 0 (t + m * (l + 1)) (by omega)
    simp only [Nat.sub_zero] at this
    exact this
theorem lev_above (l i j : Nat) (hi : i ≤ l) (hh : ¬ cel xs i (l - i)) (hj : j ≤ l + 1) : ¬ cel xs j (l + 1 - j) := by
  intro hc
  have a1 := lev_zero hg hp h l i 0 hi
  have a2 := lev_zero hg hp h (l + 1) j 0 hj
  have b1 : ¬ cel (stepsL (l + 1 - i) xs) 0 l := by
    rw [Nat.zero_add] at a1; exact fun hc => hh (a1.1 hc)
  have b2 : cel (stepsL (l + 1 + 1 - j) xs) 0 (l + 1) := by
    rw [Nat.zero_add] at a2; exact a2.2 hc
  have c1 := lev_round hg hp h l (l + 1 - i) (2 * (l + 1) + (l + 1 - i) - (l + 1 + 1 - j) + 2)
  have c2 := lev_round hg hp h (l + 1) (l + 1 + 1 - j) (2 * (l + 1) + (l + 1 - i) - (l + 1 + 1 - j))
  have e : l + 1 - i + (2 * (l + 1) + (l + 1 - i) - (l + 1 + 1 - j) + 2) * (l + 1) = l + 1 + 1 - j + (2 * (l + 1) + (l + 1 - i) - (l + 1 + 1 - j)) * (l + 1 + 1) := by
    generalize hm : 2 * (l + 1) + (l + 1 - i) - (l + 1 + 1 - j) = m
    rw [Nat.add_mul, Nat.mul_succ m (l + 1)]
    omega
  rw [e] at c1
  have d1 : ¬ cel _ 0 l := fun hc => b1 (c1.1 hc)
  have d2 := c2.2 b2
  unfold cel at d1 d2
  omega
theorem lev_empty (l i : Nat) (hi : i ≤ l) (hh : ¬ cel xs i (l - i)) (d j : Nat) (hj : j ≤ l + 1 + d) : ¬ cel xs j (l + 1 + d - j) := by
  induction d generalizing j with
  | zero => exact lev_above hg hp h l i j hi hh hj
  | succ d ih => exact lev_above hg hp h (l + 1 + d) 0 j (by omega) (by have := ih 0 (by omega); exact this) hj
end

/-! ### Near the staircase -/
theorem tri_succ (k : Nat) : tri (k + 1) = tri k + (k + 1) := by
  unfold tri
  rw [show (k + 1) * (k + 1 + 1) = k * (k + 1) + 2 * (k + 1) by rw [Nat.mul_succ (k + 1), Nat.succ_mul]; omega]
  omega
theorem near_sum (L : Nat) : ∀ xs : List Int, xs.length ≤ L + 1 → (∀ i, i ≤ L → (L : Int) - i ≤ xs.getD i 0 ∧ xs.getD i 0 ≤ (L : Int) - i + 1) →
    (tri L : Int) ≤ xs.sum ∧ xs.sum ≤ tri L + L + 1 ∧ ((∃ i, i ≤ L ∧ xs.getD i 0 = (L : Int) - i) → xs.sum ≤ tri L + L) := by
  induction L with
  | zero =>
    intro xs hl h
    have h0 := h 0 (by omega)
    match xs, hl, h0 with
    | [], _, _ => simp [tri]
    | [x], _, h0 =>
      simp only [List.getD_cons_zero, List.sum_cons, List.sum_nil] at h0 ⊢
      have e : (tri 0 : Int) = 0 := rfl
      refine ⟨by omega, by omega, ?_⟩
      rintro ⟨i, hi, e⟩
      obtain rfl : i = 0 := by omega
      simp only [List.getD_cons_zero] at e
      omega
    | _ :: _ :: _, hl, _ => simp at hl
  | succ L ih =>
    intro xs hl h
    cases xs with
    | nil =>
      have := h 0 (by omega)
      simp at this
      omega
    | cons x l =>
      have h0 := h 0 (by omega)
      simp only [List.getD_cons_zero] at h0
      have hr := ih l (by simpa using hl) (fun i hi => by
        have := h (i + 1) (by omega)
        simp only [List.getD_cons_succ] at this
        omega)
      have ht := tri_succ L
      rw [List.sum_cons]
      refine ⟨by omega, by omega, ?_⟩
      rintro ⟨i, hi, e⟩
      cases i with
      | zero => simp only [List.getD_cons_zero] at e; omega
      | succ i =>
        simp only [List.getD_cons_succ] at e
        have := hr.2.2 ⟨i, by omega, by omega⟩
        omega
theorem tri_mono (k d : Nat) : tri k + d * (k + 1) ≤ tri (k + d) := by
  induction d with
  | zero => simp
  | succ d ih =>
    rw [show k + (d + 1) = (k + d) + 1 by omega, tri_succ, Nat.succ_mul]
    omega
theorem hgt_small : ∀ L, L < 8 → ∀ n, n < 29 → tri L ≤ n → n ≤ tri L + L → hgt n = L := by decide +kernel
theorem hgt_unique {n L : Nat} (hn : n ≤ 28) (h1 : tri L ≤ n) (h2 : n ≤ tri L + L) : hgt n = L := by
  by_cases hL : L < 8
  · exact hgt_small L hL n (by omega) h1 h2
  · have := tri_mono 8 (L - 8)
    rw [show 8 + (L - 8) = L by omega] at this
    have e : tri 8 = 36 := rfl
    omega

/-- near the staircase: each pile has what the staircase has, or one more -/
def Cyc (xs : List Int) : Prop := xs.length ≤ hgt xs.sum.toNat + 1 ∧ ∀ i, i < hgt xs.sum.toNat + 1 → (xs.getD i 0 - (hgt xs.sum.toNat - i) = 0 ∨ xs.getD i 0 - (hgt xs.sum.toNat - i) = 1)
instance (xs : List Int) : Decidable (Cyc xs) := by unfold Cyc; infer_instance
def cycB (xs : List Int) : Bool := decide (Cyc xs)
theorem cyc_iff {xs : List Int} : cycB xs = true ↔ Cyc xs := by unfold cycB; simp

theorem least_hole (P : Nat → Prop) (n : Nat) (h : P n) : ∃ m, P m ∧ ∀ k, k < m → ¬ P k := by
  induction n using Nat.strongRecOn with
  | _ n ih =>
    by_cases hk : ∃ k, k < n ∧ P k
    · obtain ⟨k, hk, hP⟩ := hk; exact ih k hk hP
    · exact ⟨n, h, fun k hk' hP => hk ⟨k, hk', hP⟩⟩
/-- what comes again is near the staircase -/
theorem cyc_of_again {xs : List Int} (hg : Good xs) {p : Nat} (hp : 0 < p) (h : stepsL p xs = xs) : Cyc xs := by
  obtain ⟨L, ⟨i, hi, hh⟩, hmin⟩ := least_hole (fun l => ∃ i, i ≤ l ∧ ¬ cel xs i (l - i)) 28 ⟨0, by omega, by
    unfold cel
    have := hg.head
    rw [head_getD] at this
    simp only [Nat.sub_zero]
    omega⟩
  have hfull : ∀ l, l < L → ∀ j, j ≤ l → cel xs j (l - j) := fun l hl j hj => Classical.byContradiction fun hc => hmin l hl ⟨j, hj, hc⟩
  have hhi : ∀ j, j ≤ L + 1 → xs.getD j 0 ≤ (L : Int) + 1 - j := by
    intro j hj
    have := lev_above hg hp h L i j hi hh hj
    unfold cel at this
    omega
  have hlo : ∀ j, j ≤ L → (L : Int) - j ≤ xs.getD j 0 := by
    intro j hj
    by_cases hjl : j = L
    · have := (getD_nonneg hg.1 j).1; omega
    · have := hfull (L - 1) (by omega) j (by omega)
      unfold cel at this
      omega
  have hlen : xs.length ≤ L + 1 := by
    have h1 := hhi (L + 1) (Nat.le_refl _)
    have h2 := getD_nonneg hg.1 (L + 1)
    have h3 := h2.2
    by_cases hl : L + 1 < xs.length
    · have := h3.2 hl; omega
    · omega
  have hns := near_sum L xs hlen (fun j hj => ⟨hlo j hj, by have := hhi j (by omega); omega⟩)
  have hs := hns.2.2 ⟨i, hi, by
    have h1 := hlo i hi
    unfold cel at hh
    omega⟩
  have hk : hgt xs.sum.toNat = L := hgt_unique (by have := hg.2.2; omega) (by omega) (by omega)
  unfold Cyc
  rw [hk]
  refine ⟨hlen, fun j hj => ?_⟩
  have h1 := hlo j (by omega)
  have h2 := hhi j (by omega)
  omega
end
end Go.Proofs.YtimmjimeldejjaaGreatDoor
namespace Go.Proofs.YtimmjimeldejjaaGreatDoor
section
set_option linter.unusedVariables false
set_option linter.unusedSimpArgs false

/-! ### Bits -/
def fromB : List Int → List Int
  | [] => []
  | b :: l => if 0 < (l.length : Int) + b then ((l.length : Int) + b) :: fromB l else fromB l
def IsB (bs : List Int) : Prop := ∀ b ∈ bs, b = 0 ∨ b = 1
theorem fromB_low {bs : List Int} (h : IsB bs) {b : Int} (hb : b = 0 ∨ b = 1) : lowL (fromB (bs ++ [b])) = fromB bs := by
  induction bs with
  | nil =>
    rcases hb with rfl | rfl <;> rfl
  | cons c l ih =>
    have ih := ih (fun x hx => h x (by simp [hx]))
    have hc := h c (by simp)
    have hl : (((l ++ [b]).length : Nat) : Int) = (l.length : Int) + 1 := by simp
    rw [List.cons_append]
    unfold fromB
    rw [hl, if_pos (by omega)]
    by_cases hp : 0 < (l.length : Int) + c
    · rw [if_pos hp, lowL_cons_hi _ (by omega), ih]
      congr 1; omega
    · rw [if_neg hp, lowL_cons_lo _ (by omega), ih]
theorem fromB_length {bs : List Int} (h : IsB bs) {b : Int} (hb : b = 0 ∨ b = 1) : (((fromB (bs ++ [b])).length : Nat) : Int) = bs.length + b := by
  induction bs with
  | nil => rcases hb with rfl | rfl <;> rfl
  | cons c l ih =>
    have ih := ih (fun x hx => h x (by simp [hx]))
    have hc := h c (by simp)
    have hl : (((l ++ [b]).length : Nat) : Int) = (l.length : Int) + 1 := by simp
    rw [List.cons_append]
    unfold fromB
    rw [hl, if_pos (by omega)]
    simp only [List.length_cons]
    omega
theorem fromB_le {bs : List Int} (h : IsB bs) : ∀ x ∈ fromB bs, 1 ≤ x ∧ x ≤ bs.length := by
  induction bs with
  | nil => intro x hx; cases hx
  | cons c l ih =>
    have ih := ih (fun x hx => h x (by simp [hx]))
    have hc := h c (by simp)
    intro x hx
    unfold fromB at hx
    simp only [List.length_cons]
    split at hx
    · rcases List.mem_cons.1 hx with rfl | hx
      · omega
      · have := ih x hx; omega
    · have := ih x hx; omega
theorem fromB_sorted {bs : List Int} (h : IsB bs) : (fromB bs).Pairwise (· ≥ ·) := by
  induction bs with
  | nil => exact List.Pairwise.nil
  | cons c l ih =>
    have hl : IsB l := fun x hx => h x (by simp [hx])
    have ih := ih hl
    have hc := h c (by simp)
    unfold fromB
    split
    · rw [List.pairwise_cons]
      refine ⟨fun x hx => ?_, ih⟩
      have := fromB_le hl x hx
      show _ ≥ x; omega
    · exact ih
theorem fromB_getD {bs : List Int} (h : IsB bs) (i : Nat) : (fromB bs).getD i 0 = if i < bs.length then (bs.length : Int) - 1 - i + bs.getD i 0 else 0 := by
  induction bs generalizing i with
  | nil => simp [fromB]
  | cons c l ih =>
    have hl : IsB l := fun x hx => h x (by simp [hx])
    have ih := fun i => ih hl i
    have hc := h c (by simp)
    unfold fromB
    simp only [List.length_cons]
    by_cases hp : 0 < (l.length : Int) + c
    · rw [if_pos hp]
      cases i with
      | zero => simp
      | succ i =>
        simp only [List.getD_cons_succ]
        rw [ih i]
        by_cases hi : i < l.length
        · rw [if_pos hi, if_pos (by omega)]; omega
        · rw [if_neg hi, if_neg (by omega)]
    · rw [if_neg hp]
      have h0 : l.length = 0 := by omega
      obtain rfl := List.eq_nil_of_length_eq_zero h0
      simp only [fromB]
      cases i with
      | zero => simp at hp ⊢; first | done | omega
      | succ i => simp
/-- the last bit becomes the first one -/
def rotL (bs : List Int) : List Int := match bs.getLast? with
  | none => []
  | some b => b :: bs.dropLast
theorem rotL_snoc (bs : List Int) (b : Int) : rotL (bs ++ [b]) = b :: bs := by unfold rotL; simp
theorem rotL_length (bs : List Int) : (rotL bs).length = bs.length := by
  rcases List.eq_nil_or_concat bs with rfl | ⟨l, b, rfl⟩
  · rfl
  · rw [List.concat_eq_append, rotL_snoc]; simp
theorem rotL_isB {bs : List Int} (h : IsB bs) : IsB (rotL bs) := by
  rcases List.eq_nil_or_concat bs with rfl | ⟨l, b, rfl⟩
  · exact h
  · rw [List.concat_eq_append] at h ⊢
    rw [rotL_snoc]
    intro x hx
    apply h
    simp at hx ⊢
    rcases hx with rfl | hx
    · exact .inr rfl
    · exact .inl hx
theorem step_rot {bs : List Int} (h : IsB bs) : stepL (fromB bs) = fromB (rotL bs) := by
  rcases List.eq_nil_or_concat bs with rfl | ⟨l, b, rfl⟩
  · rfl
  · rw [List.concat_eq_append] at h ⊢
    have hb := h b (by simp)
    have hl : IsB l := fun x hx => h x (by simp [hx])
    rw [rotL_snoc]
    by_cases hne : fromB (l ++ [b]) = []
    · have hlen := fromB_length hl hb
      rw [hne] at hlen ⊢
      simp at hlen
      have h0 : l.length = 0 := by omega
      obtain rfl := List.eq_nil_of_length_eq_zero h0
      obtain rfl : b = 0 := by simp at hlen; omega
      rfl
    · rw [stepL_ins (fromB_sorted h) hne, fromB_low hl hb, fromB_length hl hb]
      have hpos : 0 < (l.length : Int) + b := by
        rw [← fromB_length hl hb]
        have : (fromB (l ++ [b])).length ≠ 0 := fun e => hne (List.eq_nil_of_length_eq_zero e)
        omega
      rw [show fromB (b :: l) = (l.length + b) :: fromB l by rw [fromB, if_pos hpos]]
      have := fromB_le hl
      cases hf : fromB l with
      | nil => rfl
      | cons x m =>
        rw [hf] at this
        have := this x (by simp)
        unfold insL
        rw [if_neg (by omega)]
def rotN : Nat → List Int → List Int
  | 0, bs => bs
  | k + 1, bs => rotL (rotN k bs)
theorem rotN_length (k : Nat) (bs : List Int) : (rotN k bs).length = bs.length := by
  induction k with
  | zero => rfl
  | succ k ih => show (rotL (rotN k bs)).length = _; rw [rotL_length, ih]
theorem rotN_isB {bs : List Int} (h : IsB bs) (k : Nat) : IsB (rotN k bs) := by
  induction k with
  | zero => exact h
  | succ k ih => exact rotL_isB ih
theorem steps_rot {bs : List Int} (h : IsB bs) (k : Nat) : stepsL k (fromB bs) = fromB (rotN k bs) := by
  induction k with
  | zero => rfl
  | succ k ih => show stepL (stepsL k (fromB bs)) = fromB (rotL (rotN k bs)); rw [ih, step_rot (rotN_isB h k)]
theorem rotL_getD (bs : List Int) (i : Nat) (hi : i < bs.length) : (rotL bs).getD i 0 = bs.getD ((i + bs.length - 1) % bs.length) 0 := by
  rcases List.eq_nil_or_concat bs with rfl | ⟨l, b, rfl⟩
  · simp at hi
  · rw [List.concat_eq_append] at hi ⊢
    rw [rotL_snoc]
    simp only [List.length_append, List.length_singleton] at hi ⊢
    cases i with
    | zero =>
      rw [show 0 + (l.length + 1) - 1 = l.length by omega, Nat.mod_eq_of_lt (by omega)]
      simp
    | succ i =>
      rw [show i + 1 + (l.length + 1) - 1 = i + (l.length + 1) by omega, Nat.add_mod_right, Nat.mod_eq_of_lt (by omega)]
      simp only [List.getD_cons_succ]
      rw [List.getD_eq_getElem?_getD, List.getD_eq_getElem?_getD, List.getElem?_append_left (by omega)]
theorem mod_turn (n i k : Nat) (hn : 0 < n) (hi : i < n) : ((i + n - 1) % n + n - k % n) % n = (i + n - (k + 1) % n) % n := by
  have hk := Nat.mod_lt k hn
  have e1 : (k + 1) % n = if k % n + 1 = n then 0 else k % n + 1 := by
    rw [Nat.add_mod]
    by_cases h1 : n = 1
    · subst h1; simp [Nat.mod_one]
    · rw [Nat.mod_eq_of_lt (show 1 < n by omega)]
      split
      · next e => rw [e]; exact Nat.mod_self n
      · exact Nat.mod_eq_of_lt (by omega)
  have e2 : (i + n - 1) % n = if i = 0 then n - 1 else i - 1 := by
    split
    · next e => subst e; rw [show 0 + n - 1 = n - 1 by omega]; exact Nat.mod_eq_of_lt (by omega)
    · rw [show i + n - 1 = (i - 1) + n by omega, Nat.add_mod_right]; exact Nat.mod_eq_of_lt (by omega)
  rw [e1, e2]
  generalize k % n = q at *
  by_cases h0 : i = 0
  · rw [if_pos h0]
    split
    · next e => rw [show n - 1 + n - q = n by omega, show i + n - 0 = n by omega]
    · next e => rw [show n - 1 + n - q = (n - 1 - q) + n by omega, Nat.add_mod_right, show i + n - (q + 1) = n - 1 - q by omega]
  · rw [if_neg h0]
    split
    · next e => rw [show i - 1 + n - q = i by omega, show i + n - 0 = i + n by omega, Nat.add_mod_right]
    · next e => rw [show i - 1 + n - q = i + n - (q + 1) by omega]
theorem rotN_getD (k : Nat) (bs : List Int) (i : Nat) (hi : i < bs.length) : (rotN k bs).getD i 0 = bs.getD ((i + bs.length - k % bs.length) % bs.length) 0 := by
  induction k generalizing i with
  | zero => show bs.getD i 0 = _; rw [Nat.zero_mod, Nat.sub_zero, Nat.add_mod_right, Nat.mod_eq_of_lt hi]
  | succ k ih =>
    show (rotL (rotN k bs)).getD i 0 = _
    rw [rotL_getD _ _ (by rw [rotN_length]; exact hi), rotN_length, ih _ (Nat.mod_lt _ (by omega)), mod_turn _ _ _ (by omega) hi]
theorem list_ext_getD {xs ys : List Int} (hl : xs.length = ys.length) (h : ∀ i, i < ys.length → xs.getD i 0 = ys.getD i 0) : xs = ys := by
  apply List.ext_getElem hl
  intro i h1 h2
  have := h i h2
  rw [List.getD_eq_getElem?_getD, List.getD_eq_getElem?_getD, List.getElem?_eq_getElem h1, List.getElem?_eq_getElem h2] at this
  exact this
theorem rotN_full (bs : List Int) : rotN bs.length bs = bs := by
  apply list_ext_getD (rotN_length _ _)
  intro i hi
  rw [rotN_getD _ _ _ hi, Nat.mod_self, Nat.sub_zero, Nat.add_mod_right, Nat.mod_eq_of_lt hi]

/-! ### Cyclic piles -/
def hL (xs : List Int) : Nat := hgt xs.sum.toNat
def bitsL (xs : List Int) : List Int := (List.range (hL xs + 1)).map fun (i : Nat) => xs.getD i 0 - (hL xs - i)
theorem bitsL_length (xs : List Int) : (bitsL xs).length = hL xs + 1 := by simp [bitsL]
theorem bitsL_getD (xs : List Int) (i : Nat) (h : i < hL xs + 1) : (bitsL xs).getD i 0 = xs.getD i 0 - (hL xs - i) := by
  unfold bitsL
  rw [List.getD_eq_getElem?_getD, List.getElem?_map, List.getElem?_range h]; rfl
theorem bitsL_isB {xs : List Int} (h : Cyc xs) : IsB (bitsL xs) := by
  intro b hb
  obtain ⟨i, hi, rfl⟩ := List.mem_map.1 hb
  exact h.2 i (List.mem_range.1 hi)
theorem pos_ext {xs ys : List Int} (hx : ∀ x ∈ xs, 1 ≤ x) (hy : ∀ x ∈ ys, 1 ≤ x) (h : ∀ i, xs.getD i 0 = ys.getD i 0) : xs = ys := by
  apply list_ext_getD
  · apply eq_of_lt_iff
    intro i
    rw [← (getD_nonneg hx i).2, ← (getD_nonneg hy i).2, h i]
  · intro i _; exact h i
theorem from_bits {xs : List Int} (hg : Good xs) (h : Cyc xs) : fromB (bitsL xs) = xs := by
  have hB := bitsL_isB h
  apply pos_ext (fun x hx => (fromB_le hB x hx).1) hg.1
  intro i
  rw [fromB_getD hB, bitsL_length]
  split
  · next hi => rw [bitsL_getD _ _ hi]; omega
  · next hi =>
    have := h.1
    rw [List.getD_eq_getElem?_getD, List.getElem?_eq_none (by unfold hL at hi; omega)]; rfl
theorem fromB_sum {bs : List Int} (h : IsB bs) (h0 : 0 ∈ bs) : (tri (bs.length - 1) : Int) ≤ (fromB bs).sum ∧ (fromB bs).sum ≤ tri (bs.length - 1) + (bs.length - 1 : Nat) := by
  have hn : 0 < bs.length := List.length_pos_of_mem h0
  have hl : (fromB bs).length ≤ bs.length - 1 + 1 := by
    by_cases hlt : bs.length < (fromB bs).length
    · have := (getD_nonneg (fun x hx => (fromB_le h x hx).1) bs.length).2.2 hlt
      rw [fromB_getD h, if_neg (by omega)] at this
      omega
    · omega
  have hb : ∀ i, i < bs.length → bs.getD i 0 = 0 ∨ bs.getD i 0 = 1 := by
    intro i hi
    rw [List.getD_eq_getElem?_getD, List.getElem?_eq_getElem hi]
    exact h _ (List.getElem_mem hi)
  have := near_sum (bs.length - 1) (fromB bs) hl (fun i hi => by
    rw [fromB_getD h, if_pos (by omega)]
    have := hb i (by omega)
    omega)
  refine ⟨this.1, this.2.2 ?_⟩
  obtain ⟨i, hi, e⟩ := List.mem_iff_getElem.1 h0
  refine ⟨i, by omega, ?_⟩
  rw [fromB_getD h, if_pos hi]
  have : bs.getD i 0 = 0 := by rw [List.getD_eq_getElem?_getD, List.getElem?_eq_getElem hi]; exact e
  omega
theorem fromB_hL {bs : List Int} (h : IsB bs) (h0 : 0 ∈ bs) (hs : (fromB bs).sum ≤ 28) : hL (fromB bs) + 1 = bs.length := by
  have := fromB_sum h h0
  have hn : 0 < bs.length := List.length_pos_of_mem h0
  unfold hL
  rw [hgt_unique (L := bs.length - 1) (by omega) (by omega) (by omega)]
  omega
theorem fromB_cyc {bs : List Int} (h : IsB bs) (h0 : 0 ∈ bs) (hs : (fromB bs).sum ≤ 28) : Cyc (fromB bs) := by
  have hk := fromB_hL h h0 hs
  unfold hL at hk
  refine ⟨?_, fun i hi => ?_⟩
  · rw [hk]
    by_cases hlt : bs.length < (fromB bs).length
    · have := (getD_nonneg (fun x hx => (fromB_le h x hx).1) bs.length).2.2 hlt
      rw [fromB_getD h, if_neg (by omega)] at this
      omega
    · omega
  · rw [fromB_getD h, if_pos (by omega)]
    have : bs.getD i 0 = 0 ∨ bs.getD i 0 = 1 := by
      rw [List.getD_eq_getElem?_getD, List.getElem?_eq_getElem (by omega)]
      exact h _ (List.getElem_mem _)
    omega
theorem bits_zero {xs : List Int} (hg : Good xs) (h : Cyc xs) : 0 ∈ bitsL xs := by
  apply Classical.byContradiction
  intro hno
  have hB := bitsL_isB h
  have h1 : ∀ i, i < hL xs + 1 → (bitsL xs).getD i 0 = 1 := by
    intro i hi
    have hi' : i < (bitsL xs).length := by rw [bitsL_length]; exact hi
    rw [List.getD_eq_getElem?_getD, List.getElem?_eq_getElem hi']
    rcases hB _ (List.getElem_mem hi') with e | e
    · exact absurd (e ▸ List.getElem_mem hi') hno
    · exact e
  have hs : xs.length ≤ hL xs + 1 + 1 := by have := h.1; unfold hL; omega
  have hn := near_sum (hL xs + 1) xs hs (fun i hi => by
    by_cases hi' : i < hL xs + 1
    · have a := h1 i hi'
      rw [bitsL_getD _ _ hi'] at a
      omega
    · have e : i = hL xs + 1 := by omega
      subst e
      have := h.1
      rw [List.getD_eq_getElem?_getD, List.getElem?_eq_none (by unfold hL; omega)]
      simp)
  have hsum := sum_nonneg hg.1
  have := (tri_hgt xs.sum.toNat (by have := hg.2.2; omega))
  have ht := tri_succ (hL xs)
  unfold hL at *
  omega
theorem bits_from {bs : List Int} (h : IsB bs) (h0 : 0 ∈ bs) (hs : (fromB bs).sum ≤ 28) : bitsL (fromB bs) = bs := by
  have hk := fromB_hL h h0 hs
  apply list_ext_getD
  · rw [bitsL_length, hk]
  · intro i hi
    rw [bitsL_getD _ _ (by omega), fromB_getD h, if_pos hi]
    omega
theorem rotL_mem {bs : List Int} {x : Int} : x ∈ rotL bs ↔ x ∈ bs := by
  rcases List.eq_nil_or_concat bs with rfl | ⟨l, b, rfl⟩
  · exact Iff.rfl
  · rw [List.concat_eq_append, rotL_snoc]; simp; exact Or.comm
theorem cyc_step {xs : List Int} (hg : Good xs) (h : Cyc xs) : Cyc (stepL xs) := by
  have e := from_bits hg h
  have hB := bitsL_isB h
  have h0 := bits_zero hg h
  have hs := stepL_sum hg.1
  rw [← e, step_rot hB]
  refine fromB_cyc (rotL_isB hB) (rotL_mem.2 h0) ?_
  rw [← step_rot hB, e, hs]
  exact hg.2.2
theorem cyc_steps {xs : List Int} (hg : Good xs) (h : Cyc xs) (k : Nat) : Cyc (stepsL k xs) := by
  induction k with
  | zero => exact h
  | succ k ih => exact cyc_step (stepsL_good hg k) ih
/-- the whole ring -/
theorem cyc_round {xs : List Int} (hg : Good xs) (h : Cyc xs) : stepsL (hL xs + 1) xs = xs := by
  have e := from_bits hg h
  have hB := bitsL_isB h
  have : stepsL (hL xs + 1) (fromB (bitsL xs)) = fromB (bitsL xs) := by
    rw [steps_rot hB, ← bitsL_length, rotN_full]
  rwa [e] at this
theorem hL_le (xs : List Int) : hL xs ≤ 7 := hgt_le _

/-! ### The length of a cycle -/
def perL (z : List Int) : Nat := (((List.range 8).find? fun p => decide (stepsL (p + 1) z = z)).getD 7) + 1
theorem perL_spec {z : List Int} (hg : Good z) (h : Cyc z) : 1 ≤ perL z ∧ perL z ≤ hL z + 1 ∧ stepsL (perL z) z = z ∧ ∀ p, 0 < p → p < perL z → stepsL p z ≠ z := by
  have hr := cyc_round hg h
  have h7 := hL_le z
  unfold perL
  cases hf : (List.range 8).find? fun p => decide (stepsL (p + 1) z = z) with
  | none =>
    rw [List.find?_eq_none] at hf
    exact absurd (by simpa using hr) (hf (hL z) (List.mem_range.2 (by omega)))
  | some p =>
    have hp := List.find?_some hf
    simp only [Option.getD_some]
    rw [List.find?_range_eq_some] at hf
    refine ⟨by omega, ?_, by simpa using hp, fun q hq1 hq2 e => ?_⟩
    · apply Classical.byContradiction
      intro hc
      have := hf.2.2 (hL z) (by omega)
      simp [hr] at this
    · have := hf.2.2 (q - 1) (by omega)
      rw [show q - 1 + 1 = q by omega] at this
      simp [e] at this
theorem perL_unique {z : List Int} (hg : Good z) (h : Cyc z) {p : Nat} (h1 : 0 < p) (h2 : stepsL p z = z) (h3 : ∀ q, 0 < q → q < p → stepsL q z ≠ z) : p = perL z := by
  have hs := perL_spec hg h
  rcases Nat.lt_trichotomy p (perL z) with hl | he | hl
  · exact absurd h2 (hs.2.2.2 p h1 hl)
  · exact he
  · exact absurd hs.2.2.1 (h3 _ (by omega) hl)
theorem per_distinct {z : List Int} (hg : Good z) (h : Cyc z) {i j : Nat} (hij : i < j) (hj : j < perL z) : stepsL i z ≠ stepsL j z := by
  intro e
  have hs := perL_spec hg h
  have e1 : stepsL (perL z - j) (stepsL i z) = stepsL (perL z - j) (stepsL j z) := by rw [e]
  rw [← stepsL_plus, ← stepsL_plus, show perL z - j + j = perL z by omega, hs.2.2.1] at e1
  exact hs.2.2.2 (perL z - j + i) (by omega) (by omega) e1

/-! ### The tail -/
theorem nodup_len {α : Type} [BEq α] [LawfulBEq α] {l m : List α} (h : l.Nodup) (hs : ∀ x ∈ l, x ∈ m) : l.length ≤ m.length := by
  induction l generalizing m with
  | nil => simp
  | cons x l ih =>
    have hc := List.nodup_cons.1 h
    have hx := hs x (by simp)
    have := ih (m := m.erase x) hc.2 (fun y hy => by
      have hne : y ≠ x := fun e => hc.1 (e ▸ hy)
      exact (List.mem_erase_of_ne hne).2 (hs y (by simp [hy])))
    have hl := (List.perm_cons_erase hx).length_eq
    simp only [List.length_cons] at hl ⊢
    omega
theorem stepsL_mem {xs : List Int} (hg : Good xs) (k : Nat) : stepsL k xs ∈ allL xs.sum.toNat := by
  have := mem_allL (stepsL_good hg k)
  rwa [stepsL_sum hg k] at this
theorem allL_length {n : Nat} (hn : n ≤ 28) : (allL n).length = cnt n n := allF_length 28 n n hn hn hn
def runL (xs : List Int) (n : Nat) : List (List Int) := (List.range n).map fun i => stepsL i xs
theorem runL_length (xs : List Int) (n : Nat) : (runL xs n).length = n := by simp [runL]
theorem runL_succ (xs : List Int) (n : Nat) : runL xs (n + 1) = runL xs n ++ [stepsL n xs] := by
  unfold runL; rw [List.range_succ, List.map_append]; rfl
theorem runL_getD (xs : List Int) (n i : Nat) (h : i < n) : (runL xs n).getD i [] = stepsL i xs := by
  unfold runL
  rw [List.getD_eq_getElem?_getD, List.getElem?_map, List.getElem?_range h]; rfl
theorem runL_mem {xs ys : List Int} {n : Nat} : ys ∈ runL xs n ↔ ∃ i, i < n ∧ stepsL i xs = ys := by
  unfold runL
  rw [List.mem_map]
  constructor
  · rintro ⟨i, hi, e⟩; exact ⟨i, List.mem_range.1 hi, e⟩
  · rintro ⟨i, hi, e⟩; exact ⟨i, List.mem_range.2 hi, e⟩
/-- plays without piles that come again are short -/
theorem runL_short {xs : List Int} (hg : Good xs) {n : Nat} (h : (runL xs n).Nodup) : n ≤ 3718 := by
  have hs := sum_nonneg hg.1
  have hn : xs.sum.toNat ≤ 28 := by have := hg.2.2; omega
  have := nodup_len h (fun y hy => by
    obtain ⟨i, _, rfl⟩ := runL_mem.1 hy
    exact stepsL_mem hg i)
  rw [runL_length, allL_length hn] at this
  have := cnt_le xs.sum.toNat (by omega) xs.sum.toNat (by omega)
  omega
theorem reach_cyc {xs : List Int} (hg : Good xs) : ∃ k, k < 3719 ∧ Cyc (stepsL k xs) := by
  apply Classical.byContradiction
  intro hno
  have hd : ∀ n, n ≤ 3719 → (runL xs n).Nodup := by
    intro n
    induction n with
    | zero => intro _; exact List.nodup_nil
    | succ n ih =>
      intro hn
      rw [runL_succ, List.nodup_append]
      refine ⟨ih (by omega), by simp, ?_⟩
      intro a ha b hb
      rw [List.mem_singleton.1 hb]
      rintro rfl
      obtain ⟨i, hi, e⟩ := runL_mem.1 ha
      refine hno ⟨i, by omega, cyc_of_again (p := n - i) (stepsL_good hg i) (by omega) ?_⟩
      rw [← stepsL_plus, show n - i + i = n by omega, e]
  have := runL_short hg (hd 3719 (by omega))
  omega
def tailL (xs : List Int) : Nat := ((List.range 3719).find? fun k => cycB (stepsL k xs)).getD 0
theorem tailL_spec {xs : List Int} (hg : Good xs) : tailL xs ≤ 3718 ∧ Cyc (stepsL (tailL xs) xs) ∧ ∀ k, k < tailL xs → ¬ Cyc (stepsL k xs) := by
  obtain ⟨k, hk, hc⟩ := reach_cyc hg
  unfold tailL
  cases hf : (List.range 3719).find? fun k => cycB (stepsL k xs) with
  | none =>
    rw [List.find?_eq_none] at hf
    exact absurd (cyc_iff.2 hc) (hf k (List.mem_range.2 hk))
  | some p =>
    have hp := List.find?_some hf
    rw [List.find?_range_eq_some] at hf
    simp only [Option.getD_some]
    have := List.mem_range.1 hf.2.1
    refine ⟨by omega, cyc_iff.1 hp, fun q hq hcq => ?_⟩
    have := hf.2.2 q hq
    rw [cyc_iff.2 hcq] at this
    simp at this
theorem tailL_unique {xs : List Int} (hg : Good xs) {k : Nat} (h1 : Cyc (stepsL k xs)) (h2 : ∀ q, q < k → ¬ Cyc (stepsL q xs)) : tailL xs = k := by
  have hs := tailL_spec hg
  rcases Nat.lt_trichotomy (tailL xs) k with hl | he | hl
  · exact absurd hs.2.1 (h2 _ hl)
  · exact he
  · exact absurd h1 (hs.2.2 _ hl)
theorem cyc_from {xs : List Int} (hg : Good xs) {k : Nat} (hk : tailL xs ≤ k) : Cyc (stepsL k xs) := by
  have := cyc_steps (stepsL_good hg (tailL xs)) (tailL_spec hg).2.1 (k - tailL xs)
  rwa [← stepsL_plus, show k - tailL xs + tailL xs = k by omega] at this
theorem tail_step {xs : List Int} (hg : Good xs) (h : ¬ Cyc xs) : tailL xs = tailL (stepL xs) + 1 := by
  have hs := tailL_spec (stepL_good hg)
  apply tailL_unique hg
  · rw [stepsL_front]; exact hs.2.1
  · intro q hq
    cases q with
    | zero => exact h
    | succ q => rw [stepsL_front]; exact hs.2.2 q (by omega)
theorem tail_cyc {xs : List Int} (hg : Good xs) : tailL xs = 0 ↔ Cyc xs := by
  constructor
  · intro h; have := (tailL_spec hg).2.1; rw [h] at this; exact this
  · intro h; exact tailL_unique hg h (fun q hq => by omega)

/-! ### The cycle -/
def endL (xs : List Int) : List Int := stepsL (tailL xs) xs
theorem endL_good {xs : List Int} (hg : Good xs) : Good (endL xs) := stepsL_good hg _
theorem endL_cyc {xs : List Int} (hg : Good xs) : Cyc (endL xs) := (tailL_spec hg).2.1
def cycL (xs : List Int) : List (List Int) := runL (endL xs) (perL (endL xs))
/-- the first piles that come again -/
theorem first_again {xs : List Int} (hg : Good xs) {i j : Nat} (hij : i < j) (he : stepsL i xs = stepsL j xs) (hd : (runL xs j).Nodup) : i = tailL xs ∧ j = tailL xs + perL (endL xs) := by
  have hci : Cyc (stepsL i xs) := cyc_of_again (p := j - i) (stepsL_good hg i) (by omega) (by rw [← stepsL_plus, show j - i + i = j by omega, he])
  have ht := tailL_spec hg
  have hti : tailL xs ≤ i := Nat.le_of_not_lt fun hl => ht.2.2 i hl hci
  have hp := perL_spec (endL_good hg) (endL_cyc hg)
  have hdd : ∀ a b, a < b → b < j → stepsL a xs ≠ stepsL b xs := by
    intro a b hab hb e
    have h1 : (runL xs j)[a]? = some (stepsL a xs) := by unfold runL; rw [List.getElem?_map, List.getElem?_range (by omega)]; rfl
    have h2 : (runL xs j)[b]? = some (stepsL b xs) := by unfold runL; rw [List.getElem?_map, List.getElem?_range (by omega)]; rfl
    obtain ⟨l1, e1⟩ := List.getElem?_eq_some_iff.1 h1
    obtain ⟨l2, e2⟩ := List.getElem?_eq_some_iff.1 h2
    have := List.pairwise_iff_getElem.1 hd a b l1 l2 hab
    rw [e1, e2] at this
    exact this e
  have hlow : j ≤ tailL xs + perL (endL xs) := by
    apply Nat.le_of_not_lt
    intro hl
    apply hdd (tailL xs) (tailL xs + perL (endL xs)) (by omega) hl
    rw [Nat.add_comm, stepsL_plus]
    exact hp.2.2.1.symm
  by_cases hjj : j < tailL xs + perL (endL xs)
  · have := per_distinct (endL_good hg) (endL_cyc hg) (i := i - tailL xs) (j := j - tailL xs) (by omega) (by omega)
    unfold endL at this
    rw [← stepsL_plus, ← stepsL_plus, show i - tailL xs + tailL xs = i by omega, show j - tailL xs + tailL xs = j by omega] at this
    exact absurd he this
  · have hj : j = tailL xs + perL (endL xs) := by omega
    refine ⟨?_, hj⟩
    by_cases hi : i = tailL xs
    · exact hi
    · have := per_distinct (endL_good hg) (endL_cyc hg) (i := 0) (j := i - tailL xs) (by omega) (by omega)
      unfold endL at this
      rw [← stepsL_plus, ← stepsL_plus, show i - tailL xs + tailL xs = i by omega, Nat.zero_add] at this
      apply absurd _ this
      rw [he, hj, Nat.add_comm (tailL xs), stepsL_plus]
      exact hp.2.2.1.symm
theorem cycL_drop {xs : List Int} (hg : Good xs) : (runL xs (tailL xs + perL (endL xs))).drop (tailL xs) = cycL xs := by
  unfold cycL
  apply List.ext_getElem
  · rw [List.length_drop, runL_length, runL_length]; omega
  · intro i h1 h2
    rw [List.getElem_drop]
    simp only [runL, List.getElem_map, List.getElem_range]
    unfold endL
    rw [← stepsL_plus, Nat.add_comm]
theorem runL_nodup {xs : List Int} (hg : Good xs) : (runL xs (tailL xs + perL (endL xs))).Nodup := by
  unfold List.Nodup
  rw [List.pairwise_iff_getElem]
  intro i j hi hj hij
  simp only [runL_length] at hi hj
  simp only [runL, List.getElem_map, List.getElem_range]
  intro e
  have hci : Cyc (stepsL i xs) := cyc_of_again (p := j - i) (stepsL_good hg i) (by omega) (by rw [← stepsL_plus, show j - i + i = j by omega, e])
  have ht := tailL_spec hg
  have hti : tailL xs ≤ i := Nat.le_of_not_lt fun hl => ht.2.2 i hl hci
  have := per_distinct (endL_good hg) (endL_cyc hg) (i := i - tailL xs) (j := j - tailL xs) (by omega) (by omega)
  unfold endL at this
  rw [← stepsL_plus, ← stepsL_plus, show i - tailL xs + tailL xs = i by omega, show j - tailL xs + tailL xs = j by omega] at this
  exact this e
end
end Go.Proofs.YtimmjimeldejjaaGreatDoor
namespace Go.Proofs.YtimmjimeldejjaaGreatDoor
section
set_option linter.unusedVariables false
set_option linter.unusedSimpArgs false

theorem cyc_inj {x y : List Int} (hx : Good x) (hy : Good y) (cx : Cyc x) (cy : Cyc y) (h : stepL x = stepL y) : x = y := by
  have hs : x.sum = y.sum := by rw [← stepL_sum hx.1, ← stepL_sum hy.1, h]
  have hL' : hL x = hL y := by unfold hL; rw [hs]
  have e1 := cyc_round hx cx
  have e2 := cyc_round hy cy
  rw [stepsL_front] at e1 e2
  rw [← e1, ← e2, hL', h]
/-- once both are cyclic, what differs goes on to differ -/
theorem never_meet {x y : List Int} (hx : Good x) (hy : Good y) (cx : Cyc x) (cy : Cyc y) (h : x ≠ y) (k : Nat) : stepsL k x ≠ stepsL k y := by
  induction k with
  | zero => exact h
  | succ k ih => exact fun e => ih (cyc_inj (stepsL_good hx k) (stepsL_good hy k) (cyc_steps hx cx k) (cyc_steps hy cy k) e)
theorem never_from {x y : List Int} (hx : Good x) (hy : Good y) {j : Nat} (cx : Cyc (stepsL j x)) (cy : Cyc (stepsL j y)) (h : ∀ i, i ≤ j → stepsL i x ≠ stepsL i y) (k : Nat) : stepsL k x ≠ stepsL k y := by
  by_cases hk : k ≤ j
  · exact h k hk
  · have := never_meet (stepsL_good hx j) (stepsL_good hy j) cx cy (h j (Nat.le_refl _)) (k - j)
    rwa [← stepsL_plus, ← stepsL_plus, show k - j + j = k by omega] at this
def meetL (x y : List Int) : Option Nat := (List.range 3719).find? fun k => decide (stepsL k x = stepsL k y)
theorem meet_some {x y : List Int} {k : Nat} (h1 : stepsL k x = stepsL k y) (h2 : ∀ i, i < k → stepsL i x ≠ stepsL i y) (hk : k ≤ 3718) : meetL x y = some k := by
  unfold meetL
  rw [List.find?_range_eq_some]
  exact ⟨by simpa using h1, List.mem_range.2 (by omega), fun j hj => by simpa using h2 j hj⟩
theorem meet_none {x y : List Int} (h : ∀ k, stepsL k x ≠ stepsL k y) : meetL x y = none := by
  unfold meetL
  rw [List.find?_eq_none]
  intro k _
  simpa using h k
def mMeetOfPlays (x y : List Int) : Int × Bool := if goodB x = true ∧ goodB y = true then (match meetL x y with | some k => ((k : Int), true) | none => (0, false)) else (0, false)
theorem mMeet_no1 {x y : List Int} (h : goodB x = false) : mMeetOfPlays x y = (0, false) := by unfold mMeetOfPlays; rw [if_neg (by rw [h]; simp)]
theorem mMeet_no2 {x y : List Int} (h : goodB y = false) : mMeetOfPlays x y = (0, false) := by unfold mMeetOfPlays; rw [if_neg (by rw [h]; simp)]
theorem mMeet_yes {x y : List Int} {k : Nat} (hx : goodB x = true) (hy : goodB y = true) (h : meetL x y = some k) : mMeetOfPlays x y = ((k : Int), true) := by unfold mMeetOfPlays; rw [if_pos ⟨hx, hy⟩, h]
theorem mMeet_none {x y : List Int} (hx : goodB x = true) (hy : goodB y = true) (h : meetL x y = none) : mMeetOfPlays x y = (0, false) := by unfold mMeetOfPlays; rw [if_pos ⟨hx, hy⟩, h]
theorem sums_differ {x y : List Int} (hx : Good x) (hy : Good y) (h : x.sum ≠ y.sum) (k : Nat) : stepsL k x ≠ stepsL k y := fun e => h (by
  rw [← stepsL_sum hx k, ← stepsL_sum hy k, e])
end
end Go.Proofs.YtimmjimeldejjaaGreatDoor
namespace Go.Proofs.YtimmjimeldejjaaGreatDoor
section
set_option linter.unusedVariables false
set_option linter.unusedSimpArgs false

/-- order of lists: less than 0, 0, more than 0 -/
def cmpL : List Int → List Int → Int
  | [], [] => 0
  | [], _ :: _ => -1
  | _ :: _, [] => 1
  | a :: l, b :: m => if a = b then cmpL l m else if a < b then -1 else 1
def isFirstB (bs : List Int) : Bool := (List.range bs.length).all fun k => decide (cmpL (rotN k bs) bs ≤ 0)
/-- how many turns bring bits back -/
def perB (bs : List Int) : Nat := (((List.range 8).find? fun p => decide (rotN (p + 1) bs = bs)).getD 7) + 1
def ringB (bs : List Int) : List (List Int) := (List.range (perB bs)).map fun i => rotN i bs
def stepF (s : List (List Int) × List (List Int)) (bs : List Int) : List (List Int) × List (List Int) := if bs ∈ s.2 then s else (s.1 ++ [bs], s.2 ++ ringB bs)
def foldF (l : List (List Int)) : List (List Int) × List (List Int) := l.foldl stepF ([], [])
theorem foldF_snoc (l : List (List Int)) (bs : List Int) : foldF (l ++ [bs]) = stepF (foldF l) bs := by unfold foldF; rw [List.foldl_append]; rfl

/-! ### Bits and piles go together -/
structure GB (bs : List Int) : Prop where
  isB : IsB bs
  zero : 0 ∈ bs
  sum : (fromB bs).sum ≤ 28
theorem GB.rot {bs : List Int} (h : GB bs) (k : Nat) : GB (rotN k bs) := by
  refine ⟨rotN_isB h.isB k, ?_, ?_⟩
  · induction k with
    | zero => exact h.zero
    | succ k ih => exact rotL_mem.2 ih
  · rw [← steps_rot h.isB k]
    have hg : ∀ x ∈ fromB bs, 1 ≤ x := fun x hx => (fromB_le h.isB x hx).1
    have hG : Good (fromB bs) := ⟨hg, fromB_sorted h.isB, h.sum⟩
    rw [stepsL_sum hG]; exact h.sum
theorem GB.good {bs : List Int} (h : GB bs) : Good (fromB bs) := ⟨fun x hx => (fromB_le h.isB x hx).1, fromB_sorted h.isB, h.sum⟩
theorem GB.cyc {bs : List Int} (h : GB bs) : Cyc (fromB bs) := fromB_cyc h.isB h.zero h.sum
theorem fromB_inj {as bs : List Int} (ha : GB as) (hb : GB bs) : fromB as = fromB bs ↔ as = bs := by
  constructor
  · intro e
    rw [← bits_from ha.isB ha.zero ha.sum, ← bits_from hb.isB hb.zero hb.sum, e]
  · intro e; rw [e]
theorem per_bits {bs : List Int} (h : GB bs) : perL (fromB bs) = perB bs := by
  unfold perL perB
  congr 2
  congr 1
  funext p
  rw [steps_rot h.isB, decide_eq_decide]
  exact fromB_inj (h.rot _) h
theorem cycle_bits {bs : List Int} (h : GB bs) : cycL (fromB bs) = (ringB bs).map fromB := by
  have ht : tailL (fromB bs) = 0 := (tail_cyc h.good).2 h.cyc
  have he : endL (fromB bs) = fromB bs := by unfold endL; rw [ht]; rfl
  unfold cycL runL ringB
  rw [he, per_bits h, List.map_map]
  apply List.map_congr_left
  intro i _
  exact steps_rot h.isB i
theorem ringB_GB {bs : List Int} (h : GB bs) : ∀ x ∈ ringB bs, GB x := by
  intro x hx
  obtain ⟨i, _, rfl⟩ := List.mem_map.1 hx
  exact h.rot i
theorem mem_bits {bs : List Int} {l : List (List Int)} (h : GB bs) (hl : ∀ x ∈ l, GB x) : fromB bs ∈ l.map fromB ↔ bs ∈ l := by
  constructor
  · intro hm
    obtain ⟨x, hx, e⟩ := List.mem_map.1 hm
    rw [← (fromB_inj (hl x hx) h).1 e]; exact hx
  · intro hm; exact List.mem_map.2 ⟨bs, hm, rfl⟩
theorem foldF_GB {l : List (List Int)} (hl : ∀ x ∈ l, GB x) : (∀ x ∈ (foldF l).1, GB x) ∧ (∀ x ∈ (foldF l).2, GB x) := by
  have key : ∀ (l : List (List Int)) (s : List (List Int) × List (List Int)), (∀ x ∈ l, GB x) → (∀ x ∈ s.1, GB x) → (∀ x ∈ s.2, GB x) → (∀ x ∈ (l.foldl stepF s).1, GB x) ∧ (∀ x ∈ (l.foldl stepF s).2, GB x) := by
    intro l
    induction l with
    | nil => intro s _ h1 h2; exact ⟨h1, h2⟩
    | cons b l ih =>
      intro s h h1 h2
      have hb := h b (by simp)
      apply ih (stepF s b) (fun x hx => h x (by simp [hx]))
      · intro x hx
        unfold stepF at hx
        split at hx
        · exact h1 x hx
        · rcases List.mem_append.1 hx with hx | hx
          · exact h1 x hx
          · rw [List.mem_singleton.1 hx]; exact hb
      · intro x hx
        unfold stepF at hx
        split at hx
        · exact h2 x hx
        · rcases List.mem_append.1 hx with hx | hx
          · exact h2 x hx
          · exact ringB_GB hb x hx
  exact key l ([], []) hl (by simp) (by simp)
end
end Go.Proofs.YtimmjimeldejjaaGreatDoor
namespace Go.Proofs.YtimmjimeldejjaaGreatDoor
section
set_option linter.unusedVariables false
set_option linter.unusedSimpArgs false
def choiceX : Nat → Nat → List (List Int)
  | 0, o => if o = 0 then [[]] else []
  | n + 1, o => (if 1 ≤ o then (choiceX n (o - 1)).map ((1 : Int) :: ·) else []) ++ (choiceX n o).map ((0 : Int) :: ·)
theorem firsts_eq : ∀ n, n < 29 → (foldF (choiceX (hgt n + 1) (n - tri (hgt n)))).1 = (choiceX (hgt n + 1) (n - tri (hgt n))).filter isFirstB := by decide +kernel
theorem firsts_seen : ∀ n, n < 29 → (foldF (choiceX (hgt n + 1) (n - tri (hgt n)))).2.length ≤ 256 := by decide +kernel
end
end Go.Proofs.YtimmjimeldejjaaGreatDoor
namespace Go.Proofs.YtimmjimeldejjaaGreatDoor
section
set_option linter.unusedVariables false
set_option linter.unusedSimpArgs false

/-- the pasts of these piles that are not cyclic -/
def loosePasts (a : List Int) : List (List Int) := (pastsL a).filter fun p => !cycB p
def looseL (all : List (List Int)) : List (List Int) := all.flatMap loosePasts
def levL (c : List (List Int)) : Nat → List (List Int)
  | 0 => c
  | t + 1 => looseL (levL c t)
structure Cyclics (c : List (List Int)) (s : Nat) : Prop where
  small : s ≤ 28
  good : ∀ x ∈ c, Good x
  cyc : ∀ x ∈ c, Cyc x
  sum : ∀ x ∈ c, x.sum = s
  nodup : c.Nodup
theorem mem_loose {a p : List Int} (ha : Good a) : p ∈ loosePasts a ↔ Good p ∧ stepL p = a ∧ ¬ Cyc p := by
  unfold loosePasts
  rw [List.mem_filter]
  constructor
  · rintro ⟨h1, h2⟩
    obtain ⟨e, hg⟩ := pasts_sound ha h1
    refine ⟨hg, e, fun hc => ?_⟩
    rw [cyc_iff.2 hc] at h2
    simp at h2
  · rintro ⟨hg, e, hc⟩
    refine ⟨past_of_step hg e, ?_⟩
    cases hb : cycB p with
    | false => rfl
    | true => exact absurd (cyc_iff.1 hb) hc
theorem end_step {p : List Int} (hp : Good p) (hc : ¬ Cyc p) : endL p = endL (stepL p) := by
  unfold endL
  rw [tail_step hp hc, stepsL_front]
theorem mem_lev {c : List (List Int)} {s : Nat} (h : Cyclics c s) (t : Nat) : ∀ x, x ∈ levL c t ↔ Good x ∧ tailL x = t ∧ endL x ∈ c := by
  induction t with
  | zero =>
    intro x
    show x ∈ c ↔ _
    constructor
    · intro hx
      have hg := h.good x hx
      have ht := (tail_cyc hg).2 (h.cyc x hx)
      refine ⟨hg, ht, ?_⟩
      unfold endL; rw [ht]; exact hx
    · rintro ⟨hg, ht, he⟩
      unfold endL at he; rw [ht] at he; exact he
  | succ t ih =>
    intro x
    show x ∈ looseL (levL c t) ↔ _
    unfold looseL
    rw [List.mem_flatMap]
    constructor
    · rintro ⟨a, ha, hx⟩
      obtain ⟨ga, ta, ea⟩ := (ih a).1 ha
      obtain ⟨gx, sx, cx⟩ := (mem_loose ga).1 hx
      refine ⟨gx, by rw [tail_step gx cx, sx, ta], by rw [end_step gx cx, sx]; exact ea⟩
    · rintro ⟨gx, tx, ex⟩
      have cx : ¬ Cyc x := fun hc => by have := (tail_cyc gx).2 hc; omega
      have hts := tail_step gx cx
      have gs := stepL_good gx
      refine ⟨stepL x, (ih _).2 ⟨gs, by omega, by rw [← end_step gx cx]; exact ex⟩, (mem_loose gs).2 ⟨gx, rfl, cx⟩⟩
theorem lev_good {c : List (List Int)} {s : Nat} (h : Cyclics c s) {t : Nat} {x : List Int} (hx : x ∈ levL c t) : Good x := ((mem_lev h t x).1 hx).1
theorem end_sum {x : List Int} (hx : Good x) : (endL x).sum = x.sum := stepsL_sum hx _
theorem lev_sum {c : List (List Int)} {s : Nat} (h : Cyclics c s) {t : Nat} {x : List Int} (hx : x ∈ levL c t) : x.sum = s := by
  obtain ⟨g, _, e⟩ := (mem_lev h t x).1 hx
  rw [← end_sum g]; exact h.sum _ e
theorem loose_nodup {a : List Int} (ha : Good a) : (loosePasts a).Nodup := (nodup_of_bef (pasts_up ha)).filter _
theorem lev_nodup {c : List (List Int)} {s : Nat} (h : Cyclics c s) (t : Nat) : (levL c t).Nodup := by
  induction t with
  | zero => exact h.nodup
  | succ t ih =>
    show (looseL (levL c t)).Nodup
    unfold looseL
    unfold List.Nodup
    rw [List.pairwise_flatMap]
    refine ⟨fun a ha => loose_nodup (lev_good h ha), ?_⟩
    refine ih.imp_of_mem ?_
    intro a b ha hb hab x hx y hy e
    subst e
    have h1 := ((mem_loose (lev_good h ha)).1 hx).2.1
    have h2 := ((mem_loose (lev_good h hb)).1 hy).2.1
    exact hab (h1.symm.trans h2)
theorem lev_mem_all {c : List (List Int)} {s : Nat} (h : Cyclics c s) {t : Nat} {x : List Int} (hx : x ∈ levL c t) : x ∈ allL s := by
  have := mem_allL (lev_good h hx)
  rw [lev_sum h hx] at this
  simpa using this
theorem lev_length {c : List (List Int)} {s : Nat} (h : Cyclics c s) (t : Nat) : (levL c t).length ≤ 3718 := by
  have := nodup_len (lev_nodup h t) (fun x hx => lev_mem_all h hx)
  rw [allL_length h.small] at this
  have := cnt_le s (by have := h.small; omega) s (by have := h.small; omega)
  omega
theorem lev_far {c : List (List Int)} {s : Nat} (h : Cyclics c s) : levL c 3719 = [] := by
  rw [List.eq_nil_iff_forall_not_mem]
  intro x hx
  obtain ⟨g, t, _⟩ := (mem_lev h _ x).1 hx
  have := (tailL_spec g).1
  omega
/-- how many lists there are before the first empty one -/
theorem lev_some {c : List (List Int)} {s : Nat} (h : Cyclics c s) {t : Nat} (ht : levL c t ≠ []) : t ≤ 3718 := by
  cases hl : levL c t with
  | nil => exact absurd hl ht
  | cons x l =>
    have hx : x ∈ levL c t := by rw [hl]; exact List.mem_cons_self
    obtain ⟨g, e, _⟩ := (mem_lev h _ x).1 hx
    have := (tailL_spec g).1
    omega
/-- all levels below one that is not empty are not empty -/
theorem lev_down {c : List (List Int)} {s : Nat} (h : Cyclics c s) {t u : Nat} (hu : u ≤ t) (ht : levL c t ≠ []) : levL c u ≠ [] := by
  cases hl : levL c t with
  | nil => exact absurd hl ht
  | cons x l =>
    have hx : x ∈ levL c t := by rw [hl]; exact List.mem_cons_self
    obtain ⟨g, e, ee⟩ := (mem_lev h _ x).1 hx
    intro hn
    have hy : stepsL (t - u) x ∈ levL c u := by
      have gy := stepsL_good g (t - u)
      have hty : tailL (stepsL (t - u) x) = u := by
        apply tailL_unique gy
        · rw [← stepsL_plus, show u + (t - u) = tailL x by omega]; exact (tailL_spec g).2.1
        · intro q hq
          rw [← stepsL_plus]
          exact (tailL_spec g).2.2 _ (by omega)
      refine (mem_lev h u _).2 ⟨gy, hty, ?_⟩
      have : endL (stepsL (t - u) x) = endL x := by
        unfold endL
        rw [hty, ← stepsL_plus, show u + (t - u) = tailL x by omega]
      rw [this]; exact ee
    rw [hn] at hy
    cases hy

/-! ### The longest tail -/
def longStep (s : Int × List Int) (a : List Int) : Int × List Int := if s.1 < (tailL a : Int) then ((tailL a : Int), a) else s
def longF (l : List (List Int)) : Int × List Int := l.foldl longStep (-1, [])
theorem longF_snoc (l : List (List Int)) (a : List Int) : longF (l ++ [a]) = longStep (longF l) a := by unfold longF; rw [List.foldl_append]; rfl
theorem longF_spec (l : List (List Int)) (hs : l.Pairwise (fun a b => befB a b = true)) : (l = [] ∧ longF l = (-1, [])) ∨
    ((longF l).2 ∈ l ∧ (longF l).1 = (tailL (longF l).2 : Int) ∧ (∀ a ∈ l, (tailL a : Int) ≤ (longF l).1) ∧ ∀ a ∈ l, (tailL a : Int) = (longF l).1 → a = (longF l).2 ∨ befB (longF l).2 a = true) := by
  have key : ∀ n, ∀ l : List (List Int), l.length = n → l.Pairwise (fun a b => befB a b = true) → (l = [] ∧ longF l = (-1, [])) ∨
    ((longF l).2 ∈ l ∧ (longF l).1 = (tailL (longF l).2 : Int) ∧ (∀ a ∈ l, (tailL a : Int) ≤ (longF l).1) ∧ ∀ a ∈ l, (tailL a : Int) = (longF l).1 → a = (longF l).2 ∨ befB (longF l).2 a = true) := by
    intro n
    induction n with
    | zero => intro l hl _; left; exact ⟨List.eq_nil_of_length_eq_zero hl, by rw [List.eq_nil_of_length_eq_zero hl]; rfl⟩
    | succ n ih =>
      intro l hl hs
      rcases List.eq_nil_or_concat l with rfl | ⟨m, a, rfl⟩
      · simp at hl
      · rw [List.concat_eq_append] at hl hs ⊢
        right
        rw [longF_snoc]
        have hp := List.pairwise_append.1 hs
        have hi := ih m (by simpa using hl) hp.1
        unfold longStep
        rcases hi with ⟨rfl, e⟩ | ⟨h1, h2, h3, h4⟩
        · rw [e, if_pos (by show (-1 : Int) < _; omega)]
          refine ⟨by simp, rfl, fun b hb => by simp at hb; subst hb; exact Int.le_refl _, fun b hb _ => by simp at hb; exact .inl hb⟩
        · split
          · next hlt =>
            refine ⟨by simp, rfl, fun b hb => ?_, fun b hb hbe => ?_⟩
            · rcases List.mem_append.1 hb with hb | hb
              · have := h3 b hb; show (tailL b : Int) ≤ (tailL a : Int); omega
              · simp at hb; subst hb; exact Int.le_refl _
            · rcases List.mem_append.1 hb with hb | hb
              · have := h3 b hb; have hbe : (tailL b : Int) = (tailL a : Int) := hbe; omega
              · simp at hb; exact .inl hb
          · next hlt =>
            refine ⟨by simp [h1], h2, fun b hb => ?_, fun b hb hbe => ?_⟩
            · rcases List.mem_append.1 hb with hb | hb
              · exact h3 b hb
              · simp at hb; subst hb; omega
            · rcases List.mem_append.1 hb with hb | hb
              · exact h4 b hb hbe
              · simp at hb; subst hb
                exact .inr (hp.2.2 _ h1 _ (by simp))
  exact key l.length l rfl hs

/-! ### All cyclic piles -/
theorem fromB_total (bs : List Int) (h : IsB bs) : (fromB bs).sum = (tri (bs.length - 1) : Int) + bs.sum := by
  induction bs with
  | nil => rfl
  | cons b l ih =>
    have ih := ih (fun x hx => h x (by simp [hx]))
    have hb := h b (by simp)
    have e : (fromB (b :: l)).sum = (l.length : Int) + b + (fromB l).sum := by
      rw [show fromB (b :: l) = if 0 < (l.length : Int) + b then ((l.length : Int) + b) :: fromB l else fromB l from rfl]
      split
      · rw [List.sum_cons]
      · have : (l.length : Int) + b = 0 := by omega
        omega
    rw [e, ih, List.sum_cons]
    cases l with
    | nil => simp [tri]
    | cons c m =>
      have := tri_succ m.length
      simp only [List.length_cons, Nat.add_sub_cancel] at *
      omega
/-- all cyclic piles of a number of cards, given as a list -/
structure AllCyc (c : List (List Int)) (n : Nat) : Prop extends Cyclics c n where
  all : ∀ x, Good x → Cyc x → x.sum = n → x ∈ c
theorem long_lev {c : List (List Int)} {n : Nat} (h : AllCyc c n) : ∃ M : Nat, (longF (allL n)).1 = M ∧ levL c M ≠ [] ∧ levL c (M + 1) = [] ∧ (longF (allL n)).2 ∈ levL c M ∧ (∀ g ∈ levL c M, g = (longF (allL n)).2 ∨ befB (longF (allL n)).2 g = true) := by
  have hne : allL n ≠ [] := by
    intro e
    have := allL_length h.small
    rw [e] at this
    have h1 : ∀ m, m < 29 → 1 ≤ cnt m m := by decide +kernel
    have := h1 n (by have := h.small; omega)
    simp at *
    omega
  rcases longF_spec (allL n) (allL_up n) with ⟨e, _⟩ | ⟨h1, h2, h3, h4⟩
  · exact absurd e hne
  · have hgf := allL_good h.small h1
    have hmem : (longF (allL n)).2 ∈ levL c (tailL (longF (allL n)).2) :=
      (mem_lev h.toCyclics _ _).2 ⟨hgf.1, rfl, h.all _ (endL_good hgf.1) (endL_cyc hgf.1) (by rw [end_sum hgf.1, hgf.2])⟩
    refine ⟨tailL (longF (allL n)).2, h2, (fun e => by rw [e] at hmem; cases hmem), ?_, hmem, fun g hg => ?_⟩
    · rw [List.eq_nil_iff_forall_not_mem]
      intro x hx
      obtain ⟨gx, tx, _⟩ := (mem_lev h.toCyclics _ x).1 hx
      have := h3 x (lev_mem_all h.toCyclics hx)
      omega
    · obtain ⟨gx, tx, _⟩ := (mem_lev h.toCyclics _ g).1 hg
      exact h4 g (lev_mem_all h.toCyclics hg) (by omega)

/-! ### The greatest of a list -/
def maxStep (m a : List Int) : List Int := if befB a m = true then a else m
theorem bef_trans {a b c : List Int} (h1 : befB a b = true) (h2 : befB b c = true) : befB a c = true := by
  induction a generalizing b c with
  | nil => simp [befB] at h1
  | cons x l ih =>
    cases b with
    | nil => simp [befB] at h2
    | cons y m =>
      cases c with
      | nil => rfl
      | cons z k =>
        simp only [befB] at h1 h2 ⊢
        by_cases hxy : x = y
        · subst hxy
          simp only [if_true] at h1
          by_cases hyz : x = z
          · subst hyz
            simp only [if_true] at h2 ⊢
            exact ih h1 h2
          · rw [if_neg hyz] at h2 ⊢; exact h2
        · rw [if_neg hxy] at h1
          have h1' : y < x := by simpa using h1
          by_cases hyz : y = z
          · subst hyz
            rw [if_neg hxy]; exact h1
          · rw [if_neg hyz] at h2
            have h2' : z < y := by simpa using h2
            rw [if_neg (by omega)]
            simp; omega
theorem max_spec (x : List Int) (l : List (List Int)) : (l.foldl maxStep x = x ∨ l.foldl maxStep x ∈ l) ∧ befB x (l.foldl maxStep x) = false ∧ ∀ a ∈ l, befB a (l.foldl maxStep x) = false := by
  induction l generalizing x with
  | nil => exact ⟨.inl rfl, befB_irrefl x, fun a ha => by cases ha⟩
  | cons b l ih =>
    obtain ⟨h1, h2, h3⟩ := ih (maxStep x b)
    simp only [List.foldl_cons]
    have hm : maxStep x b = x ∨ maxStep x b = b := by unfold maxStep; split <;> simp
    have hxb : befB x (maxStep x b) = false ∧ befB b (maxStep x b) = false := by
      unfold maxStep
      split
      · next h =>
        refine ⟨?_, befB_irrefl b⟩
        cases hh : befB x b with
        | false => rfl
        | true => have := bef_trans hh h; rw [befB_irrefl] at this; cases this
      · next h => exact ⟨befB_irrefl x, by simpa using h⟩
    have step : ∀ y, befB y (maxStep x b) = false → befB (maxStep x b) (l.foldl maxStep (maxStep x b)) = false → befB y (l.foldl maxStep (maxStep x b)) = false := by
      intro y hy hz
      cases hh : befB y (l.foldl maxStep (maxStep x b)) with
      | false => rfl
      | true =>
        rcases befB_total hy with e | e
        · rw [e] at hh; rw [hh] at hz; exact hz
        · rcases befB_total hz with e2 | e2
          · rw [← e2] at hh; rw [hh] at hy; exact hy
          · have := bef_trans e hh
            rw [this] at hz; cases hz
    refine ⟨?_, step x hxb.1 h2, fun a ha => ?_⟩
    · rcases h1 with e | e
      · rw [e]
        rcases hm with e2 | e2
        · exact .inl e2
        · right; rw [e2]; exact List.mem_cons_self
      · exact .inr (List.mem_cons_of_mem _ e)
    · rcases List.mem_cons.1 ha with rfl | ha
      · exact step a hxb.2 h2
      · exact h3 a ha

/-! ### Basins -/
theorem basin_count {c : List (List Int)} {s : Nat} (h : Cyclics c s) {T : Nat} (hT : levL c T = []) :
    (((List.range T).map fun t => (levL c t).length).sum) = ((allL s).filter fun b => decide (endL b ∈ c)).length := by
  have e : ((List.range T).map fun t => (levL c t).length).sum = ((List.range T).flatMap fun t => levL c t).length := by rw [List.length_flatMap]
  rw [e]
  apply List.Perm.length_eq
  rw [List.perm_ext_iff_of_nodup]
  · intro x
    rw [List.mem_flatMap, List.mem_filter]
    constructor
    · rintro ⟨t, _, hx⟩
      exact ⟨lev_mem_all h hx, by simpa using ((mem_lev h t x).1 hx).2.2⟩
    · rintro ⟨hx, he⟩
      have hg := (allL_good h.small hx).1
      refine ⟨tailL x, List.mem_range.2 ?_, (mem_lev h _ x).2 ⟨hg, rfl, by simpa using he⟩⟩
      apply Nat.lt_of_not_le
      intro hle
      have hm : x ∈ levL c (tailL x) := (mem_lev h _ x).2 ⟨hg, rfl, by simpa using he⟩
      exact lev_down h hle (fun e => by rw [e] at hm; cases hm) hT
  · unfold List.Nodup
    rw [List.pairwise_flatMap]
    refine ⟨fun t _ => lev_nodup h t, ?_⟩
    refine List.nodup_range.imp ?_
    intro t u htu x hx y hy e
    subst e
    have h1 := ((mem_lev h t x).1 hx).2.1
    have h2 := ((mem_lev h u x).1 hy).2.1
    omega
  · exact (nodup_of_bef (allL_up s)).filter _
end
end Go.Proofs.YtimmjimeldejjaaGreatDoor
namespace Go.Proofs.YtimmjimeldejjaaGreatDoor
section
set_option linter.unusedVariables false
set_option linter.unusedSimpArgs false

theorem befB_asymm {a b : List Int} (h : befB a b = true) : befB b a = false := by
  cases hb : befB b a with
  | false => rfl
  | true => have := bef_trans h hb; rw [befB_irrefl] at this; cases this
theorem befN_antisymm {a b : List Int} (h1 : befB a b = false) (h2 : befB b a = false) : a = b := by
  rcases befB_total h1 with h | h
  · exact h
  · rw [h] at h2; cases h2
theorem befN_trans {a b c : List Int} (h1 : befB b a = false) (h2 : befB c b = false) : befB c a = false := by
  cases h : befB c a with
  | false => rfl
  | true =>
    rcases befB_total h1 with e | h3
    · subst e; rw [h] at h2; cases h2
    · have := bef_trans h h3; rw [this] at h2; cases h2
/-- in order, where the same list may come again -/
def srtd (l : List (List Int)) : Prop := l.Pairwise (fun a b => befB b a = false)
theorem srtd_up {l : List (List Int)} (h : l.Pairwise (fun a b => befB a b = true)) : srtd l := h.imp (fun {a b} h => befB_asymm h)
theorem srtd_unique {l m : List (List Int)} (hl : srtd l) (hm : srtd m) (hp : l.Perm m) : l = m :=
  List.Perm.eq_of_pairwise (fun a b _ _ h h' => befN_antisymm h' h) hl hm hp
theorem mem_tw {p : List Int → Bool} {l : List (List Int)} {x : List Int} (h : x ∈ l.takeWhile p) : p x = true := by
  induction l with
  | nil => cases h
  | cons a l ih =>
    rw [List.takeWhile_cons] at h
    split at h
    · next hp =>
      rcases List.mem_cons.1 h with rfl | h
      · exact hp
      · exact ih h
    · cases h
theorem addL_perm (ls : List (List Int)) (a : List Int) : (addL ls a).Perm (a :: ls) := by
  unfold addL
  have h := List.takeWhile_append_dropWhile (p := fun l => befB l a) (l := ls)
  refine List.perm_middle.trans ?_
  rw [h]
theorem addL_srtd {ls : List (List Int)} {a : List Int} (h : srtd ls) : srtd (addL ls a) := by
  have hs := List.takeWhile_append_dropWhile (p := fun l => befB l a) (l := ls)
  unfold addL
  unfold srtd at h ⊢
  rw [← hs, List.pairwise_append] at h
  obtain ⟨h1, h2, h3⟩ := h
  have ht : ∀ x ∈ ls.takeWhile (fun l => befB l a), befB x a = true := fun x hx => mem_tw (p := fun l => befB l a) hx
  have hd : ∀ x ∈ ls.dropWhile (fun l => befB l a), befB x a = false := by
    intro x hx
    cases hq : ls.dropWhile (fun l => befB l a) with
    | nil => rw [hq] at hx; cases hx
    | cons y m =>
      have hy : befB y a = false := by
        have := List.head?_dropWhile_not (fun l => befB l a) ls
        rw [hq] at this
        simpa using this
      rw [hq] at hx h2
      rcases List.mem_cons.1 hx with rfl | hm
      · exact hy
      · exact befN_trans hy ((List.pairwise_cons.1 h2).1 x hm)
  rw [List.pairwise_append]
  refine ⟨h1, List.pairwise_cons.2 ⟨hd, h2⟩, fun x hx y hy => ?_⟩
  rcases List.mem_cons.1 hy with rfl | hy
  · exact befB_asymm (ht x hx)
  · exact h3 x hx y hy
/-- lists in order -/
def srt (l : List (List Int)) : List (List Int) := l.foldl addL []
theorem foldl_addL_perm (l acc : List (List Int)) : (l.foldl addL acc).Perm (acc ++ l) := by
  induction l generalizing acc with
  | nil => simp
  | cons a l ih =>
    rw [List.foldl_cons]
    refine (ih _).trans ?_
    refine ((addL_perm acc a).append_right l).trans ?_
    rw [List.cons_append]
    exact List.perm_middle.symm
theorem foldl_addL_srtd (l acc : List (List Int)) (h : srtd acc) : srtd (l.foldl addL acc) := by
  induction l generalizing acc with
  | nil => exact h
  | cons a l ih => rw [List.foldl_cons]; exact ih _ (addL_srtd h)
theorem srt_perm (l : List (List Int)) : (srt l).Perm l := by have := foldl_addL_perm l []; simpa [srt] using this
theorem srt_srtd (l : List (List Int)) : srtd (srt l) := foldl_addL_srtd l [] List.Pairwise.nil
theorem srt_unique {l m : List (List Int)} (h : srtd m) (hp : m.Perm l) : m = srt l := srtd_unique h (srt_srtd l) (hp.trans (srt_perm l).symm)
theorem srt_of_perm {l m : List (List Int)} (hp : l.Perm m) : srt l = srt m := srt_unique (srt_srtd l) ((srt_perm l).trans hp)
theorem srt_nil : srt [] = [] := rfl
theorem srt_one (a : List Int) : srt [a] = [a] := rfl
theorem srt_snoc (l : List (List Int)) (a : List Int) : srt (l ++ [a]) = addL (srt l) a := by unfold srt; rw [List.foldl_append]; rfl
theorem srt_length (l : List (List Int)) : (srt l).length = l.length := (srt_perm l).length_eq
theorem srt_mem {l : List (List Int)} {a : List Int} : a ∈ srt l ↔ a ∈ l := (srt_perm l).mem_iff
theorem srt_of_srtd {l : List (List Int)} (h : srtd l) : srt l = l := (srt_unique h (List.Perm.refl _)).symm
theorem srt_up {l : List (List Int)} (h : l.Nodup) : (srt l).Pairwise (fun a b => befB a b = true) := by
  have hn := (srt_perm l).symm.nodup_iff.1 h
  have hs := srt_srtd l
  unfold srtd at hs
  refine hs.imp₂ ?_ hn
  intro a b h1 h2
  rcases befB_total h1 with e | h3
  · exact absurd e.symm h2
  · exact h3
theorem total_perm {l m : List (List Int)} (h : l.Perm m) : (l.map List.length).sum = (m.map List.length).sum := (h.map _).sum_nat

/-! ### Levels back from some roots -/
/-- the piles from which t steps lead to some of c, the first t of them not cyclic -/
theorem mem_levR {c : List (List Int)} (hc : ∀ x ∈ c, Good x) (t : Nat) : ∀ x, x ∈ levL c t ↔ Good x ∧ stepsL t x ∈ c ∧ ∀ j, j < t → ¬ Cyc (stepsL j x) := by
  induction t with
  | zero => intro x; exact ⟨fun h => ⟨hc x h, h, fun j hj => absurd hj (Nat.not_lt_zero _)⟩, fun h => h.2.1⟩
  | succ t ih =>
    intro x
    show x ∈ looseL (levL c t) ↔ _
    unfold looseL
    rw [List.mem_flatMap]
    constructor
    · rintro ⟨a, ha, hx⟩
      obtain ⟨ga, sa, na⟩ := (ih a).1 ha
      obtain ⟨gx, sx, cx⟩ := (mem_loose ga).1 hx
      refine ⟨gx, by rw [stepsL_front, sx]; exact sa, fun j hj => ?_⟩
      cases j with
      | zero => exact cx
      | succ j => rw [stepsL_front, sx]; exact na j (by omega)
    · rintro ⟨gx, sx, nx⟩
      have gs := stepL_good gx
      refine ⟨stepL x, (ih _).2 ⟨gs, by rw [← stepsL_front]; exact sx, fun j hj => by rw [← stepsL_front]; exact nx (j + 1) (by omega)⟩, (mem_loose gs).2 ⟨gx, rfl, nx 0 (by omega)⟩⟩
structure Roots (c : List (List Int)) (s : Nat) : Prop where
  small : s ≤ 28
  good : ∀ x ∈ c, Good x
  sum : ∀ x ∈ c, x.sum = s
  nodup : c.Nodup
theorem Cyclics.roots {c : List (List Int)} {s : Nat} (h : Cyclics c s) : Roots c s := ⟨h.small, h.good, h.sum, h.nodup⟩
theorem roots_one {a : List Int} (h : Good a) : ∃ s : Nat, a.sum = s ∧ s ≤ 28 ∧ Roots [a] s := by
  have h0 := sum_nonneg h.1
  have h1 := h.2.2
  refine ⟨a.sum.toNat, by omega, by omega, ⟨by omega, fun x hx => ?_, fun x hx => ?_, by simp⟩⟩
  · rw [List.mem_singleton.1 hx]; exact h
  · rw [List.mem_singleton.1 hx]; omega
theorem levR_good {c : List (List Int)} {s : Nat} (h : Roots c s) {t : Nat} {x : List Int} (hx : x ∈ levL c t) : Good x := ((mem_levR h.good t x).1 hx).1
theorem levR_sum {c : List (List Int)} {s : Nat} (h : Roots c s) {t : Nat} {x : List Int} (hx : x ∈ levL c t) : x.sum = s := by
  obtain ⟨g, e, _⟩ := (mem_levR h.good t x).1 hx
  rw [← stepsL_sum g t]; exact h.sum _ e
theorem levR_nodup {c : List (List Int)} {s : Nat} (h : Roots c s) (t : Nat) : (levL c t).Nodup := by
  induction t with
  | zero => exact h.nodup
  | succ t ih =>
    show (looseL (levL c t)).Nodup
    unfold looseL
    unfold List.Nodup
    rw [List.pairwise_flatMap]
    refine ⟨fun a ha => loose_nodup (levR_good h ha), ?_⟩
    refine ih.imp_of_mem ?_
    intro a b ha hb hab x hx y hy e
    subst e
    have h1 := ((mem_loose (levR_good h ha)).1 hx).2.1
    have h2 := ((mem_loose (levR_good h hb)).1 hy).2.1
    exact hab (h1.symm.trans h2)
theorem levR_mem_all {c : List (List Int)} {s : Nat} (h : Roots c s) {t : Nat} {x : List Int} (hx : x ∈ levL c t) : x ∈ allL s := by
  have := mem_allL (levR_good h hx)
  rw [levR_sum h hx] at this
  simpa using this
theorem levR_length {c : List (List Int)} {s : Nat} (h : Roots c s) (t : Nat) : (levL c t).length ≤ 3718 := by
  have := nodup_len (levR_nodup h t) (fun x hx => levR_mem_all h hx)
  rw [allL_length h.small] at this
  have := cnt_le s (by have := h.small; omega) s (by have := h.small; omega)
  omega
theorem levR_short {c : List (List Int)} {s : Nat} (h : Roots c s) {t : Nat} {x : List Int} (hx : x ∈ levL c t) : t ≤ tailL x := by
  obtain ⟨g, _, hn⟩ := (mem_levR h.good t x).1 hx
  have h1 := (tailL_spec g).2.1
  rcases Nat.lt_or_ge (tailL x) t with h2 | h2
  · exact absurd h1 (hn _ h2)
  · exact h2
theorem levR_some {c : List (List Int)} {s : Nat} (h : Roots c s) {t : Nat} (ht : levL c t ≠ []) : t ≤ 3718 := by
  cases hl : levL c t with
  | nil => exact absurd hl ht
  | cons x l =>
    have hx : x ∈ levL c t := by rw [hl]; exact List.mem_cons_self
    have := levR_short h hx
    have := (tailL_spec (levR_good h hx)).1
    omega
theorem levR_far {c : List (List Int)} {s : Nat} (h : Roots c s) : levL c 3719 = [] := by
  cases hl : levL c 3719 with
  | nil => rfl
  | cons x l => have := levR_some h (t := 3719) (by rw [hl]; simp); omega
theorem levR_stop {c : List (List Int)} {t : Nat} (h : levL c t = []) (d : Nat) : levL c (t + d) = [] := by
  induction d with
  | zero => exact h
  | succ d ih => show looseL (levL c (t + d)) = []; rw [ih]; rfl
/-- how many levels there are before the first empty one -/
def levN (c : List (List Int)) : Nat := ((List.range 3720).find? fun t => (levL c t).isEmpty).getD 0
theorem levN_spec {c : List (List Int)} {s : Nat} (h : Roots c s) : levN c ≤ 3719 ∧ levL c (levN c) = [] ∧ ∀ t, t < levN c → levL c t ≠ [] := by
  unfold levN
  cases hf : (List.range 3720).find? fun t => (levL c t).isEmpty with
  | none =>
    rw [List.find?_eq_none] at hf
    have := hf 3719 (by simp)
    rw [levR_far h] at this
    simp at this
  | some t =>
    obtain ⟨h1, as, bs, e, h2⟩ := List.find?_eq_some_iff_append.1 hf
    have hm : t ∈ List.range 3720 := by rw [e]; simp
    have hm' := List.mem_range.1 hm
    refine ⟨by simp only [Option.getD_some]; omega, by simpa using h1, fun u hu => ?_⟩
    simp only [Option.getD_some] at hu
    have hmu : u ∈ as := by
      have hu2 : u ∈ List.range 3720 := List.mem_range.2 (by omega)
      have hp := List.pairwise_lt_range (n := 3720)
      rw [e] at hu2 hp
      rcases List.mem_append.1 hu2 with h3 | h3
      · exact h3
      · rcases List.mem_cons.1 h3 with h4 | h4
        · omega
        · have := (List.pairwise_cons.1 (List.pairwise_append.1 hp).2.1).1 u h4
          omega
    have := h2 u hmu
    simpa using this
theorem levN_unique {c : List (List Int)} {s N : Nat} (h : Roots c s) (h1 : levL c N = []) (h2 : ∀ t, t < N → levL c t ≠ []) : N = levN c := by
  obtain ⟨_, h3, h4⟩ := levN_spec h
  rcases Nat.lt_trichotomy N (levN c) with h5 | h5 | h5
  · exact absurd h1 (h4 N h5)
  · exact h5
  · exact absurd h3 (h2 _ h5)
theorem levN_pos {c : List (List Int)} {s : Nat} (h : Roots c s) (hc : c ≠ []) : 1 ≤ levN c := by
  have := (levN_spec h).2.1
  rcases Nat.eq_zero_or_pos (levN c) with h0 | h0
  · rw [h0] at this; exact absurd this hc
  · exact h0
/-- all levels -/
def levs (c : List (List Int)) (N : Nat) : List (List (List Int)) := (List.range N).map (levL c)
theorem levs_succ (c : List (List Int)) (N : Nat) : levs c (N + 1) = levs c N ++ [levL c N] := by unfold levs; rw [List.range_succ, List.map_append]; rfl
theorem levs_length (c : List (List Int)) (N : Nat) : (levs c N).length = N := by simp [levs]
theorem levs_getD (c : List (List Int)) (N t : Nat) (h : t < N) : (levs c N).getD t [] = levL c t := by
  unfold levs
  rw [List.getD_eq_getElem?_getD, List.getElem?_eq_getElem (by simpa using h)]
  simp
/-- roots none of which leads to another one behind steps that are not cyclic -/
def RootsApart (c : List (List Int)) : Prop := ∀ x y, x ∈ c → y ∈ c → ∀ d, 0 < d → stepsL d x = y → (∀ j, j < d → ¬ Cyc (stepsL j x)) → False
theorem apart_cyc {c : List (List Int)} (h : ∀ x ∈ c, Cyc x) : RootsApart c := fun x y hx _ d hd _ hn => hn 0 hd (h x hx)
theorem apart_one {a : List Int} (ha : Good a) : RootsApart [a] := by
  intro x y hx hy d hd e hn
  have ex := List.mem_singleton.1 hx
  have ey := List.mem_singleton.1 hy
  subst ex
  rw [ey] at e
  exact hn 0 hd (cyc_of_again ha hd e)
theorem tree_nodup {c : List (List Int)} {s : Nat} (h : Roots c s) (ha : RootsApart c) (N : Nat) : (levs c N).flatten.Nodup := by
  unfold levs
  rw [← List.flatMap_def]
  unfold List.Nodup
  rw [List.pairwise_flatMap]
  refine ⟨fun t _ => levR_nodup h t, ?_⟩
  refine (List.pairwise_lt_range (n := N)).imp ?_
  intro t u htu x hx y hy e
  subst e
  obtain ⟨g, h1, n1⟩ := (mem_levR h.good t x).1 hx
  obtain ⟨_, h2, n2⟩ := (mem_levR h.good u x).1 hy
  refine ha _ _ h1 h2 (u - t) (by omega) (by rw [← stepsL_plus]; congr 1; omega) (fun j hj => ?_)
  rw [← stepsL_plus]
  exact n2 _ (by omega)
theorem levs_all {c : List (List Int)} {s : Nat} (h : Roots c s) {N : Nat} {x : List Int} (hx : x ∈ (levs c N).flatten) : x ∈ allL s ∧ Good x := by
  obtain ⟨l, hl, hx⟩ := List.mem_flatten.1 hx
  obtain ⟨t, _, rfl⟩ := List.mem_map.1 hl
  exact ⟨levR_mem_all h hx, levR_good h hx⟩
theorem tree_length {c : List (List Int)} {s : Nat} (h : Roots c s) (ha : RootsApart c) (N : Nat) : (levs c N).flatten.length ≤ 3718 := by
  have := nodup_len (tree_nodup h ha N) (fun x hx => (levs_all h hx).1)
  rw [allL_length h.small] at this
  have := cnt_le s (by have := h.small; omega) s (by have := h.small; omega)
  omega

/-! ### Pasts at some steps -/
def lvA (a : List Int) : Nat → List (List Int)
  | 0 => [a]
  | k + 1 => (lvA a k).flatMap pastsL
theorem mem_pastsG {a p : List Int} (ha : Good a) : p ∈ pastsL a ↔ Good p ∧ stepL p = a :=
  ⟨fun h => by obtain ⟨e, hg⟩ := pasts_sound ha h; exact ⟨hg, e⟩, fun h => past_of_step h.1 h.2⟩
theorem mem_lvA {a : List Int} (ha : Good a) (k : Nat) : ∀ x, x ∈ lvA a k ↔ Good x ∧ stepsL k x = a := by
  induction k with
  | zero => intro x; show x ∈ [a] ↔ _; rw [List.mem_singleton]; exact ⟨fun e => by subst e; exact ⟨ha, rfl⟩, fun h => h.2⟩
  | succ k ih =>
    intro x
    show x ∈ (lvA a k).flatMap pastsL ↔ _
    rw [List.mem_flatMap]
    constructor
    · rintro ⟨b, hb, hx⟩
      obtain ⟨gb, sb⟩ := (ih b).1 hb
      obtain ⟨gx, sx⟩ := (mem_pastsG gb).1 hx
      exact ⟨gx, by rw [stepsL_front, sx]; exact sb⟩
    · rintro ⟨gx, sx⟩
      have gs := stepL_good gx
      exact ⟨stepL x, (ih _).2 ⟨gs, by rw [← stepsL_front]; exact sx⟩, (mem_pastsG gs).2 ⟨gx, rfl⟩⟩
theorem lvA_nodup {a : List Int} (ha : Good a) (k : Nat) : (lvA a k).Nodup := by
  induction k with
  | zero => simp [lvA]
  | succ k ih =>
    show ((lvA a k).flatMap pastsL).Nodup
    unfold List.Nodup
    rw [List.pairwise_flatMap]
    refine ⟨fun b hb => nodup_of_bef (pasts_up ((mem_lvA ha k b).1 hb).1), ?_⟩
    refine ih.imp_of_mem ?_
    intro b c hb hc hbc x hx y hy e
    subst e
    have h1 := ((mem_pastsG ((mem_lvA ha k b).1 hb).1).1 hx).2
    have h2 := ((mem_pastsG ((mem_lvA ha k c).1 hc).1).1 hy).2
    exact hbc (h1.symm.trans h2)
theorem lvA_sum {a : List Int} (ha : Good a) {k : Nat} {x : List Int} (hx : x ∈ lvA a k) : x.sum = a.sum := by
  obtain ⟨g, e⟩ := (mem_lvA ha k x).1 hx
  rw [← e, stepsL_sum g]
theorem lvA_length {a : List Int} (ha : Good a) (k : Nat) : (lvA a k).length ≤ 3718 := by
  have h0 := sum_nonneg ha.1
  have h1 := ha.2.2
  have hm : ∀ x ∈ lvA a k, x ∈ allL a.sum.toNat := fun x hx => by
    have := mem_allL ((mem_lvA ha k x).1 hx).1
    rw [lvA_sum ha hx] at this
    exact this
  have := nodup_len (lvA_nodup ha k) hm
  rw [allL_length (by omega)] at this
  have := cnt_le a.sum.toNat (by omega) a.sum.toNat (by omega)
  omega

/-! ### Tables of how often a number comes -/
def topT (f : List Int → Nat) (l : List (List Int)) : Nat := l.foldl (fun m x => max m (f x + 1)) 0
def tabT (f : List Int → Nat) (l : List (List Int)) : List Int := (List.range (topT f l)).map fun d => ((l.countP fun x => decide (f x = d) : Nat) : Int)
theorem snoc_ind {α : Type} {P : List α → Prop} (l : List α) (h0 : P []) (h1 : ∀ l x, P l → P (l ++ [x])) : P l := by
  have : ∀ m : List α, P m.reverse := by
    intro m
    induction m with
    | nil => exact h0
    | cons a m ih => rw [List.reverse_cons]; exact h1 _ _ ih
  simpa using this l.reverse
theorem topT_snoc (f : List Int → Nat) (l : List (List Int)) (x : List Int) : topT f (l ++ [x]) = max (topT f l) (f x + 1) := by unfold topT; rw [List.foldl_append]; rfl
theorem topT_le {f : List Int → Nat} {l : List (List Int)} : ∀ {x : List Int}, x ∈ l → f x < topT f l := by
  refine snoc_ind (P := fun l => ∀ {x : List Int}, x ∈ l → f x < topT f l) l (fun h => by cases h) (fun l y ih => ?_)
  intro x h
  rw [topT_snoc]
  rcases List.mem_append.1 h with h | h
  · have := ih h; omega
  · rw [List.mem_singleton.1 h]; omega
theorem topT_ex {f : List Int → Nat} {l : List (List Int)} : 0 < topT f l → ∃ x ∈ l, f x + 1 = topT f l := by
  refine snoc_ind (P := fun l => 0 < topT f l → ∃ x ∈ l, f x + 1 = topT f l) l (fun h => by simp [topT] at h) (fun l y ih => ?_)
  · intro h
    rw [topT_snoc] at h ⊢
    rcases Nat.lt_or_ge (f y + 1) (topT f l) with h1 | h1
    · obtain ⟨x, hx, e⟩ := ih (by omega)
      exact ⟨x, by simp [hx], by omega⟩
    · exact ⟨y, by simp, by omega⟩
theorem topT_bound {f : List Int → Nat} {l : List (List Int)} {b : Nat} (h : ∀ x ∈ l, f x < b) : topT f l ≤ b := by
  rcases Nat.eq_zero_or_pos (topT f l) with h0 | h0
  · omega
  · obtain ⟨x, hx, e⟩ := topT_ex h0
    have := h x hx
    omega
theorem tabT_length (f : List Int → Nat) (l : List (List Int)) : (tabT f l).length = topT f l := by simp [tabT]
theorem tabT_getD (f : List Int → Nat) (l : List (List Int)) (d : Nat) : (tabT f l).getD d 0 = ((l.countP fun x => decide (f x = d) : Nat) : Int) := by
  unfold tabT
  rw [List.getD_eq_getElem?_getD, List.getElem?_map]
  by_cases h : d < topT f l
  · rw [List.getElem?_range h]; rfl
  · rw [List.getElem?_eq_none (by simp; omega)]
    simp only [Option.map_none, Option.getD_none]
    symm
    have : l.countP (fun x => decide (f x = d)) = 0 := by
      rw [List.countP_eq_zero]
      intro x hx e
      have := topT_le (f := f) hx
      simp at e
      omega
    rw [this]; rfl
theorem getD_set_eqM {α : Type} (l : List α) (i : Nat) (x d : α) (h : i < l.length) : (l.set i x).getD i d = x := by
  rw [List.getD_eq_getElem?_getD, List.getElem?_set_self h]; rfl
theorem getD_set_neM {α : Type} (l : List α) (i j : Nat) (x d : α) (h : i ≠ j) : (l.set i x).getD j d = l.getD j d := by
  rw [List.getD_eq_getElem?_getD, List.getD_eq_getElem?_getD, List.getElem?_set_ne h]
/-- a table that is made longer if need be, with 1 added at a place -/
def bump (t : List Int) (k : Nat) : List Int := (t ++ List.replicate (k + 1 - t.length) 0).set k ((t ++ List.replicate (k + 1 - t.length) 0).getD k 0 + 1)
theorem bump_length (t : List Int) (k : Nat) : (bump t k).length = max t.length (k + 1) := by simp [bump]; omega
theorem getD_pad (t : List Int) (m d : Nat) : (t ++ List.replicate m 0).getD d 0 = t.getD d 0 := by
  rw [List.getD_eq_getElem?_getD, List.getD_eq_getElem?_getD]
  by_cases h : d < t.length
  · rw [List.getElem?_append_left h]
  · rw [List.getElem?_append_right (by omega), List.getElem?_eq_none (l := t) (by omega), List.getElem?_replicate]
    split <;> rfl
theorem tabT_snoc (f : List Int → Nat) (l : List (List Int)) (x : List Int) : tabT f (l ++ [x]) = bump (tabT f l) (f x) := by
  apply list_ext_getD
  · rw [bump_length, tabT_length, tabT_length, topT_snoc]
  · intro d hd
    rw [tabT_getD, List.countP_append]
    unfold bump
    by_cases e : d = f x
    · subst e
      rw [getD_set_eqM _ _ _ _ (by simp [tabT_length]; omega), getD_pad, tabT_getD]
      simp
    · rw [getD_set_neM _ _ _ _ _ (fun h => e h.symm), getD_pad, tabT_getD]
      have : ¬ f x = d := fun h => e h.symm
      simp [this]
end
end Go.Proofs.YtimmjimeldejjaaGreatDoor
