/- Chapter 2: what comes again in its own play is near the staircase: plain mathematics. No condition. -/
import Derived.Test.YthmaggmhcfcojaaDoorLawM
namespace Go.Proofs.YthmaggmhcfcojaaDoor
set_option linter.unusedVariables false
set_option linter.unusedSimpArgs false

/-! ### The potential (twice it) -/
def potL : List Int → Int
  | [] => 0
  | x :: l => x * x - x + potL l + 2 * l.sum
theorem sq_succ (m : Int) : (m + 1) * (m + 1) - (m + 1) = m * m - m + 2 * m := by
  rw [Int.add_mul, Int.mul_add]; omega
theorem lowL_cons_hi {a : Int} (l : List Int) (h : 1 < a) : lowL (a :: l) = (a - 1) :: lowL l := by
  unfold lowL; rw [List.filter_cons_of_pos (by simpa using h)]; rfl
theorem lowL_cons_lo {a : Int} (l : List Int) (h : ¬ 1 < a) : lowL (a :: l) = lowL l := by
  unfold lowL; rw [List.filter_cons_of_neg (by simpa using h)]
theorem lowL_ones {l : List Int} (h : ∀ x ∈ l, x ≤ 1) : lowL l = [] := by
  unfold lowL; rw [List.filter_eq_nil_iff.2 (fun x hx => by have := h x hx; simp; omega)]; rfl
/-- cards stay on their levels before piles are exchanged -/
theorem pot_low {xs : List Int} (h1 : ∀ x ∈ xs, 1 ≤ x) (hs : xs.Pairwise (· ≥ ·)) :
    potL ((xs.length : Int) :: lowL xs) = potL xs := by
  induction xs with
  | nil => rfl
  | cons a l ih =>
    have ih := ih (fun x hx => h1 x (by simp [hx])) (List.pairwise_cons.1 hs).2
    have ha := h1 a (by simp)
    have hsum := lowL_sum (fun x hx => h1 x (List.mem_cons_of_mem a hx) : ∀ x ∈ l, 1 ≤ x)
    have e1 := sq_succ (l.length : Int)
    have hlen : (((a :: l).length : Nat) : Int) = (l.length : Int) + 1 := by simp
    by_cases h : 1 < a
    · rw [lowL_cons_hi l h]
      have e2 := sq_succ (a - 1)
      rw [show a - 1 + 1 = a by omega] at e2
      simp only [potL, List.sum_cons] at ih ⊢
      rw [hlen]
      omega
    · have h0 : lowL l = [] := lowL_ones (fun x hx => by have : a ≥ x := (List.pairwise_cons.1 hs).1 x hx; omega)
      rw [lowL_cons_lo l h]
      obtain rfl : a = 1 := by omega
      rw [h0] at ih hsum ⊢
      simp only [potL, List.sum_nil] at ih hsum ⊢
      rw [hlen]
      omega
/-- one number put into its place -/
def insL (n : Int) : List Int → List Int
  | [] => [n]
  | x :: l => if n < x then x :: insL n l else n :: x :: l
theorem insL_perm (n : Int) (l : List Int) : (insL n l).Perm (n :: l) := by
  induction l with
  | nil => exact List.Perm.refl _
  | cons x l ih =>
    unfold insL
    split
    · exact (ih.cons x).trans (List.Perm.swap n x l)
    · exact List.Perm.refl _
theorem insL_sorted (n : Int) {l : List Int} (h : l.Pairwise (· ≥ ·)) : (insL n l).Pairwise (· ≥ ·) := by
  induction l with
  | nil => exact List.pairwise_singleton _ _
  | cons x l ih =>
    have hc := List.pairwise_cons.1 h
    unfold insL
    split
    · rw [List.pairwise_cons]
      refine ⟨fun y hy => ?_, ih hc.2⟩
      rcases List.mem_cons.1 ((insL_perm n l).mem_iff.1 hy) with rfl | hy
      · show x ≥ y; omega
      · exact hc.1 y hy
    · rw [List.pairwise_cons]
      refine ⟨fun y hy => ?_, h⟩
      rcases List.mem_cons.1 hy with rfl | hy
      · show n ≥ y; omega
      · have : x ≥ y := hc.1 y hy
        show n ≥ y; omega
theorem pot_ins (n : Int) (l : List Int) : potL (insL n l) ≤ potL (n :: l) ∧ (potL (insL n l) = potL (n :: l) → insL n l = n :: l) := by
  induction l with
  | nil => exact ⟨Int.le_refl _, fun _ => rfl⟩
  | cons x l ih =>
    unfold insL
    split
    · next h =>
      have hp := perm_sum (insL_perm n l)
      have := ih.1
      simp only [potL, List.sum_cons] at *
      refine ⟨by omega, fun e => ?_⟩
      omega
    · exact ⟨Int.le_refl _, fun _ => rfl⟩
theorem stepL_ins {xs : List Int} (hs : xs.Pairwise (· ≥ ·)) (h : xs ≠ []) : stepL xs = insL (xs.length : Int) (lowL xs) := by
  rw [stepL_cons h]
  exact (sortD_unique (insL_sorted _ (lowL_sorted hs)) ((insL_perm _ _).trans (List.perm_append_singleton _ _).symm)).symm
theorem pot_step {xs : List Int} (hg : Good xs) : potL (stepL xs) ≤ potL xs ∧ (potL (stepL xs) = potL xs → xs ≠ [] → stepL xs = (xs.length : Int) :: lowL xs) := by
  by_cases h : xs = []
  · subst h; exact ⟨Int.le_refl _, fun _ h => absurd rfl h⟩
  · rw [stepL_ins hg.2.1 h, ← pot_low hg.1 hg.2.1]
    exact ⟨(pot_ins _ _).1, fun e _ => (pot_ins _ _).2 e⟩

/-! ### Steps add up -/
theorem stepsL_plus (i j : Nat) (xs : List Int) : stepsL (i + j) xs = stepsL i (stepsL j xs) := by
  induction i with
  | zero => simp [stepsL]
  | succ i ih => rw [show i + 1 + j = (i + j) + 1 by omega]; show stepL (stepsL (i + j) xs) = stepL (stepsL i (stepsL j xs)); rw [ih]
theorem stepsL_mul {xs : List Int} {p : Nat} (h : stepsL p xs = xs) (m : Nat) : stepsL (p * m) xs = xs := by
  induction m with
  | zero => rfl
  | succ m ih => rw [Nat.mul_succ, stepsL_plus, h, ih]
theorem pot_steps {xs : List Int} (hg : Good xs) (k : Nat) : potL (stepsL k xs) ≤ potL xs := by
  induction k with
  | zero => exact Int.le_refl _
  | succ k ih => exact Int.le_trans (pot_step (stepsL_good hg k)).1 ih
/-- what comes again is never exchanged -/
theorem straight {xs : List Int} (hg : Good xs) {p : Nat} (hp : 0 < p) (h : stepsL p xs = xs) (t : Nat) (hne : stepsL t xs ≠ []) :
    stepsL (t + 1) xs = ((stepsL t xs).length : Int) :: lowL (stepsL t xs) := by
  have h1 := pot_step (stepsL_good hg t)
  have h2 := pot_steps hg t
  have h3 : potL xs ≤ potL (stepsL (t + 1) xs) := by
    have hle : t + 1 ≤ p * (t + 1) := Nat.le_mul_of_pos_left _ hp
    have e := stepsL_mul h (t + 1)
    have := pot_steps (stepsL_good hg (t + 1)) (p * (t + 1) - (t + 1))
    rw [← stepsL_plus, show p * (t + 1) - (t + 1) + (t + 1) = p * (t + 1) by omega, e] at this
    exact this
  have h4 : stepsL (t + 1) xs = stepL (stepsL t xs) := rfl
  rw [h4] at h3 ⊢
  exact h1.2 (by omega) hne

/-! ### Cards on levels -/
def cel (xs : List Int) (i p : Nat) : Prop := (p : Int) < xs.getD i 0
theorem getD_nonneg {xs : List Int} (h : ∀ x ∈ xs, 1 ≤ x) (i : Nat) : 0 ≤ xs.getD i 0 ∧ (0 < xs.getD i 0 ↔ i < xs.length) := by
  by_cases hi : i < xs.length
  · rw [List.getD_eq_getElem?_getD, List.getElem?_eq_getElem hi]
    have := h _ (List.getElem_mem hi)
    simp only [Option.getD_some]
    exact ⟨by omega, by omega⟩
  · rw [List.getD_eq_getElem?_getD, List.getElem?_eq_none (by omega)]
    simp; omega
theorem lowL_getD {xs : List Int} (h1 : ∀ x ∈ xs, 1 ≤ x) (hs : xs.Pairwise (· ≥ ·)) (i : Nat) : (lowL xs).getD i 0 = if 0 < xs.getD i 0 then xs.getD i 0 - 1 else 0 := by
  induction xs generalizing i with
  | nil => simp [lowL]
  | cons a l ih =>
    have ha := h1 a (by simp)
    have ih := fun i => ih (fun x hx => h1 x (by simp [hx])) (List.pairwise_cons.1 hs).2 i
    by_cases h : 1 < a
    · rw [lowL_cons_hi l h]
      cases i with
      | zero => simp; omega
      | succ i => simp only [List.getD_cons_succ]; exact ih i
    · have hall : ∀ x ∈ a :: l, x ≤ 1 := fun x hx => by
        rcases List.mem_cons.1 hx with rfl | hx
        · omega
        · have : a ≥ x := (List.pairwise_cons.1 hs).1 x hx
          omega
      rw [lowL_ones hall]
      by_cases hi : i < (a :: l).length
      · have e : (a :: l).getD i 0 = (a :: l)[i] := by rw [List.getD_eq_getElem?_getD, List.getElem?_eq_getElem hi]; rfl
        have := hall _ (List.getElem_mem hi)
        have := h1 _ (List.getElem_mem hi)
        rw [e]
        simp only [List.getD_nil]
        split <;> omega
      · rw [List.getD_eq_getElem?_getD (l := a :: l), List.getElem?_eq_none (by omega)]; simp
section
variable {xs : List Int} (hg : Good xs) {p : Nat} (hp : 0 < p) (h : stepsL p xs = xs)
include hg hp h
theorem cel_first (t q : Nat) : cel (stepsL (t + 1) xs) 0 q ↔ cel (stepsL t xs) q 0 := by
  have hG := stepsL_good hg t
  unfold cel
  by_cases hne : stepsL t xs = []
  · rw [show stepsL (t + 1) xs = stepL (stepsL t xs) from rfl, hne, stepL_nil]; simp
  · rw [straight hg hp h t hne]
    have := getD_nonneg hG.1 q
    simp only [List.getD_cons_zero]
    have h2 := this.2
    constructor
    · intro hh; exact h2.2 (by omega)
    · intro hh; have := h2.1 hh; omega
theorem cel_next (t i q : Nat) : cel (stepsL (t + 1) xs) (i + 1) q ↔ cel (stepsL t xs) i (q + 1) := by
  have hG := stepsL_good hg t
  unfold cel
  by_cases hne : stepsL t xs = []
  · rw [show stepsL (t + 1) xs = stepL (stepsL t xs) from rfl, hne, stepL_nil]; simp
    omega
  · rw [straight hg hp h t hne]
    have := getD_nonneg hG.1 i
    simp only [List.getD_cons_succ]
    rw [lowL_getD hG.1 hG.2.1]
    split <;> omega
/-- a card goes along its level -/
theorem lev_run (l j s t : Nat) (hj : j + s ≤ l) : cel (stepsL (t + s) xs) (j + s) (l - (j + s)) ↔ cel (stepsL t xs) j (l - j) := by
  induction s with
  | zero => exact Iff.rfl
  | succ s ih =>
    rw [← ih (by omega), show t + (s + 1) = (t + s) + 1 by omega, show j + (s + 1) = (j + s) + 1 by omega, cel_next hg hp h, show l - (j + s + 1) + 1 = l - (j + s) by omega]
theorem lev_zero (l j t : Nat) (hj : j ≤ l) : cel (stepsL (t + (l + 1 - j)) xs) 0 l ↔ cel (stepsL t xs) j (l - j) := by
  rw [← lev_run hg hp h l j (l - j) t (by omega), show t + (l + 1 - j) = t + (l - j) + 1 by omega, cel_first hg hp h, show j + (l - j) = l by omega, Nat.sub_self]
theorem lev_round (l t m : Nat) : cel (stepsL (t + m * (l + 1)) xs) 0 l ↔ cel (stepsL t xs) 0 l := by
  induction m with
  | zero => simp
  | succ m ih =>
    rw [← ih, Nat.succ_mul, ← Nat.add_assoc]
    have := lev_zero hg hp h l 0 (t + m * (l + 1)) (by omega)
    simp only [Nat.sub_zero] at this
    exact this
theorem lev_above (l i j : Nat) (hi : i ≤ l) (hh : ¬ cel xs i (l - i)) (hj : j ≤ l + 1) : ¬ cel xs j (l + 1 - j) := by
  intro hc
  have a1 := lev_zero hg hp h l i 0 hi
  have a2 := lev_zero hg hp h (l + 1) j 0 hj
  have b1 : ¬ cel (stepsL (l + 1 - i) xs) 0 l := by
    rw [Nat.zero_add] at a1; exact fun hc => hh (a1.1 hc)
  have b2 : cel (stepsL (l + 1 + 1 - j) xs) 0 (l + 1) := by
    rw [Nat.zero_add] at a2; exact a2.2 hc
  have c1 := lev_round hg hp h l (l + 1 - i) (2 * (l + 1) + (l + 1 - i) - (l + 1 + 1 - j) + 2)
  have c2 := lev_round hg hp h (l + 1) (l + 1 + 1 - j) (2 * (l + 1) + (l + 1 - i) - (l + 1 + 1 - j))
  have e : l + 1 - i + (2 * (l + 1) + (l + 1 - i) - (l + 1 + 1 - j) + 2) * (l + 1) = l + 1 + 1 - j + (2 * (l + 1) + (l + 1 - i) - (l + 1 + 1 - j)) * (l + 1 + 1) := by
    generalize hm : 2 * (l + 1) + (l + 1 - i) - (l + 1 + 1 - j) = m
    rw [Nat.add_mul, Nat.mul_succ m (l + 1)]
    omega
  rw [e] at c1
  have d1 : ¬ cel _ 0 l := fun hc => b1 (c1.1 hc)
  have d2 := c2.2 b2
  unfold cel at d1 d2
  omega
theorem lev_empty (l i : Nat) (hi : i ≤ l) (hh : ¬ cel xs i (l - i)) (d j : Nat) (hj : j ≤ l + 1 + d) : ¬ cel xs j (l + 1 + d - j) := by
  induction d generalizing j with
  | zero => exact lev_above hg hp h l i j hi hh hj
  | succ d ih => exact lev_above hg hp h (l + 1 + d) 0 j (by omega) (by have := ih 0 (by omega); exact this) hj
end

/-! ### Near the staircase -/
theorem tri_succ (k : Nat) : tri (k + 1) = tri k + (k + 1) := by
  unfold tri
  rw [show (k + 1) * (k + 1 + 1) = k * (k + 1) + 2 * (k + 1) by rw [Nat.mul_succ (k + 1), Nat.succ_mul]; omega]
  omega
theorem near_sum (L : Nat) : ∀ xs : List Int, xs.length ≤ L + 1 → (∀ i, i ≤ L → (L : Int) - i ≤ xs.getD i 0 ∧ xs.getD i 0 ≤ (L : Int) - i + 1) →
    (tri L : Int) ≤ xs.sum ∧ xs.sum ≤ tri L + L + 1 ∧ ((∃ i, i ≤ L ∧ xs.getD i 0 = (L : Int) - i) → xs.sum ≤ tri L + L) := by
  induction L with
  | zero =>
    intro xs hl h
    have h0 := h 0 (by omega)
    match xs, hl, h0 with
    | [], _, _ => simp [tri]
    | [x], _, h0 =>
      simp only [List.getD_cons_zero, List.sum_cons, List.sum_nil] at h0 ⊢
      have e : (tri 0 : Int) = 0 := rfl
      refine ⟨by omega, by omega, ?_⟩
      rintro ⟨i, hi, e⟩
      obtain rfl : i = 0 := by omega
      simp only [List.getD_cons_zero] at e
      omega
    | _ :: _ :: _, hl, _ => simp at hl
  | succ L ih =>
    intro xs hl h
    cases xs with
    | nil =>
      have := h 0 (by omega)
      simp at this
      omega
    | cons x l =>
      have h0 := h 0 (by omega)
      simp only [List.getD_cons_zero] at h0
      have hr := ih l (by simpa using hl) (fun i hi => by
        have := h (i + 1) (by omega)
        simp only [List.getD_cons_succ] at this
        omega)
      have ht := tri_succ L
      rw [List.sum_cons]
      refine ⟨by omega, by omega, ?_⟩
      rintro ⟨i, hi, e⟩
      cases i with
      | zero => simp only [List.getD_cons_zero] at e; omega
      | succ i =>
        simp only [List.getD_cons_succ] at e
        have := hr.2.2 ⟨i, by omega, by omega⟩
        omega
theorem tri_mono (k d : Nat) : tri k + d * (k + 1) ≤ tri (k + d) := by
  induction d with
  | zero => simp
  | succ d ih =>
    rw [show k + (d + 1) = (k + d) + 1 by omega, tri_succ, Nat.succ_mul]
    omega
theorem hgt_small : ∀ L, L < 8 → ∀ n, n < 29 → tri L ≤ n → n ≤ tri L + L → hgt n = L := by decide +kernel
theorem hgt_unique {n L : Nat} (hn : n ≤ 28) (h1 : tri L ≤ n) (h2 : n ≤ tri L + L) : hgt n = L := by
  by_cases hL : L < 8
  · exact hgt_small L hL n (by omega) h1 h2
  · have := tri_mono 8 (L - 8)
    rw [show 8 + (L - 8) = L by omega] at this
    have e : tri 8 = 36 := rfl
    omega

/-- near the staircase: each pile has what the staircase has, or one more -/
def Cyc (xs : List Int) : Prop := xs.length ≤ hgt xs.sum.toNat + 1 ∧ ∀ i, i < hgt xs.sum.toNat + 1 → (xs.getD i 0 - (hgt xs.sum.toNat - i) = 0 ∨ xs.getD i 0 - (hgt xs.sum.toNat - i) = 1)
instance (xs : List Int) : Decidable (Cyc xs) := by unfold Cyc; infer_instance
def cycB (xs : List Int) : Bool := decide (Cyc xs)
theorem cyc_iff {xs : List Int} : cycB xs = true ↔ Cyc xs := by unfold cycB; simp

theorem least_hole (P : Nat → Prop) (n : Nat) (h : P n) : ∃ m, P m ∧ ∀ k, k < m → ¬ P k := by
  induction n using Nat.strongRecOn with
  | _ n ih =>
    by_cases hk : ∃ k, k < n ∧ P k
    · obtain ⟨k, hk, hP⟩ := hk; exact ih k hk hP
    · exact ⟨n, h, fun k hk' hP => hk ⟨k, hk', hP⟩⟩
/-- what comes again is near the staircase -/
theorem cyc_of_again {xs : List Int} (hg : Good xs) {p : Nat} (hp : 0 < p) (h : stepsL p xs = xs) : Cyc xs := by
  obtain ⟨L, ⟨i, hi, hh⟩, hmin⟩ := least_hole (fun l => ∃ i, i ≤ l ∧ ¬ cel xs i (l - i)) 28 ⟨0, by omega, by
    unfold cel
    have := hg.head
    rw [head_getD] at this
    simp only [Nat.sub_zero]
    omega⟩
  have hfull : ∀ l, l < L → ∀ j, j ≤ l → cel xs j (l - j) := fun l hl j hj => Classical.byContradiction fun hc => hmin l hl ⟨j, hj, hc⟩
  have hhi : ∀ j, j ≤ L + 1 → xs.getD j 0 ≤ (L : Int) + 1 - j := by
    intro j hj
    have := lev_above hg hp h L i j hi hh hj
    unfold cel at this
    omega
  have hlo : ∀ j, j ≤ L → (L : Int) - j ≤ xs.getD j 0 := by
    intro j hj
    by_cases hjl : j = L
    · have := (getD_nonneg hg.1 j).1; omega
    · have := hfull (L - 1) (by omega) j (by omega)
      unfold cel at this
      omega
  have hlen : xs.length ≤ L + 1 := by
    have h1 := hhi (L + 1) (Nat.le_refl _)
    have h2 := getD_nonneg hg.1 (L + 1)
    have h3 := h2.2
    by_cases hl : L + 1 < xs.length
    · have := h3.2 hl; omega
    · omega
  have hns := near_sum L xs hlen (fun j hj => ⟨hlo j hj, by have := hhi j (by omega); omega⟩)
  have hs := hns.2.2 ⟨i, hi, by
    have h1 := hlo i hi
    unfold cel at hh
    omega⟩
  have hk : hgt xs.sum.toNat = L := hgt_unique (by have := hg.2.2; omega) (by omega) (by omega)
  unfold Cyc
  rw [hk]
  refine ⟨hlen, fun j hj => ?_⟩
  have h1 := hlo j (by omega)
  have h2 := hhi j (by omega)
  omega
end Go.Proofs.YthmaggmhcfcojaaDoor
