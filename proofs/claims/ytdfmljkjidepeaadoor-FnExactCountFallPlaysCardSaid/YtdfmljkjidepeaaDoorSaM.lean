/- Grains on a line: sand, falls, weights, what all falls end in. Plain mathematics; no condition. -/
import Derived.Test.YtdfmljkjidepeaaDoorGa
namespace Go.Proofs.YtdfmljkjidepeaaDoor
set_option linter.unusedVariables false
set_option linter.unusedSimpArgs false

/-- columns that grains make, however many -/
def Grains (xs : List Int) : Prop := Good xs ∧ xs.sum ≤ 24
def Sand (xs : List Int) : Prop := xs.length ≤ 12 ∧ Good xs ∧ xs.sum ≤ 24
instance (xs : List Int) : Decidable (Sand xs) := by unfold Sand; infer_instance
def sandB (xs : List Int) : Bool := decide (Sand xs)
theorem sand_iff {xs : List Int} : sandB xs = true ↔ Sand xs := by unfold sandB; simp
theorem sand_no {xs : List Int} : sandB xs = false ↔ ¬ Sand xs := by unfold sandB; simp
theorem Sand.grains {xs : List Int} (h : Sand xs) : Grains xs := h.2
theorem Sand.good {xs : List Int} (h : Sand xs) : Good xs := h.2.1
theorem Grains.good {xs : List Int} (h : Grains xs) : Good xs := h.1
theorem Grains.len {xs : List Int} (h : Grains xs) : xs.length ≤ 24 := by have := sum_nonneg h.1.1; have := h.2; omega
theorem Grains.mem {xs : List Int} (h : Grains xs) {x : Int} (hx : x ∈ xs) : 1 ≤ x ∧ x ≤ 24 := ⟨h.1.1 x hx, by have := mem_le_sum h.1.1 hx; have := h.2; omega⟩

/-! ### Columns that can fall -/
def steepB (xs : List Int) (i : Nat) : Bool := decide (xs.getD (i + 1) 0 + 2 ≤ xs.getD i 0)
def fallsN (xs : List Int) (k : Nat) : List Nat := (List.range k).filter (steepB xs)
def fallsT (xs : List Int) (k : Nat) : List Int := (fallsN xs k).map (fun i => ((i : Nat) : Int))
def fallsL (xs : List Int) : List Int := fallsT xs xs.length
theorem fallsT_zero (xs : List Int) : fallsT xs 0 = [] := rfl
theorem fallsT_succ (xs : List Int) (k : Nat) : fallsT xs (k + 1) = fallsT xs k ++ if steepB xs k then [(k : Int)] else [] := by
  unfold fallsT fallsN
  rw [List.range_succ, List.filter_append, List.map_append]
  cases h : steepB xs k <;> simp [h]
theorem fallsT_yes {xs : List Int} {k : Nat} (h : steepB xs k = true) : fallsT xs (k + 1) = fallsT xs k ++ [(k : Int)] := by rw [fallsT_succ, h]; rfl
theorem fallsT_no {xs : List Int} {k : Nat} (h : steepB xs k = false) : fallsT xs (k + 1) = fallsT xs k := by rw [fallsT_succ, h]; simp
theorem fallsT_length (xs : List Int) (k : Nat) : (fallsT xs k).length ≤ k := by
  unfold fallsT fallsN
  rw [List.length_map]
  have := List.length_filter_le (steepB xs) (List.range k)
  simpa using this
theorem mem_fallsL {xs : List Int} {x : Int} : x ∈ fallsL xs ↔ ∃ i : Nat, x = (i : Int) ∧ i < xs.length ∧ steepB xs i = true := by
  unfold fallsL fallsT fallsN
  simp only [List.mem_map, List.mem_filter, List.mem_range]
  constructor
  · rintro ⟨i, ⟨h1, h2⟩, rfl⟩; exact ⟨i, rfl, h1, h2⟩
  · rintro ⟨i, rfl, h1, h2⟩; exact ⟨i, ⟨h1, h2⟩, rfl⟩

theorem getD_past {xs : List Int} {j : Nat} (hj : xs.length ≤ j) : xs.getD j 0 = 0 := by
  rw [List.getD_eq_getElem?_getD, List.getElem?_eq_none hj]; rfl
/-- what a fall makes -/
def fallL (xs : List Int) (i : Nat) : List Int := if i + 1 = xs.length then xs.set i (xs.getD i 0 - 1) ++ [1] else (xs.set i (xs.getD i 0 - 1)).set (i + 1) (xs.getD (i + 1) 0 + 1)
theorem fallL_end {xs : List Int} {i : Nat} (h : i + 1 = xs.length) : fallL xs i = xs.set i (xs.getD i 0 - 1) ++ [1] := by unfold fallL; rw [if_pos h]
theorem fallL_in {xs : List Int} {i : Nat} (h : i + 1 ≠ xs.length) : fallL xs i = (xs.set i (xs.getD i 0 - 1)).set (i + 1) (xs.getD (i + 1) 0 + 1) := by unfold fallL; rw [if_neg h]
theorem fallL_length {xs : List Int} {i : Nat} (hi : i < xs.length) : (fallL xs i).length = if i + 1 = xs.length then xs.length + 1 else xs.length := by
  unfold fallL
  split <;> simp
theorem fallL_getD {xs : List Int} {i : Nat} (hi : i < xs.length) (j : Nat) : (fallL xs i).getD j 0 = if j = i then xs.getD i 0 - 1 else if j = i + 1 then xs.getD (i + 1) 0 + 1 else xs.getD j 0 := by
  by_cases he : i + 1 = xs.length
  · rw [fallL_end he]
    by_cases h1 : j = i
    · subst h1
      rw [if_pos rfl, List.getD_eq_getElem?_getD, List.getElem?_append_left (by simp; omega), ← List.getD_eq_getElem?_getD, getD_set_eqM _ _ _ _ hi]
    · rw [if_neg h1]
      by_cases h2 : j = i + 1
      · subst h2
        have e1 : xs.getD (i + 1) 0 = 0 := getD_past (by omega)
        rw [if_pos rfl, e1, List.getD_eq_getElem?_getD, List.getElem?_append_right (by simp; omega), List.length_set, he, Nat.sub_self]
        rfl
      · rw [if_neg h2]
        by_cases h3 : j < xs.length
        · rw [List.getD_eq_getElem?_getD, List.getElem?_append_left (by simp; omega), ← List.getD_eq_getElem?_getD, getD_set_neM _ _ _ _ _ (by omega)]
        · rw [List.getD_eq_getElem?_getD, List.getElem?_eq_none (by simp; omega), List.getD_eq_getElem?_getD, List.getElem?_eq_none (by omega)]
  · rw [fallL_in he]
    by_cases h2 : j = i + 1
    · subst h2
      rw [getD_set_eqM _ _ _ _ (by simp; omega), if_neg (by omega), if_pos rfl]
    · rw [getD_set_neM _ _ _ _ _ (by omega)]
      by_cases h1 : j = i
      · subst h1
        rw [if_pos rfl, getD_set_eqM _ _ _ _ hi]
      · rw [if_neg h1, if_neg h2, getD_set_neM _ _ _ _ _ (by omega)]

/-! ### Sums and weights -/
theorem sum_set (xs : List Int) : ∀ (i : Nat) (v : Int), i < xs.length → (xs.set i v).sum = xs.sum + (v - xs.getD i 0) := by
  induction xs with
  | nil => intro i v h; simp at h
  | cons a l ih =>
    intro i v h
    cases i with
    | zero => simp; omega
    | succ i =>
      have := ih i v (by simpa using h)
      simp only [List.set_cons_succ, List.sum_cons, List.getD_cons_succ]
      omega
def wt (k : Int) : List Int → Int
  | [] => 0
  | x :: l => k * x + wt (k + 1) l
theorem wt_set (xs : List Int) : ∀ (k : Int) (i : Nat) (v : Int), i < xs.length → wt k (xs.set i v) = wt k xs + (k + i) * (v - xs.getD i 0) := by
  induction xs with
  | nil => intro k i v h; simp at h
  | cons a l ih =>
    intro k i v h
    cases i with
    | zero =>
      simp only [List.set_cons_zero, wt, List.getD_cons_zero]
      rw [Int.mul_sub]
      simp
      omega
    | succ i =>
      have := ih (k + 1) i v (by simpa using h)
      simp only [List.set_cons_succ, wt, List.getD_cons_succ]
      rw [this]
      have e : k + 1 + (i : Int) = k + ((i + 1 : Nat) : Int) := by push_cast; omega
      rw [e]
      omega
theorem wt_snoc (xs : List Int) : ∀ (k : Int) (y : Int), wt k (xs ++ [y]) = wt k xs + (k + xs.length) * y := by
  induction xs with
  | nil => intro k y; simp [wt]
  | cons a l ih =>
    intro k y
    have := ih (k + 1) y
    simp only [List.cons_append, wt, List.length_cons]
    rw [this]
    have e : k + 1 + (l.length : Int) = k + ((l.length + 1 : Nat) : Int) := by push_cast; omega
    rw [e]
    omega
theorem fall_sum {xs : List Int} {i : Nat} (hi : i < xs.length) : (fallL xs i).sum = xs.sum := by
  by_cases he : i + 1 = xs.length
  · rw [fallL_end he, List.sum_append, sum_set _ _ _ hi]
    simp
    omega
  · rw [fallL_in he, sum_set _ _ _ (by simp; omega), sum_set _ _ _ hi, getD_set_neM _ _ _ _ _ (by omega)]
    omega
theorem fall_wt {xs : List Int} {i : Nat} (hi : i < xs.length) (k : Int) : wt k (fallL xs i) = wt k xs + 1 := by
  by_cases he : i + 1 = xs.length
  · rw [fallL_end he, wt_snoc, wt_set _ _ _ _ hi, List.length_set, ← he]
    have e1 : xs.getD i 0 - 1 - xs.getD i 0 = -1 := by omega
    rw [e1]
    push_cast
    omega
  · rw [fallL_in he, wt_set _ _ _ _ (by simp; omega), wt_set _ _ _ _ hi, getD_set_neM _ _ _ _ _ (by omega)]
    have e1 : xs.getD i 0 - 1 - xs.getD i 0 = -1 := by omega
    have e2 : xs.getD (i + 1) 0 + 1 - xs.getD (i + 1) 0 = 1 := by omega
    rw [e1, e2]
    push_cast
    omega
theorem wt_bound {xs : List Int} (h : ∀ x ∈ xs, 1 ≤ x) : ∀ k : Nat, 0 ≤ wt k xs ∧ wt k xs ≤ ((k + xs.length : Nat) : Int) * xs.sum := by
  induction xs with
  | nil => intro k; simp [wt]
  | cons a l ih =>
    intro k
    have h1 := h a (by simp)
    have h2 : ∀ x ∈ l, 1 ≤ x := fun x hx => h x (by simp [hx])
    obtain ⟨h3, h4⟩ := ih h2 (k + 1)
    have h5 := sum_nonneg h2
    simp only [wt, List.sum_cons, List.length_cons]
    have e : ((k + 1 : Nat) : Int) = (k : Int) + 1 := by push_cast; rfl
    rw [e] at h3 h4
    have h6 : (0 : Int) ≤ (k : Int) * a := Int.mul_nonneg (by omega) (by omega)
    refine ⟨by omega, ?_⟩
    have e2 : ((k + 1 + l.length : Nat) : Int) = ((k + (l.length + 1) : Nat) : Int) := by congr 1; omega
    rw [e2] at h4
    rw [Int.mul_add]
    have h7 : (k : Int) * a ≤ ((k + (l.length + 1) : Nat) : Int) * a := Int.mul_le_mul_of_nonneg_right (by omega) (by omega)
    omega
theorem Grains.wt {xs : List Int} (h : Grains xs) : 0 ≤ wt 0 xs ∧ wt 0 xs ≤ 576 := by
  obtain ⟨h1, h2⟩ := wt_bound h.1.1 0
  have h3 := h.len
  have h4 := h.2
  have h5 := sum_nonneg h.1.1
  refine ⟨h1, ?_⟩
  have h6 : ((0 + xs.length : Nat) : Int) * xs.sum ≤ 24 * xs.sum := Int.mul_le_mul_of_nonneg_right (by omega) (by omega)
  have e : ((0 : Nat) : Int) = 0 := rfl
  rw [e] at h2
  omega

theorem good_adj {xs : List Int} (h1 : ∀ j, j < xs.length → 1 ≤ xs.getD j 0) (h2 : ∀ k, 0 < k → k < xs.length → xs.getD k 0 ≤ xs.getD (k - 1) 0) (h3 : xs.sum ≤ 28) : Good xs := by
  have hr : RowOk xs := ⟨fun x hx => by
    obtain ⟨j, hj, rfl⟩ := List.getElem_of_mem hx
    have := h1 j hj
    rw [List.getD_eq_getElem?_getD, List.getElem?_eq_getElem hj] at this
    exact this, h3⟩
  have := good_row_sorted h2
  rw [row_iff.2 hr] at this
  exact good_iff.1 this
theorem good_one {xs : List Int} (h : Good xs) {j : Nat} (hj : j < xs.length) : 1 ≤ xs.getD j 0 := h.1 _ (by
  rw [List.getD_eq_getElem?_getD, List.getElem?_eq_getElem hj]
  exact List.getElem_mem hj)
theorem good_ge0 {xs : List Int} (h : Good xs) (j : Nat) : 0 ≤ xs.getD j 0 := by
  by_cases hj : j < xs.length
  · have := good_one h hj; omega
  · rw [getD_past (by omega)]; omega
theorem good_down {xs : List Int} (h : Good xs) (k : Nat) : xs.getD (k + 1) 0 ≤ xs.getD k 0 := by
  by_cases hj : k + 1 < xs.length
  · have := (good_spec.1 h).2.2.1 (k + 1) (by omega) hj
    simpa using this
  · rw [getD_past (by omega)]; exact good_ge0 h k
theorem fall_good {xs : List Int} (h : Good xs) {i : Nat} (hi : i < xs.length) (hs : steepB xs i = true) : Good (fallL xs i) := by
  have hst : xs.getD (i + 1) 0 + 2 ≤ xs.getD i 0 := of_decide_eq_true hs
  have hlen := fallL_length hi
  have h0 := good_ge0 h (i + 1)
  refine good_adj (fun j hj => ?_) (fun k hk hlt => ?_) (by rw [fall_sum hi]; exact h.2.2)
  · rw [fallL_getD hi]
    split
    · omega
    · split
      · omega
      · next n1 n2 =>
        refine good_one h ?_
        rw [hlen] at hj
        split at hj <;> omega
  · rw [fallL_getD hi, fallL_getD hi]
    have d1 := good_down h (k - 1)
    rw [show k - 1 + 1 = k by omega] at d1
    by_cases e1 : k = i
    · subst e1
      rw [if_pos rfl, if_neg (by omega), if_neg (by omega)]
      omega
    · rw [if_neg e1]
      by_cases e2 : k = i + 1
      · subst e2
        rw [if_pos rfl, if_pos (by omega)]
        omega
      · rw [if_neg e2]
        by_cases e3 : k - 1 = i
        · omega
        · rw [if_neg e3]
          by_cases e4 : k - 1 = i + 1
          · rw [if_pos e4]
            rw [e4] at d1
            omega
          · rw [if_neg e4]; exact d1
theorem fall_grains {xs : List Int} (h : Grains xs) {i : Nat} (hi : i < xs.length) (hs : steepB xs i = true) : Grains (fallL xs i) :=
  ⟨fall_good h.1 hi hs, by rw [fall_sum hi]; exact h.2⟩

/-! ### The first fall, again and again -/
def firstN (xs : List Int) : Option Nat := (fallsN xs xs.length).head?
def step1 (xs : List Int) : List Int := match firstN xs with
  | none => xs
  | some i => fallL xs i
def stepsS (xs : List Int) : Nat → List Int
  | 0 => xs
  | t + 1 => step1 (stepsS xs t)
def cntS (xs : List Int) : Nat → List Int
  | 0 => []
  | t + 1 => match firstN (stepsS xs t) with
    | none => cntS xs t
    | some i => bump (cntS xs t) i
def settleL (xs : List Int) : List Int := stepsS xs 600
def countsL (xs : List Int) : List Int := cntS xs 600
theorem firstN_nil {xs : List Int} : firstN xs = none ↔ fallsL xs = [] := by
  unfold firstN fallsL fallsT
  rw [List.head?_eq_none_iff, List.map_eq_nil_iff]
theorem firstN_cons {xs : List Int} {x : Int} {l : List Int} (h : fallsL xs = x :: l) : ∃ i : Nat, x = (i : Int) ∧ firstN xs = some i ∧ i < xs.length ∧ steepB xs i = true := by
  have hm : x ∈ fallsL xs := by rw [h]; simp
  obtain ⟨i, e, h1, h2⟩ := mem_fallsL.1 hm
  refine ⟨i, e, ?_, h1, h2⟩
  unfold fallsL fallsT at h
  unfold firstN
  cases hn : fallsN xs xs.length with
  | nil => rw [hn] at h; simp at h
  | cons j m =>
    rw [hn] at h
    simp only [List.map_cons, List.cons.injEq] at h
    rw [List.head?_cons]
    congr 1
    omega
theorem step_fall {xs : List Int} {t i : Nat} (h : firstN (stepsS xs t) = some i) : stepsS xs (t + 1) = fallL (stepsS xs t) i ∧ cntS xs (t + 1) = bump (cntS xs t) i := by
  constructor
  · show step1 (stepsS xs t) = _
    unfold step1; rw [h]
  · show (match firstN (stepsS xs t) with | none => cntS xs t | some i => bump (cntS xs t) i) = _
    rw [h]
theorem step_still {xs : List Int} {t : Nat} (h : firstN (stepsS xs t) = none) (d : Nat) : stepsS xs (t + d) = stepsS xs t ∧ cntS xs (t + d) = cntS xs t := by
  induction d with
  | zero => exact ⟨rfl, rfl⟩
  | succ d ih =>
    obtain ⟨h1, h2⟩ := ih
    constructor
    · show step1 (stepsS xs (t + d)) = _
      rw [h1]; unfold step1; rw [h]
    · show (match firstN (stepsS xs (t + d)) with | none => cntS xs (t + d) | some i => bump (cntS xs (t + d)) i) = _
      rw [h1, h]; exact h2
theorem steps_go {xs : List Int} (hg : Grains xs) {t : Nat} (h : ∀ u, u < t → firstN (stepsS xs u) ≠ none) : Grains (stepsS xs t) ∧ wt 0 (stepsS xs t) = wt 0 xs + t ∧ (cntS xs t).length ≤ 24 ∧ (∀ i : Nat, 0 ≤ (cntS xs t).getD i 0 ∧ (cntS xs t).getD i 0 ≤ t) := by
  induction t with
  | zero => exact ⟨hg, by simp [stepsS], by simp [cntS], fun i => by simp [cntS]⟩
  | succ t ih =>
    obtain ⟨h1, h2, h3, h4⟩ := ih (fun u hu => h u (by omega))
    cases hf : firstN (stepsS xs t) with
    | none => exact absurd hf (h t (by omega))
    | some i =>
      have hne : fallsL (stepsS xs t) ≠ [] := fun e => by rw [firstN_nil.2 e] at hf; cases hf
      obtain ⟨x, l, e⟩ := List.exists_cons_of_ne_nil hne
      obtain ⟨j, _, hj, hlt, hs⟩ := firstN_cons e
      rw [hf] at hj
      cases hj
      obtain ⟨e1, e2⟩ := step_fall hf
      rw [e1, e2]
      have hl := h1.len
      refine ⟨fall_grains h1 hlt hs, by rw [fall_wt hlt, h2]; push_cast; omega, by rw [bump_length]; omega, fun k => ?_⟩
      have hb := h4 k
      have hbi := h4 i
      unfold bump
      by_cases hk : k = i
      · subst hk
        rw [getD_set_eqM _ _ _ _ (by simp; omega), getD_pad]
        push_cast
        omega
      · rw [getD_set_neM _ _ _ _ _ (by omega), getD_pad]
        push_cast
        omega
theorem steps_few {xs : List Int} (hg : Grains xs) {t : Nat} (h : ∀ u, u < t → firstN (stepsS xs u) ≠ none) : t ≤ 576 := by
  obtain ⟨h1, h2, _⟩ := steps_go hg h
  have := h1.wt
  have := hg.wt
  omega
theorem settle_at {xs : List Int} (hg : Grains xs) {t : Nat} (h : ∀ u, u < t → firstN (stepsS xs u) ≠ none) (h0 : firstN (stepsS xs t) = none) : settleL xs = stepsS xs t ∧ countsL xs = cntS xs t := by
  have ht := steps_few hg h
  have := step_still h0 (600 - t)
  rw [show t + (600 - t) = 600 by omega] at this
  exact this
theorem settle_ex {xs : List Int} (hg : Grains xs) : ∃ t, (∀ u, u < t → firstN (stepsS xs u) ≠ none) ∧ firstN (stepsS xs t) = none := by
  apply Classical.byContradiction
  intro hno
  have : ∀ t, ∀ u, u < t → firstN (stepsS xs u) ≠ none := by
    intro t
    induction t with
    | zero => intro u hu; omega
    | succ t ih =>
      intro u hu
      by_cases e : u = t
      · subst e
        exact fun h0 => hno ⟨u, ih, h0⟩
      · exact ih u (by omega)
  have := steps_few hg (this 577)
  omega
theorem settle_good {xs : List Int} (hg : Grains xs) : Grains (settleL xs) ∧ (countsL xs).length ≤ 24 := by
  obtain ⟨t, h1, h2⟩ := settle_ex hg
  obtain ⟨e1, e2⟩ := settle_at hg h1 h2
  obtain ⟨g1, _, g3, _⟩ := steps_go hg h1
  rw [e1, e2]; exact ⟨g1, g3⟩

/-! ### Falls one after another -/
def fall1 (xs : List Int) (i : Int) : Option (List Int) := if 0 ≤ i ∧ i < xs.length ∧ steepB xs i.toNat = true then some (fallL xs i.toNat) else none
def playF (xs : List Int) (fs : List Int) : Option (List Int) := fs.foldl (fun o i => o.bind fun ys => fall1 ys i) (some xs)
theorem playF_nil (xs : List Int) : playF xs [] = some xs := rfl
theorem playF_snoc (xs fs : List Int) (i : Int) : playF xs (fs ++ [i]) = (playF xs fs).bind fun ys => fall1 ys i := by unfold playF; rw [List.foldl_append]; rfl
theorem foldl_none (fs : List Int) : fs.foldl (fun (o : Option (List Int)) i => o.bind fun ys => fall1 ys i) none = none := by
  induction fs with
  | nil => rfl
  | cons a l ih => exact ih
theorem playF_stop {xs fs : List Int} {k : Nat} (h : playF xs (fs.take k) = none) : playF xs fs = none := by
  have e : playF xs fs = (fs.drop k).foldl (fun o i => o.bind fun ys => fall1 ys i) (playF xs (fs.take k)) := by
    unfold playF
    rw [← List.foldl_append, List.take_append_drop]
  rw [e, h, foldl_none]
theorem fall1_grains {xs ys : List Int} {i : Int} (hg : Grains xs) (h : fall1 xs i = some ys) : Grains ys := by
  unfold fall1 at h
  split at h
  · next hc =>
    cases h
    exact fall_grains hg (by omega) hc.2.2
  · cases h
theorem playF_grains {xs fs ys : List Int} (hg : Grains xs) (h : playF xs fs = some ys) : Grains ys := by
  induction fs using snoc_ind generalizing ys with
  | h0 => cases h; exact hg
  | h1 l x ih =>
    rw [playF_snoc] at h
    cases hp : playF xs l with
    | none => rw [hp] at h; cases h
    | some zs =>
      rw [hp] at h
      exact fall1_grains (ih hp) h

/-! ### What the functions come to -/
def mIsSand (xs : List Int) : Bool := sandB xs
def mFallsOf (xs : List Int) : List Int × Bool := if sandB xs = true then (fallsL xs, true) else ([], false)
theorem mFallsOf_yes {xs : List Int} (h : sandB xs = true) : mFallsOf xs = (fallsL xs, true) := by unfold mFallsOf; rw [if_pos h]
theorem mFallsOf_no {xs : List Int} (h : sandB xs = false) : mFallsOf xs = ([], false) := by unfold mFallsOf; rw [if_neg (by rw [h]; simp)]
def ifSand (o : Option (List Int)) : List Int × Bool := match o with
  | none => ([], false)
  | some ys => if sandB ys = true then (ys, true) else ([], false)
theorem ifSand_none : ifSand none = ([], false) := rfl
theorem ifSand_yes {ys : List Int} (h : sandB ys = true) : ifSand (some ys) = (ys, true) := by unfold ifSand; exact if_pos h
theorem ifSand_no {ys : List Int} (h : sandB ys = false) : ifSand (some ys) = ([], false) := by unfold ifSand; exact if_neg (by rw [h]; simp)
theorem ifSand_len (o : Option (List Int)) : (ifSand o).1.length ≤ 12 := by
  cases o with
  | none => simp [ifSand]
  | some ys =>
    cases h : sandB ys
    · rw [ifSand_no h]; simp
    · rw [ifSand_yes h]; exact (sand_iff.1 h).1
def mPlayFalls (xs fs : List Int) : List Int × Bool := if sandB xs = true ∧ fs.length ≤ 300 then ifSand (playF xs fs) else ([], false)
theorem mPlayF_yes {xs fs : List Int} (h : sandB xs = true) (hf : fs.length ≤ 300) : mPlayFalls xs fs = ifSand (playF xs fs) := by unfold mPlayFalls; rw [if_pos ⟨h, hf⟩]
theorem mPlayF_no1 {xs fs : List Int} (h : sandB xs = false) : mPlayFalls xs fs = ([], false) := by unfold mPlayFalls; rw [if_neg (by rw [h]; simp)]
theorem mPlayF_no2 {xs fs : List Int} (h : ¬ fs.length ≤ 300) : mPlayFalls xs fs = ([], false) := by unfold mPlayFalls; rw [if_neg (fun hh => h hh.2)]
def mFallGrain (xs : List Int) (i : Int) : List Int × Bool := mPlayFalls xs [i]
def mIsSettled (xs : List Int) : Bool × Bool := if sandB xs = true then (decide (fallsL xs = []), true) else (false, false)
theorem mIsSettled_yes {xs : List Int} (h : sandB xs = true) : mIsSettled xs = (decide (fallsL xs = []), true) := by unfold mIsSettled; rw [if_pos h]
theorem mIsSettled_no {xs : List Int} (h : sandB xs = false) : mIsSettled xs = (false, false) := by unfold mIsSettled; rw [if_neg (by rw [h]; simp)]
def mSettleSand (xs : List Int) : List Int × Bool := if sandB xs = true then ifSand (some (settleL xs)) else ([], false)
theorem mSettle_yes {xs : List Int} (h : sandB xs = true) : mSettleSand xs = ifSand (some (settleL xs)) := by unfold mSettleSand; rw [if_pos h]
theorem mSettle_no {xs : List Int} (h : sandB xs = false) : mSettleSand xs = ([], false) := by unfold mSettleSand; rw [if_neg (by rw [h]; simp)]
def mFallCounts (xs : List Int) : List Int × Bool := if sandB xs = true then (countsL xs, true) else ([], false)
theorem mCounts_yes {xs : List Int} (h : sandB xs = true) : mFallCounts xs = (countsL xs, true) := by unfold mFallCounts; rw [if_pos h]
theorem mCounts_no {xs : List Int} (h : sandB xs = false) : mFallCounts xs = ([], false) := by unfold mFallCounts; rw [if_neg (by rw [h]; simp)]
def mWeightOf (xs : List Int) : Int × Bool := if sandB xs = true then (wt 0 xs, true) else (0, false)
theorem mWeight_yes {xs : List Int} (h : sandB xs = true) : mWeightOf xs = (wt 0 xs, true) := by unfold mWeightOf; rw [if_pos h]
theorem mWeight_no {xs : List Int} (h : sandB xs = false) : mWeightOf xs = (0, false) := by unfold mWeightOf; rw [if_neg (by rw [h]; simp)]
def oneCol (n : Int) : List Int := if n = 0 then [] else [n]
def mSettledShape (n : Int) : List Int × Bool := if 0 ≤ n ∧ n ≤ 24 then mSettleSand (oneCol n) else ([], false)
theorem mShape_yes {n : Int} (h : 0 ≤ n ∧ n ≤ 24) : mSettledShape n = mSettleSand (oneCol n) := by unfold mSettledShape; rw [if_pos h]
theorem mShape_no {n : Int} (h : ¬ (0 ≤ n ∧ n ≤ 24)) : mSettledShape n = ([], false) := by unfold mSettledShape; rw [if_neg h]

theorem mFallsOf_bound (xs : List Int) : (mFallsOf xs).1.length ≤ 1048576 := by
  cases h : sandB xs
  · rw [mFallsOf_no h]; simp
  · rw [mFallsOf_yes h]
    have h1 := fallsT_length xs xs.length
    have h2 := (sand_iff.1 h).1
    have : (fallsL xs).length ≤ 12 := Nat.le_trans h1 h2
    exact Nat.le_trans this (by omega)
theorem mPlayFalls_bound (xs fs : List Int) : (mPlayFalls xs fs).1.length ≤ 1048576 := by
  unfold mPlayFalls
  split
  · exact Nat.le_trans (ifSand_len _) (by omega)
  · simp
theorem mFallGrain_bound (xs : List Int) (i : Int) : (mFallGrain xs i).1.length ≤ 1048576 := mPlayFalls_bound xs [i]
theorem mSettleSand_bound (xs : List Int) : (mSettleSand xs).1.length ≤ 1048576 := by
  unfold mSettleSand
  split
  · exact Nat.le_trans (ifSand_len _) (by omega)
  · simp
theorem mFallCounts_bound (xs : List Int) : (mFallCounts xs).1.length ≤ 1048576 := by
  cases h : sandB xs
  · rw [mCounts_no h]; simp
  · rw [mCounts_yes h]
    have h1 := (settle_good (sand_iff.1 h).grains).2
    generalize countsL xs = c at *
    exact Nat.le_trans h1 (by omega)
theorem mSettledShape_bound (n : Int) : (mSettledShape n).1.length ≤ 1048576 := by
  unfold mSettledShape
  split
  · exact mSettleSand_bound _
  · simp
end Go.Proofs.YtdfmljkjidepeaaDoor
