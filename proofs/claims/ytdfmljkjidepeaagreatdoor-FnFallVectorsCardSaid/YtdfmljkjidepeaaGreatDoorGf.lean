/- Several texts in one: SaM, SaR, SaX, SaC. No condition. -/
import Derived.Test.YtdfmljkjidepeaaGreatDoorGa
namespace Go.Proofs.YtdfmljkjidepeaaGreatDoor
section
set_option linter.unusedVariables false
set_option linter.unusedSimpArgs false

/-- columns that grains make, however many -/
def Grains (xs : List Int) : Prop := Good xs ∧ xs.sum ≤ 24
def Sand (xs : List Int) : Prop := xs.length ≤ 12 ∧ Good xs ∧ xs.sum ≤ 24
instance (xs : List Int) : Decidable (Sand xs) := by unfold Sand; infer_instance
def sandB (xs : List Int) : Bool := decide (Sand xs)
theorem sand_iff {xs : List Int} : sandB xs = true ↔ Sand xs := by unfold sandB; simp
theorem sand_no {xs : List Int} : sandB xs = false ↔ ¬ Sand xs := by unfold sandB; simp
theorem Sand.grains {xs : List Int} (h : Sand xs) : Grains xs := h.2
theorem Sand.good {xs : List Int} (h : Sand xs) : Good xs := h.2.1
theorem Grains.good {xs : List Int} (h : Grains xs) : Good xs := h.1
theorem Grains.len {xs : List Int} (h : Grains xs) : xs.length ≤ 24 := by have := sum_nonneg h.1.1; have := h.2; omega
theorem Grains.mem {xs : List Int} (h : Grains xs) {x : Int} (hx : x ∈ xs) : 1 ≤ x ∧ x ≤ 24 := ⟨h.1.1 x hx, by have := mem_le_sum h.1.1 hx; have := h.2; omega⟩

/-! ### Columns that can fall -/
def steepB (xs : List Int) (i : Nat) : Bool := decide (xs.getD (i + 1) 0 + 2 ≤ xs.getD i 0)
def fallsN (xs : List Int) (k : Nat) : List Nat := (List.range k).filter (steepB xs)
def fallsT (xs : List Int) (k : Nat) : List Int := (fallsN xs k).map (fun i => ((i : Nat) : Int))
def fallsL (xs : List Int) : List Int := fallsT xs xs.length
theorem fallsT_zero (xs : List Int) : fallsT xs 0 = [] := rfl
theorem fallsT_succ (xs : List Int) (k : Nat) : fallsT xs (k + 1) = fallsT xs k ++ if steepB xs k then [(k : Int)] else [] := by
  unfold fallsT fallsN
  rw [List.range_succ, List.filter_append, List.map_append]
  cases h : steepB xs k <;> simp [h]
theorem fallsT_yes {xs : List Int} {k : Nat} (h : steepB xs k = true) : fallsT xs (k + 1) = fallsT xs k ++ [(k : Int)] := by rw [fallsT_succ, h]; rfl
theorem fallsT_no {xs : List Int} {k : Nat} (h : steepB xs k = false) : fallsT xs (k + 1) = fallsT xs k := by rw [fallsT_succ, h]; simp
theorem fallsT_length (xs : List Int) (k : Nat) : (fallsT xs k).length ≤ k := by
  unfold fallsT fallsN
  rw [List.length_map]
  have := List.length_filter_le (steepB xs) (List.range k)
  simpa using this
theorem mem_fallsL {xs : List Int} {x : Int} : x ∈ fallsL xs ↔ ∃ i : Nat, x = (i : Int) ∧ i < xs.length ∧ steepB xs i = true := by
  unfold fallsL fallsT fallsN
  simp only [List.mem_map, List.mem_filter, List.mem_range]
  constructor
  · rintro ⟨i, ⟨h1, h2⟩, rfl⟩; exact ⟨i, rfl, h1, h2⟩
  · rintro ⟨i, rfl, h1, h2⟩; exact ⟨i, ⟨h1, h2⟩, rfl⟩

theorem getD_past {xs : List Int} {j : Nat} (hj : xs.length ≤ j) : xs.getD j 0 = 0 := by
  rw [List.getD_eq_getElem?_getD, List.getElem?_eq_none hj]; rfl
/-- what a fall makes -/
def fallL (xs : List Int) (i : Nat) : List Int := if i + 1 = xs.length then xs.set i (xs.getD i 0 - 1) ++ [1] else (xs.set i (xs.getD i 0 - 1)).set (i + 1) (xs.getD (i + 1) 0 + 1)
theorem fallL_end {xs : List Int} {i : Nat} (h : i + 1 = xs.length) : fallL xs i = xs.set i (xs.getD i 0 - 1) ++ [1] := by unfold fallL; rw [if_pos h]
theorem fallL_in {xs : List Int} {i : Nat} (h : i + 1 ≠ xs.length) : fallL xs i = (xs.set i (xs.getD i 0 - 1)).set (i + 1) (xs.getD (i + 1) 0 + 1) := by unfold fallL; rw [if_neg h]
theorem fallL_length {xs : List Int} {i : Nat} (hi : i < xs.length) : (fallL xs i).length = if i + 1 = xs.length then xs.length + 1 else xs.length := by
  unfold fallL
  split <;> simp
theorem fallL_getD {xs : List Int} {i : Nat} (hi : i < xs.length) (j : Nat) : (fallL xs i).getD j 0 = if j = i then xs.getD i 0 - 1 else if j = i + 1 then xs.getD (i + 1) 0 + 1 else xs.getD j 0 := by
  by_cases he : i + 1 = xs.length
  · rw [fallL_end he]
    by_cases h1 : j = i
    · subst h1
      rw [if_pos rfl, List.getD_eq_getElem?_getD, List.getElem?_append_left (by simp; omega), ← List.getD_eq_getElem?_getD, getD_set_eqM _ _ _ _ hi]
    · rw [if_neg h1]
      by_cases h2 : j = i + 1
      · subst h2
        have e1 : xs.getD (i + 1) 0 = 0 := getD_past (by omega)
        rw [if_pos rfl, e1, List.getD_eq_getElem?_getD, List.getElem?_append_right (by simp; omega), List.length_set, he, Nat.sub_self]
        rfl
      · rw [if_neg h2]
        by_cases h3 : j < xs.length
        · rw [List.getD_eq_getElem?_getD, List.getElem?_append_left (by simp; omega), ← List.getD_eq_getElem?_getD, getD_set_neM _ _ _ _ _ (by omega)]
        · rw [List.getD_eq_getElem?_getD, List.getElem?_eq_none (by simp; omega), List.getD_eq_getElem?_getD, List.getElem?_eq_none (by omega)]
  · rw [fallL_in he]
    by_cases h2 : j = i + 1
    · subst h2
      rw [getD_set_eqM _ _ _ _ (by simp; omega), if_neg (by omega), if_pos rfl]
    · rw [getD_set_neM _ _ _ _ _ (by omega)]
      by_cases h1 : j = i
      · subst h1
        rw [if_pos rfl, getD_set_eqM _ _ _ _ hi]
      · rw [if_neg h1, if_neg h2, getD_set_neM _ _ _ _ _ (by omega)]

/-! ### Sums and weights -/
theorem sum_set (xs : List Int) : ∀ (i : Nat) (v : Int), i < xs.length → (xs.set i v).sum = xs.sum + (v - xs.getD i 0) := by
  induction xs with
  | nil => intro i v h; simp at h
  | cons a l ih =>
    intro i v h
    cases i with
    | zero => simp; omega
    | succ i =>
      have := ih i v (by simpa using h)
      simp only [List.set_cons_succ, List.sum_cons, List.getD_cons_succ]
      omega
def wt (k : Int) : List Int → Int
  | [] => 0
  | x :: l => k * x + wt (k + 1) l
theorem wt_set (xs : List Int) : ∀ (k : Int) (i : Nat) (v : Int), i < xs.length → wt k (xs.set i v) = wt k xs + (k + i) * (v - xs.getD i 0) := by
  induction xs with
  | nil => intro k i v h; simp at h
  | cons a l ih =>
    intro k i v h
    cases i with
    | zero =>
      simp only [List.set_cons_zero, wt, List.getD_cons_zero]
      rw [Int.mul_sub]
      simp
      omega
    | succ i =>
      have := ih (k + 1) i v (by simpa using h)
      simp only [List.set_cons_succ, wt, List.getD_cons_succ]
      rw [this]
      have e : k + 1 + (i : Int) = k + ((i + 1 : Nat) : Int) := by push_cast; omega
      rw [e]
      omega
theorem wt_snoc (xs : List Int) : ∀ (k : Int) (y : Int), wt k (xs ++ [y]) = wt k xs + (k + xs.length) * y := by
  induction xs with
  | nil => intro k y; simp [wt]
  | cons a l ih =>
    intro k y
    have := ih (k + 1) y
    simp only [List.cons_append, wt, List.length_cons]
    rw [this]
    have e : k + 1 + (l.length : Int) = k + ((l.length + 1 : Nat) : Int) := by push_cast; omega
    rw [e]
    omega
theorem fall_sum {xs : List Int} {i : Nat} (hi : i < xs.length) : (fallL xs i).sum = xs.sum := by
  by_cases he : i + 1 = xs.length
  · rw [fallL_end he, List.sum_append, sum_set _ _ _ hi]
    simp
    omega
  · rw [fallL_in he, sum_set _ _ _ (by simp; omega), sum_set _ _ _ hi, getD_set_neM _ _ _ _ _ (by omega)]
    omega
theorem fall_wt {xs : List Int} {i : Nat} (hi : i < xs.length) (k : Int) : wt k (fallL xs i) = wt k xs + 1 := by
  by_cases he : i + 1 = xs.length
  · rw [fallL_end he, wt_snoc, wt_set _ _ _ _ hi, List.length_set, ← he]
    have e1 : xs.getD i 0 - 1 - xs.getD i 0 = -1 := by omega
    rw [e1]
    push_cast
    omega
  · rw [fallL_in he, wt_set _ _ _ _ (by simp; omega), wt_set _ _ _ _ hi, getD_set_neM _ _ _ _ _ (by omega)]
    have e1 : xs.getD i 0 - 1 - xs.getD i 0 = -1 := by omega
    have e2 : xs.getD (i + 1) 0 + 1 - xs.getD (i + 1) 0 = 1 := by omega
    rw [e1, e2]
    push_cast
    omega
theorem wt_bound {xs : List Int} (h : ∀ x ∈ xs, 1 ≤ x) : ∀ k : Nat, 0 ≤ wt k xs ∧ wt k xs ≤ ((k + xs.length : Nat) : Int) * xs.sum := by
  induction xs with
  | nil => intro k; simp [wt]
  | cons a l ih =>
    intro k
    have h1 := h a (by simp)
    have h2 : ∀ x ∈ l, 1 ≤ x := fun x hx => h x (by simp [hx])
    obtain ⟨h3, h4⟩ := ih h2 (k + 1)
    have h5 := sum_nonneg h2
    simp only [wt, List.sum_cons, List.length_cons]
    have e : ((k + 1 : Nat) : Int) = (k : Int) + 1 := by push_cast; rfl
    rw [e] at h3 h4
    have h6 : (0 : Int) ≤ (k : Int) * a := Int.mul_nonneg (by omega) (by omega)
    refine ⟨by omega, ?_⟩
    have e2 : ((k + 1 + l.length : Nat) : Int) = ((k + (l.length + 1) : Nat) : Int) := by congr 1; omega
    rw [e2] at h4
    rw [Int.mul_add]
    have h7 : (k : Int) * a ≤ ((k + (l.length + 1) : Nat) : Int) * a := Int.mul_le_mul_of_nonneg_right (by omega) (by omega)
    omega
theorem Grains.wt {xs : List Int} (h : Grains xs) : 0 ≤ wt 0 xs ∧ wt 0 xs ≤ 576 := by
  obtain ⟨h1, h2⟩ := wt_bound h.1.1 0
  have h3 := h.len
  have h4 := h.2
  have h5 := sum_nonneg h.1.1
  refine ⟨h1, ?_⟩
  have h6 : ((0 + xs.length : Nat) : Int) * xs.sum ≤ 24 * xs.sum := Int.mul_le_mul_of_nonneg_right (by omega) (by omega)
  have e : ((0 : Nat) : Int) = 0 := rfl
  rw [e] at h2
  omega

theorem good_adj {xs : List Int} (h1 : ∀ j, j < xs.length → 1 ≤ xs.getD j 0) (h2 : ∀ k, 0 < k → k < xs.length → xs.getD k 0 ≤ xs.getD (k - 1) 0) (h3 : xs.sum ≤ 28) : Good xs := by
  have hr : RowOk xs := ⟨fun x hx => by
    obtain ⟨j, hj, rfl⟩ := List.getElem_of_mem hx
    have := h1 j hj
    rw [List.getD_eq_getElem?_getD, List.getElem?_eq_getElem hj] at this
    exact this, h3⟩
  have := good_row_sorted h2
  rw [row_iff.2 hr] at this
  exact good_iff.1 this
theorem good_one {xs : List Int} (h : Good xs) {j : Nat} (hj : j < xs.length) : 1 ≤ xs.getD j 0 := h.1 _ (by
  rw [List.getD_eq_getElem?_getD, List.getElem?_eq_getElem hj]
  exact List.getElem_mem hj)
theorem good_ge0 {xs : List Int} (h : Good xs) (j : Nat) : 0 ≤ xs.getD j 0 := by
  by_cases hj : j < xs.length
  · have := good_one h hj; omega
  · rw [getD_past (by omega)]; omega
theorem good_down {xs : List Int} (h : Good xs) (k : Nat) : xs.getD (k + 1) 0 ≤ xs.getD k 0 := by
  by_cases hj : k + 1 < xs.length
  · have := (good_spec.1 h).2.2.1 (k + 1) (by omega) hj
    simpa using this
  · rw [getD_past (by omega)]; exact good_ge0 h k
theorem fall_good {xs : List Int} (h : Good xs) {i : Nat} (hi : i < xs.length) (hs : steepB xs i = true) : Good (fallL xs i) := by
  have hst : xs.getD (i + 1) 0 + 2 ≤ xs.getD i 0 := of_decide_eq_true hs
  have hlen := fallL_length hi
  have h0 := good_ge0 h (i + 1)
  refine good_adj (fun j hj => ?_) (fun k hk hlt => ?_) (by rw [fall_sum hi]; exact h.2.2)
  · rw [fallL_getD hi]
    split
    · omega
    · split
      · omega
      · next n1 n2 =>
        refine good_one h ?_
        rw [hlen] at hj
        split at hj <;> omega
  · rw [fallL_getD hi, fallL_getD hi]
    have d1 := good_down h (k - 1)
    rw [show k - 1 + 1 = k by omega] at d1
    by_cases e1 : k = i
    · subst e1
      rw [if_pos rfl, if_neg (by omega), if_neg (by omega)]
      omega
    · rw [if_neg e1]
      by_cases e2 : k = i + 1
      · subst e2
        rw [if_pos rfl, if_pos (by omega)]
        omega
      · rw [if_neg e2]
        by_cases e3 : k - 1 = i
        · omega
        · rw [if_neg e3]
          by_cases e4 : k - 1 = i + 1
          · rw [if_pos e4]
            rw [e4] at d1
            omega
          · rw [if_neg e4]; exact d1
theorem fall_grains {xs : List Int} (h : Grains xs) {i : Nat} (hi : i < xs.length) (hs : steepB xs i = true) : Grains (fallL xs i) :=
  ⟨fall_good h.1 hi hs, by rw [fall_sum hi]; exact h.2⟩

/-! ### The first fall, again and again -/
def firstN (xs : List Int) : Option Nat := (fallsN xs xs.length).head?
def step1 (xs : List Int) : List Int := match firstN xs with
  | none => xs
  | some i => fallL xs i
def stepsS (xs : List Int) : Nat → List Int
  | 0 => xs
  | t + 1 => step1 (stepsS xs t)
def cntS (xs : List Int) : Nat → List Int
  | 0 => []
  | t + 1 => match firstN (stepsS xs t) with
    | none => cntS xs t
    | some i => bump (cntS xs t) i
def settleL (xs : List Int) : List Int := stepsS xs 600
def countsL (xs : List Int) : List Int := cntS xs 600
theorem firstN_nil {xs : List Int} : firstN xs = none ↔ fallsL xs = [] := by
  unfold firstN fallsL fallsT
  rw [List.head?_eq_none_iff, List.map_eq_nil_iff]
theorem firstN_cons {xs : List Int} {x : Int} {l : List Int} (h : fallsL xs = x :: l) : ∃ i : Nat, x = (i : Int) ∧ firstN xs = some i ∧ i < xs.length ∧ steepB xs i = true := by
  have hm : x ∈ fallsL xs := by rw [h]; simp
  obtain ⟨i, e, h1, h2⟩ := mem_fallsL.1 hm
  refine ⟨i, e, ?_, h1, h2⟩
  unfold fallsL fallsT at h
  unfold firstN
  cases hn : fallsN xs xs.length with
  | nil => rw [hn] at h; simp at h
  | cons j m =>
    rw [hn] at h
    simp only [List.map_cons, List.cons.injEq] at h
    rw [List.head?_cons]
    congr 1
    omega
theorem step_fall {xs : List Int} {t i : Nat} (h : firstN (stepsS xs t) = some i) : stepsS xs (t + 1) = fallL (stepsS xs t) i ∧ cntS xs (t + 1) = bump (cntS xs t) i := by
  constructor
  · show step1 (stepsS xs t) = _
    unfold step1; rw [h]
  · show (match firstN (stepsS xs t) with | none => cntS xs t | some i => bump (cntS xs t) i) = _
    rw [h]
theorem step_still {xs : List Int} {t : Nat} (h : firstN (stepsS xs t) = none) (d : Nat) : stepsS xs (t + d) = stepsS xs t ∧ cntS xs (t + d) = cntS xs t := by
  induction d with
  | zero => exact ⟨rfl, rfl⟩
  | succ d ih =>
    obtain ⟨h1, h2⟩ := ih
    constructor
    · show step1 (stepsS xs (t + d)) = _
      rw [h1]; unfold step1; rw [h]
    · show (match firstN (stepsS xs (t + d)) with | none => cntS xs (t + d) | some i => bump (cntS xs (t + d)) i) = _
      rw [h1, h]; exact h2
theorem steps_go {xs : List Int} (hg : Grains xs) {t : Nat} (h : ∀ u, u < t → firstN (stepsS xs u) ≠ none) : Grains (stepsS xs t) ∧ wt 0 (stepsS xs t) = wt 0 xs + t ∧ (cntS xs t).length ≤ 24 ∧ (∀ i : Nat, 0 ≤ (cntS xs t).getD i 0 ∧ (cntS xs t).getD i 0 ≤ t) := by
  induction t with
  | zero => exact ⟨hg, by simp [stepsS], by simp [cntS], fun i => by simp [cntS]⟩
  | succ t ih =>
    obtain ⟨h1, h2, h3, h4⟩ := ih (fun u hu => h u (by omega))
    cases hf : firstN (stepsS xs t) with
    | none => exact absurd hf (h t (by omega))
    | some i =>
      have hne : fallsL (stepsS xs t) ≠ [] := fun e => by rw [firstN_nil.2 e] at hf; cases hf
      obtain ⟨x, l, e⟩ := List.exists_cons_of_ne_nil hne
      obtain ⟨j, _, hj, hlt, hs⟩ := firstN_cons e
      rw [hf] at hj
      cases hj
      obtain ⟨e1, e2⟩ := step_fall hf
      rw [e1, e2]
      have hl := h1.len
      refine ⟨fall_grains h1 hlt hs, by rw [fall_wt hlt, h2]; push_cast; omega, by rw [bump_length]; omega, fun k => ?_⟩
      have hb := h4 k
      have hbi := h4 i
      unfold bump
      by_cases hk : k = i
      · subst hk
        rw [getD_set_eqM _ _ _ _ (by simp; omega), getD_pad]
        push_cast
        omega
      · rw [getD_set_neM _ _ _ _ _ (by omega), getD_pad]
        push_cast
        omega
theorem steps_few {xs : List Int} (hg : Grains xs) {t : Nat} (h : ∀ u, u < t → firstN (stepsS xs u) ≠ none) : t ≤ 576 := by
  obtain ⟨h1, h2, _⟩ := steps_go hg h
  have := h1.wt
  have := hg.wt
  omega
theorem settle_at {xs : List Int} (hg : Grains xs) {t : Nat} (h : ∀ u, u < t → firstN (stepsS xs u) ≠ none) (h0 : firstN (stepsS xs t) = none) : settleL xs = stepsS xs t ∧ countsL xs = cntS xs t := by
  have ht := steps_few hg h
  have := step_still h0 (600 - t)
  rw [show t + (600 - t) = 600 by omega] at this
  exact this
theorem settle_ex {xs : List Int} (hg : Grains xs) : ∃ t, (∀ u, u < t → firstN (stepsS xs u) ≠ none) ∧ firstN (stepsS xs t) = none := by
  apply Classical.byContradiction
  intro hno
  have : ∀ t, ∀ u, u < t → firstN (stepsS xs u) ≠ none := by
    intro t
    induction t with
    | zero => intro u hu; omega
    | succ t ih =>
      intro u hu
      by_cases e : u = t
      · subst e
        exact fun h0 => hno ⟨u, ih, h0⟩
      · exact ih u (by omega)
  have := steps_few hg (this 577)
  omega
theorem settle_good {xs : List Int} (hg : Grains xs) : Grains (settleL xs) ∧ (countsL xs).length ≤ 24 := by
  obtain ⟨t, h1, h2⟩ := settle_ex hg
  obtain ⟨e1, e2⟩ := settle_at hg h1 h2
  obtain ⟨g1, _, g3, _⟩ := steps_go hg h1
  rw [e1, e2]; exact ⟨g1, g3⟩

/-! ### Falls one after another -/
def fall1 (xs : List Int) (i : Int) : Option (List Int) := if 0 ≤ i ∧ i < xs.length ∧ steepB xs i.toNat = true then some (fallL xs i.toNat) else none
def playF (xs : List Int) (fs : List Int) : Option (List Int) := fs.foldl (fun o i => o.bind fun ys => fall1 ys i) (some xs)
theorem playF_nil (xs : List Int) : playF xs [] = some xs := rfl
theorem playF_snoc (xs fs : List Int) (i : Int) : playF xs (fs ++ [i]) = (playF xs fs).bind fun ys => fall1 ys i := by unfold playF; rw [List.foldl_append]; rfl
theorem foldl_none (fs : List Int) : fs.foldl (fun (o : Option (List Int)) i => o.bind fun ys => fall1 ys i) none = none := by
  induction fs with
  | nil => rfl
  | cons a l ih => exact ih
theorem playF_stop {xs fs : List Int} {k : Nat} (h : playF xs (fs.take k) = none) : playF xs fs = none := by
  have e : playF xs fs = (fs.drop k).foldl (fun o i => o.bind fun ys => fall1 ys i) (playF xs (fs.take k)) := by
    unfold playF
    rw [← List.foldl_append, List.take_append_drop]
  rw [e, h, foldl_none]
theorem fall1_grains {xs ys : List Int} {i : Int} (hg : Grains xs) (h : fall1 xs i = some ys) : Grains ys := by
  unfold fall1 at h
  split at h
  · next hc =>
    cases h
    exact fall_grains hg (by omega) hc.2.2
  · cases h
theorem playF_grains {xs fs ys : List Int} (hg : Grains xs) (h : playF xs fs = some ys) : Grains ys := by
  induction fs using snoc_ind generalizing ys with
  | h0 => cases h; exact hg
  | h1 l x ih =>
    rw [playF_snoc] at h
    cases hp : playF xs l with
    | none => rw [hp] at h; cases h
    | some zs =>
      rw [hp] at h
      exact fall1_grains (ih hp) h

/-! ### What the functions come to -/
def mIsSand (xs : List Int) : Bool := sandB xs
def mFallsOf (xs : List Int) : List Int × Bool := if sandB xs = true then (fallsL xs, true) else ([], false)
theorem mFallsOf_yes {xs : List Int} (h : sandB xs = true) : mFallsOf xs = (fallsL xs, true) := by unfold mFallsOf; rw [if_pos h]
theorem mFallsOf_no {xs : List Int} (h : sandB xs = false) : mFallsOf xs = ([], false) := by unfold mFallsOf; rw [if_neg (by rw [h]; simp)]
def ifSand (o : Option (List Int)) : List Int × Bool := match o with
  | none => ([], false)
  | some ys => if sandB ys = true then (ys, true) else ([], false)
theorem ifSand_none : ifSand none = ([], false) := rfl
theorem ifSand_yes {ys : List Int} (h : sandB ys = true) : ifSand (some ys) = (ys, true) := by unfold ifSand; exact if_pos h
theorem ifSand_no {ys : List Int} (h : sandB ys = false) : ifSand (some ys) = ([], false) := by unfold ifSand; exact if_neg (by rw [h]; simp)
theorem ifSand_len (o : Option (List Int)) : (ifSand o).1.length ≤ 12 := by
  cases o with
  | none => simp [ifSand]
  | some ys =>
    cases h : sandB ys
    · rw [ifSand_no h]; simp
    · rw [ifSand_yes h]; exact (sand_iff.1 h).1
def mPlayFalls (xs fs : List Int) : List Int × Bool := if sandB xs = true ∧ fs.length ≤ 300 then ifSand (playF xs fs) else ([], false)
theorem mPlayF_yes {xs fs : List Int} (h : sandB xs = true) (hf : fs.length ≤ 300) : mPlayFalls xs fs = ifSand (playF xs fs) := by unfold mPlayFalls; rw [if_pos ⟨h, hf⟩]
theorem mPlayF_no1 {xs fs : List Int} (h : sandB xs = false) : mPlayFalls xs fs = ([], false) := by unfold mPlayFalls; rw [if_neg (by rw [h]; simp)]
theorem mPlayF_no2 {xs fs : List Int} (h : ¬ fs.length ≤ 300) : mPlayFalls xs fs = ([], false) := by unfold mPlayFalls; rw [if_neg (fun hh => h hh.2)]
def mFallGrain (xs : List Int) (i : Int) : List Int × Bool := mPlayFalls xs [i]
def mIsSettled (xs : List Int) : Bool × Bool := if sandB xs = true then (decide (fallsL xs = []), true) else (false, false)
theorem mIsSettled_yes {xs : List Int} (h : sandB xs = true) : mIsSettled xs = (decide (fallsL xs = []), true) := by unfold mIsSettled; rw [if_pos h]
theorem mIsSettled_no {xs : List Int} (h : sandB xs = false) : mIsSettled xs = (false, false) := by unfold mIsSettled; rw [if_neg (by rw [h]; simp)]
def mSettleSand (xs : List Int) : List Int × Bool := if sandB xs = true then ifSand (some (settleL xs)) else ([], false)
theorem mSettle_yes {xs : List Int} (h : sandB xs = true) : mSettleSand xs = ifSand (some (settleL xs)) := by unfold mSettleSand; rw [if_pos h]
theorem mSettle_no {xs : List Int} (h : sandB xs = false) : mSettleSand xs = ([], false) := by unfold mSettleSand; rw [if_neg (by rw [h]; simp)]
def mFallCounts (xs : List Int) : List Int × Bool := if sandB xs = true then (countsL xs, true) else ([], false)
theorem mCounts_yes {xs : List Int} (h : sandB xs = true) : mFallCounts xs = (countsL xs, true) := by unfold mFallCounts; rw [if_pos h]
theorem mCounts_no {xs : List Int} (h : sandB xs = false) : mFallCounts xs = ([], false) := by unfold mFallCounts; rw [if_neg (by rw [h]; simp)]
def mWeightOf (xs : List Int) : Int × Bool := if sandB xs = true then (wt 0 xs, true) else (0, false)
theorem mWeight_yes {xs : List Int} (h : sandB xs = true) : mWeightOf xs = (wt 0 xs, true) := by unfold mWeightOf; rw [if_pos h]
theorem mWeight_no {xs : List Int} (h : sandB xs = false) : mWeightOf xs = (0, false) := by unfold mWeightOf; rw [if_neg (by rw [h]; simp)]
def oneCol (n : Int) : List Int := if n = 0 then [] else [n]
def mSettledShape (n : Int) : List Int × Bool := if 0 ≤ n ∧ n ≤ 24 then mSettleSand (oneCol n) else ([], false)
theorem mShape_yes {n : Int} (h : 0 ≤ n ∧ n ≤ 24) : mSettledShape n = mSettleSand (oneCol n) := by unfold mSettledShape; rw [if_pos h]
theorem mShape_no {n : Int} (h : ¬ (0 ≤ n ∧ n ≤ 24)) : mSettledShape n = ([], false) := by unfold mSettledShape; rw [if_neg h]

theorem mFallsOf_bound (xs : List Int) : (mFallsOf xs).1.length ≤ 1048576 := by
  cases h : sandB xs
  · rw [mFallsOf_no h]; simp
  · rw [mFallsOf_yes h]
    have h1 := fallsT_length xs xs.length
    have h2 := (sand_iff.1 h).1
    have : (fallsL xs).length ≤ 12 := Nat.le_trans h1 h2
    exact Nat.le_trans this (by omega)
theorem mPlayFalls_bound (xs fs : List Int) : (mPlayFalls xs fs).1.length ≤ 1048576 := by
  unfold mPlayFalls
  split
  · exact Nat.le_trans (ifSand_len _) (by omega)
  · simp
theorem mFallGrain_bound (xs : List Int) (i : Int) : (mFallGrain xs i).1.length ≤ 1048576 := mPlayFalls_bound xs [i]
theorem mSettleSand_bound (xs : List Int) : (mSettleSand xs).1.length ≤ 1048576 := by
  unfold mSettleSand
  split
  · exact Nat.le_trans (ifSand_len _) (by omega)
  · simp
theorem mFallCounts_bound (xs : List Int) : (mFallCounts xs).1.length ≤ 1048576 := by
  cases h : sandB xs
  · rw [mCounts_no h]; simp
  · rw [mCounts_yes h]
    have h1 := (settle_good (sand_iff.1 h).grains).2
    generalize countsL xs = c at *
    exact Nat.le_trans h1 (by omega)
theorem mSettledShape_bound (n : Int) : (mSettledShape n).1.length ≤ 1048576 := by
  unfold mSettledShape
  split
  · exact mSettleSand_bound _
  · simp
end
end Go.Proofs.YtdfmljkjidepeaaGreatDoor
namespace Go.Proofs.YtdfmljkjidepeaaGreatDoor
section
set_option linter.unusedVariables false
set_option linter.unusedSimpArgs false

/-! ### Lists behind one fall -/
def behT (xs : List Int) (k : Nat) : List (List Int) := (fallsN xs k).map (fallL xs)
def behL (xs : List Int) : List (List Int) := behT xs xs.length
theorem fallsN_mem {xs : List Int} {k i : Nat} : i ∈ fallsN xs k ↔ i < k ∧ steepB xs i = true := by unfold fallsN; simp [List.mem_filter]
theorem fallsN_length (xs : List Int) (k : Nat) : (fallsN xs k).length ≤ k := by have := fallsT_length xs k; unfold fallsT at this; simpa using this
theorem mem_behL {xs y : List Int} : y ∈ behL xs ↔ ∃ i, i < xs.length ∧ steepB xs i = true ∧ y = fallL xs i := by
  unfold behL behT
  rw [List.mem_map]
  constructor
  · rintro ⟨i, hi, rfl⟩; obtain ⟨h1, h2⟩ := fallsN_mem.1 hi; exact ⟨i, h1, h2, rfl⟩
  · rintro ⟨i, h1, h2, rfl⟩; exact ⟨i, fallsN_mem.2 ⟨h1, h2⟩, rfl⟩
theorem behL_length {xs : List Int} (h : Grains xs) : (behL xs).length ≤ 24 := by
  unfold behL behT
  rw [List.length_map]
  exact Nat.le_trans (fallsN_length _ _) h.len
theorem behL_grains {xs y : List Int} (h : Grains xs) (hy : y ∈ behL xs) : Grains y ∧ wt 0 y = wt 0 xs + 1 := by
  obtain ⟨i, h1, h2, rfl⟩ := mem_behL.1 hy
  exact ⟨fall_grains h h1 h2, fall_wt h1 0⟩

/-! ### Each list only once -/
def addN (l : List (List Int)) (c : List Int) : List (List Int) := if c ∈ l then l else l ++ [c]
theorem addN_old {l : List (List Int)} {c : List Int} (h : c ∈ l) : addN l c = l := by unfold addN; rw [if_pos h]
theorem addN_new {l : List (List Int)} {c : List Int} (h : c ∉ l) : addN l c = l ++ [c] := by unfold addN; rw [if_neg h]
theorem addN_nodup {l : List (List Int)} {c : List Int} (h : l.Nodup) : (addN l c).Nodup := by
  by_cases hc : c ∈ l
  · rw [addN_old hc]; exact h
  · rw [addN_new hc, List.nodup_append]
    refine ⟨h, by simp, fun a ha b hb => ?_⟩
    rw [List.mem_singleton.1 hb]
    intro e; rw [e] at ha; exact hc ha
theorem mem_addN {l : List (List Int)} {c x : List Int} : x ∈ addN l c ↔ x ∈ l ∨ x = c := by
  by_cases hc : c ∈ l
  · rw [addN_old hc]
    exact ⟨.inl, fun h => h.elim id (fun e => e ▸ hc)⟩
  · rw [addN_new hc]; simp
theorem addN_length (l : List (List Int)) (c : List Int) : l.length ≤ (addN l c).length := by
  by_cases hc : c ∈ l
  · rw [addN_old hc]; exact Nat.le_refl _
  · rw [addN_new hc]; simp
def once (l : List (List Int)) : List (List Int) := l.foldl addN []
theorem once_snoc (l : List (List Int)) (c : List Int) : once (l ++ [c]) = addN (once l) c := by unfold once; rw [List.foldl_append]; rfl
theorem once_mem {l : List (List Int)} {x : List Int} : x ∈ once l ↔ x ∈ l := by
  induction l using snoc_ind with
  | h0 => simp [once]
  | h1 l c ih => rw [once_snoc, mem_addN, ih]; simp
theorem once_nodup (l : List (List Int)) : (once l).Nodup := by
  induction l using snoc_ind with
  | h0 => simp [once]
  | h1 l c ih => rw [once_snoc]; exact addN_nodup ih
theorem foldl_addN_length (m : List (List Int)) : ∀ l : List (List Int), l.length ≤ (m.foldl addN l).length := by
  induction m with
  | nil => intro l; exact Nat.le_refl _
  | cons c m ih => intro l; rw [List.foldl_cons]; exact Nat.le_trans (addN_length l c) (ih _)
theorem once_pre (l m : List (List Int)) : (once l).length ≤ (once (l ++ m)).length := by
  unfold once; rw [List.foldl_append]; exact foldl_addN_length m _
theorem once_len (l : List (List Int)) : (once l).length ≤ l.length := by
  induction l using snoc_ind with
  | h0 => simp [once]
  | h1 l c ih =>
    rw [once_snoc, List.length_append, List.length_singleton]
    by_cases hc : c ∈ once l
    · rw [addN_old hc]; omega
    · rw [addN_new hc]; simp; omega

/-! ### Levels -/
def frS (xs : List Int) : Nat → List (List Int)
  | 0 => [xs]
  | t + 1 => once ((frS xs t).flatMap behL)
def rsS (xs : List Int) (N : Nat) : List (List Int) := (List.range N).flatMap (frS xs)
theorem rsS_zero (xs : List Int) : rsS xs 0 = [] := rfl
theorem rsS_succ (xs : List Int) (N : Nat) : rsS xs (N + 1) = rsS xs N ++ frS xs N := by unfold rsS; rw [List.range_succ, List.flatMap_append]; simp
def rchS (xs : List Int) : List (List Int) := rsS xs 600
theorem frS_nodup (xs : List Int) (t : Nat) : (frS xs t).Nodup := by
  cases t with
  | zero => simp [frS]
  | succ t => exact once_nodup _
theorem mem_frS_succ {xs y : List Int} {t : Nat} : y ∈ frS xs (t + 1) ↔ ∃ x ∈ frS xs t, y ∈ behL x := by
  show y ∈ once _ ↔ _
  rw [once_mem, List.mem_flatMap]
theorem frS_good {xs : List Int} (hg : Grains xs) : ∀ (t : Nat) {x : List Int}, x ∈ frS xs t → Grains x ∧ wt 0 x = wt 0 xs + t := by
  intro t
  induction t with
  | zero =>
    intro x hx
    have : x = xs := by simpa [frS] using hx
    subst this
    exact ⟨hg, by simp⟩
  | succ t ih =>
    intro x hx
    obtain ⟨y, hy, hb⟩ := mem_frS_succ.1 hx
    obtain ⟨h1, h2⟩ := ih hy
    obtain ⟨h3, h4⟩ := behL_grains h1 hb
    exact ⟨h3, by rw [h4, h2]; push_cast; omega⟩
theorem frS_far {xs : List Int} (hg : Grains xs) {t : Nat} (ht : 576 < t) : frS xs t = [] := by
  cases h : frS xs t with
  | nil => rfl
  | cons x l =>
    obtain ⟨h1, h2⟩ := frS_good hg t (x := x) (by rw [h]; simp)
    have := h1.wt
    have := hg.wt
    omega
theorem frS_stop {xs : List Int} {t : Nat} (h : frS xs t = []) (d : Nat) : frS xs (t + d) = [] := by
  induction d with
  | zero => exact h
  | succ d ih => show once ((frS xs (t + d)).flatMap behL) = []; rw [ih]; rfl
theorem rsS_stop {xs : List Int} {t : Nat} (h : frS xs t = []) (d : Nat) : rsS xs (t + d) = rsS xs t := by
  induction d with
  | zero => rfl
  | succ d ih => rw [← Nat.add_assoc, rsS_succ, ih, frS_stop h]; simp
theorem rchS_at {xs : List Int} {t : Nat} (h : frS xs t = []) (ht : t ≤ 600) : rchS xs = rsS xs t := by
  have := rsS_stop h (600 - t)
  rw [show t + (600 - t) = 600 by omega] at this
  exact this
theorem mem_rsS {xs x : List Int} {N : Nat} : x ∈ rsS xs N ↔ ∃ t, t < N ∧ x ∈ frS xs t := by unfold rsS; rw [List.mem_flatMap]; simp
theorem rsS_mono (xs : List Int) {N M : Nat} (h : N ≤ M) : (rsS xs N).length ≤ (rsS xs M).length := by
  obtain ⟨d, rfl⟩ : ∃ d, M = N + d := ⟨M - N, by omega⟩
  clear h
  induction d with
  | zero => exact Nat.le_refl _
  | succ d ih => rw [← Nat.add_assoc, rsS_succ, List.length_append]; omega
theorem rsS_nodup {xs : List Int} (hg : Grains xs) (N : Nat) : (rsS xs N).Nodup := by
  induction N with
  | zero => simp [rsS]
  | succ N ih =>
    rw [rsS_succ, List.nodup_append]
    refine ⟨ih, frS_nodup xs N, fun a ha b hb e => ?_⟩
    subst e
    obtain ⟨t, ht, hm⟩ := mem_rsS.1 ha
    have h1 := (frS_good hg t hm).2
    have h2 := (frS_good hg N hb).2
    omega
theorem some_level {xs : List Int} (hg : Grains xs) {t : Nat} (h : ∀ u, u < t → frS xs u ≠ []) : t ≤ 577 := by
  apply Classical.byContradiction
  intro hn
  exact h 577 (by omega) (frS_far hg (by omega))
/-- what is noted of a level while its falls are made: new ones are on no other level -/
theorem place_new {xs : List Int} (hg : Grains xs) {t : Nat} {l : List (List Int)} {c : List Int} (hc : Grains c ∧ wt 0 c = wt 0 xs + ((t + 1 : Nat) : Int)) : c ∈ srt (rsS xs (t + 1) ++ l) ↔ c ∈ l := by
  rw [srt_mem, List.mem_append]
  constructor
  · rintro (h | h)
    · obtain ⟨u, hu, hm⟩ := mem_rsS.1 h
      have := (frS_good hg u hm).2
      have := hc.2
      omega
    · exact h
  · exact .inr
/-! ### What is reached -/
def okR (xs : List Int) : Prop := (rchS xs).length ≤ 400 ∧ ∀ x ∈ rchS xs, Sand x
instance (xs : List Int) : Decidable (okR xs) := by unfold okR; infer_instance
def rchL (xs : List Int) : List (List Int) := if okR xs then srt (rchS xs) else []
theorem rchL_yes {xs : List Int} (h : okR xs) : rchL xs = srt (rchS xs) := by unfold rchL; rw [if_pos h]
theorem rchL_no {xs : List Int} (h : ¬ okR xs) : rchL xs = [] := by unfold rchL; rw [if_neg h]
theorem self_mem (xs : List Int) : xs ∈ rchS xs := mem_rsS.2 ⟨0, by omega, by simp [frS]⟩
theorem rchL_nil {xs : List Int} : rchL xs = [] ↔ ¬ okR xs := by
  constructor
  · intro h hok
    rw [rchL_yes hok] at h
    have := srt_mem.2 (self_mem xs)
    rw [h] at this
    cases this
  · exact rchL_no
/-- a level with a list that is no sand -/
theorem bad_level {xs c : List Int} {t : Nat} (hg : Grains xs) (hm : c ∈ frS xs t) (hs : sandB c = false) : ¬ okR xs := fun hok => by
  have ht : t ≤ 576 := by
    apply Classical.byContradiction
    intro hn
    rw [frS_far hg (by omega)] at hm
    cases hm
  exact (sand_no.1 hs) (hok.2 c (mem_rsS.2 ⟨t, by omega, hm⟩))
theorem long_level {xs : List Int} {t : Nat} (ht : t ≤ 600) (h : 400 < (rsS xs t).length) : ¬ okR xs := fun hok => by
  have := hok.1
  have h2 := rsS_mono xs ht
  unfold rchS at this
  omega
theorem good_end {xs : List Int} {t : Nat} (ht : t ≤ 600) (h0 : frS xs t = []) (hlen : (rsS xs t).length ≤ 400) (hall : ∀ x ∈ rsS xs t, Sand x) : rchL xs = srt (rsS xs t) := by
  have e := rchS_at h0 ht
  have hok : okR xs := by unfold okR; rw [e]; exact ⟨hlen, hall⟩
  rw [rchL_yes hok, e]
theorem good_ok {xs : List Int} {t : Nat} (ht : t ≤ 600) (h0 : frS xs t = []) (hlen : (rsS xs t).length ≤ 400) (hall : ∀ x ∈ rsS xs t, Sand x) : okR xs := by
  unfold okR; rw [rchS_at h0 ht]; exact ⟨hlen, hall⟩
theorem rchL_len (xs : List Int) : (rchL xs).length ≤ 400 := by
  by_cases h : okR xs
  · rw [rchL_yes h, srt_length]; exact h.1
  · rw [rchL_no h]; simp
theorem rchL_sand {xs x : List Int} (hx : x ∈ rchL xs) : Sand x := by
  by_cases h : okR xs
  · rw [rchL_yes h, srt_mem] at hx; exact h.2 x hx
  · rw [rchL_no h] at hx; cases hx
/-! ### A way of falls, part by part -/
theorem frS_add {xs y z : List Int} (s : Nat) : ∀ t, y ∈ frS xs s → z ∈ frS y t → z ∈ frS xs (s + t) := by
  intro t
  induction t generalizing z with
  | zero => intro h1 h2; have : z = y := by simpa [frS] using h2
            subst this; exact h1
  | succ t ih =>
    intro h1 h2
    obtain ⟨u, hu, hb⟩ := mem_frS_succ.1 h2
    exact mem_frS_succ.2 ⟨u, ih h1 hu, hb⟩
theorem rch_trans {xs y z : List Int} (hg : Grains xs) (h1 : y ∈ rchS xs) (h2 : z ∈ rchS y) : z ∈ rchS xs := by
  obtain ⟨s, _, hs⟩ := mem_rsS.1 h1
  obtain ⟨t, _, ht⟩ := mem_rsS.1 h2
  have hm := frS_add s t hs ht
  refine mem_rsS.2 ⟨s + t, ?_, hm⟩
  apply Classical.byContradiction
  intro hn
  rw [frS_far hg (by omega)] at hm
  cases hm
theorem rch_grains {xs x : List Int} (hg : Grains xs) (hx : x ∈ rchS xs) : Grains x := by
  obtain ⟨t, _, ht⟩ := mem_rsS.1 hx
  exact (frS_good hg t ht).1
theorem ok_sub {xs y : List Int} (hg : Grains xs) (hok : okR xs) (hy : y ∈ rchS xs) : okR y := by
  have hsub : ∀ x ∈ rchS y, x ∈ rchS xs := fun x hx => rch_trans hg hy hx
  refine ⟨?_, fun x hx => hok.2 x (hsub x hx)⟩
  have hn := rsS_nodup (rch_grains hg hy) 600
  have := List.Nodup.length_le_of_subset hn hsub
  exact Nat.le_trans this hok.1

/-! ### Sorted lists without those that come again at once -/
def keepI (l : List (List Int)) (j : Nat) : Bool := decide (j = 0) || decide (l.getD j [] ≠ l.getD (j - 1) [])
def compI (l : List (List Int)) (k : Nat) : List Nat := (List.range k).filter (keepI l)
def compX (l : List (List Int)) (k : Nat) : List (List Int) := (compI l k).map fun j => l.getD j []
theorem compI_succ (l : List (List Int)) (k : Nat) : compI l (k + 1) = compI l k ++ if keepI l k then [k] else [] := by
  unfold compI
  rw [List.range_succ, List.filter_append]
  cases h : keepI l k <;> simp [h]
theorem compX_sub (l : List (List Int)) : (compX l l.length).Sublist l := by
  have h1 : (compI l l.length).Sublist (List.range l.length) := List.filter_sublist
  have h2 := h1.map fun j => l.getD j []
  have e : (List.range l.length).map (fun j => l.getD j []) = l := by
    apply List.ext_getElem
    · simp
    · intro i h3 h4
      rw [List.getElem_map, List.getElem_range, List.getD_eq_getElem?_getD, List.getElem?_eq_getElem h4]; rfl
  rw [e] at h2
  exact h2
theorem srtd_at {l : List (List Int)} (h : srtd l) {i j : Nat} (hij : i < j) (hj : j < l.length) : befB (l.getD j []) (l.getD i []) = false := by
  have := List.pairwise_iff_getElem.1 h i j (by omega) hj hij
  rw [List.getD_eq_getElem?_getD, List.getElem?_eq_getElem hj, List.getD_eq_getElem?_getD, List.getElem?_eq_getElem (by omega)]
  exact this
theorem compX_nodup {l : List (List Int)} (h : srtd l) : (compX l l.length).Nodup := by
  unfold compX compI
  unfold List.Nodup
  rw [List.pairwise_map]
  have hp : ((List.range l.length).filter (keepI l)).Pairwise (· < ·) := List.Pairwise.filter _ List.pairwise_lt_range
  have hm : ∀ x ∈ (List.range l.length).filter (keepI l), x < l.length ∧ keepI l x = true := fun x hx => by
    obtain ⟨h1, h2⟩ := List.mem_filter.1 hx
    exact ⟨List.mem_range.1 h1, h2⟩
  refine (List.Pairwise.and_mem.1 hp).imp ?_
  rintro i j ⟨_, hj, hij⟩ e
  obtain ⟨hjl, hk⟩ := hm j hj
  unfold keepI at hk
  have hne : l.getD j [] ≠ l.getD (j - 1) [] := by
    have hj0 : j ≠ 0 := by omega
    simpa [hj0] using hk
  have h1 := srtd_at h (show j - 1 < j by omega) hjl
  rcases befB_total h1 with e1 | h2
  · exact hne e1
  · by_cases he : i = j - 1
    · subst he; exact hne e.symm
    · have h3 := srtd_at h (show i < j - 1 by omega) (by omega)
      rw [e] at h3
      rw [h2] at h3
      cases h3
theorem compX_mem {l : List (List Int)} {x : List Int} : x ∈ compX l l.length ↔ x ∈ l := by
  constructor
  · exact fun h => (compX_sub l).subset h
  · intro hx
    obtain ⟨i, hi, rfl⟩ := List.getElem_of_mem hx
    have key : ∀ i, i < l.length → l.getD i [] ∈ compX l l.length := by
      intro i
      induction i with
      | zero => intro hi; exact List.mem_map.2 ⟨0, List.mem_filter.2 ⟨List.mem_range.2 hi, by simp [keepI]⟩, rfl⟩
      | succ i ih =>
        intro hi
        cases hk : keepI l (i + 1)
        · have e : l.getD (i + 1) [] = l.getD i [] := by
            unfold keepI at hk
            simpa using hk
          rw [e]; exact ih (by omega)
        · exact List.mem_map.2 ⟨i + 1, List.mem_filter.2 ⟨List.mem_range.2 hi, hk⟩, rfl⟩
    have := key i hi
    rw [List.getD_eq_getElem?_getD, List.getElem?_eq_getElem hi] at this
    exact this
theorem same_perm {l m : List (List Int)} (hl : l.Nodup) (hm : m.Nodup) (h : ∀ x, x ∈ l ↔ x ∈ m) : l.Perm m := (List.perm_ext_iff_of_nodup hl hm).2 h
theorem compX_srt (l : List (List Int)) : compX (srt l) (srt l).length = srt (once l) :=
  srt_unique ((srt_srtd l).sublist (compX_sub _)) (same_perm (compX_nodup (srt_srtd l)) (once_nodup l) fun x => by rw [compX_mem, srt_mem, once_mem])
/-- a level, in order, out of the one before -/
def lvS (xs : List Int) (t : Nat) : List (List Int) := srt (frS xs t)
theorem lvS_succ (xs : List Int) (t : Nat) : srt (once ((lvS xs t).flatMap behL)) = lvS xs (t + 1) :=
  srt_of_perm (same_perm (once_nodup _) (frS_nodup xs (t + 1)) fun x => by
    rw [once_mem, List.mem_flatMap, mem_frS_succ]
    constructor
    · rintro ⟨y, hy, hb⟩; exact ⟨y, srt_mem.1 hy, hb⟩
    · rintro ⟨y, hy, hb⟩; exact ⟨y, srt_mem.2 hy, hb⟩)
theorem lvS_zero (xs : List Int) : lvS xs 0 = [xs] := rfl
theorem lvS_nil {xs : List Int} {t : Nat} : lvS xs t = [] ↔ frS xs t = [] := by
  unfold lvS
  constructor
  · intro h
    have := srt_length (frS xs t)
    rw [h] at this
    exact List.eq_nil_of_length_eq_zero this.symm
  · intro h; rw [h]; rfl
def lvsS (xs : List Int) (N : Nat) : List (List Int) := (List.range N).flatMap (lvS xs)
theorem lvsS_succ (xs : List Int) (N : Nat) : lvsS xs (N + 1) = lvsS xs N ++ lvS xs N := by unfold lvsS; rw [List.range_succ, List.flatMap_append]; simp
theorem lvsS_perm (xs : List Int) (N : Nat) : (lvsS xs N).Perm (rsS xs N) := by
  induction N with
  | zero => exact List.Perm.refl _
  | succ N ih => rw [lvsS_succ, rsS_succ]; exact ih.append (srt_perm _)
theorem lvsS_len (xs : List Int) (N : Nat) : (lvsS xs N).length = (rsS xs N).length := (lvsS_perm xs N).length_eq
theorem lvsS_srt (xs : List Int) (N : Nat) : srt (lvsS xs N) = srt (rsS xs N) := srt_of_perm (lvsS_perm xs N)
theorem lvS_mem {xs x : List Int} {t : Nat} : x ∈ lvS xs t ↔ x ∈ frS xs t := srt_mem
theorem flatMap_behL_len {L : List (List Int)} (h : ∀ x ∈ L, Grains x) : (L.flatMap behL).length ≤ 24 * L.length := by
  induction L with
  | nil => simp
  | cons x l ih =>
    have h1 := behL_length (h x (by simp))
    have h2 := ih (fun y hy => h y (by simp [hy]))
    rw [List.flatMap_cons, List.length_append, List.length_cons]
    omega
/-! ### What the functions come to -/
def mReachSand (xs : List Int) : List (List Int) × Bool := if sandB xs = true ∧ okR xs then (rchL xs, true) else ([], false)
theorem mReach_yes {xs : List Int} (h : sandB xs = true) (hok : okR xs) : mReachSand xs = (rchL xs, true) := by unfold mReachSand; rw [if_pos ⟨h, hok⟩]
theorem mReach_no1 {xs : List Int} (h : sandB xs = false) : mReachSand xs = ([], false) := by unfold mReachSand; rw [if_neg (by rw [h]; simp)]
theorem mReach_no2 {xs : List Int} (h : ¬ okR xs) : mReachSand xs = ([], false) := by unfold mReachSand; rw [if_neg (fun hh => h hh.2)]
set_option maxRecDepth 100000 in
theorem mReachSand_small (xs : List Int) : (mReachSand xs).1.length ≤ 400 ∧ ∀ x ∈ (mReachSand xs).1, x.length ≤ 28 := by
  unfold mReachSand
  split
  · exact ⟨rchL_len xs, fun x hx => (rchL_sand hx).good.len⟩
  · exact ⟨by simp, fun x hx => by cases hx⟩
def mCountReach (xs : List Int) : Int × Bool := (((mReachSand xs).1.length : Int), (mReachSand xs).2)
def canB (xs ys : List Int) : Bool := decide (ys ∈ rchL xs)
def mCanReach (xs ys : List Int) : Bool × Bool := if sandB xs = true ∧ sandB ys = true then (canB xs ys, decide (okR xs)) else (false, false)
def reaB (xs ys : List Int) : Bool := sandB xs && (sandB ys && canB xs ys)
end
end Go.Proofs.YtdfmljkjidepeaaGreatDoor
namespace Go.Proofs.YtdfmljkjidepeaaGreatDoor
section
set_option linter.unusedVariables false
set_option linter.unusedSimpArgs false

theorem canB_iff {xs ys : List Int} : canB xs ys = true ↔ okR xs ∧ ys ∈ rchS xs := by
  unfold canB
  rw [decide_eq_true_eq]
  constructor
  · intro h
    by_cases hok : okR xs
    · rw [rchL_yes hok, srt_mem] at h; exact ⟨hok, h⟩
    · rw [rchL_no hok] at h; cases h
  · rintro ⟨h1, h2⟩
    rw [rchL_yes h1, srt_mem]; exact h2
theorem reaB_iff {xs ys : List Int} : reaB xs ys = true ↔ Sand xs ∧ Sand ys ∧ okR xs ∧ ys ∈ rchS xs := by
  unfold reaB
  rw [Bool.and_eq_true, Bool.and_eq_true, sand_iff, sand_iff, canB_iff]
/-! ### First grains -/
theorem take_fall {xs : List Int} {i : Nat} (hi : i < xs.length) (k : Nat) : ((fallL xs i).take k).sum ≤ (xs.take k).sum := by
  by_cases he : i + 1 = xs.length
  · rw [fallL_end he]
    by_cases hk : k ≤ xs.length
    · rw [List.take_append_of_le_length (by simp; exact hk)]
      by_cases hik : i < k
      · rw [List.take_set, sum_set _ _ _ (by rw [List.length_take]; omega)]
        have e : (xs.take k).getD i 0 = xs.getD i 0 := by rw [List.getD_eq_getElem?_getD, List.getElem?_take, if_pos hik, ← List.getD_eq_getElem?_getD]
        rw [e]; omega
      · rw [List.take_set_of_le (by omega)]; exact Int.le_refl _
    · rw [List.take_of_length_le (l := xs.set i (xs.getD i 0 - 1) ++ [1]) (by simp; omega), List.take_of_length_le (l := xs) (by omega), List.sum_append, sum_set _ _ _ hi]
      simp
      omega
  · rw [fallL_in he]
    by_cases hik : i + 1 < k
    · rw [List.take_set, List.take_set, sum_set _ _ _ (by rw [List.length_set, List.length_take]; omega), sum_set _ _ _ (by rw [List.length_take]; omega), getD_set_neM _ _ _ _ _ (by omega)]
      have e : (xs.take k).getD i 0 = xs.getD i 0 := by rw [List.getD_eq_getElem?_getD, List.getElem?_take, if_pos (by omega), ← List.getD_eq_getElem?_getD]
      have e2 : (xs.take k).getD (i + 1) 0 = xs.getD (i + 1) 0 := by rw [List.getD_eq_getElem?_getD, List.getElem?_take, if_pos (by omega), ← List.getD_eq_getElem?_getD]
      rw [e, e2]; omega
    · rw [List.take_set_of_le (by omega)]
      by_cases hik2 : i < k
      · rw [List.take_set, sum_set _ _ _ (by rw [List.length_take]; omega)]
        have e : (xs.take k).getD i 0 = xs.getD i 0 := by rw [List.getD_eq_getElem?_getD, List.getElem?_take, if_pos (by omega), ← List.getD_eq_getElem?_getD]
        rw [e]; omega
      · rw [List.take_set_of_le (by omega)]; exact Int.le_refl _
theorem fr_less {xs : List Int} (hg : Grains xs) : ∀ (t : Nat) {y : List Int}, y ∈ frS xs t → ∀ k, (y.take k).sum ≤ (xs.take k).sum := by
  intro t
  induction t with
  | zero =>
    intro y hy k
    have : y = xs := by simpa [frS] using hy
    subst this; exact Int.le_refl _
  | succ t ih =>
    intro y hy k
    obtain ⟨x, hx, hb⟩ := mem_frS_succ.1 hy
    obtain ⟨i, h1, _, rfl⟩ := mem_behL.1 hb
    have h2 := take_fall h1 k
    have h3 := ih hx k
    omega
theorem rch_less {xs y : List Int} (hg : Grains xs) (hy : y ∈ rchS xs) (k : Nat) : (y.take k).sum ≤ (xs.take k).sum := by
  obtain ⟨t, _, ht⟩ := mem_rsS.1 hy
  exact fr_less hg t ht k
def diffI (xs ys : List Int) (k : Nat) : Int := (xs.take k).sum - (ys.take k).sum
def vecT (xs ys : List Int) (n : Nat) : List Int := (List.range n).map fun i => diffI xs ys (i + 1)
theorem vecT_succ (xs ys : List Int) (n : Nat) : vecT xs ys (n + 1) = vecT xs ys n ++ [diffI xs ys (n + 1)] := by unfold vecT; rw [List.range_succ, List.map_append]; rfl
theorem vecT_length (xs ys : List Int) (n : Nat) : (vecT xs ys n).length = n := by simp [vecT]
theorem vecT_getD (xs ys : List Int) {n i : Nat} (h : i < n) : (vecT xs ys n).getD i 0 = diffI xs ys (i + 1) := by
  unfold vecT
  rw [List.getD_eq_getElem?_getD, List.getElem?_map, List.getElem?_range h]; rfl
theorem take_grow {xs : List Int} {k : Nat} : (xs.take (k + 1)).sum = (xs.take k).sum + xs.getD k 0 := by
  by_cases hk : k < xs.length
  · rw [List.take_add_one, List.getElem?_eq_getElem hk, List.sum_append, List.getD_eq_getElem?_getD, List.getElem?_eq_getElem hk]; simp
  · rw [List.take_of_length_le (by omega), List.take_of_length_le (by omega), getD_past (by omega)]; omega
theorem diffI_succ (xs ys : List Int) (k : Nat) : diffI xs ys (k + 1) = diffI xs ys k - ys.getD k 0 + xs.getD k 0 := by
  unfold diffI; rw [take_grow, take_grow]; omega
def trimN (v : List Int) : Nat → Nat
  | 0 => 0
  | k + 1 => if v.getD k 0 = 0 then trimN v k else k + 1
def lastN (v : List Int) : Nat → Nat
  | 0 => 0
  | k + 1 => if 0 < v.getD k 0 then k + 1 else lastN v k
theorem trimN_le (v : List Int) (k : Nat) : trimN v k ≤ k := by
  induction k with
  | zero => exact Nat.le_refl _
  | succ k ih => unfold trimN; split <;> omega
theorem last_trim {v : List Int} (h : ∀ i, 0 ≤ v.getD i 0) (k : Nat) : lastN v k = trimN v k := by
  induction k with
  | zero => rfl
  | succ k ih =>
    have := h k
    unfold lastN trimN
    by_cases hz : v.getD k 0 = 0
    · rw [if_pos hz, if_neg (by omega)]; exact ih
    · rw [if_neg hz, if_pos (by omega)]
def vecL (xs ys : List Int) : List Int := (vecT xs ys ys.length).take (trimN (vecT xs ys ys.length) ys.length)
theorem vec_nonneg {xs ys : List Int} (hg : Grains xs) (hy : ys ∈ rchS xs) (i : Nat) : 0 ≤ (vecT xs ys ys.length).getD i 0 := by
  by_cases hi : i < ys.length
  · rw [vecT_getD _ _ hi]
    unfold diffI
    have := rch_less hg hy (i + 1)
    omega
  · rw [getD_past (by rw [vecT_length]; omega)]; exact Int.le_refl _
theorem diff_bound {xs ys : List Int} (hx : Grains xs) (hy : Grains ys) (k : Nat) : -24 ≤ diffI xs ys k ∧ diffI xs ys k ≤ 24 := by
  have h : ∀ {zs : List Int}, Grains zs → 0 ≤ (zs.take k).sum ∧ (zs.take k).sum ≤ 24 := fun {zs} hz => by
    have h1 := sum_nonneg (hz.good.take k).1
    have h2 : zs.sum = (zs.take k).sum + (zs.drop k).sum := by rw [← List.sum_append, List.take_append_drop]
    have h3 := sum_nonneg (fun x hx => hz.good.1 x (List.mem_of_mem_drop hx) : ∀ x ∈ zs.drop k, 1 ≤ x)
    have := hz.2
    omega
  have h1 := h hx
  have h2 := h hy
  unfold diffI
  omega
def mFallsBetween (xs ys : List Int) : Int × Bool := if reaB xs ys = true then (wt 0 ys - wt 0 xs, true) else (0, false)
theorem mFB_yes {xs ys : List Int} (h : reaB xs ys = true) : mFallsBetween xs ys = (wt 0 ys - wt 0 xs, true) := by unfold mFallsBetween; rw [if_pos h]
theorem mFB_no {xs ys : List Int} (h : reaB xs ys = false) : mFallsBetween xs ys = (0, false) := by unfold mFallsBetween; rw [if_neg (by rw [h]; simp)]
def mFallVector (xs ys : List Int) : List Int × Bool := if reaB xs ys = true then (vecL xs ys, true) else ([], false)
theorem mFV_yes {xs ys : List Int} (h : reaB xs ys = true) : mFallVector xs ys = (vecL xs ys, true) := by unfold mFallVector; rw [if_pos h]
theorem mFV_no {xs ys : List Int} (h : reaB xs ys = false) : mFallVector xs ys = ([], false) := by unfold mFallVector; rw [if_neg (by rw [h]; simp)]
theorem mFallVector_bound (xs ys : List Int) : (mFallVector xs ys).1.length ≤ 1048576 := by
  cases h : reaB xs ys
  · rw [mFV_no h]; simp
  · rw [mFV_yes h]
    have h1 := (reaB_iff.1 h).2.1.1
    have h2 : (vecL xs ys).length ≤ ys.length := by
      unfold vecL
      rw [List.length_take, vecT_length]; omega
    exact Nat.le_trans h2 (by omega)

/-! ### The lowest sand -/
def lastBy (p : List Int → Bool) (L : List (List Int)) : List Int := L.foldl (fun l c => if p c then c else l) []
theorem lastBy_snoc (p : List Int → Bool) (L : List (List Int)) (c : List Int) : lastBy p (L ++ [c]) = if p c then c else lastBy p L := by unfold lastBy; rw [List.foldl_append]; rfl
theorem lastBy_app (p : List Int → Bool) (L M : List (List Int)) (h : ∀ x ∈ M, p x = false) : lastBy p (L ++ M) = lastBy p L := by
  induction M using snoc_ind with
  | h0 => rw [List.append_nil]
  | h1 M c ih =>
    rw [← List.append_assoc, lastBy_snoc, h c (by simp)]
    exact ih (fun x hx => h x (by simp [hx]))
theorem lastBy_at {p : List Int → Bool} {L : List (List Int)} {i : Nat} (hi : i < L.length) (hp : p (L.getD i []) = true) (h : ∀ x ∈ L.drop (i + 1), p x = false) : lastBy p L = L.getD i [] := by
  have e : L = L.take (i + 1) ++ L.drop (i + 1) := (List.take_append_drop _ _).symm
  have h1 := lastBy_app p (L.take (i + 1)) (L.drop (i + 1)) h
  rw [← e] at h1
  have e2 : L.take (i + 1) = L.take i ++ [L.getD i []] := by
    rw [List.take_add_one, List.getElem?_eq_getElem hi, List.getD_eq_getElem?_getD, List.getElem?_eq_getElem hi]; rfl
  rw [h1, e2, lastBy_snoc, hp]; rfl
def bothB (xs ys c : List Int) : Bool := canB c xs && canB c ys
def lowOk (xs ys : List Int) : Prop := Sand xs ∧ Sand ys ∧ xs.sum = ys.sum ∧ xs.sum ≤ 15 ∧ xs ≠ [] ∧ bothB xs ys [xs.sum] = true
instance (xs ys : List Int) : Decidable (lowOk xs ys) := by unfold lowOk; infer_instance
def lowestL (xs ys : List Int) : List Int := lastBy (bothB xs ys) (rchL [xs.sum])
def mLowestOf (xs ys : List Int) : List Int × Bool := if lowOk xs ys then (lowestL xs ys, true) else ([], false)
theorem mLow_yes {xs ys : List Int} (h : lowOk xs ys) : mLowestOf xs ys = (lowestL xs ys, true) := by unfold mLowestOf; rw [if_pos h]
theorem mLow_no {xs ys : List Int} (h : ¬ lowOk xs ys) : mLowestOf xs ys = ([], false) := by unfold mLowestOf; rw [if_neg h]
theorem one_sand {n : Int} (h1 : 1 ≤ n) (h2 : n ≤ 15) : Sand [n] := ⟨by simp, ⟨fun x hx => by rw [List.mem_singleton.1 hx]; exact h1, by simp, by simp; omega⟩, by simp; omega⟩
theorem sum_pos {xs : List Int} (h : Good xs) (hne : xs ≠ []) : 1 ≤ xs.sum := by
  have h1 := sum_nonneg h.1
  have h2 : 0 < xs.length := List.length_pos_iff.2 hne
  omega
/-- one that reaches both is reached by the single column, if that one reaches it -/
theorem both_up {n : Int} {xs ys c : List Int} (hn : Sand [n]) (hc : c ∈ rchL [n]) (h : bothB xs ys c = true) : bothB xs ys [n] = true := by
  have hok : okR [n] := by
    by_cases hok : okR [n]
    · exact hok
    · rw [rchL_no hok] at hc; cases hc
  have hc2 : c ∈ rchS [n] := by rw [rchL_yes hok, srt_mem] at hc; exact hc
  unfold bothB at *
  rw [Bool.and_eq_true, canB_iff, canB_iff] at *
  exact ⟨⟨hok, rch_trans hn.grains hc2 h.1.2⟩, ⟨hok, rch_trans hn.grains hc2 h.2.2⟩⟩
theorem both_self {n : Int} {xs ys : List Int} (h : bothB xs ys [n] = true) : [n] ∈ rchL [n] := by
  unfold bothB at h
  rw [Bool.and_eq_true, canB_iff] at h
  rw [rchL_yes h.1.1, srt_mem]; exact self_mem _
theorem lowestL_len (xs ys : List Int) : (lowestL xs ys).length ≤ 12 := by
  unfold lowestL
  have : ∀ L : List (List Int), (∀ x ∈ L, x.length ≤ 12) → (lastBy (bothB xs ys) L).length ≤ 12 := by
    intro L
    induction L using snoc_ind with
    | h0 => intro _; simp [lastBy]
    | h1 L c ih =>
      intro h
      rw [lastBy_snoc]
      split
      · exact h c (by simp)
      · exact ih (fun x hx => h x (by simp [hx]))
  exact this _ fun x hx => (rchL_sand hx).1
set_option maxRecDepth 100000 in
theorem mLowestOf_bound (xs ys : List Int) : (mLowestOf xs ys).1.length ≤ 1048576 := by
  unfold mLowestOf
  split
  · exact Nat.le_trans (lowestL_len xs ys) (by omega)
  · simp
theorem mReachSand_small2 (xs : List Int) : (mReachSand xs).1.length ≤ 1048576 ∧ ((mReachSand xs).1.map List.length).sum ≤ 1048576 := by
  obtain ⟨h1, h2⟩ := mReachSand_small xs
  refine ⟨by omega, ?_⟩
  generalize (mReachSand xs).1 = L at *
  have : ∀ L : List (List Int), (∀ x ∈ L, x.length ≤ 28) → (L.map List.length).sum ≤ 28 * L.length := by
    intro L
    induction L with
    | nil => intro _; simp
    | cons a l ih =>
      intro h
      have h3 := h a (by simp)
      have h4 := ih (fun x hx => h x (by simp [hx]))
      simp only [List.map_cons, List.sum_cons, List.length_cons]
      omega
  have := this L h2
  omega
end
end Go.Proofs.YtdfmljkjidepeaaGreatDoor
namespace Go.Proofs.YtdfmljkjidepeaaGreatDoor
section
set_option linter.unusedVariables false
set_option linter.unusedSimpArgs false

theorem steep_iff {xs : List Int} {i : Nat} : steepB xs i = true ↔ xs.getD (i + 1) 0 + 2 ≤ xs.getD i 0 := by unfold steepB; simp
theorem ext_getDI {l m : List Int} (h1 : l.length = m.length) (h2 : ∀ j, l.getD j 0 = m.getD j 0) : l = m := by
  apply List.ext_getElem h1
  intro j hj hk
  have := h2 j
  rw [List.getD_eq_getElem?_getD, List.getD_eq_getElem?_getD, List.getElem?_eq_getElem hj, List.getElem?_eq_getElem hk] at this
  exact this
/-- two falls can be taken in either order -/
theorem fall_comm {xs : List Int} {i k : Nat} (hik : i ≠ k) (hi : i < xs.length) (hk : k < xs.length) (si : steepB xs i = true) (sk : steepB xs k = true) :
    k < (fallL xs i).length ∧ steepB (fallL xs i) k = true ∧ fallL (fallL xs i) k = fallL (fallL xs k) i := by
  have li := fallL_length hi
  have lk := fallL_length hk
  have hki : k < (fallL xs i).length := by rw [li]; split <;> omega
  have hik2 : i < (fallL xs k).length := by rw [lk]; split <;> omega
  have gi := fallL_getD hi
  have gk := fallL_getD hk
  rw [steep_iff] at si sk
  refine ⟨hki, ?_, ?_⟩
  · rw [steep_iff, gi, gi]
    by_cases e1 : k + 1 = i
    · subst e1
      rw [if_pos rfl, if_neg (by omega), if_neg (by omega)]; omega
    · rw [if_neg e1]
      by_cases e2 : k = i + 1
      · subst e2
        rw [if_neg (by omega), if_neg (by omega), if_pos rfl]; omega
      · rw [if_neg (by omega), if_neg (by omega), if_neg e2]; exact sk
  · apply ext_getDI
    · rw [fallL_length hki, fallL_length hik2, li, lk]
      by_cases e1 : i + 1 = xs.length <;> by_cases e2 : k + 1 = xs.length <;> simp [e1, e2] <;> omega
    · intro j
      rw [fallL_getD hki, fallL_getD hik2, gi, gi, gi, gk, gk, gk]
      by_cases e1 : j = i
      · subst e1
        by_cases e2 : j = k + 1
        · subst e2; simp <;> omega
        · simp [hik, e2] <;> split <;> omega
      · by_cases e2 : j = k
        · subst e2
          by_cases e3 : j = i + 1
          · subst e3; simp <;> omega
          · simp [e1, e3] <;> split <;> omega
        · by_cases e3 : j = i + 1
          · subst e3
            by_cases e4 : i + 1 = k + 1
            · omega
            · simp [e2, e4] <;> split <;> omega
          · simp [e1, e2, e3]
            split
            · subst_vars; simp; split <;> omega
            · rfl
/-- so many falls lead from one to the other -/
inductive FallTo : Nat → List Int → List Int → Prop
  | refl (xs : List Int) : FallTo 0 xs xs
  | step {n : Nat} {xs ys : List Int} (i : Nat) (h1 : i < xs.length) (h2 : steepB xs i = true) (h : FallTo n (fallL xs i) ys) : FallTo (n + 1) xs ys
theorem FallTo.snoc {n : Nat} {xs ys : List Int} (h : FallTo n xs ys) {i : Nat} (h1 : i < ys.length) (h2 : steepB ys i = true) : FallTo (n + 1) xs (fallL ys i) := by
  induction h with
  | refl xs => exact .step i h1 h2 (.refl _)
  | step k k1 k2 _ ih => exact .step k k1 k2 (ih h1 h2)
theorem FallTo.last : ∀ {n : Nat} {xs ys : List Int}, FallTo (n + 1) xs ys → ∃ x i, FallTo n xs x ∧ i < x.length ∧ steepB x i = true ∧ ys = fallL x i := by
  intro n
  induction n with
  | zero =>
    intro xs ys h
    cases h with
    | step i h1 h2 h => cases h; exact ⟨xs, i, .refl _, h1, h2, rfl⟩
  | succ n ih =>
    intro xs ys h
    cases h with
    | step i h1 h2 h =>
      obtain ⟨x, k, k1, k2, k3, k4⟩ := ih h
      exact ⟨x, k, .step i h1 h2 k1, k2, k3, k4⟩
def still (z : List Int) : Prop := ∀ i, i < z.length → steepB z i = false
theorem still_iff {z : List Int} : still z ↔ fallsL z = [] := by
  constructor
  · intro h
    cases hf : fallsL z with
    | nil => rfl
    | cons x l =>
      obtain ⟨i, _, h1, h2⟩ := mem_fallsL.1 (show x ∈ fallsL z by rw [hf]; simp)
      rw [h i h1] at h2; cases h2
  · intro h i hi
    cases hs : steepB z i with
    | false => rfl
    | true =>
      have : ((i : Nat) : Int) ∈ fallsL z := mem_fallsL.2 ⟨i, rfl, hi, hs⟩
      rw [h] at this; cases this
theorem conf : ∀ (n : Nat) {xs z : List Int}, FallTo n xs z → still z → ∀ i, i < xs.length → steepB xs i = true → ∃ m, n = m + 1 ∧ FallTo m (fallL xs i) z := by
  intro n
  induction n with
  | zero =>
    intro xs z h hz i h1 h2
    cases h
    rw [hz i h1] at h2; cases h2
  | succ n ih =>
    intro xs z h hz i h1 h2
    cases h with
    | step k k1 k2 hk =>
      by_cases e : i = k
      · subst e; exact ⟨n, rfl, hk⟩
      · obtain ⟨c1, c2, c3⟩ := fall_comm (Ne.symm e) k1 h1 k2 h2
        obtain ⟨d1, d2, _⟩ := fall_comm e h1 k1 h2 k2
        obtain ⟨m, rfl, hm⟩ := ih hk hz i c1 c2
        exact ⟨m + 1, rfl, .step k d1 d2 (by rw [← c3]; exact hm)⟩
theorem end_unique : ∀ (m : Nat) {n : Nat} {xs z y : List Int}, FallTo n xs z → still z → FallTo m xs y → ∃ d, FallTo d y z ∧ n = m + d := by
  intro m
  induction m with
  | zero => intro n xs z y h hz hy; cases hy; exact ⟨n, h, by omega⟩
  | succ m ih =>
    intro n xs z y h hz hy
    cases hy with
    | step k k1 k2 hk =>
      obtain ⟨q, rfl, hq⟩ := conf n h hz k k1 k2
      obtain ⟨d, h1, h2⟩ := ih hq hz hk
      exact ⟨d, h1, by omega⟩
theorem FallTo.grains {n : Nat} {xs ys : List Int} (h : FallTo n xs ys) (hg : Grains xs) : Grains ys ∧ ys.sum = xs.sum ∧ wt 0 ys = wt 0 xs + n := by
  induction h with
  | refl xs => exact ⟨hg, rfl, by simp⟩
  | step k k1 k2 _ ih =>
    obtain ⟨a, b, c⟩ := ih (fall_grains hg k1 k2)
    exact ⟨a, by rw [b, fall_sum k1], by rw [c, fall_wt k1]; push_cast; omega⟩
theorem step_to {xs : List Int} : ∀ t, (∀ u, u < t → firstN (stepsS xs u) ≠ none) → FallTo t xs (stepsS xs t)
  | 0, _ => .refl _
  | t + 1, h => by
    have ih := step_to t (fun u hu => h u (by omega))
    obtain ⟨i, hi⟩ := Option.ne_none_iff_exists'.1 (h t (by omega))
    cases hf : fallsL (stepsS xs t) with
    | nil => rw [firstN_nil.2 hf] at hi; cases hi
    | cons x l =>
      obtain ⟨i', _, e1, e2, e3⟩ := firstN_cons hf
      rw [(step_fall e1).1]
      exact ih.snoc e2 e3
theorem settle_to {xs : List Int} (hg : Grains xs) : ∃ t, FallTo t xs (settleL xs) ∧ still (settleL xs) := by
  obtain ⟨t, h1, h2⟩ := settle_ex hg
  obtain ⟨e1, _⟩ := settle_at hg h1 h2
  have hs := step_to t h1
  have hz := still_iff.2 (firstN_nil.1 h2)
  generalize stepsS xs t = z at e1 hs hz
  generalize settleL xs = y at e1 ⊢
  subst e1
  exact ⟨t, hs, hz⟩
theorem settle_same {n : Nat} {xs ys : List Int} (h : FallTo n xs ys) (hg : Grains xs) : settleL ys = settleL xs := by
  obtain ⟨t, h1, h2⟩ := settle_to hg
  obtain ⟨u, h3, h4⟩ := settle_to (h.grains hg).1
  obtain ⟨d, h5, _⟩ := end_unique n h1 h2 h
  obtain ⟨e, h6, h7⟩ := end_unique u h5 h2 h3
  clear h1 h2 h3 h5
  generalize settleL xs = a at h6 ⊢
  generalize settleL ys = b at h4 h6 ⊢
  cases h6 with
  | refl => rfl
  | step k k1 k2 _ => rw [h4 k k1] at k2; cases k2
/-! ### How many falls at each place -/
theorem take_fall_eq {xs : List Int} {i : Nat} (hi : i < xs.length) : ∀ k, ((fallL xs i).take k).sum = (xs.take k).sum - if k = i + 1 then 1 else 0
  | 0 => by simp
  | k + 1 => by
    rw [take_grow, take_grow, take_fall_eq hi k, fallL_getD hi]
    by_cases e1 : k = i
    · subst e1; simp; omega
    · by_cases e2 : k = i + 1
      · subst e2; simp; omega
      · simp [e1, e2]
theorem bump_getD (t : List Int) (k d : Nat) : (bump t k).getD d 0 = t.getD d 0 + if d = k then 1 else 0 := by
  unfold bump
  by_cases h : d = k
  · subst h
    rw [getD_set_eqM _ _ _ _ (by simp; omega), getD_pad, if_pos rfl]
  · rw [getD_set_neM _ _ _ _ _ (by omega), getD_pad, if_neg h]; omega
theorem zeros_sum (m : Nat) : (List.replicate m (0 : Int)).sum = 0 := by
  induction m with
  | zero => rfl
  | succ m ih => rw [List.replicate_succ, List.sum_cons, ih]; rfl
theorem bump_sum (t : List Int) (k : Nat) : (bump t k).sum = t.sum + 1 := by
  unfold bump
  rw [sum_set _ _ _ (by simp; omega), List.sum_append, zeros_sum]; omega
theorem cnt_eq {xs : List Int} : ∀ t, (∀ u, u < t → firstN (stepsS xs u) ≠ none) → (∀ i, (cntS xs t).getD i 0 = (xs.take (i + 1)).sum - ((stepsS xs t).take (i + 1)).sum) ∧ (cntS xs t).sum = t
  | 0, _ => ⟨fun i => by show ([] : List Int).getD i 0 = _; simp [stepsS], rfl⟩
  | t + 1, h => by
    obtain ⟨h1, h2⟩ := cnt_eq t (fun u hu => h u (by omega))
    obtain ⟨i, hi⟩ := Option.ne_none_iff_exists'.1 (h t (by omega))
    cases hf : fallsL (stepsS xs t) with
    | nil => rw [firstN_nil.2 hf] at hi; cases hi
    | cons x l =>
      obtain ⟨i', _, e1, e2, e3⟩ := firstN_cons hf
      obtain ⟨q1, q2⟩ := step_fall e1
      rw [q1, q2]
      refine ⟨fun j => ?_, by rw [bump_sum, h2]; push_cast; rfl⟩
      rw [bump_getD, take_fall_eq e2, h1]
      by_cases e : j = i'
      · subst e; simp; omega
      · have : ¬ j + 1 = i' + 1 := by omega
        simp [e, this]
theorem counts_at {xs : List Int} (hg : Grains xs) : (∀ i, (countsL xs).getD i 0 = (xs.take (i + 1)).sum - ((settleL xs).take (i + 1)).sum) ∧ (countsL xs).sum = wt 0 (settleL xs) - wt 0 xs ∧ ∀ i : Nat, 0 ≤ (countsL xs).getD i 0 ∧ (countsL xs).getD i 0 ≤ 576 := by
  obtain ⟨t, h1, h2⟩ := settle_ex hg
  obtain ⟨e1, e2⟩ := settle_at hg h1 h2
  obtain ⟨c1, c2⟩ := cnt_eq t h1
  obtain ⟨_, g2, _, g4⟩ := steps_go hg h1
  have ht := steps_few hg h1
  generalize stepsS xs t = z at e1 c1 g2
  generalize settleL xs = y at e1 ⊢
  generalize cntS xs t = v at e2 c1 c2 g4
  generalize countsL xs = u at e2 ⊢
  subst e1 e2
  exact ⟨c1, by rw [c2, g2]; omega, fun i => by have := g4 i; omega⟩
theorem mem_bd {l : List Int} {a b : Int} (h : ∀ i : Nat, a ≤ l.getD i 0 ∧ l.getD i 0 ≤ b) : ∀ x ∈ l, a ≤ x ∧ x ≤ b := fun x hx => by
  obtain ⟨i, hi, rfl⟩ := List.mem_iff_getElem.1 hx
  have := h i
  rwa [List.getD_eq_getElem?_getD, List.getElem?_eq_getElem hi, Option.getD_some] at this
theorem fall1_to {xs ys : List Int} {i : Int} (h : fall1 xs i = some ys) : ∃ k : Nat, i = (k : Int) ∧ k < xs.length ∧ steepB xs k = true ∧ ys = fallL xs k := by
  unfold fall1 at h
  split at h
  · next hc =>
    cases h
    exact ⟨i.toNat, by omega, by omega, hc.2.2, rfl⟩
  · cases h
theorem playF_to {xs : List Int} {fs : List Int} : ∀ {ys : List Int}, playF xs fs = some ys → FallTo fs.length xs ys ∧ ∀ i : Nat, (xs.take (i + 1)).sum - (ys.take (i + 1)).sum = (fs.count (i : Int) : Nat) := by
  induction fs using snoc_ind with
  | h0 => intro ys h; cases h; exact ⟨.refl _, fun i => by simp⟩
  | h1 l x ih =>
    intro ys h
    rw [playF_snoc] at h
    cases hp : playF xs l with
    | none => rw [hp] at h; cases h
    | some zs =>
      rw [hp] at h
      obtain ⟨k, rfl, k1, k2, rfl⟩ := fall1_to h
      obtain ⟨i1, i2⟩ := ih hp
      rw [List.length_append, List.length_singleton]
      refine ⟨i1.snoc k1 k2, fun i => ?_⟩
      have := i2 i
      rw [take_fall_eq k1, List.count_append, List.count_singleton]
      by_cases e : i = k
      · subst e; simp; omega
      · have e2 : ¬ i + 1 = k + 1 := by omega
        have e3 : ¬ ((k : Int) = (i : Int)) := by omega
        simp [e2, e3]; omega
/-- the counts of both ends of a play -/
theorem play_counts {xs fs ys : List Int} (hg : Grains xs) (h : playF xs fs = some ys) : settleL ys = settleL xs ∧ (∀ i : Nat, (countsL xs).getD i 0 = ((fs.count (i : Int) : Nat) : Int) + (countsL ys).getD i 0) ∧ (countsL xs).sum = (countsL ys).sum + fs.length := by
  obtain ⟨h1, h2⟩ := playF_to h
  obtain ⟨g1, g2, g3⟩ := h1.grains hg
  have hs := settle_same h1 hg
  obtain ⟨a1, a2, _⟩ := counts_at hg
  obtain ⟨b1, b2, _⟩ := counts_at g1
  generalize settleL xs = z at hs a1 a2 ⊢
  generalize settleL ys = z' at hs b1 b2 ⊢
  generalize countsL xs = u at a1 a2 ⊢
  generalize countsL ys = v at b1 b2 ⊢
  refine ⟨hs, fun i => ?_, ?_⟩
  · have := h2 i
    rw [a1, b1, hs]; omega
  · rw [a2, b2, hs, g3]; omega
/-! ### Order of what is reached -/
theorem befB_at : ∀ (i : Nat) {xs ys : List Int}, (∀ j, j < i → xs.getD j 0 = ys.getD j 0) → i < xs.length → i < ys.length → ys.getD i 0 < xs.getD i 0 → befB xs ys = true
  | 0, a :: l, b :: m, _, _, _, h => by
    simp only [List.getD_cons_zero] at h
    simp only [befB]
    rw [if_neg (by omega)]; simpa using h
  | i + 1, a :: l, b :: m, h0, h1, h2, h => by
    have e := h0 0 (by omega)
    simp only [List.getD_cons_zero] at e
    simp only [befB]
    rw [if_pos e]
    simp only [List.length_cons] at h1 h2
    exact befB_at i (fun j hj => by simpa using h0 (j + 1) (by omega)) (by omega) (by omega) (by simpa using h)
  | _, [], _, _, h, _, _ => by simp at h
  | _, _ :: _, [], _, _, h, _ => by simp at h
theorem fall_before {xs : List Int} {i : Nat} (hi : i < xs.length) : befB xs (fallL xs i) = true := by
  have hl := fallL_length hi
  refine befB_at i (fun j hj => ?_) hi (by rw [hl]; split <;> omega) ?_
  · rw [fallL_getD hi, if_neg (by omega), if_neg (by omega)]
  · rw [fallL_getD hi, if_pos rfl]; omega
theorem FallTo.before {n : Nat} {xs ys : List Int} (h : FallTo n xs ys) : xs = ys ∨ befB xs ys = true := by
  induction h with
  | refl xs => exact .inl rfl
  | step k k1 k2 _ ih =>
    rcases ih with e | e
    · rw [← e]; exact .inr (fall_before k1)
    · exact .inr (bef_trans (fall_before k1) e)
theorem fr_to {xs : List Int} : ∀ (t : Nat) {y : List Int}, y ∈ frS xs t ↔ FallTo t xs y
  | 0, y => by
    constructor
    · intro h
      simp [frS] at h
      subst h; exact .refl _
    · intro h; cases h; simp [frS]
  | t + 1, y => by
    rw [mem_frS_succ]
    constructor
    · rintro ⟨x, hx, hy⟩
      obtain ⟨i, h1, h2, rfl⟩ := mem_behL.1 hy
      exact ((fr_to t).1 hx).snoc h1 h2
    · intro h
      obtain ⟨x, i, hx, h1, h2, rfl⟩ := FallTo.last h
      exact ⟨x, (fr_to t).2 hx, mem_behL.2 ⟨i, h1, h2, rfl⟩⟩
theorem rch_to {xs y : List Int} (hg : Grains xs) : y ∈ rchS xs ↔ ∃ n, FallTo n xs y := by
  unfold rchS
  rw [mem_rsS]
  constructor
  · rintro ⟨t, _, h⟩; exact ⟨t, (fr_to t).1 h⟩
  · rintro ⟨n, h⟩
    refine ⟨n, ?_, (fr_to n).2 h⟩
    obtain ⟨g, _, e⟩ := h.grains hg
    have h1 := g.wt
    have h2 := hg.wt
    omega
/-! ### The list of all that is reached -/
theorem srt_first {l : List (List Int)} {x : List Int} (hx : x ∈ l) (h : ∀ y ∈ l, x = y ∨ befB x y = true) : (srt l).getD 0 [] = x := by
  obtain ⟨j, hj, e⟩ := List.mem_iff_getElem.1 (srt_mem.2 hx)
  have h0 : 0 < (srt l).length := by omega
  have hm : (srt l).getD 0 [] ∈ l := srt_mem.1 (by rw [List.getD_eq_getElem?_getD, List.getElem?_eq_getElem h0]; exact List.getElem_mem h0)
  rcases h _ hm with e1 | e1
  · exact e1.symm
  · by_cases hj0 : j = 0
    · subst hj0; rw [List.getD_eq_getElem?_getD, List.getElem?_eq_getElem h0]; exact e
    · have := srtd_at (srt_srtd l) (i := 0) (j := j) (by omega) hj
      rw [show (srt l).getD j [] = x by rw [List.getD_eq_getElem?_getD, List.getElem?_eq_getElem hj]; exact e, e1] at this
      cases this
theorem srt_last {l : List (List Int)} {x : List Int} (hx : x ∈ l) (h : ∀ y ∈ l, y = x ∨ befB y x = true) : (srt l).getD ((srt l).length - 1) [] = x := by
  obtain ⟨j, hj, e⟩ := List.mem_iff_getElem.1 (srt_mem.2 hx)
  have hL : (srt l).length - 1 < (srt l).length := by omega
  have hm : (srt l).getD ((srt l).length - 1) [] ∈ l := srt_mem.1 (by rw [List.getD_eq_getElem?_getD, List.getElem?_eq_getElem hL]; exact List.getElem_mem hL)
  rcases h _ hm with e1 | e1
  · exact e1
  · by_cases hj0 : j = (srt l).length - 1
    · subst hj0; rw [List.getD_eq_getElem?_getD, List.getElem?_eq_getElem hL]; exact e
    · have := srtd_at (srt_srtd l) (i := j) (j := (srt l).length - 1) (by omega) hL
      rw [show (srt l).getD j [] = x by rw [List.getD_eq_getElem?_getD, List.getElem?_eq_getElem hj]; exact e, e1] at this
      cases this
theorem srt_strict {l : List (List Int)} (hn : l.Nodup) : (srt l).Pairwise fun a b => befB a b = true := by
  have h1 := srt_srtd l
  have h2 : (srt l).Nodup := (srt_perm l).nodup_iff.2 hn
  unfold srtd at h1
  refine (h1.and h2).imp fun {a b} ⟨p, q⟩ => ?_
  rcases befB_total p with e | e
  · exact absurd e.symm q
  · exact e
/-- what the law asks of all that is reached -/
theorem rch_facts {xs : List Int} (hg : Grains xs) (hok : okR xs) : (rchL xs).getD 0 [] = xs ∧ (rchL xs).getD ((rchL xs).length - 1) [] = settleL xs ∧ (rchL xs).Pairwise (fun a b => befB a b = true) ∧ 0 < (rchL xs).length ∧ (∀ s ∈ rchL xs, Sand s ∧ ∀ i : Nat, i < s.length → steepB s i = true → fallL s i ∈ rchL xs) := by
  rw [rchL_yes hok]
  have hall : ∀ y ∈ rchS xs, Sand y := hok.2
  have hse : settleL xs ∈ rchS xs := by
    obtain ⟨t, h1, _⟩ := settle_to hg
    exact (rch_to hg).2 ⟨t, h1⟩
  refine ⟨srt_first (self_mem xs) (fun y hy => ?_), srt_last hse (fun y hy => ?_), srt_strict (rsS_nodup hg 600), ?_, fun s hs => ⟨hall s (srt_mem.1 hs), fun i h1 h2 => srt_mem.2 ?_⟩⟩
  · obtain ⟨n, hn⟩ := (rch_to hg).1 hy
    exact hn.before
  · obtain ⟨n, hn⟩ := (rch_to hg).1 hy
    obtain ⟨t, h1, h2⟩ := settle_to hg
    obtain ⟨d, h3, _⟩ := end_unique n h1 h2 hn
    exact h3.before
  · exact List.length_pos_of_mem (srt_mem.2 (self_mem xs))
  · obtain ⟨n, hn⟩ := (rch_to hg).1 (srt_mem.1 hs)
    exact (rch_to hg).2 ⟨n + 1, hn.snoc h1 h2⟩
/-! ### The sum of a vector -/
theorem vec_zero (ys : List Int) : ∀ n, (vecT ys ys n).sum = 0
  | 0 => rfl
  | n + 1 => by rw [vecT_succ, List.sum_append, vec_zero ys n]; simp [diffI]
theorem vec_fall {xs ys : List Int} {k : Nat} (hk : k < xs.length) : ∀ n, (vecT xs ys n).sum = (vecT (fallL xs k) ys n).sum + if k < n then 1 else 0
  | 0 => by simp [vecT]
  | n + 1 => by
    have h1 := vec_fall (ys := ys) hk n
    rw [vecT_succ, vecT_succ, List.sum_append, List.sum_append, h1]
    have h2 := take_fall_eq hk (n + 1)
    simp only [List.sum_singleton, diffI]
    rw [h2]
    by_cases e1 : k = n
    · subst e1; simp; omega
    · by_cases e2 : k < n
      · have e3 : ¬ n + 1 = k + 1 := by omega
        rw [if_pos e2, if_neg e3, if_pos (by omega)]; omega
      · have e3 : ¬ n + 1 = k + 1 := by omega
        rw [if_neg e2, if_neg e3, if_neg (by omega)]; omega
theorem FallTo.longer {n : Nat} {xs ys : List Int} (h : FallTo n xs ys) : xs.length ≤ ys.length := by
  induction h with
  | refl xs => exact Nat.le_refl _
  | step k k1 k2 _ ih => have := fallL_length k1; split at this <;> omega
theorem vec_sum {n : Nat} {xs ys : List Int} (h : FallTo n xs ys) : (vecT xs ys ys.length).sum = n := by
  induction h with
  | refl xs => exact vec_zero _ _
  | step k k1 k2 hk ih =>
    have hl := hk.longer
    have hl2 := fallL_length k1
    rw [vec_fall k1, ih, if_pos (by split at hl2 <;> omega)]; push_cast; rfl
theorem trim_sum (v : List Int) : ∀ k, (v.take (trimN v k)).sum = (v.take k).sum
  | 0 => rfl
  | k + 1 => by
    unfold trimN
    split
    · next h => rw [trim_sum v k, take_grow, h]; omega
    · rfl
theorem vecL_facts {xs ys : List Int} (hg : Grains xs) (hy : ys ∈ rchS xs) : (vecL xs ys).sum = wt 0 ys - wt 0 xs ∧ (∀ x ∈ vecL xs ys, 0 ≤ x ∧ x ≤ 24) ∧ (vecL xs ys).length ≤ ys.length := by
  obtain ⟨n, hn⟩ := (rch_to hg).1 hy
  obtain ⟨g, _, e⟩ := hn.grains hg
  have hs := vec_sum hn
  refine ⟨?_, ?_, ?_⟩
  · unfold vecL
    rw [trim_sum, List.take_of_length_le (by rw [vecT_length]; exact Nat.le_refl _), hs]; omega
  · intro x hx
    have hx2 := List.mem_of_mem_take hx
    refine mem_bd (l := vecT xs ys ys.length) (fun i => ⟨vec_nonneg hg hy i, ?_⟩) x hx2
    by_cases hi : i < ys.length
    · rw [vecT_getD _ _ hi]; exact (diff_bound hg g (i + 1)).2
    · rw [getD_past (by rw [vecT_length]; omega)]; omega
  · unfold vecL
    rw [List.length_take, vecT_length]; omega
end
end Go.Proofs.YtdfmljkjidepeaaGreatDoor
