/- Several texts in one: LevM, HoleM, MapM, LevN. No condition. -/
import Derived.Test.YtmfdimdcoeapoaaGa
import Derived.Maps.OwnSet
import Derived.Maps.OwnOps
namespace Go.Proofs.Ytmfdimdcoeapoaa
section
set_option linter.unusedVariables false
set_option linter.unusedSimpArgs false

/-! ### Cards on levels, one card after another -/
def bumpV (ls : List Int) (l : Nat) : List Int := if l < ls.length then ls.set l (ls.getD l 0 + 1) else ls ++ [1]
def bumps (ls : List Int) (i : Nat) : Nat → List Int
  | 0 => ls
  | p + 1 => bumpV (bumps ls i p) (i + p)
def levNV (xs : List Int) : Nat → List Int
  | 0 => []
  | k + 1 => bumps (levNV xs k) k (xs.getD k 0).toNat
def lvsL (xs : List Int) : List Int := levNV xs xs.length

theorem getD_set (ls : List Int) (i j : Nat) (v : Int) : (ls.set i v).getD j 0 = if i = j ∧ i < ls.length then v else ls.getD j 0 := by
  rw [List.getD_eq_getElem?_getD, List.getD_eq_getElem?_getD, List.getElem?_set]
  by_cases hij : i = j
  · subst hij
    by_cases hi : i < ls.length
    · simp [hi]
    · simp [hi]
  · simp [hij]
theorem getD_snoc (ls : List Int) (v : Int) (j : Nat) : (ls ++ [v]).getD j 0 = if j = ls.length then v else ls.getD j 0 := by
  rw [List.getD_eq_getElem?_getD, List.getD_eq_getElem?_getD]
  rcases Nat.lt_trichotomy j ls.length with h | h | h
  · rw [List.getElem?_append_left h, if_neg (by omega)]
  · rw [List.getElem?_append_right (by omega), if_pos h, h]; simp
  · rw [List.getElem?_append_right (by omega), if_neg (by omega), List.getElem?_eq_none (by simp; omega), List.getElem?_eq_none (by omega)]
theorem getD_past {ls : List Int} {j : Nat} (h : ls.length ≤ j) : ls.getD j 0 = 0 := by
  rw [List.getD_eq_getElem?_getD, List.getElem?_eq_none h]; rfl
theorem bumpV_getD (ls : List Int) (l j : Nat) (h : l ≤ ls.length) : (bumpV ls l).getD j 0 = ls.getD j 0 + (if j = l then 1 else 0) := by
  unfold bumpV
  split
  · next hl =>
    rw [getD_set]
    by_cases hj : l = j
    · subst hj; rw [if_pos ⟨rfl, hl⟩, if_pos rfl]
    · rw [if_neg (fun e => hj e.1), if_neg (fun e => hj e.symm)]; omega
  · next hl =>
    obtain rfl : l = ls.length := by omega
    rw [getD_snoc]
    by_cases hj : j = ls.length
    · rw [if_pos hj, if_pos hj, getD_past (by omega)]; omega
    · rw [if_neg hj, if_neg hj]; omega
theorem bumpV_length (ls : List Int) (l : Nat) (h : l ≤ ls.length) : (bumpV ls l).length = max ls.length (l + 1) := by
  unfold bumpV
  split
  · rw [List.length_set]; omega
  · rw [List.length_append, List.length_singleton]; omega
theorem bumps_length (ls : List Int) (i p : Nat) (h : i ≤ ls.length) : (bumps ls i p).length = max ls.length (i + p) := by
  induction p with
  | zero => show ls.length = _; omega
  | succ p ih => show (bumpV (bumps ls i p) (i + p)).length = _; rw [bumpV_length _ _ (by omega), ih]; omega
theorem bumps_getD (ls : List Int) (i p j : Nat) (h : i ≤ ls.length) : (bumps ls i p).getD j 0 = ls.getD j 0 + (if i ≤ j ∧ j < i + p then 1 else 0) := by
  induction p with
  | zero => rw [if_neg (by omega)]; show ls.getD j 0 = _; omega
  | succ p ih =>
    show (bumpV (bumps ls i p) (i + p)).getD j 0 = _
    rw [bumpV_getD _ _ _ (by rw [bumps_length ls i p h]; omega), ih]
    by_cases h1 : i ≤ j ∧ j < i + p
    · rw [if_pos h1, if_neg (by omega), if_pos (by omega)]; omega
    · by_cases h2 : j = i + p
      · rw [if_neg h1, if_pos h2, if_pos (by omega)]; omega
      · rw [if_neg h1, if_neg h2, if_neg (by omega)]; omega

theorem good_at {xs : List Int} (hg : Good xs) {k : Nat} (h : k < xs.length) : 1 ≤ xs.getD k 0 ∧ xs.getD k 0 ≤ 28 := by
  rw [List.getD_eq_getElem?_getD, List.getElem?_eq_getElem h]
  exact hg.mem (List.getElem_mem h)
theorem levNV_ge {xs : List Int} (hg : Good xs) {k : Nat} (h : k ≤ xs.length) : k ≤ (levNV xs k).length := by
  induction k with
  | zero => omega
  | succ k ih =>
    have := good_at hg (k := k) (by omega)
    show _ ≤ (bumps (levNV xs k) k (xs.getD k 0).toNat).length
    rw [bumps_length _ _ _ (ih (by omega))]
    omega
theorem levNV_length {xs : List Int} (hg : Good xs) {k : Nat} (h : k < xs.length) : (levNV xs (k + 1)).length = max (levNV xs k).length (k + (xs.getD k 0).toNat) :=
  bumps_length _ _ _ (levNV_ge hg (by omega))
/-- the cards of the first piles, a level -/
def lev (xs : List Int) (l : Nat) : Nat → Int
  | 0 => 0
  | k + 1 => lev xs l k + (if k ≤ l ∧ (l : Int) < k + xs.getD k 0 then 1 else 0)
theorem levNV_getD {xs : List Int} (hg : Good xs) {k : Nat} (h : k ≤ xs.length) (l : Nat) : (levNV xs k).getD l 0 = lev xs l k := by
  induction k with
  | zero => rfl
  | succ k ih =>
    have := good_at hg (k := k) (by omega)
    show (bumps (levNV xs k) k (xs.getD k 0).toNat).getD l 0 = lev xs l k + _
    rw [bumps_getD _ _ _ _ (levNV_ge hg (by omega)), ih (by omega)]
    by_cases hc : k ≤ l ∧ (l : Int) < k + xs.getD k 0
    · rw [if_pos hc, if_pos (by omega)]
    · rw [if_neg hc, if_neg (by omega)]
theorem lev_bound (xs : List Int) (l k : Nat) : 0 ≤ lev xs l k ∧ lev xs l k ≤ k ∧ lev xs l k ≤ (l : Int) + 1 := by
  have h1 : 0 ≤ lev xs l k ∧ lev xs l k ≤ k := by
    induction k with
    | zero => exact ⟨Int.le_refl _, Int.le_refl _⟩
    | succ k ih => unfold lev; split <;> omega
  refine ⟨h1.1, h1.2, ?_⟩
  induction k with
  | zero => unfold lev; omega
  | succ k ih =>
    by_cases hk : k ≤ l
    · have : lev xs l (k + 1) ≤ ((k + 1 : Nat) : Int) := by
        clear h1 ih
        induction k with
        | zero => unfold lev; unfold lev; split <;> simp
        | succ k ih => have := ih (by omega); rw [lev]; split <;> omega
      omega
    · have h2 : 0 ≤ lev xs l k ∧ lev xs l k ≤ k := by
        clear h1 ih hk
        induction k with
        | zero => exact ⟨Int.le_refl _, Int.le_refl _⟩
        | succ k ih => unfold lev; split <;> omega
      have := ih h2
      unfold lev
      rw [if_neg (by omega)]
      omega
theorem take_sum_ge {xs : List Int} (hg : Good xs) {k : Nat} (h : k ≤ xs.length) : (k : Int) ≤ (xs.take k).sum := by
  have := sum_nonneg (xs := xs.take k) (fun x hx => hg.1 x (List.mem_of_mem_take hx))
  rw [List.length_take, Nat.min_eq_left h] at this
  exact this
theorem level_top {xs : List Int} (hg : Good xs) {k : Nat} (h : k < xs.length) : (k : Int) + xs.getD k 0 ≤ 28 := by
  have h1 := take_sum_ge hg (k := k) (by omega)
  have h2 := (hg.take (k + 1)).2.2
  rw [List.take_add_one, List.sum_append] at h2
  rw [List.getD_eq_getElem?_getD]
  rw [List.getElem?_eq_getElem h] at h2 ⊢
  simp only [Option.toList_some, List.sum_cons, List.sum_nil, Option.getD_some] at h2 ⊢
  omega
theorem levNV_le {xs : List Int} (hg : Good xs) {k : Nat} (h : k ≤ xs.length) : (levNV xs k).length ≤ 28 := by
  induction k with
  | zero => exact Nat.zero_le _
  | succ k ih =>
    have h1 := good_at hg (k := k) (by omega)
    have h2 := level_top hg (k := k) (by omega)
    rw [levNV_length hg (by omega)]
    have := ih (by omega)
    omega
theorem lvsL_le {xs : List Int} (hg : Good xs) : (lvsL xs).length ≤ 28 := levNV_le hg (Nat.le_refl _)
theorem lvsL_getD {xs : List Int} (hg : Good xs) (l : Nat) : (lvsL xs).getD l 0 = lev xs l xs.length := levNV_getD hg (Nat.le_refl _) l
theorem lvsL_at {xs : List Int} (hg : Good xs) (l : Nat) : 0 ≤ (lvsL xs).getD l 0 ∧ (lvsL xs).getD l 0 ≤ 28 ∧ (lvsL xs).getD l 0 ≤ (l : Int) + 1 := by
  rw [lvsL_getD hg]
  have := lev_bound xs l xs.length
  have := hg.len
  omega
/-- a level has all its cards exactly if each place of it has one -/
theorem lev_full (xs : List Int) (l : Nat) {k : Nat} : lev xs l k = (l : Int) + 1 ↔ l < k ∧ ∀ i, i ≤ l → cel xs i (l - i) := by
  have step : ∀ k, k ≤ l + 1 → (lev xs l k = k ↔ ∀ i, i < k → cel xs i (l - i)) := by
    intro k
    induction k with
    | zero => intro _; exact ⟨fun _ i hi => by omega, fun _ => rfl⟩
    | succ k ih =>
      intro hk
      have hb := lev_bound xs l k
      have ih := ih (by omega)
      constructor
      · intro e i hi
        rw [lev] at e
        by_cases hc : k ≤ l ∧ (l : Int) < k + xs.getD k 0
        · rw [if_pos hc] at e
          by_cases hik : i = k
          · subst hik; unfold cel; omega
          · exact ih.1 (by omega) i (by omega)
        · rw [if_neg hc] at e; omega
      · intro h
        have h1 := ih.2 (fun i hi => h i (by omega))
        have h2 := h k (by omega)
        unfold cel at h2
        rw [lev, if_pos (by omega)]
        omega
  have past : ∀ d, lev xs l (l + 1 + d) = lev xs l (l + 1) := by
    intro d
    induction d with
    | zero => rfl
    | succ d ih =>
      show lev xs l (l + 1 + d) + (if l + 1 + d ≤ l ∧ (l : Int) < ((l + 1 + d : Nat) : Int) + xs.getD (l + 1 + d) 0 then 1 else 0) = _
      rw [if_neg (by omega), ih]; omega
  by_cases hk : l < k
  · have e := past (k - (l + 1))
    rw [show l + 1 + (k - (l + 1)) = k by omega] at e
    have h1 := step (l + 1) (Nat.le_refl _)
    rw [e]
    constructor
    · intro h; exact ⟨hk, fun i hi => h1.1 (by omega) i (by omega)⟩
    · intro h; have := h1.2 (fun i hi => h.2 i (by omega)); omega
  · have := lev_bound xs l k
    constructor
    · intro h; omega
    · intro h; omega
/-- a level has a card exactly if one of its places has one -/
theorem lvl_some (xs : List Int) (l : Nat) (k : Nat) : 0 < lev xs l k ↔ ∃ i, i < k ∧ i ≤ l ∧ cel xs i (l - i) := by
  induction k with
  | zero => unfold lev; constructor
            · intro h; omega
            · rintro ⟨i, hi, _⟩; omega
  | succ k ih =>
    have hb := lev_bound xs l k
    rw [lev]
    by_cases hc : k ≤ l ∧ (l : Int) < k + xs.getD k 0
    · rw [if_pos hc]
      exact ⟨fun _ => ⟨k, by omega, hc.1, by unfold cel; omega⟩, fun _ => by omega⟩
    · rw [if_neg hc]
      constructor
      · intro h
        obtain ⟨i, h1, h2, h3⟩ := ih.1 (by omega)
        exact ⟨i, by omega, h2, h3⟩
      · rintro ⟨i, h1, h2, h3⟩
        have : i ≠ k := fun e => by subst e; unfold cel at h3; omega
        have := ih.2 ⟨i, by omega, h2, h3⟩
        omega
/-- the last level has a card, and none above it -/
theorem lvsL_top {xs : List Int} (hg : Good xs) (hne : xs ≠ []) : 0 < (lvsL xs).length ∧ 0 < (lvsL xs).getD ((lvsL xs).length - 1) 0 := by
  have key : ∀ k, k ≤ xs.length → 0 < k → 0 < (levNV xs k).length ∧ 0 < (levNV xs k).getD ((levNV xs k).length - 1) 0 := by
    intro k
    induction k with
    | zero => intro _ h; omega
    | succ k ih =>
      intro hk _
      have hge := levNV_ge hg (k := k) (by omega)
      have hx := good_at hg (k := k) (by omega)
      have hl := levNV_length hg (k := k) (by omega)
      refine ⟨by omega, ?_⟩
      have hv := bumps_getD (levNV xs k) k (xs.getD k 0).toNat ((levNV xs (k + 1)).length - 1) hge
      have e : levNV xs (k + 1) = bumps (levNV xs k) k (xs.getD k 0).toNat := rfl
      rw [← e] at hv
      rw [hv]
      by_cases hc : (levNV xs k).length < k + (xs.getD k 0).toNat
      · rw [if_pos (by omega)]
        have := (levNV_getD hg (k := k) (by omega) ((levNV xs (k + 1)).length - 1)) ▸ (lev_bound xs ((levNV xs (k + 1)).length - 1) k).1
        omega
      · have e2 : (levNV xs (k + 1)).length = (levNV xs k).length := by omega
        by_cases hk0 : 0 < k
        · have := (ih (by omega) hk0).2
          rw [e2]
          split <;> omega
        · obtain rfl : k = 0 := by omega
          have : (levNV xs 0).length = 0 := rfl
          omega
  have hl : 0 < xs.length := List.length_pos_iff.2 hne
  exact key xs.length (Nat.le_refl _) hl
theorem lvsL_nil {xs : List Int} (h : xs = []) : lvsL xs = [] := by subst h; rfl

/-! ### Potentials -/
def wsumN (ls : List Int) : Nat → Int
  | 0 => 0
  | k + 1 => wsumN ls k + k * ls.getD k 0
def pot (xs : List Int) : Int := wsumN (lvsL xs) (lvsL xs).length
theorem wsumN_long (ls : List Int) (d : Nat) : wsumN ls (ls.length + d) = wsumN ls ls.length := by
  induction d with
  | zero => rfl
  | succ d ih =>
    show wsumN ls (ls.length + d) + _ * ls.getD (ls.length + d) 0 = _
    rw [ih, getD_past (by omega)]; simp
theorem wsumN_plus {ls ms : List Int} {l : Nat} (h : ∀ j, ms.getD j 0 = ls.getD j 0 + (if j = l then 1 else 0)) (k : Nat) : wsumN ms k = wsumN ls k + (if l < k then (l : Int) else 0) := by
  induction k with
  | zero => simp [wsumN]
  | succ k ih =>
    rw [wsumN, wsumN, ih, h k]
    by_cases hk : k = l
    · subst hk
      rw [if_pos rfl, if_neg (by omega), if_pos (by omega), Int.mul_add]
      omega
    · rw [if_neg hk]
      by_cases hl : l < k
      · rw [if_pos hl, if_pos (by omega)]; simp only [Int.add_zero]; omega
      · rw [if_neg hl, if_neg (by omega)]; simp only [Int.add_zero]
theorem wsum_at (ls : List Int) {k : Nat} (h : ls.length ≤ k) : wsumN ls ls.length = wsumN ls k := by
  have := wsumN_long ls (k - ls.length)
  rw [show ls.length + (k - ls.length) = k by omega] at this
  exact this.symm
theorem wsum_bump (ls : List Int) (l : Nat) (h : l ≤ ls.length) : wsumN (bumpV ls l) (bumpV ls l).length = wsumN ls ls.length + l := by
  have hl := bumpV_length ls l h
  rw [wsumN_plus (ls := ls) (l := l) (fun j => bumpV_getD ls l j h), if_pos (by omega), wsum_at ls (k := (bumpV ls l).length) (by omega)]
theorem wsum_bumps (ls : List Int) (i p : Nat) (h : i ≤ ls.length) : 2 * wsumN (bumps ls i p) (bumps ls i p).length = 2 * wsumN ls ls.length + 2 * (i * p) + (p * p - p) := by
  induction p with
  | zero => simp [bumps]
  | succ p ih =>
    show 2 * wsumN (bumpV (bumps ls i p) (i + p)) (bumpV (bumps ls i p) (i + p)).length = _
    rw [wsum_bump _ _ (by rw [bumps_length ls i p h]; omega), Int.mul_add, ih]
    have e1 := sq_succ (p : Int)
    have e2 : ((p + 1 : Nat) : Int) = (p : Int) + 1 := by omega
    rw [e2, e1, Int.mul_add]
    have e3 : ((i + p : Nat) : Int) = (i : Int) + p := by omega
    rw [e3]
    omega
theorem potL_snoc (l : List Int) (x : Int) : potL (l ++ [x]) = potL l + 2 * (l.length * x) + (x * x - x) := by
  induction l with
  | nil => simp [potL]
  | cons a l ih =>
    simp only [List.cons_append, potL, ih, List.sum_append, List.sum_cons, List.sum_nil, List.length_cons]
    have e : ((l.length + 1 : Nat) : Int) = (l.length : Int) + 1 := by omega
    rw [e, Int.add_mul]
    omega
theorem takeL_snoc {xs : List Int} {k : Nat} (h : k < xs.length) : xs.take (k + 1) = xs.take k ++ [xs.getD k 0] := by
  rw [List.take_add_one, List.getElem?_eq_getElem h, List.getD_eq_getElem?_getD, List.getElem?_eq_getElem h]; rfl
/-- the potential is half of what the steps were shown with -/
theorem pot_potL {xs : List Int} (hg : Good xs) : 2 * pot xs = potL xs := by
  have key : ∀ k, k ≤ xs.length → 2 * wsumN (levNV xs k) (levNV xs k).length = potL (xs.take k) := by
    intro k
    induction k with
    | zero => intro _; rfl
    | succ k ih =>
      intro hk
      have hx := good_at hg (k := k) (by omega)
      have hw := wsum_bumps (levNV xs k) k (xs.getD k 0).toNat (levNV_ge hg (by omega))
      have e : levNV xs (k + 1) = bumps (levNV xs k) k (xs.getD k 0).toNat := rfl
      rw [← e] at hw
      rw [hw, ih (by omega), takeL_snoc (by omega), potL_snoc, List.length_take, Nat.min_eq_left (by omega)]
      rw [show (((xs.getD k 0).toNat : Nat) : Int) = xs.getD k 0 by omega]
  have := key xs.length (Nat.le_refl _)
  rw [List.take_length] at this
  exact this
theorem pot_bound {xs : List Int} (hg : Good xs) {k : Nat} (hk : k ≤ 28) : 0 ≤ wsumN (lvsL xs) k ∧ wsumN (lvsL xs) k ≤ 784 * k := by
  induction k with
  | zero => exact ⟨Int.le_refl _, by simp [wsumN]⟩
  | succ k ih =>
    have ih := ih (by omega)
    have h := lvsL_at hg k
    rw [wsumN]
    have h1 : 0 ≤ (k : Int) * (lvsL xs).getD k 0 := Int.mul_nonneg (by omega) h.1
    have h2 : (k : Int) * (lvsL xs).getD k 0 ≤ 28 * 28 := Int.mul_le_mul (by omega) h.2.1 h.1 (by omega)
    omega
theorem pot_range {xs : List Int} (hg : Good xs) : 0 ≤ pot xs ∧ pot xs ≤ 21952 := by
  have h1 := lvsL_le hg
  have := pot_bound hg h1
  unfold pot
  omega

/-! ### By how much a step lowers it -/
def dropN (xs : List Int) : Nat → Int
  | 0 => 0
  | k + 1 => dropN xs k + max 0 (xs.getD k 0 - 1 - xs.length)
def dropL (xs : List Int) : Int := dropN xs xs.length
def overL (n : Int) : List Int → Int
  | [] => 0
  | x :: l => max 0 (x - n) + overL n l
theorem overL_snoc (n : Int) (l : List Int) (x : Int) : overL n (l ++ [x]) = overL n l + max 0 (x - n) := by
  induction l with
  | nil => simp [overL]
  | cons a l ih => simp only [List.cons_append, overL, ih]; omega
theorem overL_low {n : Int} (hn : 0 ≤ n) {xs : List Int} (h : ∀ x ∈ xs, 1 ≤ x) : overL n (lowL xs) = overL (n + 1) xs := by
  induction xs with
  | nil => rfl
  | cons a l ih =>
    have ih := ih (fun x hx => h x (by simp [hx]))
    have ha := h a (by simp)
    by_cases h1 : 1 < a
    · rw [lowL_cons_hi l h1]; simp only [overL]; rw [ih]; omega
    · rw [lowL_cons_lo l h1]; simp only [overL]; rw [ih]; omega
theorem overL_none {n : Int} {xs : List Int} (h : ∀ x ∈ xs, x ≤ n) : overL n xs = 0 := by
  induction xs with
  | nil => rfl
  | cons a l ih =>
    have := ih (fun x hx => h x (by simp [hx]))
    have := h a (by simp)
    simp only [overL]; omega
theorem pot_ins_eq (n : Int) {l : List Int} (hs : l.Pairwise (· ≥ ·)) : potL (n :: l) = potL (insL n l) + 2 * overL n l := by
  induction l with
  | nil => simp [insL, overL]
  | cons x l ih =>
    have ih := ih (List.pairwise_cons.1 hs).2
    unfold insL
    split
    · next h =>
      have hp := perm_sum (insL_perm n l)
      simp only [potL, overL, List.sum_cons] at *
      omega
    · next h =>
      rw [overL_none (fun y hy => by
        rcases List.mem_cons.1 hy with rfl | hy
        · omega
        · have : x ≥ y := (List.pairwise_cons.1 hs).1 y hy
          omega)]
      omega
theorem dropN_over {xs : List Int} {k : Nat} (h : k ≤ xs.length) : dropN xs k = overL (xs.length + 1) (xs.take k) := by
  induction k with
  | zero => rfl
  | succ k ih =>
    rw [dropN, ih (by omega), takeL_snoc (by omega), overL_snoc]
    omega
theorem dropL_over (xs : List Int) : dropL xs = overL (xs.length + 1) xs := by
  unfold dropL
  rw [dropN_over (Nat.le_refl _), List.take_length]
theorem potL_drop {xs : List Int} (hg : Good xs) : potL xs = potL (stepL xs) + 2 * dropL xs := by
  by_cases h : xs = []
  · subst h; rfl
  · rw [stepL_ins hg.2.1 h, dropL_over, ← overL_low (by omega) hg.1, ← pot_ins_eq _ (lowL_sorted hg.2.1), pot_low hg.1 hg.2.1]
theorem pot_drop {xs : List Int} (hg : Good xs) : pot xs - pot (stepL xs) = dropL xs := by
  have h1 := pot_potL hg
  have h2 := pot_potL (stepL_good hg)
  have h3 := potL_drop hg
  omega
theorem dropN_bound {xs : List Int} (hg : Good xs) {k : Nat} (h : k ≤ xs.length) : 0 ≤ dropN xs k ∧ dropN xs k ≤ 28 * k := by
  induction k with
  | zero => exact ⟨Int.le_refl _, by simp [dropN]⟩
  | succ k ih =>
    have ih := ih (by omega)
    have := good_at hg (k := k) (by omega)
    rw [dropN]
    omega

/-! ### The least potential -/
def tt : Nat → Int
  | 0 => 0
  | d + 1 => tt d + ((d : Int) + 1) * ((d : Int) + 2)
theorem sq_gap (x d : Int) : x * x - x - 2 * (d * x) + d * (d + 1) = (x - d) * (x - d - 1) := by
  rw [Int.sub_mul, Int.mul_sub, Int.mul_sub, Int.mul_sub, Int.mul_sub, Int.mul_add, Int.mul_comm x d]
  omega
theorem gap_nonneg (y : Int) : 0 ≤ y * (y - 1) ∧ (y * (y - 1) = 0 ↔ y = 0 ∨ y = 1) := by
  rcases Int.lt_trichotomy y 0 with h | h | h
  · have : 0 < y * (y - 1) := Int.mul_pos_of_neg_of_neg h (by omega)
    exact ⟨by omega, by omega, by omega⟩
  · subst h; simp
  · by_cases h1 : y = 1
    · subst h1; simp
    · have : 0 < y * (y - 1) := Int.mul_pos h (by omega)
      exact ⟨by omega, by omega, by omega⟩
theorem pot_flat {l : List Int} (h : ∀ x ∈ l, 1 ≤ x) : 0 ≤ potL l + 2 * l.sum ∧ (potL l + 2 * l.sum = 0 ↔ l = []) := by
  induction l with
  | nil => simp [potL]
  | cons x l ih =>
    have ih := ih (fun y hy => h y (by simp [hy]))
    have hx := h x (by simp)
    have hs := sum_nonneg (fun y hy => h y (List.mem_cons_of_mem x hy) : ∀ y ∈ l, 1 ≤ y)
    have h1 := (gap_nonneg x).1
    rw [Int.mul_sub] at h1
    simp only [potL, List.sum_cons]
    refine ⟨by omega, by omega, fun e => by cases e⟩
/-- each column has the least potential exactly near the staircase -/
theorem pot_near (d : Nat) : ∀ xs : List Int, (∀ x ∈ xs, 1 ≤ x) → 0 ≤ potL xs - 2 * (d * xs.sum) + tt d ∧
    (potL xs - 2 * (d * xs.sum) + tt d = 0 ↔ xs.length ≤ d + 1 ∧ ∀ i, i < d + 1 → (xs.getD i 0 - ((d : Int) - i) = 0 ∨ xs.getD i 0 - ((d : Int) - i) = 1)) := by
  induction d with
  | zero =>
    intro xs h
    cases xs with
    | nil => simp [potL, tt]
    | cons x l =>
      have hl := pot_flat (l := l) (fun y hy => h y (by simp [hy]))
      have hx := h x (by simp)
      have h1 := gap_nonneg x
      rw [Int.mul_sub] at h1
      have hs := sum_nonneg (fun y hy => h y (List.mem_cons_of_mem x hy) : ∀ y ∈ l, 1 ≤ y)
      have e0 : ((0 : Nat) : Int) * (x + l.sum) = 0 := by simp
      simp only [potL, tt, List.sum_cons]
      rw [e0]
      refine ⟨by omega, ?_, ?_⟩
      · intro e
        have e2 : l = [] := hl.2.1 (by omega)
        subst e2
        simp only [potL, List.sum_nil] at e hl
        refine ⟨by simp, fun i hi => ?_⟩
        obtain rfl : i = 0 := by omega
        have := h1.2.1 (by omega)
        simp only [List.getD_cons_zero]
        omega
      · rintro ⟨hlen, hi⟩
        have e2 : l = [] := by
          cases l with
          | nil => rfl
          | cons _ _ => simp at hlen
        subst e2
        have := hi 0 (by omega)
        simp only [List.getD_cons_zero] at this
        have := h1.2.2 (by omega)
        simp only [potL, List.sum_nil]
        omega
  | succ d ih =>
    intro xs h
    cases xs with
    | nil =>
      have ht : ∀ k, 0 ≤ tt k := by
        intro k
        induction k with
        | zero => exact Int.le_refl _
        | succ k ihk => have : 0 ≤ ((k : Int) + 1) * ((k : Int) + 2) := Int.mul_nonneg (by omega) (by omega); rw [tt]; omega
      have h2 : 0 < ((d : Int) + 1) * ((d : Int) + 2) := Int.mul_pos (by omega) (by omega)
      have := ht d
      simp only [potL, tt, List.sum_nil, Int.mul_zero, Int.sub_zero]
      refine ⟨by omega, by omega, ?_⟩
      rintro ⟨_, hi⟩
      have := hi 0 (by omega)
      simp at this
      omega
    | cons x l =>
      have ih := ih l (fun y hy => h y (by simp [hy]))
      have hg := sq_gap x ((d : Int) + 1)
      have h1 := gap_nonneg (x - ((d : Int) + 1))
      rw [← hg] at h1
      have e1 : ((d + 1 : Nat) : Int) = (d : Int) + 1 := by omega
      simp only [potL, tt, List.sum_cons]
      rw [e1]
      have e2 : ((d : Int) + 1) * (x + l.sum) = ((d : Int) + 1) * x + (d * l.sum + l.sum) := by rw [Int.mul_add, Int.add_mul (d : Int) 1 l.sum]; omega
      rw [e2]
      have e3 : ((d : Int) + 1) * ((d : Int) + 1 + 1) = ((d : Int) + 1) * ((d : Int) + 2) := by rw [show (d : Int) + 1 + 1 = (d : Int) + 2 by omega]
      rw [e3] at h1
      refine ⟨by omega, ?_, ?_⟩
      · intro e
        have h2 := ih.2.1 (by omega)
        have h3 := h1.2.1 (by omega)
        refine ⟨by simp only [List.length_cons]; omega, fun i hi => ?_⟩
        cases i with
        | zero => simp only [List.getD_cons_zero]; omega
        | succ i =>
          have := h2.2 i (by omega)
          simp only [List.getD_cons_succ]
          omega
      · rintro ⟨hlen, hi⟩
        have h2 := ih.2.2 ⟨by simp only [List.length_cons] at hlen; omega, fun i hi' => by
          have := hi (i + 1) (by omega)
          simp only [List.getD_cons_succ] at this
          omega⟩
        have h0 := hi 0 (by omega)
        simp only [List.getD_cons_zero] at h0
        have h3 := h1.2.2 (by omega)
        omega
/-- full levels -/
def fullN : Nat → Int
  | 0 => 0
  | k + 1 => fullN k + k * (k + 1)
def leastI (n : Nat) : Int := fullN (hgt n) + hgt n * ((n : Int) - tri (hgt n))
theorem least_fin : ∀ n, n < 29 → 2 * leastI n = 2 * (hgt n * (n : Int)) - tt (hgt n) := by decide +kernel
theorem pot_least {xs : List Int} (hg : Good xs) : leastI xs.sum.toNat ≤ pot xs ∧ (pot xs = leastI xs.sum.toNat ↔ Cyc xs) := by
  have h1 := pot_potL hg
  have hs := sum_nonneg hg.1
  have hb := hg.2.2
  have h2 := least_fin xs.sum.toNat (by omega)
  have h3 := pot_near (hgt xs.sum.toNat) xs hg.1
  rw [show ((xs.sum.toNat : Nat) : Int) = xs.sum by omega] at h2
  have h4 : Cyc xs ↔ xs.length ≤ hgt xs.sum.toNat + 1 ∧ ∀ i, i < hgt xs.sum.toNat + 1 → (xs.getD i 0 - (hgt xs.sum.toNat - i) = 0 ∨ xs.getD i 0 - (hgt xs.sum.toNat - i) = 1) := Iff.rfl
  rw [h4]
  refine ⟨by omega, ?_⟩
  rw [← h3.2]
  constructor <;> intro h <;> omega
theorem leastB {xs : List Int} (hg : Good xs) : decide (pot xs = leastI xs.sum.toNat) = cycB xs := by
  unfold cycB
  by_cases h : Cyc xs
  · rw [decide_eq_true h, decide_eq_true ((pot_least hg).2.2 h)]
  · rw [decide_eq_false h, decide_eq_false (fun e => h ((pot_least hg).2.1 e))]
/-- the model's own way to the least potential -/
def lsN (n : Nat) : Nat → Int
  | 0 => 0
  | k + 1 => lsN n k + k * min ((n : Int) - tri k) (k + 1)
theorem ls_fin : ∀ n, n < 29 → ∀ k, k < 9 → n ≤ tri k → (k = 0 ∨ tri (k - 1) < n) → lsN n k = leastI n := by decide +kernel
theorem least_fin2 : ∀ n, n < 29 → 0 ≤ leastI n ∧ leastI n ≤ 1000 := by decide +kernel

/-! ### The next drop -/
theorem drop_comes {xs : List Int} (hg : Good xs) (h : ¬ Cyc xs) : ∃ q, 0 < dropL (stepsL q xs) ∧ (∀ r, r < q → dropL (stepsL r xs) = 0) ∧ q < tailL xs := by
  have nn : ∀ r, 0 ≤ dropL (stepsL r xs) := fun r => (dropN_bound (stepsL_good hg r) (Nat.le_refl _)).1
  have hex : ∃ q, q < tailL xs ∧ 0 < dropL (stepsL q xs) := by
    apply Classical.byContradiction
    intro hno
    have hz : ∀ k, k ≤ tailL xs → pot (stepsL k xs) = pot xs := by
      intro k
      induction k with
      | zero => intro _; rfl
      | succ k ih =>
        intro hk
        have h1 := pot_drop (stepsL_good hg k)
        have h2 : ¬ 0 < dropL (stepsL k xs) := fun hp => hno ⟨k, by omega, hp⟩
        have h3 := nn k
        have h4 := ih (by omega)
        show pot (stepL (stepsL k xs)) = _
        omega
    have hc := (tailL_spec hg).2.1
    have h1 := (pot_least (stepsL_good hg (tailL xs))).2.2 hc
    rw [hz _ (Nat.le_refl _), stepsL_sum hg] at h1
    exact h ((pot_least hg).2.1 h1)
  obtain ⟨q, hq, hd⟩ := hex
  obtain ⟨m, hm, hmin⟩ := least_hole (fun q => 0 < dropL (stepsL q xs)) q hd
  refine ⟨m, hm, fun r hr => ?_, ?_⟩
  · have h1 := hmin r hr
    have h2 := nn r
    omega
  · rcases Nat.lt_or_ge q m with hlt | hge
    · exact absurd hd (hmin q hlt)
    · omega
def ndL (xs : List Int) : Nat := ((List.range (tailL xs)).find? fun q => decide (0 < dropL (stepsL q xs))).getD 0
theorem nd_spec {xs : List Int} (hg : Good xs) (h : ¬ Cyc xs) : 0 < dropL (stepsL (ndL xs) xs) ∧ (∀ r, r < ndL xs → dropL (stepsL r xs) = 0) ∧ ndL xs ≤ 3718 := by
  obtain ⟨q, h1, h2, h3⟩ := drop_comes hg h
  have ht := (tailL_spec hg).1
  have : ndL xs = q := by
    unfold ndL
    have : (List.range (tailL xs)).find? (fun q => decide (0 < dropL (stepsL q xs))) = some q := by
      rw [List.find?_range_eq_some]
      refine ⟨by simpa using h1, List.mem_range.2 h3, fun r hr => ?_⟩
      rw [h2 r hr]; simp
    rw [this]; rfl
  rw [this]
  exact ⟨h1, h2, by omega⟩
theorem nd_unique {xs : List Int} (hg : Good xs) (h : ¬ Cyc xs) {q : Nat} (h1 : 0 < dropL (stepsL q xs)) (h2 : ∀ r, r < q → dropL (stepsL r xs) = 0) : ndL xs = q := by
  have hs := nd_spec hg h
  rcases Nat.lt_trichotomy (ndL xs) q with hl | he | hl
  · have := h2 _ hl; have := hs.1; omega
  · exact he
  · have := hs.2.1 _ hl; omega
end
end Go.Proofs.Ytmfdimdcoeapoaa
namespace Go.Proofs.Ytmfdimdcoeapoaa
section
set_option linter.unusedVariables false
set_option linter.unusedSimpArgs false

theorem find_first {n k : Nat} {P : Nat → Bool} (hk : k < n) (hP : P k = true) (hmin : ∀ j, j < k → P j = false) : (List.range n).find? P = some k := by
  rw [List.find?_range_eq_some]
  exact ⟨hP, List.mem_range.2 hk, fun j hj => by rw [hmin j hj]; rfl⟩
/-- whether a place on a level has a card -/
def celB (xs : List Int) (l i : Nat) : Bool := decide ((l : Int) - i < xs.getD i 0)
theorem cel_celB {xs : List Int} {l i : Nat} (h : i ≤ l) : celB xs l i = true ↔ cel xs i (l - i) := by
  unfold celB cel
  rw [decide_eq_true_iff]
  omega
/-- the first pile whose place on a level has a card, or has none -/
def placeL (xs : List Int) (l : Nat) (c : Bool) : Option Nat := (List.range (l + 1)).find? fun i => celB xs l i == c
def holeN (xs : List Int) : Nat := ((List.range 29).find? fun l => decide (¬ lev xs l xs.length = (l : Int) + 1)).getD 0
def holeP (xs : List Int) : Nat := (placeL xs (holeN xs) false).getD 0
def spillN (xs : List Int) : Nat := (lvsL xs).length - 1
def spillP (xs : List Int) : Nat := (placeL xs (spillN xs) true).getD 0

theorem full_low {xs : List Int} (hg : Good xs) {l : Nat} (h : lev xs l xs.length = (l : Int) + 1) : l < 28 := by
  have := ((lev_full xs l).1 h).1
  have := hg.len
  omega
theorem full_of {xs : List Int} (hg : Good xs) {l : Nat} (h : ∀ i, i < l + 1 → celB xs l i = true) : lev xs l xs.length = (l : Int) + 1 := by
  refine (lev_full xs l).2 ⟨?_, fun i hi => (cel_celB hi).1 (h i (by omega))⟩
  have h1 := h l (by omega)
  unfold celB at h1
  rw [decide_eq_true_iff] at h1
  exact (getD_nonneg hg.1 l).2.1 (by omega)
theorem hole_exists {xs : List Int} (hg : Good xs) : ∃ l, l < 29 ∧ ¬ lev xs l xs.length = (l : Int) + 1 ∧ ∀ k, k < l → lev xs k xs.length = (k : Int) + 1 := by
  obtain ⟨m, hm, hmin⟩ := least_hole (fun l => ¬ lev xs l xs.length = (l : Int) + 1) 28 (fun h => by have := full_low hg h; omega)
  refine ⟨m, ?_, hm, fun k hk => Classical.byContradiction fun hc => hmin k hk hc⟩
  by_cases hm29 : m < 29
  · exact hm29
  · exact absurd (Classical.byContradiction fun hc => hmin 28 (by omega) hc) (fun h => by have := full_low hg h; omega)
theorem hole_spec {xs : List Int} (hg : Good xs) : holeN xs < 29 ∧ ¬ lev xs (holeN xs) xs.length = (holeN xs : Int) + 1 ∧ ∀ k, k < holeN xs → lev xs k xs.length = (k : Int) + 1 := by
  obtain ⟨l, h1, h2, h3⟩ := hole_exists hg
  have : holeN xs = l := by
    unfold holeN
    rw [find_first h1 (by simpa using h2) (fun j hj => by simpa using h3 j hj)]; rfl
  rw [this]; exact ⟨h1, h2, h3⟩
theorem hole_unique {xs : List Int} {l : Nat} (h1 : l < 29) (h2 : ¬ lev xs l xs.length = (l : Int) + 1) (h3 : ∀ k, k < l → lev xs k xs.length = (k : Int) + 1) : holeN xs = l := by
  unfold holeN
  rw [find_first h1 (by simpa using h2) (fun j hj => by simpa using h3 j hj)]; rfl
theorem place_some {xs : List Int} {l k : Nat} {c : Bool} (hk : k ≤ l) (h : celB xs l k = c) (hmin : ∀ j, j < k → celB xs l j = !c) : placeL xs l c = some k := by
  unfold placeL
  exact find_first (by omega) (by rw [h]; simp) (fun j hj => by rw [hmin j hj]; cases c <;> rfl)
theorem place_none {xs : List Int} {l : Nat} {c : Bool} (h : ∀ j, j < l + 1 → celB xs l j = !c) : placeL xs l c = none := by
  unfold placeL
  rw [List.find?_eq_none]
  intro j hj
  rw [h j (List.mem_range.1 hj)]
  cases c <;> simp
theorem place_hole {xs : List Int} (hg : Good xs) : ∃ k, placeL xs (holeN xs) false = some k ∧ k ≤ holeN xs ∧ holeP xs = k := by
  have hs := hole_spec hg
  cases hp : placeL xs (holeN xs) false with
  | none =>
    exfalso
    unfold placeL at hp
    rw [List.find?_eq_none] at hp
    refine hs.2.1 (full_of hg fun i hi => ?_)
    have := hp i (List.mem_range.2 hi)
    cases hc : celB xs (holeN xs) i
    · rw [hc] at this; simp at this
    · rfl
  | some k =>
    refine ⟨k, rfl, ?_, by unfold holeP; rw [hp]; rfl⟩
    unfold placeL at hp
    have := List.mem_range.1 (List.mem_of_find?_eq_some hp)
    omega
/-- the first hole, told by its own words -/
theorem hole_at {xs : List Int} (hg : Good xs) {l i : Nat} (hf : ∀ k, k < l → lev xs k xs.length = (k : Int) + 1) (hi : i ≤ l) (h : celB xs l i = false) (hmin : ∀ j, j < i → celB xs l j = true) : holeN xs = l ∧ holeP xs = i := by
  have h2 : ¬ lev xs l xs.length = (l : Int) + 1 := fun e => by
    have := (cel_celB hi).2 (((lev_full xs l).1 e).2 i hi)
    rw [h] at this; cases this
  have h1 : l < 29 := by
    by_cases hl : l < 29
    · exact hl
    · have := full_low hg (hf 28 (by omega)); omega
  have e := hole_unique h1 h2 hf
  refine ⟨e, ?_⟩
  unfold holeP
  rw [e, place_some hi h hmin]; rfl
theorem place_spill {xs : List Int} (hg : Good xs) (hne : xs ≠ []) : ∃ k, placeL xs (spillN xs) true = some k ∧ k ≤ spillN xs ∧ spillP xs = k ∧ k < xs.length ∧ spillN xs < 28 ∧ celB xs (spillN xs) k = true ∧ ∀ j, j < k → celB xs (spillN xs) j = false := by
  have ht := lvsL_top hg hne
  have hle := lvsL_le hg
  have hN : spillN xs = (lvsL xs).length - 1 := rfl
  have h2 := ht.2
  rw [lvsL_getD hg] at h2
  obtain ⟨i, hi1, hi2, hi3⟩ := (lvl_some xs _ _).1 h2
  rw [← hN] at hi2 hi3
  cases hp : placeL xs (spillN xs) true with
  | none =>
    exfalso
    unfold placeL at hp
    rw [List.find?_eq_none] at hp
    have := hp i (List.mem_range.2 (by omega))
    rw [(cel_celB hi2).2 hi3] at this
    simp at this
  | some k =>
    unfold placeL at hp
    have hm := List.mem_range.1 (List.mem_of_find?_eq_some hp)
    have hc := List.find?_some hp
    have hc2 : celB xs (spillN xs) k = true := by simpa using hc
    refine ⟨k, rfl, by omega, by unfold spillP placeL; rw [hp]; rfl, ?_, by omega, hc2, fun j hj => ?_⟩
    · have h3 := (cel_celB (by omega)).1 hc2
      unfold cel at h3
      exact (getD_nonneg hg.1 k).2.1 (by omega)
    · rw [List.find?_range_eq_some] at hp
      have := hp.2.2 j hj
      simpa using this

/-! ### Potentials along a play -/
def potsL (xs : List Int) (k : Nat) : List Int := (List.range (k + 1)).map fun i => pot (stepsL i xs)
theorem potsL_length (xs : List Int) (k : Nat) : (potsL xs k).length = k + 1 := by simp [potsL]
theorem potsL_getD (xs : List Int) {k i : Nat} (h : i ≤ k) : (potsL xs k).getD i 0 = pot (stepsL i xs) := by
  unfold potsL
  rw [List.getD_eq_getElem?_getD, List.getElem?_map, List.getElem?_range (by omega)]
  rfl
theorem potsL_succ (xs : List Int) (k : Nat) : potsL xs k ++ [pot (stepL (stepsL k xs))] = potsL xs (k + 1) := by
  unfold potsL
  rw [List.range_succ (n := k + 1), List.map_append]
  rfl
end
end Go.Proofs.Ytmfdimdcoeapoaa
namespace Go.Proofs.Ytmfdimdcoeapoaa
section
set_option linter.unusedVariables false
set_option linter.unusedSimpArgs false

structure RepL (D : DataW Unit) (ls : List Int) : Prop where
  tidy : Maps.Tidy D
  at_ : ∀ l : Nat, D.atKey (.int .i64 l) (.lit (.int .i64 0)) = .lit (.int .i64 (ls.getD l 0))
  has : ∀ l : Nat, Maps.has D (.int .i64 l) = decide (l < ls.length)
  size : Maps.size D = ls.length
theorem repL_empty : RepL (.map []) [] := ⟨Maps.tidy_empty, fun _ => rfl, fun _ => by simp [Maps.has], rfl⟩
theorem RepL.bumpV {D : DataW Unit} {ls : List Int} (h : RepL D ls) (l : Nat) (hl : l ≤ ls.length) : RepL (D.put (.int .i64 l) (.lit (.int .i64 (ls.getD l 0 + 1)))) (bumpV ls l) := by
  have hk : WideAt.IsKeyLit (.int .i64 (l : Int)) := trivial
  have hne : ∀ j : Nat, j ≠ l → (Lit.int .i64 (j : Int)) ≠ .int .i64 (l : Int) := fun j hj e => by
    simp only [Lit.int.injEq, true_and] at e
    omega
  refine ⟨h.tidy.put hk _, fun j => ?_, fun j => ?_, ?_⟩
  · rw [bumpV_getD ls l j hl]
    by_cases hj : j = l
    · subst hj; rw [if_pos rfl]; exact Maps.atKey_put_same h.tidy.isMap hk _ _
    · rw [if_neg hj, Int.add_zero, Maps.atKey_put_other (hne j hj)]; exact h.at_ j
  · rw [bumpV_length ls l hl]
    by_cases hj : j = l
    · subst hj; rw [Maps.has_put_same h.tidy.isMap hk, decide_eq_true (by omega)]
    · rw [Maps.has_put_other (hne j hj), h.has j]
      congr 1
      exact propext ⟨fun h => by omega, fun h => by omega⟩
  · rw [Maps.size_put h.tidy, h.has l, h.size, bumpV_length ls l hl]
    by_cases hc : l < ls.length
    · rw [decide_eq_true hc, if_pos rfl]; omega
    · rw [decide_eq_false hc, if_neg (by simp)]; omega
theorem tightMap {P : Program} {k : TypeId} {R : Value → Option (DataW Unit × List MemPlace)} {w : World} {b n : Nat} {D : DataW Unit} (h : w.ownsMap P k R b n D) : w.ownsMap P k R b (Maps.size D) D := by
  obtain ⟨es, clock, hb, F, hs, rfl⟩ := h
  exact ⟨es, clock, hb, F, by rw [Maps.size_eq, length_sorted]; simp, rfl⟩
end
end Go.Proofs.Ytmfdimdcoeapoaa
namespace Go.Proofs.Ytmfdimdcoeapoaa
section
set_option linter.unusedVariables false
set_option linter.unusedSimpArgs false

def mLevelsOf (xs : List Int) : List Int × Bool := (if goodB xs then lvsL xs else [], goodB xs)
theorem mLevels_yes {xs : List Int} (h : goodB xs = true) : mLevelsOf xs = (lvsL xs, true) := by unfold mLevelsOf; rw [h]; rfl
theorem mLevels_no {xs : List Int} (h : goodB xs = false) : mLevelsOf xs = ([], false) := by unfold mLevelsOf; rw [h]; rfl
theorem mLevelsOf_bound (xs : List Int) : (mLevelsOf xs).1.length ≤ 1048576 := by
  cases h : goodB xs
  · rw [mLevels_no h]; simp
  · rw [mLevels_yes h]; have := lvsL_le (good_iff.1 h); show (lvsL xs).length ≤ _; omega
def mPotentialOf (xs : List Int) : Int × Bool := (if goodB xs then pot xs else 0, goodB xs)
theorem mPot_yes {xs : List Int} (h : goodB xs = true) : mPotentialOf xs = (pot xs, true) := by unfold mPotentialOf; rw [h]; rfl
theorem mPot_no {xs : List Int} (h : goodB xs = false) : mPotentialOf xs = (0, false) := by unfold mPotentialOf; rw [h]; rfl
def mDropOf (xs : List Int) : Int × Bool := (if goodB xs then dropL xs else 0, goodB xs)
theorem mDrop_yes {xs : List Int} (h : goodB xs = true) : mDropOf xs = (dropL xs, true) := by unfold mDropOf; rw [h]; rfl
theorem mDrop_no {xs : List Int} (h : goodB xs = false) : mDropOf xs = (0, false) := by unfold mDropOf; rw [h]; rfl
def mPotentialsOf (xs : List Int) (k : Int) : List Int × Bool := if goodB xs = true ∧ 0 ≤ k ∧ k ≤ 1000 then (potsL xs k.toNat, true) else ([], false)
theorem mPots_yes {xs : List Int} {k : Nat} (h : goodB xs = true) (hk : k ≤ 1000) : mPotentialsOf xs k = (potsL xs k, true) := by unfold mPotentialsOf; rw [if_pos ⟨h, by omega, by omega⟩]; rfl
theorem mPots_no1 {xs : List Int} {k : Int} (h : goodB xs = false) : mPotentialsOf xs k = ([], false) := by unfold mPotentialsOf; rw [if_neg (by rw [h]; simp)]
theorem mPots_no2 {xs : List Int} {k : Int} (h : ¬ (0 ≤ k ∧ k ≤ 1000)) : mPotentialsOf xs k = ([], false) := by unfold mPotentialsOf; rw [if_neg (fun hh => h hh.2)]
theorem mPotentialsOf_bound (xs : List Int) (k : Int) : (mPotentialsOf xs k).1.length ≤ 1048576 := by
  unfold mPotentialsOf
  split
  · next h => have := potsL_length xs k.toNat; show (potsL xs k.toNat).length ≤ _; omega
  · simp
def mLeastPotential (n : Int) : Int × Bool := if 0 ≤ n ∧ n ≤ 28 then (leastI n.toNat, true) else (0, false)
theorem mLeast_yes {n : Nat} (h : n ≤ 28) : mLeastPotential n = (leastI n, true) := by unfold mLeastPotential; rw [if_pos (by omega)]; rfl
theorem mLeast_no {n : Int} (h : ¬ (0 ≤ n ∧ n ≤ 28)) : mLeastPotential n = (0, false) := by unfold mLeastPotential; rw [if_neg h]
def mGreatestPotential (n : Int) : Int × Bool := if 0 ≤ n ∧ n ≤ 28 then ((n * (n - 1)).tdiv 2, true) else (0, false)
theorem mGreat_yes {n : Int} (h : 0 ≤ n ∧ n ≤ 28) : mGreatestPotential n = ((n * (n - 1)).tdiv 2, true) := by unfold mGreatestPotential; rw [if_pos h]
theorem mGreat_no {n : Int} (h : ¬ (0 ≤ n ∧ n ≤ 28)) : mGreatestPotential n = (0, false) := by unfold mGreatestPotential; rw [if_neg h]
def mIsLeast (xs : List Int) : Bool × Bool := (goodB xs && cycB xs, goodB xs)
theorem mIsLeast_yes {xs : List Int} (h : goodB xs = true) : mIsLeast xs = (cycB xs, true) := by unfold mIsLeast; rw [h]; rfl
theorem mIsLeast_no {xs : List Int} (h : goodB xs = false) : mIsLeast xs = (false, false) := by unfold mIsLeast; rw [h]; rfl
def mNextDrop (xs : List Int) : Int × Bool := if goodB xs = true ∧ ¬ Cyc xs then ((ndL xs : Int) + 1, true) else (0, false)
theorem mNext_yes {xs : List Int} (h : goodB xs = true) (hc : ¬ Cyc xs) : mNextDrop xs = ((ndL xs : Int) + 1, true) := by unfold mNextDrop; rw [if_pos ⟨h, hc⟩]
theorem mNext_no1 {xs : List Int} (h : goodB xs = false) : mNextDrop xs = (0, false) := by unfold mNextDrop; rw [if_neg (by rw [h]; simp)]
theorem mNext_no2 {xs : List Int} (h : Cyc xs) : mNextDrop xs = (0, false) := by unfold mNextDrop; rw [if_neg (fun hh => hh.2 h)]
/-- whether there is a card at a place -/
def cardB (xs : List Int) (pile place : Int) : Bool := decide ((0 ≤ pile ∧ pile < xs.length) ∧ 0 ≤ place ∧ place < xs.getD pile.toNat 0)
def mCardBehind (xs : List Int) (pile place : Int) : Int × Int × Bool := if goodB xs = true ∧ cardB xs pile place = true then (if place = 0 then 0 else pile + 1, if place = 0 then pile else place - 1, true) else (0, 0, false)
theorem mCard_no {xs : List Int} {pile place : Int} (h : ¬ (goodB xs = true ∧ cardB xs pile place = true)) : mCardBehind xs pile place = (0, 0, false) := by unfold mCardBehind; rw [if_neg h]
theorem mCard_yes0 {xs : List Int} {pile : Int} (h : goodB xs = true) (hc : cardB xs pile 0 = true) : mCardBehind xs pile 0 = (0, pile, true) := by unfold mCardBehind; rw [if_pos ⟨h, hc⟩, if_pos rfl, if_pos rfl]
theorem mCard_yes1 {xs : List Int} {pile place : Int} (h : goodB xs = true) (hc : cardB xs pile place = true) (h0 : ¬ place = 0) : mCardBehind xs pile place = (pile + 1, place - 1, true) := by unfold mCardBehind; rw [if_pos ⟨h, hc⟩, if_neg h0, if_neg h0]
def mRoundOf (l k : Int) : Int × Bool := if (0 ≤ l ∧ l ≤ 28) ∧ 0 ≤ k ∧ k ≤ 1000 then (k.tmod (l + 1), true) else (0, false)
theorem mRound_yes {l k : Int} (h : 0 ≤ l ∧ l ≤ 28) (h2 : 0 ≤ k ∧ k ≤ 1000) : mRoundOf l k = (k.tmod (l + 1), true) := by unfold mRoundOf; rw [if_pos ⟨h, h2⟩]
theorem mRound_no1 {l k : Int} (h : ¬ (0 ≤ l ∧ l ≤ 28)) : mRoundOf l k = (0, false) := by unfold mRoundOf; rw [if_neg (fun hh => h hh.1)]
theorem mRound_no2 {l k : Int} (h : ¬ (0 ≤ k ∧ k ≤ 1000)) : mRoundOf l k = (0, false) := by unfold mRoundOf; rw [if_neg (fun hh => h hh.2)]
def mHoleOf (xs : List Int) : Int × Int × Bool := if goodB xs = true then (holeN xs, holeP xs, true) else (0, 0, false)
theorem mHole_yes {xs : List Int} (h : goodB xs = true) : mHoleOf xs = (((holeN xs : Nat) : Int), ((holeP xs : Nat) : Int), true) := by unfold mHoleOf; rw [if_pos h]
theorem mHole_no {xs : List Int} (h : goodB xs = false) : mHoleOf xs = (0, 0, false) := by unfold mHoleOf; rw [if_neg (by rw [h]; simp)]
def mSpillOf (xs : List Int) : Int × Int × Bool := if goodB xs = true ∧ xs ≠ [] then (spillN xs, spillP xs, true) else (0, 0, false)
theorem mSpill_yes {xs : List Int} (h : goodB xs = true) (h2 : xs ≠ []) : mSpillOf xs = (((spillN xs : Nat) : Int), ((spillP xs : Nat) : Int), true) := by unfold mSpillOf; rw [if_pos ⟨h, h2⟩]
theorem mSpill_no1 {xs : List Int} (h : goodB xs = false) : mSpillOf xs = (0, 0, false) := by unfold mSpillOf; rw [if_neg (by rw [h]; simp)]
theorem mSpill_no2 {xs : List Int} (h : xs = []) : mSpillOf xs = (0, 0, false) := by unfold mSpillOf; rw [if_neg (fun hh => hh.2 h)]

theorem putLev (ls : List Int) (j : Nat) (hj : j < ls.length) : (ls.take j ++ List.replicate (ls.length - j) 0).set j (ls.getD j 0) = ls.take (j + 1) ++ List.replicate (ls.length - (j + 1)) 0 := by
  apply List.ext_getElem
  · simp; omega
  · intro i h1 h2
    simp at h1
    rw [List.getElem_set]
    split
    · next e =>
      subst e
      rw [List.getElem_append_left (by simp; omega), List.getElem_take, List.getD_eq_getElem?_getD, List.getElem?_eq_getElem hj]
      rfl
    · next e =>
      by_cases hi : i < j
      · rw [List.getElem_append_left (by simp; omega), List.getElem_append_left (by simp; omega), List.getElem_take, List.getElem_take]
      · rw [List.getElem_append_right (by simp; omega), List.getElem_append_right (by simp; omega)]
        simp
/-- small facts on the least potential -/
theorem ls_small : ∀ n, n < 29 → ∀ k, k < 8 → (-1000 ≤ lsN n k ∧ lsN n k ≤ 1000) ∧ (-1000 ≤ (k : Int) * min ((n : Int) - tri k) (k + 1) ∧ (k : Int) * min ((n : Int) - tri k) (k + 1) ≤ 1000) := by decide +kernel
theorem full_small : ∀ k, k < 8 → (0 ≤ fullN k ∧ fullN k ≤ 1000) ∧ 0 ≤ (k : Int) * ((k : Int) + 1) ∧ (k : Int) * ((k : Int) + 1) ≤ 1000 := by decide +kernel
theorem more_small : ∀ n, n < 29 → 0 ≤ (hgt n : Int) * ((n : Int) - tri (hgt n)) ∧ (hgt n : Int) * ((n : Int) - tri (hgt n)) ≤ 1000 ∧ 0 ≤ (n : Int) - tri (hgt n) ∧ (n : Int) - tri (hgt n) ≤ 28 := by decide +kernel
theorem tri_small : ∀ k, k < 8 → tri k ≤ 28 ∧ (tri k = 28 → k = 7) := by decide +kernel
theorem great_small : ∀ n : Nat, n < 29 → 0 ≤ (n : Int) * ((n : Int) - 1) ∧ (n : Int) * ((n : Int) - 1) ≤ 1000 ∧ 0 ≤ ((n : Int) * ((n : Int) - 1)).tdiv 2 ∧ ((n : Int) * ((n : Int) - 1)).tdiv 2 ≤ 1000 := by decide +kernel
theorem drop_next {xs : List Int} (hg : Good xs) (h : ¬ Cyc xs) {j : Nat} (hz : ∀ r, r < j → dropL (stepsL r xs) = 0) : j ≤ ndL xs ∧ (dropL (stepsL j xs) = 0 → j < ndL xs) ∧ (¬ dropL (stepsL j xs) = 0 → j = ndL xs) := by
  have hs := nd_spec hg h
  have h1 : j ≤ ndL xs := by
    apply Nat.le_of_not_lt
    intro hl
    have := hz _ hl
    omega
  refine ⟨h1, fun e => ?_, fun e => ?_⟩
  · rcases Nat.lt_or_eq_of_le h1 with hl | he
    · exact hl
    · rw [he] at e; omega
  · rcases Nat.lt_or_eq_of_le h1 with hl | he
    · exact absurd (hs.2.1 _ hl) e
    · exact he
end
end Go.Proofs.Ytmfdimdcoeapoaa
