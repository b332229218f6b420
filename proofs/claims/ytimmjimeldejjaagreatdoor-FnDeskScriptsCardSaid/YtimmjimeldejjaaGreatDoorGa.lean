/- Several texts in one: Math, Count, Side, StepM, MathC, MathD, AllM, LawM, OrbM, OrbN, MeetM, FirstM, FirstC, ByTailM, SrtM. No condition. -/
import Derived.Lib.Hide
namespace Go.Proofs.YtimmjimeldejjaaGreatDoor
section
set_option linter.unusedVariables false
set_option linter.unusedSimpArgs false

def Good (xs : List Int) : Prop := (∀ x ∈ xs, 1 ≤ x) ∧ xs.Pairwise (· ≥ ·) ∧ xs.sum ≤ 28
instance (xs : List Int) : Decidable (Good xs) := by unfold Good; infer_instance
def goodB (xs : List Int) : Bool := decide (Good xs)

theorem good_iff {xs : List Int} : goodB xs = true ↔ Good xs := by unfold goodB; simp

theorem sum_nonneg {xs : List Int} (h : ∀ x ∈ xs, 1 ≤ x) : (xs.length : Int) ≤ xs.sum := by
  induction xs with
  | nil => simp
  | cons a l ih =>
    have := h a (by simp)
    have := ih (fun x hx => h x (by simp [hx]))
    simp only [List.length_cons, List.sum_cons]
    omega

theorem mem_le_sum {xs : List Int} (h : ∀ x ∈ xs, 1 ≤ x) {x : Int} (hx : x ∈ xs) : x ≤ xs.sum := by
  induction xs with
  | nil => cases hx
  | cons a l ih =>
    have h1 := h a (by simp)
    have h2 := sum_nonneg (fun x hx => h x (List.mem_cons_of_mem a hx) : ∀ x ∈ l, 1 ≤ x)
    simp only [List.sum_cons]
    rcases List.mem_cons.1 hx with rfl | hm
    · omega
    · have := ih (fun x hx => h x (by simp [hx])) hm
      omega

theorem Good.len {xs : List Int} (h : Good xs) : xs.length ≤ 28 := by have := sum_nonneg h.1; have := h.2.2; omega
theorem Good.mem {xs : List Int} (h : Good xs) {x : Int} (hx : x ∈ xs) : 1 ≤ x ∧ x ≤ 28 := ⟨h.1 x hx, by have := mem_le_sum h.1 hx; have := h.2.2; omega⟩

theorem Good.pre {xs ys : List Int} (h : Good (xs ++ ys)) : Good xs := by
  obtain ⟨h1, h2, h3⟩ := h
  refine ⟨fun x hx => h1 x (by simp [hx]), (List.pairwise_append.1 h2).1, ?_⟩
  have := sum_nonneg (fun x hx => h1 x (by simp [hx]) : ∀ x ∈ ys, 1 ≤ x)
  rw [List.sum_append] at h3
  omega

theorem Good.take {xs : List Int} (h : Good xs) (k : Nat) : Good (xs.take k) := by
  rw [← List.take_append_drop k xs] at h
  exact h.pre

theorem getLast_take {xs : List Int} {k n : Nat} {y : Int} (hk : 0 < k) (hn : k ≤ n) (hl : xs.length = n) (hy : xs.getD (k - 1) 0 = y) : (xs.take k).getLast? = some y := by
  subst hl hy
  rw [List.getLast?_eq_getElem?, List.length_take, Nat.min_eq_left hn, List.getElem?_take, if_pos (by omega), List.getD_eq_getElem?_getD, List.getElem?_eq_getElem (by omega)]
  rfl

theorem good_nil : Good [] := ⟨by simp, by simp, by simp⟩

/-! ### piGood's own way -/
theorem good_spec {xs : List Int} : Good xs ↔ xs.length ≤ 28 ∧ (∀ x ∈ xs, 1 ≤ x ∧ x ≤ 28) ∧ (∀ k, 0 < k → k < xs.length → xs.getD k 0 ≤ xs.getD (k - 1) 0) ∧ xs.sum ≤ 28 := by
  constructor
  · intro h
    refine ⟨h.len, fun x hx => h.mem hx, fun k hk hl => ?_, h.2.2⟩
    have := List.pairwise_iff_getElem.1 h.2.1 (k - 1) k (by omega) hl (by omega)
    rw [List.getD_eq_getElem?_getD, List.getElem?_eq_getElem (by omega), List.getD_eq_getElem?_getD, List.getElem?_eq_getElem (by omega)]
    exact this
  · rintro ⟨_, h2, h3, h4⟩
    refine ⟨fun x hx => (h2 x hx).1, ?_, h4⟩
    rw [List.pairwise_iff_getElem]
    intro i j hi hj hij
    have key : ∀ d i, i + d < xs.length → xs.getD (i + d) 0 ≤ xs.getD i 0 := by
      intro d
      induction d with
      | zero => intro i _; exact Int.le_refl _
      | succ d ih =>
        intro i hi
        have := ih i (by omega)
        have h5 := h3 (i + (d + 1)) (by omega) hi
        rw [show i + (d + 1) - 1 = i + d by omega] at h5
        omega
    have := key (j - i) i (by omega)
    rw [show i + (j - i) = j by omega, List.getD_eq_getElem?_getD, List.getElem?_eq_getElem hj, List.getD_eq_getElem?_getD, List.getElem?_eq_getElem hi] at this
    exact this

/-! ### Rows -/
def RowOk (xs : List Int) : Prop := (∀ x ∈ xs, 1 ≤ x) ∧ xs.sum ≤ 28
instance (xs : List Int) : Decidable (RowOk xs) := by unfold RowOk; infer_instance
def rowB (xs : List Int) : Bool := decide (RowOk xs)
theorem row_iff {xs : List Int} : rowB xs = true ↔ RowOk xs := by unfold rowB; simp
theorem Good.row {xs : List Int} (h : Good xs) : RowOk xs := ⟨h.1, h.2.2⟩
theorem RowOk.len {xs : List Int} (h : RowOk xs) : xs.length ≤ 28 := by have := sum_nonneg h.1; have := h.2; omega
theorem RowOk.mem {xs : List Int} (h : RowOk xs) {x : Int} (hx : x ∈ xs) : 1 ≤ x ∧ x ≤ 28 := ⟨h.1 x hx, by have := mem_le_sum h.1 hx; have := h.2; omega⟩
theorem RowOk.pre {xs ys : List Int} (h : RowOk (xs ++ ys)) : RowOk xs := by
  obtain ⟨h1, h3⟩ := h
  refine ⟨fun x hx => h1 x (by simp [hx]), ?_⟩
  have := sum_nonneg (fun x hx => h1 x (by simp [hx]) : ∀ x ∈ ys, 1 ≤ x)
  rw [List.sum_append] at h3
  omega
theorem RowOk.take {xs : List Int} (h : RowOk xs) (k : Nat) : RowOk (xs.take k) := by
  rw [← List.take_append_drop k xs] at h
  exact h.pre
theorem row_nil : RowOk [] := ⟨by simp, by simp⟩
theorem row_snoc {xs : List Int} {x : Int} (h : RowOk xs) : RowOk (xs ++ [x]) ↔ 1 ≤ x ∧ x ≤ 28 - xs.sum := by
  constructor
  · intro hg
    exact ⟨hg.1 x (by simp), by have := hg.2; simp at this; omega⟩
  · rintro ⟨h1, h2⟩
    refine ⟨fun y hy => ?_, by simp; omega⟩
    rcases List.mem_append.1 hy with h' | h'
    · exact h.1 y h'
    · simp at h'; omega
theorem good_row_sorted {xs : List Int} (hs : ∀ k, 0 < k → k < xs.length → xs.getD k 0 ≤ xs.getD (k - 1) 0) : goodB xs = rowB xs := by
  unfold goodB rowB
  rw [decide_eq_decide, good_spec]
  exact ⟨fun h => ⟨fun x hx => (h.2.1 x hx).1, h.2.2.2⟩, fun h => ⟨h.len, fun x hx => h.mem hx, hs, h.2⟩⟩
end
end Go.Proofs.YtimmjimeldejjaaGreatDoor
namespace Go.Proofs.YtimmjimeldejjaaGreatDoor
section
set_option linter.unusedVariables false
set_option linter.unusedSimpArgs false

/-- the next row of the table: piles of p cards more -/
def stepC (l : List Nat) (p : Nat) : List Nat := (List.range 29).foldl (fun acc c => acc ++ [l.getD c 0 + if p ≤ c then acc.getD (c - p) 0 else 0]) []
def crow : Nat → List Nat
  | 0 => 1 :: List.replicate 28 0
  | m + 1 => stepC (crow m) (m + 1)
/-- how many piles of n cards there are, none greater than m (m, n at most 28) -/
def cnt (m n : Nat) : Nat := (crow m).getD n 0

theorem cnt_rec : ∀ m, m < 28 → ∀ n, n < 29 → cnt (m + 1) n = cnt m n + if m + 1 ≤ n then cnt (m + 1) (n - (m + 1)) else 0 := by decide +kernel
theorem cnt_le : ∀ m, m < 29 → ∀ n, n < 29 → cnt m n ≤ 3718 := by decide +kernel
theorem cnt_zero : ∀ m, m < 29 → cnt m 0 = 1 := by decide +kernel
theorem cnt_none : ∀ n, n < 29 → cnt 0 n = if n = 0 then 1 else 0 := by decide +kernel
/-- a greater bound than the cards changes nothing -/
theorem cnt_big : ∀ m, m < 29 → ∀ n, n ≤ m → cnt m n = cnt n n := by decide +kernel
/-! ### Staircases -/
def hgt (n : Nat) : Nat := if n < 1 then 0 else if n < 3 then 1 else if n < 6 then 2 else if n < 10 then 3 else if n < 15 then 4 else if n < 21 then 5 else if n < 28 then 6 else 7
theorem hgt_cases (n : Nat) (h : n ≤ 28) : (n < 1 ∧ hgt n = 0) ∨ (1 ≤ n ∧ n < 3 ∧ hgt n = 1) ∨ (3 ≤ n ∧ n < 6 ∧ hgt n = 2) ∨ (6 ≤ n ∧ n < 10 ∧ hgt n = 3) ∨ (10 ≤ n ∧ n < 15 ∧ hgt n = 4) ∨ (15 ≤ n ∧ n < 21 ∧ hgt n = 5) ∨ (21 ≤ n ∧ n < 28 ∧ hgt n = 6) ∨ (n = 28 ∧ hgt n = 7) := by
  unfold hgt
  repeat' (first | omega | split)
def tri (k : Nat) : Nat := k * (k + 1) / 2
theorem hgt_le (n : Nat) : hgt n ≤ 7 := by unfold hgt; repeat' (first | omega | split)
theorem tri_hgt : ∀ n, n < 29 → tri (hgt n) ≤ n ∧ n - tri (hgt n) ≤ hgt n := by decide

end
end Go.Proofs.YtimmjimeldejjaaGreatDoor
namespace Go.Proofs.YtimmjimeldejjaaGreatDoor
section
set_option linter.unusedVariables false
set_option linter.unusedSimpArgs false

def above (xs : List Int) (i : Int) : Nat := xs.countP (fun x => decide (i < x))
theorem above_nil (i : Int) : above [] i = 0 := rfl
theorem above_snoc (xs : List Int) (x i : Int) : above (xs ++ [x]) i = above xs i + if i < x then 1 else 0 := by
  unfold above
  rw [List.countP_append, List.countP_singleton]
  simp
theorem above_le (xs : List Int) (i : Int) : above xs i ≤ xs.length := List.countP_le_length
def sideL (xs : List Int) : List Int := (List.range (xs.headD 0).toNat).map fun (i : Nat) => ((above xs i : Nat) : Int)
theorem sideL_length (xs : List Int) : (sideL xs).length = (xs.headD 0).toNat := by simp [sideL]
theorem sideL_getD (xs : List Int) (i : Nat) (h : i < (xs.headD 0).toNat) : (sideL xs).getD i 0 = ((above xs i : Nat) : Int) := by
  unfold sideL
  rw [List.getD_eq_getElem?_getD, List.getElem?_map, List.getElem?_range h]
  rfl
def mSideOf (xs : List Int) : List Int × Bool := (if goodB xs then sideL xs else [], goodB xs)
theorem head_getD (xs : List Int) : xs.headD 0 = xs.getD 0 0 := by cases xs <;> rfl
theorem Good.head {xs : List Int} (h : Good xs) : 0 ≤ xs.headD 0 ∧ xs.headD 0 ≤ 28 := by
  cases xs with
  | nil => simp
  | cons a l => have := h.mem (List.mem_cons_self (a := a) (l := l)); simp only [List.headD_cons]; omega
/-- the marks of the first j piles, and of the next one's first i cards -/
def sideT (xs : List Int) (m j i : Nat) : List Int := (List.range m).map fun (q : Nat) => ((above (xs.take j) q + (if q < i then 1 else 0) : Nat) : Int)
theorem sideT_length (xs : List Int) (m j i : Nat) : (sideT xs m j i).length = m := by simp [sideT]
theorem sideT_getD (xs : List Int) (m j i q : Nat) (h : q < m) : (sideT xs m j i).getD q 0 = ((above (xs.take j) q + (if q < i then 1 else 0) : Nat) : Int) := by
  unfold sideT
  rw [List.getD_eq_getElem?_getD, List.getElem?_map, List.getElem?_range h]
  rfl
theorem sideT_zero (xs : List Int) (m : Nat) : List.replicate m (0 : Int) = sideT xs m 0 0 := by
  apply List.ext_getElem
  · simp [sideT_length]
  · intro i h1 h2
    simp [sideT, above_nil]
theorem sideT_set (xs : List Int) (m j i : Nat) (h : i < m) (q : Int) (hq : q = ((above (xs.take j) i : Nat) : Int) + 1) : (sideT xs m j i).set i q = sideT xs m j (i + 1) := by
  subst hq
  apply List.ext_getElem
  · simp [sideT_length]
  · intro r h1 h2
    simp [sideT_length] at h2
    rw [List.getElem_set]
    split
    · next e => subst e; simp only [sideT, List.getElem_map, List.getElem_range]; rw [if_pos (by omega)]; simp
    · next e =>
      simp only [sideT, List.getElem_map, List.getElem_range]
      by_cases hr : r < i
      · rw [if_pos hr, if_pos (by omega)]
      · rw [if_neg hr, if_neg (by omega)]
theorem sideT_next (xs : List Int) (m j n : Nat) (x : Int) (hj : j < n) (hl : xs.length = n) (hx : xs.getD j 0 = x) (h0 : 0 ≤ x) : sideT xs m j x.toNat = sideT xs m (j + 1) 0 := by
  have e : xs.take (j + 1) = xs.take j ++ [x] := by
    subst hx hl
    rw [List.take_add_one, List.getElem?_eq_getElem hj, List.getD_eq_getElem?_getD, List.getElem?_eq_getElem hj]
    rfl
  apply List.ext_getElem
  · simp [sideT_length]
  · intro r h1 h2
    simp [sideT_length] at h2
    simp only [sideT, List.getElem_map, List.getElem_range, e, above_snoc]
    by_cases hr : r < x.toNat
    · rw [if_pos hr, if_pos (by omega)]; simp
    · rw [if_neg hr, if_neg (by omega)]; simp
theorem sideT_all (xs : List Int) (n : Nat) (hl : xs.length = n) : sideT xs (xs.headD 0).toNat n 0 = sideL xs := by
  unfold sideT sideL
  rw [List.take_of_length_le (by omega)]
  simp
theorem good_le_head {xs : List Int} (h : Good xs) {x : Int} (hx : x ∈ xs) : x ≤ xs.headD 0 := by
  cases xs with
  | nil => cases hx
  | cons a l =>
    simp only [List.headD_cons]
    rcases List.mem_cons.1 hx with rfl | hm
    · omega
    · exact (List.pairwise_cons.1 h.2.1).1 x hm
end
end Go.Proofs.YtimmjimeldejjaaGreatDoor
namespace Go.Proofs.YtimmjimeldejjaaGreatDoor
section
set_option linter.unusedVariables false
set_option linter.unusedSimpArgs false

/-- all numbers so that they do not rise -/
def sortD (xs : List Int) : List Int := xs.mergeSort (fun x y => decide (y ≤ x))
theorem sortD_perm (xs : List Int) : (sortD xs).Perm xs := List.mergeSort_perm _ _
theorem sortD_sorted (xs : List Int) : (sortD xs).Pairwise (· ≥ ·) := by
  have := List.pairwise_mergeSort (le := fun (x y : Int) => decide (y ≤ x)) (fun a b c h1 h2 => by simp at *; omega) (fun a b => by simp; omega) xs
  exact this.imp (fun {a b} h => by simp at h; show a ≥ b; omega)
/-- two lists that do not rise and have the same numbers are one -/
theorem sorted_unique {xs ys : List Int} (h1 : xs.Pairwise (· ≥ ·)) (h2 : ys.Pairwise (· ≥ ·)) (hp : xs.Perm ys) : xs = ys :=
  List.Perm.eq_of_pairwise (fun a b _ _ h h' => by have h : a ≥ b := h; have h' : b ≥ a := h'; omega) h1 h2 hp
theorem sortD_unique {xs ys : List Int} (h1 : ys.Pairwise (· ≥ ·)) (hp : ys.Perm xs) : ys = sortD xs := sorted_unique h1 (sortD_sorted xs) (hp.trans (sortD_perm xs).symm)
theorem sortD_nil : sortD [] = [] := by unfold sortD; simp
theorem sortD_perm_eq {xs ys : List Int} (h : xs.Perm ys) : sortD xs = sortD ys := sortD_unique (sortD_sorted xs) ((sortD_perm xs).trans h)
theorem sortD_length (xs : List Int) : (sortD xs).length = xs.length := (sortD_perm xs).length_eq
theorem perm_sum {xs ys : List Int} (h : xs.Perm ys) : xs.sum = ys.sum := by
  induction h with
  | nil => rfl
  | cons x _ ih => simp only [List.sum_cons, ih]
  | swap x y l => simp only [List.sum_cons]; omega
  | trans _ _ ih1 ih2 => rw [ih1, ih2]

/-- one number put in its place -/
theorem put_eq {xs : List Int} {n : Int} {k : Nat} (hs : xs.Pairwise (· ≥ ·)) (h1 : ∀ x ∈ xs.take k, n ≤ x) (h2 : ∀ x ∈ xs.drop k, x ≤ n) : xs.take k ++ [n] ++ xs.drop k = sortD (xs ++ [n]) := by
  refine sortD_unique ?_ ?_
  · have hsp := hs
    rw [← List.take_append_drop k xs, List.pairwise_append] at hsp
    rw [List.append_assoc, List.pairwise_append]
    refine ⟨hsp.1, ?_, fun a ha b hb => ?_⟩
    · rw [List.singleton_append, List.pairwise_cons]
      exact ⟨fun a ha => h2 a ha, hsp.2.1⟩
    · rcases List.mem_append.1 hb with h | h
      · rw [List.mem_singleton.1 h]; exact h1 a ha
      · exact hsp.2.2 a ha b h
  · have : (xs.take k ++ [n] ++ xs.drop k).Perm (xs.take k ++ (xs.drop k ++ [n])) := by
      rw [List.append_assoc]
      exact List.Perm.append_left _ List.perm_append_comm
    refine this.trans ?_
    rw [← List.append_assoc, List.take_append_drop]

/-- the piles behind a step, before the new one is put in -/
def lowL (xs : List Int) : List Int := (xs.filter (fun x => decide (1 < x))).map (· - 1)
theorem lowL_snoc (xs : List Int) (x : Int) : lowL (xs ++ [x]) = lowL xs ++ if 1 < x then [x - 1] else [] := by
  unfold lowL
  rw [List.filter_append, List.map_append]
  by_cases h : 1 < x <;> simp [h, List.filter_cons]
theorem lowL_length (xs : List Int) : (lowL xs).length ≤ xs.length := by
  unfold lowL; rw [List.length_map]; exact List.length_filter_le _ _
theorem lowL_mem {xs : List Int} {x : Int} (h : x ∈ lowL xs) : ∃ y ∈ xs, 1 < y ∧ x = y - 1 := by
  unfold lowL at h
  obtain ⟨y, hy, rfl⟩ := List.mem_map.1 h
  obtain ⟨hy1, hy2⟩ := List.mem_filter.1 hy
  exact ⟨y, hy1, by simpa using hy2, rfl⟩
theorem lowL_sorted {xs : List Int} (h : xs.Pairwise (· ≥ ·)) : (lowL xs).Pairwise (· ≥ ·) := by
  unfold lowL
  rw [List.pairwise_map]
  exact (h.filter _).imp (fun {a b} h => by have h : a ≥ b := h; show a - 1 ≥ b - 1; omega)
theorem lowL_sum {xs : List Int} (h : ∀ x ∈ xs, 1 ≤ x) : (lowL xs).sum = xs.sum - xs.length := by
  induction xs with
  | nil => rfl
  | cons a l ih =>
    have ih := ih (fun x hx => h x (by simp [hx]))
    have ha := h a (by simp)
    unfold lowL at *
    by_cases h1 : 1 < a
    · rw [List.filter_cons_of_pos (by simpa using h1)]
      simp only [List.map_cons, List.sum_cons, List.length_cons, ih]; omega
    · rw [List.filter_cons_of_neg (by simpa using h1)]
      simp only [List.sum_cons, List.length_cons, ih]; omega

def stepL (xs : List Int) : List Int := if xs = [] then [] else sortD (lowL xs ++ [(xs.length : Int)])
theorem stepL_nil : stepL [] = [] := rfl
theorem stepL_cons {xs : List Int} (h : xs ≠ []) : stepL xs = sortD (lowL xs ++ [(xs.length : Int)]) := by unfold stepL; rw [if_neg h]
theorem stepL_sum {xs : List Int} (h : ∀ x ∈ xs, 1 ≤ x) : (stepL xs).sum = xs.sum := by
  by_cases hx : xs = []
  · subst hx; rfl
  · rw [stepL_cons hx, perm_sum (sortD_perm _), List.sum_append, lowL_sum h]
    simp only [List.sum_cons, List.sum_nil]; omega
theorem stepL_good {xs : List Int} (h : Good xs) : Good (stepL xs) := by
  by_cases hx : xs = []
  · subst hx; exact good_nil
  · refine ⟨fun x hm => ?_, ?_, by rw [stepL_sum h.1]; exact h.2.2⟩
    · rw [stepL_cons hx] at hm
      rcases List.mem_append.1 ((sortD_perm _).mem_iff.1 hm) with hl | hl
      · obtain ⟨y, _, h1, rfl⟩ := lowL_mem hl; omega
      · rw [List.mem_singleton.1 hl]
        have : xs.length ≠ 0 := fun e => hx (List.eq_nil_of_length_eq_zero e)
        omega
    · rw [stepL_cons hx]; exact sortD_sorted _
/-- the piles behind k steps -/
def stepsL : Nat → List Int → List Int
  | 0, xs => xs
  | k + 1, xs => stepL (stepsL k xs)
theorem stepsL_good {xs : List Int} (h : Good xs) (k : Nat) : Good (stepsL k xs) := by
  induction k with
  | zero => exact h
  | succ k ih => exact stepL_good ih

/-! ### A step of a row -/
def rowStepL (xs : List Int) : List Int := if xs = [] then [] else (xs.length : Int) :: lowL xs
theorem rowStepL_nil : rowStepL [] = [] := rfl
theorem rowStepL_cons {xs : List Int} (h : xs ≠ []) : rowStepL xs = (xs.length : Int) :: lowL xs := by unfold rowStepL; rw [if_neg h]
theorem lowL_pos {xs : List Int} {x : Int} (h : x ∈ lowL xs) : 1 ≤ x := by
  obtain ⟨y, _, h1, rfl⟩ := lowL_mem h
  omega
theorem rowStepL_row {xs : List Int} (h : RowOk xs) : RowOk (rowStepL xs) := by
  by_cases hx : xs = []
  · subst hx; exact row_nil
  · rw [rowStepL_cons hx]
    have hl : 1 ≤ xs.length := List.length_pos_iff.2 hx
    refine ⟨fun x hm => ?_, ?_⟩
    · rcases List.mem_cons.1 hm with rfl | hm
      · omega
      · exact lowL_pos hm
    · rw [List.sum_cons, lowL_sum h.1]
      have := h.2
      omega
theorem stepL_row (xs : List Int) : stepL xs = sortD (rowStepL xs) := by
  by_cases hx : xs = []
  · subst hx; rw [stepL_nil, rowStepL_nil, sortD_nil]
  · rw [stepL_cons hx, rowStepL_cons hx]
    exact sortD_perm_eq (List.perm_append_singleton _ _)

end
end Go.Proofs.YtimmjimeldejjaaGreatDoor
namespace Go.Proofs.YtimmjimeldejjaaGreatDoor
section
set_option linter.unusedVariables false
set_option linter.unusedSimpArgs false

/-! ### The side of the side -/
theorem above_cons (x : Int) (xs : List Int) (i : Int) : above (x :: xs) i = above xs i + if i < x then 1 else 0 := by
  unfold above
  rw [List.countP_cons]
  simp
theorem above_zero {xs : List Int} {i : Int} (h : ∀ x ∈ xs, x ≤ i) : above xs i = 0 := by
  unfold above
  rw [List.countP_eq_zero]
  intro x hx
  have := h x hx
  simp; omega
/-- what a sorted list says of its places -/
theorem above_gt {xs : List Int} (hs : xs.Pairwise (· ≥ ·)) (h0 : ∀ x ∈ xs, 0 ≤ x) (i : Nat) (j : Int) (hj : 0 ≤ j) : i < above xs j ↔ j < xs.getD i 0 := by
  induction xs generalizing i with
  | nil => simp [above_nil]; omega
  | cons a l ih =>
    have hs' := List.pairwise_cons.1 hs
    have ih := fun i => ih hs'.2 (fun x hx => h0 x (by simp [hx])) i
    rw [above_cons]
    by_cases hja : j < a
    · rw [if_pos hja]
      cases i with
      | zero => simp [hja]
      | succ i => simp only [List.getD_cons_succ]; rw [← ih i]; omega
    · rw [if_neg hja]
      have hz : above l j = 0 := above_zero (fun x hx => by have : a ≥ x := hs'.1 x hx; omega)
      rw [hz]
      cases i with
      | zero => simp; omega
      | succ i =>
        have := ih i
        rw [hz] at this
        simp only [List.getD_cons_succ]
        omega
theorem countP_range (m : Nat) (v : Int) (h0 : 0 ≤ v) (hv : v ≤ m) : (List.range m).countP (fun (j : Nat) => decide ((j : Int) < v)) = v.toNat := by
  induction m generalizing v with
  | zero => have : v = 0 := by omega
            subst this; rfl
  | succ m ih =>
    rw [List.range_succ, List.countP_append, List.countP_singleton]
    by_cases h : v ≤ m
    · rw [ih v h0 h, if_neg (by simp; omega)]; rfl
    · have hm := ih m (by omega) (by omega)
      have e : (List.range m).countP (fun (j : Nat) => decide ((j : Int) < v)) = (List.range m).countP (fun (j : Nat) => decide ((j : Int) < (m : Int))) := by
        apply List.countP_congr
        intro j hj
        have := List.mem_range.1 hj
        simp; omega
      rw [e, hm, if_pos (by simp; omega)]
      omega
theorem side_sorted {xs : List Int} : (sideL xs).Pairwise (· ≥ ·) := by
  unfold sideL
  rw [List.pairwise_map]
  refine List.Pairwise.imp ?_ List.pairwise_lt_range
  intro a b hab
  show ((above xs a : Nat) : Int) ≥ ((above xs b : Nat) : Int)
  have : above xs b ≤ above xs a := by
    unfold above
    apply List.countP_mono_left
    intro x _ hx
    simp at hx ⊢; omega
  omega
theorem sum_range_add (m : Nat) (f g : Nat → Int) : ((List.range m).map fun i => f i + g i).sum = ((List.range m).map f).sum + ((List.range m).map g).sum := by
  induction m with
  | zero => rfl
  | succ m ih => simp only [List.range_succ, List.map_append, List.sum_append, ih, List.map_cons, List.map_nil, List.sum_cons, List.sum_nil]; omega
theorem sum_range_ind (m : Nat) (v : Int) (h0 : 0 ≤ v) (hv : v ≤ m) : ((List.range m).map fun (i : Nat) => if (i : Int) < v then (1 : Int) else 0).sum = v := by
  have := countP_range m v h0 hv
  have e : ∀ l : List Nat, (l.map fun (i : Nat) => if (i : Int) < v then (1 : Int) else 0).sum = ((l.countP (fun (j : Nat) => decide ((j : Int) < v)) : Nat) : Int) := by
    intro l
    induction l with
    | nil => rfl
    | cons a l ih => rw [List.map_cons, List.sum_cons, ih, List.countP_cons]; by_cases h : (a : Int) < v <;> simp [h]; omega
  rw [e, this]; omega
theorem sum_above (xs : List Int) (m : Nat) (h : ∀ x ∈ xs, 0 ≤ x ∧ x ≤ m) : ((List.range m).map fun (i : Nat) => ((above xs i : Nat) : Int)).sum = xs.sum := by
  induction xs with
  | nil =>
    have : ∀ l : List Nat, (l.map fun (i : Nat) => ((above [] i : Nat) : Int)).sum = 0 := by
      intro l; induction l with
      | nil => rfl
      | cons a l ih => rw [List.map_cons, List.sum_cons, ih, above_nil]; rfl
    exact this _
  | cons x l ih =>
    have hx := h x (by simp)
    have e : (fun (i : Nat) => ((above (x :: l) i : Nat) : Int)) = fun (i : Nat) => ((above l i : Nat) : Int) + if (i : Int) < x then 1 else 0 := by
      funext i
      rw [above_cons]
      by_cases hi : (i : Int) < x <;> simp [hi]
    rw [e, sum_range_add, ih (fun y hy => h y (by simp [hy])), sum_range_ind m x hx.1 hx.2, List.sum_cons]
    omega
theorem side_good {xs : List Int} (h : Good xs) : Good (sideL xs) := by
  have h0 : ∀ x ∈ xs, 0 ≤ x := fun x hx => by have := h.1 x hx; omega
  refine ⟨fun y hy => ?_, side_sorted, ?_⟩
  · unfold sideL at hy
    obtain ⟨i, hi, rfl⟩ := List.mem_map.1 hy
    have hi := List.mem_range.1 hi
    have := (above_gt h.2.1 h0 0 i (by omega)).2 (by rw [← head_getD]; omega)
    omega
  · unfold sideL
    rw [sum_above xs _ (fun x hx => ⟨h0 x hx, by have := good_le_head h hx; omega⟩)]
    exact h.2.2

theorem eq_of_lt_iff {a b : Nat} (h : ∀ i, i < a ↔ i < b) : a = b := by
  have h1 := h a; have h2 := h b; omega
/-! ### Order of lists -/
def befB : List Int → List Int → Bool
  | [], _ => false
  | _ :: _, [] => true
  | a :: as, b :: bs => if a = b then befB as bs else decide (b < a)

/-! ### Pasts -/
def pastL (xs : List Int) (x : Int) : List Int := (xs.erase x).map (· + 1) ++ List.replicate (x.toNat - (xs.length - 1)) 1

theorem past_before (x y : Int) (L R1 R2 : List Int) (hs : (x :: L).Pairwise (· ≥ ·)) (hy : y ∈ L) (hyx : y < x) :
    befB (L.map (· + 1) ++ R1) ((x :: L.erase y).map (· + 1) ++ R2) = false := by
  induction L generalizing x with
  | nil => cases hy
  | cons z L ih =>
    have h1 := List.pairwise_cons.1 hs
    have hzx : x ≥ z := h1.1 z (by simp)
    simp only [List.map_cons, List.cons_append, befB]
    by_cases hz : z = x
    · subst hz
      have hzy : ¬ z = y := by omega
      rw [if_pos rfl]
      have hy' : y ∈ L := by
        rcases List.mem_cons.1 hy with h | h
        · exact absurd h.symm hzy
        · exact h
      rw [List.erase_cons_tail (by simpa using hzy)]
      exact ih z h1.2 hy' hyx
    · rw [if_neg (by omega)]
      simp; omega
theorem past_order {xs : List Int} (hs : xs.Pairwise (· ≥ ·)) {x y : Int} (hx : x ∈ xs) (hy : y ∈ xs) (hyx : y < x) (R1 R2 : List Int) :
    befB ((xs.erase x).map (· + 1) ++ R1) ((xs.erase y).map (· + 1) ++ R2) = false := by
  induction xs with
  | nil => cases hx
  | cons a l ih =>
    have h1 := List.pairwise_cons.1 hs
    by_cases hax : a = x
    · subst hax
      have hay : ¬ a = y := by omega
      have hy' : y ∈ l := by
        rcases List.mem_cons.1 hy with h | h
        · exact absurd h.symm hay
        · exact h
      rw [List.erase_cons_head, List.erase_cons_tail (by simpa using hay)]
      exact past_before a y l R1 R2 hs hy' hyx
    · have hx' : x ∈ l := by
        rcases List.mem_cons.1 hx with h | h
        · exact absurd h.symm hax
        · exact h
      have hxa : a ≥ x := h1.1 x hx'
      have hay : ¬ a = y := by omega
      have hy' : y ∈ l := by
        rcases List.mem_cons.1 hy with h | h
        · exact absurd h.symm hay
        · exact h
      rw [List.erase_cons_tail (by simpa using hax), List.erase_cons_tail (by simpa using hay)]
      simp only [List.map_cons, List.cons_append, befB, if_true]
      exact ih h1.2 hx' hy'

theorem past_sum {xs : List Int} (x : Int) (hx : x ∈ xs) (h1 : (xs.length : Int) - 1 ≤ x) : (pastL xs x).sum = xs.sum := by
  have hp := List.perm_cons_erase hx
  have hl := hp.length_eq
  have hsum := perm_sum hp
  simp only [List.length_cons, List.sum_cons] at hl hsum
  have e : ∀ l : List Int, (l.map (· + 1)).sum = l.sum + l.length := by
    intro l; induction l with
    | nil => rfl
    | cons a l ih => simp only [List.map_cons, List.sum_cons, ih, List.length_cons]; omega
  have er : ∀ k : Nat, (List.replicate k (1 : Int)).sum = k := by
    intro k; induction k with
    | zero => rfl
    | succ k ih => rw [List.replicate_succ, List.sum_cons, ih]; omega
  unfold pastL
  rw [List.sum_append, e, er]
  omega
theorem past_good {xs : List Int} (hg : Good xs) (x : Int) (hx : x ∈ xs) (h1 : (xs.length : Int) - 1 ≤ x) : Good (pastL xs x) := by
  refine ⟨fun y hy => ?_, ?_, by rw [past_sum x hx h1]; exact hg.2.2⟩
  · unfold pastL at hy
    rcases List.mem_append.1 hy with h | h
    · obtain ⟨z, hz, rfl⟩ := List.mem_map.1 h
      have := hg.1 z (List.mem_of_mem_erase hz)
      omega
    · rw [List.mem_replicate] at h; omega
  · unfold pastL
    rw [List.pairwise_append]
    refine ⟨?_, ?_, fun a ha b hb => ?_⟩
    · rw [List.pairwise_map]
      exact (hg.2.1.sublist List.erase_sublist).imp (fun {a b} h => by have h : a ≥ b := h; show a + 1 ≥ b + 1; omega)
    · rw [List.pairwise_replicate]; right; omega
    · obtain ⟨z, hz, rfl⟩ := List.mem_map.1 ha
      have := hg.1 z (List.mem_of_mem_erase hz)
      rw [List.mem_replicate] at hb
      show z + 1 ≥ b
      omega
end
end Go.Proofs.YtimmjimeldejjaaGreatDoor
namespace Go.Proofs.YtimmjimeldejjaaGreatDoor
section
set_option linter.unusedVariables false
set_option linter.unusedSimpArgs false

/-! ### The different numbers of a list, from the last one on -/
def ascP : Option Int → List Int → List Int
  | _, [] => []
  | p, x :: l => ascP (some x) l ++ (if p = some x then [] else [x])
def ascL : List Int → List Int
  | [] => []
  | x :: l => ascL l ++ (if l.head? = some x then [] else [x])
theorem asc_eq (p : Int) (l : List Int) : ascL (p :: l) = ascP (some p) l ++ [p] := by
  induction l generalizing p with
  | nil => rfl
  | cons x l ih =>
    rw [show ascL (p :: x :: l) = ascL (x :: l) ++ (if (x :: l).head? = some p then [] else [p]) from rfl, ih, List.head?_cons,
      show ascP (some p) (x :: l) = ascP (some x) l ++ (if some p = some x then [] else [x]) from rfl]
    by_cases h : x = p
    · subst h; simp
    · have h' : ¬ p = x := fun e => h e.symm
      simp [h, h']
theorem asc_none (xs : List Int) : ascP none xs = ascL xs := by
  cases xs with
  | nil => rfl
  | cons x l => rw [asc_eq]; simp [ascP]
theorem ascP_snoc (p : Option Int) (l : List Int) (x : Int) : ascP p (l ++ [x]) = (if l.getLast?.or p = some x then [] else [x]) ++ ascP p l := by
  induction l generalizing p with
  | nil => cases p <;> simp [ascP]
  | cons a l ih =>
    rw [List.cons_append, show ascP p (a :: (l ++ [x])) = ascP (some a) (l ++ [x]) ++ (if p = some a then [] else [a]) from rfl, ih,
      show ascP p (a :: l) = ascP (some a) l ++ (if p = some a then [] else [a]) from rfl, List.append_assoc]
    congr 2
    cases l with
    | nil => simp
    | cons b l => simp [List.getLast?_cons_cons]; cases h : (b :: l).getLast? with
      | none => simp at h
      | some z => simp
theorem ascL_mem {xs : List Int} {x : Int} (h : x ∈ ascL xs) : x ∈ xs := by
  induction xs with
  | nil => cases h
  | cons a l ih =>
    rcases List.mem_append.1 h with h | h
    · exact List.mem_cons_of_mem _ (ih h)
    · split at h
      · cases h
      · rw [List.mem_singleton.1 h]; exact List.mem_cons_self

/-- the pasts of those numbers of a list -/
def pastsOf (xs l : List Int) : List (List Int) := (l.filter (fun x => decide ((xs.length : Int) - 1 ≤ x))).map (pastL xs)
def pastsL (xs : List Int) : List (List Int) := if xs = [] then [[]] else pastsOf xs (ascL xs)
theorem pastsOf_append (xs l m : List Int) : pastsOf xs (l ++ m) = pastsOf xs l ++ pastsOf xs m := by unfold pastsOf; rw [List.filter_append, List.map_append]
theorem pastsOf_one (xs : List Int) (x : Int) : pastsOf xs [x] = if (xs.length : Int) - 1 ≤ x then [pastL xs x] else [] := by
  unfold pastsOf
  by_cases h : (xs.length : Int) - 1 ≤ x <;> simp [h, List.filter_cons]
theorem pastsOf_nil (xs : List Int) : pastsOf xs [] = [] := rfl
theorem ascL_length (xs : List Int) : (ascL xs).length ≤ xs.length := by
  induction xs with
  | nil => exact Nat.le_refl _
  | cons a l ih =>
    rw [show ascL (a :: l) = ascL l ++ (if l.head? = some a then [] else [a]) from rfl, List.length_append]
    split <;> simp <;> omega
theorem pastsOf_length (xs l : List Int) : (pastsOf xs l).length ≤ l.length := by
  unfold pastsOf; rw [List.length_map]; exact List.length_filter_le _ _
theorem pastsL_length (xs : List Int) : (pastsL xs).length ≤ xs.length + 1 := by
  unfold pastsL
  split
  · simp
  · have := pastsOf_length xs (ascL xs); have := ascL_length xs; omega
theorem pastsOf_mem {xs l ys : List Int} (h : ys ∈ pastsOf xs l) : ∃ x ∈ l, (xs.length : Int) - 1 ≤ x ∧ ys = pastL xs x := by
  unfold pastsOf at h
  obtain ⟨x, hx, rfl⟩ := List.mem_map.1 h
  obtain ⟨h1, h2⟩ := List.mem_filter.1 hx
  exact ⟨x, h1, by simpa using h2, rfl⟩

/-- a list put into lists in order -/
def addL (ls : List (List Int)) (a : List Int) : List (List Int) := ls.takeWhile (fun l => befB l a) ++ a :: ls.dropWhile (fun l => befB l a)
theorem addL_front {ls : List (List Int)} {a : List Int} (h : ∀ l ∈ ls, befB l a = false) : addL ls a = a :: ls := by
  unfold addL
  cases ls with
  | nil => rfl
  | cons l ls => rw [List.takeWhile_cons_of_neg (by rw [h l (by simp)]; simp), List.dropWhile_cons_of_neg (by rw [h l (by simp)]; simp)]; rfl

/-- the round of the model's pasts -/
theorem pasts_round {xs : List Int} (hg : Good xs) {k n : Nat} {x : Int} (hk : k < n) (hl : xs.length = n) (hx : xs.getD k 0 = x) :
    (n : Int) - 1 ≤ x → (k = 0 ∨ ∃ y, xs.getD (k - 1) 0 = y ∧ y ≠ x) → pastsOf xs (ascP none (xs.take (k + 1))) = addL (pastsOf xs (ascP none (xs.take k))) (pastL xs x) := by
  intro h1 h2
  have e : xs.take (k + 1) = xs.take k ++ [x] := by
    subst hx hl
    rw [List.take_add_one, List.getElem?_eq_getElem hk, List.getD_eq_getElem?_getD, List.getElem?_eq_getElem hk]
    rfl
  have hxm : x ∈ xs := by
    subst hx hl
    rw [List.getD_eq_getElem?_getD, List.getElem?_eq_getElem hk]
    exact List.getElem_mem hk
  have hlast : (xs.take k).getLast?.or none ≠ some x := by
    rcases Nat.eq_zero_or_pos k with rfl | hk0
    · simp
    · rcases h2 with h2 | ⟨y, hy, hyx⟩
      · omega
      · rw [getLast_take hk0 (by omega) hl hy]; simp; exact hyx
  rw [e, ascP_snoc, if_neg hlast, pastsOf_append, pastsOf_one, if_pos (by omega)]
  rw [addL_front]
  · rfl
  · intro l hlm
    obtain ⟨y, hy, hy1, rfl⟩ := pastsOf_mem hlm
    rw [asc_none] at hy
    have hyt := ascL_mem hy
    have hym : y ∈ xs := List.mem_of_mem_take hyt
    have hlt : x < y := by
      rcases Nat.eq_zero_or_pos k with rfl | hk0
      · simp at hyt
      · rcases h2 with h2 | ⟨z, hz, hzx⟩
        · omega
        · have hp := (hg.take (k + 1)).2.1
          rw [e] at hp
          have h3 : ∀ a ∈ xs.take k, a ≥ x := fun a ha => (List.pairwise_append.1 hp).2.2 a ha x (by simp)
          have hzl := getLast_take hk0 (Nat.le_of_lt hk) hl hz
          have hzm := List.mem_of_getLast? hzl
          have hzx' := h3 z hzm
          have : y ≥ z := by
            obtain ⟨m, hm⟩ := List.getLast?_eq_some_iff.1 hzl
            have hp2 := (hg.take k).2.1
            rw [hm] at hp2 hyt
            rcases List.mem_append.1 hyt with h | h
            · exact (List.pairwise_append.1 hp2).2.2 y h z (by simp)
            · rw [List.mem_singleton.1 h]; exact Int.le_refl _
          omega
    exact past_order hg.2.1 hym hxm hlt _ _
theorem pasts_skip {xs : List Int} {k n : Nat} {x : Int} (hk : k < n) (hl : xs.length = n) (hx : xs.getD k 0 = x) :
    (x < (n : Int) - 1 ∨ (0 < k ∧ xs.getD (k - 1) 0 = x)) → pastsOf xs (ascP none (xs.take (k + 1))) = pastsOf xs (ascP none (xs.take k)) := by
  intro h
  have e : xs.take (k + 1) = xs.take k ++ [x] := by
    subst hx hl
    rw [List.take_add_one, List.getElem?_eq_getElem hk, List.getD_eq_getElem?_getD, List.getElem?_eq_getElem hk]
    rfl
  rw [e, ascP_snoc]
  split
  · simp [pastsOf_append, pastsOf_nil]
  · next hn =>
    rcases h with h | ⟨hk0, h⟩
    · rw [pastsOf_append, pastsOf_one, if_neg (by omega)]; rfl
    · exact absurd (by rw [getLast_take hk0 (Nat.le_of_lt hk) hl h]; rfl) hn
theorem ascL_drop {xs : List Int} {k n : Nat} {x : Int} (hk : k < n) (hl : xs.length = n) (hx : xs.getD k 0 = x) :
    ascL (xs.drop k) = ascL (xs.drop (k + 1)) ++ (if k + 1 < n ∧ xs.getD (k + 1) 0 = x then [] else [x]) := by
  subst hx hl
  rw [List.drop_eq_getElem_cons hk]
  rw [show ∀ (a : Int) (l : List Int), ascL (a :: l) = ascL l ++ (if l.head? = some a then [] else [a]) from fun _ _ => rfl]
  rw [List.head?_drop, List.getD_eq_getElem?_getD, List.getD_eq_getElem?_getD, List.getElem?_eq_getElem hk]
  by_cases h : k + 1 < xs.length
  · rw [List.getElem?_eq_getElem h]; simp [h]
  · rw [List.getElem?_eq_none (by omega)]; simp [h]

/-! ### Ranks -/
/-! ### Piles of a rank -/
theorem cnt_min {n x : Nat} (hn : n ≤ 28) (hx : x ≤ 28) : cnt (min n x) n = cnt x n := by
  by_cases h : n ≤ x
  · rw [Nat.min_eq_left h, cnt_big x (by omega) n h]
  · rw [Nat.min_eq_right (by omega)]

/-! ### All piles -/
def downs : Nat → List Nat
  | 0 => []
  | n + 1 => (n + 1) :: downs n
def allF : Nat → Nat → Nat → List (List Int)
  | 0, n, _ => if n = 0 then [[]] else []
  | f + 1, n, most => if n = 0 then [[]] else (downs (min n most)).flatMap fun x => (allF f (n - x) x).map ((x : Int) :: ·)
def allL (n : Nat) : List (List Int) := allF 28 n n
end
end Go.Proofs.YtimmjimeldejjaaGreatDoor
namespace Go.Proofs.YtimmjimeldejjaaGreatDoor
section
set_option linter.unusedVariables false
set_option linter.unusedSimpArgs false

theorem downs_mem {m x : Nat} (h : x ∈ downs m) : 1 ≤ x ∧ x ≤ m := by
  induction m with
  | zero => cases h
  | succ m ih =>
    rcases List.mem_cons.1 h with rfl | h
    · omega
    · have := ih h; omega
theorem allF_zero (f most : Nat) : allF f 0 most = [[]] := by cases f <;> simp [allF]

theorem sum_downs (n q : Nat) (hn : 1 ≤ n) (hn2 : n ≤ 28) (hq : q ≤ n) : ((downs q).map fun x => cnt x (n - x)).sum = cnt q n := by
  induction q with
  | zero => have := cnt_none n (by omega); rw [if_neg (by omega)] at this; simp [downs, this]
  | succ q ih =>
    have := cnt_rec q (by omega) n (by omega)
    rw [if_pos (by omega)] at this
    simp only [downs, List.map_cons, List.sum_cons, ih (by omega)]
    omega
theorem allF_length (f : Nat) : ∀ n most, n ≤ f → n ≤ 28 → most ≤ 28 → (allF f n most).length = cnt most n := by
  induction f with
  | zero =>
    intro n most h1 _ h3
    obtain rfl : n = 0 := by omega
    rw [cnt_zero most (by omega)]; rfl
  | succ f ih =>
    intro n most h1 h2 h3
    by_cases hn : n = 0
    · subst hn; rw [cnt_zero most (by omega)]; simp [allF]
    · have e : allF (f + 1) n most = (downs (min n most)).flatMap fun x => (allF f (n - x) x).map ((x : Int) :: ·) := by simp [allF, hn]
      rw [e, List.length_flatMap, ← cnt_min h2 h3, ← sum_downs n (min n most) (by omega) h2 (Nat.min_le_left _ _)]
      congr 1
      apply List.map_congr_left
      intro x hx
      have := downs_mem hx
      rw [List.length_map, ih (n - x) x (by omega) (by omega) (by omega)]
def mAllPiles (n : Int) : List (List Int) × Bool := if 0 ≤ n ∧ n ≤ 28 then (allL n.toNat, true) else ([], false)
end
end Go.Proofs.YtimmjimeldejjaaGreatDoor
namespace Go.Proofs.YtimmjimeldejjaaGreatDoor
section
set_option linter.unusedVariables false
set_option linter.unusedSimpArgs false

/-! ### Steps -/
theorem stepsL_sum {xs : List Int} (h : Good xs) (k : Nat) : (stepsL k xs).sum = xs.sum := by
  induction k with
  | zero => rfl
  | succ k ih => show (stepL (stepsL k xs)).sum = _; rw [stepL_sum (stepsL_good h k).1, ih]

/-! ### Sides -/
/-! ### Order -/
/-! ### Pasts -/
/-! ### All piles -/
theorem mem_downs {m x : Nat} (h1 : 1 ≤ x) (h2 : x ≤ m) : x ∈ downs m := by
  induction m with
  | zero => omega
  | succ m ih =>
    unfold downs
    by_cases h : x = m + 1
    · subst h; exact List.mem_cons_self
    · exact List.mem_cons_of_mem _ (ih (by omega))
theorem allF_succ (f n most : Nat) (hn : n ≠ 0) : allF (f + 1) n most = (downs (min n most)).flatMap fun x => (allF f (n - x) x).map ((x : Int) :: ·) := by simp [allF, hn]
theorem mem_allF (f : Nat) : ∀ (n most : Nat) (xs : List Int), n ≤ f → (∀ x ∈ xs, 1 ≤ x) → xs.Pairwise (· ≥ ·) → (∀ x ∈ xs, x ≤ most) → xs.sum = n → xs ∈ allF f n most := by
  induction f with
  | zero =>
    intro n most xs hn h1 hs hm hsum
    have hl := sum_nonneg h1
    have : xs = [] := List.eq_nil_of_length_eq_zero (by omega)
    subst this
    have : n = 0 := by omega
    subst this
    simp [allF]
  | succ f ih =>
    intro n most xs hn h1 hs hm hsum
    by_cases hz : n = 0
    · subst hz
      have hl := sum_nonneg h1
      have : xs = [] := List.eq_nil_of_length_eq_zero (by omega)
      subst this
      rw [allF_zero]; simp
    · rw [allF_succ f n most hz]
      cases xs with
      | nil => simp at hsum; omega
      | cons x l =>
        have hx1 := h1 x (by simp)
        have hxm := hm x (by simp)
        obtain ⟨X, rfl⟩ := Int.eq_ofNat_of_zero_le (show 0 ≤ x by omega)
        have hl := sum_nonneg (fun y hy => h1 y (List.mem_cons_of_mem _ hy))
        rw [List.sum_cons] at hsum
        refine List.mem_flatMap.2 ⟨X, mem_downs (by omega) (by omega), List.mem_map.2 ⟨l, ih (n - X) X l (by omega) (fun y hy => h1 y (by simp [hy])) (List.pairwise_cons.1 hs).2 (fun y hy => (List.pairwise_cons.1 hs).1 y hy) (by omega), rfl⟩⟩
theorem mem_allL {xs : List Int} (h : Good xs) : xs ∈ allL xs.sum.toNat := by
  have hs := sum_nonneg h.1
  exact mem_allF 28 _ _ xs (by have := h.2.2; omega) h.1 h.2.1 (fun x hx => by have := mem_le_sum h.1 hx; omega) (by omega)
/-! ### Ranks -/
end
end Go.Proofs.YtimmjimeldejjaaGreatDoor
namespace Go.Proofs.YtimmjimeldejjaaGreatDoor
section
set_option linter.unusedVariables false
set_option linter.unusedSimpArgs false

/-! ### The potential (twice it) -/
def potL : List Int → Int
  | [] => 0
  | x :: l => x * x - x + potL l + 2 * l.sum
theorem sq_succ (m : Int) : (m + 1) * (m + 1) - (m + 1) = m * m - m + 2 * m := by
  rw [Int.add_mul, Int.mul_add]; omega
theorem lowL_cons_hi {a : Int} (l : List Int) (h : 1 < a) : lowL (a :: l) = (a - 1) :: lowL l := by
  unfold lowL; rw [List.filter_cons_of_pos (by simpa using h)]; rfl
theorem lowL_cons_lo {a : Int} (l : List Int) (h : ¬ 1 < a) : lowL (a :: l) = lowL l := by
  unfold lowL; rw [List.filter_cons_of_neg (by simpa using h)]
theorem lowL_ones {l : List Int} (h : ∀ x ∈ l, x ≤ 1) : lowL l = [] := by
  unfold lowL; rw [List.filter_eq_nil_iff.2 (fun x hx => by have := h x hx; simp; omega)]; rfl
/-- cards stay on their levels before piles are exchanged -/
theorem pot_low {xs : List Int} (h1 : ∀ x ∈ xs, 1 ≤ x) (hs : xs.Pairwise (· ≥ ·)) :
    potL ((xs.length : Int) :: lowL xs) = potL xs := by
  induction xs with
  | nil => rfl
  | cons a l ih =>
    have ih := ih (fun x hx => h1 x (by simp [hx])) (List.pairwise_cons.1 hs).2
    have ha := h1 a (by simp)
    have hsum := lowL_sum (fun x hx => h1 x (List.mem_cons_of_mem a hx) : ∀ x ∈ l, 1 ≤ x)
    have e1 := sq_succ (l.length : Int)
    have hlen : (((a :: l).length : Nat) : Int) = (l.length : Int) + 1 := by simp
    by_cases h : 1 < a
    · rw [lowL_cons_hi l h]
      have e2 := sq_succ (a - 1)
      rw [show a - 1 + 1 = a by omega] at e2
      simp only [potL, List.sum_cons] at ih ⊢
      rw [hlen]
      omega
    · have h0 : lowL l = [] := lowL_ones (fun x hx => by have : a ≥ x := (List.pairwise_cons.1 hs).1 x hx; omega)
      rw [lowL_cons_lo l h]
      obtain rfl : a = 1 := by omega
      rw [h0] at ih hsum ⊢
      simp only [potL, List.sum_nil] at ih hsum ⊢
      rw [hlen]
      omega
/-- one number put into its place -/
def insL (n : Int) : List Int → List Int
  | [] => [n]
  | x :: l => if n < x then x :: insL n l else n :: x :: l
theorem insL_perm (n : Int) (l : List Int) : (insL n l).Perm (n :: l) := by
  induction l with
  | nil => exact List.Perm.refl _
  | cons x l ih =>
    unfold insL
    split
    · exact (ih.cons x).trans (List.Perm.swap n x l)
    · exact List.Perm.refl _
theorem insL_sorted (n : Int) {l : List Int} (h : l.Pairwise (· ≥ ·)) : (insL n l).Pairwise (· ≥ ·) := by
  induction l with
  | nil => exact List.pairwise_singleton _ _
  | cons x l ih =>
    have hc := List.pairwise_cons.1 h
    unfold insL
    split
    · rw [List.pairwise_cons]
      refine ⟨fun y hy => ?_, ih hc.2⟩
      rcases List.mem_cons.1 ((insL_perm n l).mem_iff.1 hy) with rfl | hy
      · show x ≥ y; omega
      · exact hc.1 y hy
    · rw [List.pairwise_cons]
      refine ⟨fun y hy => ?_, h⟩
      rcases List.mem_cons.1 hy with rfl | hy
      · show n ≥ y; omega
      · have : x ≥ y := hc.1 y hy
        show n ≥ y; omega
theorem pot_ins (n : Int) (l : List Int) : potL (insL n l) ≤ potL (n :: l) ∧ (potL (insL n l) = potL (n :: l) → insL n l = n :: l) := by
  induction l with
  | nil => exact ⟨Int.le_refl _, fun _ => rfl⟩
  | cons x l ih =>
    unfold insL
    split
    · next h =>
      have hp := perm_sum (insL_perm n l)
      have := ih.1
      simp only [potL, List.sum_cons] at *
      refine ⟨by omega, fun e => ?_⟩
      omega
    · exact ⟨Int.le_refl _, fun _ => rfl⟩
theorem stepL_ins {xs : List Int} (hs : xs.Pairwise (· ≥ ·)) (h : xs ≠ []) : stepL xs = insL (xs.length : Int) (lowL xs) := by
  rw [stepL_cons h]
  exact (sortD_unique (insL_sorted _ (lowL_sorted hs)) ((insL_perm _ _).trans (List.perm_append_singleton _ _).symm)).symm
theorem pot_step {xs : List Int} (hg : Good xs) : potL (stepL xs) ≤ potL xs ∧ (potL (stepL xs) = potL xs → xs ≠ [] → stepL xs = (xs.length : Int) :: lowL xs) := by
  by_cases h : xs = []
  · subst h; exact ⟨Int.le_refl _, fun _ h => absurd rfl h⟩
  · rw [stepL_ins hg.2.1 h, ← pot_low hg.1 hg.2.1]
    exact ⟨(pot_ins _ _).1, fun e _ => (pot_ins _ _).2 e⟩

/-! ### Steps add up -/
theorem stepsL_plus (i j : Nat) (xs : List Int) : stepsL (i + j) xs = stepsL i (stepsL j xs) := by
  induction i with
  | zero => simp [stepsL]
  | succ i ih => rw [show i + 1 + j = (i + j) + 1 by omega]; show stepL (stepsL (i + j) xs) = stepL (stepsL i (stepsL j xs)); rw [ih]
theorem stepsL_mul {xs : List Int} {p : Nat} (h : stepsL p xs = xs) (m : Nat) : stepsL (p * m) xs = xs := by
  induction m with
  | zero => rfl
  | succ m ih => rw [Nat.mul_succ, stepsL_plus, h, ih]
theorem pot_steps {xs : List Int} (hg : Good xs) (k : Nat) : potL (stepsL k xs) ≤ potL xs := by
  induction k with
  | zero => exact Int.le_refl _
  | succ k ih => exact Int.le_trans (pot_step (stepsL_good hg k)).1 ih
/-- what comes again is never exchanged -/
theorem straight {xs : List Int} (hg : Good xs) {p : Nat} (hp : 0 < p) (h : stepsL p xs = xs) (t : Nat) (hne : stepsL t xs ≠ []) :
    stepsL (t + 1) xs = ((stepsL t xs).length : Int) :: lowL (stepsL t xs) := by
  have h1 := pot_step (stepsL_good hg t)
  have h2 := pot_steps hg t
  have h3 : potL xs ≤ potL (stepsL (t + 1) xs) := by
    have hle : t + 1 ≤ p * (t + 1) := Nat.le_mul_of_pos_left _ hp
    have e := stepsL_mul h (t + 1)
    have := pot_steps (stepsL_good hg (t + 1)) (p * (t + 1) - (t + 1))
    rw [← stepsL_plus, show p * (t + 1) - (t + 1) + (t + 1) = p * (t + 1) by omega, e] at this
    exact this
  have h4 : stepsL (t + 1) xs = stepL (stepsL t xs) := rfl
  rw [h4] at h3 ⊢
  exact h1.2 (by omega) hne

/-! ### Cards on levels -/
def cel (xs : List Int) (i p : Nat) : Prop := (p : Int) < xs.getD i 0
theorem getD_nonneg {xs : List Int} (h : ∀ x ∈ xs, 1 ≤ x) (i : Nat) : 0 ≤ xs.getD i 0 ∧ (0 < xs.getD i 0 ↔ i < xs.length) := by
  by_cases hi : i < xs.length
  · rw [List.getD_eq_getElem?_getD, List.getElem?_eq_getElem hi]
    have := h _ (List.getElem_mem hi)
    simp only [Option.getD_some]
    exact ⟨by omega, by omega⟩
  · rw [List.getD_eq_getElem?_getD, List.getElem?_eq_none (by omega)]
    simp; omega
theorem lowL_getD {xs : List Int} (h1 : ∀ x ∈ xs, 1 ≤ x) (hs : xs.Pairwise (· ≥ ·)) (i : Nat) : (lowL xs).getD i 0 = if 0 < xs.getD i 0 then xs.getD i 0 - 1 else 0 := by
  induction xs generalizing i with
  | nil => simp [lowL]
  | cons a l ih =>
    have ha := h1 a (by simp)
    have ih := fun i => ih (fun x hx => h1 x (by simp [hx])) (List.pairwise_cons.1 hs).2 i
    by_cases h : 1 < a
    · rw [lowL_cons_hi l h]
      cases i with
      | zero => simp; omega
      | succ i => simp only [List.getD_cons_succ]; exact ih i
    · have hall : ∀ x ∈ a :: l, x ≤ 1 := fun x hx => by
        rcases List.mem_cons.1 hx with rfl | hx
        · omega
        · have : a ≥ x := (List.pairwise_cons.1 hs).1 x hx
          omega
      rw [lowL_ones hall]
      by_cases hi : i < (a :: l).length
      · have e : (a :: l).getD i 0 = (a :: l)[i] := by rw [List.getD_eq_getElem?_getD, List.getElem?_eq_getElem hi]; rfl
        have := hall _ (List.getElem_mem hi)
        have := h1 _ (List.getElem_mem hi)
        rw [e]
        simp only [List.getD_nil]
        split <;> omega
      · rw [List.getD_eq_getElem?_getD (l := a :: l), List.getElem?_eq_none (by omega)]; simp
section
variable {xs : List Int} (hg : Good xs) {p : Nat} (hp : 0 < p) (h : stepsL p xs = xs)
include hg hp h
theorem cel_first (t q : Nat) : cel (stepsL (t + 1) xs) 0 q ↔ cel (stepsL t xs) q 0 := by
  have hG := stepsL_good hg t
  unfold cel
  by_cases hne : stepsL t xs = []
  · rw [show stepsL (t + 1) xs = stepL (stepsL t xs) from rfl, hne, stepL_nil]; simp
  · rw [straight hg hp h t hne]
    have := getD_nonneg hG.1 q
    simp only [List.getD_cons_zero]
    have h2 := this.2
    constructor
    · intro hh; exact h2.2 (by omega)
    · intro hh; have := h2.1 hh; omega
theorem cel_next (t i q : Nat) : cel (stepsL (t + 1) xs) (i + 1) q ↔ cel (stepsL t xs) i (q + 1) := by
  have hG := stepsL_good hg t
  unfold cel
  by_cases hne : stepsL t xs = []
  · rw [show stepsL (t + 1) xs = stepL (stepsL t xs) from rfl, hne, stepL_nil]; simp
    omega
  · rw [straight hg hp h t hne]
    have := getD_nonneg hG.1 i
    simp only [List.getD_cons_succ]
    rw [lowL_getD hG.1 hG.2.1]
    split <;> omega
/-- a card goes along its level -/
theorem lev_run (l j s t : Nat) (hj : j + s ≤ l) : cel (stepsL (t + s) xs) (j + s) (l - (j + s)) ↔ cel (stepsL t xs) j (l - j) := by
  induction s with
  | zero => exact Iff.rfl
  | succ s ih =>
    rw [← ih (by omega), show t + (s + 1) = (t + s) + 1 by omega, show j + (s + 1) = (j + s) + 1 by omega, cel_next hg hp h, show l - (j + s + 1) + 1 = l - (j + s) by omega]
theorem lev_zero (l j t : Nat) (hj : j ≤ l) : cel (stepsL (t + (l + 1 - j)) xs) 0 l ↔ cel (stepsL t xs) j (l - j) := by
  rw [← lev_run hg hp h l j (l - j) t (by omega), show t + (l + 1 - j) = t + (l - j) + 1 by omega, cel_first hg hp h, show j + (l - j) = l by omega, Nat.sub_self]
theorem lev_round (l t m : Nat) : cel (stepsL (t + m * (l + 1)) xs) 0 l ↔ cel (stepsL t xs) 0 l := by
  induction m with
  | zero => simp
  | succ m ih =>
    rw [← ih, Nat.succ_mul, ← Nat.add_assoc]
    have := lev_zero hg hp h l 0 (t + m * (l + 1)) (by omega)
    simp only [Nat.sub_zero] at this
    exact this
theorem lev_above (l i j : Nat) (hi : i ≤ l) (hh : ¬ cel xs i (l - i)) (hj : j ≤ l + 1) : ¬ cel xs j (l + 1 - j) := by
  intro hc
  have a1 := lev_zero hg hp h l i 0 hi
  have a2 := lev_zero hg hp h (l + 1) j 0 hj
  have b1 : ¬ cel (stepsL (l + 1 - i) xs) 0 l := by
    rw [Nat.zero_add] at a1; exact fun hc => hh (a1.1 hc)
  have b2 : cel (stepsL (l + 1 + 1 - j) xs) 0 (l + 1) := by
    rw [Nat.zero_add] at a2; exact a2.2 hc
  have c1 := lev_round hg hp h l (l + 1 - i) (2 * (l + 1) + (l + 1 - i) - (l + 1 + 1 - j) + 2)
  have c2 := lev_round hg hp h (l + 1) (l + 1 + 1 - j) (2 * (l + 1) + (l + 1 - i) - (l + 1 + 1 - j))
  have e : l + 1 - i + (2 * (l + 1) + (l + 1 - i) - (l + 1 + 1 - j) + 2) * (l + 1) = l + 1 + 1 - j + (2 * (l + 1) + (l + 1 - i) - (l + 1 + 1 - j)) * (l + 1 + 1) := by
    generalize hm : 2 * (l + 1) + (l + 1 - i) - (l + 1 + 1 - j) = m
    rw [Nat.add_mul, Nat.mul_succ m (l + 1)]
    omega
  rw [e] at c1
  have d1 : ¬ cel _ 0 l := fun hc => b1 (c1.1 hc)
  have d2 := c2.2 b2
  unfold cel at d1 d2
  omega
end

/-! ### Near the staircase -/
theorem tri_succ (k : Nat) : tri (k + 1) = tri k + (k + 1) := by
  unfold tri
  rw [show (k + 1) * (k + 1 + 1) = k * (k + 1) + 2 * (k + 1) by rw [Nat.mul_succ (k + 1), Nat.succ_mul]; omega]
  omega
theorem near_sum (L : Nat) : ∀ xs : List Int, xs.length ≤ L + 1 → (∀ i, i ≤ L → (L : Int) - i ≤ xs.getD i 0 ∧ xs.getD i 0 ≤ (L : Int) - i + 1) →
    (tri L : Int) ≤ xs.sum ∧ xs.sum ≤ tri L + L + 1 ∧ ((∃ i, i ≤ L ∧ xs.getD i 0 = (L : Int) - i) → xs.sum ≤ tri L + L) := by
  induction L with
  | zero =>
    intro xs hl h
    have h0 := h 0 (by omega)
    match xs, hl, h0 with
    | [], _, _ => simp [tri]
    | [x], _, h0 =>
      simp only [List.getD_cons_zero, List.sum_cons, List.sum_nil] at h0 ⊢
      have e : (tri 0 : Int) = 0 := rfl
      refine ⟨by omega, by omega, ?_⟩
      rintro ⟨i, hi, e⟩
      obtain rfl : i = 0 := by omega
      simp only [List.getD_cons_zero] at e
      omega
    | _ :: _ :: _, hl, _ => simp at hl
  | succ L ih =>
    intro xs hl h
    cases xs with
    | nil =>
      have := h 0 (by omega)
      simp at this
      omega
    | cons x l =>
      have h0 := h 0 (by omega)
      simp only [List.getD_cons_zero] at h0
      have hr := ih l (by simpa using hl) (fun i hi => by
        have := h (i + 1) (by omega)
        simp only [List.getD_cons_succ] at this
        omega)
      have ht := tri_succ L
      rw [List.sum_cons]
      refine ⟨by omega, by omega, ?_⟩
      rintro ⟨i, hi, e⟩
      cases i with
      | zero => simp only [List.getD_cons_zero] at e; omega
      | succ i =>
        simp only [List.getD_cons_succ] at e
        have := hr.2.2 ⟨i, by omega, by omega⟩
        omega
theorem tri_mono (k d : Nat) : tri k + d * (k + 1) ≤ tri (k + d) := by
  induction d with
  | zero => simp
  | succ d ih =>
    rw [show k + (d + 1) = (k + d) + 1 by omega, tri_succ, Nat.succ_mul]
    omega
theorem hgt_small : ∀ L, L < 8 → ∀ n, n < 29 → tri L ≤ n → n ≤ tri L + L → hgt n = L := by decide +kernel
theorem hgt_unique {n L : Nat} (hn : n ≤ 28) (h1 : tri L ≤ n) (h2 : n ≤ tri L + L) : hgt n = L := by
  by_cases hL : L < 8
  · exact hgt_small L hL n (by omega) h1 h2
  · have := tri_mono 8 (L - 8)
    rw [show 8 + (L - 8) = L by omega] at this
    have e : tri 8 = 36 := rfl
    omega

/-- near the staircase: each pile has what the staircase has, or one more -/
def Cyc (xs : List Int) : Prop := xs.length ≤ hgt xs.sum.toNat + 1 ∧ ∀ i, i < hgt xs.sum.toNat + 1 → (xs.getD i 0 - (hgt xs.sum.toNat - i) = 0 ∨ xs.getD i 0 - (hgt xs.sum.toNat - i) = 1)
instance (xs : List Int) : Decidable (Cyc xs) := by unfold Cyc; infer_instance
def cycB (xs : List Int) : Bool := decide (Cyc xs)
theorem cyc_iff {xs : List Int} : cycB xs = true ↔ Cyc xs := by unfold cycB; simp

theorem least_hole (P : Nat → Prop) (n : Nat) (h : P n) : ∃ m, P m ∧ ∀ k, k < m → ¬ P k := by
  induction n using Nat.strongRecOn with
  | _ n ih =>
    by_cases hk : ∃ k, k < n ∧ P k
    · obtain ⟨k, hk, hP⟩ := hk; exact ih k hk hP
    · exact ⟨n, h, fun k hk' hP => hk ⟨k, hk', hP⟩⟩
/-- what comes again is near the staircase -/
theorem cyc_of_again {xs : List Int} (hg : Good xs) {p : Nat} (hp : 0 < p) (h : stepsL p xs = xs) : Cyc xs := by
  obtain ⟨L, ⟨i, hi, hh⟩, hmin⟩ := least_hole (fun l => ∃ i, i ≤ l ∧ ¬ cel xs i (l - i)) 28 ⟨0, by omega, by
    unfold cel
    have := hg.head
    rw [head_getD] at this
    simp only [Nat.sub_zero]
    omega⟩
  have hfull : ∀ l, l < L → ∀ j, j ≤ l → cel xs j (l - j) := fun l hl j hj => Classical.byContradiction fun hc => hmin l hl ⟨j, hj, hc⟩
  have hhi : ∀ j, j ≤ L + 1 → xs.getD j 0 ≤ (L : Int) + 1 - j := by
    intro j hj
    have := lev_above hg hp h L i j hi hh hj
    unfold cel at this
    omega
  have hlo : ∀ j, j ≤ L → (L : Int) - j ≤ xs.getD j 0 := by
    intro j hj
    by_cases hjl : j = L
    · have := (getD_nonneg hg.1 j).1; omega
    · have := hfull (L - 1) (by omega) j (by omega)
      unfold cel at this
      omega
  have hlen : xs.length ≤ L + 1 := by
    have h1 := hhi (L + 1) (Nat.le_refl _)
    have h2 := getD_nonneg hg.1 (L + 1)
    have h3 := h2.2
    by_cases hl : L + 1 < xs.length
    · have := h3.2 hl; omega
    · omega
  have hns := near_sum L xs hlen (fun j hj => ⟨hlo j hj, by have := hhi j (by omega); omega⟩)
  have hs := hns.2.2 ⟨i, hi, by
    have h1 := hlo i hi
    unfold cel at hh
    omega⟩
  have hk : hgt xs.sum.toNat = L := hgt_unique (by have := hg.2.2; omega) (by omega) (by omega)
  unfold Cyc
  rw [hk]
  refine ⟨hlen, fun j hj => ?_⟩
  have h1 := hlo j (by omega)
  have h2 := hhi j (by omega)
  omega
end
end Go.Proofs.YtimmjimeldejjaaGreatDoor
namespace Go.Proofs.YtimmjimeldejjaaGreatDoor
section
set_option linter.unusedVariables false
set_option linter.unusedSimpArgs false

/-! ### Bits -/
def fromB : List Int → List Int
  | [] => []
  | b :: l => if 0 < (l.length : Int) + b then ((l.length : Int) + b) :: fromB l else fromB l
def IsB (bs : List Int) : Prop := ∀ b ∈ bs, b = 0 ∨ b = 1
theorem fromB_low {bs : List Int} (h : IsB bs) {b : Int} (hb : b = 0 ∨ b = 1) : lowL (fromB (bs ++ [b])) = fromB bs := by
  induction bs with
  | nil =>
    rcases hb with rfl | rfl <;> rfl
  | cons c l ih =>
    have ih := ih (fun x hx => h x (by simp [hx]))
    have hc := h c (by simp)
    have hl : (((l ++ [b]).length : Nat) : Int) = (l.length : Int) + 1 := by simp
    rw [List.cons_append]
    unfold fromB
    rw [hl, if_pos (by omega)]
    by_cases hp : 0 < (l.length : Int) + c
    · rw [if_pos hp, lowL_cons_hi _ (by omega), ih]
      congr 1; omega
    · rw [if_neg hp, lowL_cons_lo _ (by omega), ih]
theorem fromB_length {bs : List Int} (h : IsB bs) {b : Int} (hb : b = 0 ∨ b = 1) : (((fromB (bs ++ [b])).length : Nat) : Int) = bs.length + b := by
  induction bs with
  | nil => rcases hb with rfl | rfl <;> rfl
  | cons c l ih =>
    have ih := ih (fun x hx => h x (by simp [hx]))
    have hc := h c (by simp)
    have hl : (((l ++ [b]).length : Nat) : Int) = (l.length : Int) + 1 := by simp
    rw [List.cons_append]
    unfold fromB
    rw [hl, if_pos (by omega)]
    simp only [List.length_cons]
    omega
theorem fromB_le {bs : List Int} (h : IsB bs) : ∀ x ∈ fromB bs, 1 ≤ x ∧ x ≤ bs.length := by
  induction bs with
  | nil => intro x hx; cases hx
  | cons c l ih =>
    have ih := ih (fun x hx => h x (by simp [hx]))
    have hc := h c (by simp)
    intro x hx
    unfold fromB at hx
    simp only [List.length_cons]
    split at hx
    · rcases List.mem_cons.1 hx with rfl | hx
      · omega
      · have := ih x hx; omega
    · have := ih x hx; omega
theorem fromB_sorted {bs : List Int} (h : IsB bs) : (fromB bs).Pairwise (· ≥ ·) := by
  induction bs with
  | nil => exact List.Pairwise.nil
  | cons c l ih =>
    have hl : IsB l := fun x hx => h x (by simp [hx])
    have ih := ih hl
    have hc := h c (by simp)
    unfold fromB
    split
    · rw [List.pairwise_cons]
      refine ⟨fun x hx => ?_, ih⟩
      have := fromB_le hl x hx
      show _ ≥ x; omega
    · exact ih
theorem fromB_getD {bs : List Int} (h : IsB bs) (i : Nat) : (fromB bs).getD i 0 = if i < bs.length then (bs.length : Int) - 1 - i + bs.getD i 0 else 0 := by
  induction bs generalizing i with
  | nil => simp [fromB]
  | cons c l ih =>
    have hl : IsB l := fun x hx => h x (by simp [hx])
    have ih := fun i => ih hl i
    have hc := h c (by simp)
    unfold fromB
    simp only [List.length_cons]
    by_cases hp : 0 < (l.length : Int) + c
    · rw [if_pos hp]
      cases i with
      | zero => simp
      | succ i =>
        simp only [List.getD_cons_succ]
        rw [ih i]
        by_cases hi : i < l.length
        · rw [if_pos hi, if_pos (by omega)]; omega
        · rw [if_neg hi, if_neg (by omega)]
    · rw [if_neg hp]
      have h0 : l.length = 0 := by omega
      obtain rfl := List.eq_nil_of_length_eq_zero h0
      simp only [fromB]
      cases i with
      | zero => simp at hp ⊢; first | done | omega
      | succ i => simp
/-- the last bit becomes the first one -/
def rotL (bs : List Int) : List Int := match bs.getLast? with
  | none => []
  | some b => b :: bs.dropLast
theorem rotL_snoc (bs : List Int) (b : Int) : rotL (bs ++ [b]) = b :: bs := by unfold rotL; simp
theorem rotL_length (bs : List Int) : (rotL bs).length = bs.length := by
  rcases List.eq_nil_or_concat bs with rfl | ⟨l, b, rfl⟩
  · rfl
  · rw [List.concat_eq_append, rotL_snoc]; simp
theorem rotL_isB {bs : List Int} (h : IsB bs) : IsB (rotL bs) := by
  rcases List.eq_nil_or_concat bs with rfl | ⟨l, b, rfl⟩
  · exact h
  · rw [List.concat_eq_append] at h ⊢
    rw [rotL_snoc]
    intro x hx
    apply h
    simp at hx ⊢
    rcases hx with rfl | hx
    · exact .inr rfl
    · exact .inl hx
theorem step_rot {bs : List Int} (h : IsB bs) : stepL (fromB bs) = fromB (rotL bs) := by
  rcases List.eq_nil_or_concat bs with rfl | ⟨l, b, rfl⟩
  · rfl
  · rw [List.concat_eq_append] at h ⊢
    have hb := h b (by simp)
    have hl : IsB l := fun x hx => h x (by simp [hx])
    rw [rotL_snoc]
    by_cases hne : fromB (l ++ [b]) = []
    · have hlen := fromB_length hl hb
      rw [hne] at hlen ⊢
      simp at hlen
      have h0 : l.length = 0 := by omega
      obtain rfl := List.eq_nil_of_length_eq_zero h0
      obtain rfl : b = 0 := by simp at hlen; omega
      rfl
    · rw [stepL_ins (fromB_sorted h) hne, fromB_low hl hb, fromB_length hl hb]
      have hpos : 0 < (l.length : Int) + b := by
        rw [← fromB_length hl hb]
        have : (fromB (l ++ [b])).length ≠ 0 := fun e => hne (List.eq_nil_of_length_eq_zero e)
        omega
      rw [show fromB (b :: l) = (l.length + b) :: fromB l by rw [fromB, if_pos hpos]]
      have := fromB_le hl
      cases hf : fromB l with
      | nil => rfl
      | cons x m =>
        rw [hf] at this
        have := this x (by simp)
        unfold insL
        rw [if_neg (by omega)]
def rotN : Nat → List Int → List Int
  | 0, bs => bs
  | k + 1, bs => rotL (rotN k bs)
theorem rotN_length (k : Nat) (bs : List Int) : (rotN k bs).length = bs.length := by
  induction k with
  | zero => rfl
  | succ k ih => show (rotL (rotN k bs)).length = _; rw [rotL_length, ih]
theorem rotN_isB {bs : List Int} (h : IsB bs) (k : Nat) : IsB (rotN k bs) := by
  induction k with
  | zero => exact h
  | succ k ih => exact rotL_isB ih
theorem steps_rot {bs : List Int} (h : IsB bs) (k : Nat) : stepsL k (fromB bs) = fromB (rotN k bs) := by
  induction k with
  | zero => rfl
  | succ k ih => show stepL (stepsL k (fromB bs)) = fromB (rotL (rotN k bs)); rw [ih, step_rot (rotN_isB h k)]
theorem rotL_getD (bs : List Int) (i : Nat) (hi : i < bs.length) : (rotL bs).getD i 0 = bs.getD ((i + bs.length - 1) % bs.length) 0 := by
  rcases List.eq_nil_or_concat bs with rfl | ⟨l, b, rfl⟩
  · simp at hi
  · rw [List.concat_eq_append] at hi ⊢
    rw [rotL_snoc]
    simp only [List.length_append, List.length_singleton] at hi ⊢
    cases i with
    | zero =>
      rw [show 0 + (l.length + 1) - 1 = l.length by omega, Nat.mod_eq_of_lt (by omega)]
      simp
    | succ i =>
      rw [show i + 1 + (l.length + 1) - 1 = i + (l.length + 1) by omega, Nat.add_mod_right, Nat.mod_eq_of_lt (by omega)]
      simp only [List.getD_cons_succ]
      rw [List.getD_eq_getElem?_getD, List.getD_eq_getElem?_getD, List.getElem?_append_left (by omega)]
theorem mod_turn (n i k : Nat) (hn : 0 < n) (hi : i < n) : ((i + n - 1) % n + n - k % n) % n = (i + n - (k + 1) % n) % n := by
  have hk := Nat.mod_lt k hn
  have e1 : (k + 1) % n = if k % n + 1 = n then 0 else k % n + 1 := by
    rw [Nat.add_mod]
    by_cases h1 : n = 1
    · subst h1; simp [Nat.mod_one]
    · rw [Nat.mod_eq_of_lt (show 1 < n by omega)]
      split
      · next e => rw [e]; exact Nat.mod_self n
      · exact Nat.mod_eq_of_lt (by omega)
  have e2 : (i + n - 1) % n = if i = 0 then n - 1 else i - 1 := by
    split
    · next e => subst e; rw [show 0 + n - 1 = n - 1 by omega]; exact Nat.mod_eq_of_lt (by omega)
    · rw [show i + n - 1 = (i - 1) + n by omega, Nat.add_mod_right]; exact Nat.mod_eq_of_lt (by omega)
  rw [e1, e2]
  generalize k % n = q at *
  by_cases h0 : i = 0
  · rw [if_pos h0]
    split
    · next e => rw [show n - 1 + n - q = n by omega, show i + n - 0 = n by omega]
    · next e => rw [show n - 1 + n - q = (n - 1 - q) + n by omega, Nat.add_mod_right, show i + n - (q + 1) = n - 1 - q by omega]
  · rw [if_neg h0]
    split
    · next e => rw [show i - 1 + n - q = i by omega, show i + n - 0 = i + n by omega, Nat.add_mod_right]
    · next e => rw [show i - 1 + n - q = i + n - (q + 1) by omega]
theorem rotN_getD (k : Nat) (bs : List Int) (i : Nat) (hi : i < bs.length) : (rotN k bs).getD i 0 = bs.getD ((i + bs.length - k % bs.length) % bs.length) 0 := by
  induction k generalizing i with
  | zero => show bs.getD i 0 = _; rw [Nat.zero_mod, Nat.sub_zero, Nat.add_mod_right, Nat.mod_eq_of_lt hi]
  | succ k ih =>
    show (rotL (rotN k bs)).getD i 0 = _
    rw [rotL_getD _ _ (by rw [rotN_length]; exact hi), rotN_length, ih _ (Nat.mod_lt _ (by omega)), mod_turn _ _ _ (by omega) hi]
theorem list_ext_getD {xs ys : List Int} (hl : xs.length = ys.length) (h : ∀ i, i < ys.length → xs.getD i 0 = ys.getD i 0) : xs = ys := by
  apply List.ext_getElem hl
  intro i h1 h2
  have := h i h2
  rw [List.getD_eq_getElem?_getD, List.getD_eq_getElem?_getD, List.getElem?_eq_getElem h1, List.getElem?_eq_getElem h2] at this
  exact this
theorem rotN_full (bs : List Int) : rotN bs.length bs = bs := by
  apply list_ext_getD (rotN_length _ _)
  intro i hi
  rw [rotN_getD _ _ _ hi, Nat.mod_self, Nat.sub_zero, Nat.add_mod_right, Nat.mod_eq_of_lt hi]

/-! ### Cyclic piles -/
def hL (xs : List Int) : Nat := hgt xs.sum.toNat
def bitsL (xs : List Int) : List Int := (List.range (hL xs + 1)).map fun (i : Nat) => xs.getD i 0 - (hL xs - i)
theorem bitsL_length (xs : List Int) : (bitsL xs).length = hL xs + 1 := by simp [bitsL]
theorem bitsL_getD (xs : List Int) (i : Nat) (h : i < hL xs + 1) : (bitsL xs).getD i 0 = xs.getD i 0 - (hL xs - i) := by
  unfold bitsL
  rw [List.getD_eq_getElem?_getD, List.getElem?_map, List.getElem?_range h]; rfl
theorem bitsL_isB {xs : List Int} (h : Cyc xs) : IsB (bitsL xs) := by
  intro b hb
  obtain ⟨i, hi, rfl⟩ := List.mem_map.1 hb
  exact h.2 i (List.mem_range.1 hi)
theorem pos_ext {xs ys : List Int} (hx : ∀ x ∈ xs, 1 ≤ x) (hy : ∀ x ∈ ys, 1 ≤ x) (h : ∀ i, xs.getD i 0 = ys.getD i 0) : xs = ys := by
  apply list_ext_getD
  · apply eq_of_lt_iff
    intro i
    rw [← (getD_nonneg hx i).2, ← (getD_nonneg hy i).2, h i]
  · intro i _; exact h i
theorem from_bits {xs : List Int} (hg : Good xs) (h : Cyc xs) : fromB (bitsL xs) = xs := by
  have hB := bitsL_isB h
  apply pos_ext (fun x hx => (fromB_le hB x hx).1) hg.1
  intro i
  rw [fromB_getD hB, bitsL_length]
  split
  · next hi => rw [bitsL_getD _ _ hi]; omega
  · next hi =>
    have := h.1
    rw [List.getD_eq_getElem?_getD, List.getElem?_eq_none (by unfold hL at hi; omega)]; rfl
theorem fromB_sum {bs : List Int} (h : IsB bs) (h0 : 0 ∈ bs) : (tri (bs.length - 1) : Int) ≤ (fromB bs).sum ∧ (fromB bs).sum ≤ tri (bs.length - 1) + (bs.length - 1 : Nat) := by
  have hn : 0 < bs.length := List.length_pos_of_mem h0
  have hl : (fromB bs).length ≤ bs.length - 1 + 1 := by
    by_cases hlt : bs.length < (fromB bs).length
    · have := (getD_nonneg (fun x hx => (fromB_le h x hx).1) bs.length).2.2 hlt
      rw [fromB_getD h, if_neg (by omega)] at this
      omega
    · omega
  have hb : ∀ i, i < bs.length → bs.getD i 0 = 0 ∨ bs.getD i 0 = 1 := by
    intro i hi
    rw [List.getD_eq_getElem?_getD, List.getElem?_eq_getElem hi]
    exact h _ (List.getElem_mem hi)
  have := near_sum (bs.length - 1) (fromB bs) hl (fun i hi => by
    rw [fromB_getD h, if_pos (by omega)]
    have := hb i (by omega)
    omega)
  refine ⟨this.1, this.2.2 ?_⟩
  obtain ⟨i, hi, e⟩ := List.mem_iff_getElem.1 h0
  refine ⟨i, by omega, ?_⟩
  rw [fromB_getD h, if_pos hi]
  have : bs.getD i 0 = 0 := by rw [List.getD_eq_getElem?_getD, List.getElem?_eq_getElem hi]; exact e
  omega
theorem fromB_hL {bs : List Int} (h : IsB bs) (h0 : 0 ∈ bs) (hs : (fromB bs).sum ≤ 28) : hL (fromB bs) + 1 = bs.length := by
  have := fromB_sum h h0
  have hn : 0 < bs.length := List.length_pos_of_mem h0
  unfold hL
  rw [hgt_unique (L := bs.length - 1) (by omega) (by omega) (by omega)]
  omega
theorem fromB_cyc {bs : List Int} (h : IsB bs) (h0 : 0 ∈ bs) (hs : (fromB bs).sum ≤ 28) : Cyc (fromB bs) := by
  have hk := fromB_hL h h0 hs
  unfold hL at hk
  refine ⟨?_, fun i hi => ?_⟩
  · rw [hk]
    by_cases hlt : bs.length < (fromB bs).length
    · have := (getD_nonneg (fun x hx => (fromB_le h x hx).1) bs.length).2.2 hlt
      rw [fromB_getD h, if_neg (by omega)] at this
      omega
    · omega
  · rw [fromB_getD h, if_pos (by omega)]
    have : bs.getD i 0 = 0 ∨ bs.getD i 0 = 1 := by
      rw [List.getD_eq_getElem?_getD, List.getElem?_eq_getElem (by omega)]
      exact h _ (List.getElem_mem _)
    omega
theorem bits_zero {xs : List Int} (hg : Good xs) (h : Cyc xs) : 0 ∈ bitsL xs := by
  apply Classical.byContradiction
  intro hno
  have hB := bitsL_isB h
  have h1 : ∀ i, i < hL xs + 1 → (bitsL xs).getD i 0 = 1 := by
    intro i hi
    have hi' : i < (bitsL xs).length := by rw [bitsL_length]; exact hi
    rw [List.getD_eq_getElem?_getD, List.getElem?_eq_getElem hi']
    rcases hB _ (List.getElem_mem hi') with e | e
    · exact absurd (e ▸ List.getElem_mem hi') hno
    · exact e
  have hs : xs.length ≤ hL xs + 1 + 1 := by have := h.1; unfold hL; omega
  have hn := near_sum (hL xs + 1) xs hs (fun i hi => by
    by_cases hi' : i < hL xs + 1
    · have a := h1 i hi'
      rw [bitsL_getD _ _ hi'] at a
      omega
    · have e : i = hL xs + 1 := by omega
      subst e
      have := h.1
      rw [List.getD_eq_getElem?_getD, List.getElem?_eq_none (by unfold hL; omega)]
      simp)
  have hsum := sum_nonneg hg.1
  have := (tri_hgt xs.sum.toNat (by have := hg.2.2; omega))
  have ht := tri_succ (hL xs)
  unfold hL at *
  omega
theorem bits_from {bs : List Int} (h : IsB bs) (h0 : 0 ∈ bs) (hs : (fromB bs).sum ≤ 28) : bitsL (fromB bs) = bs := by
  have hk := fromB_hL h h0 hs
  apply list_ext_getD
  · rw [bitsL_length, hk]
  · intro i hi
    rw [bitsL_getD _ _ (by omega), fromB_getD h, if_pos hi]
    omega
theorem rotL_mem {bs : List Int} {x : Int} : x ∈ rotL bs ↔ x ∈ bs := by
  rcases List.eq_nil_or_concat bs with rfl | ⟨l, b, rfl⟩
  · exact Iff.rfl
  · rw [List.concat_eq_append, rotL_snoc]; simp; exact Or.comm
theorem cyc_step {xs : List Int} (hg : Good xs) (h : Cyc xs) : Cyc (stepL xs) := by
  have e := from_bits hg h
  have hB := bitsL_isB h
  have h0 := bits_zero hg h
  have hs := stepL_sum hg.1
  rw [← e, step_rot hB]
  refine fromB_cyc (rotL_isB hB) (rotL_mem.2 h0) ?_
  rw [← step_rot hB, e, hs]
  exact hg.2.2
theorem cyc_steps {xs : List Int} (hg : Good xs) (h : Cyc xs) (k : Nat) : Cyc (stepsL k xs) := by
  induction k with
  | zero => exact h
  | succ k ih => exact cyc_step (stepsL_good hg k) ih
/-- the whole ring -/
theorem cyc_round {xs : List Int} (hg : Good xs) (h : Cyc xs) : stepsL (hL xs + 1) xs = xs := by
  have e := from_bits hg h
  have hB := bitsL_isB h
  have : stepsL (hL xs + 1) (fromB (bitsL xs)) = fromB (bitsL xs) := by
    rw [steps_rot hB, ← bitsL_length, rotN_full]
  rwa [e] at this
theorem hL_le (xs : List Int) : hL xs ≤ 7 := hgt_le _

/-! ### The length of a cycle -/
def perL (z : List Int) : Nat := (((List.range 8).find? fun p => decide (stepsL (p + 1) z = z)).getD 7) + 1
theorem perL_spec {z : List Int} (hg : Good z) (h : Cyc z) : 1 ≤ perL z ∧ perL z ≤ hL z + 1 ∧ stepsL (perL z) z = z ∧ ∀ p, 0 < p → p < perL z → stepsL p z ≠ z := by
  have hr := cyc_round hg h
  have h7 := hL_le z
  unfold perL
  cases hf : (List.range 8).find? fun p => decide (stepsL (p + 1) z = z) with
  | none =>
    rw [List.find?_eq_none] at hf
    exact absurd (by simpa using hr) (hf (hL z) (List.mem_range.2 (by omega)))
  | some p =>
    have hp := List.find?_some hf
    simp only [Option.getD_some]
    rw [List.find?_range_eq_some] at hf
    refine ⟨by omega, ?_, by simpa using hp, fun q hq1 hq2 e => ?_⟩
    · apply Classical.byContradiction
      intro hc
      have := hf.2.2 (hL z) (by omega)
      simp [hr] at this
    · have := hf.2.2 (q - 1) (by omega)
      rw [show q - 1 + 1 = q by omega] at this
      simp [e] at this
theorem per_distinct {z : List Int} (hg : Good z) (h : Cyc z) {i j : Nat} (hij : i < j) (hj : j < perL z) : stepsL i z ≠ stepsL j z := by
  intro e
  have hs := perL_spec hg h
  have e1 : stepsL (perL z - j) (stepsL i z) = stepsL (perL z - j) (stepsL j z) := by rw [e]
  rw [← stepsL_plus, ← stepsL_plus, show perL z - j + j = perL z by omega, hs.2.2.1] at e1
  exact hs.2.2.2 (perL z - j + i) (by omega) (by omega) e1

/-! ### The tail -/
theorem nodup_len {α : Type} [BEq α] [LawfulBEq α] {l m : List α} (h : l.Nodup) (hs : ∀ x ∈ l, x ∈ m) : l.length ≤ m.length := by
  induction l generalizing m with
  | nil => simp
  | cons x l ih =>
    have hc := List.nodup_cons.1 h
    have hx := hs x (by simp)
    have := ih (m := m.erase x) hc.2 (fun y hy => by
      have hne : y ≠ x := fun e => hc.1 (e ▸ hy)
      exact (List.mem_erase_of_ne hne).2 (hs y (by simp [hy])))
    have hl := (List.perm_cons_erase hx).length_eq
    simp only [List.length_cons] at hl ⊢
    omega
theorem stepsL_mem {xs : List Int} (hg : Good xs) (k : Nat) : stepsL k xs ∈ allL xs.sum.toNat := by
  have := mem_allL (stepsL_good hg k)
  rwa [stepsL_sum hg k] at this
theorem allL_length {n : Nat} (hn : n ≤ 28) : (allL n).length = cnt n n := allF_length 28 n n hn hn hn
def runL (xs : List Int) (n : Nat) : List (List Int) := (List.range n).map fun i => stepsL i xs
theorem runL_length (xs : List Int) (n : Nat) : (runL xs n).length = n := by simp [runL]
theorem runL_succ (xs : List Int) (n : Nat) : runL xs (n + 1) = runL xs n ++ [stepsL n xs] := by
  unfold runL; rw [List.range_succ, List.map_append]; rfl
theorem runL_getD (xs : List Int) (n i : Nat) (h : i < n) : (runL xs n).getD i [] = stepsL i xs := by
  unfold runL
  rw [List.getD_eq_getElem?_getD, List.getElem?_map, List.getElem?_range h]; rfl
theorem runL_mem {xs ys : List Int} {n : Nat} : ys ∈ runL xs n ↔ ∃ i, i < n ∧ stepsL i xs = ys := by
  unfold runL
  rw [List.mem_map]
  constructor
  · rintro ⟨i, hi, e⟩; exact ⟨i, List.mem_range.1 hi, e⟩
  · rintro ⟨i, hi, e⟩; exact ⟨i, List.mem_range.2 hi, e⟩
/-- plays without piles that come again are short -/
theorem runL_short {xs : List Int} (hg : Good xs) {n : Nat} (h : (runL xs n).Nodup) : n ≤ 3718 := by
  have hs := sum_nonneg hg.1
  have hn : xs.sum.toNat ≤ 28 := by have := hg.2.2; omega
  have := nodup_len h (fun y hy => by
    obtain ⟨i, _, rfl⟩ := runL_mem.1 hy
    exact stepsL_mem hg i)
  rw [runL_length, allL_length hn] at this
  have := cnt_le xs.sum.toNat (by omega) xs.sum.toNat (by omega)
  omega
theorem reach_cyc {xs : List Int} (hg : Good xs) : ∃ k, k < 3719 ∧ Cyc (stepsL k xs) := by
  apply Classical.byContradiction
  intro hno
  have hd : ∀ n, n ≤ 3719 → (runL xs n).Nodup := by
    intro n
    induction n with
    | zero => intro _; exact List.nodup_nil
    | succ n ih =>
      intro hn
      rw [runL_succ, List.nodup_append]
      refine ⟨ih (by omega), by simp, ?_⟩
      intro a ha b hb
      rw [List.mem_singleton.1 hb]
      rintro rfl
      obtain ⟨i, hi, e⟩ := runL_mem.1 ha
      refine hno ⟨i, by omega, cyc_of_again (p := n - i) (stepsL_good hg i) (by omega) ?_⟩
      rw [← stepsL_plus, show n - i + i = n by omega, e]
  have := runL_short hg (hd 3719 (by omega))
  omega
def tailL (xs : List Int) : Nat := ((List.range 3719).find? fun k => cycB (stepsL k xs)).getD 0
theorem tailL_spec {xs : List Int} (hg : Good xs) : tailL xs ≤ 3718 ∧ Cyc (stepsL (tailL xs) xs) ∧ ∀ k, k < tailL xs → ¬ Cyc (stepsL k xs) := by
  obtain ⟨k, hk, hc⟩ := reach_cyc hg
  unfold tailL
  cases hf : (List.range 3719).find? fun k => cycB (stepsL k xs) with
  | none =>
    rw [List.find?_eq_none] at hf
    exact absurd (cyc_iff.2 hc) (hf k (List.mem_range.2 hk))
  | some p =>
    have hp := List.find?_some hf
    rw [List.find?_range_eq_some] at hf
    simp only [Option.getD_some]
    have := List.mem_range.1 hf.2.1
    refine ⟨by omega, cyc_iff.1 hp, fun q hq hcq => ?_⟩
    have := hf.2.2 q hq
    rw [cyc_iff.2 hcq] at this
    simp at this
theorem tailL_unique {xs : List Int} (hg : Good xs) {k : Nat} (h1 : Cyc (stepsL k xs)) (h2 : ∀ q, q < k → ¬ Cyc (stepsL q xs)) : tailL xs = k := by
  have hs := tailL_spec hg
  rcases Nat.lt_trichotomy (tailL xs) k with hl | he | hl
  · exact absurd hs.2.1 (h2 _ hl)
  · exact he
  · exact absurd h1 (hs.2.2 _ hl)
/-! ### The cycle -/
def endL (xs : List Int) : List Int := stepsL (tailL xs) xs
theorem endL_good {xs : List Int} (hg : Good xs) : Good (endL xs) := stepsL_good hg _
theorem endL_cyc {xs : List Int} (hg : Good xs) : Cyc (endL xs) := (tailL_spec hg).2.1
def cycL (xs : List Int) : List (List Int) := runL (endL xs) (perL (endL xs))
/-- the first piles that come again -/
theorem first_again {xs : List Int} (hg : Good xs) {i j : Nat} (hij : i < j) (he : stepsL i xs = stepsL j xs) (hd : (runL xs j).Nodup) : i = tailL xs ∧ j = tailL xs + perL (endL xs) := by
  have hci : Cyc (stepsL i xs) := cyc_of_again (p := j - i) (stepsL_good hg i) (by omega) (by rw [← stepsL_plus, show j - i + i = j by omega, he])
  have ht := tailL_spec hg
  have hti : tailL xs ≤ i := Nat.le_of_not_lt fun hl => ht.2.2 i hl hci
  have hp := perL_spec (endL_good hg) (endL_cyc hg)
  have hdd : ∀ a b, a < b → b < j → stepsL a xs ≠ stepsL b xs := by
    intro a b hab hb e
    have h1 : (runL xs j)[a]? = some (stepsL a xs) := by unfold runL; rw [List.getElem?_map, List.getElem?_range (by omega)]; rfl
    have h2 : (runL xs j)[b]? = some (stepsL b xs) := by unfold runL; rw [List.getElem?_map, List.getElem?_range (by omega)]; rfl
    obtain ⟨l1, e1⟩ := List.getElem?_eq_some_iff.1 h1
    obtain ⟨l2, e2⟩ := List.getElem?_eq_some_iff.1 h2
    have := List.pairwise_iff_getElem.1 hd a b l1 l2 hab
    rw [e1, e2] at this
    exact this e
  have hlow : j ≤ tailL xs + perL (endL xs) := by
    apply Nat.le_of_not_lt
    intro hl
    apply hdd (tailL xs) (tailL xs + perL (endL xs)) (by omega) hl
    rw [Nat.add_comm, stepsL_plus]
    exact hp.2.2.1.symm
  by_cases hjj : j < tailL xs + perL (endL xs)
  · have := per_distinct (endL_good hg) (endL_cyc hg) (i := i - tailL xs) (j := j - tailL xs) (by omega) (by omega)
    unfold endL at this
    rw [← stepsL_plus, ← stepsL_plus, show i - tailL xs + tailL xs = i by omega, show j - tailL xs + tailL xs = j by omega] at this
    exact absurd he this
  · have hj : j = tailL xs + perL (endL xs) := by omega
    refine ⟨?_, hj⟩
    by_cases hi : i = tailL xs
    · exact hi
    · have := per_distinct (endL_good hg) (endL_cyc hg) (i := 0) (j := i - tailL xs) (by omega) (by omega)
      unfold endL at this
      rw [← stepsL_plus, ← stepsL_plus, show i - tailL xs + tailL xs = i by omega, Nat.zero_add] at this
      apply absurd _ this
      rw [he, hj, Nat.add_comm (tailL xs), stepsL_plus]
      exact hp.2.2.1.symm
theorem cycL_drop {xs : List Int} (hg : Good xs) : (runL xs (tailL xs + perL (endL xs))).drop (tailL xs) = cycL xs := by
  unfold cycL
  apply List.ext_getElem
  · rw [List.length_drop, runL_length, runL_length]; omega
  · intro i h1 h2
    rw [List.getElem_drop]
    simp only [runL, List.getElem_map, List.getElem_range]
    unfold endL
    rw [← stepsL_plus, Nat.add_comm]
end
end Go.Proofs.YtimmjimeldejjaaGreatDoor
namespace Go.Proofs.YtimmjimeldejjaaGreatDoor
section
set_option linter.unusedVariables false
set_option linter.unusedSimpArgs false

end
end Go.Proofs.YtimmjimeldejjaaGreatDoor
namespace Go.Proofs.YtimmjimeldejjaaGreatDoor
section
set_option linter.unusedVariables false
set_option linter.unusedSimpArgs false

/-! ### Bits and piles go together -/
structure GB (bs : List Int) : Prop where
  isB : IsB bs
  zero : 0 ∈ bs
  sum : (fromB bs).sum ≤ 28
theorem GB.good {bs : List Int} (h : GB bs) : Good (fromB bs) := ⟨fun x hx => (fromB_le h.isB x hx).1, fromB_sorted h.isB, h.sum⟩
theorem GB.cyc {bs : List Int} (h : GB bs) : Cyc (fromB bs) := fromB_cyc h.isB h.zero h.sum
end
end Go.Proofs.YtimmjimeldejjaaGreatDoor
namespace Go.Proofs.YtimmjimeldejjaaGreatDoor
section
set_option linter.unusedVariables false
set_option linter.unusedSimpArgs false
end
end Go.Proofs.YtimmjimeldejjaaGreatDoor
namespace Go.Proofs.YtimmjimeldejjaaGreatDoor
section
set_option linter.unusedVariables false
set_option linter.unusedSimpArgs false

structure Cyclics (c : List (List Int)) (s : Nat) : Prop where
  small : s ≤ 28
  good : ∀ x ∈ c, Good x
  cyc : ∀ x ∈ c, Cyc x
  sum : ∀ x ∈ c, x.sum = s
  nodup : c.Nodup
/-! ### The longest tail -/
/-! ### All cyclic piles -/
/-- all cyclic piles of a number of cards, given as a list -/
structure AllCyc (c : List (List Int)) (n : Nat) : Prop extends Cyclics c n where
  all : ∀ x, Good x → Cyc x → x.sum = n → x ∈ c
/-! ### The greatest of a list -/
/-! ### Basins -/
end
end Go.Proofs.YtimmjimeldejjaaGreatDoor
namespace Go.Proofs.YtimmjimeldejjaaGreatDoor
section
set_option linter.unusedVariables false
set_option linter.unusedSimpArgs false

/-! ### Levels back from some roots -/
structure Roots (c : List (List Int)) (s : Nat) : Prop where
  small : s ≤ 28
  good : ∀ x ∈ c, Good x
  sum : ∀ x ∈ c, x.sum = s
  nodup : c.Nodup
theorem Cyclics.roots {c : List (List Int)} {s : Nat} (h : Cyclics c s) : Roots c s := ⟨h.small, h.good, h.sum, h.nodup⟩
/-! ### Pasts at some steps -/
/-! ### Tables of how often a number comes -/
end
end Go.Proofs.YtimmjimeldejjaaGreatDoor
