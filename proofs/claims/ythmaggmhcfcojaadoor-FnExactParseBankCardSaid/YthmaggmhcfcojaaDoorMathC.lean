/- Chapter 1: the step seen from the side, pasts, ranks: plain mathematics. No condition. -/
import Derived.Test.YthmaggmhcfcojaaDoorStepM
namespace Go.Proofs.YthmaggmhcfcojaaDoor
set_option linter.unusedVariables false
set_option linter.unusedSimpArgs false

/-! ### The side of the side -/
theorem above_cons (x : Int) (xs : List Int) (i : Int) : above (x :: xs) i = above xs i + if i < x then 1 else 0 := by
  unfold above
  rw [List.countP_cons]
  simp
theorem above_perm {xs ys : List Int} (h : xs.Perm ys) (i : Int) : above xs i = above ys i := h.countP_eq _
theorem above_append (xs ys : List Int) (i : Int) : above (xs ++ ys) i = above xs i + above ys i := by unfold above; exact List.countP_append
theorem above_low (xs : List Int) (i : Int) (h : 0 ≤ i) : above (lowL xs) i = above xs (i + 1) := by
  induction xs with
  | nil => rfl
  | cons x l ih =>
    rw [above_cons, ← ih]
    unfold lowL
    by_cases h1 : 1 < x
    · rw [List.filter_cons_of_pos (by simpa using h1), List.map_cons, above_cons]
      by_cases h2 : i < x - 1
      · rw [if_pos h2, if_pos (by omega)]
      · rw [if_neg h2, if_neg (by omega)]
    · rw [List.filter_cons_of_neg (by simpa using h1), if_neg (by omega)]; rfl
theorem above_zero {xs : List Int} {i : Int} (h : ∀ x ∈ xs, x ≤ i) : above xs i = 0 := by
  unfold above
  rw [List.countP_eq_zero]
  intro x hx
  have := h x hx
  simp; omega
/-- what a sorted list says of its places -/
theorem above_gt {xs : List Int} (hs : xs.Pairwise (· ≥ ·)) (h0 : ∀ x ∈ xs, 0 ≤ x) (i : Nat) (j : Int) (hj : 0 ≤ j) : i < above xs j ↔ j < xs.getD i 0 := by
  induction xs generalizing i with
  | nil => simp [above_nil]; omega
  | cons a l ih =>
    have hs' := List.pairwise_cons.1 hs
    have ih := fun i => ih hs'.2 (fun x hx => h0 x (by simp [hx])) i
    rw [above_cons]
    by_cases hja : j < a
    · rw [if_pos hja]
      cases i with
      | zero => simp [hja]
      | succ i => simp only [List.getD_cons_succ]; rw [← ih i]; omega
    · rw [if_neg hja]
      have hz : above l j = 0 := above_zero (fun x hx => by have : a ≥ x := hs'.1 x hx; omega)
      rw [hz]
      cases i with
      | zero => simp; omega
      | succ i =>
        have := ih i
        rw [hz] at this
        simp only [List.getD_cons_succ]
        omega
theorem countP_range (m : Nat) (v : Int) (h0 : 0 ≤ v) (hv : v ≤ m) : (List.range m).countP (fun (j : Nat) => decide ((j : Int) < v)) = v.toNat := by
  induction m generalizing v with
  | zero => have : v = 0 := by omega
            subst this; rfl
  | succ m ih =>
    rw [List.range_succ, List.countP_append, List.countP_singleton]
    by_cases h : v ≤ m
    · rw [ih v h0 h, if_neg (by simp; omega)]; rfl
    · have hm := ih m (by omega) (by omega)
      have e : (List.range m).countP (fun (j : Nat) => decide ((j : Int) < v)) = (List.range m).countP (fun (j : Nat) => decide ((j : Int) < (m : Int))) := by
        apply List.countP_congr
        intro j hj
        have := List.mem_range.1 hj
        simp; omega
      rw [e, hm, if_pos (by simp; omega)]
      omega
theorem getD_le_head {xs : List Int} (hs : xs.Pairwise (· ≥ ·)) (h0 : ∀ x ∈ xs, 0 ≤ x) (i : Nat) : 0 ≤ xs.getD i 0 ∧ xs.getD i 0 ≤ xs.headD 0 ∧ 0 ≤ xs.headD 0 := by
  cases xs with
  | nil => simp
  | cons a l =>
    have ha := h0 a (by simp)
    cases i with
    | zero => simp [ha]
    | succ i =>
      simp only [List.getD_cons_succ, List.headD_cons]
      by_cases hi : i < l.length
      · rw [List.getD_eq_getElem?_getD, List.getElem?_eq_getElem hi]
        have hm : l[i] ∈ l := List.getElem_mem hi
        have h1 : a ≥ l[i] := (List.pairwise_cons.1 hs).1 _ hm
        have h2 := h0 l[i] (by simp [hm])
        simp only [Option.getD_some]
        exact ⟨h2, h1, ha⟩
      · rw [List.getD_eq_getElem?_getD, List.getElem?_eq_none (by omega)]
        exact ⟨by simp, by simpa using ha, ha⟩
theorem above_side {xs : List Int} (hs : xs.Pairwise (· ≥ ·)) (h0 : ∀ x ∈ xs, 0 ≤ x) (i : Nat) : ((above (sideL xs) i : Nat) : Int) = xs.getD i 0 := by
  have hb := getD_le_head hs h0 i
  unfold sideL above
  rw [List.countP_map]
  have e : (List.range (xs.headD 0).toNat).countP ((fun x => decide ((i : Int) < x)) ∘ fun (j : Nat) => ((above xs j : Nat) : Int)) = (List.range (xs.headD 0).toNat).countP (fun (j : Nat) => decide ((j : Int) < xs.getD i 0)) := by
    apply List.countP_congr
    intro j hj
    have := above_gt hs h0 i j (by omega)
    simp only [Function.comp, decide_eq_true_eq]
    rw [← this]; omega
  unfold above at e
  rw [e, countP_range _ _ hb.1 (by omega)]
  omega

theorem side_sorted {xs : List Int} : (sideL xs).Pairwise (· ≥ ·) := by
  unfold sideL
  rw [List.pairwise_map]
  refine List.Pairwise.imp ?_ List.pairwise_lt_range
  intro a b hab
  show ((above xs a : Nat) : Int) ≥ ((above xs b : Nat) : Int)
  have : above xs b ≤ above xs a := by
    unfold above
    apply List.countP_mono_left
    intro x _ hx
    simp at hx ⊢; omega
  omega
theorem sum_range_add (m : Nat) (f g : Nat → Int) : ((List.range m).map fun i => f i + g i).sum = ((List.range m).map f).sum + ((List.range m).map g).sum := by
  induction m with
  | zero => rfl
  | succ m ih => simp only [List.range_succ, List.map_append, List.sum_append, ih, List.map_cons, List.map_nil, List.sum_cons, List.sum_nil]; omega
theorem sum_range_ind (m : Nat) (v : Int) (h0 : 0 ≤ v) (hv : v ≤ m) : ((List.range m).map fun (i : Nat) => if (i : Int) < v then (1 : Int) else 0).sum = v := by
  have := countP_range m v h0 hv
  have e : ∀ l : List Nat, (l.map fun (i : Nat) => if (i : Int) < v then (1 : Int) else 0).sum = ((l.countP (fun (j : Nat) => decide ((j : Int) < v)) : Nat) : Int) := by
    intro l
    induction l with
    | nil => rfl
    | cons a l ih => rw [List.map_cons, List.sum_cons, ih, List.countP_cons]; by_cases h : (a : Int) < v <;> simp [h]; omega
  rw [e, this]; omega
theorem sum_above (xs : List Int) (m : Nat) (h : ∀ x ∈ xs, 0 ≤ x ∧ x ≤ m) : ((List.range m).map fun (i : Nat) => ((above xs i : Nat) : Int)).sum = xs.sum := by
  induction xs with
  | nil =>
    have : ∀ l : List Nat, (l.map fun (i : Nat) => ((above [] i : Nat) : Int)).sum = 0 := by
      intro l; induction l with
      | nil => rfl
      | cons a l ih => rw [List.map_cons, List.sum_cons, ih, above_nil]; rfl
    exact this _
  | cons x l ih =>
    have hx := h x (by simp)
    have e : (fun (i : Nat) => ((above (x :: l) i : Nat) : Int)) = fun (i : Nat) => ((above l i : Nat) : Int) + if (i : Int) < x then 1 else 0 := by
      funext i
      rw [above_cons]
      by_cases hi : (i : Int) < x <;> simp [hi]
    rw [e, sum_range_add, ih (fun y hy => h y (by simp [hy])), sum_range_ind m x hx.1 hx.2, List.sum_cons]
    omega
theorem side_good {xs : List Int} (h : Good xs) : Good (sideL xs) := by
  have h0 : ∀ x ∈ xs, 0 ≤ x := fun x hx => by have := h.1 x hx; omega
  refine ⟨fun y hy => ?_, side_sorted, ?_⟩
  · unfold sideL at hy
    obtain ⟨i, hi, rfl⟩ := List.mem_map.1 hy
    have hi := List.mem_range.1 hi
    have := (above_gt h.2.1 h0 0 i (by omega)).2 (by rw [← head_getD]; omega)
    omega
  · unfold sideL
    rw [sum_above xs _ (fun x hx => ⟨h0 x hx, by have := good_le_head h hx; omega⟩)]
    exact h.2.2

def sideStepL (xs : List Int) : List Int := (List.range (max (xs.length - 1) (xs.headD 0).toNat)).map fun (i : Nat) => xs.getD (i + 1) 0 + if i < (xs.headD 0).toNat then 1 else 0
theorem eq_of_lt_iff {a b : Nat} (h : ∀ i, i < a ↔ i < b) : a = b := by
  have h1 := h a; have h2 := h b; omega
theorem sideStep_eq {xs : List Int} (h : Good xs) : sideL (stepL (sideL xs)) = sideStepL xs := by
  by_cases hx : xs = []
  · subst hx; rfl
  have h0 : ∀ x ∈ xs, 0 ≤ x := fun x hx => by have := h.1 x hx; omega
  have hh : 1 ≤ xs.headD 0 := by
    cases xs with
    | nil => exact absurd rfl hx
    | cons a l => simpa using h.1 a (by simp)
  have hne : sideL xs ≠ [] := fun e => by have := sideL_length xs; rw [e, List.length_nil] at this; omega
  have hG := stepL_good (side_good h)
  have hab : ∀ i : Nat, ((above (stepL (sideL xs)) i : Nat) : Int) = xs.getD (i + 1) 0 + if i < (xs.headD 0).toNat then 1 else 0 := by
    intro i
    rw [stepL_cons hne, above_perm (sortD_perm _), above_append, above_low _ _ (by omega), sideL_length]
    have := above_side h.2.1 h0 (i + 1)
    rw [show (((i + 1 : Nat)) : Int) = (i : Int) + 1 by omega] at this
    rw [Int.natCast_add, this, above_cons, above_nil]
    by_cases hi : i < (xs.headD 0).toNat
    · rw [if_pos (by omega), if_pos hi]; rfl
    · rw [if_neg (by omega), if_neg hi]; rfl
  have hlen : ((stepL (sideL xs)).headD 0).toNat = max (xs.length - 1) (xs.headD 0).toNat := by
    apply eq_of_lt_iff
    intro i
    have h1 := above_gt hG.2.1 (fun x hx => by have := hG.1 x hx; omega) 0 i (by omega)
    rw [← head_getD] at h1
    have h2 := hab i
    have h3 : 0 < xs.getD (i + 1) 0 ↔ i + 1 < xs.length := by
      constructor
      · intro hp
        by_cases hl : i + 1 < xs.length
        · exact hl
        · rw [List.getD_eq_getElem?_getD, List.getElem?_eq_none (by omega)] at hp; simp at hp
      · intro hl
        rw [List.getD_eq_getElem?_getD, List.getElem?_eq_getElem hl]
        have := h.1 _ (List.getElem_mem hl)
        simp only [Option.getD_some]; omega
    have h4 := getD_le_head h.2.1 h0 (i + 1)
    by_cases hi : i < (xs.headD 0).toNat
    · rw [if_pos hi] at h2; omega
    · rw [if_neg hi] at h2; omega
  unfold sideStepL
  rw [show sideL (stepL (sideL xs)) = (List.range ((stepL (sideL xs)).headD 0).toNat).map fun (i : Nat) => ((above (stepL (sideL xs)) i : Nat) : Int) from rfl, hlen]
  apply List.map_congr_left
  intro i _
  exact hab i

/-! ### Order of lists -/
def befB : List Int → List Int → Bool
  | [], _ => false
  | _ :: _, [] => true
  | a :: as, b :: bs => if a = b then befB as bs else decide (b < a)

/-! ### Pasts -/
def pastL (xs : List Int) (x : Int) : List Int := (xs.erase x).map (· + 1) ++ List.replicate (x.toNat - (xs.length - 1)) 1

theorem past_before (x y : Int) (L R1 R2 : List Int) (hs : (x :: L).Pairwise (· ≥ ·)) (hy : y ∈ L) (hyx : y < x) :
    befB (L.map (· + 1) ++ R1) ((x :: L.erase y).map (· + 1) ++ R2) = false := by
  induction L generalizing x with
  | nil => cases hy
  | cons z L ih =>
    have h1 := List.pairwise_cons.1 hs
    have hzx : x ≥ z := h1.1 z (by simp)
    simp only [List.map_cons, List.cons_append, befB]
    by_cases hz : z = x
    · subst hz
      have hzy : ¬ z = y := by omega
      rw [if_pos rfl]
      have hy' : y ∈ L := by
        rcases List.mem_cons.1 hy with h | h
        · exact absurd h.symm hzy
        · exact h
      rw [List.erase_cons_tail (by simpa using hzy)]
      exact ih z h1.2 hy' hyx
    · rw [if_neg (by omega)]
      simp; omega
theorem past_order {xs : List Int} (hs : xs.Pairwise (· ≥ ·)) {x y : Int} (hx : x ∈ xs) (hy : y ∈ xs) (hyx : y < x) (R1 R2 : List Int) :
    befB ((xs.erase x).map (· + 1) ++ R1) ((xs.erase y).map (· + 1) ++ R2) = false := by
  induction xs with
  | nil => cases hx
  | cons a l ih =>
    have h1 := List.pairwise_cons.1 hs
    by_cases hax : a = x
    · subst hax
      have hay : ¬ a = y := by omega
      have hy' : y ∈ l := by
        rcases List.mem_cons.1 hy with h | h
        · exact absurd h.symm hay
        · exact h
      rw [List.erase_cons_head, List.erase_cons_tail (by simpa using hay)]
      exact past_before a y l R1 R2 hs hy' hyx
    · have hx' : x ∈ l := by
        rcases List.mem_cons.1 hx with h | h
        · exact absurd h.symm hax
        · exact h
      have hxa : a ≥ x := h1.1 x hx'
      have hay : ¬ a = y := by omega
      have hy' : y ∈ l := by
        rcases List.mem_cons.1 hy with h | h
        · exact absurd h.symm hay
        · exact h
      rw [List.erase_cons_tail (by simpa using hax), List.erase_cons_tail (by simpa using hay)]
      simp only [List.map_cons, List.cons_append, befB, if_true]
      exact ih h1.2 hx' hy'

theorem past_sum {xs : List Int} (x : Int) (hx : x ∈ xs) (h1 : (xs.length : Int) - 1 ≤ x) : (pastL xs x).sum = xs.sum := by
  have hp := List.perm_cons_erase hx
  have hl := hp.length_eq
  have hsum := perm_sum hp
  simp only [List.length_cons, List.sum_cons] at hl hsum
  have e : ∀ l : List Int, (l.map (· + 1)).sum = l.sum + l.length := by
    intro l; induction l with
    | nil => rfl
    | cons a l ih => simp only [List.map_cons, List.sum_cons, ih, List.length_cons]; omega
  have er : ∀ k : Nat, (List.replicate k (1 : Int)).sum = k := by
    intro k; induction k with
    | zero => rfl
    | succ k ih => rw [List.replicate_succ, List.sum_cons, ih]; omega
  unfold pastL
  rw [List.sum_append, e, er]
  omega
theorem past_good {xs : List Int} (hg : Good xs) (x : Int) (hx : x ∈ xs) (h1 : (xs.length : Int) - 1 ≤ x) : Good (pastL xs x) := by
  refine ⟨fun y hy => ?_, ?_, by rw [past_sum x hx h1]; exact hg.2.2⟩
  · unfold pastL at hy
    rcases List.mem_append.1 hy with h | h
    · obtain ⟨z, hz, rfl⟩ := List.mem_map.1 h
      have := hg.1 z (List.mem_of_mem_erase hz)
      omega
    · rw [List.mem_replicate] at h; omega
  · unfold pastL
    rw [List.pairwise_append]
    refine ⟨?_, ?_, fun a ha b hb => ?_⟩
    · rw [List.pairwise_map]
      exact (hg.2.1.sublist List.erase_sublist).imp (fun {a b} h => by have h : a ≥ b := h; show a + 1 ≥ b + 1; omega)
    · rw [List.pairwise_replicate]; right; omega
    · obtain ⟨z, hz, rfl⟩ := List.mem_map.1 ha
      have := hg.1 z (List.mem_of_mem_erase hz)
      rw [List.mem_replicate] at hb
      show z + 1 ≥ b
      omega
end Go.Proofs.YthmaggmhcfcojaaDoor
