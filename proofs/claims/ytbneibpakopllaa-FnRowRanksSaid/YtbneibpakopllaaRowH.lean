/- Chapter 5 in mathematics: all rows of some cards, and that a row of few cards comes again soon. No condition. -/
import Derived.Test.YtbneibpakopllaaRowG
namespace Go.Proofs.Ytbneibpakopllaa
set_option linter.unusedVariables false
set_option linter.unusedSimpArgs false

theorem rankR_lt {l : List Int} (h : ∀ x ∈ l, 1 ≤ x) : rankR l < cntR l.sum.toNat := by
  induction l with
  | nil => show 0 < cntR 0; decide
  | cons x l ih =>
    have hl := fun y hy => h y (List.mem_cons_of_mem x hy)
    have hx := h x List.mem_cons_self
    have i := ih hl
    have h0 : 0 ≤ l.sum := by have := sum_nonneg hl; omega
    show sumR l.sum.toNat + rankR l < cntR (x :: l).sum.toNat
    rw [List.sum_cons, ← sumR_cnt (show (x + l.sum).toNat ≠ 0 by omega)]
    have h1 := sumR_succ l.sum.toNat
    have h2 := sumR_mono (show l.sum.toNat + 1 ≤ (x + l.sum).toNat by omega)
    omega
theorem rowAt_rank {l : List Int} (h : ∀ x ∈ l, 1 ≤ x) : rowAt l.sum.toNat (rankR l) = l := by
  induction l with
  | nil => rfl
  | cons x l ih =>
    have hl := fun y hy => h y (List.mem_cons_of_mem x hy)
    have hx := h x List.mem_cons_self
    have i := ih hl
    have h0 : 0 ≤ l.sum := by have := sum_nonneg hl; omega
    have hlt := rankR_lt hl
    have hs := sumR_succ l.sum.toNat
    have e : rankR (x :: l) = sumR l.sum.toNat + rankR l := rfl
    unfold rowAt at i ⊢
    rw [e, List.sum_cons, goR_step (d := l.sum.toNat) (by omega) (by omega) (by omega), Nat.add_sub_cancel_left, i]
    congr 1
    omega
theorem mem_allR {xs : List Int} (h : RowOk xs) {n : Nat} (hn : xs.sum = n) : xs ∈ allR n := by
  have h1 := rankR_lt h.1
  have h2 := rowAt_rank h.1
  rw [hn, Int.toNat_natCast] at h1 h2
  unfold allR
  exact List.mem_map.2 ⟨rankR xs, List.mem_range.2 h1, h2⟩
theorem rowStep_sum {xs : List Int} (h : RowOk xs) : (rowStepL xs).sum = xs.sum := by
  by_cases hx : xs = []
  · subst hx; rfl
  · rw [rowStepL_cons hx, List.sum_cons, lowL_sum h.1]; omega
theorem rowsL_sum {xs : List Int} (h : RowOk xs) (k : Nat) : (rowsL k xs).sum = xs.sum := by
  induction k with
  | zero => rfl
  | succ k ih => rw [rowsL_add, rowStep_sum (rowsL_row h k), ih]
/-- a row of ten cards at most is met again within 1000 steps -/
theorem orbR_few {xs : List Int} (h : RowOk xs) {n : Nat} (hn : xs.sum = n) (h10 : n ≤ 10) : (orbR xs).2.2 = true := by
  have hcn : cntR n ≤ 512 := by
    have : ∀ m, m < 11 → cntR m ≤ 512 := by decide +kernel
    exact this n (by omega)
  have hnd : ¬ (seenR xs 513).Nodup := fun hd => by
    have := nodup_len hd (m := allR n) (fun x hx => by
      unfold seenR at hx
      obtain ⟨i, _, rfl⟩ := List.mem_map.1 hx
      exact mem_allR (rowsL_row h i) (by rw [rowsL_sum h]; exact hn))
    rw [seenR_length, allR_length] at this
    omega
  have hex : ∃ j, j < 513 ∧ ∃ i, i < j ∧ rowsL i xs = rowsL j xs := by
    by_cases hc : ∃ j, j < 513 ∧ ∃ i, i < j ∧ rowsL i xs = rowsL j xs
    · exact hc
    · exfalso
      apply hnd
      unfold seenR List.Nodup
      rw [List.pairwise_map]
      refine List.Pairwise.imp_of_mem ?_ (List.pairwise_lt_range (n := 513))
      intro i j hi hj hij e
      exact hc ⟨j, List.mem_range.1 hj, i, hij, e⟩
  obtain ⟨j, hj, i, hij, e⟩ := hex
  have hm : (metR xs j).isSome = true := by
    unfold metR
    rw [List.find?_isSome]
    exact ⟨i, List.mem_range.2 hij, by simpa using e⟩
  have ha : (againR xs).isSome = true := by
    unfold againR
    rw [List.find?_isSome]
    exact ⟨j, List.mem_range.2 (by omega), hm⟩
  unfold orbR
  cases hq : againR xs with
  | none => rw [hq] at ha; cases ha
  | some q => rfl
end Go.Proofs.Ytbneibpakopllaa
