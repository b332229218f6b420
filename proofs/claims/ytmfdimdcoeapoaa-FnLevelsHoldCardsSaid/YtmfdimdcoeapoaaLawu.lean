/- Mathematics for the law on levels: each level up to the last has a card, levels hold all cards, cyclic piles have none above the first hole. No condition. -/
import Derived.Test.YtmfdimdcoeapoaaGv
namespace Go.Proofs.Ytmfdimdcoeapoaa
set_option linter.unusedVariables false
set_option linter.unusedSimpArgs false

theorem lev_pos {xs : List Int} (hg : Good xs) {l : Nat} (h : l < (lvsL xs).length) : 0 < lev xs l xs.length := by
  have hne : xs ≠ [] := fun e => by subst e; simp [lvsL, levNV] at h
  have ht := (lvsL_top hg hne).2
  rw [lvsL_getD hg] at ht
  obtain ⟨i, h1, h2, h3⟩ := (lvl_some xs _ _).1 ht
  unfold cel at h3
  by_cases hi : i ≤ l
  · refine (lvl_some xs _ _).2 ⟨i, h1, hi, ?_⟩
    unfold cel
    omega
  · refine (lvl_some xs _ _).2 ⟨l, by omega, Nat.le_refl _, ?_⟩
    have := good_at hg (k := l) (by omega)
    unfold cel
    omega
theorem lvs_pos {xs : List Int} (hg : Good xs) {l : Nat} (h : l < (lvsL xs).length) : 1 ≤ (lvsL xs).getD l 0 ∧ (lvsL xs).getD l 0 ≤ (l : Int) + 1 := by
  have h1 := lev_pos hg h
  have h2 := (lvsL_at hg l).2.2
  rw [lvsL_getD hg] at *
  omega
theorem lev_over {xs : List Int} (hg : Good xs) {l : Nat} (h : (lvsL xs).length ≤ l) : lev xs l xs.length = 0 := by
  rw [← lvsL_getD hg, getD_past h]
theorem set_sum (ls : List Int) (l : Nat) (h : l < ls.length) : (ls.set l (ls.getD l 0 + 1)).sum = ls.sum + 1 := by
  induction ls generalizing l with
  | nil => simp at h
  | cons a ls ih =>
    cases l with
    | zero => simp only [List.getD_cons_zero, List.set_cons_zero, List.sum_cons]; omega
    | succ l =>
      have := ih l (by simpa using h)
      simp only [List.getD_cons_succ, List.set_cons_succ, List.sum_cons, this]; omega
theorem bumpV_sum (ls : List Int) (l : Nat) (h : l ≤ ls.length) : (bumpV ls l).sum = ls.sum + 1 := by
  unfold bumpV
  split
  · next hl => exact set_sum ls l hl
  · rw [List.sum_append]; simp
theorem bumps_sum (ls : List Int) (i p : Nat) (h : i ≤ ls.length) : (bumps ls i p).sum = ls.sum + p := by
  induction p with
  | zero => show ls.sum = _; simp
  | succ p ih =>
    show (bumpV (bumps ls i p) (i + p)).sum = _
    rw [bumpV_sum _ _ (by rw [bumps_length ls i p h]; omega), ih]; omega
theorem levNV_sum {xs : List Int} (hg : Good xs) {k : Nat} (h : k ≤ xs.length) : (levNV xs k).sum = (xs.take k).sum := by
  induction k with
  | zero => rfl
  | succ k ih =>
    have hx := good_at hg (k := k) (by omega)
    show (bumps (levNV xs k) k (xs.getD k 0).toNat).sum = _
    rw [bumps_sum _ _ _ (levNV_ge hg (by omega)), ih (by omega), takeL_snoc (by omega), List.sum_append]
    simp only [List.sum_cons, List.sum_nil]
    omega
theorem lvs_sum {xs : List Int} (hg : Good xs) : (lvsL xs).sum = xs.sum := by
  have := levNV_sum hg (Nat.le_refl xs.length)
  rw [List.take_length] at this
  exact this
theorem tri_step : ∀ k, k < 30 → tri (k + 1) = tri k + (k + 1) := by decide +kernel
theorem full_sum {L : List Int} {h : Nat} (hh : h ≤ 29) (hl : h ≤ L.length) (hf : ∀ l, l < h → L.getD l 0 = (l : Int) + 1) : (L.take h).sum = tri h := by
  induction h with
  | zero => rfl
  | succ h ih =>
    have h1 := ih (by omega) (by omega) (fun l hl => hf l (by omega))
    rw [takeL_snoc (by omega), List.sum_append, h1, hf h (by omega), tri_step h (by omega)]
    simp only [List.sum_cons, List.sum_nil]
    omega
theorem hgt_of : ∀ n, n < 29 → ∀ h, h < 29 → tri h ≤ n → n ≤ tri h + h → hgt n = h := by decide +kernel
theorem hole_len {xs : List Int} (hg : Good xs) : holeN xs ≤ (lvsL xs).length := by
  have hs := hole_spec hg
  apply Nat.le_of_not_lt
  intro hl
  have := hs.2.2 _ hl
  rw [lev_over hg (Nat.le_refl _)] at this
  omega
theorem cyc_spill {xs : List Int} (hg : Good xs) (hne : xs ≠ []) : cycB xs = decide (spillN xs ≤ holeN xs) := by
  have hs := hole_spec hg
  have hhl := hole_len hg
  have htop := lvsL_top hg hne
  have hN : spillN xs = (lvsL xs).length - 1 := rfl
  have hs0 := sum_nonneg hg.1
  have hs1 := hg.2.2
  have none_above : ∀ l i, i ≤ l → (lvsL xs).length ≤ l → xs.getD i 0 ≤ (l : Int) - i := by
    intro l i hi hl
    apply Classical.byContradiction
    intro hc
    have h1 := (lvl_some xs l xs.length).2 ⟨i, (getD_nonneg hg.1 i).2.1 (by omega), hi, by unfold cel; omega⟩
    rw [lev_over hg hl] at h1
    omega
  by_cases hc : Cyc xs
  · have hb : cycB xs = true := decide_eq_true hc
    rw [hb, eq_comm, decide_eq_true_iff]
    have hc' : xs.length ≤ hgt xs.sum.toNat + 1 ∧ ∀ i, i < hgt xs.sum.toNat + 1 → (xs.getD i 0 - (hgt xs.sum.toNat - i) = 0 ∨ xs.getD i 0 - (hgt xs.sum.toNat - i) = 1) := hc
    generalize hgt xs.sum.toNat = d at hc'
    have h1 : d ≤ holeN xs := by
      apply Nat.le_of_not_lt
      intro hl
      refine hs.2.1 (full_of hg fun i hi => (cel_celB (by omega)).2 ?_)
      have := hc'.2 i (by omega)
      unfold cel
      omega
    have h2 : (lvsL xs).length ≤ d + 1 := by
      apply Nat.le_of_not_lt
      intro hl
      have hp := htop.2
      rw [lvsL_getD hg] at hp
      obtain ⟨i, g1, g2, g3⟩ := (lvl_some xs _ _).1 hp
      unfold cel at g3
      by_cases hi : i < d + 1
      · have := hc'.2 i hi; omega
      · omega
    omega
  · have hb : cycB xs = false := decide_eq_false hc
    rw [hb, eq_comm, decide_eq_false_iff_not]
    intro hle
    apply hc
    have hlen : (lvsL xs).length ≤ holeN xs + 1 := by omega
    generalize hh : holeN xs = h at *
    have hfull : ∀ l, l < h → (lvsL xs).getD l 0 = (l : Int) + 1 := fun l hl => by rw [lvsL_getD hg]; exact hs.2.2 l hl
    have hsum := lvs_sum hg
    have htk := full_sum (by omega) hhl hfull
    have hb0 := lvsL_at hg h
    have hlt : (lvsL xs).getD h 0 ≤ h := by
      have h3 : ¬ (lvsL xs).getD h 0 = (h : Int) + 1 := by rw [lvsL_getD hg]; exact hs.2.1
      omega
    have hsplit : (lvsL xs).sum = ((lvsL xs).take h).sum + (lvsL xs).getD h 0 := by
      by_cases hq : (lvsL xs).length = h
      · rw [getD_past (by omega), List.take_of_length_le (by omega)]; omega
      · have e := takeL_snoc (xs := lvsL xs) (k := h) (by omega)
        rw [List.take_of_length_le (by omega)] at e
        conv => lhs; rw [e]
        rw [List.sum_append]; simp
    have hhg : hgt xs.sum.toNat = h := hgt_of _ (by omega) h (by omega) (by omega) (by omega)
    show xs.length ≤ hgt xs.sum.toNat + 1 ∧ ∀ i, i < hgt xs.sum.toNat + 1 → (xs.getD i 0 - (hgt xs.sum.toNat - i) = 0 ∨ xs.getD i 0 - (hgt xs.sum.toNat - i) = 1)
    rw [hhg]
    refine ⟨?_, fun i hi => ?_⟩
    · apply Nat.le_of_not_lt
      intro hl
      have h1 := none_above (h + 1) (h + 1) (Nat.le_refl _) hlen
      have h2 := good_at hg (k := h + 1) hl
      omega
    · have h1 := none_above (h + 1) i (by omega) hlen
      by_cases hih : i < h
      · have h2 := (lev_full xs (h - 1)).1 (by rw [hs.2.2 (h - 1) (by omega)])
        have h3 := h2.2 i (by omega)
        unfold cel at h3
        omega
      · have := (getD_nonneg hg.1 i).1
        omega
end Go.Proofs.Ytmfdimdcoeapoaa
