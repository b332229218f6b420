/- Facts for the laws of chapters 1 and 2 that are not exact: mathematics. No condition. -/
import Derived.Test.YtkhphdohdnfplaaGa
namespace Go.Proofs.Ytkhphdohdnfplaa
set_option linter.unusedVariables false
set_option linter.unusedSimpArgs false
theorem cycL_len {xs : List Int} : (cycL xs).length = perL (endL xs) := by unfold cycL; rw [runL_length]
theorem cycL_ne {xs : List Int} (hg : Good xs) : (cycL xs).length ≠ 0 := by
  rw [cycL_len]
  have := (perL_spec (endL_good hg) (endL_cyc hg)).1
  omega
theorem mem_at {xs : List Int} {k : Nat} (hk : k < xs.length) : xs.getD k 0 ∈ xs := by
  rw [List.getD_eq_getElem?_getD, List.getElem?_eq_getElem hk]
  exact List.getElem_mem _
theorem sideStep_at {xs : List Int} (hg : Good xs) (k : Nat) (hk : k < (sideStepL xs).length) : (sideStepL xs).getD k 0 = xs.getD (k + 1) 0 + (if (k : Int) < xs.getD 0 0 then 1 else 0) := by
  have h0 : xs.headD 0 = xs.getD 0 0 := by cases xs <;> rfl
  have h1 : 0 ≤ xs.getD 0 0 := by
    by_cases h : 0 < xs.length
    · have := hg.mem (mem_at h)
      omega
    · rw [List.getD_eq_getElem?_getD, List.getElem?_eq_none (by omega)]; exact Int.le_refl _
  rw [List.getD_eq_getElem?_getD, List.getElem?_eq_getElem hk]
  simp only [sideStepL, List.getElem_map, List.getElem_range, Option.getD_some, h0]
  by_cases hlt : k < (xs.getD 0 0).toNat
  · rw [if_pos hlt, if_pos (by omega)]
  · rw [if_neg hlt, if_neg (by omega)]
/-! ### A cycle, place by place -/
theorem steps_none (x : List Int) : stepsL 0 x = x := by simp [stepsL]
theorem cycL_at {xs : List Int} {i : Nat} (hi : i < (cycL xs).length) : (cycL xs).getD i [] = stepsL i (endL xs) := by
  rw [List.getD_eq_getElem?_getD, List.getElem?_eq_getElem hi]
  simp [cycL, runL]
theorem cycL_good_at {xs : List Int} (hg : Good xs) {i : Nat} (hi : i < (cycL xs).length) : Good ((cycL xs).getD i []) ∧ Cyc ((cycL xs).getD i []) := by
  rw [cycL_at hi]
  exact ⟨stepsL_good (endL_good hg) i, cyc_steps (endL_good hg) (endL_cyc hg) i⟩
theorem cycL_next {xs : List Int} (hg : Good xs) {i : Nat} (hi : i < (cycL xs).length) : stepL ((cycL xs).getD i []) = (cycL xs).getD ((i + 1) % (cycL xs).length) [] := by
  have h1 : stepL (stepsL i (endL xs)) = stepsL (i + 1) (endL xs) := (stepsL_plus 1 i (endL xs) ▸ by rw [Nat.add_comm]; rfl)
  rw [cycL_at hi, cycL_at (Nat.mod_lt _ (by omega)), h1]
  by_cases h : i + 1 < (cycL xs).length
  · rw [Nat.mod_eq_of_lt h]
  · have e : i + 1 = (cycL xs).length := by omega
    rw [e, Nat.mod_self, cycL_len, (perL_spec (endL_good hg) (endL_cyc hg)).2.2.1]
    exact (steps_none _).symm
theorem cycL_new {xs : List Int} (hg : Good xs) {i : Nat} (hi : i < (cycL xs).length) : (cycL xs).getD i [] ∉ (cycL xs).take i := by
  intro hm
  obtain ⟨j, hj, e⟩ := List.mem_take_iff_getElem.1 hm
  have hj2 : j < i := by omega
  have hj3 : j < (cycL xs).length := by omega
  have ej : (cycL xs).getD j [] = (cycL xs).getD i [] := by
    rw [← e, List.getD_eq_getElem?_getD, List.getElem?_eq_getElem hj3]; rfl
  rw [cycL_at hj3, cycL_at hi] at ej
  exact per_distinct (endL_good hg) (endL_cyc hg) hj2 (by rw [← cycL_len]; exact hi) ej
theorem cycL_first {xs : List Int} (hg : Good xs) : (cycL xs).getD 0 [] = stepsL (tailL xs) xs := by
  rw [cycL_at (by have := cycL_ne hg; omega)]; exact steps_none _
theorem steps_per {z : List Int} {p : Nat} (h : stepsL p z = z) (k : Nat) : stepsL (k * p) z = z := by
  induction k with
  | zero => rw [Nat.zero_mul]; exact steps_none z
  | succ k ih => rw [Nat.succ_mul, Nat.add_comm, stepsL_plus, ih, h]
theorem per_dvd {z : List Int} (hg : Good z) (h : Cyc z) {n : Nat} (hn : stepsL n z = z) : n % perL z = 0 := by
  have hs := perL_spec hg h
  have e : stepsL (n % perL z) z = z := by
    have h1 : n % perL z + (n / perL z) * perL z = n := by rw [Nat.mul_comm]; exact Nat.mod_add_div n (perL z)
    have h2 : stepsL (n % perL z + (n / perL z) * perL z) z = stepsL (n % perL z) z := by
      rw [stepsL_plus, steps_per hs.2.2.1]
    rw [h1, hn] at h2
    exact h2.symm
  have hlt : n % perL z < perL z := Nat.mod_lt _ hs.1
  apply Classical.byContradiction
  intro hne
  exact hs.2.2.2 _ (by omega) hlt e
theorem hgt_per {xs : List Int} (hg : Good xs) : (hgt xs.sum.toNat + 1) % (cycL xs).length = 0 := by
  rw [cycL_len]
  have h := cyc_round (endL_good hg) (endL_cyc hg)
  have hL1 : hL (endL xs) = hgt xs.sum.toNat := by
    unfold hL endL
    rw [stepsL_sum hg]
  rw [hL1] at h
  exact per_dvd (endL_good hg) (endL_cyc hg) h
theorem tail_zero {xs : List Int} (hg : Good xs) : cycB xs = decide (tailL xs = 0) := by
  have hs := tailL_spec hg
  by_cases h : tailL xs = 0
  · rw [decide_eq_true h]
    have := hs.2.1
    rw [h] at this
    exact cyc_iff.2 this
  · rw [decide_eq_false h]
    cases hc : cycB xs
    · rfl
    · exact absurd (cyc_iff.1 hc) (hs.2.2 0 (by omega))
theorem tail_before {xs : List Int} (hg : Good xs) {k : Nat} (h : k < tailL xs) : cycB (stepsL k xs) = false := by
  cases hc : cycB (stepsL k xs)
  · rfl
  · exact absurd (cyc_iff.1 hc) ((tailL_spec hg).2.2 k h)
end Go.Proofs.Ytkhphdohdnfplaa
