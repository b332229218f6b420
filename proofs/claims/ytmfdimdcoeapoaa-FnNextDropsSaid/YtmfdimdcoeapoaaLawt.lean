/- Mathematics for the laws of chapter 3. No condition. -/
import Derived.Test.YtmfdimdcoeapoaaTail42
import Derived.Test.YtmfdimdcoeapoaaGv
import Derived.Test.YtmfdimdcoeapoaaGe
namespace Go.Proofs.Ytmfdimdcoeapoaa
set_option linter.unusedVariables false
set_option linter.unusedSimpArgs false

theorem nd_lt {xs : List Int} (hg : Good xs) (h : ¬ Cyc xs) : ndL xs < tailL xs := by
  obtain ⟨q, h1, h2, h3⟩ := drop_comes hg h
  rw [nd_unique hg h h1 h2]; exact h3
theorem pots_down {xs : List Int} (hg : Good xs) (k : Nat) : pot (stepsL (k + 1) xs) ≤ pot (stepsL k xs) := by
  have h1 := pot_drop (stepsL_good hg k)
  have h2 := (dropN_bound (stepsL_good hg k) (k := (stepsL k xs).length) (Nat.le_refl _)).1
  have h3 : 0 ≤ dropL (stepsL k xs) := h2
  show pot (stepL (stepsL k xs)) ≤ _
  omega
theorem nd_pots {xs : List Int} (hg : Good xs) (h : ¬ Cyc xs) : pot (stepsL (ndL xs + 1) xs) < pot (stepsL (ndL xs) xs) ∧ ∀ i, i ≤ ndL xs → pot (stepsL i xs) = pot xs := by
  have hs := nd_spec hg h
  refine ⟨?_, fun i => ?_⟩
  · have h1 := pot_drop (stepsL_good hg (ndL xs))
    show pot (stepL (stepsL (ndL xs) xs)) < _
    omega
  · induction i with
    | zero => intro _; rfl
    | succ i ih =>
      intro hi
      have h1 := pot_drop (stepsL_good hg i)
      have h2 := hs.2.1 i (by omega)
      have h3 := ih (by omega)
      show pot (stepL (stepsL i xs)) = _
      omega
theorem nd_list {xs : List Int} (hg : Good xs) (h : ¬ Cyc xs) : (potsL xs (ndL xs + 1)).getD (ndL xs + 1) 0 < (potsL xs (ndL xs + 1)).getD (ndL xs) 0 ∧ ∀ i, i ≤ ndL xs → (potsL xs (ndL xs + 1)).getD i 0 = pot xs := by
  have hs := nd_pots hg h
  rw [potsL_getD xs (Nat.le_refl _), potsL_getD xs (Nat.le_succ _)]
  exact ⟨hs.1, fun i hi => by rw [potsL_getD xs (by omega)]; exact hs.2 i hi⟩
/-- the potentials of a play: they never rise and are never less than the least one -/
theorem pots_fall {xs : List Int} (hg : Good xs) (k : Nat) : (potsL xs k).getD 0 0 = pot xs ∧ (∀ i, i < k → (potsL xs k).getD (i + 1) 0 ≤ (potsL xs k).getD i 0) ∧ ∀ i, i ≤ k → leastI xs.sum.toNat ≤ (potsL xs k).getD i 0 ∧ (potsL xs k).getD i 0 ≤ 21952 := by
  refine ⟨by rw [potsL_getD xs (Nat.zero_le _)]; rfl, fun i hi => ?_, fun i hi => ?_⟩
  · rw [potsL_getD xs (by omega), potsL_getD xs (by omega)]; exact pots_down hg i
  · rw [potsL_getD xs hi]
    have h1 := (pot_least (stepsL_good hg i)).1
    rw [stepsL_sum hg] at h1
    exact ⟨h1, (pot_range (stepsL_good hg i)).2⟩
/-- a single pile has the greatest potential -/
theorem pot_most {l : List Int} (h : ∀ x ∈ l, 1 ≤ x) : potL l ≤ l.sum * l.sum - l.sum := by
  induction l with
  | nil => simp [potL]
  | cons x l ih =>
    have ih := ih (fun y hy => h y (by simp [hy]))
    have hx := h x (by simp)
    have hs := sum_nonneg (fun y hy => h y (List.mem_cons_of_mem x hy) : ∀ y ∈ l, 1 ≤ y)
    have h1 : 0 ≤ (x - 1) * l.sum := Int.mul_nonneg (by omega) (by omega)
    rw [Int.sub_mul, Int.one_mul] at h1
    simp only [potL, List.sum_cons]
    rw [Int.add_mul, Int.mul_add, Int.mul_add, Int.mul_comm l.sum x]
    omega
theorem pot_great {xs : List Int} (hg : Good xs) : pot xs ≤ (xs.sum * (xs.sum - 1)).tdiv 2 := by
  have h1 := pot_potL hg
  have h2 := pot_most hg.1
  have h3 := sum_nonneg hg.1
  have h4 : xs.sum * (xs.sum - 1) = xs.sum * xs.sum - xs.sum := by rw [Int.mul_sub, Int.mul_one]
  have h5 := (pot_range hg).1
  rw [h4, Int.tdiv_eq_ediv_of_nonneg (by omega)]
  omega
theorem least_great : ∀ n : Nat, n < 29 → leastI n ≤ ((n : Int) * ((n : Int) - 1)).tdiv 2 := by decide +kernel
theorem tail_pots {xs : List Int} (hg : Good xs) : (potsL xs (tailL xs)).getD (tailL xs) 0 = leastI xs.sum.toNat ∧ ∀ m, tailL xs = m + 1 → leastI xs.sum.toNat < (potsL xs (tailL xs)).getD m 0 := by
  have hc := (tailL_spec hg).2.1
  have h1 := (pot_least (stepsL_good hg (tailL xs))).2.2 hc
  rw [stepsL_sum hg] at h1
  refine ⟨by rw [potsL_getD xs (Nat.le_refl _)]; exact h1, fun m hm => ?_⟩
  rw [potsL_getD xs (by omega)]
  have h2 := tail_before hg (k := m) (by omega)
  have h3 := pot_least (stepsL_good hg m)
  rw [stepsL_sum hg] at h3
  have h4 : ¬ Cyc (stepsL m xs) := fun h => by
    unfold cycB at h2
    rw [decide_eq_false_iff_not] at h2
    exact h2 h
  have h5 : ¬ pot (stepsL m xs) = leastI xs.sum.toNat := fun e => h4 (h3.2.1 e)
  have h6 := h3.1
  omega
end Go.Proofs.Ytmfdimdcoeapoaa
