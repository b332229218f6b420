/- Mathematics of chapter 5's laws: the longest row. No condition. -/
import Derived.Test.YtbneibpakopllaaRowI
import Derived.Test.YtbneibpakopllaaGm
namespace Go.Proofs.Ytbneibpakopllaa
set_option linter.unusedVariables false
set_option linter.unusedSimpArgs false

theorem orb_nonneg (xs : List Int) : 0 ≤ (orbR xs).1 := by
  cases h : (orbR xs).2.2
  · rw [orb_lost h]; simp
  · obtain ⟨i, j, _, _, e, _⟩ := orb_found h
    rw [e]; simp
theorem longK_at (m : Nat) : ∀ r, ∃ s, s ≤ r ∧ longK m (r + 1) = (rowAt m s, (orbR (rowAt m s)).1)
  | 0 => ⟨0, Nat.le_refl _, by
    rw [longK_succ, if_pos]
    have := orb_nonneg (rowAt m 0)
    show (-1 : Int) < _
    omega⟩
  | r + 1 => by
    rw [longK_succ]
    split
    · exact ⟨r + 1, Nat.le_refl _, rfl⟩
    · obtain ⟨s, hs, e⟩ := longK_at m r
      exact ⟨s, by omega, e⟩
theorem tail_row {xs : List Int} (h : RowOk xs) (h2 : (orbR xs).2.2 = true) : (tailL (sortD xs) : Int) ≤ (orbR xs).1 := by
  obtain ⟨i, j, hij, _, e, hs, _⟩ := orb_found h2
  rw [e]
  have hg := sort_good h
  have h3 : stepsL i (sortD xs) = stepsL j (sortD xs) := by rw [← sort_steps, ← sort_steps, hs]
  have h4 : Cyc (stepsL i (sortD xs)) := cyc_of_again (stepsL_good hg i) (p := j - i) (by omega) (by rw [← stepsL_plus, show j - i + i = j by omega]; exact h3.symm)
  have h5 := (tailL_spec hg).2.2
  have : ¬ i < tailL (sortD xs) := fun hc => h5 i hc h4
  show (tailL (sortD xs) : Int) ≤ (i : Int)
  omega
/-- the longest row, as the law asks it -/
theorem long_found {m : Nat} (h1 : 1 ≤ m) (h10 : m ≤ 10) : ∃ row, RowOk row ∧ longK m (cntR m) = (row, (orbR row).1) ∧ (orbR row).2.2 = true ∧ (tailL (sortD row) : Int) ≤ (orbR row).1 ∧ 0 ≤ (orbR row).1 := by
  have hc := (cntR_le m (by omega)).1
  obtain ⟨c, hc2⟩ : ∃ c, cntR m = c + 1 := ⟨cntR m - 1, by omega⟩
  obtain ⟨s, hs, e⟩ := longK_at m c
  have hr := rowAt_row (n := m) (r := s) (by omega)
  have hf := orbR_few hr.1 hr.2 h10
  exact ⟨rowAt m s, hr.1, by rw [hc2]; exact e, hf, tail_row hr.1 hf, orb_nonneg _⟩
end Go.Proofs.Ytbneibpakopllaa
