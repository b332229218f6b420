/- Pasts of bank states, as FnBankPasts asks for them: mathematics. No condition. -/
import Derived.Test.YtnebfojnbjbogaaGreatDoorGf
namespace Go.Proofs.YtnebfojnbjbogaaGreatDoor
open Go.RowKit
set_option linter.unusedVariables false
set_option linter.unusedSimpArgs false

/-- each past is a bank state, and its step leads here -/
theorem past_facts {b : Bk} {a : Bk} (h : a ∈ (mBankPasts b).1) : BankOk a ∧ stepB a = b := by
  unfold mBankPasts at h
  split at h
  · next q =>
    have hk := bank_iff.1 q.1
    have h1 : 1 ≤ b.h ∧ b.h ≤ 10 := hk.1
    have h2 := hk.sum
    have h3 : 0 ≤ b.l := hk.2.1.1
    have h4 := q.2
    obtain ⟨g1, g2⟩ := List.mem_filter.1 h
    exact ⟨baL_ok (by omega) (by omega) g1, by simpa using g2⟩
  · cases h
/-- a bank state of few cards is a past of what its step leads to -/
theorem past_here {b : Bk} (hk : BankOk b) (h14 : b.l + b.p.sum ≤ 14) : (mBankPasts (stepB b)).2 = true ∧ b ∈ (mBankPasts (stepB b)).1 := by
  obtain ⟨h, l, p⟩ := b
  have hs := step_ok hk
  have h1 : 1 ≤ h ∧ h ≤ 10 := hk.1
  have h2 : 0 ≤ l ∧ l ≤ h - 1 := hk.2.1
  have h3 : 0 ≤ p.sum ∧ p.sum ≤ 28 ∧ (p.length : Int) ≤ p.sum := hk.sum
  have hG : Good p := hk.2.2.1
  have hle : ∀ x ∈ p, 1 ≤ x ∧ x ≤ h := fun x hx => hk.le (b := ⟨h, l, p⟩) hx
  have hsum : (stepB ⟨h, l, p⟩).l + (stepB ⟨h, l, p⟩).p.sum = l + p.sum := hs.2.1
  have hh : (stepB ⟨h, l, p⟩).h = h := rfl
  have h14' : l + p.sum ≤ 14 := h14
  unfold mBankPasts
  rw [if_pos ⟨bank_iff.2 hs.1, by rw [hsum]; exact h14'⟩, hsum, hh]
  refine ⟨rfl, List.mem_filter.2 ⟨?_, by simp⟩⟩
  obtain ⟨H, rfl⟩ := Int.eq_ofNat_of_zero_le (show 0 ≤ h by omega)
  obtain ⟨L, rfl⟩ := Int.eq_ofNat_of_zero_le h2.1
  obtain ⟨N, hN⟩ := Int.eq_ofNat_of_zero_le (show 0 ≤ (L : Int) + p.sum by omega)
  rw [hN]
  simp only [Int.toNat_natCast]
  unfold baL
  refine List.mem_flatMap.2 ⟨L, List.mem_range.2 (by omega), ?_⟩
  unfold rowBk
  refine List.mem_map.2 ⟨p, mem_allF (N - L) (N - L) H p (Nat.le_refl _) (fun x hx => (hle x hx).1) hG.2.1 (fun x hx => (hle x hx).2) (by omega), rfl⟩
end Go.Proofs.YtnebfojnbjbogaaGreatDoor
