/- Mathematics for the law on cards that go round. No condition. -/
import Derived.Test.YtmfdimdcoeapoaaGv
namespace Go.Proofs.Ytmfdimdcoeapoaa
set_option linter.unusedVariables false
set_option linter.unusedSimpArgs false

theorem card_behind {xs : List Int} (hg : Good xs) {pile place : Int} (hc : cardB xs pile place = true) :
    ∃ X : Nat, ∃ Y : Int, mCardBehind xs pile place = ((X : Int), Y, true) ∧ (X : Int) + Y = pile + place ∧ X ≤ 28 ∧ 0 ≤ Y ∧ Y ≤ 28 ∧ (dropL xs = 0 → X < (stepL xs).length ∧ Y < (stepL xs).getD X 0) := by
  have hb := hc
  unfold cardB at hb
  rw [decide_eq_true_iff] at hb
  obtain ⟨⟨h1, h2⟩, h3, h4⟩ := hb
  have hlen := hg.len
  have hgd : goodB xs = true := good_iff.2 hg
  obtain ⟨k, rfl⟩ := Int.eq_ofNat_of_zero_le h1
  rw [show ((k : Int)).toNat = k by omega] at h4
  have hx := good_at hg (k := k) (by omega)
  have hne : xs ≠ [] := fun e => by subst e; simp at h2; omega
  have hst : dropL xs = 0 → stepL xs = (xs.length : Int) :: lowL xs := fun h => (pot_step hg).2 (by have := potL_drop hg; omega) hne
  have hlow := lowL_getD hg.1 hg.2.1 k
  rw [if_pos (by omega)] at hlow
  by_cases h0 : place = 0
  · subst h0
    refine ⟨0, k, mCard_yes0 hgd hc, by omega, by omega, by omega, by omega, fun h => ?_⟩
    rw [hst h]
    simp only [List.length_cons, List.getD_cons_zero]
    omega
  · refine ⟨k + 1, place - 1, by rw [mCard_yes1 hgd hc h0]; rfl, by omega, by omega, by omega, by omega, fun h => ?_⟩
    rw [hst h]
    have hl : k < (lowL xs).length := by
      apply Nat.lt_of_not_le
      intro hle
      rw [getD_past hle] at hlow
      omega
    simp only [List.length_cons, List.getD_cons_succ, hlow]
    omega
theorem round_step {l k : Int} (hl : 0 ≤ l) (hk : 0 < k) : (0 ≤ k.tmod (l + 1) ∧ k.tmod (l + 1) ≤ l) ∧ (0 ≤ (k - 1).tmod (l + 1) ∧ (k - 1).tmod (l + 1) ≤ l) ∧ (k.tmod (l + 1) = (k - 1).tmod (l + 1) + 1 ∨ k.tmod (l + 1) = 0 ∧ (k - 1).tmod (l + 1) = l) := by
  have a1 := Int.tmod_nonneg (l + 1) (show 0 ≤ k by omega)
  have a2 := Int.tmod_lt_of_pos k (show 0 < l + 1 by omega)
  have b1 := Int.tmod_nonneg (l + 1) (show 0 ≤ k - 1 by omega)
  have b2 := Int.tmod_lt_of_pos (k - 1) (show 0 < l + 1 by omega)
  refine ⟨by omega, by omega, ?_⟩
  rw [Int.tmod_eq_emod_of_nonneg (by omega : 0 ≤ k)] at *
  rw [Int.tmod_eq_emod_of_nonneg (by omega : 0 ≤ k - 1)] at *
  have e1 := Int.emod_add_mul_ediv (k - 1) (l + 1)
  by_cases hc : (k - 1) % (l + 1) = l
  · right
    refine ⟨?_, hc⟩
    have : k = (l + 1) * ((k - 1) / (l + 1) + 1) := by rw [Int.mul_add]; omega
    rw [this, Int.mul_emod_right]
  · left
    have : k = ((k - 1) % (l + 1) + 1) + (l + 1) * ((k - 1) / (l + 1)) := by omega
    conv => lhs; rw [this]
    rw [Int.add_mul_emod_self_left, Int.emod_eq_of_lt (by omega) (by omega)]
end Go.Proofs.Ytmfdimdcoeapoaa
