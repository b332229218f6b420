/- Chapter 1: the piles of a rank. No condition. -/
import Derived.Test.YtbkihnejgcebpaaRank
import Derived.Test.YtbkihnejgcebpaaPush
namespace Go.Proofs.Ytbkihnejgcebpaa
open Go.RowKit
set_option linter.unusedVariables false
set_option linter.unusedSimpArgs false

def WInv (n0 r0 : Nat) (out : List Int) (L M r f : Nat) : Prop := out ++ withF f L M r = withL n0 r0 ∧ L ≤ f ∧ out.length + f ≤ 28 ∧ M ≤ 28 ∧ (0 < L → 1 ≤ M ∧ r < cnt (min L M) L)
theorem winv_start (n r : Nat) (hn : n ≤ 28) (hr : r < cnt n n) : WInv n r [] n n r 28 := ⟨rfl, hn, Nat.le_refl _, hn, fun h => ⟨h, by rw [Nat.min_self]; exact hr⟩⟩
theorem winv_step {n0 r0 L M r f : Nat} {out : List Int} (h : WInv n0 r0 out L M r f) (hL : 0 < L) {X R : Nat} (h1 : 1 ≤ X) (h2 : X ≤ min L M) (h3 : findX L X R = findX L (min L M) r) (h4 : R < cnt X (L - X)) :
    WInv n0 r0 (out ++ [(X : Int)]) (L - X) X R (f - 1) := by
  obtain ⟨a, b, c, d, e⟩ := h
  obtain ⟨f, rfl⟩ : ∃ f', f = f' + 1 := ⟨f - 1, by omega⟩
  rw [findX_stop L X R h4 h1] at h3
  refine ⟨?_, by omega, by simp; omega, by omega, fun h => ⟨h1, ?_⟩⟩
  · rw [← a, show withF (f + 1) L M r = if L = 0 then [] else ((findX L (min L M) r).1 : Int) :: withF f (L - (findX L (min L M) r).1) (findX L (min L M) r).1 (findX L (min L M) r).2 from rfl, if_neg (by omega), ← h3]
    simp
  · rw [cnt_min (by omega) (by omega)]; exact h4
theorem winv_end {n0 r0 M r f : Nat} {out : List Int} (h : WInv n0 r0 out 0 M r f) : out = withL n0 r0 := by
  have := h.1
  rw [← this]
  cases f <;> simp [withF]
theorem findX_next {L m r X R : Nat} (hX : 1 ≤ X) (hXL : X ≤ L) (hL : L ≤ 28) (h : findX L X R = findX L m r) (hr : R < cnt X L) (hge : cnt X (L - X) ≤ R) :
    findX L (X - 1) (R - cnt X (L - X)) = findX L m r ∧ R - cnt X (L - X) < cnt (X - 1) L ∧ 2 ≤ X := by
  have h1 := rank_step hX hXL hL hr hge
  exact ⟨by rw [← findX_step L X R hge hX]; exact h, h1.1, h1.2⟩
theorem withF_length (f n m r : Nat) : (withF f n m r).length ≤ f := by
  induction f generalizing n m r with
  | zero => exact Nat.le_refl _
  | succ f ih =>
    unfold withF
    split
    · simp
    · simp only [List.length_cons]; have := ih (n - (findX n (min n m) r).1) (findX n (min n m) r).1 (findX n (min n m) r).2; omega

def mPilesWith (n rank : Int) : List Int × Bool := if 0 ≤ n ∧ n ≤ 28 ∧ 0 ≤ rank ∧ rank < cnt n.toNat n.toNat then (withL n.toNat rank.toNat, true) else ([], false)
theorem mPilesWith_bound (n rank : Int) : (mPilesWith n rank).1.length ≤ 1048576 := by
  unfold mPilesWith
  split
  · have := withF_length 28 n.toNat n.toNat rank.toNat
    show (withF 28 n.toNat n.toNat rank.toNat).length ≤ _
    omega
  · simp
theorem mPilesWith_yes (n r : Nat) (h1 : n ≤ 28) (h2 : r < cnt n n) : mPilesWith n r = (withL n r, true) := by
  unfold mPilesWith
  rw [if_pos (by simp only [Int.toNat_natCast]; omega)]
  simp
theorem mPilesWith_no (n r : Int) (h : ¬ (0 ≤ n ∧ n ≤ 28 ∧ 0 ≤ r ∧ r < cnt n.toNat n.toNat)) : mPilesWith n r = ([], false) := by
  unfold mPilesWith
  rw [if_neg h]

end Go.Proofs.Ytbkihnejgcebpaa
