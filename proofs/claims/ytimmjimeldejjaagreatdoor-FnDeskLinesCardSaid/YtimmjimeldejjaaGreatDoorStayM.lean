/- Staircases and what stays: finite facts. No condition. -/
import Derived.Test.YtimmjimeldejjaaGreatDoorGh
import Derived.Test.YtimmjimeldejjaaGreatDoorGi
import Derived.Test.YtimmjimeldejjaaGreatDoorGa
import Derived.Test.YtimmjimeldejjaaGreatDoorExA
namespace Go.Proofs.YtimmjimeldejjaaGreatDoor
set_option linter.unusedVariables false

/-! ### Sorting that can be computed -/
def insD (x : Int) : List Int → List Int
  | [] => [x]
  | y :: r => if y ≤ x then x :: y :: r else y :: insD x r
def isort : List Int → List Int
  | [] => []
  | x :: r => insD x (isort r)
theorem insD_perm (x : Int) (l : List Int) : (insD x l).Perm (x :: l) := by
  induction l with
  | nil => exact List.Perm.refl _
  | cons y r ih =>
    unfold insD
    split
    · exact List.Perm.refl _
    · exact (List.Perm.cons y ih).trans (List.Perm.swap x y r)
theorem isort_perm (l : List Int) : (isort l).Perm l := by
  induction l with
  | nil => exact List.Perm.refl _
  | cons x r ih => exact (insD_perm x _).trans (List.Perm.cons x ih)
theorem insD_sorted (x : Int) (l : List Int) (h : l.Pairwise (· ≥ ·)) : (insD x l).Pairwise (· ≥ ·) := by
  induction l with
  | nil => simp [insD]
  | cons y r ih =>
    unfold insD
    rw [List.pairwise_cons] at h
    split
    · next hy =>
      rw [List.pairwise_cons]
      refine ⟨fun z hz => ?_, List.pairwise_cons.2 h⟩
      rcases List.mem_cons.1 hz with rfl | hz
      · omega
      · have := h.1 z hz; omega
    · next hy =>
      rw [List.pairwise_cons]
      refine ⟨fun z hz => ?_, ih h.2⟩
      rcases List.mem_cons.1 ((insD_perm x r).mem_iff.1 hz) with rfl | hz
      · omega
      · exact h.1 z hz
theorem isort_sorted (l : List Int) : (isort l).Pairwise (· ≥ ·) := by
  induction l with
  | nil => simp [isort]
  | cons x r ih => exact insD_sorted x _ ih
theorem isort_eq (l : List Int) : sortD l = isort l := (sortD_unique (isort_sorted l) (isort_perm l)).symm
def stepI (xs : List Int) : List Int := if xs = [] then [] else isort (lowL xs ++ [(xs.length : Int)])
theorem stepI_eq (xs : List Int) : stepL xs = stepI xs := by unfold stepL stepI; rw [isort_eq]
theorem mStep_I (xs : List Int) : mStepPiles xs = (if goodB xs then stepI xs else [], goodB xs) := by unfold mStepPiles; rw [stepI_eq]

/-! ### Staircases -/
def stepStB (xs : List Int) : List Int × Bool := (if goodB xs then stepI xs else [], goodB xs)
def stayOk (k : Nat) : Bool :=
  let xs := (mStaircase (k : Int)).1
  let c := (mCardsOf xs).1
  decide (stepStB xs = (xs, true)) && (mPastsOf xs).2 && decide (xs ∈ (mPastsOf xs).1) && (mCardsOf xs).2 && decide (c = (k : Int) * ((k : Int) + 1) / 2) && decide (mHeightFor c = ((k : Int), 0, true)) &&
    (decide (15 < c) || ((mAllPiles c).2 && (mAllPiles c).1.all fun b => (stepStB b).2 && (decide ((stepStB b).1 = b) == decide (b = xs))))
set_option maxRecDepth 100000 in
theorem stay_all : ∀ k, k < 8 → stayOk k = true := by decide +kernel
def heightOk (n : Int) : Bool :=
  let h := mHeightFor n
  !h.2.2 || (decide (h.1 * (h.1 + 1) / 2 + h.2.1 = n) && decide (0 ≤ h.2.1) && decide (h.2.1 ≤ h.1) && decide (0 ≤ h.1) && decide (h.1 ≤ 28))
theorem height_all : ∀ n, n < 29 → heightOk (n : Nat) = true := by decide +kernel

structure Stay (k : Int) (xs : List Int) : Prop where
  step : mStepPiles xs = (xs, true)
  pastOk : (mPastsOf xs).2 = true
  past : xs ∈ (mPastsOf xs).1
  cards : mCardsOf xs = (k * (k + 1) / 2, true)
  height : mHeightFor (k * (k + 1) / 2) = (k, 0, true)
  all : k * (k + 1) / 2 ≤ 15 → (mAllPiles (k * (k + 1) / 2)).2 = true ∧ ∀ b ∈ (mAllPiles (k * (k + 1) / 2)).1, (mStepPiles b).2 = true ∧ (decide ((mStepPiles b).1 = b) = decide (b = xs))
theorem stay_of (k : Int) (h0 : 0 ≤ k) (h7 : k ≤ 7) : Stay k (mStaircase k).1 := by
  obtain ⟨K, rfl⟩ := Int.eq_ofNat_of_zero_le h0
  have h := stay_all K (by omega)
  unfold stayOk at h
  simp only [Bool.and_eq_true, Bool.or_eq_true, decide_eq_true_eq, List.all_eq_true, beq_iff_eq] at h
  obtain ⟨⟨⟨⟨⟨⟨h1, h2⟩, h3⟩, h4⟩, h5⟩, h6⟩, h8⟩ := h
  have hc : mCardsOf (mStaircase (K : Int)).1 = ((K : Int) * ((K : Int) + 1) / 2, true) := Prod.ext h5 h4
  rw [h5] at h6 h8
  refine ⟨by rw [mStep_I]; exact h1, h2, h3, hc, h6, fun hle => ?_⟩
  rcases h8 with h8 | h8
  · omega
  · refine ⟨h8.1, fun b hb => ?_⟩
    rw [mStep_I]
    exact h8.2 b hb
theorem staircase_fine (k : Int) : (mStaircase k).2 = decide (0 ≤ k ∧ k ≤ 7) := by unfold mStaircase; split <;> simp_all
theorem stayHeight (n : Int) (h0 : -1 ≤ n) (h1 : n ≤ 29) (ht : (mHeightFor n).2.2 = true) : (mHeightFor n).1 * ((mHeightFor n).1 + 1) / 2 + (mHeightFor n).2.1 = n ∧ 0 ≤ (mHeightFor n).2.1 ∧ (mHeightFor n).2.1 ≤ (mHeightFor n).1 ∧ (mHeightFor n).1 ≤ 28 := by
  by_cases hn : 0 ≤ n ∧ n ≤ 28
  · obtain ⟨N, rfl⟩ := Int.eq_ofNat_of_zero_le hn.1
    have h := height_all N (by omega)
    unfold heightOk at h
    simp only [Bool.and_eq_true, Bool.or_eq_true, Bool.not_eq_true', decide_eq_true_eq] at h
    rcases h with h | h
    · rw [h] at ht; cases ht
    · exact ⟨h.1.1.1.1, h.1.1.1.2, h.1.1.2, h.2⟩
  · unfold mHeightFor at ht
    rw [if_neg hn] at ht
    cases ht
end Go.Proofs.YtimmjimeldejjaaGreatDoor
