/- Chapter 7: bank states from ages. Plain mathematics; no condition. -/
import Derived.Test.YtbkihnejgcebpaaBaM
namespace Go.Proofs.Ytbkihnejgcebpaa
set_option linter.unusedVariables false
set_option linter.unusedSimpArgs false

/-- the piles of the first k ages -/
def fromA (h : Int) (ages : List Int) : Nat → List Int
  | 0 => []
  | k + 1 => fromA h ages k ++ List.replicate (ages.getD k 0).toNat (h - k)
def agesOk (ages : List Int) : Prop := ∀ x ∈ ages, 0 ≤ x ∧ x ≤ 28
instance (ages : List Int) : Decidable (agesOk ages) := by unfold agesOk; infer_instance
def mFromAges (h l : Int) (ages : List Int) : Bk × Bool :=
  if ((1 ≤ h ∧ h ≤ 10) ∧ (ages.length : Int) = h ∧ agesOk ages) ∧ BankOk ⟨h, l, fromA h ages ages.length⟩ then (⟨h, l, fromA h ages ages.length⟩, true) else (noBk, false)
theorem fromA_length (h : Int) (ages : List Int) (ho : agesOk ages) : ∀ k, (fromA h ages k).length ≤ 28 * k
  | 0 => by simp [fromA]
  | k + 1 => by
    have ih := fromA_length h ages ho k
    have hx : (ages.getD k 0).toNat ≤ 28 := by
      rw [List.getD_eq_getElem?_getD]
      by_cases hk : k < ages.length
      · rw [List.getElem?_eq_getElem hk]
        have := ho _ (List.getElem_mem hk)
        simp only [Option.getD_some]
        omega
      · rw [List.getElem?_eq_none (by omega)]; simp
    simp only [fromA, List.length_append, List.length_replicate]
    omega
theorem mFromAges_bound (h l : Int) (ages : List Int) : (mFromAges h l ages).1.p.length ≤ 1048576 := by
  unfold mFromAges
  split
  · next q => have := q.2.len; show (fromA h ages ages.length).length ≤ _; simp only at this; omega
  · simp [noBk]
end Go.Proofs.Ytbkihnejgcebpaa
