/- Facts for the laws of chapters 1 and 2 that are not exact: mathematics. No condition. -/
import Derived.Test.YtcanpbhffmdeeaaGa
namespace Go.Proofs.Ytcanpbhffmdeeaa
set_option linter.unusedVariables false
set_option linter.unusedSimpArgs false
theorem cycL_len {xs : List Int} : (cycL xs).length = perL (endL xs) := by unfold cycL; rw [runL_length]
theorem cycL_ne {xs : List Int} (hg : Good xs) : (cycL xs).length ≠ 0 := by
  rw [cycL_len]
  have := (perL_spec (endL_good hg) (endL_cyc hg)).1
  omega
theorem mem_at {xs : List Int} {k : Nat} (hk : k < xs.length) : xs.getD k 0 ∈ xs := by
  rw [List.getD_eq_getElem?_getD, List.getElem?_eq_getElem hk]
  exact List.getElem_mem _
theorem sideStep_at {xs : List Int} (hg : Good xs) (k : Nat) (hk : k < (sideStepL xs).length) : (sideStepL xs).getD k 0 = xs.getD (k + 1) 0 + (if (k : Int) < xs.getD 0 0 then 1 else 0) := by
  have h0 : xs.headD 0 = xs.getD 0 0 := by cases xs <;> rfl
  have h1 : 0 ≤ xs.getD 0 0 := by
    by_cases h : 0 < xs.length
    · have := hg.mem (mem_at h)
      omega
    · rw [List.getD_eq_getElem?_getD, List.getElem?_eq_none (by omega)]; exact Int.le_refl _
  rw [List.getD_eq_getElem?_getD, List.getElem?_eq_getElem hk]
  simp only [sideStepL, List.getElem_map, List.getElem_range, Option.getD_some, h0]
  by_cases hlt : k < (xs.getD 0 0).toNat
  · rw [if_pos hlt, if_pos (by omega)]
  · rw [if_neg hlt, if_neg (by omega)]
end Go.Proofs.Ytcanpbhffmdeeaa
