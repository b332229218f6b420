/- Texts that are read back: mathematics. No condition. -/
import Derived.Test.YtbkihnejgcebpaaGreatDoorParseS
import Derived.Test.YtbkihnejgcebpaaGreatDoorDdM
namespace Go.Proofs.YtbkihnejgcebpaaGreatDoor
open Go.RowKit
set_option linter.unusedVariables false
set_option linter.unusedSimpArgs false

theorem mPP_cases (s : ByteArray) : (mParsePiles s).2 = true → textL (mParsePiles s).1 = s.data.toList ∧ goodB (mParsePiles s).1 = true := by
  intro h
  by_cases hz : s.data.toList = [48]
  · rw [mParse_zero hz, hz]; exact ⟨rfl, good_iff.2 good_nil⟩
  · cases hg : goodB (outL s.data.toList)
    · rw [mParse_no hz hg] at h; cases h
    · rw [mParse_yes hz hg]; exact ⟨outL_text hg, hg⟩
theorem mPP_no (s : ByteArray) (h : (mParsePiles s).2 = false) : mParsePiles s = ([], false) := by
  by_cases hz : s.data.toList = [48]
  · rw [mParse_zero hz] at h; cases h
  · cases hg : goodB (outL s.data.toList)
    · exact mParse_no hz hg
    · rw [mParse_yes hz hg] at h; cases h
theorem mPP_of {p : List Int} (h : Good p) {s : ByteArray} (hs : s.data.toList = textL p) : mParsePiles s = (p, true) := by
  by_cases hp : p = []
  · subst hp
    exact mParse_zero hs
  · have hm := fun x hx => h.mem (x := x) hx
    have hsp : splitL 43 (textL p) = p.map dd := by unfold textL; rw [if_neg hp]; exact split_join hp hm
    have hv : ∀ i, i < p.length → Lib.atoiAll ((splitL 43 (textL p)).getD i []) = .ok (p.getD i 0) := by
      intro i hi
      rw [hsp, List.getD_eq_getElem?_getD, List.getD_eq_getElem?_getD, List.getElem?_map, List.getElem?_eq_getElem hi]
      have := hm _ (List.getElem_mem hi)
      exact atoi_ddI (by omega) this.2
    obtain ⟨h1, h2⟩ := (vals_out (l := textL p) (vals := p) (by rw [hsp, List.length_map]) hv).1 ⟨good_iff.2 h, rfl⟩
    have hz : s.data.toList ≠ [48] := by
      rw [hs]
      intro e
      rw [e] at hsp
      have h48 : splitL 43 [48] = [[48]] := by decide
      rw [h48] at hsp
      have hl1 : p.length = 1 := by have := congrArg List.length hsp; simpa using this.symm
      obtain ⟨x, rfl⟩ := List.length_eq_one_iff.1 hl1
      simp at hsp
      have hx := hm x (by simp)
      have := read_ddI (x := x) (by omega) hx.2
      rw [← hsp] at this
      have h0 : readL [48] = 0 := by decide +kernel
      omega
    rw [← hs] at h1 h2
    rw [mParse_yes hz h1, ← h2]
end Go.Proofs.YtbkihnejgcebpaaGreatDoor
