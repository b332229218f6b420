/- For the laws that are not exact: the first rows of rows. No condition. -/
import Derived.Test.YtkhphdohdnfplaaRowsV
namespace Go.Proofs.Ytkhphdohdnfplaa
open Go.RowKit
set_option linter.unusedVariables false
set_option linter.unusedSimpArgs false
set_option maxRecDepth 20000
theorem RowsAt.takeA {w ao n cap xss} (h : RowsAt w ao n cap xss) (hi : Nat) (hhi : hi ≤ n) : RowsAt w (if cap = 0 then ao else ao.map (·.add (0 * 1))) hi cap (xss.take hi) := by
  refine ⟨by rw [List.length_take, h.length]; omega, by have := h.le; omega, h.max, fun e => ?_, fun j hj => ?_⟩
  · have : ao = none := by
      by_cases hc : cap = 0
      · rwa [if_pos hc] at e
      · rw [if_neg hc] at e; simpa using e
    obtain ⟨rfl, rfl⟩ := h.isNil this
    omega
  · obtain ⟨b, oo, rfl, hb, hc⟩ := h.cell j (by omega)
    refine ⟨b, oo, ?_, hb, fun i hi' => ?_⟩
    · by_cases h0 : cap = 0
      · rw [if_pos h0]
      · rw [if_neg h0]
        simp only [Option.map_some, Nat.zero_mul, Addr.add_lit]; rfl
    · obtain ⟨a, m, c, h1, h2⟩ := hc i (by omega)
      refine ⟨a, m, c, h1, ?_⟩
      rwa [List.getD_eq_getElem?_getD, List.getElem?_take, if_pos hi', ← List.getD_eq_getElem?_getD]
theorem rowsUpto {ao n cap} (w0 : World) (xss : List (List Int)) (h : RowsAt w0 ao n cap xss) (hi : Nat) (hhi : hi ≤ n) (k : IntKind) : ∃ a2, (∀ w : World, (Instr.sliceAt 27 (.slice ao n cap) none (some (.int k (hi : Int))) none).run Try.prog w = .ok (.slice a2 hi cap) w) ∧ RowsAt w0 a2 hi cap (xss.take hi) := by
  refine ⟨if cap = 0 then ao else ao.map (·.add (0 * 1)), fun w => ?_, h.takeA hi hhi⟩
  have hrun := run_slice_h (P := Try.prog) (w := w) 27 ao n cap Try.underlying27 k (hi : Int) (by omega) (by have := h.le; omega)
  rw [sizeInts] at hrun
  rw [run_sliceAt_slice _ _ _ _ _ _ Try.underlying27, hrun]
  simp [Result.andThen, sliced]
end Go.Proofs.Ytkhphdohdnfplaa
