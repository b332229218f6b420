/- Facts for chapter 2's laws that are not exact: mathematics. No condition. -/
import Derived.Test.YtcanpbhffmdeeaaGa
namespace Go.Proofs.Ytcanpbhffmdeeaa
set_option linter.unusedVariables false
set_option linter.unusedSimpArgs false
theorem cycL_len {xs : List Int} : (cycL xs).length = perL (endL xs) := by unfold cycL; rw [runL_length]
theorem cycL_ne {xs : List Int} (hg : Good xs) : (cycL xs).length ≠ 0 := by
  rw [cycL_len]
  have := (perL_spec (endL_good hg) (endL_cyc hg)).1
  omega
end Go.Proofs.Ytcanpbhffmdeeaa
