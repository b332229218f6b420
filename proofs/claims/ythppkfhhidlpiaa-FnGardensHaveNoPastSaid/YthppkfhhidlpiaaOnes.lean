/- How many ones a number below 256 has: math/bits.OnesCount, by its own text. No condition. -/
import Derived.Test.YthppkfhhidlpiaaRingF
namespace Go.Proofs.Ythppkfhhidlpiaa
open Go.RowKit
set_option linter.unusedVariables false
set_option linter.unusedSimpArgs false
set_option maxRecDepth 20000

def popN : Nat → Nat → Nat
  | 0, _ => 0
  | k + 1, m => m % 2 + popN k (m / 2)

set_option maxHeartbeats 800000 in
theorem ones64_any (m : Nat) (w : World) (h : m < 256) :
    Calls Try.prog 190 #[.int .u64 m] w fun e w' => e = .returned (.int .i64 (popN 8 m)) ∧ w = w' := by
  go_enter Try.func190, Try.ntmps190
  go_wp2
  go_ret
  refine ⟨congrArg (fun z => Ending.returned (Value.int .i64 z)) ?_, rfl⟩
  obtain ⟨n, rfl⟩ : ∃ n : Fin 256, n.val = m := ⟨⟨m, h⟩, rfl⟩
  clear h
  revert n
  decide +kernel
theorem onesCount_any (m : Nat) (w : World) (h : m < 256) :
    Calls Try.prog 171 #[.int .u64 m] w fun e w' => e = .returned (.int .i64 (popN 8 m)) ∧ w = w' := by
  have hcon := ones64_any m w h
  have Hcon := Lib.hid hcon; clear hcon
  go_enter Try.func171, Try.ntmps171
  go_wp2_with fail
  with_reducible refine (Hcon.out).mono ?_
  rintro e w' ⟨rfl, rfl⟩
  go_wp2_with fail
  go_ret
  exact ⟨rfl, rfl⟩
end Go.Proofs.Ythppkfhhidlpiaa
