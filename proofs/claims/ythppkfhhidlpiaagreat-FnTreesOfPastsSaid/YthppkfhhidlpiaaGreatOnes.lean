/- How many ones a number below 256 has: math/bits.OnesCount, by its own text. No condition. -/
import Derived.Test.YthppkfhhidlpiaaGreatRingF
namespace Go.Proofs.YthppkfhhidlpiaaGreat
open Go.RowKit
set_option linter.unusedVariables false
set_option linter.unusedSimpArgs false
set_option maxRecDepth 20000

def popN : Nat → Nat → Nat
  | 0, _ => 0
  | k + 1, m => m % 2 + popN k (m / 2)

set_option maxHeartbeats 800000 in
theorem ones64_any (m : Nat) (w : World) (h : m < 256) :
    Calls Tryz.prog 135 #[.int .u64 m] w fun e w' => e = .returned (.int .i64 (popN 8 m)) ∧ w = w' := by
  go_enter Tryz.func135, Tryz.ntmps135
  go_wp2
  go_ret
  refine ⟨congrArg (fun z => Ending.returned (Value.int .i64 z)) ?_, rfl⟩
  obtain ⟨n, rfl⟩ : ∃ n : Fin 256, n.val = m := ⟨⟨m, h⟩, rfl⟩
  clear h
  revert n
  decide +kernel
theorem onesCount_any (m : Nat) (w : World) (h : m < 256) :
    Calls Tryz.prog 115 #[.int .u64 m] w fun e w' => e = .returned (.int .i64 (popN 8 m)) ∧ w = w' := by
  have hcon := ones64_any m w h
  have Hcon := Lib.hid hcon; clear hcon
  go_enter Tryz.func115, Tryz.ntmps115
  go_wp2_with fail
  with_reducible refine (Hcon.out).mono ?_
  rintro e w' ⟨rfl, rfl⟩
  go_wp2_with fail
  go_ret
  exact ⟨rfl, rfl⟩
end Go.Proofs.YthppkfhhidlpiaaGreat
