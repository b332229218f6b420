/- Chapter 7: one step of a bank state. No condition. -/
import Derived.Test.YtnebfojnbjbogaaGreatDoorBaP
namespace Go.Proofs.YtnebfojnbjbogaaGreatDoor
open Go.RowKit
set_option linter.unusedVariables false
set_option linter.unusedSimpArgs false
set_option maxRecDepth 20000

theorem two (w : World) (h l : Int) (ao : Option Addr) (n cap : Nat) :
    Below w.heap.size w ((w.alloc (.cells #[.int .i64 h, .int .i64 l, .slice ao n cap] 32)).alloc (.cells #[.int .i64 0, .int .i64 0, .slice none 0 0] 32)) ∧
    Blk ((w.alloc (.cells #[.int .i64 h, .int .i64 l, .slice ao n cap] 32)).alloc (.cells #[.int .i64 0, .int .i64 0, .slice none 0 0] 32)) w.heap.size h l ao n cap 32 ∧
    Blk ((w.alloc (.cells #[.int .i64 h, .int .i64 l, .slice ao n cap] 32)).alloc (.cells #[.int .i64 0, .int .i64 0, .slice none 0 0] 32)) (w.heap.size + 1) 0 0 none 0 0 32 := by
  have hb1 := belowAlloc w (.cells #[.int .i64 h, .int .i64 l, .slice ao n cap] 32)
  have hbn := belowAlloc (w.alloc (.cells #[.int .i64 h, .int .i64 l, .slice ao n cap] 32)) (.cells #[.int .i64 0, .int .i64 0, .slice none 0 0] 32)
  have m1 := Blk.new (w.alloc (.cells #[.int .i64 h, .int .i64 l, .slice ao n cap] 32)) 0 0 none 0 0 32
  rw [show (w.alloc (.cells #[.int .i64 h, .int .i64 l, .slice ao n cap] 32)).heap.size = w.heap.size + 1 by simp] at m1
  exact ⟨belowTrans hb1 hbn (Nat.le_refl _), (Blk.new w h l ao n cap 32).keep hbn, m1⟩

theorem mStepBank_bound (b : Bk) : (mStepBank b).1.p.length ≤ 1048576 := by
  unfold mStepBank
  split
  · next q => have := (step_ok (bank_iff.1 q)).1.len; show (stepB b).p.length ≤ _; omega
  · simp [noBk]
end Go.Proofs.YtnebfojnbjbogaaGreatDoor
