/- Chapter 2: rings of bits: an array in a struct, by value. No condition. -/
import Derived.Test.YtmfdimdcoeapoaaGreatGa
import Derived.Test.YtmfdimdcoeapoaaGreatPileF
import Derived.Test.YtmfdimdcoeapoaaGreatAppX
import Derived.Deep.RegionWith
namespace Go.Proofs.YtmfdimdcoeapoaaGreat
open Go.RowKit
set_option linter.unusedVariables false
set_option linter.unusedSimpArgs false
set_option maxRecDepth 20000

/-- the cells of a ring: eight numbers, then how many of them count -/
def ring9 (b0 b1 b2 b3 b4 b5 b6 b7 : Int) (n : Nat) : Array Value := #[.int .i64 b0, .int .i64 b1, .int .i64 b2, .int .i64 b3, .int .i64 b4, .int .i64 b5, .int .i64 b6, .int .i64 b7, .int .i64 n]
def ringV (bs : List Int) : Value := .agg (ring9 (bs.getD 0 0) (bs.getD 1 0) (bs.getD 2 0) (bs.getD 3 0) (bs.getD 4 0) (bs.getD 5 0) (bs.getD 6 0) (bs.getD 7 0) bs.length)

theorem ringAt (w : World) (b0 b1 b2 b3 b4 b5 b6 b7 : Int) (n : Nat) (bs : List Int) (hn : bs.length = n) (h8 : n ≤ 8)
    (h0 : bs.getD 0 0 = b0) (h1 : bs.getD 1 0 = b1) (h2 : bs.getD 2 0 = b2) (h3 : bs.getD 3 0 = b3) (h4 : bs.getD 4 0 = b4) (h5 : bs.getD 5 0 = b5) (h6 : bs.getD 6 0 = b6) (h7 : bs.getD 7 0 = b7) :
    IntsAt (w.alloc (.cells (ring9 b0 b1 b2 b3 b4 b5 b6 b7 n) 76)) (some ⟨w.heap.size, 0, none⟩) n 8 bs := by
  refine ⟨hn, h8, by unfold maxLen; omega, fun e => by simp at e, fun j hj => ⟨w.heap.size, 0, rfl, by simp, fun i hi => ?_⟩⟩
  have hc : i = 0 ∨ i = 1 ∨ i = 2 ∨ i = 3 ∨ i = 4 ∨ i = 5 ∨ i = 6 ∨ i = 7 := by omega
  rcases hc with rfl | rfl | rfl | rfl | rfl | rfl | rfl | rfl <;> (rw [World.cell?_alloc_at _ _ _ _ rfl]; simp only [*]; rfl)

theorem sizeRing (w : World) : (sizeOf (Tryz.prog.elem 74)).run Tryz.prog w = .ok 1 w := by kernel_rfl
theorem lenRing : Tryz.prog.arrayLen 74 = 8 := by kernel_rfl
theorem slRing (b n : Nat) (h8 : n ≤ 8) (w : World) : (Instr.sliceAt 74 (.pointer (some ⟨b, 0, none⟩)) none (some (.int .i64 n)) none).run Tryz.prog w = .ok (.slice (some ⟨b, 0, none⟩) n 8) w := by
  have := run_sliceAt_array_h (P := Tryz.prog) w 74 ⟨b, 0, none⟩ (by kernel_rfl) .i64 n (by omega) (by rw [lenRing]; omega)
  rw [this, sizeRing, lenRing]
  simp [Result.andThen, slicedAt, Addr.add]

end Go.Proofs.YtmfdimdcoeapoaaGreat
