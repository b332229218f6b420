/- Chapter 1: AllPiles by the model. No condition. -/
import Derived.Test.YtimmjimeldejjaaGreatDoorGa
import Derived.Test.YtimmjimeldejjaaGreatDoorGi
import Derived.Test.YtimmjimeldejjaaGreatDoorGk
namespace Go.Proofs.YtimmjimeldejjaaGreatDoor
open Go.RowKit
set_option linter.unusedVariables false
set_option linter.unusedSimpArgs false

theorem mAllPiles_bound (n : Int) : (mAllPiles n).1.length ≤ 1048576 ∧ total (mAllPiles n).1 ≤ 1048576 := by
  unfold mAllPiles
  split
  · next h =>
    have h1 := allF_length 28 n.toNat n.toNat (by omega) (by omega) (by omega)
    have h2 := cnt_le n.toNat (by omega) n.toNat (by omega)
    have h3 := total_le (allL n.toNat) 28 (fun ys hy => Nat.le_trans (allF_row 28 n.toNat n.toNat ys hy) (by omega))
    have h4 : (allL n.toNat).length = cnt n.toNat n.toNat := h1
    exact ⟨by show (allL n.toNat).length ≤ _; omega, by show total (allL n.toNat) ≤ _; omega⟩
  · simp [total]

theorem own_one (w : World) (x : Int) : Own w.heap.size (w.heap.size + 1) (w.alloc (.cells #[.int .i64 x] 3)) (some ⟨w.heap.size, 0, none⟩) 1 1 [x] :=
  ⟨⟨rfl, .inr ⟨w.heap.size, 1, #[.int .i64 x], rfl, Nat.le_refl _, heap_alloc_new w _, Nat.le_refl _, by unfold maxLen; omega, rfl, rfl⟩⟩, fun g hg => by simp [Value.ownBlock] at hg; omega⟩

end Go.Proofs.YtimmjimeldejjaaGreatDoor
