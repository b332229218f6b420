/- The laws' own helpers: a copy and an equality. No condition but a bound on lengths. -/
import Derived.Test.YtdfmljkjidepeaaGreatDoorBase
namespace Go.Proofs.YtdfmljkjidepeaaGreatDoor
open Go.RowKit
set_option linter.unusedVariables false
set_option linter.unusedSimpArgs false

theorem madeZeros (n : Nat) : (madeCells #[Value.int .i64 0] n).toList = (List.replicate n (0 : Int)).map (Value.int .i64) := by
  apply List.ext_getElem
  · simp [size_madeCells]
  · intro i h1 h2
    simp [madeCells, Value.cells, Nat.mod_one]

theorem set_zeros (xs : List Int) (k n : Nat) (x : Int) (hx : xs.getD k 0 = x) (hk : k < n) (hl : xs.length = n) :
    (((xs.take k ++ List.replicate (n - k) 0).map (Value.int .i64)).set k (Value.int .i64 x)) = (xs.take (k + 1) ++ List.replicate (n - (k + 1)) 0).map (Value.int .i64) := by
  subst hx
  apply List.ext_getElem
  · simp; omega
  · intro i h1 h2
    simp at h1
    rw [List.getElem_set]
    split
    · next h => subst h; simp [List.getElem_append, List.getElem_take, show k < min (k+1) xs.length by omega, List.getD_eq_getElem?_getD, show k < xs.length by omega]
    · next h =>
      simp only [List.getElem_map, List.getElem_append, List.length_take, List.getElem_take, List.getElem_replicate]
      by_cases hi : i < k
      · simp [show i < min k xs.length by omega, show i < min (k+1) xs.length by omega]
      · simp [show ¬ i < min k xs.length by omega, show ¬ i < min (k+1) xs.length by omega]

theorem IntsAt.drewN {w ao n cap xs} (h : IntsAt w ao n cap xs) (q : Nat) : IntsAt (w.drewN q) ao n cap xs := ⟨h.length, h.le, h.max, h.isNil, h.cell⟩

end Go.Proofs.YtdfmljkjidepeaaGreatDoor
