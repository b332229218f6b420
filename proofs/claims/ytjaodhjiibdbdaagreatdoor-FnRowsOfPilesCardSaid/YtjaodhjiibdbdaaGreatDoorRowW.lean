/- Chapter 5 by the program: the walk, whose steps are closures; StepRow, RowSteps, PlayRow. No condition. -/
import Derived.Test.YtjaodhjiibdbdaaGreatDoorRowC
import Derived.Test.YtjaodhjiibdbdaaGreatDoorGh
import Derived.Test.YtjaodhjiibdbdaaGreatDoorExt
import Derived.Laws.EntriesVeiled
import Derived.OneCell
namespace Go.Proofs.YtjaodhjiibdbdaaGreatDoor
open Go.RowKit
set_option linter.unusedVariables false
set_option linter.unusedSimpArgs false
set_option maxRecDepth 20000

/-- a walk: the cell that its closures share, and the row that it has come to -/
structure Walk (R : Nat) (w : World) (g : Nat) (xs : List Int) : Prop where
  lo : R ≤ g
  hi : g < w.heap.size
  cell : ∃ a m c, w.heap[g]? = some (.cells #[.slice a m c] 24 (0, 0)) ∧ m ≤ 28 ∧ IntsAt w a m c xs ∧ ((0 < m → ∀ b o, a = some ⟨b, o, none⟩ → b < R) ∨ Own (g + 1) w.heap.size w a m c xs)
theorem Walk.keep {R w w' g xs} (h : Walk R w g xs) (hb : Below w.heap.size w w') : Walk R w' g xs := by
  obtain ⟨lo, hi, a, m, c, h1, h2, h3, h4⟩ := h
  have hs := hb.size
  refine ⟨lo, by omega, a, m, c, ?_, h2, h3.keep hb, h4.imp id (fun k => (k.keep hb).mono (Nat.le_refl _) hs)⟩
  rw [(Chg.ofBelow (S := fun _ => False) hb).block g hi id]; exact h1
theorem Walk.chgSpine {R w w' g xs E' ao n cap us} (h : Walk R w g xs) (k : OwnRow (g + 1) E' w 24 ao n cap us) (hc : Chg (fun q => (Value.slice ao n cap).ownBlock = some q) w w') : Walk R w' g xs := by
  obtain ⟨lo, hi, a, m, c, h1, h2, h3, h4⟩ := h
  have hs := hc.size
  have hne : ∀ q, (Value.slice ao n cap).ownBlock = some q → g + 1 ≤ q := fun q hq => (k.1.lt q hq).1
  have h1' : w'.heap[g]? = some (.cells #[.slice a m c] 24 (0, 0)) := by
    rw [hc.block g hi (fun hh => by have := hne g hh; omega)]; exact h1
  rcases h4 with h4 | h4
  · by_cases hm : m = 0
    · exact ⟨lo, by omega, a, m, c, h1', h2, ⟨h3.length, h3.le, h3.max, h3.isNil, fun j hj => by omega⟩, .inl h4⟩
    · exact ⟨lo, by omega, a, m, c, h1', h2, h3.chg hc (fun b o e hh => by have := hne b hh; have := h4 (by omega) b o e; omega), .inl h4⟩
  · have h5 : Own (g + 1) w.heap.size w' a m c xs := h4.chg hc (fun q _ _ g1 g2 => OwnRow.apart_ty h4 k (by decide) g1 g2)
    exact ⟨lo, by omega, a, m, c, h1', h2, h5.at, .inr (h5.mono (Nat.le_refl _) hs)⟩

end Go.Proofs.YtjaodhjiibdbdaaGreatDoor
