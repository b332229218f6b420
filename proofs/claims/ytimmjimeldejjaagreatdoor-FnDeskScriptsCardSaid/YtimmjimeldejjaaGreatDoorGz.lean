/- Several texts in one: All, Rank, Ext. No condition. -/
import Derived.Test.YtimmjimeldejjaaGreatDoorGa
import Derived.Test.YtimmjimeldejjaaGreatDoorGi
import Derived.Test.YtimmjimeldejjaaGreatDoorGk
import Derived.Test.YtimmjimeldejjaaGreatDoorGb
import Derived.OneCell
import Derived.IntWalk
namespace Go.Proofs.YtimmjimeldejjaaGreatDoor
section
open Go.RowKit
set_option linter.unusedVariables false
set_option linter.unusedSimpArgs false

end
end Go.Proofs.YtimmjimeldejjaaGreatDoor
namespace Go.Proofs.YtimmjimeldejjaaGreatDoor
section
open Go.RowKit
set_option linter.unusedVariables false
set_option linter.unusedSimpArgs false

end
end Go.Proofs.YtimmjimeldejjaaGreatDoor
namespace Go.Proofs.YtimmjimeldejjaaGreatDoor
section
open Go.RowKit
set_option linter.unusedVariables false
set_option linter.unusedSimpArgs false

theorem chg_setCell (w : World) (b : Nat) (v : Value) : Chg (fun k => k = b) w (w.setCell ⟨b, 0, none⟩ v) :=
  ⟨rfl, rfl, rfl, by simp, fun k _ hk => heap_setCell_other w ⟨b, 0, none⟩ k v hk⟩
theorem RowsV.chg {S : Nat → Prop} {B E w w' vs xss} (h : RowsV B E w vs xss) (hc : Chg S w w') (hs : ∀ g, B ≤ g → g < E → (∃ i, i < xss.length ∧ (vs.getD i undef).ownBlock = some g) → ¬ S g) : RowsV B E w' vs xss :=
  ⟨h.length, fun i hi => by
    obtain ⟨a, m, c, e, ho⟩ := h.row i hi
    exact ⟨a, m, c, e, ho.chg hc fun g g1 g2 hg => hs g g1 g2 ⟨i, hi, by rw [e]; exact hg⟩⟩, h.two⟩

/-- lists that the call made, none of them in a block of X -/
def RowsOut (X : Nat → Prop) (B E : Nat) (w : World) (a : Option Addr) (p c : Nat) (acc : List (List Int)) : Prop :=
  ∃ vs, OwnRow B E w 24 a p c vs ∧ RowsV B E w vs acc ∧ ∀ i, i < acc.length → ∀ g, (vs.getD i undef).ownBlock = some g → ¬ X g
theorem RowsOut.length {X B E w a p c acc} (h : RowsOut X B E w a p c acc) : acc.length = p := by
  obtain ⟨vs, h1, h2, _⟩ := h
  rw [← h2.length, h1.length]

end
end Go.Proofs.YtimmjimeldejjaaGreatDoor
