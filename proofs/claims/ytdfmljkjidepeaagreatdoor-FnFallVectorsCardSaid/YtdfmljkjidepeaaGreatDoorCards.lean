/-
  DERIVED. GIVEN WITH THE SEED: THE CARDS: each row of YtdfmljkjidepeaaGreatDoorRows.lean that lists a variable, with what it lists TIED to the program's text (the seventh form; the later family's looks); each row that meets fmt, with fmt's text TOLD by the authors' own Lean function (tested against real Go, not proved from fmt's source: count such statements apart). THE CARD IS WHAT COUNTS. Prove the row's statement (the work); the ties are given (YtdfmljkjidepeaaGreatDoorTie.lean); close each card by the builder's one call (the guide's Derived/Test/ToyasCard.lean, 'card_holds'). Laid BY PROGRAM, IN A SANDBOX (cutbox-door.mjs). By AI agents, Wed Nov 11 2026. No macro, syntax, notation, axiom, sorry.
-/
import Derived.Test.YtdfmljkjidepeaaGreatDoorRows
import GoSem.ClaimSeven
namespace Go.Proofs.YtdfmljkjidepeaaGreatDoor
namespace Rows

/-- THE TIED CARD OF 'laws.FnFallVectors'. -/
def fnFallVectorsCard : Claim7 := { stood := { row := fnFallVectorsRow, standIns := [], harness := (true, "2de39c05d9bd8cf3b94ae87fc90b4460e00f19db80ba31d5127a12d7276c2d3f"), looks := true }, kinds := [], alts := [], laidByText := true, laidKinds := [.data, .data, .data], laidTests := true, laidLooks := .later }
def FnFallVectorsCardSaid : Prop := Claim7.holds Tryz.pinned (.plain (OpenSpec.ofChange fnFallVectorsSpec)) fnFallVectorsCard

/-- THE SECOND FORM's CARD OF 'laws.FnFallVectors'. -/
def fnFallVectorsUptoCard : Claim7 := { stood := { row := fnFallVectorsUptoRow, standIns := [], harness := (true, "2de39c05d9bd8cf3b94ae87fc90b4460e00f19db80ba31d5127a12d7276c2d3f"), looks := true }, kinds := [], alts := [], laidByText := true, laidKinds := [.data, .data, .data], laidTests := true, laidLooks := .later }
def FnFallVectorsUptoCardSaid : Prop := Claim7.holds Tryz.pinned (.plain (OpenSpec.upto fnFallVectorsSpec)) fnFallVectorsUptoCard
end Rows
end Go.Proofs.YtdfmljkjidepeaaGreatDoor
