/-
  DERIVED. GIVEN WITH THE SEED: THE CARDS: each row of YtdfmljkjidepeaaDoorRows.lean that lists a variable, with what it lists TIED to the program's text (the seventh form; the later family's looks); each row that meets fmt, with fmt's text TOLD by the authors' own Lean function (tested against real Go, not proved from fmt's source: count such statements apart). THE CARD IS WHAT COUNTS. Prove the row's statement (the work); the ties are given (YtdfmljkjidepeaaDoorTie.lean); close each card by the builder's one call (the guide's Derived/Test/ToyasCard.lean, 'card_holds'). Laid BY PROGRAM, IN A SANDBOX (cutbox-door.mjs). By AI agents, Wed Nov 11 2026. No macro, syntax, notation, axiom, sorry.
-/
import Derived.Test.YtdfmljkjidepeaaDoorRows
import GoSem.ClaimSeven
namespace Go.Proofs.YtdfmljkjidepeaaDoor
namespace Rows

/-- THE TIED CARD OF 'laws.FnExactCountFallPlays'. -/
def fnExactCountFallPlaysCard : Claim7 := { stood := { row := fnExactCountFallPlaysRow, standIns := [], harness := (true, "922e373db2ed7ee78728bbed59b73e757a6e504b424b750fa7d805a41cbda5dd"), looks := true }, kinds := [], alts := [], laidByText := true, laidKinds := [.data, .data, .data], laidTests := true, laidLooks := .later }
def FnExactCountFallPlaysCardSaid : Prop := Claim7.holds Tryd.pinned (.plain (OpenSpec.ofChange fnExactCountFallPlaysSpec)) fnExactCountFallPlaysCard

/-- THE SECOND FORM's CARD OF 'laws.FnExactCountFallPlays'. -/
def fnExactCountFallPlaysUptoCard : Claim7 := { stood := { row := fnExactCountFallPlaysUptoRow, standIns := [], harness := (true, "922e373db2ed7ee78728bbed59b73e757a6e504b424b750fa7d805a41cbda5dd"), looks := true }, kinds := [], alts := [], laidByText := true, laidKinds := [.data, .data, .data], laidTests := true, laidLooks := .later }
def FnExactCountFallPlaysUptoCardSaid : Prop := Claim7.holds Tryd.pinned (.plain (OpenSpec.upto fnExactCountFallPlaysSpec)) fnExactCountFallPlaysUptoCard
end Rows
end Go.Proofs.YtdfmljkjidepeaaDoor
