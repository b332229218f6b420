/-
  DERIVED. GIVEN WITH THE SEED: THE CARDS: each row of YtnebfojnbjbogaaGreatDoorRows.lean that lists a variable, with what it lists TIED to the program's text (the seventh form; the later family's looks); each row that meets fmt, with fmt's text TOLD by the authors' own Lean function (tested against real Go, not proved from fmt's source: count such statements apart). THE CARD IS WHAT COUNTS. Prove the row's statement (the work); the ties are given (YtnebfojnbjbogaaGreatDoorTie.lean); close each card by the builder's one call (the guide's Derived/Test/ToyasCard.lean, 'card_holds'). Laid BY PROGRAM, IN A SANDBOX (cutbox-door.mjs). By AI agents, Wed Nov 11 2026. No macro, syntax, notation, axiom, sorry.
-/
import Derived.Test.YtnebfojnbjbogaaGreatDoorRows
import GoSem.ClaimSeven
namespace Go.Proofs.YtnebfojnbjbogaaGreatDoor
namespace Rows

/-- THE TIED CARD OF 'laws.FnAllBanks'. -/
def fnAllBanksCard : Claim7 := { stood := { row := fnAllBanksRow, standIns := [], harness := (true, "63be7283350d4874fd93924190f5f61d5cb0fb3654a9e70eafab32ad603580bf"), looks := false }, kinds := [], alts := [], laidByText := true, laidKinds := [.data, .data, .data], laidTests := true, laidLooks := .later }
def FnAllBanksCardSaid : Prop := Claim7.holds Tryz.pinned (.plain (OpenSpec.ofChange fnAllBanksSpec)) fnAllBanksCard

/-- THE SECOND FORM's CARD OF 'laws.FnAllBanks'. -/
def fnAllBanksUptoCard : Claim7 := { stood := { row := fnAllBanksUptoRow, standIns := [], harness := (true, "63be7283350d4874fd93924190f5f61d5cb0fb3654a9e70eafab32ad603580bf"), looks := false }, kinds := [], alts := [], laidByText := true, laidKinds := [.data, .data, .data], laidTests := true, laidLooks := .later }
def FnAllBanksUptoCardSaid : Prop := Claim7.holds Tryz.pinned (.plain (OpenSpec.upto fnAllBanksSpec)) fnAllBanksUptoCard
end Rows
end Go.Proofs.YtnebfojnbjbogaaGreatDoor
