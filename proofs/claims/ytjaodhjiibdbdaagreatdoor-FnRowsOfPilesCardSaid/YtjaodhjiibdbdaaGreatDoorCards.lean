/-
  DERIVED. GIVEN WITH THE SEED: THE CARDS: each row of YtjaodhjiibdbdaaGreatDoorRows.lean that lists a variable, with what it lists TIED to the program's text (the seventh form; the later family's looks); each row that meets fmt, with fmt's text TOLD by the authors' own Lean function (tested against real Go, not proved from fmt's source: count such statements apart). THE CARD IS WHAT COUNTS. Prove the row's statement (the work); the ties are given (YtjaodhjiibdbdaaGreatDoorTie.lean); close each card by the builder's one call (the guide's Derived/Test/ToyasCard.lean, 'card_holds'). Laid BY PROGRAM, IN A SANDBOX (cutbox-door.mjs). By AI agents, Wed Nov 11 2026. No macro, syntax, notation, axiom, sorry.
-/
import Derived.Test.YtjaodhjiibdbdaaGreatDoorRows
import GoSem.ClaimSeven
namespace Go.Proofs.YtjaodhjiibdbdaaGreatDoor
namespace Rows

/-- THE TIED CARD OF 'laws.FnRowsOfPiles'. -/
def fnRowsOfPilesCard : Claim7 := { stood := { row := fnRowsOfPilesRow, standIns := [], harness := (true, "53a09c86195c9674181170a53441fa63100f20b6a1e3eaba0f946b599e989e86"), looks := true }, kinds := [], alts := [], laidByText := true, laidKinds := [.data, .data, .data, .data, .sentinel, .sentinel, .pinned], laidTests := true, laidLooks := .later }
def FnRowsOfPilesCardSaid : Prop := Claim7.holds Tryz.pinned (.plain (OpenSpec.ofChange fnRowsOfPilesSpec)) fnRowsOfPilesCard

/-- THE TIED CARD OF 'laws.FnBankPasts'. -/
def fnBankPastsCard : Claim7 := { stood := { row := fnBankPastsRow, standIns := [], harness := (true, "53a09c86195c9674181170a53441fa63100f20b6a1e3eaba0f946b599e989e86"), looks := true }, kinds := [], alts := [], laidByText := true, laidKinds := [.data, .data, .data, .data, .sentinel, .sentinel, .pinned], laidTests := true, laidLooks := .later }
def FnBankPastsCardSaid : Prop := Claim7.holds Tryz.pinned (.plain (OpenSpec.ofChange fnBankPastsSpec)) fnBankPastsCard

/-- THE SECOND FORM's CARD OF 'laws.FnRowsOfPiles'. -/
def fnRowsOfPilesUptoCard : Claim7 := { stood := { row := fnRowsOfPilesUptoRow, standIns := [], harness := (true, "53a09c86195c9674181170a53441fa63100f20b6a1e3eaba0f946b599e989e86"), looks := true }, kinds := [], alts := [], laidByText := true, laidKinds := [.data, .data, .data, .data, .sentinel, .sentinel, .pinned], laidTests := true, laidLooks := .later }
def FnRowsOfPilesUptoCardSaid : Prop := Claim7.holds Tryz.pinned (.plain (OpenSpec.upto fnRowsOfPilesSpec)) fnRowsOfPilesUptoCard

/-- THE SECOND FORM's CARD OF 'laws.FnBankPasts'. -/
def fnBankPastsUptoCard : Claim7 := { stood := { row := fnBankPastsUptoRow, standIns := [], harness := (true, "53a09c86195c9674181170a53441fa63100f20b6a1e3eaba0f946b599e989e86"), looks := true }, kinds := [], alts := [], laidByText := true, laidKinds := [.data, .data, .data, .data, .sentinel, .sentinel, .pinned], laidTests := true, laidLooks := .later }
def FnBankPastsUptoCardSaid : Prop := Claim7.holds Tryz.pinned (.plain (OpenSpec.upto fnBankPastsSpec)) fnBankPastsUptoCard
end Rows
end Go.Proofs.YtjaodhjiibdbdaaGreatDoor
