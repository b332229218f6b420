/-
  DERIVED. GIVEN WITH THE SEED: THE CARDS: each row of YtbkihnejgcebpaaGreatDoorRows.lean that lists a variable, with what it lists TIED to the program's text (the seventh form; the later family's looks); each row that meets fmt, with fmt's text TOLD by the authors' own Lean function (tested against real Go, not proved from fmt's source: count such statements apart). THE CARD IS WHAT COUNTS. Prove the row's statement (the work); the ties are given (YtbkihnejgcebpaaGreatDoorTie.lean); close each card by the builder's one call (the guide's Derived/Test/ToyasCard.lean, 'card_holds'). Laid BY PROGRAM, IN A SANDBOX (cutbox-door.mjs). By AI agents, Wed Nov 11 2026. No macro, syntax, notation, axiom, sorry.
-/
import Derived.Test.YtbkihnejgcebpaaGreatDoorRows
import GoSem.ClaimSeven
namespace Go.Proofs.YtbkihnejgcebpaaGreatDoor
namespace Rows

/-- THE TIED CARD OF 'laws.FnJoinedAndRead'. -/
def fnJoinedAndReadCard : Claim7 := { stood := { row := fnJoinedAndReadRow, standIns := [], harness := (true, "1a04b5e77c7f71d2e33ef89a2a2d4e331c6365554e03c4304bb321d7a8e50813"), looks := true }, kinds := [], alts := [], laidByText := true, laidKinds := [.data, .data, .data, .data, .sentinel, .sentinel, .pinned], laidTests := true, laidLooks := .later }
def FnJoinedAndReadCardSaid : Prop := Claim7.holds Tryz.pinned (.plain (OpenSpec.ofChange fnJoinedAndReadSpec)) fnJoinedAndReadCard

/-- THE TIED CARD OF 'laws.FnRowsOfPiles'. -/
def fnRowsOfPilesCard : Claim7 := { stood := { row := fnRowsOfPilesRow, standIns := [], harness := (true, "1a04b5e77c7f71d2e33ef89a2a2d4e331c6365554e03c4304bb321d7a8e50813"), looks := true }, kinds := [], alts := [], laidByText := true, laidKinds := [.data, .data, .data, .data, .sentinel, .sentinel, .pinned], laidTests := true, laidLooks := .later }
def FnRowsOfPilesCardSaid : Prop := Claim7.holds Tryz.pinned (.plain (OpenSpec.ofChange fnRowsOfPilesSpec)) fnRowsOfPilesCard

/-- THE TIED CARD OF 'laws.FnBankPasts'. -/
def fnBankPastsCard : Claim7 := { stood := { row := fnBankPastsRow, standIns := [], harness := (true, "1a04b5e77c7f71d2e33ef89a2a2d4e331c6365554e03c4304bb321d7a8e50813"), looks := true }, kinds := [], alts := [], laidByText := true, laidKinds := [.data, .data, .data, .data, .sentinel, .sentinel, .pinned], laidTests := true, laidLooks := .later }
def FnBankPastsCardSaid : Prop := Claim7.holds Tryz.pinned (.plain (OpenSpec.ofChange fnBankPastsSpec)) fnBankPastsCard

/-- THE TIED CARD OF 'laws.FnFallVectors'. -/
def fnFallVectorsCard : Claim7 := { stood := { row := fnFallVectorsRow, standIns := [], harness := (true, "1a04b5e77c7f71d2e33ef89a2a2d4e331c6365554e03c4304bb321d7a8e50813"), looks := true }, kinds := [], alts := [], laidByText := true, laidKinds := [.data, .data, .data], laidTests := true, laidLooks := .later }
def FnFallVectorsCardSaid : Prop := Claim7.holds Tryz.pinned (.plain (OpenSpec.ofChange fnFallVectorsSpec)) fnFallVectorsCard

/-- THE SECOND FORM's CARD OF 'laws.FnJoinedAndRead'. -/
def fnJoinedAndReadUptoCard : Claim7 := { stood := { row := fnJoinedAndReadUptoRow, standIns := [], harness := (true, "1a04b5e77c7f71d2e33ef89a2a2d4e331c6365554e03c4304bb321d7a8e50813"), looks := true }, kinds := [], alts := [], laidByText := true, laidKinds := [.data, .data, .data, .data, .sentinel, .sentinel, .pinned], laidTests := true, laidLooks := .later }
def FnJoinedAndReadUptoCardSaid : Prop := Claim7.holds Tryz.pinned (.plain (OpenSpec.upto fnJoinedAndReadSpec)) fnJoinedAndReadUptoCard

/-- THE SECOND FORM's CARD OF 'laws.FnRowsOfPiles'. -/
def fnRowsOfPilesUptoCard : Claim7 := { stood := { row := fnRowsOfPilesUptoRow, standIns := [], harness := (true, "1a04b5e77c7f71d2e33ef89a2a2d4e331c6365554e03c4304bb321d7a8e50813"), looks := true }, kinds := [], alts := [], laidByText := true, laidKinds := [.data, .data, .data, .data, .sentinel, .sentinel, .pinned], laidTests := true, laidLooks := .later }
def FnRowsOfPilesUptoCardSaid : Prop := Claim7.holds Tryz.pinned (.plain (OpenSpec.upto fnRowsOfPilesSpec)) fnRowsOfPilesUptoCard

/-- THE SECOND FORM's CARD OF 'laws.FnBankPasts'. -/
def fnBankPastsUptoCard : Claim7 := { stood := { row := fnBankPastsUptoRow, standIns := [], harness := (true, "1a04b5e77c7f71d2e33ef89a2a2d4e331c6365554e03c4304bb321d7a8e50813"), looks := true }, kinds := [], alts := [], laidByText := true, laidKinds := [.data, .data, .data, .data, .sentinel, .sentinel, .pinned], laidTests := true, laidLooks := .later }
def FnBankPastsUptoCardSaid : Prop := Claim7.holds Tryz.pinned (.plain (OpenSpec.upto fnBankPastsSpec)) fnBankPastsUptoCard

/-- THE SECOND FORM's CARD OF 'laws.FnFallVectors'. -/
def fnFallVectorsUptoCard : Claim7 := { stood := { row := fnFallVectorsUptoRow, standIns := [], harness := (true, "1a04b5e77c7f71d2e33ef89a2a2d4e331c6365554e03c4304bb321d7a8e50813"), looks := true }, kinds := [], alts := [], laidByText := true, laidKinds := [.data, .data, .data], laidTests := true, laidLooks := .later }
def FnFallVectorsUptoCardSaid : Prop := Claim7.holds Tryz.pinned (.plain (OpenSpec.upto fnFallVectorsSpec)) fnFallVectorsUptoCard
end Rows
end Go.Proofs.YtbkihnejgcebpaaGreatDoor
