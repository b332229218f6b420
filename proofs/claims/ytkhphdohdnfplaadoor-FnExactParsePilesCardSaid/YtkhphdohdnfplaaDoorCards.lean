/-
  DERIVED. GIVEN WITH THE SEED: THE CARDS: each row of YtkhphdohdnfplaaDoorRows.lean that lists a variable, with what it lists TIED to the program's text (the seventh form; the later family's looks); each row that meets fmt, with fmt's text TOLD by the authors' own Lean function (tested against real Go, not proved from fmt's source: count such statements apart). THE CARD IS WHAT COUNTS. Prove the row's statement (the work); the ties are given (YtkhphdohdnfplaaDoorTie.lean); close each card by the builder's one call (the guide's Derived/Test/ToyasCard.lean, 'card_holds'). Laid BY PROGRAM, IN A SANDBOX (cutbox-door.mjs). By AI agents, Wed Nov 11 2026. No macro, syntax, notation, axiom, sorry.
-/
import Derived.Test.YtkhphdohdnfplaaDoorRows
import GoSem.ClaimSeven
namespace Go.Proofs.YtkhphdohdnfplaaDoor
namespace Rows

/-- THE TIED CARD OF 'laws.FnExactPilesText'. -/
def fnExactPilesTextCard : Claim7 := { stood := { row := fnExactPilesTextRow, standIns := [], harness := (true, "1f880a6512ef0a930a43b46fc04902db241fd4466e6e3d751854f67d4f9a751b"), looks := true }, kinds := [], alts := [], laidByText := true, laidKinds := [.data, .data, .data], laidTests := true, laidLooks := .later }
def FnExactPilesTextCardSaid : Prop := Claim7.holds Tryd.pinned (.plain (OpenSpec.ofChange fnExactPilesTextSpec)) fnExactPilesTextCard

/-- THE TIED CARD OF 'laws.FnExactParsePiles'. -/
def fnExactParsePilesCard : Claim7 := { stood := { row := fnExactParsePilesRow, standIns := [], harness := (true, "1f880a6512ef0a930a43b46fc04902db241fd4466e6e3d751854f67d4f9a751b"), looks := true }, kinds := [], alts := [], laidByText := true, laidKinds := [.data, .data, .data, .data, .sentinel, .sentinel, .pinned], laidTests := true, laidLooks := .later }
def FnExactParsePilesCardSaid : Prop := Claim7.holds Tryd.pinned (.plain (OpenSpec.ofChange fnExactParsePilesSpec)) fnExactParsePilesCard

/-- THE SECOND FORM's CARD OF 'laws.FnExactPilesText'. -/
def fnExactPilesTextUptoCard : Claim7 := { stood := { row := fnExactPilesTextUptoRow, standIns := [], harness := (true, "1f880a6512ef0a930a43b46fc04902db241fd4466e6e3d751854f67d4f9a751b"), looks := true }, kinds := [], alts := [], laidByText := true, laidKinds := [.data, .data, .data], laidTests := true, laidLooks := .later }
def FnExactPilesTextUptoCardSaid : Prop := Claim7.holds Tryd.pinned (.plain (OpenSpec.upto fnExactPilesTextSpec)) fnExactPilesTextUptoCard

/-- THE SECOND FORM's CARD OF 'laws.FnExactParsePiles'. -/
def fnExactParsePilesUptoCard : Claim7 := { stood := { row := fnExactParsePilesUptoRow, standIns := [], harness := (true, "1f880a6512ef0a930a43b46fc04902db241fd4466e6e3d751854f67d4f9a751b"), looks := true }, kinds := [], alts := [], laidByText := true, laidKinds := [.data, .data, .data, .data, .sentinel, .sentinel, .pinned], laidTests := true, laidLooks := .later }
def FnExactParsePilesUptoCardSaid : Prop := Claim7.holds Tryd.pinned (.plain (OpenSpec.upto fnExactParsePilesSpec)) fnExactParsePilesUptoCard
end Rows
end Go.Proofs.YtkhphdohdnfplaaDoor
