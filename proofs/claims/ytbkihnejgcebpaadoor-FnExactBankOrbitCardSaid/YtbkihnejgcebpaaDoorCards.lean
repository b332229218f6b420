/-
  DERIVED. GIVEN WITH THE SEED: THE CARDS: each row of YtbkihnejgcebpaaDoorRows.lean that lists a variable, with what it lists TIED to the program's text (the seventh form; the later family's looks); each row that meets fmt, with fmt's text TOLD by the authors' own Lean function (tested against real Go, not proved from fmt's source: count such statements apart). THE CARD IS WHAT COUNTS. Prove the row's statement (the work); the ties are given (YtbkihnejgcebpaaDoorTie.lean); close each card by the builder's one call (the guide's Derived/Test/ToyasCard.lean, 'card_holds'). Laid BY PROGRAM, IN A SANDBOX (cutbox-door.mjs). By AI agents, Wed Nov 11 2026. No macro, syntax, notation, axiom, sorry.
-/
import Derived.Test.YtbkihnejgcebpaaDoorRows
import GoSem.ClaimSeven
namespace Go.Proofs.YtbkihnejgcebpaaDoor
namespace Rows

/-- THE TIED CARD OF 'laws.FnExactBankOrbit'. -/
def fnExactBankOrbitCard : Claim7 := { stood := { row := fnExactBankOrbitRow, standIns := [], harness := (true, "f445d0da6eb6a86359d04aa956839ff59e3d9af31a5f69436285211dc55a080d"), looks := true }, kinds := [], alts := [], laidByText := true, laidKinds := [.data, .data, .data], laidTests := true, laidLooks := .later }
def FnExactBankOrbitCardSaid : Prop := Claim7.holds Tryd.pinned (.plain (OpenSpec.ofChange fnExactBankOrbitSpec)) fnExactBankOrbitCard

/-- THE TIED CARD OF 'laws.FnExactIsCyclicBank'. -/
def fnExactIsCyclicBankCard : Claim7 := { stood := { row := fnExactIsCyclicBankRow, standIns := [], harness := (true, "f445d0da6eb6a86359d04aa956839ff59e3d9af31a5f69436285211dc55a080d"), looks := true }, kinds := [], alts := [], laidByText := true, laidKinds := [.data, .data, .data], laidTests := true, laidLooks := .later }
def FnExactIsCyclicBankCardSaid : Prop := Claim7.holds Tryd.pinned (.plain (OpenSpec.ofChange fnExactIsCyclicBankSpec)) fnExactIsCyclicBankCard

/-- THE TIED CARD OF 'laws.FnExactCyclicBanks'. -/
def fnExactCyclicBanksCard : Claim7 := { stood := { row := fnExactCyclicBanksRow, standIns := [], harness := (true, "f445d0da6eb6a86359d04aa956839ff59e3d9af31a5f69436285211dc55a080d"), looks := true }, kinds := [], alts := [], laidByText := true, laidKinds := [.data, .data, .data], laidTests := true, laidLooks := .later }
def FnExactCyclicBanksCardSaid : Prop := Claim7.holds Tryd.pinned (.plain (OpenSpec.ofChange fnExactCyclicBanksSpec)) fnExactCyclicBanksCard

/-- THE TIED CARD OF 'laws.FnExactCountFallPlays'. -/
def fnExactCountFallPlaysCard : Claim7 := { stood := { row := fnExactCountFallPlaysRow, standIns := [], harness := (true, "f445d0da6eb6a86359d04aa956839ff59e3d9af31a5f69436285211dc55a080d"), looks := true }, kinds := [], alts := [], laidByText := true, laidKinds := [.data, .data, .data], laidTests := true, laidLooks := .later }
def FnExactCountFallPlaysCardSaid : Prop := Claim7.holds Tryd.pinned (.plain (OpenSpec.ofChange fnExactCountFallPlaysSpec)) fnExactCountFallPlaysCard

/-- THE SECOND FORM's CARD OF 'laws.FnExactBankOrbit'. -/
def fnExactBankOrbitUptoCard : Claim7 := { stood := { row := fnExactBankOrbitUptoRow, standIns := [], harness := (true, "f445d0da6eb6a86359d04aa956839ff59e3d9af31a5f69436285211dc55a080d"), looks := true }, kinds := [], alts := [], laidByText := true, laidKinds := [.data, .data, .data], laidTests := true, laidLooks := .later }
def FnExactBankOrbitUptoCardSaid : Prop := Claim7.holds Tryd.pinned (.plain (OpenSpec.upto fnExactBankOrbitSpec)) fnExactBankOrbitUptoCard

/-- THE SECOND FORM's CARD OF 'laws.FnExactIsCyclicBank'. -/
def fnExactIsCyclicBankUptoCard : Claim7 := { stood := { row := fnExactIsCyclicBankUptoRow, standIns := [], harness := (true, "f445d0da6eb6a86359d04aa956839ff59e3d9af31a5f69436285211dc55a080d"), looks := true }, kinds := [], alts := [], laidByText := true, laidKinds := [.data, .data, .data], laidTests := true, laidLooks := .later }
def FnExactIsCyclicBankUptoCardSaid : Prop := Claim7.holds Tryd.pinned (.plain (OpenSpec.upto fnExactIsCyclicBankSpec)) fnExactIsCyclicBankUptoCard

/-- THE SECOND FORM's CARD OF 'laws.FnExactCyclicBanks'. -/
def fnExactCyclicBanksUptoCard : Claim7 := { stood := { row := fnExactCyclicBanksUptoRow, standIns := [], harness := (true, "f445d0da6eb6a86359d04aa956839ff59e3d9af31a5f69436285211dc55a080d"), looks := true }, kinds := [], alts := [], laidByText := true, laidKinds := [.data, .data, .data], laidTests := true, laidLooks := .later }
def FnExactCyclicBanksUptoCardSaid : Prop := Claim7.holds Tryd.pinned (.plain (OpenSpec.upto fnExactCyclicBanksSpec)) fnExactCyclicBanksUptoCard

/-- THE SECOND FORM's CARD OF 'laws.FnExactCountFallPlays'. -/
def fnExactCountFallPlaysUptoCard : Claim7 := { stood := { row := fnExactCountFallPlaysUptoRow, standIns := [], harness := (true, "f445d0da6eb6a86359d04aa956839ff59e3d9af31a5f69436285211dc55a080d"), looks := true }, kinds := [], alts := [], laidByText := true, laidKinds := [.data, .data, .data], laidTests := true, laidLooks := .later }
def FnExactCountFallPlaysUptoCardSaid : Prop := Claim7.holds Tryd.pinned (.plain (OpenSpec.upto fnExactCountFallPlaysSpec)) fnExactCountFallPlaysUptoCard
end Rows
end Go.Proofs.YtbkihnejgcebpaaDoor
