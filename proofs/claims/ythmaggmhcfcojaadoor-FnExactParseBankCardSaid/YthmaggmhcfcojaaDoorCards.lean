/-
  DERIVED. GIVEN WITH THE SEED: THE CARDS: each row of YthmaggmhcfcojaaDoorRows.lean that lists a variable, with what it lists TIED to the program's text (the seventh form; the later family's looks); each row that meets fmt, with fmt's text TOLD by the authors' own Lean function (tested against real Go, not proved from fmt's source: count such statements apart). THE CARD IS WHAT COUNTS. Prove the row's statement (the work); the ties are given (YthmaggmhcfcojaaDoorTie.lean); close each card by the builder's one call (the guide's Derived/Test/ToyasCard.lean, 'card_holds'). Laid BY PROGRAM, IN A SANDBOX (cutbox-door.mjs). By AI agents, Wed Nov 11 2026. No macro, syntax, notation, axiom, sorry.
-/
import Derived.Test.YthmaggmhcfcojaaDoorRows
import GoSem.ClaimSeven
namespace Go.Proofs.YthmaggmhcfcojaaDoor
namespace Rows

/-- THE TIED CARD OF 'laws.FnExactRowText'. -/
def fnExactRowTextCard : Claim7 := { stood := { row := fnExactRowTextRow, standIns := [], harness := (true, "68909edbb62b6bc2a30fe815769e9c53bc95b49ff2e7c21b3d162999301ed11a"), looks := true }, kinds := [], alts := [], laidByText := true, laidKinds := [.data, .data, .data], laidTests := true, laidLooks := .later }
def FnExactRowTextCardSaid : Prop := Claim7.holds Tryd.pinned (.plain (OpenSpec.ofChange fnExactRowTextSpec)) fnExactRowTextCard

/-- THE TIED CARD OF 'laws.FnExactParseRow'. -/
def fnExactParseRowCard : Claim7 := { stood := { row := fnExactParseRowRow, standIns := [], harness := (true, "68909edbb62b6bc2a30fe815769e9c53bc95b49ff2e7c21b3d162999301ed11a"), looks := true }, kinds := [], alts := [], laidByText := true, laidKinds := [.data, .data, .data, .data, .sentinel, .sentinel, .pinned], laidTests := true, laidLooks := .later }
def FnExactParseRowCardSaid : Prop := Claim7.holds Tryd.pinned (.plain (OpenSpec.ofChange fnExactParseRowSpec)) fnExactParseRowCard

/-- THE TIED CARD OF 'laws.FnExactBankText'. -/
def fnExactBankTextCard : Claim7 := { stood := { row := fnExactBankTextRow, standIns := [], harness := (true, "68909edbb62b6bc2a30fe815769e9c53bc95b49ff2e7c21b3d162999301ed11a"), looks := true }, kinds := [], alts := [], laidByText := true, laidKinds := [.data, .data, .data], laidTests := true, laidLooks := .later }
def FnExactBankTextCardSaid : Prop := Claim7.holds Tryd.pinned (.plain (OpenSpec.ofChange fnExactBankTextSpec)) fnExactBankTextCard

/-- THE TIED CARD OF 'laws.FnExactParseBank'. -/
def fnExactParseBankCard : Claim7 := { stood := { row := fnExactParseBankRow, standIns := [], harness := (true, "68909edbb62b6bc2a30fe815769e9c53bc95b49ff2e7c21b3d162999301ed11a"), looks := true }, kinds := [], alts := [], laidByText := true, laidKinds := [.data, .data, .data, .data, .sentinel, .sentinel, .pinned], laidTests := true, laidLooks := .later }
def FnExactParseBankCardSaid : Prop := Claim7.holds Tryd.pinned (.plain (OpenSpec.ofChange fnExactParseBankSpec)) fnExactParseBankCard

/-- THE SECOND FORM's CARD OF 'laws.FnExactRowText'. -/
def fnExactRowTextUptoCard : Claim7 := { stood := { row := fnExactRowTextUptoRow, standIns := [], harness := (true, "68909edbb62b6bc2a30fe815769e9c53bc95b49ff2e7c21b3d162999301ed11a"), looks := true }, kinds := [], alts := [], laidByText := true, laidKinds := [.data, .data, .data], laidTests := true, laidLooks := .later }
def FnExactRowTextUptoCardSaid : Prop := Claim7.holds Tryd.pinned (.plain (OpenSpec.upto fnExactRowTextSpec)) fnExactRowTextUptoCard

/-- THE SECOND FORM's CARD OF 'laws.FnExactParseRow'. -/
def fnExactParseRowUptoCard : Claim7 := { stood := { row := fnExactParseRowUptoRow, standIns := [], harness := (true, "68909edbb62b6bc2a30fe815769e9c53bc95b49ff2e7c21b3d162999301ed11a"), looks := true }, kinds := [], alts := [], laidByText := true, laidKinds := [.data, .data, .data, .data, .sentinel, .sentinel, .pinned], laidTests := true, laidLooks := .later }
def FnExactParseRowUptoCardSaid : Prop := Claim7.holds Tryd.pinned (.plain (OpenSpec.upto fnExactParseRowSpec)) fnExactParseRowUptoCard

/-- THE SECOND FORM's CARD OF 'laws.FnExactBankText'. -/
def fnExactBankTextUptoCard : Claim7 := { stood := { row := fnExactBankTextUptoRow, standIns := [], harness := (true, "68909edbb62b6bc2a30fe815769e9c53bc95b49ff2e7c21b3d162999301ed11a"), looks := true }, kinds := [], alts := [], laidByText := true, laidKinds := [.data, .data, .data], laidTests := true, laidLooks := .later }
def FnExactBankTextUptoCardSaid : Prop := Claim7.holds Tryd.pinned (.plain (OpenSpec.upto fnExactBankTextSpec)) fnExactBankTextUptoCard

/-- THE SECOND FORM's CARD OF 'laws.FnExactParseBank'. -/
def fnExactParseBankUptoCard : Claim7 := { stood := { row := fnExactParseBankUptoRow, standIns := [], harness := (true, "68909edbb62b6bc2a30fe815769e9c53bc95b49ff2e7c21b3d162999301ed11a"), looks := true }, kinds := [], alts := [], laidByText := true, laidKinds := [.data, .data, .data, .data, .sentinel, .sentinel, .pinned], laidTests := true, laidLooks := .later }
def FnExactParseBankUptoCardSaid : Prop := Claim7.holds Tryd.pinned (.plain (OpenSpec.upto fnExactParseBankSpec)) fnExactParseBankUptoCard
end Rows
end Go.Proofs.YthmaggmhcfcojaaDoor
