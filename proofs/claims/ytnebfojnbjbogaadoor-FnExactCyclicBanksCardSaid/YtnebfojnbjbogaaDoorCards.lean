/-
  DERIVED. GIVEN WITH THE SEED: THE CARDS: each row of YtnebfojnbjbogaaDoorRows.lean that lists a variable, with what it lists TIED to the program's text (the seventh form; the later family's looks); each row that meets fmt, with fmt's text TOLD by the authors' own Lean function (tested against real Go, not proved from fmt's source: count such statements apart). THE CARD IS WHAT COUNTS. Prove the row's statement (the work); the ties are given (YtnebfojnbjbogaaDoorTie.lean); close each card by the builder's one call (the guide's Derived/Test/ToyasCard.lean, 'card_holds'). Laid BY PROGRAM, IN A SANDBOX (cutbox-door.mjs). By AI agents, Wed Nov 11 2026. No macro, syntax, notation, axiom, sorry.
-/
import Derived.Test.YtnebfojnbjbogaaDoorRows
import GoSem.ClaimSeven
namespace Go.Proofs.YtnebfojnbjbogaaDoor
namespace Rows

/-- THE TIED CARD OF 'laws.FnBankOrbits'. -/
def fnBankOrbitsCard : Claim7 := { stood := { row := fnBankOrbitsRow, standIns := [], harness := (true, "f33635242620ba9788857204eb6b1d56aaa8c428085ffe39ef34a4cc5ce81207"), looks := false }, kinds := [], alts := [], laidByText := true, laidKinds := [.data, .data, .data], laidTests := true, laidLooks := .later }
def FnBankOrbitsCardSaid : Prop := Claim7.holds Tryd.pinned (.plain (OpenSpec.ofChange fnBankOrbitsSpec)) fnBankOrbitsCard

/-- THE TIED CARD OF 'laws.FnExactCyclicBanks'. -/
def fnExactCyclicBanksCard : Claim7 := { stood := { row := fnExactCyclicBanksRow, standIns := [], harness := (true, "f33635242620ba9788857204eb6b1d56aaa8c428085ffe39ef34a4cc5ce81207"), looks := false }, kinds := [], alts := [], laidByText := true, laidKinds := [.data, .data, .data], laidTests := true, laidLooks := .later }
def FnExactCyclicBanksCardSaid : Prop := Claim7.holds Tryd.pinned (.plain (OpenSpec.ofChange fnExactCyclicBanksSpec)) fnExactCyclicBanksCard

/-- THE SECOND FORM's CARD OF 'laws.FnBankOrbits'. -/
def fnBankOrbitsUptoCard : Claim7 := { stood := { row := fnBankOrbitsUptoRow, standIns := [], harness := (true, "f33635242620ba9788857204eb6b1d56aaa8c428085ffe39ef34a4cc5ce81207"), looks := false }, kinds := [], alts := [], laidByText := true, laidKinds := [.data, .data, .data], laidTests := true, laidLooks := .later }
def FnBankOrbitsUptoCardSaid : Prop := Claim7.holds Tryd.pinned (.plain (OpenSpec.upto fnBankOrbitsSpec)) fnBankOrbitsUptoCard

/-- THE SECOND FORM's CARD OF 'laws.FnExactCyclicBanks'. -/
def fnExactCyclicBanksUptoCard : Claim7 := { stood := { row := fnExactCyclicBanksUptoRow, standIns := [], harness := (true, "f33635242620ba9788857204eb6b1d56aaa8c428085ffe39ef34a4cc5ce81207"), looks := false }, kinds := [], alts := [], laidByText := true, laidKinds := [.data, .data, .data], laidTests := true, laidLooks := .later }
def FnExactCyclicBanksUptoCardSaid : Prop := Claim7.holds Tryd.pinned (.plain (OpenSpec.upto fnExactCyclicBanksSpec)) fnExactCyclicBanksUptoCard
end Rows
end Go.Proofs.YtnebfojnbjbogaaDoor
