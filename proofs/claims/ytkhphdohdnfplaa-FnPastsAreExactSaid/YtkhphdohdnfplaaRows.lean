/-
  No cell of these rows narrows 'for every input' (looked for: loops, veiled, ifaces, maps, wideKeys, modest, calm, conditions, laid).
  DERIVED. THE GIVEN ROWS OF THIS SEAT. 22 by the template 'for every input the law returns true; each argument reads behind the call as it read before'; 0 by the template 'total and deterministic' (their statements: YtkhphdohdnfplaaTotals.lean).
  GIVEN WITH THE SEED: the statements are not yours to turn. If you find one false, say at which input.
  Laid BY PROGRAM, IN A SANDBOX (cutbox-rows.mjs): the forced cells as the released guide's own fill.sh prints them over the translation da43639386e248e2… (all of the seat's roots in one cut). By AI agents, Wed Nov 11 2026. No macro, syntax, notation, axiom, sorry.
-/
import Derived.Test.YtkhphdohdnfplaaChecked
import GoSem.Claim
import GoSem.ClaimJoined
import GoSem.ClaimMapViews
import Derived.JoinedTies
import Derived.KernelRfl
namespace Go.Proofs.Ytkhphdohdnfplaa
/- THE CELL 'sum', in the pinned program and in every row, IS THE sha256 OF THE DUMP (.gsa) THAT YtkhphdohdnfplaaProg.lean LOADS. Nothing in Lean hashes anything: it is a label: what it is worth is what the hold of that sum in a sandbox is worth. -/
noncomputable def Try.pinned : Pinned := { name := "ytkhphdohdnfplaa", sum := "da43639386e248e2b95dfd2736adecaa546a95f6e9b0f5be1656321e6d32a9af", checked := Try.checked }
namespace Rows
def none {H : Type} : Left H := { results := [], args := [] }

/-- 'laws.FnStepsKeepCards': WHATEVER THE INPUT: true; the input reads as it did. -/
def fnStepsKeepCardsSpec : ChangeSpec := { name := "fnStepsKeepCards", fn := fun _ => fun
  | [d1, d2] => { results := [.lit (.bool true)], args := [d1, d2] }
  | _ => none }
def fnStepsKeepCardsRow : OpenClaim := { program := "ytkhphdohdnfplaa", sum := "da43639386e248e2b95dfd2736adecaa546a95f6e9b0f5be1656321e6d32a9af", func := "loop.example/g01114/laws.FnStepsKeepCards", spec := "fnStepsKeepCards", unfollowed := true, recurses := true, apart := false }
def FnStepsKeepCardsSaid : Prop := fnStepsKeepCardsRow.holds Try.pinned (OpenSpec.ofChange fnStepsKeepCardsSpec)

/-- ITS FALSE NEIGHBOUR: 'it returns false'. Refute it at one input. -/
def fnStepsKeepCardsWrong : ChangeSpec := { name := "fnStepsKeepCards", fn := fun _ => fun
  | [d1, d2] => { results := [.lit (.bool false)], args := [d1, d2] }
  | _ => none }
def FnStepsKeepCardsWrongFalsely : Prop := fnStepsKeepCardsRow.holds Try.pinned (OpenSpec.ofChange fnStepsKeepCardsWrong)

/-- 'laws.FnPastsAreExact': WHATEVER THE INPUT: true; the input reads as it did. -/
def fnPastsAreExactSpec : ChangeSpec := { name := "fnPastsAreExact", fn := fun _ => fun
  | [d1, d2] => { results := [.lit (.bool true)], args := [d1, d2] }
  | _ => none }
def fnPastsAreExactRow : OpenClaim := { program := "ytkhphdohdnfplaa", sum := "da43639386e248e2b95dfd2736adecaa546a95f6e9b0f5be1656321e6d32a9af", func := "loop.example/g01114/laws.FnPastsAreExact", spec := "fnPastsAreExact", unfollowed := true, recurses := true, apart := false }
def FnPastsAreExactSaid : Prop := fnPastsAreExactRow.holds Try.pinned (OpenSpec.ofChange fnPastsAreExactSpec)

/-- ITS FALSE NEIGHBOUR: 'it returns false'. Refute it at one input. -/
def fnPastsAreExactWrong : ChangeSpec := { name := "fnPastsAreExact", fn := fun _ => fun
  | [d1, d2] => { results := [.lit (.bool false)], args := [d1, d2] }
  | _ => none }
def FnPastsAreExactWrongFalsely : Prop := fnPastsAreExactRow.holds Try.pinned (OpenSpec.ofChange fnPastsAreExactWrong)

/-- 'laws.FnSidesOfPiles': WHATEVER THE INPUT: true; the input reads as it did. -/
def fnSidesOfPilesSpec : ChangeSpec := { name := "fnSidesOfPiles", fn := fun _ => fun
  | [d1, d2] => { results := [.lit (.bool true)], args := [d1, d2] }
  | _ => none }
def fnSidesOfPilesRow : OpenClaim := { program := "ytkhphdohdnfplaa", sum := "da43639386e248e2b95dfd2736adecaa546a95f6e9b0f5be1656321e6d32a9af", func := "loop.example/g01114/laws.FnSidesOfPiles", spec := "fnSidesOfPiles", unfollowed := true, recurses := true, apart := false }
def FnSidesOfPilesSaid : Prop := fnSidesOfPilesRow.holds Try.pinned (OpenSpec.ofChange fnSidesOfPilesSpec)

/-- ITS FALSE NEIGHBOUR: 'it returns false'. Refute it at one input. -/
def fnSidesOfPilesWrong : ChangeSpec := { name := "fnSidesOfPiles", fn := fun _ => fun
  | [d1, d2] => { results := [.lit (.bool false)], args := [d1, d2] }
  | _ => none }
def FnSidesOfPilesWrongFalsely : Prop := fnSidesOfPilesRow.holds Try.pinned (OpenSpec.ofChange fnSidesOfPilesWrong)

/-- 'laws.FnPilesListed': WHATEVER THE INPUT: true; the input reads as it did. -/
def fnPilesListedSpec : ChangeSpec := { name := "fnPilesListed", fn := fun _ => fun
  | [d1, d2] => { results := [.lit (.bool true)], args := [d1, d2] }
  | _ => none }
def fnPilesListedRow : OpenClaim := { program := "ytkhphdohdnfplaa", sum := "da43639386e248e2b95dfd2736adecaa546a95f6e9b0f5be1656321e6d32a9af", func := "loop.example/g01114/laws.FnPilesListed", spec := "fnPilesListed", unfollowed := true, recurses := true, apart := false }
def FnPilesListedSaid : Prop := fnPilesListedRow.holds Try.pinned (OpenSpec.ofChange fnPilesListedSpec)

/-- ITS FALSE NEIGHBOUR: 'it returns false'. Refute it at one input. -/
def fnPilesListedWrong : ChangeSpec := { name := "fnPilesListed", fn := fun _ => fun
  | [d1, d2] => { results := [.lit (.bool false)], args := [d1, d2] }
  | _ => none }
def FnPilesListedWrongFalsely : Prop := fnPilesListedRow.holds Try.pinned (OpenSpec.ofChange fnPilesListedWrong)

/-- 'laws.FnStaircasesStay': WHATEVER THE INPUT: true; the input reads as it did. -/
def fnStaircasesStaySpec : ChangeSpec := { name := "fnStaircasesStay", fn := fun _ => fun
  | [d1, d2] => { results := [.lit (.bool true)], args := [d1, d2] }
  | _ => none }
def fnStaircasesStayRow : OpenClaim := { program := "ytkhphdohdnfplaa", sum := "da43639386e248e2b95dfd2736adecaa546a95f6e9b0f5be1656321e6d32a9af", func := "loop.example/g01114/laws.FnStaircasesStay", spec := "fnStaircasesStay", unfollowed := true, recurses := true, apart := false }
def FnStaircasesStaySaid : Prop := fnStaircasesStayRow.holds Try.pinned (OpenSpec.ofChange fnStaircasesStaySpec)

/-- ITS FALSE NEIGHBOUR: 'it returns false'. Refute it at one input. -/
def fnStaircasesStayWrong : ChangeSpec := { name := "fnStaircasesStay", fn := fun _ => fun
  | [d1, d2] => { results := [.lit (.bool false)], args := [d1, d2] }
  | _ => none }
def FnStaircasesStayWrongFalsely : Prop := fnStaircasesStayRow.holds Try.pinned (OpenSpec.ofChange fnStaircasesStayWrong)

/-- 'laws.FnExactIsPiles': WHATEVER THE INPUT: true; the input reads as it did. -/
def fnExactIsPilesSpec : ChangeSpec := { name := "fnExactIsPiles", fn := fun _ => fun
  | [d] => { results := [.lit (.bool true)], args := [d] }
  | _ => none }
def fnExactIsPilesRow : OpenClaim := { program := "ytkhphdohdnfplaa", sum := "da43639386e248e2b95dfd2736adecaa546a95f6e9b0f5be1656321e6d32a9af", func := "loop.example/g01114/laws.FnExactIsPiles", spec := "fnExactIsPiles", apart := false }
def FnExactIsPilesSaid : Prop := fnExactIsPilesRow.holds Try.pinned (OpenSpec.ofChange fnExactIsPilesSpec)

/-- ITS FALSE NEIGHBOUR: 'it returns false'. Refute it at one input. -/
def fnExactIsPilesWrong : ChangeSpec := { name := "fnExactIsPiles", fn := fun _ => fun
  | [d] => { results := [.lit (.bool false)], args := [d] }
  | _ => none }
def FnExactIsPilesWrongFalsely : Prop := fnExactIsPilesRow.holds Try.pinned (OpenSpec.ofChange fnExactIsPilesWrong)

/-- 'laws.FnExactCardsOf': WHATEVER THE INPUT: true; the input reads as it did. -/
def fnExactCardsOfSpec : ChangeSpec := { name := "fnExactCardsOf", fn := fun _ => fun
  | [d] => { results := [.lit (.bool true)], args := [d] }
  | _ => none }
def fnExactCardsOfRow : OpenClaim := { program := "ytkhphdohdnfplaa", sum := "da43639386e248e2b95dfd2736adecaa546a95f6e9b0f5be1656321e6d32a9af", func := "loop.example/g01114/laws.FnExactCardsOf", spec := "fnExactCardsOf", apart := false }
def FnExactCardsOfSaid : Prop := fnExactCardsOfRow.holds Try.pinned (OpenSpec.ofChange fnExactCardsOfSpec)

/-- ITS FALSE NEIGHBOUR: 'it returns false'. Refute it at one input. -/
def fnExactCardsOfWrong : ChangeSpec := { name := "fnExactCardsOf", fn := fun _ => fun
  | [d] => { results := [.lit (.bool false)], args := [d] }
  | _ => none }
def FnExactCardsOfWrongFalsely : Prop := fnExactCardsOfRow.holds Try.pinned (OpenSpec.ofChange fnExactCardsOfWrong)

/-- 'laws.FnExactStepPiles': WHATEVER THE INPUT: true; the input reads as it did. -/
def fnExactStepPilesSpec : ChangeSpec := { name := "fnExactStepPiles", fn := fun _ => fun
  | [d] => { results := [.lit (.bool true)], args := [d] }
  | _ => none }
def fnExactStepPilesRow : OpenClaim := { program := "ytkhphdohdnfplaa", sum := "da43639386e248e2b95dfd2736adecaa546a95f6e9b0f5be1656321e6d32a9af", func := "loop.example/g01114/laws.FnExactStepPiles", spec := "fnExactStepPiles", unfollowed := true, recurses := true, apart := false }
def FnExactStepPilesSaid : Prop := fnExactStepPilesRow.holds Try.pinned (OpenSpec.ofChange fnExactStepPilesSpec)

/-- ITS FALSE NEIGHBOUR: 'it returns false'. Refute it at one input. -/
def fnExactStepPilesWrong : ChangeSpec := { name := "fnExactStepPiles", fn := fun _ => fun
  | [d] => { results := [.lit (.bool false)], args := [d] }
  | _ => none }
def FnExactStepPilesWrongFalsely : Prop := fnExactStepPilesRow.holds Try.pinned (OpenSpec.ofChange fnExactStepPilesWrong)

/-- 'laws.FnExactStepsFrom': WHATEVER THE INPUT: true; the input reads as it did. -/
def fnExactStepsFromSpec : ChangeSpec := { name := "fnExactStepsFrom", fn := fun _ => fun
  | [d1, d2] => { results := [.lit (.bool true)], args := [d1, d2] }
  | _ => none }
def fnExactStepsFromRow : OpenClaim := { program := "ytkhphdohdnfplaa", sum := "da43639386e248e2b95dfd2736adecaa546a95f6e9b0f5be1656321e6d32a9af", func := "loop.example/g01114/laws.FnExactStepsFrom", spec := "fnExactStepsFrom", unfollowed := true, recurses := true, apart := false }
def FnExactStepsFromSaid : Prop := fnExactStepsFromRow.holds Try.pinned (OpenSpec.ofChange fnExactStepsFromSpec)

/-- ITS FALSE NEIGHBOUR: 'it returns false'. Refute it at one input. -/
def fnExactStepsFromWrong : ChangeSpec := { name := "fnExactStepsFrom", fn := fun _ => fun
  | [d1, d2] => { results := [.lit (.bool false)], args := [d1, d2] }
  | _ => none }
def FnExactStepsFromWrongFalsely : Prop := fnExactStepsFromRow.holds Try.pinned (OpenSpec.ofChange fnExactStepsFromWrong)

/-- 'laws.FnExactPlayOf': WHATEVER THE INPUT: true; the input reads as it did. -/
def fnExactPlayOfSpec : ChangeSpec := { name := "fnExactPlayOf", fn := fun _ => fun
  | [d1, d2] => { results := [.lit (.bool true)], args := [d1, d2] }
  | _ => none }
def fnExactPlayOfRow : OpenClaim := { program := "ytkhphdohdnfplaa", sum := "da43639386e248e2b95dfd2736adecaa546a95f6e9b0f5be1656321e6d32a9af", func := "loop.example/g01114/laws.FnExactPlayOf", spec := "fnExactPlayOf", unfollowed := true, recurses := true, apart := false }
def FnExactPlayOfSaid : Prop := fnExactPlayOfRow.holds Try.pinned (OpenSpec.ofChange fnExactPlayOfSpec)

/-- ITS FALSE NEIGHBOUR: 'it returns false'. Refute it at one input. -/
def fnExactPlayOfWrong : ChangeSpec := { name := "fnExactPlayOf", fn := fun _ => fun
  | [d1, d2] => { results := [.lit (.bool false)], args := [d1, d2] }
  | _ => none }
def FnExactPlayOfWrongFalsely : Prop := fnExactPlayOfRow.holds Try.pinned (OpenSpec.ofChange fnExactPlayOfWrong)

/-- 'laws.FnExactSideOf': WHATEVER THE INPUT: true; the input reads as it did. -/
def fnExactSideOfSpec : ChangeSpec := { name := "fnExactSideOf", fn := fun _ => fun
  | [d] => { results := [.lit (.bool true)], args := [d] }
  | _ => none }
def fnExactSideOfRow : OpenClaim := { program := "ytkhphdohdnfplaa", sum := "da43639386e248e2b95dfd2736adecaa546a95f6e9b0f5be1656321e6d32a9af", func := "loop.example/g01114/laws.FnExactSideOf", spec := "fnExactSideOf", apart := false }
def FnExactSideOfSaid : Prop := fnExactSideOfRow.holds Try.pinned (OpenSpec.ofChange fnExactSideOfSpec)

/-- ITS FALSE NEIGHBOUR: 'it returns false'. Refute it at one input. -/
def fnExactSideOfWrong : ChangeSpec := { name := "fnExactSideOf", fn := fun _ => fun
  | [d] => { results := [.lit (.bool false)], args := [d] }
  | _ => none }
def FnExactSideOfWrongFalsely : Prop := fnExactSideOfRow.holds Try.pinned (OpenSpec.ofChange fnExactSideOfWrong)

/-- 'laws.FnExactSideStep': WHATEVER THE INPUT: true; the input reads as it did. -/
def fnExactSideStepSpec : ChangeSpec := { name := "fnExactSideStep", fn := fun _ => fun
  | [d] => { results := [.lit (.bool true)], args := [d] }
  | _ => none }
def fnExactSideStepRow : OpenClaim := { program := "ytkhphdohdnfplaa", sum := "da43639386e248e2b95dfd2736adecaa546a95f6e9b0f5be1656321e6d32a9af", func := "loop.example/g01114/laws.FnExactSideStep", spec := "fnExactSideStep", apart := false }
def FnExactSideStepSaid : Prop := fnExactSideStepRow.holds Try.pinned (OpenSpec.ofChange fnExactSideStepSpec)

/-- ITS FALSE NEIGHBOUR: 'it returns false'. Refute it at one input. -/
def fnExactSideStepWrong : ChangeSpec := { name := "fnExactSideStep", fn := fun _ => fun
  | [d] => { results := [.lit (.bool false)], args := [d] }
  | _ => none }
def FnExactSideStepWrongFalsely : Prop := fnExactSideStepRow.holds Try.pinned (OpenSpec.ofChange fnExactSideStepWrong)

/-- 'laws.FnExactPastsOf': WHATEVER THE INPUT: true; the input reads as it did. -/
def fnExactPastsOfSpec : ChangeSpec := { name := "fnExactPastsOf", fn := fun _ => fun
  | [d] => { results := [.lit (.bool true)], args := [d] }
  | _ => none }
def fnExactPastsOfRow : OpenClaim := { program := "ytkhphdohdnfplaa", sum := "da43639386e248e2b95dfd2736adecaa546a95f6e9b0f5be1656321e6d32a9af", func := "loop.example/g01114/laws.FnExactPastsOf", spec := "fnExactPastsOf", apart := false }
def FnExactPastsOfSaid : Prop := fnExactPastsOfRow.holds Try.pinned (OpenSpec.ofChange fnExactPastsOfSpec)

/-- ITS FALSE NEIGHBOUR: 'it returns false'. Refute it at one input. -/
def fnExactPastsOfWrong : ChangeSpec := { name := "fnExactPastsOf", fn := fun _ => fun
  | [d] => { results := [.lit (.bool false)], args := [d] }
  | _ => none }
def FnExactPastsOfWrongFalsely : Prop := fnExactPastsOfRow.holds Try.pinned (OpenSpec.ofChange fnExactPastsOfWrong)

/-- 'laws.FnExactPastBy': WHATEVER THE INPUT: true; the input reads as it did. -/
def fnExactPastBySpec : ChangeSpec := { name := "fnExactPastBy", fn := fun _ => fun
  | [d1, d2] => { results := [.lit (.bool true)], args := [d1, d2] }
  | _ => none }
def fnExactPastByRow : OpenClaim := { program := "ytkhphdohdnfplaa", sum := "da43639386e248e2b95dfd2736adecaa546a95f6e9b0f5be1656321e6d32a9af", func := "loop.example/g01114/laws.FnExactPastBy", spec := "fnExactPastBy", apart := false }
def FnExactPastBySaid : Prop := fnExactPastByRow.holds Try.pinned (OpenSpec.ofChange fnExactPastBySpec)

/-- ITS FALSE NEIGHBOUR: 'it returns false'. Refute it at one input. -/
def fnExactPastByWrong : ChangeSpec := { name := "fnExactPastBy", fn := fun _ => fun
  | [d1, d2] => { results := [.lit (.bool false)], args := [d1, d2] }
  | _ => none }
def FnExactPastByWrongFalsely : Prop := fnExactPastByRow.holds Try.pinned (OpenSpec.ofChange fnExactPastByWrong)

/-- 'laws.FnExactPastCount': WHATEVER THE INPUT: true; the input reads as it did. -/
def fnExactPastCountSpec : ChangeSpec := { name := "fnExactPastCount", fn := fun _ => fun
  | [d] => { results := [.lit (.bool true)], args := [d] }
  | _ => none }
def fnExactPastCountRow : OpenClaim := { program := "ytkhphdohdnfplaa", sum := "da43639386e248e2b95dfd2736adecaa546a95f6e9b0f5be1656321e6d32a9af", func := "loop.example/g01114/laws.FnExactPastCount", spec := "fnExactPastCount", apart := false }
def FnExactPastCountSaid : Prop := fnExactPastCountRow.holds Try.pinned (OpenSpec.ofChange fnExactPastCountSpec)

/-- ITS FALSE NEIGHBOUR: 'it returns false'. Refute it at one input. -/
def fnExactPastCountWrong : ChangeSpec := { name := "fnExactPastCount", fn := fun _ => fun
  | [d] => { results := [.lit (.bool false)], args := [d] }
  | _ => none }
def FnExactPastCountWrongFalsely : Prop := fnExactPastCountRow.holds Try.pinned (OpenSpec.ofChange fnExactPastCountWrong)

/-- 'laws.FnExactStaircase': WHATEVER THE INPUT: true; the input reads as it did. -/
def fnExactStaircaseSpec : ChangeSpec := { name := "fnExactStaircase", fn := fun _ => fun
  | [d] => { results := [.lit (.bool true)], args := [d] }
  | _ => none }
def fnExactStaircaseRow : OpenClaim := { program := "ytkhphdohdnfplaa", sum := "da43639386e248e2b95dfd2736adecaa546a95f6e9b0f5be1656321e6d32a9af", func := "loop.example/g01114/laws.FnExactStaircase", spec := "fnExactStaircase", apart := false }
def FnExactStaircaseSaid : Prop := fnExactStaircaseRow.holds Try.pinned (OpenSpec.ofChange fnExactStaircaseSpec)

/-- ITS FALSE NEIGHBOUR: 'it returns false'. Refute it at one input. -/
def fnExactStaircaseWrong : ChangeSpec := { name := "fnExactStaircase", fn := fun _ => fun
  | [d] => { results := [.lit (.bool false)], args := [d] }
  | _ => none }
def FnExactStaircaseWrongFalsely : Prop := fnExactStaircaseRow.holds Try.pinned (OpenSpec.ofChange fnExactStaircaseWrong)

/-- 'laws.FnExactHeightFor': WHATEVER THE INPUT: true; the input reads as it did. -/
def fnExactHeightForSpec : ChangeSpec := { name := "fnExactHeightFor", fn := fun _ => fun
  | [d] => { results := [.lit (.bool true)], args := [d] }
  | _ => none }
def fnExactHeightForRow : OpenClaim := { program := "ytkhphdohdnfplaa", sum := "da43639386e248e2b95dfd2736adecaa546a95f6e9b0f5be1656321e6d32a9af", func := "loop.example/g01114/laws.FnExactHeightFor", spec := "fnExactHeightFor", apart := false }
def FnExactHeightForSaid : Prop := fnExactHeightForRow.holds Try.pinned (OpenSpec.ofChange fnExactHeightForSpec)

/-- ITS FALSE NEIGHBOUR: 'it returns false'. Refute it at one input. -/
def fnExactHeightForWrong : ChangeSpec := { name := "fnExactHeightFor", fn := fun _ => fun
  | [d] => { results := [.lit (.bool false)], args := [d] }
  | _ => none }
def FnExactHeightForWrongFalsely : Prop := fnExactHeightForRow.holds Try.pinned (OpenSpec.ofChange fnExactHeightForWrong)

/-- 'laws.FnExactCountPiles': WHATEVER THE INPUT: true; the input reads as it did. -/
def fnExactCountPilesSpec : ChangeSpec := { name := "fnExactCountPiles", fn := fun _ => fun
  | [d] => { results := [.lit (.bool true)], args := [d] }
  | _ => none }
def fnExactCountPilesRow : OpenClaim := { program := "ytkhphdohdnfplaa", sum := "da43639386e248e2b95dfd2736adecaa546a95f6e9b0f5be1656321e6d32a9af", func := "loop.example/g01114/laws.FnExactCountPiles", spec := "fnExactCountPiles", apart := false }
def FnExactCountPilesSaid : Prop := fnExactCountPilesRow.holds Try.pinned (OpenSpec.ofChange fnExactCountPilesSpec)

/-- ITS FALSE NEIGHBOUR: 'it returns false'. Refute it at one input. -/
def fnExactCountPilesWrong : ChangeSpec := { name := "fnExactCountPiles", fn := fun _ => fun
  | [d] => { results := [.lit (.bool false)], args := [d] }
  | _ => none }
def FnExactCountPilesWrongFalsely : Prop := fnExactCountPilesRow.holds Try.pinned (OpenSpec.ofChange fnExactCountPilesWrong)

/-- 'laws.FnExactAllPiles': WHATEVER THE INPUT: true; the input reads as it did. -/
def fnExactAllPilesSpec : ChangeSpec := { name := "fnExactAllPiles", fn := fun _ => fun
  | [d] => { results := [.lit (.bool true)], args := [d] }
  | _ => none }
def fnExactAllPilesRow : OpenClaim := { program := "ytkhphdohdnfplaa", sum := "da43639386e248e2b95dfd2736adecaa546a95f6e9b0f5be1656321e6d32a9af", func := "loop.example/g01114/laws.FnExactAllPiles", spec := "fnExactAllPiles", unfollowed := true, recurses := true, apart := false }
def FnExactAllPilesSaid : Prop := fnExactAllPilesRow.holds Try.pinned (OpenSpec.ofChange fnExactAllPilesSpec)

/-- ITS FALSE NEIGHBOUR: 'it returns false'. Refute it at one input. -/
def fnExactAllPilesWrong : ChangeSpec := { name := "fnExactAllPiles", fn := fun _ => fun
  | [d] => { results := [.lit (.bool false)], args := [d] }
  | _ => none }
def FnExactAllPilesWrongFalsely : Prop := fnExactAllPilesRow.holds Try.pinned (OpenSpec.ofChange fnExactAllPilesWrong)

/-- 'laws.FnExactRankPiles': WHATEVER THE INPUT: true; the input reads as it did. -/
def fnExactRankPilesSpec : ChangeSpec := { name := "fnExactRankPiles", fn := fun _ => fun
  | [d] => { results := [.lit (.bool true)], args := [d] }
  | _ => none }
def fnExactRankPilesRow : OpenClaim := { program := "ytkhphdohdnfplaa", sum := "da43639386e248e2b95dfd2736adecaa546a95f6e9b0f5be1656321e6d32a9af", func := "loop.example/g01114/laws.FnExactRankPiles", spec := "fnExactRankPiles", apart := false }
def FnExactRankPilesSaid : Prop := fnExactRankPilesRow.holds Try.pinned (OpenSpec.ofChange fnExactRankPilesSpec)

/-- ITS FALSE NEIGHBOUR: 'it returns false'. Refute it at one input. -/
def fnExactRankPilesWrong : ChangeSpec := { name := "fnExactRankPiles", fn := fun _ => fun
  | [d] => { results := [.lit (.bool false)], args := [d] }
  | _ => none }
def FnExactRankPilesWrongFalsely : Prop := fnExactRankPilesRow.holds Try.pinned (OpenSpec.ofChange fnExactRankPilesWrong)

/-- 'laws.FnExactPilesWith': WHATEVER THE INPUT: true; the input reads as it did. -/
def fnExactPilesWithSpec : ChangeSpec := { name := "fnExactPilesWith", fn := fun _ => fun
  | [d1, d2] => { results := [.lit (.bool true)], args := [d1, d2] }
  | _ => none }
def fnExactPilesWithRow : OpenClaim := { program := "ytkhphdohdnfplaa", sum := "da43639386e248e2b95dfd2736adecaa546a95f6e9b0f5be1656321e6d32a9af", func := "loop.example/g01114/laws.FnExactPilesWith", spec := "fnExactPilesWith", apart := false }
def FnExactPilesWithSaid : Prop := fnExactPilesWithRow.holds Try.pinned (OpenSpec.ofChange fnExactPilesWithSpec)

/-- ITS FALSE NEIGHBOUR: 'it returns false'. Refute it at one input. -/
def fnExactPilesWithWrong : ChangeSpec := { name := "fnExactPilesWith", fn := fun _ => fun
  | [d1, d2] => { results := [.lit (.bool false)], args := [d1, d2] }
  | _ => none }
def FnExactPilesWithWrongFalsely : Prop := fnExactPilesWithRow.holds Try.pinned (OpenSpec.ofChange fnExactPilesWithWrong)

/-- 'laws.FnExactJoinPiles': WHATEVER THE INPUT: true; the input reads as it did. -/
def fnExactJoinPilesSpec : ChangeSpec := { name := "fnExactJoinPiles", fn := fun _ => fun
  | [d1, d2] => { results := [.lit (.bool true)], args := [d1, d2] }
  | _ => none }
def fnExactJoinPilesRow : OpenClaim := { program := "ytkhphdohdnfplaa", sum := "da43639386e248e2b95dfd2736adecaa546a95f6e9b0f5be1656321e6d32a9af", func := "loop.example/g01114/laws.FnExactJoinPiles", spec := "fnExactJoinPiles", unfollowed := true, recurses := true, apart := false }
def FnExactJoinPilesSaid : Prop := fnExactJoinPilesRow.holds Try.pinned (OpenSpec.ofChange fnExactJoinPilesSpec)

/-- ITS FALSE NEIGHBOUR: 'it returns false'. Refute it at one input. -/
def fnExactJoinPilesWrong : ChangeSpec := { name := "fnExactJoinPiles", fn := fun _ => fun
  | [d1, d2] => { results := [.lit (.bool false)], args := [d1, d2] }
  | _ => none }
def FnExactJoinPilesWrongFalsely : Prop := fnExactJoinPilesRow.holds Try.pinned (OpenSpec.ofChange fnExactJoinPilesWrong)

/- THE SECOND FORM. 'bulk': how many values and letters a reading holds, each counted each time it is reached (what is shared counts as often as it is met; a slice's spare places count too). A statement '..UptoSaid' is the law's where the arguments, and the package variables that the reading takes, are together of bulk at most 1048576: NARROWER than '..Said'. Prove '..Said' where nothing that the law and all that it calls make is longer than what came in: it says more and counts as full. Else prove '..UptoSaid'. A law counts once. -/
mutual
def uptoBulk {H : Type} : DataW H → Nat
  | .lit (.string bytes) => bytes.length + 1
  | .lit _ => 1
  | .nil => 1
  | .ptr d => uptoBulk d + 1
  | .slice elems spare => uptoBulkAll elems + uptoBulkAll spare + 1
  | .agg parts => uptoBulkAll parts + 1
  | .iface _ d => uptoBulk d + 1
  | .map entries => uptoBulkEntries entries + 1
  | .held _ => 1
def uptoBulkAll {H : Type} : List (DataW H) → Nat
  | [] => 0
  | d :: r => uptoBulk d + uptoBulkAll r
def uptoBulkEntries {H : Type} : List (Lit × DataW H) → Nat
  | [] => 0
  | x :: r => uptoBulkEntry x + uptoBulkEntries r
def uptoBulkEntry {H : Type} : Lit × DataW H → Nat
  | (.string bytes, d) => bytes.length + uptoBulk d + 1
  | (_, d) => uptoBulk d + 1
 end
def uptoSmall : (H : Type) → List (DataW H) → Bool := fun _ ds => decide (uptoBulkAll ds ≤ 1048576)
def OpenSpec.upto (s : _root_.Go.ChangeSpec) : _root_.Go.OpenSpec := { _root_.Go.OpenSpec.ofChange s with cond := some uptoSmall }

/-- 'laws.FnStepsKeepCards', WHERE WHAT IT READS IS OF BULK AT MOST 1048576: true; the input reads as it did. -/
def fnStepsKeepCardsUptoRow : OpenClaim := { program := "ytkhphdohdnfplaa", sum := "da43639386e248e2b95dfd2736adecaa546a95f6e9b0f5be1656321e6d32a9af", func := "loop.example/g01114/laws.FnStepsKeepCards", spec := "fnStepsKeepCards", unfollowed := true, recurses := true, apart := false, narrowed := true }
def FnStepsKeepCardsUptoSaid : Prop := fnStepsKeepCardsUptoRow.holds Try.pinned (OpenSpec.upto fnStepsKeepCardsSpec)

/-- 'laws.FnPastsAreExact', WHERE WHAT IT READS IS OF BULK AT MOST 1048576: true; the input reads as it did. -/
def fnPastsAreExactUptoRow : OpenClaim := { program := "ytkhphdohdnfplaa", sum := "da43639386e248e2b95dfd2736adecaa546a95f6e9b0f5be1656321e6d32a9af", func := "loop.example/g01114/laws.FnPastsAreExact", spec := "fnPastsAreExact", unfollowed := true, recurses := true, apart := false, narrowed := true }
def FnPastsAreExactUptoSaid : Prop := fnPastsAreExactUptoRow.holds Try.pinned (OpenSpec.upto fnPastsAreExactSpec)

/-- 'laws.FnSidesOfPiles', WHERE WHAT IT READS IS OF BULK AT MOST 1048576: true; the input reads as it did. -/
def fnSidesOfPilesUptoRow : OpenClaim := { program := "ytkhphdohdnfplaa", sum := "da43639386e248e2b95dfd2736adecaa546a95f6e9b0f5be1656321e6d32a9af", func := "loop.example/g01114/laws.FnSidesOfPiles", spec := "fnSidesOfPiles", unfollowed := true, recurses := true, apart := false, narrowed := true }
def FnSidesOfPilesUptoSaid : Prop := fnSidesOfPilesUptoRow.holds Try.pinned (OpenSpec.upto fnSidesOfPilesSpec)

/-- 'laws.FnPilesListed', WHERE WHAT IT READS IS OF BULK AT MOST 1048576: true; the input reads as it did. -/
def fnPilesListedUptoRow : OpenClaim := { program := "ytkhphdohdnfplaa", sum := "da43639386e248e2b95dfd2736adecaa546a95f6e9b0f5be1656321e6d32a9af", func := "loop.example/g01114/laws.FnPilesListed", spec := "fnPilesListed", unfollowed := true, recurses := true, apart := false, narrowed := true }
def FnPilesListedUptoSaid : Prop := fnPilesListedUptoRow.holds Try.pinned (OpenSpec.upto fnPilesListedSpec)

/-- 'laws.FnStaircasesStay', WHERE WHAT IT READS IS OF BULK AT MOST 1048576: true; the input reads as it did. -/
def fnStaircasesStayUptoRow : OpenClaim := { program := "ytkhphdohdnfplaa", sum := "da43639386e248e2b95dfd2736adecaa546a95f6e9b0f5be1656321e6d32a9af", func := "loop.example/g01114/laws.FnStaircasesStay", spec := "fnStaircasesStay", unfollowed := true, recurses := true, apart := false, narrowed := true }
def FnStaircasesStayUptoSaid : Prop := fnStaircasesStayUptoRow.holds Try.pinned (OpenSpec.upto fnStaircasesStaySpec)

/-- 'laws.FnExactIsPiles', WHERE WHAT IT READS IS OF BULK AT MOST 1048576: true; the input reads as it did. -/
def fnExactIsPilesUptoRow : OpenClaim := { program := "ytkhphdohdnfplaa", sum := "da43639386e248e2b95dfd2736adecaa546a95f6e9b0f5be1656321e6d32a9af", func := "loop.example/g01114/laws.FnExactIsPiles", spec := "fnExactIsPiles", apart := false, narrowed := true }
def FnExactIsPilesUptoSaid : Prop := fnExactIsPilesUptoRow.holds Try.pinned (OpenSpec.upto fnExactIsPilesSpec)

/-- 'laws.FnExactCardsOf', WHERE WHAT IT READS IS OF BULK AT MOST 1048576: true; the input reads as it did. -/
def fnExactCardsOfUptoRow : OpenClaim := { program := "ytkhphdohdnfplaa", sum := "da43639386e248e2b95dfd2736adecaa546a95f6e9b0f5be1656321e6d32a9af", func := "loop.example/g01114/laws.FnExactCardsOf", spec := "fnExactCardsOf", apart := false, narrowed := true }
def FnExactCardsOfUptoSaid : Prop := fnExactCardsOfUptoRow.holds Try.pinned (OpenSpec.upto fnExactCardsOfSpec)

/-- 'laws.FnExactStepPiles', WHERE WHAT IT READS IS OF BULK AT MOST 1048576: true; the input reads as it did. -/
def fnExactStepPilesUptoRow : OpenClaim := { program := "ytkhphdohdnfplaa", sum := "da43639386e248e2b95dfd2736adecaa546a95f6e9b0f5be1656321e6d32a9af", func := "loop.example/g01114/laws.FnExactStepPiles", spec := "fnExactStepPiles", unfollowed := true, recurses := true, apart := false, narrowed := true }
def FnExactStepPilesUptoSaid : Prop := fnExactStepPilesUptoRow.holds Try.pinned (OpenSpec.upto fnExactStepPilesSpec)

/-- 'laws.FnExactStepsFrom', WHERE WHAT IT READS IS OF BULK AT MOST 1048576: true; the input reads as it did. -/
def fnExactStepsFromUptoRow : OpenClaim := { program := "ytkhphdohdnfplaa", sum := "da43639386e248e2b95dfd2736adecaa546a95f6e9b0f5be1656321e6d32a9af", func := "loop.example/g01114/laws.FnExactStepsFrom", spec := "fnExactStepsFrom", unfollowed := true, recurses := true, apart := false, narrowed := true }
def FnExactStepsFromUptoSaid : Prop := fnExactStepsFromUptoRow.holds Try.pinned (OpenSpec.upto fnExactStepsFromSpec)

/-- 'laws.FnExactPlayOf', WHERE WHAT IT READS IS OF BULK AT MOST 1048576: true; the input reads as it did. -/
def fnExactPlayOfUptoRow : OpenClaim := { program := "ytkhphdohdnfplaa", sum := "da43639386e248e2b95dfd2736adecaa546a95f6e9b0f5be1656321e6d32a9af", func := "loop.example/g01114/laws.FnExactPlayOf", spec := "fnExactPlayOf", unfollowed := true, recurses := true, apart := false, narrowed := true }
def FnExactPlayOfUptoSaid : Prop := fnExactPlayOfUptoRow.holds Try.pinned (OpenSpec.upto fnExactPlayOfSpec)

/-- 'laws.FnExactSideOf', WHERE WHAT IT READS IS OF BULK AT MOST 1048576: true; the input reads as it did. -/
def fnExactSideOfUptoRow : OpenClaim := { program := "ytkhphdohdnfplaa", sum := "da43639386e248e2b95dfd2736adecaa546a95f6e9b0f5be1656321e6d32a9af", func := "loop.example/g01114/laws.FnExactSideOf", spec := "fnExactSideOf", apart := false, narrowed := true }
def FnExactSideOfUptoSaid : Prop := fnExactSideOfUptoRow.holds Try.pinned (OpenSpec.upto fnExactSideOfSpec)

/-- 'laws.FnExactSideStep', WHERE WHAT IT READS IS OF BULK AT MOST 1048576: true; the input reads as it did. -/
def fnExactSideStepUptoRow : OpenClaim := { program := "ytkhphdohdnfplaa", sum := "da43639386e248e2b95dfd2736adecaa546a95f6e9b0f5be1656321e6d32a9af", func := "loop.example/g01114/laws.FnExactSideStep", spec := "fnExactSideStep", apart := false, narrowed := true }
def FnExactSideStepUptoSaid : Prop := fnExactSideStepUptoRow.holds Try.pinned (OpenSpec.upto fnExactSideStepSpec)

/-- 'laws.FnExactPastsOf', WHERE WHAT IT READS IS OF BULK AT MOST 1048576: true; the input reads as it did. -/
def fnExactPastsOfUptoRow : OpenClaim := { program := "ytkhphdohdnfplaa", sum := "da43639386e248e2b95dfd2736adecaa546a95f6e9b0f5be1656321e6d32a9af", func := "loop.example/g01114/laws.FnExactPastsOf", spec := "fnExactPastsOf", apart := false, narrowed := true }
def FnExactPastsOfUptoSaid : Prop := fnExactPastsOfUptoRow.holds Try.pinned (OpenSpec.upto fnExactPastsOfSpec)

/-- 'laws.FnExactPastBy', WHERE WHAT IT READS IS OF BULK AT MOST 1048576: true; the input reads as it did. -/
def fnExactPastByUptoRow : OpenClaim := { program := "ytkhphdohdnfplaa", sum := "da43639386e248e2b95dfd2736adecaa546a95f6e9b0f5be1656321e6d32a9af", func := "loop.example/g01114/laws.FnExactPastBy", spec := "fnExactPastBy", apart := false, narrowed := true }
def FnExactPastByUptoSaid : Prop := fnExactPastByUptoRow.holds Try.pinned (OpenSpec.upto fnExactPastBySpec)

/-- 'laws.FnExactPastCount', WHERE WHAT IT READS IS OF BULK AT MOST 1048576: true; the input reads as it did. -/
def fnExactPastCountUptoRow : OpenClaim := { program := "ytkhphdohdnfplaa", sum := "da43639386e248e2b95dfd2736adecaa546a95f6e9b0f5be1656321e6d32a9af", func := "loop.example/g01114/laws.FnExactPastCount", spec := "fnExactPastCount", apart := false, narrowed := true }
def FnExactPastCountUptoSaid : Prop := fnExactPastCountUptoRow.holds Try.pinned (OpenSpec.upto fnExactPastCountSpec)

/-- 'laws.FnExactStaircase', WHERE WHAT IT READS IS OF BULK AT MOST 1048576: true; the input reads as it did. -/
def fnExactStaircaseUptoRow : OpenClaim := { program := "ytkhphdohdnfplaa", sum := "da43639386e248e2b95dfd2736adecaa546a95f6e9b0f5be1656321e6d32a9af", func := "loop.example/g01114/laws.FnExactStaircase", spec := "fnExactStaircase", apart := false, narrowed := true }
def FnExactStaircaseUptoSaid : Prop := fnExactStaircaseUptoRow.holds Try.pinned (OpenSpec.upto fnExactStaircaseSpec)

/-- 'laws.FnExactHeightFor', WHERE WHAT IT READS IS OF BULK AT MOST 1048576: true; the input reads as it did. -/
def fnExactHeightForUptoRow : OpenClaim := { program := "ytkhphdohdnfplaa", sum := "da43639386e248e2b95dfd2736adecaa546a95f6e9b0f5be1656321e6d32a9af", func := "loop.example/g01114/laws.FnExactHeightFor", spec := "fnExactHeightFor", apart := false, narrowed := true }
def FnExactHeightForUptoSaid : Prop := fnExactHeightForUptoRow.holds Try.pinned (OpenSpec.upto fnExactHeightForSpec)

/-- 'laws.FnExactCountPiles', WHERE WHAT IT READS IS OF BULK AT MOST 1048576: true; the input reads as it did. -/
def fnExactCountPilesUptoRow : OpenClaim := { program := "ytkhphdohdnfplaa", sum := "da43639386e248e2b95dfd2736adecaa546a95f6e9b0f5be1656321e6d32a9af", func := "loop.example/g01114/laws.FnExactCountPiles", spec := "fnExactCountPiles", apart := false, narrowed := true }
def FnExactCountPilesUptoSaid : Prop := fnExactCountPilesUptoRow.holds Try.pinned (OpenSpec.upto fnExactCountPilesSpec)

/-- 'laws.FnExactAllPiles', WHERE WHAT IT READS IS OF BULK AT MOST 1048576: true; the input reads as it did. -/
def fnExactAllPilesUptoRow : OpenClaim := { program := "ytkhphdohdnfplaa", sum := "da43639386e248e2b95dfd2736adecaa546a95f6e9b0f5be1656321e6d32a9af", func := "loop.example/g01114/laws.FnExactAllPiles", spec := "fnExactAllPiles", unfollowed := true, recurses := true, apart := false, narrowed := true }
def FnExactAllPilesUptoSaid : Prop := fnExactAllPilesUptoRow.holds Try.pinned (OpenSpec.upto fnExactAllPilesSpec)

/-- 'laws.FnExactRankPiles', WHERE WHAT IT READS IS OF BULK AT MOST 1048576: true; the input reads as it did. -/
def fnExactRankPilesUptoRow : OpenClaim := { program := "ytkhphdohdnfplaa", sum := "da43639386e248e2b95dfd2736adecaa546a95f6e9b0f5be1656321e6d32a9af", func := "loop.example/g01114/laws.FnExactRankPiles", spec := "fnExactRankPiles", apart := false, narrowed := true }
def FnExactRankPilesUptoSaid : Prop := fnExactRankPilesUptoRow.holds Try.pinned (OpenSpec.upto fnExactRankPilesSpec)

/-- 'laws.FnExactPilesWith', WHERE WHAT IT READS IS OF BULK AT MOST 1048576: true; the input reads as it did. -/
def fnExactPilesWithUptoRow : OpenClaim := { program := "ytkhphdohdnfplaa", sum := "da43639386e248e2b95dfd2736adecaa546a95f6e9b0f5be1656321e6d32a9af", func := "loop.example/g01114/laws.FnExactPilesWith", spec := "fnExactPilesWith", apart := false, narrowed := true }
def FnExactPilesWithUptoSaid : Prop := fnExactPilesWithUptoRow.holds Try.pinned (OpenSpec.upto fnExactPilesWithSpec)

/-- 'laws.FnExactJoinPiles', WHERE WHAT IT READS IS OF BULK AT MOST 1048576: true; the input reads as it did. -/
def fnExactJoinPilesUptoRow : OpenClaim := { program := "ytkhphdohdnfplaa", sum := "da43639386e248e2b95dfd2736adecaa546a95f6e9b0f5be1656321e6d32a9af", func := "loop.example/g01114/laws.FnExactJoinPiles", spec := "fnExactJoinPiles", unfollowed := true, recurses := true, apart := false, narrowed := true }
def FnExactJoinPilesUptoSaid : Prop := fnExactJoinPilesUptoRow.holds Try.pinned (OpenSpec.upto fnExactJoinPilesSpec)

end Rows
end Go.Proofs.Ytkhphdohdnfplaa
