/-
  No cell of these rows narrows 'for every input' (looked for: loops, veiled, ifaces, maps, wideKeys, modest, calm, conditions, laid).
  DERIVED. THE GIVEN ROWS OF THIS SEAT. 11 by the template 'for every input the law returns true; each argument reads behind the call as it read before'; 0 by the template 'total and deterministic' (their statements: YtcanpbhffmdeeaaTotals.lean).
  GIVEN WITH THE SEED: the statements are not yours to turn. If you find one false, say at which input.
  Laid BY PROGRAM, IN A SANDBOX (cutbox-rows.mjs): the forced cells as the released guide's own fill.sh prints them over the translation 791a356ddba77fb7… (all of the seat's roots in one cut). By AI agents, Wed Nov 11 2026. No macro, syntax, notation, axiom, sorry.
-/
import Derived.Test.YtcanpbhffmdeeaaChecked
import GoSem.Claim
import GoSem.ClaimJoined
import GoSem.ClaimMapViews
import Derived.JoinedTies
import Derived.KernelRfl
namespace Go.Proofs.Ytcanpbhffmdeeaa
/- THE CELL 'sum', in the pinned program and in every row, IS THE sha256 OF THE DUMP (.gsa) THAT YtcanpbhffmdeeaaProg.lean LOADS. Nothing in Lean hashes anything: it is a label: what it is worth is what the hold of that sum in a sandbox is worth. -/
noncomputable def Try.pinned : Pinned := { name := "ytcanpbhffmdeeaa", sum := "791a356ddba77fb748e2ef39f42f6e84b39893486635f08dd8ad96753e53d6e2", checked := Try.checked }
namespace Rows
def none {H : Type} : Left H := { results := [], args := [] }

/-- 'laws.FnStepsKeepCards': WHATEVER THE INPUT: true; the input reads as it did. -/
def fnStepsKeepCardsSpec : ChangeSpec := { name := "fnStepsKeepCards", fn := fun _ => fun
  | [d1, d2] => { results := [.lit (.bool true)], args := [d1, d2] }
  | _ => none }
def fnStepsKeepCardsRow : OpenClaim := { program := "ytcanpbhffmdeeaa", sum := "791a356ddba77fb748e2ef39f42f6e84b39893486635f08dd8ad96753e53d6e2", func := "loop.example/g01114/laws.FnStepsKeepCards", spec := "fnStepsKeepCards", unfollowed := true, recurses := true, apart := false }
def FnStepsKeepCardsSaid : Prop := fnStepsKeepCardsRow.holds Try.pinned (OpenSpec.ofChange fnStepsKeepCardsSpec)

/-- ITS FALSE NEIGHBOUR: 'it returns false'. Refute it at one input. -/
def fnStepsKeepCardsWrong : ChangeSpec := { name := "fnStepsKeepCards", fn := fun _ => fun
  | [d1, d2] => { results := [.lit (.bool false)], args := [d1, d2] }
  | _ => none }
def FnStepsKeepCardsWrongFalsely : Prop := fnStepsKeepCardsRow.holds Try.pinned (OpenSpec.ofChange fnStepsKeepCardsWrong)

/-- 'laws.FnPastsAreExact': WHATEVER THE INPUT: true; the input reads as it did. -/
def fnPastsAreExactSpec : ChangeSpec := { name := "fnPastsAreExact", fn := fun _ => fun
  | [d1, d2] => { results := [.lit (.bool true)], args := [d1, d2] }
  | _ => none }
def fnPastsAreExactRow : OpenClaim := { program := "ytcanpbhffmdeeaa", sum := "791a356ddba77fb748e2ef39f42f6e84b39893486635f08dd8ad96753e53d6e2", func := "loop.example/g01114/laws.FnPastsAreExact", spec := "fnPastsAreExact", unfollowed := true, recurses := true, apart := false }
def FnPastsAreExactSaid : Prop := fnPastsAreExactRow.holds Try.pinned (OpenSpec.ofChange fnPastsAreExactSpec)

/-- ITS FALSE NEIGHBOUR: 'it returns false'. Refute it at one input. -/
def fnPastsAreExactWrong : ChangeSpec := { name := "fnPastsAreExact", fn := fun _ => fun
  | [d1, d2] => { results := [.lit (.bool false)], args := [d1, d2] }
  | _ => none }
def FnPastsAreExactWrongFalsely : Prop := fnPastsAreExactRow.holds Try.pinned (OpenSpec.ofChange fnPastsAreExactWrong)

/-- 'laws.FnSidesOfPiles': WHATEVER THE INPUT: true; the input reads as it did. -/
def fnSidesOfPilesSpec : ChangeSpec := { name := "fnSidesOfPiles", fn := fun _ => fun
  | [d1, d2] => { results := [.lit (.bool true)], args := [d1, d2] }
  | _ => none }
def fnSidesOfPilesRow : OpenClaim := { program := "ytcanpbhffmdeeaa", sum := "791a356ddba77fb748e2ef39f42f6e84b39893486635f08dd8ad96753e53d6e2", func := "loop.example/g01114/laws.FnSidesOfPiles", spec := "fnSidesOfPiles", unfollowed := true, recurses := true, apart := false }
def FnSidesOfPilesSaid : Prop := fnSidesOfPilesRow.holds Try.pinned (OpenSpec.ofChange fnSidesOfPilesSpec)

/-- ITS FALSE NEIGHBOUR: 'it returns false'. Refute it at one input. -/
def fnSidesOfPilesWrong : ChangeSpec := { name := "fnSidesOfPiles", fn := fun _ => fun
  | [d1, d2] => { results := [.lit (.bool false)], args := [d1, d2] }
  | _ => none }
def FnSidesOfPilesWrongFalsely : Prop := fnSidesOfPilesRow.holds Try.pinned (OpenSpec.ofChange fnSidesOfPilesWrong)

/-- 'laws.FnPilesListed': WHATEVER THE INPUT: true; the input reads as it did. -/
def fnPilesListedSpec : ChangeSpec := { name := "fnPilesListed", fn := fun _ => fun
  | [d1, d2] => { results := [.lit (.bool true)], args := [d1, d2] }
  | _ => none }
def fnPilesListedRow : OpenClaim := { program := "ytcanpbhffmdeeaa", sum := "791a356ddba77fb748e2ef39f42f6e84b39893486635f08dd8ad96753e53d6e2", func := "loop.example/g01114/laws.FnPilesListed", spec := "fnPilesListed", unfollowed := true, recurses := true, apart := false }
def FnPilesListedSaid : Prop := fnPilesListedRow.holds Try.pinned (OpenSpec.ofChange fnPilesListedSpec)

/-- ITS FALSE NEIGHBOUR: 'it returns false'. Refute it at one input. -/
def fnPilesListedWrong : ChangeSpec := { name := "fnPilesListed", fn := fun _ => fun
  | [d1, d2] => { results := [.lit (.bool false)], args := [d1, d2] }
  | _ => none }
def FnPilesListedWrongFalsely : Prop := fnPilesListedRow.holds Try.pinned (OpenSpec.ofChange fnPilesListedWrong)

/-- 'laws.FnStaircasesStay': WHATEVER THE INPUT: true; the input reads as it did. -/
def fnStaircasesStaySpec : ChangeSpec := { name := "fnStaircasesStay", fn := fun _ => fun
  | [d1, d2] => { results := [.lit (.bool true)], args := [d1, d2] }
  | _ => none }
def fnStaircasesStayRow : OpenClaim := { program := "ytcanpbhffmdeeaa", sum := "791a356ddba77fb748e2ef39f42f6e84b39893486635f08dd8ad96753e53d6e2", func := "loop.example/g01114/laws.FnStaircasesStay", spec := "fnStaircasesStay", unfollowed := true, recurses := true, apart := false }
def FnStaircasesStaySaid : Prop := fnStaircasesStayRow.holds Try.pinned (OpenSpec.ofChange fnStaircasesStaySpec)

/-- ITS FALSE NEIGHBOUR: 'it returns false'. Refute it at one input. -/
def fnStaircasesStayWrong : ChangeSpec := { name := "fnStaircasesStay", fn := fun _ => fun
  | [d1, d2] => { results := [.lit (.bool false)], args := [d1, d2] }
  | _ => none }
def FnStaircasesStayWrongFalsely : Prop := fnStaircasesStayRow.holds Try.pinned (OpenSpec.ofChange fnStaircasesStayWrong)

/-- 'laws.FnPlaysEndInCycles': WHATEVER THE INPUT: true; the input reads as it did. -/
def fnPlaysEndInCyclesSpec : ChangeSpec := { name := "fnPlaysEndInCycles", fn := fun _ => fun
  | [d1, d2] => { results := [.lit (.bool true)], args := [d1, d2] }
  | _ => none }
def fnPlaysEndInCyclesRow : OpenClaim := { program := "ytcanpbhffmdeeaa", sum := "791a356ddba77fb748e2ef39f42f6e84b39893486635f08dd8ad96753e53d6e2", func := "loop.example/g01114/laws.FnPlaysEndInCycles", spec := "fnPlaysEndInCycles", unfollowed := true, recurses := true, apart := false }
def FnPlaysEndInCyclesSaid : Prop := fnPlaysEndInCyclesRow.holds Try.pinned (OpenSpec.ofChange fnPlaysEndInCyclesSpec)

/-- ITS FALSE NEIGHBOUR: 'it returns false'. Refute it at one input. -/
def fnPlaysEndInCyclesWrong : ChangeSpec := { name := "fnPlaysEndInCycles", fn := fun _ => fun
  | [d1, d2] => { results := [.lit (.bool false)], args := [d1, d2] }
  | _ => none }
def FnPlaysEndInCyclesWrongFalsely : Prop := fnPlaysEndInCyclesRow.holds Try.pinned (OpenSpec.ofChange fnPlaysEndInCyclesWrong)

/-- 'laws.FnBitsTurn': WHATEVER THE INPUT: true; the input reads as it did. -/
def fnBitsTurnSpec : ChangeSpec := { name := "fnBitsTurn", fn := fun _ => fun
  | [d1, d2] => { results := [.lit (.bool true)], args := [d1, d2] }
  | _ => none }
def fnBitsTurnRow : OpenClaim := { program := "ytcanpbhffmdeeaa", sum := "791a356ddba77fb748e2ef39f42f6e84b39893486635f08dd8ad96753e53d6e2", func := "loop.example/g01114/laws.FnBitsTurn", spec := "fnBitsTurn", unfollowed := true, recurses := true, apart := false }
def FnBitsTurnSaid : Prop := fnBitsTurnRow.holds Try.pinned (OpenSpec.ofChange fnBitsTurnSpec)

/-- ITS FALSE NEIGHBOUR: 'it returns false'. Refute it at one input. -/
def fnBitsTurnWrong : ChangeSpec := { name := "fnBitsTurn", fn := fun _ => fun
  | [d1, d2] => { results := [.lit (.bool false)], args := [d1, d2] }
  | _ => none }
def FnBitsTurnWrongFalsely : Prop := fnBitsTurnRow.holds Try.pinned (OpenSpec.ofChange fnBitsTurnWrong)

/-- 'laws.FnCyclesAreNecklaces': WHATEVER THE INPUT: true; the input reads as it did. -/
def fnCyclesAreNecklacesSpec : ChangeSpec := { name := "fnCyclesAreNecklaces", fn := fun _ => fun
  | [d1, d2] => { results := [.lit (.bool true)], args := [d1, d2] }
  | _ => none }
def fnCyclesAreNecklacesRow : OpenClaim := { program := "ytcanpbhffmdeeaa", sum := "791a356ddba77fb748e2ef39f42f6e84b39893486635f08dd8ad96753e53d6e2", func := "loop.example/g01114/laws.FnCyclesAreNecklaces", spec := "fnCyclesAreNecklaces", unfollowed := true, recurses := true, apart := false }
def FnCyclesAreNecklacesSaid : Prop := fnCyclesAreNecklacesRow.holds Try.pinned (OpenSpec.ofChange fnCyclesAreNecklacesSpec)

/-- ITS FALSE NEIGHBOUR: 'it returns false'. Refute it at one input. -/
def fnCyclesAreNecklacesWrong : ChangeSpec := { name := "fnCyclesAreNecklaces", fn := fun _ => fun
  | [d1, d2] => { results := [.lit (.bool false)], args := [d1, d2] }
  | _ => none }
def FnCyclesAreNecklacesWrongFalsely : Prop := fnCyclesAreNecklacesRow.holds Try.pinned (OpenSpec.ofChange fnCyclesAreNecklacesWrong)

/-- 'laws.FnPlaysMeet': WHATEVER THE INPUT: true; the input reads as it did. -/
def fnPlaysMeetSpec : ChangeSpec := { name := "fnPlaysMeet", fn := fun _ => fun
  | [d1, d2] => { results := [.lit (.bool true)], args := [d1, d2] }
  | _ => none }
def fnPlaysMeetRow : OpenClaim := { program := "ytcanpbhffmdeeaa", sum := "791a356ddba77fb748e2ef39f42f6e84b39893486635f08dd8ad96753e53d6e2", func := "loop.example/g01114/laws.FnPlaysMeet", spec := "fnPlaysMeet", unfollowed := true, recurses := true, apart := false }
def FnPlaysMeetSaid : Prop := fnPlaysMeetRow.holds Try.pinned (OpenSpec.ofChange fnPlaysMeetSpec)

/-- ITS FALSE NEIGHBOUR: 'it returns false'. Refute it at one input. -/
def fnPlaysMeetWrong : ChangeSpec := { name := "fnPlaysMeet", fn := fun _ => fun
  | [d1, d2] => { results := [.lit (.bool false)], args := [d1, d2] }
  | _ => none }
def FnPlaysMeetWrongFalsely : Prop := fnPlaysMeetRow.holds Try.pinned (OpenSpec.ofChange fnPlaysMeetWrong)

/-- 'laws.FnLongestTails': WHATEVER THE INPUT: true; the input reads as it did. -/
def fnLongestTailsSpec : ChangeSpec := { name := "fnLongestTails", fn := fun _ => fun
  | [d1, d2] => { results := [.lit (.bool true)], args := [d1, d2] }
  | _ => none }
def fnLongestTailsRow : OpenClaim := { program := "ytcanpbhffmdeeaa", sum := "791a356ddba77fb748e2ef39f42f6e84b39893486635f08dd8ad96753e53d6e2", func := "loop.example/g01114/laws.FnLongestTails", spec := "fnLongestTails", unfollowed := true, recurses := true, apart := false }
def FnLongestTailsSaid : Prop := fnLongestTailsRow.holds Try.pinned (OpenSpec.ofChange fnLongestTailsSpec)

/-- ITS FALSE NEIGHBOUR: 'it returns false'. Refute it at one input. -/
def fnLongestTailsWrong : ChangeSpec := { name := "fnLongestTails", fn := fun _ => fun
  | [d1, d2] => { results := [.lit (.bool false)], args := [d1, d2] }
  | _ => none }
def FnLongestTailsWrongFalsely : Prop := fnLongestTailsRow.holds Try.pinned (OpenSpec.ofChange fnLongestTailsWrong)

/-- 'laws.FnBasinsAddUp': WHATEVER THE INPUT: true; the input reads as it did. -/
def fnBasinsAddUpSpec : ChangeSpec := { name := "fnBasinsAddUp", fn := fun _ => fun
  | [d1, d2] => { results := [.lit (.bool true)], args := [d1, d2] }
  | _ => none }
def fnBasinsAddUpRow : OpenClaim := { program := "ytcanpbhffmdeeaa", sum := "791a356ddba77fb748e2ef39f42f6e84b39893486635f08dd8ad96753e53d6e2", func := "loop.example/g01114/laws.FnBasinsAddUp", spec := "fnBasinsAddUp", unfollowed := true, recurses := true, apart := false }
def FnBasinsAddUpSaid : Prop := fnBasinsAddUpRow.holds Try.pinned (OpenSpec.ofChange fnBasinsAddUpSpec)

/-- ITS FALSE NEIGHBOUR: 'it returns false'. Refute it at one input. -/
def fnBasinsAddUpWrong : ChangeSpec := { name := "fnBasinsAddUp", fn := fun _ => fun
  | [d1, d2] => { results := [.lit (.bool false)], args := [d1, d2] }
  | _ => none }
def FnBasinsAddUpWrongFalsely : Prop := fnBasinsAddUpRow.holds Try.pinned (OpenSpec.ofChange fnBasinsAddUpWrong)

/- THE SECOND FORM. 'bulk': how many values and letters a reading holds, each counted each time it is reached (what is shared counts as often as it is met; a slice's spare places count too). A statement '..UptoSaid' is the law's where the arguments, and the package variables that the reading takes, are together of bulk at most 1048576: NARROWER than '..Said'. Prove '..Said' where nothing that the law and all that it calls make is longer than what came in: it says more and counts as full. Else prove '..UptoSaid'. A law counts once. -/
mutual
def uptoBulk {H : Type} : DataW H → Nat
  | .lit (.string bytes) => bytes.length + 1
  | .lit _ => 1
  | .nil => 1
  | .ptr d => uptoBulk d + 1
  | .slice elems spare => uptoBulkAll elems + uptoBulkAll spare + 1
  | .agg parts => uptoBulkAll parts + 1
  | .iface _ d => uptoBulk d + 1
  | .map entries => uptoBulkEntries entries + 1
  | .held _ => 1
def uptoBulkAll {H : Type} : List (DataW H) → Nat
  | [] => 0
  | d :: r => uptoBulk d + uptoBulkAll r
def uptoBulkEntries {H : Type} : List (Lit × DataW H) → Nat
  | [] => 0
  | x :: r => uptoBulkEntry x + uptoBulkEntries r
def uptoBulkEntry {H : Type} : Lit × DataW H → Nat
  | (.string bytes, d) => bytes.length + uptoBulk d + 1
  | (_, d) => uptoBulk d + 1
 end
def uptoSmall : (H : Type) → List (DataW H) → Bool := fun _ ds => decide (uptoBulkAll ds ≤ 1048576)
def OpenSpec.upto (s : _root_.Go.ChangeSpec) : _root_.Go.OpenSpec := { _root_.Go.OpenSpec.ofChange s with cond := some uptoSmall }

/-- 'laws.FnStepsKeepCards', WHERE WHAT IT READS IS OF BULK AT MOST 1048576: true; the input reads as it did. -/
def fnStepsKeepCardsUptoRow : OpenClaim := { program := "ytcanpbhffmdeeaa", sum := "791a356ddba77fb748e2ef39f42f6e84b39893486635f08dd8ad96753e53d6e2", func := "loop.example/g01114/laws.FnStepsKeepCards", spec := "fnStepsKeepCards", unfollowed := true, recurses := true, apart := false, narrowed := true }
def FnStepsKeepCardsUptoSaid : Prop := fnStepsKeepCardsUptoRow.holds Try.pinned (OpenSpec.upto fnStepsKeepCardsSpec)

/-- 'laws.FnPastsAreExact', WHERE WHAT IT READS IS OF BULK AT MOST 1048576: true; the input reads as it did. -/
def fnPastsAreExactUptoRow : OpenClaim := { program := "ytcanpbhffmdeeaa", sum := "791a356ddba77fb748e2ef39f42f6e84b39893486635f08dd8ad96753e53d6e2", func := "loop.example/g01114/laws.FnPastsAreExact", spec := "fnPastsAreExact", unfollowed := true, recurses := true, apart := false, narrowed := true }
def FnPastsAreExactUptoSaid : Prop := fnPastsAreExactUptoRow.holds Try.pinned (OpenSpec.upto fnPastsAreExactSpec)

/-- 'laws.FnSidesOfPiles', WHERE WHAT IT READS IS OF BULK AT MOST 1048576: true; the input reads as it did. -/
def fnSidesOfPilesUptoRow : OpenClaim := { program := "ytcanpbhffmdeeaa", sum := "791a356ddba77fb748e2ef39f42f6e84b39893486635f08dd8ad96753e53d6e2", func := "loop.example/g01114/laws.FnSidesOfPiles", spec := "fnSidesOfPiles", unfollowed := true, recurses := true, apart := false, narrowed := true }
def FnSidesOfPilesUptoSaid : Prop := fnSidesOfPilesUptoRow.holds Try.pinned (OpenSpec.upto fnSidesOfPilesSpec)

/-- 'laws.FnPilesListed', WHERE WHAT IT READS IS OF BULK AT MOST 1048576: true; the input reads as it did. -/
def fnPilesListedUptoRow : OpenClaim := { program := "ytcanpbhffmdeeaa", sum := "791a356ddba77fb748e2ef39f42f6e84b39893486635f08dd8ad96753e53d6e2", func := "loop.example/g01114/laws.FnPilesListed", spec := "fnPilesListed", unfollowed := true, recurses := true, apart := false, narrowed := true }
def FnPilesListedUptoSaid : Prop := fnPilesListedUptoRow.holds Try.pinned (OpenSpec.upto fnPilesListedSpec)

/-- 'laws.FnStaircasesStay', WHERE WHAT IT READS IS OF BULK AT MOST 1048576: true; the input reads as it did. -/
def fnStaircasesStayUptoRow : OpenClaim := { program := "ytcanpbhffmdeeaa", sum := "791a356ddba77fb748e2ef39f42f6e84b39893486635f08dd8ad96753e53d6e2", func := "loop.example/g01114/laws.FnStaircasesStay", spec := "fnStaircasesStay", unfollowed := true, recurses := true, apart := false, narrowed := true }
def FnStaircasesStayUptoSaid : Prop := fnStaircasesStayUptoRow.holds Try.pinned (OpenSpec.upto fnStaircasesStaySpec)

/-- 'laws.FnPlaysEndInCycles', WHERE WHAT IT READS IS OF BULK AT MOST 1048576: true; the input reads as it did. -/
def fnPlaysEndInCyclesUptoRow : OpenClaim := { program := "ytcanpbhffmdeeaa", sum := "791a356ddba77fb748e2ef39f42f6e84b39893486635f08dd8ad96753e53d6e2", func := "loop.example/g01114/laws.FnPlaysEndInCycles", spec := "fnPlaysEndInCycles", unfollowed := true, recurses := true, apart := false, narrowed := true }
def FnPlaysEndInCyclesUptoSaid : Prop := fnPlaysEndInCyclesUptoRow.holds Try.pinned (OpenSpec.upto fnPlaysEndInCyclesSpec)

/-- 'laws.FnBitsTurn', WHERE WHAT IT READS IS OF BULK AT MOST 1048576: true; the input reads as it did. -/
def fnBitsTurnUptoRow : OpenClaim := { program := "ytcanpbhffmdeeaa", sum := "791a356ddba77fb748e2ef39f42f6e84b39893486635f08dd8ad96753e53d6e2", func := "loop.example/g01114/laws.FnBitsTurn", spec := "fnBitsTurn", unfollowed := true, recurses := true, apart := false, narrowed := true }
def FnBitsTurnUptoSaid : Prop := fnBitsTurnUptoRow.holds Try.pinned (OpenSpec.upto fnBitsTurnSpec)

/-- 'laws.FnCyclesAreNecklaces', WHERE WHAT IT READS IS OF BULK AT MOST 1048576: true; the input reads as it did. -/
def fnCyclesAreNecklacesUptoRow : OpenClaim := { program := "ytcanpbhffmdeeaa", sum := "791a356ddba77fb748e2ef39f42f6e84b39893486635f08dd8ad96753e53d6e2", func := "loop.example/g01114/laws.FnCyclesAreNecklaces", spec := "fnCyclesAreNecklaces", unfollowed := true, recurses := true, apart := false, narrowed := true }
def FnCyclesAreNecklacesUptoSaid : Prop := fnCyclesAreNecklacesUptoRow.holds Try.pinned (OpenSpec.upto fnCyclesAreNecklacesSpec)

/-- 'laws.FnPlaysMeet', WHERE WHAT IT READS IS OF BULK AT MOST 1048576: true; the input reads as it did. -/
def fnPlaysMeetUptoRow : OpenClaim := { program := "ytcanpbhffmdeeaa", sum := "791a356ddba77fb748e2ef39f42f6e84b39893486635f08dd8ad96753e53d6e2", func := "loop.example/g01114/laws.FnPlaysMeet", spec := "fnPlaysMeet", unfollowed := true, recurses := true, apart := false, narrowed := true }
def FnPlaysMeetUptoSaid : Prop := fnPlaysMeetUptoRow.holds Try.pinned (OpenSpec.upto fnPlaysMeetSpec)

/-- 'laws.FnLongestTails', WHERE WHAT IT READS IS OF BULK AT MOST 1048576: true; the input reads as it did. -/
def fnLongestTailsUptoRow : OpenClaim := { program := "ytcanpbhffmdeeaa", sum := "791a356ddba77fb748e2ef39f42f6e84b39893486635f08dd8ad96753e53d6e2", func := "loop.example/g01114/laws.FnLongestTails", spec := "fnLongestTails", unfollowed := true, recurses := true, apart := false, narrowed := true }
def FnLongestTailsUptoSaid : Prop := fnLongestTailsUptoRow.holds Try.pinned (OpenSpec.upto fnLongestTailsSpec)

/-- 'laws.FnBasinsAddUp', WHERE WHAT IT READS IS OF BULK AT MOST 1048576: true; the input reads as it did. -/
def fnBasinsAddUpUptoRow : OpenClaim := { program := "ytcanpbhffmdeeaa", sum := "791a356ddba77fb748e2ef39f42f6e84b39893486635f08dd8ad96753e53d6e2", func := "loop.example/g01114/laws.FnBasinsAddUp", spec := "fnBasinsAddUp", unfollowed := true, recurses := true, apart := false, narrowed := true }
def FnBasinsAddUpUptoSaid : Prop := fnBasinsAddUpUptoRow.holds Try.pinned (OpenSpec.upto fnBasinsAddUpSpec)

end Rows
end Go.Proofs.Ytcanpbhffmdeeaa
