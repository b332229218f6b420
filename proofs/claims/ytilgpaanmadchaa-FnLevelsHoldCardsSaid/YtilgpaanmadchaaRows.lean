/-
  No cell of these rows narrows 'for every input' (looked for: loops, veiled, ifaces, maps, wideKeys, modest, calm, conditions, laid).
  DERIVED. THE GIVEN ROWS OF THIS SEAT. 20 by the template 'for every input the law returns true; each argument reads behind the call as it read before'; 0 by the template 'total and deterministic' (their statements: YtilgpaanmadchaaTotals.lean).
  GIVEN WITH THE SEED: the statements are not yours to turn. If you find one false, say at which input.
  Laid BY PROGRAM, IN A SANDBOX (cutbox-rows.mjs): the forced cells as the released guide's own fill.sh prints them over the translation 3ee3a1d1eee98d84… (all of the seat's roots in one cut). By AI agents, Wed Nov 11 2026. No macro, syntax, notation, axiom, sorry.
-/
import Derived.Test.YtilgpaanmadchaaChecked
import GoSem.Claim
import GoSem.ClaimJoined
import GoSem.ClaimMapViews
import Derived.JoinedTies
import Derived.KernelRfl
namespace Go.Proofs.Ytilgpaanmadchaa
/- THE CELL 'sum', in the pinned program and in every row, IS THE sha256 OF THE DUMP (.gsa) THAT YtilgpaanmadchaaProg.lean LOADS. Nothing in Lean hashes anything: it is a label: what it is worth is what the hold of that sum in a sandbox is worth. -/
noncomputable def Try.pinned : Pinned := { name := "ytilgpaanmadchaa", sum := "3ee3a1d1eee98d841a2fac6f1303ed5872811c9b125e5e6ffbd49886716d8ed7", checked := Try.checked }
namespace Rows
def none {H : Type} : Left H := { results := [], args := [] }

/-- 'laws.FnBitsTurn': WHATEVER THE INPUT: true; the input reads as it did. -/
def fnBitsTurnSpec : ChangeSpec := { name := "fnBitsTurn", fn := fun _ => fun
  | [d1, d2] => { results := [.lit (.bool true)], args := [d1, d2] }
  | _ => none }
def fnBitsTurnRow : OpenClaim := { program := "ytilgpaanmadchaa", sum := "3ee3a1d1eee98d841a2fac6f1303ed5872811c9b125e5e6ffbd49886716d8ed7", func := "loop.example/g01114/laws.FnBitsTurn", spec := "fnBitsTurn", unfollowed := true, recurses := true, apart := false }
def FnBitsTurnSaid : Prop := fnBitsTurnRow.holds Try.pinned (OpenSpec.ofChange fnBitsTurnSpec)

/-- ITS FALSE NEIGHBOUR: 'it returns false'. Refute it at one input. -/
def fnBitsTurnWrong : ChangeSpec := { name := "fnBitsTurn", fn := fun _ => fun
  | [d1, d2] => { results := [.lit (.bool false)], args := [d1, d2] }
  | _ => none }
def FnBitsTurnWrongFalsely : Prop := fnBitsTurnRow.holds Try.pinned (OpenSpec.ofChange fnBitsTurnWrong)

/-- 'laws.FnCyclesAreNecklaces': WHATEVER THE INPUT: true; the input reads as it did. -/
def fnCyclesAreNecklacesSpec : ChangeSpec := { name := "fnCyclesAreNecklaces", fn := fun _ => fun
  | [d1, d2] => { results := [.lit (.bool true)], args := [d1, d2] }
  | _ => none }
def fnCyclesAreNecklacesRow : OpenClaim := { program := "ytilgpaanmadchaa", sum := "3ee3a1d1eee98d841a2fac6f1303ed5872811c9b125e5e6ffbd49886716d8ed7", func := "loop.example/g01114/laws.FnCyclesAreNecklaces", spec := "fnCyclesAreNecklaces", unfollowed := true, recurses := true, apart := false }
def FnCyclesAreNecklacesSaid : Prop := fnCyclesAreNecklacesRow.holds Try.pinned (OpenSpec.ofChange fnCyclesAreNecklacesSpec)

/-- ITS FALSE NEIGHBOUR: 'it returns false'. Refute it at one input. -/
def fnCyclesAreNecklacesWrong : ChangeSpec := { name := "fnCyclesAreNecklaces", fn := fun _ => fun
  | [d1, d2] => { results := [.lit (.bool false)], args := [d1, d2] }
  | _ => none }
def FnCyclesAreNecklacesWrongFalsely : Prop := fnCyclesAreNecklacesRow.holds Try.pinned (OpenSpec.ofChange fnCyclesAreNecklacesWrong)

/-- 'laws.FnBasinsAddUp': WHATEVER THE INPUT: true; the input reads as it did. -/
def fnBasinsAddUpSpec : ChangeSpec := { name := "fnBasinsAddUp", fn := fun _ => fun
  | [d1, d2] => { results := [.lit (.bool true)], args := [d1, d2] }
  | _ => none }
def fnBasinsAddUpRow : OpenClaim := { program := "ytilgpaanmadchaa", sum := "3ee3a1d1eee98d841a2fac6f1303ed5872811c9b125e5e6ffbd49886716d8ed7", func := "loop.example/g01114/laws.FnBasinsAddUp", spec := "fnBasinsAddUp", unfollowed := true, recurses := true, apart := false }
def FnBasinsAddUpSaid : Prop := fnBasinsAddUpRow.holds Try.pinned (OpenSpec.ofChange fnBasinsAddUpSpec)

/-- ITS FALSE NEIGHBOUR: 'it returns false'. Refute it at one input. -/
def fnBasinsAddUpWrong : ChangeSpec := { name := "fnBasinsAddUp", fn := fun _ => fun
  | [d1, d2] => { results := [.lit (.bool false)], args := [d1, d2] }
  | _ => none }
def FnBasinsAddUpWrongFalsely : Prop := fnBasinsAddUpRow.holds Try.pinned (OpenSpec.ofChange fnBasinsAddUpWrong)

/-- 'laws.FnPotentialNeverRises': WHATEVER THE INPUT: true; the input reads as it did. -/
def fnPotentialNeverRisesSpec : ChangeSpec := { name := "fnPotentialNeverRises", fn := fun _ => fun
  | [d1, d2] => { results := [.lit (.bool true)], args := [d1, d2] }
  | _ => none }
def fnPotentialNeverRisesRow : OpenClaim := { program := "ytilgpaanmadchaa", sum := "3ee3a1d1eee98d841a2fac6f1303ed5872811c9b125e5e6ffbd49886716d8ed7", func := "loop.example/g01114/laws.FnPotentialNeverRises", spec := "fnPotentialNeverRises", unfollowed := true, recurses := true, apart := false }
def FnPotentialNeverRisesSaid : Prop := fnPotentialNeverRisesRow.holds Try.pinned (OpenSpec.ofChange fnPotentialNeverRisesSpec)

/-- ITS FALSE NEIGHBOUR: 'it returns false'. Refute it at one input. -/
def fnPotentialNeverRisesWrong : ChangeSpec := { name := "fnPotentialNeverRises", fn := fun _ => fun
  | [d1, d2] => { results := [.lit (.bool false)], args := [d1, d2] }
  | _ => none }
def FnPotentialNeverRisesWrongFalsely : Prop := fnPotentialNeverRisesRow.holds Try.pinned (OpenSpec.ofChange fnPotentialNeverRisesWrong)

/-- 'laws.FnLeastMeansCyclic': WHATEVER THE INPUT: true; the input reads as it did. -/
def fnLeastMeansCyclicSpec : ChangeSpec := { name := "fnLeastMeansCyclic", fn := fun _ => fun
  | [d1, d2] => { results := [.lit (.bool true)], args := [d1, d2] }
  | _ => none }
def fnLeastMeansCyclicRow : OpenClaim := { program := "ytilgpaanmadchaa", sum := "3ee3a1d1eee98d841a2fac6f1303ed5872811c9b125e5e6ffbd49886716d8ed7", func := "loop.example/g01114/laws.FnLeastMeansCyclic", spec := "fnLeastMeansCyclic", unfollowed := true, recurses := true, apart := false }
def FnLeastMeansCyclicSaid : Prop := fnLeastMeansCyclicRow.holds Try.pinned (OpenSpec.ofChange fnLeastMeansCyclicSpec)

/-- ITS FALSE NEIGHBOUR: 'it returns false'. Refute it at one input. -/
def fnLeastMeansCyclicWrong : ChangeSpec := { name := "fnLeastMeansCyclic", fn := fun _ => fun
  | [d1, d2] => { results := [.lit (.bool false)], args := [d1, d2] }
  | _ => none }
def FnLeastMeansCyclicWrongFalsely : Prop := fnLeastMeansCyclicRow.holds Try.pinned (OpenSpec.ofChange fnLeastMeansCyclicWrong)

/-- 'laws.FnLevelsHoldCards': WHATEVER THE INPUT: true; the input reads as it did. -/
def fnLevelsHoldCardsSpec : ChangeSpec := { name := "fnLevelsHoldCards", fn := fun _ => fun
  | [d1, d2] => { results := [.lit (.bool true)], args := [d1, d2] }
  | _ => none }
def fnLevelsHoldCardsRow : OpenClaim := { program := "ytilgpaanmadchaa", sum := "3ee3a1d1eee98d841a2fac6f1303ed5872811c9b125e5e6ffbd49886716d8ed7", func := "loop.example/g01114/laws.FnLevelsHoldCards", spec := "fnLevelsHoldCards", unfollowed := true, recurses := true, apart := false }
def FnLevelsHoldCardsSaid : Prop := fnLevelsHoldCardsRow.holds Try.pinned (OpenSpec.ofChange fnLevelsHoldCardsSpec)

/-- ITS FALSE NEIGHBOUR: 'it returns false'. Refute it at one input. -/
def fnLevelsHoldCardsWrong : ChangeSpec := { name := "fnLevelsHoldCards", fn := fun _ => fun
  | [d1, d2] => { results := [.lit (.bool false)], args := [d1, d2] }
  | _ => none }
def FnLevelsHoldCardsWrongFalsely : Prop := fnLevelsHoldCardsRow.holds Try.pinned (OpenSpec.ofChange fnLevelsHoldCardsWrong)

/-- 'laws.FnNextDrops': WHATEVER THE INPUT: true; the input reads as it did. -/
def fnNextDropsSpec : ChangeSpec := { name := "fnNextDrops", fn := fun _ => fun
  | [d1, d2] => { results := [.lit (.bool true)], args := [d1, d2] }
  | _ => none }
def fnNextDropsRow : OpenClaim := { program := "ytilgpaanmadchaa", sum := "3ee3a1d1eee98d841a2fac6f1303ed5872811c9b125e5e6ffbd49886716d8ed7", func := "loop.example/g01114/laws.FnNextDrops", spec := "fnNextDrops", unfollowed := true, recurses := true, apart := false }
def FnNextDropsSaid : Prop := fnNextDropsRow.holds Try.pinned (OpenSpec.ofChange fnNextDropsSpec)

/-- ITS FALSE NEIGHBOUR: 'it returns false'. Refute it at one input. -/
def fnNextDropsWrong : ChangeSpec := { name := "fnNextDrops", fn := fun _ => fun
  | [d1, d2] => { results := [.lit (.bool false)], args := [d1, d2] }
  | _ => none }
def FnNextDropsWrongFalsely : Prop := fnNextDropsRow.holds Try.pinned (OpenSpec.ofChange fnNextDropsWrong)

/-- 'laws.FnCardsGoRound': WHATEVER THE INPUT: true; the input reads as it did. -/
def fnCardsGoRoundSpec : ChangeSpec := { name := "fnCardsGoRound", fn := fun _ => fun
  | [d1, d2] => { results := [.lit (.bool true)], args := [d1, d2] }
  | _ => none }
def fnCardsGoRoundRow : OpenClaim := { program := "ytilgpaanmadchaa", sum := "3ee3a1d1eee98d841a2fac6f1303ed5872811c9b125e5e6ffbd49886716d8ed7", func := "loop.example/g01114/laws.FnCardsGoRound", spec := "fnCardsGoRound", unfollowed := true, recurses := true, apart := false }
def FnCardsGoRoundSaid : Prop := fnCardsGoRoundRow.holds Try.pinned (OpenSpec.ofChange fnCardsGoRoundSpec)

/-- ITS FALSE NEIGHBOUR: 'it returns false'. Refute it at one input. -/
def fnCardsGoRoundWrong : ChangeSpec := { name := "fnCardsGoRound", fn := fun _ => fun
  | [d1, d2] => { results := [.lit (.bool false)], args := [d1, d2] }
  | _ => none }
def FnCardsGoRoundWrongFalsely : Prop := fnCardsGoRoundRow.holds Try.pinned (OpenSpec.ofChange fnCardsGoRoundWrong)

/-- 'laws.FnExactLevelsOf': WHATEVER THE INPUT: true; the input reads as it did. -/
def fnExactLevelsOfSpec : ChangeSpec := { name := "fnExactLevelsOf", fn := fun _ => fun
  | [d] => { results := [.lit (.bool true)], args := [d] }
  | _ => none }
def fnExactLevelsOfRow : OpenClaim := { program := "ytilgpaanmadchaa", sum := "3ee3a1d1eee98d841a2fac6f1303ed5872811c9b125e5e6ffbd49886716d8ed7", func := "loop.example/g01114/laws.FnExactLevelsOf", spec := "fnExactLevelsOf", apart := false }
def FnExactLevelsOfSaid : Prop := fnExactLevelsOfRow.holds Try.pinned (OpenSpec.ofChange fnExactLevelsOfSpec)

/-- ITS FALSE NEIGHBOUR: 'it returns false'. Refute it at one input. -/
def fnExactLevelsOfWrong : ChangeSpec := { name := "fnExactLevelsOf", fn := fun _ => fun
  | [d] => { results := [.lit (.bool false)], args := [d] }
  | _ => none }
def FnExactLevelsOfWrongFalsely : Prop := fnExactLevelsOfRow.holds Try.pinned (OpenSpec.ofChange fnExactLevelsOfWrong)

/-- 'laws.FnExactPotentialOf': WHATEVER THE INPUT: true; the input reads as it did. -/
def fnExactPotentialOfSpec : ChangeSpec := { name := "fnExactPotentialOf", fn := fun _ => fun
  | [d] => { results := [.lit (.bool true)], args := [d] }
  | _ => none }
def fnExactPotentialOfRow : OpenClaim := { program := "ytilgpaanmadchaa", sum := "3ee3a1d1eee98d841a2fac6f1303ed5872811c9b125e5e6ffbd49886716d8ed7", func := "loop.example/g01114/laws.FnExactPotentialOf", spec := "fnExactPotentialOf", apart := false }
def FnExactPotentialOfSaid : Prop := fnExactPotentialOfRow.holds Try.pinned (OpenSpec.ofChange fnExactPotentialOfSpec)

/-- ITS FALSE NEIGHBOUR: 'it returns false'. Refute it at one input. -/
def fnExactPotentialOfWrong : ChangeSpec := { name := "fnExactPotentialOf", fn := fun _ => fun
  | [d] => { results := [.lit (.bool false)], args := [d] }
  | _ => none }
def FnExactPotentialOfWrongFalsely : Prop := fnExactPotentialOfRow.holds Try.pinned (OpenSpec.ofChange fnExactPotentialOfWrong)

/-- 'laws.FnExactDropOf': WHATEVER THE INPUT: true; the input reads as it did. -/
def fnExactDropOfSpec : ChangeSpec := { name := "fnExactDropOf", fn := fun _ => fun
  | [d] => { results := [.lit (.bool true)], args := [d] }
  | _ => none }
def fnExactDropOfRow : OpenClaim := { program := "ytilgpaanmadchaa", sum := "3ee3a1d1eee98d841a2fac6f1303ed5872811c9b125e5e6ffbd49886716d8ed7", func := "loop.example/g01114/laws.FnExactDropOf", spec := "fnExactDropOf", apart := false }
def FnExactDropOfSaid : Prop := fnExactDropOfRow.holds Try.pinned (OpenSpec.ofChange fnExactDropOfSpec)

/-- ITS FALSE NEIGHBOUR: 'it returns false'. Refute it at one input. -/
def fnExactDropOfWrong : ChangeSpec := { name := "fnExactDropOf", fn := fun _ => fun
  | [d] => { results := [.lit (.bool false)], args := [d] }
  | _ => none }
def FnExactDropOfWrongFalsely : Prop := fnExactDropOfRow.holds Try.pinned (OpenSpec.ofChange fnExactDropOfWrong)

/-- 'laws.FnExactPotentialsOf': WHATEVER THE INPUT: true; the input reads as it did. -/
def fnExactPotentialsOfSpec : ChangeSpec := { name := "fnExactPotentialsOf", fn := fun _ => fun
  | [d1, d2] => { results := [.lit (.bool true)], args := [d1, d2] }
  | _ => none }
def fnExactPotentialsOfRow : OpenClaim := { program := "ytilgpaanmadchaa", sum := "3ee3a1d1eee98d841a2fac6f1303ed5872811c9b125e5e6ffbd49886716d8ed7", func := "loop.example/g01114/laws.FnExactPotentialsOf", spec := "fnExactPotentialsOf", unfollowed := true, recurses := true, apart := false }
def FnExactPotentialsOfSaid : Prop := fnExactPotentialsOfRow.holds Try.pinned (OpenSpec.ofChange fnExactPotentialsOfSpec)

/-- ITS FALSE NEIGHBOUR: 'it returns false'. Refute it at one input. -/
def fnExactPotentialsOfWrong : ChangeSpec := { name := "fnExactPotentialsOf", fn := fun _ => fun
  | [d1, d2] => { results := [.lit (.bool false)], args := [d1, d2] }
  | _ => none }
def FnExactPotentialsOfWrongFalsely : Prop := fnExactPotentialsOfRow.holds Try.pinned (OpenSpec.ofChange fnExactPotentialsOfWrong)

/-- 'laws.FnExactLeastPotential': WHATEVER THE INPUT: true; the input reads as it did. -/
def fnExactLeastPotentialSpec : ChangeSpec := { name := "fnExactLeastPotential", fn := fun _ => fun
  | [d] => { results := [.lit (.bool true)], args := [d] }
  | _ => none }
def fnExactLeastPotentialRow : OpenClaim := { program := "ytilgpaanmadchaa", sum := "3ee3a1d1eee98d841a2fac6f1303ed5872811c9b125e5e6ffbd49886716d8ed7", func := "loop.example/g01114/laws.FnExactLeastPotential", spec := "fnExactLeastPotential", apart := false }
def FnExactLeastPotentialSaid : Prop := fnExactLeastPotentialRow.holds Try.pinned (OpenSpec.ofChange fnExactLeastPotentialSpec)

/-- ITS FALSE NEIGHBOUR: 'it returns false'. Refute it at one input. -/
def fnExactLeastPotentialWrong : ChangeSpec := { name := "fnExactLeastPotential", fn := fun _ => fun
  | [d] => { results := [.lit (.bool false)], args := [d] }
  | _ => none }
def FnExactLeastPotentialWrongFalsely : Prop := fnExactLeastPotentialRow.holds Try.pinned (OpenSpec.ofChange fnExactLeastPotentialWrong)

/-- 'laws.FnExactGreatestPotential': WHATEVER THE INPUT: true; the input reads as it did. -/
def fnExactGreatestPotentialSpec : ChangeSpec := { name := "fnExactGreatestPotential", fn := fun _ => fun
  | [d] => { results := [.lit (.bool true)], args := [d] }
  | _ => none }
def fnExactGreatestPotentialRow : OpenClaim := { program := "ytilgpaanmadchaa", sum := "3ee3a1d1eee98d841a2fac6f1303ed5872811c9b125e5e6ffbd49886716d8ed7", func := "loop.example/g01114/laws.FnExactGreatestPotential", spec := "fnExactGreatestPotential", apart := false }
def FnExactGreatestPotentialSaid : Prop := fnExactGreatestPotentialRow.holds Try.pinned (OpenSpec.ofChange fnExactGreatestPotentialSpec)

/-- ITS FALSE NEIGHBOUR: 'it returns false'. Refute it at one input. -/
def fnExactGreatestPotentialWrong : ChangeSpec := { name := "fnExactGreatestPotential", fn := fun _ => fun
  | [d] => { results := [.lit (.bool false)], args := [d] }
  | _ => none }
def FnExactGreatestPotentialWrongFalsely : Prop := fnExactGreatestPotentialRow.holds Try.pinned (OpenSpec.ofChange fnExactGreatestPotentialWrong)

/-- 'laws.FnExactIsLeast': WHATEVER THE INPUT: true; the input reads as it did. -/
def fnExactIsLeastSpec : ChangeSpec := { name := "fnExactIsLeast", fn := fun _ => fun
  | [d] => { results := [.lit (.bool true)], args := [d] }
  | _ => none }
def fnExactIsLeastRow : OpenClaim := { program := "ytilgpaanmadchaa", sum := "3ee3a1d1eee98d841a2fac6f1303ed5872811c9b125e5e6ffbd49886716d8ed7", func := "loop.example/g01114/laws.FnExactIsLeast", spec := "fnExactIsLeast", apart := false }
def FnExactIsLeastSaid : Prop := fnExactIsLeastRow.holds Try.pinned (OpenSpec.ofChange fnExactIsLeastSpec)

/-- ITS FALSE NEIGHBOUR: 'it returns false'. Refute it at one input. -/
def fnExactIsLeastWrong : ChangeSpec := { name := "fnExactIsLeast", fn := fun _ => fun
  | [d] => { results := [.lit (.bool false)], args := [d] }
  | _ => none }
def FnExactIsLeastWrongFalsely : Prop := fnExactIsLeastRow.holds Try.pinned (OpenSpec.ofChange fnExactIsLeastWrong)

/-- 'laws.FnExactNextDrop': WHATEVER THE INPUT: true; the input reads as it did. -/
def fnExactNextDropSpec : ChangeSpec := { name := "fnExactNextDrop", fn := fun _ => fun
  | [d] => { results := [.lit (.bool true)], args := [d] }
  | _ => none }
def fnExactNextDropRow : OpenClaim := { program := "ytilgpaanmadchaa", sum := "3ee3a1d1eee98d841a2fac6f1303ed5872811c9b125e5e6ffbd49886716d8ed7", func := "loop.example/g01114/laws.FnExactNextDrop", spec := "fnExactNextDrop", unfollowed := true, recurses := true, apart := false }
def FnExactNextDropSaid : Prop := fnExactNextDropRow.holds Try.pinned (OpenSpec.ofChange fnExactNextDropSpec)

/-- ITS FALSE NEIGHBOUR: 'it returns false'. Refute it at one input. -/
def fnExactNextDropWrong : ChangeSpec := { name := "fnExactNextDrop", fn := fun _ => fun
  | [d] => { results := [.lit (.bool false)], args := [d] }
  | _ => none }
def FnExactNextDropWrongFalsely : Prop := fnExactNextDropRow.holds Try.pinned (OpenSpec.ofChange fnExactNextDropWrong)

/-- 'laws.FnExactCardBehind': WHATEVER THE INPUT: true; the input reads as it did. -/
def fnExactCardBehindSpec : ChangeSpec := { name := "fnExactCardBehind", fn := fun _ => fun
  | [d1, d2, d3] => { results := [.lit (.bool true)], args := [d1, d2, d3] }
  | _ => none }
def fnExactCardBehindRow : OpenClaim := { program := "ytilgpaanmadchaa", sum := "3ee3a1d1eee98d841a2fac6f1303ed5872811c9b125e5e6ffbd49886716d8ed7", func := "loop.example/g01114/laws.FnExactCardBehind", spec := "fnExactCardBehind", apart := false }
def FnExactCardBehindSaid : Prop := fnExactCardBehindRow.holds Try.pinned (OpenSpec.ofChange fnExactCardBehindSpec)

/-- ITS FALSE NEIGHBOUR: 'it returns false'. Refute it at one input. -/
def fnExactCardBehindWrong : ChangeSpec := { name := "fnExactCardBehind", fn := fun _ => fun
  | [d1, d2, d3] => { results := [.lit (.bool false)], args := [d1, d2, d3] }
  | _ => none }
def FnExactCardBehindWrongFalsely : Prop := fnExactCardBehindRow.holds Try.pinned (OpenSpec.ofChange fnExactCardBehindWrong)

/-- 'laws.FnExactRoundOf': WHATEVER THE INPUT: true; the input reads as it did. -/
def fnExactRoundOfSpec : ChangeSpec := { name := "fnExactRoundOf", fn := fun _ => fun
  | [d1, d2] => { results := [.lit (.bool true)], args := [d1, d2] }
  | _ => none }
def fnExactRoundOfRow : OpenClaim := { program := "ytilgpaanmadchaa", sum := "3ee3a1d1eee98d841a2fac6f1303ed5872811c9b125e5e6ffbd49886716d8ed7", func := "loop.example/g01114/laws.FnExactRoundOf", spec := "fnExactRoundOf", apart := false }
def FnExactRoundOfSaid : Prop := fnExactRoundOfRow.holds Try.pinned (OpenSpec.ofChange fnExactRoundOfSpec)

/-- ITS FALSE NEIGHBOUR: 'it returns false'. Refute it at one input. -/
def fnExactRoundOfWrong : ChangeSpec := { name := "fnExactRoundOf", fn := fun _ => fun
  | [d1, d2] => { results := [.lit (.bool false)], args := [d1, d2] }
  | _ => none }
def FnExactRoundOfWrongFalsely : Prop := fnExactRoundOfRow.holds Try.pinned (OpenSpec.ofChange fnExactRoundOfWrong)

/-- 'laws.FnExactHoleOf': WHATEVER THE INPUT: true; the input reads as it did. -/
def fnExactHoleOfSpec : ChangeSpec := { name := "fnExactHoleOf", fn := fun _ => fun
  | [d] => { results := [.lit (.bool true)], args := [d] }
  | _ => none }
def fnExactHoleOfRow : OpenClaim := { program := "ytilgpaanmadchaa", sum := "3ee3a1d1eee98d841a2fac6f1303ed5872811c9b125e5e6ffbd49886716d8ed7", func := "loop.example/g01114/laws.FnExactHoleOf", spec := "fnExactHoleOf", apart := false }
def FnExactHoleOfSaid : Prop := fnExactHoleOfRow.holds Try.pinned (OpenSpec.ofChange fnExactHoleOfSpec)

/-- ITS FALSE NEIGHBOUR: 'it returns false'. Refute it at one input. -/
def fnExactHoleOfWrong : ChangeSpec := { name := "fnExactHoleOf", fn := fun _ => fun
  | [d] => { results := [.lit (.bool false)], args := [d] }
  | _ => none }
def FnExactHoleOfWrongFalsely : Prop := fnExactHoleOfRow.holds Try.pinned (OpenSpec.ofChange fnExactHoleOfWrong)

/-- 'laws.FnExactSpillOf': WHATEVER THE INPUT: true; the input reads as it did. -/
def fnExactSpillOfSpec : ChangeSpec := { name := "fnExactSpillOf", fn := fun _ => fun
  | [d] => { results := [.lit (.bool true)], args := [d] }
  | _ => none }
def fnExactSpillOfRow : OpenClaim := { program := "ytilgpaanmadchaa", sum := "3ee3a1d1eee98d841a2fac6f1303ed5872811c9b125e5e6ffbd49886716d8ed7", func := "loop.example/g01114/laws.FnExactSpillOf", spec := "fnExactSpillOf", apart := false }
def FnExactSpillOfSaid : Prop := fnExactSpillOfRow.holds Try.pinned (OpenSpec.ofChange fnExactSpillOfSpec)

/-- ITS FALSE NEIGHBOUR: 'it returns false'. Refute it at one input. -/
def fnExactSpillOfWrong : ChangeSpec := { name := "fnExactSpillOf", fn := fun _ => fun
  | [d] => { results := [.lit (.bool false)], args := [d] }
  | _ => none }
def FnExactSpillOfWrongFalsely : Prop := fnExactSpillOfRow.holds Try.pinned (OpenSpec.ofChange fnExactSpillOfWrong)

/- THE SECOND FORM. 'bulk': how many values and letters a reading holds, each counted each time it is reached (what is shared counts as often as it is met; a slice's spare places count too). A statement '..UptoSaid' is the law's where the arguments, and the package variables that the reading takes, are together of bulk at most 1048576: NARROWER than '..Said'. Prove '..Said' where nothing that the law and all that it calls make is longer than what came in: it says more and counts as full. Else prove '..UptoSaid'. A law counts once. -/
mutual
def uptoBulk {H : Type} : DataW H → Nat
  | .lit (.string bytes) => bytes.length + 1
  | .lit _ => 1
  | .nil => 1
  | .ptr d => uptoBulk d + 1
  | .slice elems spare => uptoBulkAll elems + uptoBulkAll spare + 1
  | .agg parts => uptoBulkAll parts + 1
  | .iface _ d => uptoBulk d + 1
  | .map entries => uptoBulkEntries entries + 1
  | .held _ => 1
def uptoBulkAll {H : Type} : List (DataW H) → Nat
  | [] => 0
  | d :: r => uptoBulk d + uptoBulkAll r
def uptoBulkEntries {H : Type} : List (Lit × DataW H) → Nat
  | [] => 0
  | x :: r => uptoBulkEntry x + uptoBulkEntries r
def uptoBulkEntry {H : Type} : Lit × DataW H → Nat
  | (.string bytes, d) => bytes.length + uptoBulk d + 1
  | (_, d) => uptoBulk d + 1
 end
def uptoSmall : (H : Type) → List (DataW H) → Bool := fun _ ds => decide (uptoBulkAll ds ≤ 1048576)
def OpenSpec.upto (s : _root_.Go.ChangeSpec) : _root_.Go.OpenSpec := { _root_.Go.OpenSpec.ofChange s with cond := some uptoSmall }

/-- 'laws.FnBitsTurn', WHERE WHAT IT READS IS OF BULK AT MOST 1048576: true; the input reads as it did. -/
def fnBitsTurnUptoRow : OpenClaim := { program := "ytilgpaanmadchaa", sum := "3ee3a1d1eee98d841a2fac6f1303ed5872811c9b125e5e6ffbd49886716d8ed7", func := "loop.example/g01114/laws.FnBitsTurn", spec := "fnBitsTurn", unfollowed := true, recurses := true, apart := false, narrowed := true }
def FnBitsTurnUptoSaid : Prop := fnBitsTurnUptoRow.holds Try.pinned (OpenSpec.upto fnBitsTurnSpec)

/-- 'laws.FnCyclesAreNecklaces', WHERE WHAT IT READS IS OF BULK AT MOST 1048576: true; the input reads as it did. -/
def fnCyclesAreNecklacesUptoRow : OpenClaim := { program := "ytilgpaanmadchaa", sum := "3ee3a1d1eee98d841a2fac6f1303ed5872811c9b125e5e6ffbd49886716d8ed7", func := "loop.example/g01114/laws.FnCyclesAreNecklaces", spec := "fnCyclesAreNecklaces", unfollowed := true, recurses := true, apart := false, narrowed := true }
def FnCyclesAreNecklacesUptoSaid : Prop := fnCyclesAreNecklacesUptoRow.holds Try.pinned (OpenSpec.upto fnCyclesAreNecklacesSpec)

/-- 'laws.FnBasinsAddUp', WHERE WHAT IT READS IS OF BULK AT MOST 1048576: true; the input reads as it did. -/
def fnBasinsAddUpUptoRow : OpenClaim := { program := "ytilgpaanmadchaa", sum := "3ee3a1d1eee98d841a2fac6f1303ed5872811c9b125e5e6ffbd49886716d8ed7", func := "loop.example/g01114/laws.FnBasinsAddUp", spec := "fnBasinsAddUp", unfollowed := true, recurses := true, apart := false, narrowed := true }
def FnBasinsAddUpUptoSaid : Prop := fnBasinsAddUpUptoRow.holds Try.pinned (OpenSpec.upto fnBasinsAddUpSpec)

/-- 'laws.FnPotentialNeverRises', WHERE WHAT IT READS IS OF BULK AT MOST 1048576: true; the input reads as it did. -/
def fnPotentialNeverRisesUptoRow : OpenClaim := { program := "ytilgpaanmadchaa", sum := "3ee3a1d1eee98d841a2fac6f1303ed5872811c9b125e5e6ffbd49886716d8ed7", func := "loop.example/g01114/laws.FnPotentialNeverRises", spec := "fnPotentialNeverRises", unfollowed := true, recurses := true, apart := false, narrowed := true }
def FnPotentialNeverRisesUptoSaid : Prop := fnPotentialNeverRisesUptoRow.holds Try.pinned (OpenSpec.upto fnPotentialNeverRisesSpec)

/-- 'laws.FnLeastMeansCyclic', WHERE WHAT IT READS IS OF BULK AT MOST 1048576: true; the input reads as it did. -/
def fnLeastMeansCyclicUptoRow : OpenClaim := { program := "ytilgpaanmadchaa", sum := "3ee3a1d1eee98d841a2fac6f1303ed5872811c9b125e5e6ffbd49886716d8ed7", func := "loop.example/g01114/laws.FnLeastMeansCyclic", spec := "fnLeastMeansCyclic", unfollowed := true, recurses := true, apart := false, narrowed := true }
def FnLeastMeansCyclicUptoSaid : Prop := fnLeastMeansCyclicUptoRow.holds Try.pinned (OpenSpec.upto fnLeastMeansCyclicSpec)

/-- 'laws.FnLevelsHoldCards', WHERE WHAT IT READS IS OF BULK AT MOST 1048576: true; the input reads as it did. -/
def fnLevelsHoldCardsUptoRow : OpenClaim := { program := "ytilgpaanmadchaa", sum := "3ee3a1d1eee98d841a2fac6f1303ed5872811c9b125e5e6ffbd49886716d8ed7", func := "loop.example/g01114/laws.FnLevelsHoldCards", spec := "fnLevelsHoldCards", unfollowed := true, recurses := true, apart := false, narrowed := true }
def FnLevelsHoldCardsUptoSaid : Prop := fnLevelsHoldCardsUptoRow.holds Try.pinned (OpenSpec.upto fnLevelsHoldCardsSpec)

/-- 'laws.FnNextDrops', WHERE WHAT IT READS IS OF BULK AT MOST 1048576: true; the input reads as it did. -/
def fnNextDropsUptoRow : OpenClaim := { program := "ytilgpaanmadchaa", sum := "3ee3a1d1eee98d841a2fac6f1303ed5872811c9b125e5e6ffbd49886716d8ed7", func := "loop.example/g01114/laws.FnNextDrops", spec := "fnNextDrops", unfollowed := true, recurses := true, apart := false, narrowed := true }
def FnNextDropsUptoSaid : Prop := fnNextDropsUptoRow.holds Try.pinned (OpenSpec.upto fnNextDropsSpec)

/-- 'laws.FnCardsGoRound', WHERE WHAT IT READS IS OF BULK AT MOST 1048576: true; the input reads as it did. -/
def fnCardsGoRoundUptoRow : OpenClaim := { program := "ytilgpaanmadchaa", sum := "3ee3a1d1eee98d841a2fac6f1303ed5872811c9b125e5e6ffbd49886716d8ed7", func := "loop.example/g01114/laws.FnCardsGoRound", spec := "fnCardsGoRound", unfollowed := true, recurses := true, apart := false, narrowed := true }
def FnCardsGoRoundUptoSaid : Prop := fnCardsGoRoundUptoRow.holds Try.pinned (OpenSpec.upto fnCardsGoRoundSpec)

/-- 'laws.FnExactLevelsOf', WHERE WHAT IT READS IS OF BULK AT MOST 1048576: true; the input reads as it did. -/
def fnExactLevelsOfUptoRow : OpenClaim := { program := "ytilgpaanmadchaa", sum := "3ee3a1d1eee98d841a2fac6f1303ed5872811c9b125e5e6ffbd49886716d8ed7", func := "loop.example/g01114/laws.FnExactLevelsOf", spec := "fnExactLevelsOf", apart := false, narrowed := true }
def FnExactLevelsOfUptoSaid : Prop := fnExactLevelsOfUptoRow.holds Try.pinned (OpenSpec.upto fnExactLevelsOfSpec)

/-- 'laws.FnExactPotentialOf', WHERE WHAT IT READS IS OF BULK AT MOST 1048576: true; the input reads as it did. -/
def fnExactPotentialOfUptoRow : OpenClaim := { program := "ytilgpaanmadchaa", sum := "3ee3a1d1eee98d841a2fac6f1303ed5872811c9b125e5e6ffbd49886716d8ed7", func := "loop.example/g01114/laws.FnExactPotentialOf", spec := "fnExactPotentialOf", apart := false, narrowed := true }
def FnExactPotentialOfUptoSaid : Prop := fnExactPotentialOfUptoRow.holds Try.pinned (OpenSpec.upto fnExactPotentialOfSpec)

/-- 'laws.FnExactDropOf', WHERE WHAT IT READS IS OF BULK AT MOST 1048576: true; the input reads as it did. -/
def fnExactDropOfUptoRow : OpenClaim := { program := "ytilgpaanmadchaa", sum := "3ee3a1d1eee98d841a2fac6f1303ed5872811c9b125e5e6ffbd49886716d8ed7", func := "loop.example/g01114/laws.FnExactDropOf", spec := "fnExactDropOf", apart := false, narrowed := true }
def FnExactDropOfUptoSaid : Prop := fnExactDropOfUptoRow.holds Try.pinned (OpenSpec.upto fnExactDropOfSpec)

/-- 'laws.FnExactPotentialsOf', WHERE WHAT IT READS IS OF BULK AT MOST 1048576: true; the input reads as it did. -/
def fnExactPotentialsOfUptoRow : OpenClaim := { program := "ytilgpaanmadchaa", sum := "3ee3a1d1eee98d841a2fac6f1303ed5872811c9b125e5e6ffbd49886716d8ed7", func := "loop.example/g01114/laws.FnExactPotentialsOf", spec := "fnExactPotentialsOf", unfollowed := true, recurses := true, apart := false, narrowed := true }
def FnExactPotentialsOfUptoSaid : Prop := fnExactPotentialsOfUptoRow.holds Try.pinned (OpenSpec.upto fnExactPotentialsOfSpec)

/-- 'laws.FnExactLeastPotential', WHERE WHAT IT READS IS OF BULK AT MOST 1048576: true; the input reads as it did. -/
def fnExactLeastPotentialUptoRow : OpenClaim := { program := "ytilgpaanmadchaa", sum := "3ee3a1d1eee98d841a2fac6f1303ed5872811c9b125e5e6ffbd49886716d8ed7", func := "loop.example/g01114/laws.FnExactLeastPotential", spec := "fnExactLeastPotential", apart := false, narrowed := true }
def FnExactLeastPotentialUptoSaid : Prop := fnExactLeastPotentialUptoRow.holds Try.pinned (OpenSpec.upto fnExactLeastPotentialSpec)

/-- 'laws.FnExactGreatestPotential', WHERE WHAT IT READS IS OF BULK AT MOST 1048576: true; the input reads as it did. -/
def fnExactGreatestPotentialUptoRow : OpenClaim := { program := "ytilgpaanmadchaa", sum := "3ee3a1d1eee98d841a2fac6f1303ed5872811c9b125e5e6ffbd49886716d8ed7", func := "loop.example/g01114/laws.FnExactGreatestPotential", spec := "fnExactGreatestPotential", apart := false, narrowed := true }
def FnExactGreatestPotentialUptoSaid : Prop := fnExactGreatestPotentialUptoRow.holds Try.pinned (OpenSpec.upto fnExactGreatestPotentialSpec)

/-- 'laws.FnExactIsLeast', WHERE WHAT IT READS IS OF BULK AT MOST 1048576: true; the input reads as it did. -/
def fnExactIsLeastUptoRow : OpenClaim := { program := "ytilgpaanmadchaa", sum := "3ee3a1d1eee98d841a2fac6f1303ed5872811c9b125e5e6ffbd49886716d8ed7", func := "loop.example/g01114/laws.FnExactIsLeast", spec := "fnExactIsLeast", apart := false, narrowed := true }
def FnExactIsLeastUptoSaid : Prop := fnExactIsLeastUptoRow.holds Try.pinned (OpenSpec.upto fnExactIsLeastSpec)

/-- 'laws.FnExactNextDrop', WHERE WHAT IT READS IS OF BULK AT MOST 1048576: true; the input reads as it did. -/
def fnExactNextDropUptoRow : OpenClaim := { program := "ytilgpaanmadchaa", sum := "3ee3a1d1eee98d841a2fac6f1303ed5872811c9b125e5e6ffbd49886716d8ed7", func := "loop.example/g01114/laws.FnExactNextDrop", spec := "fnExactNextDrop", unfollowed := true, recurses := true, apart := false, narrowed := true }
def FnExactNextDropUptoSaid : Prop := fnExactNextDropUptoRow.holds Try.pinned (OpenSpec.upto fnExactNextDropSpec)

/-- 'laws.FnExactCardBehind', WHERE WHAT IT READS IS OF BULK AT MOST 1048576: true; the input reads as it did. -/
def fnExactCardBehindUptoRow : OpenClaim := { program := "ytilgpaanmadchaa", sum := "3ee3a1d1eee98d841a2fac6f1303ed5872811c9b125e5e6ffbd49886716d8ed7", func := "loop.example/g01114/laws.FnExactCardBehind", spec := "fnExactCardBehind", apart := false, narrowed := true }
def FnExactCardBehindUptoSaid : Prop := fnExactCardBehindUptoRow.holds Try.pinned (OpenSpec.upto fnExactCardBehindSpec)

/-- 'laws.FnExactRoundOf', WHERE WHAT IT READS IS OF BULK AT MOST 1048576: true; the input reads as it did. -/
def fnExactRoundOfUptoRow : OpenClaim := { program := "ytilgpaanmadchaa", sum := "3ee3a1d1eee98d841a2fac6f1303ed5872811c9b125e5e6ffbd49886716d8ed7", func := "loop.example/g01114/laws.FnExactRoundOf", spec := "fnExactRoundOf", apart := false, narrowed := true }
def FnExactRoundOfUptoSaid : Prop := fnExactRoundOfUptoRow.holds Try.pinned (OpenSpec.upto fnExactRoundOfSpec)

/-- 'laws.FnExactHoleOf', WHERE WHAT IT READS IS OF BULK AT MOST 1048576: true; the input reads as it did. -/
def fnExactHoleOfUptoRow : OpenClaim := { program := "ytilgpaanmadchaa", sum := "3ee3a1d1eee98d841a2fac6f1303ed5872811c9b125e5e6ffbd49886716d8ed7", func := "loop.example/g01114/laws.FnExactHoleOf", spec := "fnExactHoleOf", apart := false, narrowed := true }
def FnExactHoleOfUptoSaid : Prop := fnExactHoleOfUptoRow.holds Try.pinned (OpenSpec.upto fnExactHoleOfSpec)

/-- 'laws.FnExactSpillOf', WHERE WHAT IT READS IS OF BULK AT MOST 1048576: true; the input reads as it did. -/
def fnExactSpillOfUptoRow : OpenClaim := { program := "ytilgpaanmadchaa", sum := "3ee3a1d1eee98d841a2fac6f1303ed5872811c9b125e5e6ffbd49886716d8ed7", func := "loop.example/g01114/laws.FnExactSpillOf", spec := "fnExactSpillOf", apart := false, narrowed := true }
def FnExactSpillOfUptoSaid : Prop := fnExactSpillOfUptoRow.holds Try.pinned (OpenSpec.upto fnExactSpillOfSpec)

end Rows
end Go.Proofs.Ytilgpaanmadchaa
