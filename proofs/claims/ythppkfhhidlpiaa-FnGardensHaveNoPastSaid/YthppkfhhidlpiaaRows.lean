/-
  No cell of these rows narrows 'for every input' (looked for: loops, veiled, ifaces, maps, wideKeys, modest, calm, conditions, laid).
  DERIVED. THE GIVEN ROWS OF THIS SEAT. 23 by the template 'for every input the law returns true; each argument reads behind the call as it read before'; 0 by the template 'total and deterministic' (their statements: YthppkfhhidlpiaaTotals.lean).
  GIVEN WITH THE SEED: the statements are not yours to turn. If you find one false, say at which input.
  Laid BY PROGRAM, IN A SANDBOX (cutbox-rows.mjs): the forced cells as the released guide's own fill.sh prints them over the translation 33e3670b03505761… (all of the seat's roots in one cut). By AI agents, Wed Nov 11 2026. No macro, syntax, notation, axiom, sorry.
-/
import Derived.Test.YthppkfhhidlpiaaChecked
import GoSem.Claim
import GoSem.ClaimJoined
import GoSem.ClaimMapViews
import Derived.JoinedTies
import Derived.KernelRfl
namespace Go.Proofs.Ythppkfhhidlpiaa
/- THE CELL 'sum', in the pinned program and in every row, IS THE sha256 OF THE DUMP (.gsa) THAT YthppkfhhidlpiaaProg.lean LOADS. Nothing in Lean hashes anything: it is a label: what it is worth is what the hold of that sum in a sandbox is worth. -/
noncomputable def Try.pinned : Pinned := { name := "ythppkfhhidlpiaa", sum := "33e3670b035057617890b085bb0af5f53e42044c5cd9c26fc7c121f2c2d20b20", checked := Try.checked }
namespace Rows
def none {H : Type} : Left H := { results := [], args := [] }

/-- 'laws.FnPlaysEndInCycles': WHATEVER THE INPUT: true; the input reads as it did. -/
def fnPlaysEndInCyclesSpec : ChangeSpec := { name := "fnPlaysEndInCycles", fn := fun _ => fun
  | [d1, d2] => { results := [.lit (.bool true)], args := [d1, d2] }
  | _ => none }
def fnPlaysEndInCyclesRow : OpenClaim := { program := "ythppkfhhidlpiaa", sum := "33e3670b035057617890b085bb0af5f53e42044c5cd9c26fc7c121f2c2d20b20", func := "loop.example/g01114/laws.FnPlaysEndInCycles", spec := "fnPlaysEndInCycles", unfollowed := true, recurses := true, apart := false }
def FnPlaysEndInCyclesSaid : Prop := fnPlaysEndInCyclesRow.holds Try.pinned (OpenSpec.ofChange fnPlaysEndInCyclesSpec)

/-- ITS FALSE NEIGHBOUR: 'it returns false'. Refute it at one input. -/
def fnPlaysEndInCyclesWrong : ChangeSpec := { name := "fnPlaysEndInCycles", fn := fun _ => fun
  | [d1, d2] => { results := [.lit (.bool false)], args := [d1, d2] }
  | _ => none }
def FnPlaysEndInCyclesWrongFalsely : Prop := fnPlaysEndInCyclesRow.holds Try.pinned (OpenSpec.ofChange fnPlaysEndInCyclesWrong)

/-- 'laws.FnBitsTurn': WHATEVER THE INPUT: true; the input reads as it did. -/
def fnBitsTurnSpec : ChangeSpec := { name := "fnBitsTurn", fn := fun _ => fun
  | [d1, d2] => { results := [.lit (.bool true)], args := [d1, d2] }
  | _ => none }
def fnBitsTurnRow : OpenClaim := { program := "ythppkfhhidlpiaa", sum := "33e3670b035057617890b085bb0af5f53e42044c5cd9c26fc7c121f2c2d20b20", func := "loop.example/g01114/laws.FnBitsTurn", spec := "fnBitsTurn", unfollowed := true, recurses := true, apart := false }
def FnBitsTurnSaid : Prop := fnBitsTurnRow.holds Try.pinned (OpenSpec.ofChange fnBitsTurnSpec)

/-- ITS FALSE NEIGHBOUR: 'it returns false'. Refute it at one input. -/
def fnBitsTurnWrong : ChangeSpec := { name := "fnBitsTurn", fn := fun _ => fun
  | [d1, d2] => { results := [.lit (.bool false)], args := [d1, d2] }
  | _ => none }
def FnBitsTurnWrongFalsely : Prop := fnBitsTurnRow.holds Try.pinned (OpenSpec.ofChange fnBitsTurnWrong)

/-- 'laws.FnCyclesAreNecklaces': WHATEVER THE INPUT: true; the input reads as it did. -/
def fnCyclesAreNecklacesSpec : ChangeSpec := { name := "fnCyclesAreNecklaces", fn := fun _ => fun
  | [d1, d2] => { results := [.lit (.bool true)], args := [d1, d2] }
  | _ => none }
def fnCyclesAreNecklacesRow : OpenClaim := { program := "ythppkfhhidlpiaa", sum := "33e3670b035057617890b085bb0af5f53e42044c5cd9c26fc7c121f2c2d20b20", func := "loop.example/g01114/laws.FnCyclesAreNecklaces", spec := "fnCyclesAreNecklaces", unfollowed := true, recurses := true, apart := false }
def FnCyclesAreNecklacesSaid : Prop := fnCyclesAreNecklacesRow.holds Try.pinned (OpenSpec.ofChange fnCyclesAreNecklacesSpec)

/-- ITS FALSE NEIGHBOUR: 'it returns false'. Refute it at one input. -/
def fnCyclesAreNecklacesWrong : ChangeSpec := { name := "fnCyclesAreNecklaces", fn := fun _ => fun
  | [d1, d2] => { results := [.lit (.bool false)], args := [d1, d2] }
  | _ => none }
def FnCyclesAreNecklacesWrongFalsely : Prop := fnCyclesAreNecklacesRow.holds Try.pinned (OpenSpec.ofChange fnCyclesAreNecklacesWrong)

/-- 'laws.FnPlaysMeet': WHATEVER THE INPUT: true; the input reads as it did. -/
def fnPlaysMeetSpec : ChangeSpec := { name := "fnPlaysMeet", fn := fun _ => fun
  | [d1, d2] => { results := [.lit (.bool true)], args := [d1, d2] }
  | _ => none }
def fnPlaysMeetRow : OpenClaim := { program := "ythppkfhhidlpiaa", sum := "33e3670b035057617890b085bb0af5f53e42044c5cd9c26fc7c121f2c2d20b20", func := "loop.example/g01114/laws.FnPlaysMeet", spec := "fnPlaysMeet", unfollowed := true, recurses := true, apart := false }
def FnPlaysMeetSaid : Prop := fnPlaysMeetRow.holds Try.pinned (OpenSpec.ofChange fnPlaysMeetSpec)

/-- ITS FALSE NEIGHBOUR: 'it returns false'. Refute it at one input. -/
def fnPlaysMeetWrong : ChangeSpec := { name := "fnPlaysMeet", fn := fun _ => fun
  | [d1, d2] => { results := [.lit (.bool false)], args := [d1, d2] }
  | _ => none }
def FnPlaysMeetWrongFalsely : Prop := fnPlaysMeetRow.holds Try.pinned (OpenSpec.ofChange fnPlaysMeetWrong)

/-- 'laws.FnBasinsAddUp': WHATEVER THE INPUT: true; the input reads as it did. -/
def fnBasinsAddUpSpec : ChangeSpec := { name := "fnBasinsAddUp", fn := fun _ => fun
  | [d1, d2] => { results := [.lit (.bool true)], args := [d1, d2] }
  | _ => none }
def fnBasinsAddUpRow : OpenClaim := { program := "ythppkfhhidlpiaa", sum := "33e3670b035057617890b085bb0af5f53e42044c5cd9c26fc7c121f2c2d20b20", func := "loop.example/g01114/laws.FnBasinsAddUp", spec := "fnBasinsAddUp", unfollowed := true, recurses := true, apart := false }
def FnBasinsAddUpSaid : Prop := fnBasinsAddUpRow.holds Try.pinned (OpenSpec.ofChange fnBasinsAddUpSpec)

/-- ITS FALSE NEIGHBOUR: 'it returns false'. Refute it at one input. -/
def fnBasinsAddUpWrong : ChangeSpec := { name := "fnBasinsAddUp", fn := fun _ => fun
  | [d1, d2] => { results := [.lit (.bool false)], args := [d1, d2] }
  | _ => none }
def FnBasinsAddUpWrongFalsely : Prop := fnBasinsAddUpRow.holds Try.pinned (OpenSpec.ofChange fnBasinsAddUpWrong)

/-- 'laws.FnExactTailOf': WHATEVER THE INPUT: true; the input reads as it did. -/
def fnExactTailOfSpec : ChangeSpec := { name := "fnExactTailOf", fn := fun _ => fun
  | [d] => { results := [.lit (.bool true)], args := [d] }
  | _ => none }
def fnExactTailOfRow : OpenClaim := { program := "ythppkfhhidlpiaa", sum := "33e3670b035057617890b085bb0af5f53e42044c5cd9c26fc7c121f2c2d20b20", func := "loop.example/g01114/laws.FnExactTailOf", spec := "fnExactTailOf", unfollowed := true, recurses := true, apart := false }
def FnExactTailOfSaid : Prop := fnExactTailOfRow.holds Try.pinned (OpenSpec.ofChange fnExactTailOfSpec)

/-- ITS FALSE NEIGHBOUR: 'it returns false'. Refute it at one input. -/
def fnExactTailOfWrong : ChangeSpec := { name := "fnExactTailOf", fn := fun _ => fun
  | [d] => { results := [.lit (.bool false)], args := [d] }
  | _ => none }
def FnExactTailOfWrongFalsely : Prop := fnExactTailOfRow.holds Try.pinned (OpenSpec.ofChange fnExactTailOfWrong)

/-- 'laws.FnExactCycleOf': WHATEVER THE INPUT: true; the input reads as it did. -/
def fnExactCycleOfSpec : ChangeSpec := { name := "fnExactCycleOf", fn := fun _ => fun
  | [d] => { results := [.lit (.bool true)], args := [d] }
  | _ => none }
def fnExactCycleOfRow : OpenClaim := { program := "ythppkfhhidlpiaa", sum := "33e3670b035057617890b085bb0af5f53e42044c5cd9c26fc7c121f2c2d20b20", func := "loop.example/g01114/laws.FnExactCycleOf", spec := "fnExactCycleOf", unfollowed := true, recurses := true, apart := false }
def FnExactCycleOfSaid : Prop := fnExactCycleOfRow.holds Try.pinned (OpenSpec.ofChange fnExactCycleOfSpec)

/-- ITS FALSE NEIGHBOUR: 'it returns false'. Refute it at one input. -/
def fnExactCycleOfWrong : ChangeSpec := { name := "fnExactCycleOf", fn := fun _ => fun
  | [d] => { results := [.lit (.bool false)], args := [d] }
  | _ => none }
def FnExactCycleOfWrongFalsely : Prop := fnExactCycleOfRow.holds Try.pinned (OpenSpec.ofChange fnExactCycleOfWrong)

/-- 'laws.FnExactCycleLength': WHATEVER THE INPUT: true; the input reads as it did. -/
def fnExactCycleLengthSpec : ChangeSpec := { name := "fnExactCycleLength", fn := fun _ => fun
  | [d] => { results := [.lit (.bool true)], args := [d] }
  | _ => none }
def fnExactCycleLengthRow : OpenClaim := { program := "ythppkfhhidlpiaa", sum := "33e3670b035057617890b085bb0af5f53e42044c5cd9c26fc7c121f2c2d20b20", func := "loop.example/g01114/laws.FnExactCycleLength", spec := "fnExactCycleLength", unfollowed := true, recurses := true, apart := false }
def FnExactCycleLengthSaid : Prop := fnExactCycleLengthRow.holds Try.pinned (OpenSpec.ofChange fnExactCycleLengthSpec)

/-- ITS FALSE NEIGHBOUR: 'it returns false'. Refute it at one input. -/
def fnExactCycleLengthWrong : ChangeSpec := { name := "fnExactCycleLength", fn := fun _ => fun
  | [d] => { results := [.lit (.bool false)], args := [d] }
  | _ => none }
def FnExactCycleLengthWrongFalsely : Prop := fnExactCycleLengthRow.holds Try.pinned (OpenSpec.ofChange fnExactCycleLengthWrong)

/-- 'laws.FnExactIsCyclic': WHATEVER THE INPUT: true; the input reads as it did. -/
def fnExactIsCyclicSpec : ChangeSpec := { name := "fnExactIsCyclic", fn := fun _ => fun
  | [d] => { results := [.lit (.bool true)], args := [d] }
  | _ => none }
def fnExactIsCyclicRow : OpenClaim := { program := "ythppkfhhidlpiaa", sum := "33e3670b035057617890b085bb0af5f53e42044c5cd9c26fc7c121f2c2d20b20", func := "loop.example/g01114/laws.FnExactIsCyclic", spec := "fnExactIsCyclic", unfollowed := true, recurses := true, apart := false }
def FnExactIsCyclicSaid : Prop := fnExactIsCyclicRow.holds Try.pinned (OpenSpec.ofChange fnExactIsCyclicSpec)

/-- ITS FALSE NEIGHBOUR: 'it returns false'. Refute it at one input. -/
def fnExactIsCyclicWrong : ChangeSpec := { name := "fnExactIsCyclic", fn := fun _ => fun
  | [d] => { results := [.lit (.bool false)], args := [d] }
  | _ => none }
def FnExactIsCyclicWrongFalsely : Prop := fnExactIsCyclicRow.holds Try.pinned (OpenSpec.ofChange fnExactIsCyclicWrong)

/-- 'laws.FnExactBitsOf': WHATEVER THE INPUT: true; the input reads as it did. -/
def fnExactBitsOfSpec : ChangeSpec := { name := "fnExactBitsOf", fn := fun _ => fun
  | [d] => { results := [.lit (.bool true)], args := [d] }
  | _ => none }
def fnExactBitsOfRow : OpenClaim := { program := "ythppkfhhidlpiaa", sum := "33e3670b035057617890b085bb0af5f53e42044c5cd9c26fc7c121f2c2d20b20", func := "loop.example/g01114/laws.FnExactBitsOf", spec := "fnExactBitsOf", apart := false }
def FnExactBitsOfSaid : Prop := fnExactBitsOfRow.holds Try.pinned (OpenSpec.ofChange fnExactBitsOfSpec)

/-- ITS FALSE NEIGHBOUR: 'it returns false'. Refute it at one input. -/
def fnExactBitsOfWrong : ChangeSpec := { name := "fnExactBitsOf", fn := fun _ => fun
  | [d] => { results := [.lit (.bool false)], args := [d] }
  | _ => none }
def FnExactBitsOfWrongFalsely : Prop := fnExactBitsOfRow.holds Try.pinned (OpenSpec.ofChange fnExactBitsOfWrong)

/-- 'laws.FnExactFromBits': WHATEVER THE INPUT: true; the input reads as it did. -/
def fnExactFromBitsSpec : ChangeSpec := { name := "fnExactFromBits", fn := fun _ => fun
  | [d] => { results := [.lit (.bool true)], args := [d] }
  | _ => none }
def fnExactFromBitsRow : OpenClaim := { program := "ythppkfhhidlpiaa", sum := "33e3670b035057617890b085bb0af5f53e42044c5cd9c26fc7c121f2c2d20b20", func := "loop.example/g01114/laws.FnExactFromBits", spec := "fnExactFromBits", apart := false }
def FnExactFromBitsSaid : Prop := fnExactFromBitsRow.holds Try.pinned (OpenSpec.ofChange fnExactFromBitsSpec)

/-- ITS FALSE NEIGHBOUR: 'it returns false'. Refute it at one input. -/
def fnExactFromBitsWrong : ChangeSpec := { name := "fnExactFromBits", fn := fun _ => fun
  | [d] => { results := [.lit (.bool false)], args := [d] }
  | _ => none }
def FnExactFromBitsWrongFalsely : Prop := fnExactFromBitsRow.holds Try.pinned (OpenSpec.ofChange fnExactFromBitsWrong)

/-- 'laws.FnExactTurnBits': WHATEVER THE INPUT: true; the input reads as it did. -/
def fnExactTurnBitsSpec : ChangeSpec := { name := "fnExactTurnBits", fn := fun _ => fun
  | [d1, d2] => { results := [.lit (.bool true)], args := [d1, d2] }
  | _ => none }
def fnExactTurnBitsRow : OpenClaim := { program := "ythppkfhhidlpiaa", sum := "33e3670b035057617890b085bb0af5f53e42044c5cd9c26fc7c121f2c2d20b20", func := "loop.example/g01114/laws.FnExactTurnBits", spec := "fnExactTurnBits", apart := false }
def FnExactTurnBitsSaid : Prop := fnExactTurnBitsRow.holds Try.pinned (OpenSpec.ofChange fnExactTurnBitsSpec)

/-- ITS FALSE NEIGHBOUR: 'it returns false'. Refute it at one input. -/
def fnExactTurnBitsWrong : ChangeSpec := { name := "fnExactTurnBits", fn := fun _ => fun
  | [d1, d2] => { results := [.lit (.bool false)], args := [d1, d2] }
  | _ => none }
def FnExactTurnBitsWrongFalsely : Prop := fnExactTurnBitsRow.holds Try.pinned (OpenSpec.ofChange fnExactTurnBitsWrong)

/-- 'laws.FnExactCyclicPiles': WHATEVER THE INPUT: true; the input reads as it did. -/
def fnExactCyclicPilesSpec : ChangeSpec := { name := "fnExactCyclicPiles", fn := fun _ => fun
  | [d] => { results := [.lit (.bool true)], args := [d] }
  | _ => none }
def fnExactCyclicPilesRow : OpenClaim := { program := "ythppkfhhidlpiaa", sum := "33e3670b035057617890b085bb0af5f53e42044c5cd9c26fc7c121f2c2d20b20", func := "loop.example/g01114/laws.FnExactCyclicPiles", spec := "fnExactCyclicPiles", recurses := true, apart := false }
def FnExactCyclicPilesSaid : Prop := fnExactCyclicPilesRow.holds Try.pinned (OpenSpec.ofChange fnExactCyclicPilesSpec)

/-- ITS FALSE NEIGHBOUR: 'it returns false'. Refute it at one input. -/
def fnExactCyclicPilesWrong : ChangeSpec := { name := "fnExactCyclicPiles", fn := fun _ => fun
  | [d] => { results := [.lit (.bool false)], args := [d] }
  | _ => none }
def FnExactCyclicPilesWrongFalsely : Prop := fnExactCyclicPilesRow.holds Try.pinned (OpenSpec.ofChange fnExactCyclicPilesWrong)

/-- 'laws.FnExactCountCycles': WHATEVER THE INPUT: true; the input reads as it did. -/
def fnExactCountCyclesSpec : ChangeSpec := { name := "fnExactCountCycles", fn := fun _ => fun
  | [d] => { results := [.lit (.bool true)], args := [d] }
  | _ => none }
def fnExactCountCyclesRow : OpenClaim := { program := "ythppkfhhidlpiaa", sum := "33e3670b035057617890b085bb0af5f53e42044c5cd9c26fc7c121f2c2d20b20", func := "loop.example/g01114/laws.FnExactCountCycles", spec := "fnExactCountCycles", recurses := true, apart := false }
def FnExactCountCyclesSaid : Prop := fnExactCountCyclesRow.holds Try.pinned (OpenSpec.ofChange fnExactCountCyclesSpec)

/-- ITS FALSE NEIGHBOUR: 'it returns false'. Refute it at one input. -/
def fnExactCountCyclesWrong : ChangeSpec := { name := "fnExactCountCycles", fn := fun _ => fun
  | [d] => { results := [.lit (.bool false)], args := [d] }
  | _ => none }
def FnExactCountCyclesWrongFalsely : Prop := fnExactCountCyclesRow.holds Try.pinned (OpenSpec.ofChange fnExactCountCyclesWrong)

/-- 'laws.FnExactFirstOfCycles': WHATEVER THE INPUT: true; the input reads as it did. -/
def fnExactFirstOfCyclesSpec : ChangeSpec := { name := "fnExactFirstOfCycles", fn := fun _ => fun
  | [d] => { results := [.lit (.bool true)], args := [d] }
  | _ => none }
def fnExactFirstOfCyclesRow : OpenClaim := { program := "ythppkfhhidlpiaa", sum := "33e3670b035057617890b085bb0af5f53e42044c5cd9c26fc7c121f2c2d20b20", func := "loop.example/g01114/laws.FnExactFirstOfCycles", spec := "fnExactFirstOfCycles", recurses := true, apart := false }
def FnExactFirstOfCyclesSaid : Prop := fnExactFirstOfCyclesRow.holds Try.pinned (OpenSpec.ofChange fnExactFirstOfCyclesSpec)

/-- ITS FALSE NEIGHBOUR: 'it returns false'. Refute it at one input. -/
def fnExactFirstOfCyclesWrong : ChangeSpec := { name := "fnExactFirstOfCycles", fn := fun _ => fun
  | [d] => { results := [.lit (.bool false)], args := [d] }
  | _ => none }
def FnExactFirstOfCyclesWrongFalsely : Prop := fnExactFirstOfCyclesRow.holds Try.pinned (OpenSpec.ofChange fnExactFirstOfCyclesWrong)

/-- 'laws.FnExactMeetOfPlays': WHATEVER THE INPUT: true; the input reads as it did. -/
def fnExactMeetOfPlaysSpec : ChangeSpec := { name := "fnExactMeetOfPlays", fn := fun _ => fun
  | [d1, d2] => { results := [.lit (.bool true)], args := [d1, d2] }
  | _ => none }
def fnExactMeetOfPlaysRow : OpenClaim := { program := "ythppkfhhidlpiaa", sum := "33e3670b035057617890b085bb0af5f53e42044c5cd9c26fc7c121f2c2d20b20", func := "loop.example/g01114/laws.FnExactMeetOfPlays", spec := "fnExactMeetOfPlays", unfollowed := true, recurses := true, apart := false }
def FnExactMeetOfPlaysSaid : Prop := fnExactMeetOfPlaysRow.holds Try.pinned (OpenSpec.ofChange fnExactMeetOfPlaysSpec)

/-- ITS FALSE NEIGHBOUR: 'it returns false'. Refute it at one input. -/
def fnExactMeetOfPlaysWrong : ChangeSpec := { name := "fnExactMeetOfPlays", fn := fun _ => fun
  | [d1, d2] => { results := [.lit (.bool false)], args := [d1, d2] }
  | _ => none }
def FnExactMeetOfPlaysWrongFalsely : Prop := fnExactMeetOfPlaysRow.holds Try.pinned (OpenSpec.ofChange fnExactMeetOfPlaysWrong)

/-- 'laws.FnExactLongestTail': WHATEVER THE INPUT: true; the input reads as it did. -/
def fnExactLongestTailSpec : ChangeSpec := { name := "fnExactLongestTail", fn := fun _ => fun
  | [d] => { results := [.lit (.bool true)], args := [d] }
  | _ => none }
def fnExactLongestTailRow : OpenClaim := { program := "ythppkfhhidlpiaa", sum := "33e3670b035057617890b085bb0af5f53e42044c5cd9c26fc7c121f2c2d20b20", func := "loop.example/g01114/laws.FnExactLongestTail", spec := "fnExactLongestTail", unfollowed := true, recurses := true, apart := false }
def FnExactLongestTailSaid : Prop := fnExactLongestTailRow.holds Try.pinned (OpenSpec.ofChange fnExactLongestTailSpec)

/-- ITS FALSE NEIGHBOUR: 'it returns false'. Refute it at one input. -/
def fnExactLongestTailWrong : ChangeSpec := { name := "fnExactLongestTail", fn := fun _ => fun
  | [d] => { results := [.lit (.bool false)], args := [d] }
  | _ => none }
def FnExactLongestTailWrongFalsely : Prop := fnExactLongestTailRow.holds Try.pinned (OpenSpec.ofChange fnExactLongestTailWrong)

/-- 'laws.FnExactFarthestStart': WHATEVER THE INPUT: true; the input reads as it did. -/
def fnExactFarthestStartSpec : ChangeSpec := { name := "fnExactFarthestStart", fn := fun _ => fun
  | [d] => { results := [.lit (.bool true)], args := [d] }
  | _ => none }
def fnExactFarthestStartRow : OpenClaim := { program := "ythppkfhhidlpiaa", sum := "33e3670b035057617890b085bb0af5f53e42044c5cd9c26fc7c121f2c2d20b20", func := "loop.example/g01114/laws.FnExactFarthestStart", spec := "fnExactFarthestStart", unfollowed := true, recurses := true, apart := false }
def FnExactFarthestStartSaid : Prop := fnExactFarthestStartRow.holds Try.pinned (OpenSpec.ofChange fnExactFarthestStartSpec)

/-- ITS FALSE NEIGHBOUR: 'it returns false'. Refute it at one input. -/
def fnExactFarthestStartWrong : ChangeSpec := { name := "fnExactFarthestStart", fn := fun _ => fun
  | [d] => { results := [.lit (.bool false)], args := [d] }
  | _ => none }
def FnExactFarthestStartWrongFalsely : Prop := fnExactFarthestStartRow.holds Try.pinned (OpenSpec.ofChange fnExactFarthestStartWrong)

/-- 'laws.FnExactBasinSize': WHATEVER THE INPUT: true; the input reads as it did. -/
def fnExactBasinSizeSpec : ChangeSpec := { name := "fnExactBasinSize", fn := fun _ => fun
  | [d] => { results := [.lit (.bool true)], args := [d] }
  | _ => none }
def fnExactBasinSizeRow : OpenClaim := { program := "ythppkfhhidlpiaa", sum := "33e3670b035057617890b085bb0af5f53e42044c5cd9c26fc7c121f2c2d20b20", func := "loop.example/g01114/laws.FnExactBasinSize", spec := "fnExactBasinSize", unfollowed := true, recurses := true, apart := false }
def FnExactBasinSizeSaid : Prop := fnExactBasinSizeRow.holds Try.pinned (OpenSpec.ofChange fnExactBasinSizeSpec)

/-- ITS FALSE NEIGHBOUR: 'it returns false'. Refute it at one input. -/
def fnExactBasinSizeWrong : ChangeSpec := { name := "fnExactBasinSize", fn := fun _ => fun
  | [d] => { results := [.lit (.bool false)], args := [d] }
  | _ => none }
def FnExactBasinSizeWrongFalsely : Prop := fnExactBasinSizeRow.holds Try.pinned (OpenSpec.ofChange fnExactBasinSizeWrong)

/-- 'laws.FnGardensHaveNoPast': WHATEVER THE INPUT: true; the input reads as it did. -/
def fnGardensHaveNoPastSpec : ChangeSpec := { name := "fnGardensHaveNoPast", fn := fun _ => fun
  | [d1, d2] => { results := [.lit (.bool true)], args := [d1, d2] }
  | _ => none }
def fnGardensHaveNoPastRow : OpenClaim := { program := "ythppkfhhidlpiaa", sum := "33e3670b035057617890b085bb0af5f53e42044c5cd9c26fc7c121f2c2d20b20", func := "loop.example/g01114/laws.FnGardensHaveNoPast", spec := "fnGardensHaveNoPast", unfollowed := true, recurses := true, apart := false }
def FnGardensHaveNoPastSaid : Prop := fnGardensHaveNoPastRow.holds Try.pinned (OpenSpec.ofChange fnGardensHaveNoPastSpec)

/-- ITS FALSE NEIGHBOUR: 'it returns false'. Refute it at one input. -/
def fnGardensHaveNoPastWrong : ChangeSpec := { name := "fnGardensHaveNoPast", fn := fun _ => fun
  | [d1, d2] => { results := [.lit (.bool false)], args := [d1, d2] }
  | _ => none }
def FnGardensHaveNoPastWrongFalsely : Prop := fnGardensHaveNoPastRow.holds Try.pinned (OpenSpec.ofChange fnGardensHaveNoPastWrong)

/-- 'laws.FnLinesBack': WHATEVER THE INPUT: true; the input reads as it did. -/
def fnLinesBackSpec : ChangeSpec := { name := "fnLinesBack", fn := fun _ => fun
  | [d1, d2] => { results := [.lit (.bool true)], args := [d1, d2] }
  | _ => none }
def fnLinesBackRow : OpenClaim := { program := "ythppkfhhidlpiaa", sum := "33e3670b035057617890b085bb0af5f53e42044c5cd9c26fc7c121f2c2d20b20", func := "loop.example/g01114/laws.FnLinesBack", spec := "fnLinesBack", unfollowed := true, recurses := true, apart := false }
def FnLinesBackSaid : Prop := fnLinesBackRow.holds Try.pinned (OpenSpec.ofChange fnLinesBackSpec)

/-- ITS FALSE NEIGHBOUR: 'it returns false'. Refute it at one input. -/
def fnLinesBackWrong : ChangeSpec := { name := "fnLinesBack", fn := fun _ => fun
  | [d1, d2] => { results := [.lit (.bool false)], args := [d1, d2] }
  | _ => none }
def FnLinesBackWrongFalsely : Prop := fnLinesBackRow.holds Try.pinned (OpenSpec.ofChange fnLinesBackWrong)

/-- 'laws.FnExactPastTable': WHATEVER THE INPUT: true; the input reads as it did. -/
def fnExactPastTableSpec : ChangeSpec := { name := "fnExactPastTable", fn := fun _ => fun
  | [d] => { results := [.lit (.bool true)], args := [d] }
  | _ => none }
def fnExactPastTableRow : OpenClaim := { program := "ythppkfhhidlpiaa", sum := "33e3670b035057617890b085bb0af5f53e42044c5cd9c26fc7c121f2c2d20b20", func := "loop.example/g01114/laws.FnExactPastTable", spec := "fnExactPastTable", unfollowed := true, recurses := true, apart := false }
def FnExactPastTableSaid : Prop := fnExactPastTableRow.holds Try.pinned (OpenSpec.ofChange fnExactPastTableSpec)

/-- ITS FALSE NEIGHBOUR: 'it returns false'. Refute it at one input. -/
def fnExactPastTableWrong : ChangeSpec := { name := "fnExactPastTable", fn := fun _ => fun
  | [d] => { results := [.lit (.bool false)], args := [d] }
  | _ => none }
def FnExactPastTableWrongFalsely : Prop := fnExactPastTableRow.holds Try.pinned (OpenSpec.ofChange fnExactPastTableWrong)

/-- 'laws.FnExactIsPastOf': WHATEVER THE INPUT: true; the input reads as it did. -/
def fnExactIsPastOfSpec : ChangeSpec := { name := "fnExactIsPastOf", fn := fun _ => fun
  | [d1, d2] => { results := [.lit (.bool true)], args := [d1, d2] }
  | _ => none }
def fnExactIsPastOfRow : OpenClaim := { program := "ythppkfhhidlpiaa", sum := "33e3670b035057617890b085bb0af5f53e42044c5cd9c26fc7c121f2c2d20b20", func := "loop.example/g01114/laws.FnExactIsPastOf", spec := "fnExactIsPastOf", unfollowed := true, recurses := true, apart := false }
def FnExactIsPastOfSaid : Prop := fnExactIsPastOfRow.holds Try.pinned (OpenSpec.ofChange fnExactIsPastOfSpec)

/-- ITS FALSE NEIGHBOUR: 'it returns false'. Refute it at one input. -/
def fnExactIsPastOfWrong : ChangeSpec := { name := "fnExactIsPastOf", fn := fun _ => fun
  | [d1, d2] => { results := [.lit (.bool false)], args := [d1, d2] }
  | _ => none }
def FnExactIsPastOfWrongFalsely : Prop := fnExactIsPastOfRow.holds Try.pinned (OpenSpec.ofChange fnExactIsPastOfWrong)

/- THE SECOND FORM. 'bulk': how many values and letters a reading holds, each counted each time it is reached (what is shared counts as often as it is met; a slice's spare places count too). A statement '..UptoSaid' is the law's where the arguments, and the package variables that the reading takes, are together of bulk at most 1048576: NARROWER than '..Said'. Prove '..Said' where nothing that the law and all that it calls make is longer than what came in: it says more and counts as full. Else prove '..UptoSaid'. A law counts once. -/
mutual
def uptoBulk {H : Type} : DataW H → Nat
  | .lit (.string bytes) => bytes.length + 1
  | .lit _ => 1
  | .nil => 1
  | .ptr d => uptoBulk d + 1
  | .slice elems spare => uptoBulkAll elems + uptoBulkAll spare + 1
  | .agg parts => uptoBulkAll parts + 1
  | .iface _ d => uptoBulk d + 1
  | .map entries => uptoBulkEntries entries + 1
  | .held _ => 1
def uptoBulkAll {H : Type} : List (DataW H) → Nat
  | [] => 0
  | d :: r => uptoBulk d + uptoBulkAll r
def uptoBulkEntries {H : Type} : List (Lit × DataW H) → Nat
  | [] => 0
  | x :: r => uptoBulkEntry x + uptoBulkEntries r
def uptoBulkEntry {H : Type} : Lit × DataW H → Nat
  | (.string bytes, d) => bytes.length + uptoBulk d + 1
  | (_, d) => uptoBulk d + 1
 end
def uptoSmall : (H : Type) → List (DataW H) → Bool := fun _ ds => decide (uptoBulkAll ds ≤ 1048576)
def OpenSpec.upto (s : _root_.Go.ChangeSpec) : _root_.Go.OpenSpec := { _root_.Go.OpenSpec.ofChange s with cond := some uptoSmall }

/-- 'laws.FnPlaysEndInCycles', WHERE WHAT IT READS IS OF BULK AT MOST 1048576: true; the input reads as it did. -/
def fnPlaysEndInCyclesUptoRow : OpenClaim := { program := "ythppkfhhidlpiaa", sum := "33e3670b035057617890b085bb0af5f53e42044c5cd9c26fc7c121f2c2d20b20", func := "loop.example/g01114/laws.FnPlaysEndInCycles", spec := "fnPlaysEndInCycles", unfollowed := true, recurses := true, apart := false, narrowed := true }
def FnPlaysEndInCyclesUptoSaid : Prop := fnPlaysEndInCyclesUptoRow.holds Try.pinned (OpenSpec.upto fnPlaysEndInCyclesSpec)

/-- 'laws.FnBitsTurn', WHERE WHAT IT READS IS OF BULK AT MOST 1048576: true; the input reads as it did. -/
def fnBitsTurnUptoRow : OpenClaim := { program := "ythppkfhhidlpiaa", sum := "33e3670b035057617890b085bb0af5f53e42044c5cd9c26fc7c121f2c2d20b20", func := "loop.example/g01114/laws.FnBitsTurn", spec := "fnBitsTurn", unfollowed := true, recurses := true, apart := false, narrowed := true }
def FnBitsTurnUptoSaid : Prop := fnBitsTurnUptoRow.holds Try.pinned (OpenSpec.upto fnBitsTurnSpec)

/-- 'laws.FnCyclesAreNecklaces', WHERE WHAT IT READS IS OF BULK AT MOST 1048576: true; the input reads as it did. -/
def fnCyclesAreNecklacesUptoRow : OpenClaim := { program := "ythppkfhhidlpiaa", sum := "33e3670b035057617890b085bb0af5f53e42044c5cd9c26fc7c121f2c2d20b20", func := "loop.example/g01114/laws.FnCyclesAreNecklaces", spec := "fnCyclesAreNecklaces", unfollowed := true, recurses := true, apart := false, narrowed := true }
def FnCyclesAreNecklacesUptoSaid : Prop := fnCyclesAreNecklacesUptoRow.holds Try.pinned (OpenSpec.upto fnCyclesAreNecklacesSpec)

/-- 'laws.FnPlaysMeet', WHERE WHAT IT READS IS OF BULK AT MOST 1048576: true; the input reads as it did. -/
def fnPlaysMeetUptoRow : OpenClaim := { program := "ythppkfhhidlpiaa", sum := "33e3670b035057617890b085bb0af5f53e42044c5cd9c26fc7c121f2c2d20b20", func := "loop.example/g01114/laws.FnPlaysMeet", spec := "fnPlaysMeet", unfollowed := true, recurses := true, apart := false, narrowed := true }
def FnPlaysMeetUptoSaid : Prop := fnPlaysMeetUptoRow.holds Try.pinned (OpenSpec.upto fnPlaysMeetSpec)

/-- 'laws.FnBasinsAddUp', WHERE WHAT IT READS IS OF BULK AT MOST 1048576: true; the input reads as it did. -/
def fnBasinsAddUpUptoRow : OpenClaim := { program := "ythppkfhhidlpiaa", sum := "33e3670b035057617890b085bb0af5f53e42044c5cd9c26fc7c121f2c2d20b20", func := "loop.example/g01114/laws.FnBasinsAddUp", spec := "fnBasinsAddUp", unfollowed := true, recurses := true, apart := false, narrowed := true }
def FnBasinsAddUpUptoSaid : Prop := fnBasinsAddUpUptoRow.holds Try.pinned (OpenSpec.upto fnBasinsAddUpSpec)

/-- 'laws.FnExactTailOf', WHERE WHAT IT READS IS OF BULK AT MOST 1048576: true; the input reads as it did. -/
def fnExactTailOfUptoRow : OpenClaim := { program := "ythppkfhhidlpiaa", sum := "33e3670b035057617890b085bb0af5f53e42044c5cd9c26fc7c121f2c2d20b20", func := "loop.example/g01114/laws.FnExactTailOf", spec := "fnExactTailOf", unfollowed := true, recurses := true, apart := false, narrowed := true }
def FnExactTailOfUptoSaid : Prop := fnExactTailOfUptoRow.holds Try.pinned (OpenSpec.upto fnExactTailOfSpec)

/-- 'laws.FnExactCycleOf', WHERE WHAT IT READS IS OF BULK AT MOST 1048576: true; the input reads as it did. -/
def fnExactCycleOfUptoRow : OpenClaim := { program := "ythppkfhhidlpiaa", sum := "33e3670b035057617890b085bb0af5f53e42044c5cd9c26fc7c121f2c2d20b20", func := "loop.example/g01114/laws.FnExactCycleOf", spec := "fnExactCycleOf", unfollowed := true, recurses := true, apart := false, narrowed := true }
def FnExactCycleOfUptoSaid : Prop := fnExactCycleOfUptoRow.holds Try.pinned (OpenSpec.upto fnExactCycleOfSpec)

/-- 'laws.FnExactCycleLength', WHERE WHAT IT READS IS OF BULK AT MOST 1048576: true; the input reads as it did. -/
def fnExactCycleLengthUptoRow : OpenClaim := { program := "ythppkfhhidlpiaa", sum := "33e3670b035057617890b085bb0af5f53e42044c5cd9c26fc7c121f2c2d20b20", func := "loop.example/g01114/laws.FnExactCycleLength", spec := "fnExactCycleLength", unfollowed := true, recurses := true, apart := false, narrowed := true }
def FnExactCycleLengthUptoSaid : Prop := fnExactCycleLengthUptoRow.holds Try.pinned (OpenSpec.upto fnExactCycleLengthSpec)

/-- 'laws.FnExactIsCyclic', WHERE WHAT IT READS IS OF BULK AT MOST 1048576: true; the input reads as it did. -/
def fnExactIsCyclicUptoRow : OpenClaim := { program := "ythppkfhhidlpiaa", sum := "33e3670b035057617890b085bb0af5f53e42044c5cd9c26fc7c121f2c2d20b20", func := "loop.example/g01114/laws.FnExactIsCyclic", spec := "fnExactIsCyclic", unfollowed := true, recurses := true, apart := false, narrowed := true }
def FnExactIsCyclicUptoSaid : Prop := fnExactIsCyclicUptoRow.holds Try.pinned (OpenSpec.upto fnExactIsCyclicSpec)

/-- 'laws.FnExactBitsOf', WHERE WHAT IT READS IS OF BULK AT MOST 1048576: true; the input reads as it did. -/
def fnExactBitsOfUptoRow : OpenClaim := { program := "ythppkfhhidlpiaa", sum := "33e3670b035057617890b085bb0af5f53e42044c5cd9c26fc7c121f2c2d20b20", func := "loop.example/g01114/laws.FnExactBitsOf", spec := "fnExactBitsOf", apart := false, narrowed := true }
def FnExactBitsOfUptoSaid : Prop := fnExactBitsOfUptoRow.holds Try.pinned (OpenSpec.upto fnExactBitsOfSpec)

/-- 'laws.FnExactFromBits', WHERE WHAT IT READS IS OF BULK AT MOST 1048576: true; the input reads as it did. -/
def fnExactFromBitsUptoRow : OpenClaim := { program := "ythppkfhhidlpiaa", sum := "33e3670b035057617890b085bb0af5f53e42044c5cd9c26fc7c121f2c2d20b20", func := "loop.example/g01114/laws.FnExactFromBits", spec := "fnExactFromBits", apart := false, narrowed := true }
def FnExactFromBitsUptoSaid : Prop := fnExactFromBitsUptoRow.holds Try.pinned (OpenSpec.upto fnExactFromBitsSpec)

/-- 'laws.FnExactTurnBits', WHERE WHAT IT READS IS OF BULK AT MOST 1048576: true; the input reads as it did. -/
def fnExactTurnBitsUptoRow : OpenClaim := { program := "ythppkfhhidlpiaa", sum := "33e3670b035057617890b085bb0af5f53e42044c5cd9c26fc7c121f2c2d20b20", func := "loop.example/g01114/laws.FnExactTurnBits", spec := "fnExactTurnBits", apart := false, narrowed := true }
def FnExactTurnBitsUptoSaid : Prop := fnExactTurnBitsUptoRow.holds Try.pinned (OpenSpec.upto fnExactTurnBitsSpec)

/-- 'laws.FnExactCyclicPiles', WHERE WHAT IT READS IS OF BULK AT MOST 1048576: true; the input reads as it did. -/
def fnExactCyclicPilesUptoRow : OpenClaim := { program := "ythppkfhhidlpiaa", sum := "33e3670b035057617890b085bb0af5f53e42044c5cd9c26fc7c121f2c2d20b20", func := "loop.example/g01114/laws.FnExactCyclicPiles", spec := "fnExactCyclicPiles", recurses := true, apart := false, narrowed := true }
def FnExactCyclicPilesUptoSaid : Prop := fnExactCyclicPilesUptoRow.holds Try.pinned (OpenSpec.upto fnExactCyclicPilesSpec)

/-- 'laws.FnExactCountCycles', WHERE WHAT IT READS IS OF BULK AT MOST 1048576: true; the input reads as it did. -/
def fnExactCountCyclesUptoRow : OpenClaim := { program := "ythppkfhhidlpiaa", sum := "33e3670b035057617890b085bb0af5f53e42044c5cd9c26fc7c121f2c2d20b20", func := "loop.example/g01114/laws.FnExactCountCycles", spec := "fnExactCountCycles", recurses := true, apart := false, narrowed := true }
def FnExactCountCyclesUptoSaid : Prop := fnExactCountCyclesUptoRow.holds Try.pinned (OpenSpec.upto fnExactCountCyclesSpec)

/-- 'laws.FnExactFirstOfCycles', WHERE WHAT IT READS IS OF BULK AT MOST 1048576: true; the input reads as it did. -/
def fnExactFirstOfCyclesUptoRow : OpenClaim := { program := "ythppkfhhidlpiaa", sum := "33e3670b035057617890b085bb0af5f53e42044c5cd9c26fc7c121f2c2d20b20", func := "loop.example/g01114/laws.FnExactFirstOfCycles", spec := "fnExactFirstOfCycles", recurses := true, apart := false, narrowed := true }
def FnExactFirstOfCyclesUptoSaid : Prop := fnExactFirstOfCyclesUptoRow.holds Try.pinned (OpenSpec.upto fnExactFirstOfCyclesSpec)

/-- 'laws.FnExactMeetOfPlays', WHERE WHAT IT READS IS OF BULK AT MOST 1048576: true; the input reads as it did. -/
def fnExactMeetOfPlaysUptoRow : OpenClaim := { program := "ythppkfhhidlpiaa", sum := "33e3670b035057617890b085bb0af5f53e42044c5cd9c26fc7c121f2c2d20b20", func := "loop.example/g01114/laws.FnExactMeetOfPlays", spec := "fnExactMeetOfPlays", unfollowed := true, recurses := true, apart := false, narrowed := true }
def FnExactMeetOfPlaysUptoSaid : Prop := fnExactMeetOfPlaysUptoRow.holds Try.pinned (OpenSpec.upto fnExactMeetOfPlaysSpec)

/-- 'laws.FnExactLongestTail', WHERE WHAT IT READS IS OF BULK AT MOST 1048576: true; the input reads as it did. -/
def fnExactLongestTailUptoRow : OpenClaim := { program := "ythppkfhhidlpiaa", sum := "33e3670b035057617890b085bb0af5f53e42044c5cd9c26fc7c121f2c2d20b20", func := "loop.example/g01114/laws.FnExactLongestTail", spec := "fnExactLongestTail", unfollowed := true, recurses := true, apart := false, narrowed := true }
def FnExactLongestTailUptoSaid : Prop := fnExactLongestTailUptoRow.holds Try.pinned (OpenSpec.upto fnExactLongestTailSpec)

/-- 'laws.FnExactFarthestStart', WHERE WHAT IT READS IS OF BULK AT MOST 1048576: true; the input reads as it did. -/
def fnExactFarthestStartUptoRow : OpenClaim := { program := "ythppkfhhidlpiaa", sum := "33e3670b035057617890b085bb0af5f53e42044c5cd9c26fc7c121f2c2d20b20", func := "loop.example/g01114/laws.FnExactFarthestStart", spec := "fnExactFarthestStart", unfollowed := true, recurses := true, apart := false, narrowed := true }
def FnExactFarthestStartUptoSaid : Prop := fnExactFarthestStartUptoRow.holds Try.pinned (OpenSpec.upto fnExactFarthestStartSpec)

/-- 'laws.FnExactBasinSize', WHERE WHAT IT READS IS OF BULK AT MOST 1048576: true; the input reads as it did. -/
def fnExactBasinSizeUptoRow : OpenClaim := { program := "ythppkfhhidlpiaa", sum := "33e3670b035057617890b085bb0af5f53e42044c5cd9c26fc7c121f2c2d20b20", func := "loop.example/g01114/laws.FnExactBasinSize", spec := "fnExactBasinSize", unfollowed := true, recurses := true, apart := false, narrowed := true }
def FnExactBasinSizeUptoSaid : Prop := fnExactBasinSizeUptoRow.holds Try.pinned (OpenSpec.upto fnExactBasinSizeSpec)

/-- 'laws.FnGardensHaveNoPast', WHERE WHAT IT READS IS OF BULK AT MOST 1048576: true; the input reads as it did. -/
def fnGardensHaveNoPastUptoRow : OpenClaim := { program := "ythppkfhhidlpiaa", sum := "33e3670b035057617890b085bb0af5f53e42044c5cd9c26fc7c121f2c2d20b20", func := "loop.example/g01114/laws.FnGardensHaveNoPast", spec := "fnGardensHaveNoPast", unfollowed := true, recurses := true, apart := false, narrowed := true }
def FnGardensHaveNoPastUptoSaid : Prop := fnGardensHaveNoPastUptoRow.holds Try.pinned (OpenSpec.upto fnGardensHaveNoPastSpec)

/-- 'laws.FnLinesBack', WHERE WHAT IT READS IS OF BULK AT MOST 1048576: true; the input reads as it did. -/
def fnLinesBackUptoRow : OpenClaim := { program := "ythppkfhhidlpiaa", sum := "33e3670b035057617890b085bb0af5f53e42044c5cd9c26fc7c121f2c2d20b20", func := "loop.example/g01114/laws.FnLinesBack", spec := "fnLinesBack", unfollowed := true, recurses := true, apart := false, narrowed := true }
def FnLinesBackUptoSaid : Prop := fnLinesBackUptoRow.holds Try.pinned (OpenSpec.upto fnLinesBackSpec)

/-- 'laws.FnExactPastTable', WHERE WHAT IT READS IS OF BULK AT MOST 1048576: true; the input reads as it did. -/
def fnExactPastTableUptoRow : OpenClaim := { program := "ythppkfhhidlpiaa", sum := "33e3670b035057617890b085bb0af5f53e42044c5cd9c26fc7c121f2c2d20b20", func := "loop.example/g01114/laws.FnExactPastTable", spec := "fnExactPastTable", unfollowed := true, recurses := true, apart := false, narrowed := true }
def FnExactPastTableUptoSaid : Prop := fnExactPastTableUptoRow.holds Try.pinned (OpenSpec.upto fnExactPastTableSpec)

/-- 'laws.FnExactIsPastOf', WHERE WHAT IT READS IS OF BULK AT MOST 1048576: true; the input reads as it did. -/
def fnExactIsPastOfUptoRow : OpenClaim := { program := "ythppkfhhidlpiaa", sum := "33e3670b035057617890b085bb0af5f53e42044c5cd9c26fc7c121f2c2d20b20", func := "loop.example/g01114/laws.FnExactIsPastOf", spec := "fnExactIsPastOf", unfollowed := true, recurses := true, apart := false, narrowed := true }
def FnExactIsPastOfUptoSaid : Prop := fnExactIsPastOfUptoRow.holds Try.pinned (OpenSpec.upto fnExactIsPastOfSpec)

end Rows
end Go.Proofs.Ythppkfhhidlpiaa
