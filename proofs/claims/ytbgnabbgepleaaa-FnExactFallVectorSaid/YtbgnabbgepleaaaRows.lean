/-
  No cell of these rows narrows 'for every input' (looked for: loops, veiled, ifaces, maps, wideKeys, modest, calm, conditions, laid).
  DERIVED. THE GIVEN ROWS OF THIS SEAT. 15 by the template 'for every input the law returns true; each argument reads behind the call as it read before'; 0 by the template 'total and deterministic' (their statements: YtbgnabbgepleaaaTotals.lean).
  GIVEN WITH THE SEED: the statements are not yours to turn. If you find one false, say at which input.
  Laid BY PROGRAM, IN A SANDBOX (cutbox-rows.mjs): the forced cells as the released guide's own fill.sh prints them over the translation fae312e5534e1190… (all of the seat's roots in one cut). By AI agents, Wed Nov 11 2026. No macro, syntax, notation, axiom, sorry.
-/
import Derived.Test.YtbgnabbgepleaaaChecked
import GoSem.Claim
import GoSem.ClaimJoined
import GoSem.ClaimMapViews
import Derived.JoinedTies
import Derived.KernelRfl
namespace Go.Proofs.Ytbgnabbgepleaaa
/- THE CELL 'sum', in the pinned program and in every row, IS THE sha256 OF THE DUMP (.gsa) THAT YtbgnabbgepleaaaProg.lean LOADS. Nothing in Lean hashes anything: it is a label: what it is worth is what the hold of that sum in a sandbox is worth. -/
noncomputable def Try.pinned : Pinned := { name := "ytbgnabbgepleaaa", sum := "fae312e5534e11904cacc5a7c14bf7c97354be12dd411e10cc32ab307d41792b", checked := Try.checked }
namespace Rows
def none {H : Type} : Left H := { results := [], args := [] }

/-- 'laws.FnExactIsSand': WHATEVER THE INPUT: true; the input reads as it did. -/
def fnExactIsSandSpec : ChangeSpec := { name := "fnExactIsSand", fn := fun _ => fun
  | [d] => { results := [.lit (.bool true)], args := [d] }
  | _ => none }
def fnExactIsSandRow : OpenClaim := { program := "ytbgnabbgepleaaa", sum := "fae312e5534e11904cacc5a7c14bf7c97354be12dd411e10cc32ab307d41792b", func := "loop.example/g01114/laws.FnExactIsSand", spec := "fnExactIsSand", apart := false }
def FnExactIsSandSaid : Prop := fnExactIsSandRow.holds Try.pinned (OpenSpec.ofChange fnExactIsSandSpec)

/-- ITS FALSE NEIGHBOUR: 'it returns false'. Refute it at one input. -/
def fnExactIsSandWrong : ChangeSpec := { name := "fnExactIsSand", fn := fun _ => fun
  | [d] => { results := [.lit (.bool false)], args := [d] }
  | _ => none }
def FnExactIsSandWrongFalsely : Prop := fnExactIsSandRow.holds Try.pinned (OpenSpec.ofChange fnExactIsSandWrong)

/-- 'laws.FnExactFallsOf': WHATEVER THE INPUT: true; the input reads as it did. -/
def fnExactFallsOfSpec : ChangeSpec := { name := "fnExactFallsOf", fn := fun _ => fun
  | [d] => { results := [.lit (.bool true)], args := [d] }
  | _ => none }
def fnExactFallsOfRow : OpenClaim := { program := "ytbgnabbgepleaaa", sum := "fae312e5534e11904cacc5a7c14bf7c97354be12dd411e10cc32ab307d41792b", func := "loop.example/g01114/laws.FnExactFallsOf", spec := "fnExactFallsOf", unfollowed := true, recurses := true, apart := false }
def FnExactFallsOfSaid : Prop := fnExactFallsOfRow.holds Try.pinned (OpenSpec.ofChange fnExactFallsOfSpec)

/-- ITS FALSE NEIGHBOUR: 'it returns false'. Refute it at one input. -/
def fnExactFallsOfWrong : ChangeSpec := { name := "fnExactFallsOf", fn := fun _ => fun
  | [d] => { results := [.lit (.bool false)], args := [d] }
  | _ => none }
def FnExactFallsOfWrongFalsely : Prop := fnExactFallsOfRow.holds Try.pinned (OpenSpec.ofChange fnExactFallsOfWrong)

/-- 'laws.FnExactFallGrain': WHATEVER THE INPUT: true; the input reads as it did. -/
def fnExactFallGrainSpec : ChangeSpec := { name := "fnExactFallGrain", fn := fun _ => fun
  | [d1, d2] => { results := [.lit (.bool true)], args := [d1, d2] }
  | _ => none }
def fnExactFallGrainRow : OpenClaim := { program := "ytbgnabbgepleaaa", sum := "fae312e5534e11904cacc5a7c14bf7c97354be12dd411e10cc32ab307d41792b", func := "loop.example/g01114/laws.FnExactFallGrain", spec := "fnExactFallGrain", unfollowed := true, recurses := true, apart := false }
def FnExactFallGrainSaid : Prop := fnExactFallGrainRow.holds Try.pinned (OpenSpec.ofChange fnExactFallGrainSpec)

/-- ITS FALSE NEIGHBOUR: 'it returns false'. Refute it at one input. -/
def fnExactFallGrainWrong : ChangeSpec := { name := "fnExactFallGrain", fn := fun _ => fun
  | [d1, d2] => { results := [.lit (.bool false)], args := [d1, d2] }
  | _ => none }
def FnExactFallGrainWrongFalsely : Prop := fnExactFallGrainRow.holds Try.pinned (OpenSpec.ofChange fnExactFallGrainWrong)

/-- 'laws.FnExactIsSettled': WHATEVER THE INPUT: true; the input reads as it did. -/
def fnExactIsSettledSpec : ChangeSpec := { name := "fnExactIsSettled", fn := fun _ => fun
  | [d] => { results := [.lit (.bool true)], args := [d] }
  | _ => none }
def fnExactIsSettledRow : OpenClaim := { program := "ytbgnabbgepleaaa", sum := "fae312e5534e11904cacc5a7c14bf7c97354be12dd411e10cc32ab307d41792b", func := "loop.example/g01114/laws.FnExactIsSettled", spec := "fnExactIsSettled", apart := false }
def FnExactIsSettledSaid : Prop := fnExactIsSettledRow.holds Try.pinned (OpenSpec.ofChange fnExactIsSettledSpec)

/-- ITS FALSE NEIGHBOUR: 'it returns false'. Refute it at one input. -/
def fnExactIsSettledWrong : ChangeSpec := { name := "fnExactIsSettled", fn := fun _ => fun
  | [d] => { results := [.lit (.bool false)], args := [d] }
  | _ => none }
def FnExactIsSettledWrongFalsely : Prop := fnExactIsSettledRow.holds Try.pinned (OpenSpec.ofChange fnExactIsSettledWrong)

/-- 'laws.FnExactSettleSand': WHATEVER THE INPUT: true; the input reads as it did. -/
def fnExactSettleSandSpec : ChangeSpec := { name := "fnExactSettleSand", fn := fun _ => fun
  | [d] => { results := [.lit (.bool true)], args := [d] }
  | _ => none }
def fnExactSettleSandRow : OpenClaim := { program := "ytbgnabbgepleaaa", sum := "fae312e5534e11904cacc5a7c14bf7c97354be12dd411e10cc32ab307d41792b", func := "loop.example/g01114/laws.FnExactSettleSand", spec := "fnExactSettleSand", unfollowed := true, recurses := true, apart := false }
def FnExactSettleSandSaid : Prop := fnExactSettleSandRow.holds Try.pinned (OpenSpec.ofChange fnExactSettleSandSpec)

/-- ITS FALSE NEIGHBOUR: 'it returns false'. Refute it at one input. -/
def fnExactSettleSandWrong : ChangeSpec := { name := "fnExactSettleSand", fn := fun _ => fun
  | [d] => { results := [.lit (.bool false)], args := [d] }
  | _ => none }
def FnExactSettleSandWrongFalsely : Prop := fnExactSettleSandRow.holds Try.pinned (OpenSpec.ofChange fnExactSettleSandWrong)

/-- 'laws.FnExactFallCounts': WHATEVER THE INPUT: true; the input reads as it did. -/
def fnExactFallCountsSpec : ChangeSpec := { name := "fnExactFallCounts", fn := fun _ => fun
  | [d] => { results := [.lit (.bool true)], args := [d] }
  | _ => none }
def fnExactFallCountsRow : OpenClaim := { program := "ytbgnabbgepleaaa", sum := "fae312e5534e11904cacc5a7c14bf7c97354be12dd411e10cc32ab307d41792b", func := "loop.example/g01114/laws.FnExactFallCounts", spec := "fnExactFallCounts", unfollowed := true, recurses := true, apart := false }
def FnExactFallCountsSaid : Prop := fnExactFallCountsRow.holds Try.pinned (OpenSpec.ofChange fnExactFallCountsSpec)

/-- ITS FALSE NEIGHBOUR: 'it returns false'. Refute it at one input. -/
def fnExactFallCountsWrong : ChangeSpec := { name := "fnExactFallCounts", fn := fun _ => fun
  | [d] => { results := [.lit (.bool false)], args := [d] }
  | _ => none }
def FnExactFallCountsWrongFalsely : Prop := fnExactFallCountsRow.holds Try.pinned (OpenSpec.ofChange fnExactFallCountsWrong)

/-- 'laws.FnExactPlayFalls': WHATEVER THE INPUT: true; the input reads as it did. -/
def fnExactPlayFallsSpec : ChangeSpec := { name := "fnExactPlayFalls", fn := fun _ => fun
  | [d1, d2] => { results := [.lit (.bool true)], args := [d1, d2] }
  | _ => none }
def fnExactPlayFallsRow : OpenClaim := { program := "ytbgnabbgepleaaa", sum := "fae312e5534e11904cacc5a7c14bf7c97354be12dd411e10cc32ab307d41792b", func := "loop.example/g01114/laws.FnExactPlayFalls", spec := "fnExactPlayFalls", unfollowed := true, recurses := true, apart := false }
def FnExactPlayFallsSaid : Prop := fnExactPlayFallsRow.holds Try.pinned (OpenSpec.ofChange fnExactPlayFallsSpec)

/-- ITS FALSE NEIGHBOUR: 'it returns false'. Refute it at one input. -/
def fnExactPlayFallsWrong : ChangeSpec := { name := "fnExactPlayFalls", fn := fun _ => fun
  | [d1, d2] => { results := [.lit (.bool false)], args := [d1, d2] }
  | _ => none }
def FnExactPlayFallsWrongFalsely : Prop := fnExactPlayFallsRow.holds Try.pinned (OpenSpec.ofChange fnExactPlayFallsWrong)

/-- 'laws.FnExactWeightOf': WHATEVER THE INPUT: true; the input reads as it did. -/
def fnExactWeightOfSpec : ChangeSpec := { name := "fnExactWeightOf", fn := fun _ => fun
  | [d] => { results := [.lit (.bool true)], args := [d] }
  | _ => none }
def fnExactWeightOfRow : OpenClaim := { program := "ytbgnabbgepleaaa", sum := "fae312e5534e11904cacc5a7c14bf7c97354be12dd411e10cc32ab307d41792b", func := "loop.example/g01114/laws.FnExactWeightOf", spec := "fnExactWeightOf", apart := false }
def FnExactWeightOfSaid : Prop := fnExactWeightOfRow.holds Try.pinned (OpenSpec.ofChange fnExactWeightOfSpec)

/-- ITS FALSE NEIGHBOUR: 'it returns false'. Refute it at one input. -/
def fnExactWeightOfWrong : ChangeSpec := { name := "fnExactWeightOf", fn := fun _ => fun
  | [d] => { results := [.lit (.bool false)], args := [d] }
  | _ => none }
def FnExactWeightOfWrongFalsely : Prop := fnExactWeightOfRow.holds Try.pinned (OpenSpec.ofChange fnExactWeightOfWrong)

/-- 'laws.FnExactSettledShape': WHATEVER THE INPUT: true; the input reads as it did. -/
def fnExactSettledShapeSpec : ChangeSpec := { name := "fnExactSettledShape", fn := fun _ => fun
  | [d] => { results := [.lit (.bool true)], args := [d] }
  | _ => none }
def fnExactSettledShapeRow : OpenClaim := { program := "ytbgnabbgepleaaa", sum := "fae312e5534e11904cacc5a7c14bf7c97354be12dd411e10cc32ab307d41792b", func := "loop.example/g01114/laws.FnExactSettledShape", spec := "fnExactSettledShape", unfollowed := true, recurses := true, apart := false }
def FnExactSettledShapeSaid : Prop := fnExactSettledShapeRow.holds Try.pinned (OpenSpec.ofChange fnExactSettledShapeSpec)

/-- ITS FALSE NEIGHBOUR: 'it returns false'. Refute it at one input. -/
def fnExactSettledShapeWrong : ChangeSpec := { name := "fnExactSettledShape", fn := fun _ => fun
  | [d] => { results := [.lit (.bool false)], args := [d] }
  | _ => none }
def FnExactSettledShapeWrongFalsely : Prop := fnExactSettledShapeRow.holds Try.pinned (OpenSpec.ofChange fnExactSettledShapeWrong)

/-- 'laws.FnExactReachSand': WHATEVER THE INPUT: true; the input reads as it did. -/
def fnExactReachSandSpec : ChangeSpec := { name := "fnExactReachSand", fn := fun _ => fun
  | [d] => { results := [.lit (.bool true)], args := [d] }
  | _ => none }
def fnExactReachSandRow : OpenClaim := { program := "ytbgnabbgepleaaa", sum := "fae312e5534e11904cacc5a7c14bf7c97354be12dd411e10cc32ab307d41792b", func := "loop.example/g01114/laws.FnExactReachSand", spec := "fnExactReachSand", unfollowed := true, recurses := true, apart := false }
def FnExactReachSandSaid : Prop := fnExactReachSandRow.holds Try.pinned (OpenSpec.ofChange fnExactReachSandSpec)

/-- ITS FALSE NEIGHBOUR: 'it returns false'. Refute it at one input. -/
def fnExactReachSandWrong : ChangeSpec := { name := "fnExactReachSand", fn := fun _ => fun
  | [d] => { results := [.lit (.bool false)], args := [d] }
  | _ => none }
def FnExactReachSandWrongFalsely : Prop := fnExactReachSandRow.holds Try.pinned (OpenSpec.ofChange fnExactReachSandWrong)

/-- 'laws.FnExactCountReach': WHATEVER THE INPUT: true; the input reads as it did. -/
def fnExactCountReachSpec : ChangeSpec := { name := "fnExactCountReach", fn := fun _ => fun
  | [d] => { results := [.lit (.bool true)], args := [d] }
  | _ => none }
def fnExactCountReachRow : OpenClaim := { program := "ytbgnabbgepleaaa", sum := "fae312e5534e11904cacc5a7c14bf7c97354be12dd411e10cc32ab307d41792b", func := "loop.example/g01114/laws.FnExactCountReach", spec := "fnExactCountReach", unfollowed := true, recurses := true, apart := false }
def FnExactCountReachSaid : Prop := fnExactCountReachRow.holds Try.pinned (OpenSpec.ofChange fnExactCountReachSpec)

/-- ITS FALSE NEIGHBOUR: 'it returns false'. Refute it at one input. -/
def fnExactCountReachWrong : ChangeSpec := { name := "fnExactCountReach", fn := fun _ => fun
  | [d] => { results := [.lit (.bool false)], args := [d] }
  | _ => none }
def FnExactCountReachWrongFalsely : Prop := fnExactCountReachRow.holds Try.pinned (OpenSpec.ofChange fnExactCountReachWrong)

/-- 'laws.FnExactCanReach': WHATEVER THE INPUT: true; the input reads as it did. -/
def fnExactCanReachSpec : ChangeSpec := { name := "fnExactCanReach", fn := fun _ => fun
  | [d1, d2] => { results := [.lit (.bool true)], args := [d1, d2] }
  | _ => none }
def fnExactCanReachRow : OpenClaim := { program := "ytbgnabbgepleaaa", sum := "fae312e5534e11904cacc5a7c14bf7c97354be12dd411e10cc32ab307d41792b", func := "loop.example/g01114/laws.FnExactCanReach", spec := "fnExactCanReach", unfollowed := true, recurses := true, apart := false }
def FnExactCanReachSaid : Prop := fnExactCanReachRow.holds Try.pinned (OpenSpec.ofChange fnExactCanReachSpec)

/-- ITS FALSE NEIGHBOUR: 'it returns false'. Refute it at one input. -/
def fnExactCanReachWrong : ChangeSpec := { name := "fnExactCanReach", fn := fun _ => fun
  | [d1, d2] => { results := [.lit (.bool false)], args := [d1, d2] }
  | _ => none }
def FnExactCanReachWrongFalsely : Prop := fnExactCanReachRow.holds Try.pinned (OpenSpec.ofChange fnExactCanReachWrong)

/-- 'laws.FnExactFallsBetween': WHATEVER THE INPUT: true; the input reads as it did. -/
def fnExactFallsBetweenSpec : ChangeSpec := { name := "fnExactFallsBetween", fn := fun _ => fun
  | [d1, d2] => { results := [.lit (.bool true)], args := [d1, d2] }
  | _ => none }
def fnExactFallsBetweenRow : OpenClaim := { program := "ytbgnabbgepleaaa", sum := "fae312e5534e11904cacc5a7c14bf7c97354be12dd411e10cc32ab307d41792b", func := "loop.example/g01114/laws.FnExactFallsBetween", spec := "fnExactFallsBetween", unfollowed := true, recurses := true, apart := false }
def FnExactFallsBetweenSaid : Prop := fnExactFallsBetweenRow.holds Try.pinned (OpenSpec.ofChange fnExactFallsBetweenSpec)

/-- ITS FALSE NEIGHBOUR: 'it returns false'. Refute it at one input. -/
def fnExactFallsBetweenWrong : ChangeSpec := { name := "fnExactFallsBetween", fn := fun _ => fun
  | [d1, d2] => { results := [.lit (.bool false)], args := [d1, d2] }
  | _ => none }
def FnExactFallsBetweenWrongFalsely : Prop := fnExactFallsBetweenRow.holds Try.pinned (OpenSpec.ofChange fnExactFallsBetweenWrong)

/-- 'laws.FnExactFallVector': WHATEVER THE INPUT: true; the input reads as it did. -/
def fnExactFallVectorSpec : ChangeSpec := { name := "fnExactFallVector", fn := fun _ => fun
  | [d1, d2] => { results := [.lit (.bool true)], args := [d1, d2] }
  | _ => none }
def fnExactFallVectorRow : OpenClaim := { program := "ytbgnabbgepleaaa", sum := "fae312e5534e11904cacc5a7c14bf7c97354be12dd411e10cc32ab307d41792b", func := "loop.example/g01114/laws.FnExactFallVector", spec := "fnExactFallVector", unfollowed := true, recurses := true, apart := false }
def FnExactFallVectorSaid : Prop := fnExactFallVectorRow.holds Try.pinned (OpenSpec.ofChange fnExactFallVectorSpec)

/-- ITS FALSE NEIGHBOUR: 'it returns false'. Refute it at one input. -/
def fnExactFallVectorWrong : ChangeSpec := { name := "fnExactFallVector", fn := fun _ => fun
  | [d1, d2] => { results := [.lit (.bool false)], args := [d1, d2] }
  | _ => none }
def FnExactFallVectorWrongFalsely : Prop := fnExactFallVectorRow.holds Try.pinned (OpenSpec.ofChange fnExactFallVectorWrong)

/-- 'laws.FnExactLowestOf': WHATEVER THE INPUT: true; the input reads as it did. -/
def fnExactLowestOfSpec : ChangeSpec := { name := "fnExactLowestOf", fn := fun _ => fun
  | [d1, d2] => { results := [.lit (.bool true)], args := [d1, d2] }
  | _ => none }
def fnExactLowestOfRow : OpenClaim := { program := "ytbgnabbgepleaaa", sum := "fae312e5534e11904cacc5a7c14bf7c97354be12dd411e10cc32ab307d41792b", func := "loop.example/g01114/laws.FnExactLowestOf", spec := "fnExactLowestOf", unfollowed := true, recurses := true, apart := false }
def FnExactLowestOfSaid : Prop := fnExactLowestOfRow.holds Try.pinned (OpenSpec.ofChange fnExactLowestOfSpec)

/-- ITS FALSE NEIGHBOUR: 'it returns false'. Refute it at one input. -/
def fnExactLowestOfWrong : ChangeSpec := { name := "fnExactLowestOf", fn := fun _ => fun
  | [d1, d2] => { results := [.lit (.bool false)], args := [d1, d2] }
  | _ => none }
def FnExactLowestOfWrongFalsely : Prop := fnExactLowestOfRow.holds Try.pinned (OpenSpec.ofChange fnExactLowestOfWrong)

/- THE SECOND FORM. 'bulk': how many values and letters a reading holds, each counted each time it is reached (what is shared counts as often as it is met; a slice's spare places count too). A statement '..UptoSaid' is the law's where the arguments, and the package variables that the reading takes, are together of bulk at most 1048576: NARROWER than '..Said'. Prove '..Said' where nothing that the law and all that it calls make is longer than what came in: it says more and counts as full. Else prove '..UptoSaid'. A law counts once. -/
mutual
def uptoBulk {H : Type} : DataW H → Nat
  | .lit (.string bytes) => bytes.length + 1
  | .lit _ => 1
  | .nil => 1
  | .ptr d => uptoBulk d + 1
  | .slice elems spare => uptoBulkAll elems + uptoBulkAll spare + 1
  | .agg parts => uptoBulkAll parts + 1
  | .iface _ d => uptoBulk d + 1
  | .map entries => uptoBulkEntries entries + 1
  | .held _ => 1
def uptoBulkAll {H : Type} : List (DataW H) → Nat
  | [] => 0
  | d :: r => uptoBulk d + uptoBulkAll r
def uptoBulkEntries {H : Type} : List (Lit × DataW H) → Nat
  | [] => 0
  | x :: r => uptoBulkEntry x + uptoBulkEntries r
def uptoBulkEntry {H : Type} : Lit × DataW H → Nat
  | (.string bytes, d) => bytes.length + uptoBulk d + 1
  | (_, d) => uptoBulk d + 1
 end
def uptoSmall : (H : Type) → List (DataW H) → Bool := fun _ ds => decide (uptoBulkAll ds ≤ 1048576)
def OpenSpec.upto (s : _root_.Go.ChangeSpec) : _root_.Go.OpenSpec := { _root_.Go.OpenSpec.ofChange s with cond := some uptoSmall }

/-- 'laws.FnExactIsSand', WHERE WHAT IT READS IS OF BULK AT MOST 1048576: true; the input reads as it did. -/
def fnExactIsSandUptoRow : OpenClaim := { program := "ytbgnabbgepleaaa", sum := "fae312e5534e11904cacc5a7c14bf7c97354be12dd411e10cc32ab307d41792b", func := "loop.example/g01114/laws.FnExactIsSand", spec := "fnExactIsSand", apart := false, narrowed := true }
def FnExactIsSandUptoSaid : Prop := fnExactIsSandUptoRow.holds Try.pinned (OpenSpec.upto fnExactIsSandSpec)

/-- 'laws.FnExactFallsOf', WHERE WHAT IT READS IS OF BULK AT MOST 1048576: true; the input reads as it did. -/
def fnExactFallsOfUptoRow : OpenClaim := { program := "ytbgnabbgepleaaa", sum := "fae312e5534e11904cacc5a7c14bf7c97354be12dd411e10cc32ab307d41792b", func := "loop.example/g01114/laws.FnExactFallsOf", spec := "fnExactFallsOf", unfollowed := true, recurses := true, apart := false, narrowed := true }
def FnExactFallsOfUptoSaid : Prop := fnExactFallsOfUptoRow.holds Try.pinned (OpenSpec.upto fnExactFallsOfSpec)

/-- 'laws.FnExactFallGrain', WHERE WHAT IT READS IS OF BULK AT MOST 1048576: true; the input reads as it did. -/
def fnExactFallGrainUptoRow : OpenClaim := { program := "ytbgnabbgepleaaa", sum := "fae312e5534e11904cacc5a7c14bf7c97354be12dd411e10cc32ab307d41792b", func := "loop.example/g01114/laws.FnExactFallGrain", spec := "fnExactFallGrain", unfollowed := true, recurses := true, apart := false, narrowed := true }
def FnExactFallGrainUptoSaid : Prop := fnExactFallGrainUptoRow.holds Try.pinned (OpenSpec.upto fnExactFallGrainSpec)

/-- 'laws.FnExactIsSettled', WHERE WHAT IT READS IS OF BULK AT MOST 1048576: true; the input reads as it did. -/
def fnExactIsSettledUptoRow : OpenClaim := { program := "ytbgnabbgepleaaa", sum := "fae312e5534e11904cacc5a7c14bf7c97354be12dd411e10cc32ab307d41792b", func := "loop.example/g01114/laws.FnExactIsSettled", spec := "fnExactIsSettled", apart := false, narrowed := true }
def FnExactIsSettledUptoSaid : Prop := fnExactIsSettledUptoRow.holds Try.pinned (OpenSpec.upto fnExactIsSettledSpec)

/-- 'laws.FnExactSettleSand', WHERE WHAT IT READS IS OF BULK AT MOST 1048576: true; the input reads as it did. -/
def fnExactSettleSandUptoRow : OpenClaim := { program := "ytbgnabbgepleaaa", sum := "fae312e5534e11904cacc5a7c14bf7c97354be12dd411e10cc32ab307d41792b", func := "loop.example/g01114/laws.FnExactSettleSand", spec := "fnExactSettleSand", unfollowed := true, recurses := true, apart := false, narrowed := true }
def FnExactSettleSandUptoSaid : Prop := fnExactSettleSandUptoRow.holds Try.pinned (OpenSpec.upto fnExactSettleSandSpec)

/-- 'laws.FnExactFallCounts', WHERE WHAT IT READS IS OF BULK AT MOST 1048576: true; the input reads as it did. -/
def fnExactFallCountsUptoRow : OpenClaim := { program := "ytbgnabbgepleaaa", sum := "fae312e5534e11904cacc5a7c14bf7c97354be12dd411e10cc32ab307d41792b", func := "loop.example/g01114/laws.FnExactFallCounts", spec := "fnExactFallCounts", unfollowed := true, recurses := true, apart := false, narrowed := true }
def FnExactFallCountsUptoSaid : Prop := fnExactFallCountsUptoRow.holds Try.pinned (OpenSpec.upto fnExactFallCountsSpec)

/-- 'laws.FnExactPlayFalls', WHERE WHAT IT READS IS OF BULK AT MOST 1048576: true; the input reads as it did. -/
def fnExactPlayFallsUptoRow : OpenClaim := { program := "ytbgnabbgepleaaa", sum := "fae312e5534e11904cacc5a7c14bf7c97354be12dd411e10cc32ab307d41792b", func := "loop.example/g01114/laws.FnExactPlayFalls", spec := "fnExactPlayFalls", unfollowed := true, recurses := true, apart := false, narrowed := true }
def FnExactPlayFallsUptoSaid : Prop := fnExactPlayFallsUptoRow.holds Try.pinned (OpenSpec.upto fnExactPlayFallsSpec)

/-- 'laws.FnExactWeightOf', WHERE WHAT IT READS IS OF BULK AT MOST 1048576: true; the input reads as it did. -/
def fnExactWeightOfUptoRow : OpenClaim := { program := "ytbgnabbgepleaaa", sum := "fae312e5534e11904cacc5a7c14bf7c97354be12dd411e10cc32ab307d41792b", func := "loop.example/g01114/laws.FnExactWeightOf", spec := "fnExactWeightOf", apart := false, narrowed := true }
def FnExactWeightOfUptoSaid : Prop := fnExactWeightOfUptoRow.holds Try.pinned (OpenSpec.upto fnExactWeightOfSpec)

/-- 'laws.FnExactSettledShape', WHERE WHAT IT READS IS OF BULK AT MOST 1048576: true; the input reads as it did. -/
def fnExactSettledShapeUptoRow : OpenClaim := { program := "ytbgnabbgepleaaa", sum := "fae312e5534e11904cacc5a7c14bf7c97354be12dd411e10cc32ab307d41792b", func := "loop.example/g01114/laws.FnExactSettledShape", spec := "fnExactSettledShape", unfollowed := true, recurses := true, apart := false, narrowed := true }
def FnExactSettledShapeUptoSaid : Prop := fnExactSettledShapeUptoRow.holds Try.pinned (OpenSpec.upto fnExactSettledShapeSpec)

/-- 'laws.FnExactReachSand', WHERE WHAT IT READS IS OF BULK AT MOST 1048576: true; the input reads as it did. -/
def fnExactReachSandUptoRow : OpenClaim := { program := "ytbgnabbgepleaaa", sum := "fae312e5534e11904cacc5a7c14bf7c97354be12dd411e10cc32ab307d41792b", func := "loop.example/g01114/laws.FnExactReachSand", spec := "fnExactReachSand", unfollowed := true, recurses := true, apart := false, narrowed := true }
def FnExactReachSandUptoSaid : Prop := fnExactReachSandUptoRow.holds Try.pinned (OpenSpec.upto fnExactReachSandSpec)

/-- 'laws.FnExactCountReach', WHERE WHAT IT READS IS OF BULK AT MOST 1048576: true; the input reads as it did. -/
def fnExactCountReachUptoRow : OpenClaim := { program := "ytbgnabbgepleaaa", sum := "fae312e5534e11904cacc5a7c14bf7c97354be12dd411e10cc32ab307d41792b", func := "loop.example/g01114/laws.FnExactCountReach", spec := "fnExactCountReach", unfollowed := true, recurses := true, apart := false, narrowed := true }
def FnExactCountReachUptoSaid : Prop := fnExactCountReachUptoRow.holds Try.pinned (OpenSpec.upto fnExactCountReachSpec)

/-- 'laws.FnExactCanReach', WHERE WHAT IT READS IS OF BULK AT MOST 1048576: true; the input reads as it did. -/
def fnExactCanReachUptoRow : OpenClaim := { program := "ytbgnabbgepleaaa", sum := "fae312e5534e11904cacc5a7c14bf7c97354be12dd411e10cc32ab307d41792b", func := "loop.example/g01114/laws.FnExactCanReach", spec := "fnExactCanReach", unfollowed := true, recurses := true, apart := false, narrowed := true }
def FnExactCanReachUptoSaid : Prop := fnExactCanReachUptoRow.holds Try.pinned (OpenSpec.upto fnExactCanReachSpec)

/-- 'laws.FnExactFallsBetween', WHERE WHAT IT READS IS OF BULK AT MOST 1048576: true; the input reads as it did. -/
def fnExactFallsBetweenUptoRow : OpenClaim := { program := "ytbgnabbgepleaaa", sum := "fae312e5534e11904cacc5a7c14bf7c97354be12dd411e10cc32ab307d41792b", func := "loop.example/g01114/laws.FnExactFallsBetween", spec := "fnExactFallsBetween", unfollowed := true, recurses := true, apart := false, narrowed := true }
def FnExactFallsBetweenUptoSaid : Prop := fnExactFallsBetweenUptoRow.holds Try.pinned (OpenSpec.upto fnExactFallsBetweenSpec)

/-- 'laws.FnExactFallVector', WHERE WHAT IT READS IS OF BULK AT MOST 1048576: true; the input reads as it did. -/
def fnExactFallVectorUptoRow : OpenClaim := { program := "ytbgnabbgepleaaa", sum := "fae312e5534e11904cacc5a7c14bf7c97354be12dd411e10cc32ab307d41792b", func := "loop.example/g01114/laws.FnExactFallVector", spec := "fnExactFallVector", unfollowed := true, recurses := true, apart := false, narrowed := true }
def FnExactFallVectorUptoSaid : Prop := fnExactFallVectorUptoRow.holds Try.pinned (OpenSpec.upto fnExactFallVectorSpec)

/-- 'laws.FnExactLowestOf', WHERE WHAT IT READS IS OF BULK AT MOST 1048576: true; the input reads as it did. -/
def fnExactLowestOfUptoRow : OpenClaim := { program := "ytbgnabbgepleaaa", sum := "fae312e5534e11904cacc5a7c14bf7c97354be12dd411e10cc32ab307d41792b", func := "loop.example/g01114/laws.FnExactLowestOf", spec := "fnExactLowestOf", unfollowed := true, recurses := true, apart := false, narrowed := true }
def FnExactLowestOfUptoSaid : Prop := fnExactLowestOfUptoRow.holds Try.pinned (OpenSpec.upto fnExactLowestOfSpec)

end Rows
end Go.Proofs.Ytbgnabbgepleaaa
