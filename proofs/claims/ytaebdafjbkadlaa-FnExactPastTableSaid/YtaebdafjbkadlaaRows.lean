/-
  No cell of these rows narrows 'for every input' (looked for: loops, veiled, ifaces, maps, wideKeys, modest, calm, conditions, laid).
  DERIVED. THE GIVEN ROWS OF THIS SEAT. 16 by the template 'for every input the law returns true; each argument reads behind the call as it read before'; 0 by the template 'total and deterministic' (their statements: YtaebdafjbkadlaaTotals.lean).
  GIVEN WITH THE SEED: the statements are not yours to turn. If you find one false, say at which input.
  Laid BY PROGRAM, IN A SANDBOX (cutbox-rows.mjs): the forced cells as the released guide's own fill.sh prints them over the translation 275926aba0c05fe2… (all of the seat's roots in one cut). By AI agents, Wed Nov 11 2026. No macro, syntax, notation, axiom, sorry.
-/
import Derived.Test.YtaebdafjbkadlaaChecked
import GoSem.Claim
import GoSem.ClaimJoined
import GoSem.ClaimMapViews
import Derived.JoinedTies
import Derived.KernelRfl
namespace Go.Proofs.Ytaebdafjbkadlaa
/- THE CELL 'sum', in the pinned program and in every row, IS THE sha256 OF THE DUMP (.gsa) THAT YtaebdafjbkadlaaProg.lean LOADS. Nothing in Lean hashes anything: it is a label: what it is worth is what the hold of that sum in a sandbox is worth. -/
noncomputable def Try.pinned : Pinned := { name := "ytaebdafjbkadlaa", sum := "275926aba0c05fe22a71b104794483e3f94900516a8e2ff1350e3bf37c8fca2f", checked := Try.checked }
namespace Rows
def none {H : Type} : Left H := { results := [], args := [] }

/-- 'laws.FnGardensHaveNoPast': WHATEVER THE INPUT: true; the input reads as it did. -/
def fnGardensHaveNoPastSpec : ChangeSpec := { name := "fnGardensHaveNoPast", fn := fun _ => fun
  | [d1, d2] => { results := [.lit (.bool true)], args := [d1, d2] }
  | _ => none }
def fnGardensHaveNoPastRow : OpenClaim := { program := "ytaebdafjbkadlaa", sum := "275926aba0c05fe22a71b104794483e3f94900516a8e2ff1350e3bf37c8fca2f", func := "loop.example/g01114/laws.FnGardensHaveNoPast", spec := "fnGardensHaveNoPast", unfollowed := true, recurses := true, apart := false }
def FnGardensHaveNoPastSaid : Prop := fnGardensHaveNoPastRow.holds Try.pinned (OpenSpec.ofChange fnGardensHaveNoPastSpec)

/-- ITS FALSE NEIGHBOUR: 'it returns false'. Refute it at one input. -/
def fnGardensHaveNoPastWrong : ChangeSpec := { name := "fnGardensHaveNoPast", fn := fun _ => fun
  | [d1, d2] => { results := [.lit (.bool false)], args := [d1, d2] }
  | _ => none }
def FnGardensHaveNoPastWrongFalsely : Prop := fnGardensHaveNoPastRow.holds Try.pinned (OpenSpec.ofChange fnGardensHaveNoPastWrong)

/-- 'laws.FnLinesBack': WHATEVER THE INPUT: true; the input reads as it did. -/
def fnLinesBackSpec : ChangeSpec := { name := "fnLinesBack", fn := fun _ => fun
  | [d1, d2] => { results := [.lit (.bool true)], args := [d1, d2] }
  | _ => none }
def fnLinesBackRow : OpenClaim := { program := "ytaebdafjbkadlaa", sum := "275926aba0c05fe22a71b104794483e3f94900516a8e2ff1350e3bf37c8fca2f", func := "loop.example/g01114/laws.FnLinesBack", spec := "fnLinesBack", unfollowed := true, recurses := true, apart := false }
def FnLinesBackSaid : Prop := fnLinesBackRow.holds Try.pinned (OpenSpec.ofChange fnLinesBackSpec)

/-- ITS FALSE NEIGHBOUR: 'it returns false'. Refute it at one input. -/
def fnLinesBackWrong : ChangeSpec := { name := "fnLinesBack", fn := fun _ => fun
  | [d1, d2] => { results := [.lit (.bool false)], args := [d1, d2] }
  | _ => none }
def FnLinesBackWrongFalsely : Prop := fnLinesBackRow.holds Try.pinned (OpenSpec.ofChange fnLinesBackWrong)

/-- 'laws.FnExactIsGarden': WHATEVER THE INPUT: true; the input reads as it did. -/
def fnExactIsGardenSpec : ChangeSpec := { name := "fnExactIsGarden", fn := fun _ => fun
  | [d] => { results := [.lit (.bool true)], args := [d] }
  | _ => none }
def fnExactIsGardenRow : OpenClaim := { program := "ytaebdafjbkadlaa", sum := "275926aba0c05fe22a71b104794483e3f94900516a8e2ff1350e3bf37c8fca2f", func := "loop.example/g01114/laws.FnExactIsGarden", spec := "fnExactIsGarden", apart := false }
def FnExactIsGardenSaid : Prop := fnExactIsGardenRow.holds Try.pinned (OpenSpec.ofChange fnExactIsGardenSpec)

/-- ITS FALSE NEIGHBOUR: 'it returns false'. Refute it at one input. -/
def fnExactIsGardenWrong : ChangeSpec := { name := "fnExactIsGarden", fn := fun _ => fun
  | [d] => { results := [.lit (.bool false)], args := [d] }
  | _ => none }
def FnExactIsGardenWrongFalsely : Prop := fnExactIsGardenRow.holds Try.pinned (OpenSpec.ofChange fnExactIsGardenWrong)

/-- 'laws.FnExactGardensOf': WHATEVER THE INPUT: true; the input reads as it did. -/
def fnExactGardensOfSpec : ChangeSpec := { name := "fnExactGardensOf", fn := fun _ => fun
  | [d] => { results := [.lit (.bool true)], args := [d] }
  | _ => none }
def fnExactGardensOfRow : OpenClaim := { program := "ytaebdafjbkadlaa", sum := "275926aba0c05fe22a71b104794483e3f94900516a8e2ff1350e3bf37c8fca2f", func := "loop.example/g01114/laws.FnExactGardensOf", spec := "fnExactGardensOf", unfollowed := true, recurses := true, apart := false }
def FnExactGardensOfSaid : Prop := fnExactGardensOfRow.holds Try.pinned (OpenSpec.ofChange fnExactGardensOfSpec)

/-- ITS FALSE NEIGHBOUR: 'it returns false'. Refute it at one input. -/
def fnExactGardensOfWrong : ChangeSpec := { name := "fnExactGardensOf", fn := fun _ => fun
  | [d] => { results := [.lit (.bool false)], args := [d] }
  | _ => none }
def FnExactGardensOfWrongFalsely : Prop := fnExactGardensOfRow.holds Try.pinned (OpenSpec.ofChange fnExactGardensOfWrong)

/-- 'laws.FnExactCountGardens': WHATEVER THE INPUT: true; the input reads as it did. -/
def fnExactCountGardensSpec : ChangeSpec := { name := "fnExactCountGardens", fn := fun _ => fun
  | [d] => { results := [.lit (.bool true)], args := [d] }
  | _ => none }
def fnExactCountGardensRow : OpenClaim := { program := "ytaebdafjbkadlaa", sum := "275926aba0c05fe22a71b104794483e3f94900516a8e2ff1350e3bf37c8fca2f", func := "loop.example/g01114/laws.FnExactCountGardens", spec := "fnExactCountGardens", unfollowed := true, recurses := true, apart := false }
def FnExactCountGardensSaid : Prop := fnExactCountGardensRow.holds Try.pinned (OpenSpec.ofChange fnExactCountGardensSpec)

/-- ITS FALSE NEIGHBOUR: 'it returns false'. Refute it at one input. -/
def fnExactCountGardensWrong : ChangeSpec := { name := "fnExactCountGardens", fn := fun _ => fun
  | [d] => { results := [.lit (.bool false)], args := [d] }
  | _ => none }
def FnExactCountGardensWrongFalsely : Prop := fnExactCountGardensRow.holds Try.pinned (OpenSpec.ofChange fnExactCountGardensWrong)

/-- 'laws.FnExactPastsAt': WHATEVER THE INPUT: true; the input reads as it did. -/
def fnExactPastsAtSpec : ChangeSpec := { name := "fnExactPastsAt", fn := fun _ => fun
  | [d1, d2] => { results := [.lit (.bool true)], args := [d1, d2] }
  | _ => none }
def fnExactPastsAtRow : OpenClaim := { program := "ytaebdafjbkadlaa", sum := "275926aba0c05fe22a71b104794483e3f94900516a8e2ff1350e3bf37c8fca2f", func := "loop.example/g01114/laws.FnExactPastsAt", spec := "fnExactPastsAt", unfollowed := true, recurses := true, apart := false }
def FnExactPastsAtSaid : Prop := fnExactPastsAtRow.holds Try.pinned (OpenSpec.ofChange fnExactPastsAtSpec)

/-- ITS FALSE NEIGHBOUR: 'it returns false'. Refute it at one input. -/
def fnExactPastsAtWrong : ChangeSpec := { name := "fnExactPastsAt", fn := fun _ => fun
  | [d1, d2] => { results := [.lit (.bool false)], args := [d1, d2] }
  | _ => none }
def FnExactPastsAtWrongFalsely : Prop := fnExactPastsAtRow.holds Try.pinned (OpenSpec.ofChange fnExactPastsAtWrong)

/-- 'laws.FnExactCountAt': WHATEVER THE INPUT: true; the input reads as it did. -/
def fnExactCountAtSpec : ChangeSpec := { name := "fnExactCountAt", fn := fun _ => fun
  | [d1, d2] => { results := [.lit (.bool true)], args := [d1, d2] }
  | _ => none }
def fnExactCountAtRow : OpenClaim := { program := "ytaebdafjbkadlaa", sum := "275926aba0c05fe22a71b104794483e3f94900516a8e2ff1350e3bf37c8fca2f", func := "loop.example/g01114/laws.FnExactCountAt", spec := "fnExactCountAt", unfollowed := true, recurses := true, apart := false }
def FnExactCountAtSaid : Prop := fnExactCountAtRow.holds Try.pinned (OpenSpec.ofChange fnExactCountAtSpec)

/-- ITS FALSE NEIGHBOUR: 'it returns false'. Refute it at one input. -/
def fnExactCountAtWrong : ChangeSpec := { name := "fnExactCountAt", fn := fun _ => fun
  | [d1, d2] => { results := [.lit (.bool false)], args := [d1, d2] }
  | _ => none }
def FnExactCountAtWrongFalsely : Prop := fnExactCountAtRow.holds Try.pinned (OpenSpec.ofChange fnExactCountAtWrong)

/-- 'laws.FnExactTreeOf': WHATEVER THE INPUT: true; the input reads as it did. -/
def fnExactTreeOfSpec : ChangeSpec := { name := "fnExactTreeOf", fn := fun _ => fun
  | [d] => { results := [.lit (.bool true)], args := [d] }
  | _ => none }
def fnExactTreeOfRow : OpenClaim := { program := "ytaebdafjbkadlaa", sum := "275926aba0c05fe22a71b104794483e3f94900516a8e2ff1350e3bf37c8fca2f", func := "loop.example/g01114/laws.FnExactTreeOf", spec := "fnExactTreeOf", unfollowed := true, recurses := true, apart := false }
def FnExactTreeOfSaid : Prop := fnExactTreeOfRow.holds Try.pinned (OpenSpec.ofChange fnExactTreeOfSpec)

/-- ITS FALSE NEIGHBOUR: 'it returns false'. Refute it at one input. -/
def fnExactTreeOfWrong : ChangeSpec := { name := "fnExactTreeOf", fn := fun _ => fun
  | [d] => { results := [.lit (.bool false)], args := [d] }
  | _ => none }
def FnExactTreeOfWrongFalsely : Prop := fnExactTreeOfRow.holds Try.pinned (OpenSpec.ofChange fnExactTreeOfWrong)

/-- 'laws.FnExactTreeSize': WHATEVER THE INPUT: true; the input reads as it did. -/
def fnExactTreeSizeSpec : ChangeSpec := { name := "fnExactTreeSize", fn := fun _ => fun
  | [d] => { results := [.lit (.bool true)], args := [d] }
  | _ => none }
def fnExactTreeSizeRow : OpenClaim := { program := "ytaebdafjbkadlaa", sum := "275926aba0c05fe22a71b104794483e3f94900516a8e2ff1350e3bf37c8fca2f", func := "loop.example/g01114/laws.FnExactTreeSize", spec := "fnExactTreeSize", unfollowed := true, recurses := true, apart := false }
def FnExactTreeSizeSaid : Prop := fnExactTreeSizeRow.holds Try.pinned (OpenSpec.ofChange fnExactTreeSizeSpec)

/-- ITS FALSE NEIGHBOUR: 'it returns false'. Refute it at one input. -/
def fnExactTreeSizeWrong : ChangeSpec := { name := "fnExactTreeSize", fn := fun _ => fun
  | [d] => { results := [.lit (.bool false)], args := [d] }
  | _ => none }
def FnExactTreeSizeWrongFalsely : Prop := fnExactTreeSizeRow.holds Try.pinned (OpenSpec.ofChange fnExactTreeSizeWrong)

/-- 'laws.FnExactDepthOf': WHATEVER THE INPUT: true; the input reads as it did. -/
def fnExactDepthOfSpec : ChangeSpec := { name := "fnExactDepthOf", fn := fun _ => fun
  | [d] => { results := [.lit (.bool true)], args := [d] }
  | _ => none }
def fnExactDepthOfRow : OpenClaim := { program := "ytaebdafjbkadlaa", sum := "275926aba0c05fe22a71b104794483e3f94900516a8e2ff1350e3bf37c8fca2f", func := "loop.example/g01114/laws.FnExactDepthOf", spec := "fnExactDepthOf", unfollowed := true, recurses := true, apart := false }
def FnExactDepthOfSaid : Prop := fnExactDepthOfRow.holds Try.pinned (OpenSpec.ofChange fnExactDepthOfSpec)

/-- ITS FALSE NEIGHBOUR: 'it returns false'. Refute it at one input. -/
def fnExactDepthOfWrong : ChangeSpec := { name := "fnExactDepthOf", fn := fun _ => fun
  | [d] => { results := [.lit (.bool false)], args := [d] }
  | _ => none }
def FnExactDepthOfWrongFalsely : Prop := fnExactDepthOfRow.holds Try.pinned (OpenSpec.ofChange fnExactDepthOfWrong)

/-- 'laws.FnExactFarthestPast': WHATEVER THE INPUT: true; the input reads as it did. -/
def fnExactFarthestPastSpec : ChangeSpec := { name := "fnExactFarthestPast", fn := fun _ => fun
  | [d] => { results := [.lit (.bool true)], args := [d] }
  | _ => none }
def fnExactFarthestPastRow : OpenClaim := { program := "ytaebdafjbkadlaa", sum := "275926aba0c05fe22a71b104794483e3f94900516a8e2ff1350e3bf37c8fca2f", func := "loop.example/g01114/laws.FnExactFarthestPast", spec := "fnExactFarthestPast", unfollowed := true, recurses := true, apart := false }
def FnExactFarthestPastSaid : Prop := fnExactFarthestPastRow.holds Try.pinned (OpenSpec.ofChange fnExactFarthestPastSpec)

/-- ITS FALSE NEIGHBOUR: 'it returns false'. Refute it at one input. -/
def fnExactFarthestPastWrong : ChangeSpec := { name := "fnExactFarthestPast", fn := fun _ => fun
  | [d] => { results := [.lit (.bool false)], args := [d] }
  | _ => none }
def FnExactFarthestPastWrongFalsely : Prop := fnExactFarthestPastRow.holds Try.pinned (OpenSpec.ofChange fnExactFarthestPastWrong)

/-- 'laws.FnExactFirstPast': WHATEVER THE INPUT: true; the input reads as it did. -/
def fnExactFirstPastSpec : ChangeSpec := { name := "fnExactFirstPast", fn := fun _ => fun
  | [d] => { results := [.lit (.bool true)], args := [d] }
  | _ => none }
def fnExactFirstPastRow : OpenClaim := { program := "ytaebdafjbkadlaa", sum := "275926aba0c05fe22a71b104794483e3f94900516a8e2ff1350e3bf37c8fca2f", func := "loop.example/g01114/laws.FnExactFirstPast", spec := "fnExactFirstPast", unfollowed := true, recurses := true, apart := false }
def FnExactFirstPastSaid : Prop := fnExactFirstPastRow.holds Try.pinned (OpenSpec.ofChange fnExactFirstPastSpec)

/-- ITS FALSE NEIGHBOUR: 'it returns false'. Refute it at one input. -/
def fnExactFirstPastWrong : ChangeSpec := { name := "fnExactFirstPast", fn := fun _ => fun
  | [d] => { results := [.lit (.bool false)], args := [d] }
  | _ => none }
def FnExactFirstPastWrongFalsely : Prop := fnExactFirstPastRow.holds Try.pinned (OpenSpec.ofChange fnExactFirstPastWrong)

/-- 'laws.FnExactLineBack': WHATEVER THE INPUT: true; the input reads as it did. -/
def fnExactLineBackSpec : ChangeSpec := { name := "fnExactLineBack", fn := fun _ => fun
  | [d] => { results := [.lit (.bool true)], args := [d] }
  | _ => none }
def fnExactLineBackRow : OpenClaim := { program := "ytaebdafjbkadlaa", sum := "275926aba0c05fe22a71b104794483e3f94900516a8e2ff1350e3bf37c8fca2f", func := "loop.example/g01114/laws.FnExactLineBack", spec := "fnExactLineBack", unfollowed := true, recurses := true, apart := false }
def FnExactLineBackSaid : Prop := fnExactLineBackRow.holds Try.pinned (OpenSpec.ofChange fnExactLineBackSpec)

/-- ITS FALSE NEIGHBOUR: 'it returns false'. Refute it at one input. -/
def fnExactLineBackWrong : ChangeSpec := { name := "fnExactLineBack", fn := fun _ => fun
  | [d] => { results := [.lit (.bool false)], args := [d] }
  | _ => none }
def FnExactLineBackWrongFalsely : Prop := fnExactLineBackRow.holds Try.pinned (OpenSpec.ofChange fnExactLineBackWrong)

/-- 'laws.FnExactDepthTable': WHATEVER THE INPUT: true; the input reads as it did. -/
def fnExactDepthTableSpec : ChangeSpec := { name := "fnExactDepthTable", fn := fun _ => fun
  | [d] => { results := [.lit (.bool true)], args := [d] }
  | _ => none }
def fnExactDepthTableRow : OpenClaim := { program := "ytaebdafjbkadlaa", sum := "275926aba0c05fe22a71b104794483e3f94900516a8e2ff1350e3bf37c8fca2f", func := "loop.example/g01114/laws.FnExactDepthTable", spec := "fnExactDepthTable", unfollowed := true, recurses := true, apart := false }
def FnExactDepthTableSaid : Prop := fnExactDepthTableRow.holds Try.pinned (OpenSpec.ofChange fnExactDepthTableSpec)

/-- ITS FALSE NEIGHBOUR: 'it returns false'. Refute it at one input. -/
def fnExactDepthTableWrong : ChangeSpec := { name := "fnExactDepthTable", fn := fun _ => fun
  | [d] => { results := [.lit (.bool false)], args := [d] }
  | _ => none }
def FnExactDepthTableWrongFalsely : Prop := fnExactDepthTableRow.holds Try.pinned (OpenSpec.ofChange fnExactDepthTableWrong)

/-- 'laws.FnExactPastTable': WHATEVER THE INPUT: true; the input reads as it did. -/
def fnExactPastTableSpec : ChangeSpec := { name := "fnExactPastTable", fn := fun _ => fun
  | [d] => { results := [.lit (.bool true)], args := [d] }
  | _ => none }
def fnExactPastTableRow : OpenClaim := { program := "ytaebdafjbkadlaa", sum := "275926aba0c05fe22a71b104794483e3f94900516a8e2ff1350e3bf37c8fca2f", func := "loop.example/g01114/laws.FnExactPastTable", spec := "fnExactPastTable", unfollowed := true, recurses := true, apart := false }
def FnExactPastTableSaid : Prop := fnExactPastTableRow.holds Try.pinned (OpenSpec.ofChange fnExactPastTableSpec)

/-- ITS FALSE NEIGHBOUR: 'it returns false'. Refute it at one input. -/
def fnExactPastTableWrong : ChangeSpec := { name := "fnExactPastTable", fn := fun _ => fun
  | [d] => { results := [.lit (.bool false)], args := [d] }
  | _ => none }
def FnExactPastTableWrongFalsely : Prop := fnExactPastTableRow.holds Try.pinned (OpenSpec.ofChange fnExactPastTableWrong)

/-- 'laws.FnExactIsPastOf': WHATEVER THE INPUT: true; the input reads as it did. -/
def fnExactIsPastOfSpec : ChangeSpec := { name := "fnExactIsPastOf", fn := fun _ => fun
  | [d1, d2] => { results := [.lit (.bool true)], args := [d1, d2] }
  | _ => none }
def fnExactIsPastOfRow : OpenClaim := { program := "ytaebdafjbkadlaa", sum := "275926aba0c05fe22a71b104794483e3f94900516a8e2ff1350e3bf37c8fca2f", func := "loop.example/g01114/laws.FnExactIsPastOf", spec := "fnExactIsPastOf", unfollowed := true, recurses := true, apart := false }
def FnExactIsPastOfSaid : Prop := fnExactIsPastOfRow.holds Try.pinned (OpenSpec.ofChange fnExactIsPastOfSpec)

/-- ITS FALSE NEIGHBOUR: 'it returns false'. Refute it at one input. -/
def fnExactIsPastOfWrong : ChangeSpec := { name := "fnExactIsPastOf", fn := fun _ => fun
  | [d1, d2] => { results := [.lit (.bool false)], args := [d1, d2] }
  | _ => none }
def FnExactIsPastOfWrongFalsely : Prop := fnExactIsPastOfRow.holds Try.pinned (OpenSpec.ofChange fnExactIsPastOfWrong)

/- THE SECOND FORM. 'bulk': how many values and letters a reading holds, each counted each time it is reached (what is shared counts as often as it is met; a slice's spare places count too). A statement '..UptoSaid' is the law's where the arguments, and the package variables that the reading takes, are together of bulk at most 1048576: NARROWER than '..Said'. Prove '..Said' where nothing that the law and all that it calls make is longer than what came in: it says more and counts as full. Else prove '..UptoSaid'. A law counts once. -/
mutual
def uptoBulk {H : Type} : DataW H → Nat
  | .lit (.string bytes) => bytes.length + 1
  | .lit _ => 1
  | .nil => 1
  | .ptr d => uptoBulk d + 1
  | .slice elems spare => uptoBulkAll elems + uptoBulkAll spare + 1
  | .agg parts => uptoBulkAll parts + 1
  | .iface _ d => uptoBulk d + 1
  | .map entries => uptoBulkEntries entries + 1
  | .held _ => 1
def uptoBulkAll {H : Type} : List (DataW H) → Nat
  | [] => 0
  | d :: r => uptoBulk d + uptoBulkAll r
def uptoBulkEntries {H : Type} : List (Lit × DataW H) → Nat
  | [] => 0
  | x :: r => uptoBulkEntry x + uptoBulkEntries r
def uptoBulkEntry {H : Type} : Lit × DataW H → Nat
  | (.string bytes, d) => bytes.length + uptoBulk d + 1
  | (_, d) => uptoBulk d + 1
 end
def uptoSmall : (H : Type) → List (DataW H) → Bool := fun _ ds => decide (uptoBulkAll ds ≤ 1048576)
def OpenSpec.upto (s : _root_.Go.ChangeSpec) : _root_.Go.OpenSpec := { _root_.Go.OpenSpec.ofChange s with cond := some uptoSmall }

/-- 'laws.FnGardensHaveNoPast', WHERE WHAT IT READS IS OF BULK AT MOST 1048576: true; the input reads as it did. -/
def fnGardensHaveNoPastUptoRow : OpenClaim := { program := "ytaebdafjbkadlaa", sum := "275926aba0c05fe22a71b104794483e3f94900516a8e2ff1350e3bf37c8fca2f", func := "loop.example/g01114/laws.FnGardensHaveNoPast", spec := "fnGardensHaveNoPast", unfollowed := true, recurses := true, apart := false, narrowed := true }
def FnGardensHaveNoPastUptoSaid : Prop := fnGardensHaveNoPastUptoRow.holds Try.pinned (OpenSpec.upto fnGardensHaveNoPastSpec)

/-- 'laws.FnLinesBack', WHERE WHAT IT READS IS OF BULK AT MOST 1048576: true; the input reads as it did. -/
def fnLinesBackUptoRow : OpenClaim := { program := "ytaebdafjbkadlaa", sum := "275926aba0c05fe22a71b104794483e3f94900516a8e2ff1350e3bf37c8fca2f", func := "loop.example/g01114/laws.FnLinesBack", spec := "fnLinesBack", unfollowed := true, recurses := true, apart := false, narrowed := true }
def FnLinesBackUptoSaid : Prop := fnLinesBackUptoRow.holds Try.pinned (OpenSpec.upto fnLinesBackSpec)

/-- 'laws.FnExactIsGarden', WHERE WHAT IT READS IS OF BULK AT MOST 1048576: true; the input reads as it did. -/
def fnExactIsGardenUptoRow : OpenClaim := { program := "ytaebdafjbkadlaa", sum := "275926aba0c05fe22a71b104794483e3f94900516a8e2ff1350e3bf37c8fca2f", func := "loop.example/g01114/laws.FnExactIsGarden", spec := "fnExactIsGarden", apart := false, narrowed := true }
def FnExactIsGardenUptoSaid : Prop := fnExactIsGardenUptoRow.holds Try.pinned (OpenSpec.upto fnExactIsGardenSpec)

/-- 'laws.FnExactGardensOf', WHERE WHAT IT READS IS OF BULK AT MOST 1048576: true; the input reads as it did. -/
def fnExactGardensOfUptoRow : OpenClaim := { program := "ytaebdafjbkadlaa", sum := "275926aba0c05fe22a71b104794483e3f94900516a8e2ff1350e3bf37c8fca2f", func := "loop.example/g01114/laws.FnExactGardensOf", spec := "fnExactGardensOf", unfollowed := true, recurses := true, apart := false, narrowed := true }
def FnExactGardensOfUptoSaid : Prop := fnExactGardensOfUptoRow.holds Try.pinned (OpenSpec.upto fnExactGardensOfSpec)

/-- 'laws.FnExactCountGardens', WHERE WHAT IT READS IS OF BULK AT MOST 1048576: true; the input reads as it did. -/
def fnExactCountGardensUptoRow : OpenClaim := { program := "ytaebdafjbkadlaa", sum := "275926aba0c05fe22a71b104794483e3f94900516a8e2ff1350e3bf37c8fca2f", func := "loop.example/g01114/laws.FnExactCountGardens", spec := "fnExactCountGardens", unfollowed := true, recurses := true, apart := false, narrowed := true }
def FnExactCountGardensUptoSaid : Prop := fnExactCountGardensUptoRow.holds Try.pinned (OpenSpec.upto fnExactCountGardensSpec)

/-- 'laws.FnExactPastsAt', WHERE WHAT IT READS IS OF BULK AT MOST 1048576: true; the input reads as it did. -/
def fnExactPastsAtUptoRow : OpenClaim := { program := "ytaebdafjbkadlaa", sum := "275926aba0c05fe22a71b104794483e3f94900516a8e2ff1350e3bf37c8fca2f", func := "loop.example/g01114/laws.FnExactPastsAt", spec := "fnExactPastsAt", unfollowed := true, recurses := true, apart := false, narrowed := true }
def FnExactPastsAtUptoSaid : Prop := fnExactPastsAtUptoRow.holds Try.pinned (OpenSpec.upto fnExactPastsAtSpec)

/-- 'laws.FnExactCountAt', WHERE WHAT IT READS IS OF BULK AT MOST 1048576: true; the input reads as it did. -/
def fnExactCountAtUptoRow : OpenClaim := { program := "ytaebdafjbkadlaa", sum := "275926aba0c05fe22a71b104794483e3f94900516a8e2ff1350e3bf37c8fca2f", func := "loop.example/g01114/laws.FnExactCountAt", spec := "fnExactCountAt", unfollowed := true, recurses := true, apart := false, narrowed := true }
def FnExactCountAtUptoSaid : Prop := fnExactCountAtUptoRow.holds Try.pinned (OpenSpec.upto fnExactCountAtSpec)

/-- 'laws.FnExactTreeOf', WHERE WHAT IT READS IS OF BULK AT MOST 1048576: true; the input reads as it did. -/
def fnExactTreeOfUptoRow : OpenClaim := { program := "ytaebdafjbkadlaa", sum := "275926aba0c05fe22a71b104794483e3f94900516a8e2ff1350e3bf37c8fca2f", func := "loop.example/g01114/laws.FnExactTreeOf", spec := "fnExactTreeOf", unfollowed := true, recurses := true, apart := false, narrowed := true }
def FnExactTreeOfUptoSaid : Prop := fnExactTreeOfUptoRow.holds Try.pinned (OpenSpec.upto fnExactTreeOfSpec)

/-- 'laws.FnExactTreeSize', WHERE WHAT IT READS IS OF BULK AT MOST 1048576: true; the input reads as it did. -/
def fnExactTreeSizeUptoRow : OpenClaim := { program := "ytaebdafjbkadlaa", sum := "275926aba0c05fe22a71b104794483e3f94900516a8e2ff1350e3bf37c8fca2f", func := "loop.example/g01114/laws.FnExactTreeSize", spec := "fnExactTreeSize", unfollowed := true, recurses := true, apart := false, narrowed := true }
def FnExactTreeSizeUptoSaid : Prop := fnExactTreeSizeUptoRow.holds Try.pinned (OpenSpec.upto fnExactTreeSizeSpec)

/-- 'laws.FnExactDepthOf', WHERE WHAT IT READS IS OF BULK AT MOST 1048576: true; the input reads as it did. -/
def fnExactDepthOfUptoRow : OpenClaim := { program := "ytaebdafjbkadlaa", sum := "275926aba0c05fe22a71b104794483e3f94900516a8e2ff1350e3bf37c8fca2f", func := "loop.example/g01114/laws.FnExactDepthOf", spec := "fnExactDepthOf", unfollowed := true, recurses := true, apart := false, narrowed := true }
def FnExactDepthOfUptoSaid : Prop := fnExactDepthOfUptoRow.holds Try.pinned (OpenSpec.upto fnExactDepthOfSpec)

/-- 'laws.FnExactFarthestPast', WHERE WHAT IT READS IS OF BULK AT MOST 1048576: true; the input reads as it did. -/
def fnExactFarthestPastUptoRow : OpenClaim := { program := "ytaebdafjbkadlaa", sum := "275926aba0c05fe22a71b104794483e3f94900516a8e2ff1350e3bf37c8fca2f", func := "loop.example/g01114/laws.FnExactFarthestPast", spec := "fnExactFarthestPast", unfollowed := true, recurses := true, apart := false, narrowed := true }
def FnExactFarthestPastUptoSaid : Prop := fnExactFarthestPastUptoRow.holds Try.pinned (OpenSpec.upto fnExactFarthestPastSpec)

/-- 'laws.FnExactFirstPast', WHERE WHAT IT READS IS OF BULK AT MOST 1048576: true; the input reads as it did. -/
def fnExactFirstPastUptoRow : OpenClaim := { program := "ytaebdafjbkadlaa", sum := "275926aba0c05fe22a71b104794483e3f94900516a8e2ff1350e3bf37c8fca2f", func := "loop.example/g01114/laws.FnExactFirstPast", spec := "fnExactFirstPast", unfollowed := true, recurses := true, apart := false, narrowed := true }
def FnExactFirstPastUptoSaid : Prop := fnExactFirstPastUptoRow.holds Try.pinned (OpenSpec.upto fnExactFirstPastSpec)

/-- 'laws.FnExactLineBack', WHERE WHAT IT READS IS OF BULK AT MOST 1048576: true; the input reads as it did. -/
def fnExactLineBackUptoRow : OpenClaim := { program := "ytaebdafjbkadlaa", sum := "275926aba0c05fe22a71b104794483e3f94900516a8e2ff1350e3bf37c8fca2f", func := "loop.example/g01114/laws.FnExactLineBack", spec := "fnExactLineBack", unfollowed := true, recurses := true, apart := false, narrowed := true }
def FnExactLineBackUptoSaid : Prop := fnExactLineBackUptoRow.holds Try.pinned (OpenSpec.upto fnExactLineBackSpec)

/-- 'laws.FnExactDepthTable', WHERE WHAT IT READS IS OF BULK AT MOST 1048576: true; the input reads as it did. -/
def fnExactDepthTableUptoRow : OpenClaim := { program := "ytaebdafjbkadlaa", sum := "275926aba0c05fe22a71b104794483e3f94900516a8e2ff1350e3bf37c8fca2f", func := "loop.example/g01114/laws.FnExactDepthTable", spec := "fnExactDepthTable", unfollowed := true, recurses := true, apart := false, narrowed := true }
def FnExactDepthTableUptoSaid : Prop := fnExactDepthTableUptoRow.holds Try.pinned (OpenSpec.upto fnExactDepthTableSpec)

/-- 'laws.FnExactPastTable', WHERE WHAT IT READS IS OF BULK AT MOST 1048576: true; the input reads as it did. -/
def fnExactPastTableUptoRow : OpenClaim := { program := "ytaebdafjbkadlaa", sum := "275926aba0c05fe22a71b104794483e3f94900516a8e2ff1350e3bf37c8fca2f", func := "loop.example/g01114/laws.FnExactPastTable", spec := "fnExactPastTable", unfollowed := true, recurses := true, apart := false, narrowed := true }
def FnExactPastTableUptoSaid : Prop := fnExactPastTableUptoRow.holds Try.pinned (OpenSpec.upto fnExactPastTableSpec)

/-- 'laws.FnExactIsPastOf', WHERE WHAT IT READS IS OF BULK AT MOST 1048576: true; the input reads as it did. -/
def fnExactIsPastOfUptoRow : OpenClaim := { program := "ytaebdafjbkadlaa", sum := "275926aba0c05fe22a71b104794483e3f94900516a8e2ff1350e3bf37c8fca2f", func := "loop.example/g01114/laws.FnExactIsPastOf", spec := "fnExactIsPastOf", unfollowed := true, recurses := true, apart := false, narrowed := true }
def FnExactIsPastOfUptoSaid : Prop := fnExactIsPastOfUptoRow.holds Try.pinned (OpenSpec.upto fnExactIsPastOfSpec)

end Rows
end Go.Proofs.Ytaebdafjbkadlaa
