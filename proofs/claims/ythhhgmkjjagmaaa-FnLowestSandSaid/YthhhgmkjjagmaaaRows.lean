/-
  No cell of these rows narrows 'for every input' (looked for: loops, veiled, ifaces, maps, wideKeys, modest, calm, conditions, laid).
  DERIVED. THE GIVEN ROWS OF THIS SEAT. 4 by the template 'for every input the law returns true; each argument reads behind the call as it read before'; 0 by the template 'total and deterministic' (their statements: YthhhgmkjjagmaaaTotals.lean).
  GIVEN WITH THE SEED: the statements are not yours to turn. If you find one false, say at which input.
  Laid BY PROGRAM, IN A SANDBOX (cutbox-rows.mjs): the forced cells as the released guide's own fill.sh prints them over the translation 13bceb8d1f4a5c74… (all of the seat's roots in one cut). By AI agents, Wed Nov 11 2026. No macro, syntax, notation, axiom, sorry.
-/
import Derived.Test.YthhhgmkjjagmaaaChecked
import GoSem.Claim
import GoSem.ClaimJoined
import GoSem.ClaimMapViews
import Derived.JoinedTies
import Derived.KernelRfl
namespace Go.Proofs.Ythhhgmkjjagmaaa
/- THE CELL 'sum', in the pinned program and in every row, IS THE sha256 OF THE DUMP (.gsa) THAT YthhhgmkjjagmaaaProg.lean LOADS. Nothing in Lean hashes anything: it is a label: what it is worth is what the hold of that sum in a sandbox is worth. -/
noncomputable def Try.pinned : Pinned := { name := "ythhhgmkjjagmaaa", sum := "13bceb8d1f4a5c7466da1cff934150169f350dec56800eb32d445215e131a68a", checked := Try.checked }
namespace Rows
def none {H : Type} : Left H := { results := [], args := [] }

/-- 'laws.FnFallsEndAlike': WHATEVER THE INPUT: true; the input reads as it did. -/
def fnFallsEndAlikeSpec : ChangeSpec := { name := "fnFallsEndAlike", fn := fun _ => fun
  | [d1, d2] => { results := [.lit (.bool true)], args := [d1, d2] }
  | _ => none }
def fnFallsEndAlikeRow : OpenClaim := { program := "ythhhgmkjjagmaaa", sum := "13bceb8d1f4a5c7466da1cff934150169f350dec56800eb32d445215e131a68a", func := "loop.example/g01114/laws.FnFallsEndAlike", spec := "fnFallsEndAlike", unfollowed := true, recurses := true, apart := false }
def FnFallsEndAlikeSaid : Prop := fnFallsEndAlikeRow.holds Try.pinned (OpenSpec.ofChange fnFallsEndAlikeSpec)

/-- ITS FALSE NEIGHBOUR: 'it returns false'. Refute it at one input. -/
def fnFallsEndAlikeWrong : ChangeSpec := { name := "fnFallsEndAlike", fn := fun _ => fun
  | [d1, d2] => { results := [.lit (.bool false)], args := [d1, d2] }
  | _ => none }
def FnFallsEndAlikeWrongFalsely : Prop := fnFallsEndAlikeRow.holds Try.pinned (OpenSpec.ofChange fnFallsEndAlikeWrong)

/-- 'laws.FnSettledShapes': WHATEVER THE INPUT: true; the input reads as it did. -/
def fnSettledShapesSpec : ChangeSpec := { name := "fnSettledShapes", fn := fun _ => fun
  | [d1, d2] => { results := [.lit (.bool true)], args := [d1, d2] }
  | _ => none }
def fnSettledShapesRow : OpenClaim := { program := "ythhhgmkjjagmaaa", sum := "13bceb8d1f4a5c7466da1cff934150169f350dec56800eb32d445215e131a68a", func := "loop.example/g01114/laws.FnSettledShapes", spec := "fnSettledShapes", unfollowed := true, recurses := true, apart := false }
def FnSettledShapesSaid : Prop := fnSettledShapesRow.holds Try.pinned (OpenSpec.ofChange fnSettledShapesSpec)

/-- ITS FALSE NEIGHBOUR: 'it returns false'. Refute it at one input. -/
def fnSettledShapesWrong : ChangeSpec := { name := "fnSettledShapes", fn := fun _ => fun
  | [d1, d2] => { results := [.lit (.bool false)], args := [d1, d2] }
  | _ => none }
def FnSettledShapesWrongFalsely : Prop := fnSettledShapesRow.holds Try.pinned (OpenSpec.ofChange fnSettledShapesWrong)

/-- 'laws.FnReachIsClosed': WHATEVER THE INPUT: true; the input reads as it did. -/
def fnReachIsClosedSpec : ChangeSpec := { name := "fnReachIsClosed", fn := fun _ => fun
  | [d1, d2] => { results := [.lit (.bool true)], args := [d1, d2] }
  | _ => none }
def fnReachIsClosedRow : OpenClaim := { program := "ythhhgmkjjagmaaa", sum := "13bceb8d1f4a5c7466da1cff934150169f350dec56800eb32d445215e131a68a", func := "loop.example/g01114/laws.FnReachIsClosed", spec := "fnReachIsClosed", unfollowed := true, recurses := true, apart := false }
def FnReachIsClosedSaid : Prop := fnReachIsClosedRow.holds Try.pinned (OpenSpec.ofChange fnReachIsClosedSpec)

/-- ITS FALSE NEIGHBOUR: 'it returns false'. Refute it at one input. -/
def fnReachIsClosedWrong : ChangeSpec := { name := "fnReachIsClosed", fn := fun _ => fun
  | [d1, d2] => { results := [.lit (.bool false)], args := [d1, d2] }
  | _ => none }
def FnReachIsClosedWrongFalsely : Prop := fnReachIsClosedRow.holds Try.pinned (OpenSpec.ofChange fnReachIsClosedWrong)

/-- 'laws.FnLowestSand': WHATEVER THE INPUT: true; the input reads as it did. -/
def fnLowestSandSpec : ChangeSpec := { name := "fnLowestSand", fn := fun _ => fun
  | [d1, d2] => { results := [.lit (.bool true)], args := [d1, d2] }
  | _ => none }
def fnLowestSandRow : OpenClaim := { program := "ythhhgmkjjagmaaa", sum := "13bceb8d1f4a5c7466da1cff934150169f350dec56800eb32d445215e131a68a", func := "loop.example/g01114/laws.FnLowestSand", spec := "fnLowestSand", unfollowed := true, recurses := true, apart := false }
def FnLowestSandSaid : Prop := fnLowestSandRow.holds Try.pinned (OpenSpec.ofChange fnLowestSandSpec)

/-- ITS FALSE NEIGHBOUR: 'it returns false'. Refute it at one input. -/
def fnLowestSandWrong : ChangeSpec := { name := "fnLowestSand", fn := fun _ => fun
  | [d1, d2] => { results := [.lit (.bool false)], args := [d1, d2] }
  | _ => none }
def FnLowestSandWrongFalsely : Prop := fnLowestSandRow.holds Try.pinned (OpenSpec.ofChange fnLowestSandWrong)

/- THE SECOND FORM. 'bulk': how many values and letters a reading holds, each counted each time it is reached (what is shared counts as often as it is met; a slice's spare places count too). A statement '..UptoSaid' is the law's where the arguments, and the package variables that the reading takes, are together of bulk at most 1048576: NARROWER than '..Said'. Prove '..Said' where nothing that the law and all that it calls make is longer than what came in: it says more and counts as full. Else prove '..UptoSaid'. A law counts once. -/
mutual
def uptoBulk {H : Type} : DataW H → Nat
  | .lit (.string bytes) => bytes.length + 1
  | .lit _ => 1
  | .nil => 1
  | .ptr d => uptoBulk d + 1
  | .slice elems spare => uptoBulkAll elems + uptoBulkAll spare + 1
  | .agg parts => uptoBulkAll parts + 1
  | .iface _ d => uptoBulk d + 1
  | .map entries => uptoBulkEntries entries + 1
  | .held _ => 1
def uptoBulkAll {H : Type} : List (DataW H) → Nat
  | [] => 0
  | d :: r => uptoBulk d + uptoBulkAll r
def uptoBulkEntries {H : Type} : List (Lit × DataW H) → Nat
  | [] => 0
  | x :: r => uptoBulkEntry x + uptoBulkEntries r
def uptoBulkEntry {H : Type} : Lit × DataW H → Nat
  | (.string bytes, d) => bytes.length + uptoBulk d + 1
  | (_, d) => uptoBulk d + 1
 end
def uptoSmall : (H : Type) → List (DataW H) → Bool := fun _ ds => decide (uptoBulkAll ds ≤ 1048576)
def OpenSpec.upto (s : _root_.Go.ChangeSpec) : _root_.Go.OpenSpec := { _root_.Go.OpenSpec.ofChange s with cond := some uptoSmall }

/-- 'laws.FnFallsEndAlike', WHERE WHAT IT READS IS OF BULK AT MOST 1048576: true; the input reads as it did. -/
def fnFallsEndAlikeUptoRow : OpenClaim := { program := "ythhhgmkjjagmaaa", sum := "13bceb8d1f4a5c7466da1cff934150169f350dec56800eb32d445215e131a68a", func := "loop.example/g01114/laws.FnFallsEndAlike", spec := "fnFallsEndAlike", unfollowed := true, recurses := true, apart := false, narrowed := true }
def FnFallsEndAlikeUptoSaid : Prop := fnFallsEndAlikeUptoRow.holds Try.pinned (OpenSpec.upto fnFallsEndAlikeSpec)

/-- 'laws.FnSettledShapes', WHERE WHAT IT READS IS OF BULK AT MOST 1048576: true; the input reads as it did. -/
def fnSettledShapesUptoRow : OpenClaim := { program := "ythhhgmkjjagmaaa", sum := "13bceb8d1f4a5c7466da1cff934150169f350dec56800eb32d445215e131a68a", func := "loop.example/g01114/laws.FnSettledShapes", spec := "fnSettledShapes", unfollowed := true, recurses := true, apart := false, narrowed := true }
def FnSettledShapesUptoSaid : Prop := fnSettledShapesUptoRow.holds Try.pinned (OpenSpec.upto fnSettledShapesSpec)

/-- 'laws.FnReachIsClosed', WHERE WHAT IT READS IS OF BULK AT MOST 1048576: true; the input reads as it did. -/
def fnReachIsClosedUptoRow : OpenClaim := { program := "ythhhgmkjjagmaaa", sum := "13bceb8d1f4a5c7466da1cff934150169f350dec56800eb32d445215e131a68a", func := "loop.example/g01114/laws.FnReachIsClosed", spec := "fnReachIsClosed", unfollowed := true, recurses := true, apart := false, narrowed := true }
def FnReachIsClosedUptoSaid : Prop := fnReachIsClosedUptoRow.holds Try.pinned (OpenSpec.upto fnReachIsClosedSpec)

/-- 'laws.FnLowestSand', WHERE WHAT IT READS IS OF BULK AT MOST 1048576: true; the input reads as it did. -/
def fnLowestSandUptoRow : OpenClaim := { program := "ythhhgmkjjagmaaa", sum := "13bceb8d1f4a5c7466da1cff934150169f350dec56800eb32d445215e131a68a", func := "loop.example/g01114/laws.FnLowestSand", spec := "fnLowestSand", unfollowed := true, recurses := true, apart := false, narrowed := true }
def FnLowestSandUptoSaid : Prop := fnLowestSandUptoRow.holds Try.pinned (OpenSpec.upto fnLowestSandSpec)

end Rows
end Go.Proofs.Ythhhgmkjjagmaaa
