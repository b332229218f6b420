/-
  No cell of these rows narrows 'for every input' (looked for: loops, veiled, ifaces, maps, wideKeys, modest, calm, conditions, laid).
  DERIVED. THE GIVEN ROWS OF THIS SEAT. 12 by the template 'for every input the law returns true; each argument reads behind the call as it read before'; 0 by the template 'total and deterministic' (their statements: YtmhlciphicojnaaTotals.lean).
  GIVEN WITH THE SEED: the statements are not yours to turn. If you find one false, say at which input.
  Laid BY PROGRAM, IN A SANDBOX (cutbox-rows.mjs): the forced cells as the released guide's own fill.sh prints them over the translation f788a1fe6c757ac3… (all of the seat's roots in one cut). By AI agents, Wed Nov 11 2026. No macro, syntax, notation, axiom, sorry.
-/
import Derived.Test.YtmhlciphicojnaaChecked
import GoSem.Claim
import GoSem.ClaimJoined
import GoSem.ClaimMapViews
import Derived.JoinedTies
import Derived.KernelRfl
namespace Go.Proofs.Ytmhlciphicojnaa
/- THE CELL 'sum', in the pinned program and in every row, IS THE sha256 OF THE DUMP (.gsa) THAT YtmhlciphicojnaaProg.lean LOADS. Nothing in Lean hashes anything: it is a label: what it is worth is what the hold of that sum in a sandbox is worth. -/
noncomputable def Try.pinned : Pinned := { name := "ytmhlciphicojnaa", sum := "f788a1fe6c757ac3c834c6ad0c1de55c52ede00fc288b4562a39acdd6f7a520d", checked := Try.checked }
namespace Rows
def none {H : Type} : Left H := { results := [], args := [] }

/-- 'laws.FnExactIsRow': WHATEVER THE INPUT: true; the input reads as it did. -/
def fnExactIsRowSpec : ChangeSpec := { name := "fnExactIsRow", fn := fun _ => fun
  | [d] => { results := [.lit (.bool true)], args := [d] }
  | _ => none }
def fnExactIsRowRow : OpenClaim := { program := "ytmhlciphicojnaa", sum := "f788a1fe6c757ac3c834c6ad0c1de55c52ede00fc288b4562a39acdd6f7a520d", func := "loop.example/g01114/laws.FnExactIsRow", spec := "fnExactIsRow", apart := false }
def FnExactIsRowSaid : Prop := fnExactIsRowRow.holds Try.pinned (OpenSpec.ofChange fnExactIsRowSpec)

/-- ITS FALSE NEIGHBOUR: 'it returns false'. Refute it at one input. -/
def fnExactIsRowWrong : ChangeSpec := { name := "fnExactIsRow", fn := fun _ => fun
  | [d] => { results := [.lit (.bool false)], args := [d] }
  | _ => none }
def FnExactIsRowWrongFalsely : Prop := fnExactIsRowRow.holds Try.pinned (OpenSpec.ofChange fnExactIsRowWrong)

/-- 'laws.FnExactStepRow': WHATEVER THE INPUT: true; the input reads as it did. -/
def fnExactStepRowSpec : ChangeSpec := { name := "fnExactStepRow", fn := fun _ => fun
  | [d] => { results := [.lit (.bool true)], args := [d] }
  | _ => none }
def fnExactStepRowRow : OpenClaim := { program := "ytmhlciphicojnaa", sum := "f788a1fe6c757ac3c834c6ad0c1de55c52ede00fc288b4562a39acdd6f7a520d", func := "loop.example/g01114/laws.FnExactStepRow", spec := "fnExactStepRow", unfollowed := true, recurses := true, apart := false }
def FnExactStepRowSaid : Prop := fnExactStepRowRow.holds Try.pinned (OpenSpec.ofChange fnExactStepRowSpec)

/-- ITS FALSE NEIGHBOUR: 'it returns false'. Refute it at one input. -/
def fnExactStepRowWrong : ChangeSpec := { name := "fnExactStepRow", fn := fun _ => fun
  | [d] => { results := [.lit (.bool false)], args := [d] }
  | _ => none }
def FnExactStepRowWrongFalsely : Prop := fnExactStepRowRow.holds Try.pinned (OpenSpec.ofChange fnExactStepRowWrong)

/-- 'laws.FnExactRowSteps': WHATEVER THE INPUT: true; the input reads as it did. -/
def fnExactRowStepsSpec : ChangeSpec := { name := "fnExactRowSteps", fn := fun _ => fun
  | [d1, d2] => { results := [.lit (.bool true)], args := [d1, d2] }
  | _ => none }
def fnExactRowStepsRow : OpenClaim := { program := "ytmhlciphicojnaa", sum := "f788a1fe6c757ac3c834c6ad0c1de55c52ede00fc288b4562a39acdd6f7a520d", func := "loop.example/g01114/laws.FnExactRowSteps", spec := "fnExactRowSteps", unfollowed := true, recurses := true, apart := false }
def FnExactRowStepsSaid : Prop := fnExactRowStepsRow.holds Try.pinned (OpenSpec.ofChange fnExactRowStepsSpec)

/-- ITS FALSE NEIGHBOUR: 'it returns false'. Refute it at one input. -/
def fnExactRowStepsWrong : ChangeSpec := { name := "fnExactRowSteps", fn := fun _ => fun
  | [d1, d2] => { results := [.lit (.bool false)], args := [d1, d2] }
  | _ => none }
def FnExactRowStepsWrongFalsely : Prop := fnExactRowStepsRow.holds Try.pinned (OpenSpec.ofChange fnExactRowStepsWrong)

/-- 'laws.FnExactPlayRow': WHATEVER THE INPUT: true; the input reads as it did. -/
def fnExactPlayRowSpec : ChangeSpec := { name := "fnExactPlayRow", fn := fun _ => fun
  | [d1, d2] => { results := [.lit (.bool true)], args := [d1, d2] }
  | _ => none }
def fnExactPlayRowRow : OpenClaim := { program := "ytmhlciphicojnaa", sum := "f788a1fe6c757ac3c834c6ad0c1de55c52ede00fc288b4562a39acdd6f7a520d", func := "loop.example/g01114/laws.FnExactPlayRow", spec := "fnExactPlayRow", unfollowed := true, recurses := true, apart := false }
def FnExactPlayRowSaid : Prop := fnExactPlayRowRow.holds Try.pinned (OpenSpec.ofChange fnExactPlayRowSpec)

/-- ITS FALSE NEIGHBOUR: 'it returns false'. Refute it at one input. -/
def fnExactPlayRowWrong : ChangeSpec := { name := "fnExactPlayRow", fn := fun _ => fun
  | [d1, d2] => { results := [.lit (.bool false)], args := [d1, d2] }
  | _ => none }
def FnExactPlayRowWrongFalsely : Prop := fnExactPlayRowRow.holds Try.pinned (OpenSpec.ofChange fnExactPlayRowWrong)

/-- 'laws.FnExactSortRow': WHATEVER THE INPUT: true; the input reads as it did. -/
def fnExactSortRowSpec : ChangeSpec := { name := "fnExactSortRow", fn := fun _ => fun
  | [d] => { results := [.lit (.bool true)], args := [d] }
  | _ => none }
def fnExactSortRowRow : OpenClaim := { program := "ytmhlciphicojnaa", sum := "f788a1fe6c757ac3c834c6ad0c1de55c52ede00fc288b4562a39acdd6f7a520d", func := "loop.example/g01114/laws.FnExactSortRow", spec := "fnExactSortRow", unfollowed := true, recurses := true, apart := false }
def FnExactSortRowSaid : Prop := fnExactSortRowRow.holds Try.pinned (OpenSpec.ofChange fnExactSortRowSpec)

/-- ITS FALSE NEIGHBOUR: 'it returns false'. Refute it at one input. -/
def fnExactSortRowWrong : ChangeSpec := { name := "fnExactSortRow", fn := fun _ => fun
  | [d] => { results := [.lit (.bool false)], args := [d] }
  | _ => none }
def FnExactSortRowWrongFalsely : Prop := fnExactSortRowRow.holds Try.pinned (OpenSpec.ofChange fnExactSortRowWrong)

/-- 'laws.FnExactRowOrbit': WHATEVER THE INPUT: true; the input reads as it did. -/
def fnExactRowOrbitSpec : ChangeSpec := { name := "fnExactRowOrbit", fn := fun _ => fun
  | [d] => { results := [.lit (.bool true)], args := [d] }
  | _ => none }
def fnExactRowOrbitRow : OpenClaim := { program := "ytmhlciphicojnaa", sum := "f788a1fe6c757ac3c834c6ad0c1de55c52ede00fc288b4562a39acdd6f7a520d", func := "loop.example/g01114/laws.FnExactRowOrbit", spec := "fnExactRowOrbit", unfollowed := true, recurses := true, apart := false }
def FnExactRowOrbitSaid : Prop := fnExactRowOrbitRow.holds Try.pinned (OpenSpec.ofChange fnExactRowOrbitSpec)

/-- ITS FALSE NEIGHBOUR: 'it returns false'. Refute it at one input. -/
def fnExactRowOrbitWrong : ChangeSpec := { name := "fnExactRowOrbit", fn := fun _ => fun
  | [d] => { results := [.lit (.bool false)], args := [d] }
  | _ => none }
def FnExactRowOrbitWrongFalsely : Prop := fnExactRowOrbitRow.holds Try.pinned (OpenSpec.ofChange fnExactRowOrbitWrong)

/-- 'laws.FnExactIsCyclicRow': WHATEVER THE INPUT: true; the input reads as it did. -/
def fnExactIsCyclicRowSpec : ChangeSpec := { name := "fnExactIsCyclicRow", fn := fun _ => fun
  | [d] => { results := [.lit (.bool true)], args := [d] }
  | _ => none }
def fnExactIsCyclicRowRow : OpenClaim := { program := "ytmhlciphicojnaa", sum := "f788a1fe6c757ac3c834c6ad0c1de55c52ede00fc288b4562a39acdd6f7a520d", func := "loop.example/g01114/laws.FnExactIsCyclicRow", spec := "fnExactIsCyclicRow", unfollowed := true, recurses := true, apart := false }
def FnExactIsCyclicRowSaid : Prop := fnExactIsCyclicRowRow.holds Try.pinned (OpenSpec.ofChange fnExactIsCyclicRowSpec)

/-- ITS FALSE NEIGHBOUR: 'it returns false'. Refute it at one input. -/
def fnExactIsCyclicRowWrong : ChangeSpec := { name := "fnExactIsCyclicRow", fn := fun _ => fun
  | [d] => { results := [.lit (.bool false)], args := [d] }
  | _ => none }
def FnExactIsCyclicRowWrongFalsely : Prop := fnExactIsCyclicRowRow.holds Try.pinned (OpenSpec.ofChange fnExactIsCyclicRowWrong)

/-- 'laws.FnExactRowPastCount': WHATEVER THE INPUT: true; the input reads as it did. -/
def fnExactRowPastCountSpec : ChangeSpec := { name := "fnExactRowPastCount", fn := fun _ => fun
  | [d] => { results := [.lit (.bool true)], args := [d] }
  | _ => none }
def fnExactRowPastCountRow : OpenClaim := { program := "ytmhlciphicojnaa", sum := "f788a1fe6c757ac3c834c6ad0c1de55c52ede00fc288b4562a39acdd6f7a520d", func := "loop.example/g01114/laws.FnExactRowPastCount", spec := "fnExactRowPastCount", apart := false }
def FnExactRowPastCountSaid : Prop := fnExactRowPastCountRow.holds Try.pinned (OpenSpec.ofChange fnExactRowPastCountSpec)

/-- ITS FALSE NEIGHBOUR: 'it returns false'. Refute it at one input. -/
def fnExactRowPastCountWrong : ChangeSpec := { name := "fnExactRowPastCount", fn := fun _ => fun
  | [d] => { results := [.lit (.bool false)], args := [d] }
  | _ => none }
def FnExactRowPastCountWrongFalsely : Prop := fnExactRowPastCountRow.holds Try.pinned (OpenSpec.ofChange fnExactRowPastCountWrong)

/-- 'laws.FnExactCountRows': WHATEVER THE INPUT: true; the input reads as it did. -/
def fnExactCountRowsSpec : ChangeSpec := { name := "fnExactCountRows", fn := fun _ => fun
  | [d] => { results := [.lit (.bool true)], args := [d] }
  | _ => none }
def fnExactCountRowsRow : OpenClaim := { program := "ytmhlciphicojnaa", sum := "f788a1fe6c757ac3c834c6ad0c1de55c52ede00fc288b4562a39acdd6f7a520d", func := "loop.example/g01114/laws.FnExactCountRows", spec := "fnExactCountRows", apart := false }
def FnExactCountRowsSaid : Prop := fnExactCountRowsRow.holds Try.pinned (OpenSpec.ofChange fnExactCountRowsSpec)

/-- ITS FALSE NEIGHBOUR: 'it returns false'. Refute it at one input. -/
def fnExactCountRowsWrong : ChangeSpec := { name := "fnExactCountRows", fn := fun _ => fun
  | [d] => { results := [.lit (.bool false)], args := [d] }
  | _ => none }
def FnExactCountRowsWrongFalsely : Prop := fnExactCountRowsRow.holds Try.pinned (OpenSpec.ofChange fnExactCountRowsWrong)

/-- 'laws.FnExactRankRow': WHATEVER THE INPUT: true; the input reads as it did. -/
def fnExactRankRowSpec : ChangeSpec := { name := "fnExactRankRow", fn := fun _ => fun
  | [d] => { results := [.lit (.bool true)], args := [d] }
  | _ => none }
def fnExactRankRowRow : OpenClaim := { program := "ytmhlciphicojnaa", sum := "f788a1fe6c757ac3c834c6ad0c1de55c52ede00fc288b4562a39acdd6f7a520d", func := "loop.example/g01114/laws.FnExactRankRow", spec := "fnExactRankRow", apart := false }
def FnExactRankRowSaid : Prop := fnExactRankRowRow.holds Try.pinned (OpenSpec.ofChange fnExactRankRowSpec)

/-- ITS FALSE NEIGHBOUR: 'it returns false'. Refute it at one input. -/
def fnExactRankRowWrong : ChangeSpec := { name := "fnExactRankRow", fn := fun _ => fun
  | [d] => { results := [.lit (.bool false)], args := [d] }
  | _ => none }
def FnExactRankRowWrongFalsely : Prop := fnExactRankRowRow.holds Try.pinned (OpenSpec.ofChange fnExactRankRowWrong)

/-- 'laws.FnExactRowWith': WHATEVER THE INPUT: true; the input reads as it did. -/
def fnExactRowWithSpec : ChangeSpec := { name := "fnExactRowWith", fn := fun _ => fun
  | [d1, d2] => { results := [.lit (.bool true)], args := [d1, d2] }
  | _ => none }
def fnExactRowWithRow : OpenClaim := { program := "ytmhlciphicojnaa", sum := "f788a1fe6c757ac3c834c6ad0c1de55c52ede00fc288b4562a39acdd6f7a520d", func := "loop.example/g01114/laws.FnExactRowWith", spec := "fnExactRowWith", apart := false }
def FnExactRowWithSaid : Prop := fnExactRowWithRow.holds Try.pinned (OpenSpec.ofChange fnExactRowWithSpec)

/-- ITS FALSE NEIGHBOUR: 'it returns false'. Refute it at one input. -/
def fnExactRowWithWrong : ChangeSpec := { name := "fnExactRowWith", fn := fun _ => fun
  | [d1, d2] => { results := [.lit (.bool false)], args := [d1, d2] }
  | _ => none }
def FnExactRowWithWrongFalsely : Prop := fnExactRowWithRow.holds Try.pinned (OpenSpec.ofChange fnExactRowWithWrong)

/-- 'laws.FnExactRowsOfPiles': WHATEVER THE INPUT: true; the input reads as it did. -/
def fnExactRowsOfPilesSpec : ChangeSpec := { name := "fnExactRowsOfPiles", fn := fun _ => fun
  | [d] => { results := [.lit (.bool true)], args := [d] }
  | _ => none }
def fnExactRowsOfPilesRow : OpenClaim := { program := "ytmhlciphicojnaa", sum := "f788a1fe6c757ac3c834c6ad0c1de55c52ede00fc288b4562a39acdd6f7a520d", func := "loop.example/g01114/laws.FnExactRowsOfPiles", spec := "fnExactRowsOfPiles", apart := false }
def FnExactRowsOfPilesSaid : Prop := fnExactRowsOfPilesRow.holds Try.pinned (OpenSpec.ofChange fnExactRowsOfPilesSpec)

/-- ITS FALSE NEIGHBOUR: 'it returns false'. Refute it at one input. -/
def fnExactRowsOfPilesWrong : ChangeSpec := { name := "fnExactRowsOfPiles", fn := fun _ => fun
  | [d] => { results := [.lit (.bool false)], args := [d] }
  | _ => none }
def FnExactRowsOfPilesWrongFalsely : Prop := fnExactRowsOfPilesRow.holds Try.pinned (OpenSpec.ofChange fnExactRowsOfPilesWrong)

/- THE SECOND FORM. 'bulk': how many values and letters a reading holds, each counted each time it is reached (what is shared counts as often as it is met; a slice's spare places count too). A statement '..UptoSaid' is the law's where the arguments, and the package variables that the reading takes, are together of bulk at most 1048576: NARROWER than '..Said'. Prove '..Said' where nothing that the law and all that it calls make is longer than what came in: it says more and counts as full. Else prove '..UptoSaid'. A law counts once. -/
mutual
def uptoBulk {H : Type} : DataW H → Nat
  | .lit (.string bytes) => bytes.length + 1
  | .lit _ => 1
  | .nil => 1
  | .ptr d => uptoBulk d + 1
  | .slice elems spare => uptoBulkAll elems + uptoBulkAll spare + 1
  | .agg parts => uptoBulkAll parts + 1
  | .iface _ d => uptoBulk d + 1
  | .map entries => uptoBulkEntries entries + 1
  | .held _ => 1
def uptoBulkAll {H : Type} : List (DataW H) → Nat
  | [] => 0
  | d :: r => uptoBulk d + uptoBulkAll r
def uptoBulkEntries {H : Type} : List (Lit × DataW H) → Nat
  | [] => 0
  | x :: r => uptoBulkEntry x + uptoBulkEntries r
def uptoBulkEntry {H : Type} : Lit × DataW H → Nat
  | (.string bytes, d) => bytes.length + uptoBulk d + 1
  | (_, d) => uptoBulk d + 1
 end
def uptoSmall : (H : Type) → List (DataW H) → Bool := fun _ ds => decide (uptoBulkAll ds ≤ 1048576)
def OpenSpec.upto (s : _root_.Go.ChangeSpec) : _root_.Go.OpenSpec := { _root_.Go.OpenSpec.ofChange s with cond := some uptoSmall }

/-- 'laws.FnExactIsRow', WHERE WHAT IT READS IS OF BULK AT MOST 1048576: true; the input reads as it did. -/
def fnExactIsRowUptoRow : OpenClaim := { program := "ytmhlciphicojnaa", sum := "f788a1fe6c757ac3c834c6ad0c1de55c52ede00fc288b4562a39acdd6f7a520d", func := "loop.example/g01114/laws.FnExactIsRow", spec := "fnExactIsRow", apart := false, narrowed := true }
def FnExactIsRowUptoSaid : Prop := fnExactIsRowUptoRow.holds Try.pinned (OpenSpec.upto fnExactIsRowSpec)

/-- 'laws.FnExactStepRow', WHERE WHAT IT READS IS OF BULK AT MOST 1048576: true; the input reads as it did. -/
def fnExactStepRowUptoRow : OpenClaim := { program := "ytmhlciphicojnaa", sum := "f788a1fe6c757ac3c834c6ad0c1de55c52ede00fc288b4562a39acdd6f7a520d", func := "loop.example/g01114/laws.FnExactStepRow", spec := "fnExactStepRow", unfollowed := true, recurses := true, apart := false, narrowed := true }
def FnExactStepRowUptoSaid : Prop := fnExactStepRowUptoRow.holds Try.pinned (OpenSpec.upto fnExactStepRowSpec)

/-- 'laws.FnExactRowSteps', WHERE WHAT IT READS IS OF BULK AT MOST 1048576: true; the input reads as it did. -/
def fnExactRowStepsUptoRow : OpenClaim := { program := "ytmhlciphicojnaa", sum := "f788a1fe6c757ac3c834c6ad0c1de55c52ede00fc288b4562a39acdd6f7a520d", func := "loop.example/g01114/laws.FnExactRowSteps", spec := "fnExactRowSteps", unfollowed := true, recurses := true, apart := false, narrowed := true }
def FnExactRowStepsUptoSaid : Prop := fnExactRowStepsUptoRow.holds Try.pinned (OpenSpec.upto fnExactRowStepsSpec)

/-- 'laws.FnExactPlayRow', WHERE WHAT IT READS IS OF BULK AT MOST 1048576: true; the input reads as it did. -/
def fnExactPlayRowUptoRow : OpenClaim := { program := "ytmhlciphicojnaa", sum := "f788a1fe6c757ac3c834c6ad0c1de55c52ede00fc288b4562a39acdd6f7a520d", func := "loop.example/g01114/laws.FnExactPlayRow", spec := "fnExactPlayRow", unfollowed := true, recurses := true, apart := false, narrowed := true }
def FnExactPlayRowUptoSaid : Prop := fnExactPlayRowUptoRow.holds Try.pinned (OpenSpec.upto fnExactPlayRowSpec)

/-- 'laws.FnExactSortRow', WHERE WHAT IT READS IS OF BULK AT MOST 1048576: true; the input reads as it did. -/
def fnExactSortRowUptoRow : OpenClaim := { program := "ytmhlciphicojnaa", sum := "f788a1fe6c757ac3c834c6ad0c1de55c52ede00fc288b4562a39acdd6f7a520d", func := "loop.example/g01114/laws.FnExactSortRow", spec := "fnExactSortRow", unfollowed := true, recurses := true, apart := false, narrowed := true }
def FnExactSortRowUptoSaid : Prop := fnExactSortRowUptoRow.holds Try.pinned (OpenSpec.upto fnExactSortRowSpec)

/-- 'laws.FnExactRowOrbit', WHERE WHAT IT READS IS OF BULK AT MOST 1048576: true; the input reads as it did. -/
def fnExactRowOrbitUptoRow : OpenClaim := { program := "ytmhlciphicojnaa", sum := "f788a1fe6c757ac3c834c6ad0c1de55c52ede00fc288b4562a39acdd6f7a520d", func := "loop.example/g01114/laws.FnExactRowOrbit", spec := "fnExactRowOrbit", unfollowed := true, recurses := true, apart := false, narrowed := true }
def FnExactRowOrbitUptoSaid : Prop := fnExactRowOrbitUptoRow.holds Try.pinned (OpenSpec.upto fnExactRowOrbitSpec)

/-- 'laws.FnExactIsCyclicRow', WHERE WHAT IT READS IS OF BULK AT MOST 1048576: true; the input reads as it did. -/
def fnExactIsCyclicRowUptoRow : OpenClaim := { program := "ytmhlciphicojnaa", sum := "f788a1fe6c757ac3c834c6ad0c1de55c52ede00fc288b4562a39acdd6f7a520d", func := "loop.example/g01114/laws.FnExactIsCyclicRow", spec := "fnExactIsCyclicRow", unfollowed := true, recurses := true, apart := false, narrowed := true }
def FnExactIsCyclicRowUptoSaid : Prop := fnExactIsCyclicRowUptoRow.holds Try.pinned (OpenSpec.upto fnExactIsCyclicRowSpec)

/-- 'laws.FnExactRowPastCount', WHERE WHAT IT READS IS OF BULK AT MOST 1048576: true; the input reads as it did. -/
def fnExactRowPastCountUptoRow : OpenClaim := { program := "ytmhlciphicojnaa", sum := "f788a1fe6c757ac3c834c6ad0c1de55c52ede00fc288b4562a39acdd6f7a520d", func := "loop.example/g01114/laws.FnExactRowPastCount", spec := "fnExactRowPastCount", apart := false, narrowed := true }
def FnExactRowPastCountUptoSaid : Prop := fnExactRowPastCountUptoRow.holds Try.pinned (OpenSpec.upto fnExactRowPastCountSpec)

/-- 'laws.FnExactCountRows', WHERE WHAT IT READS IS OF BULK AT MOST 1048576: true; the input reads as it did. -/
def fnExactCountRowsUptoRow : OpenClaim := { program := "ytmhlciphicojnaa", sum := "f788a1fe6c757ac3c834c6ad0c1de55c52ede00fc288b4562a39acdd6f7a520d", func := "loop.example/g01114/laws.FnExactCountRows", spec := "fnExactCountRows", apart := false, narrowed := true }
def FnExactCountRowsUptoSaid : Prop := fnExactCountRowsUptoRow.holds Try.pinned (OpenSpec.upto fnExactCountRowsSpec)

/-- 'laws.FnExactRankRow', WHERE WHAT IT READS IS OF BULK AT MOST 1048576: true; the input reads as it did. -/
def fnExactRankRowUptoRow : OpenClaim := { program := "ytmhlciphicojnaa", sum := "f788a1fe6c757ac3c834c6ad0c1de55c52ede00fc288b4562a39acdd6f7a520d", func := "loop.example/g01114/laws.FnExactRankRow", spec := "fnExactRankRow", apart := false, narrowed := true }
def FnExactRankRowUptoSaid : Prop := fnExactRankRowUptoRow.holds Try.pinned (OpenSpec.upto fnExactRankRowSpec)

/-- 'laws.FnExactRowWith', WHERE WHAT IT READS IS OF BULK AT MOST 1048576: true; the input reads as it did. -/
def fnExactRowWithUptoRow : OpenClaim := { program := "ytmhlciphicojnaa", sum := "f788a1fe6c757ac3c834c6ad0c1de55c52ede00fc288b4562a39acdd6f7a520d", func := "loop.example/g01114/laws.FnExactRowWith", spec := "fnExactRowWith", apart := false, narrowed := true }
def FnExactRowWithUptoSaid : Prop := fnExactRowWithUptoRow.holds Try.pinned (OpenSpec.upto fnExactRowWithSpec)

/-- 'laws.FnExactRowsOfPiles', WHERE WHAT IT READS IS OF BULK AT MOST 1048576: true; the input reads as it did. -/
def fnExactRowsOfPilesUptoRow : OpenClaim := { program := "ytmhlciphicojnaa", sum := "f788a1fe6c757ac3c834c6ad0c1de55c52ede00fc288b4562a39acdd6f7a520d", func := "loop.example/g01114/laws.FnExactRowsOfPiles", spec := "fnExactRowsOfPiles", apart := false, narrowed := true }
def FnExactRowsOfPilesUptoSaid : Prop := fnExactRowsOfPilesUptoRow.holds Try.pinned (OpenSpec.upto fnExactRowsOfPilesSpec)

end Rows
end Go.Proofs.Ytmhlciphicojnaa
