/-
  No cell of these rows narrows 'for every input' (looked for: loops, veiled, ifaces, maps, wideKeys, modest, calm, conditions, laid).
  DERIVED. THE GIVEN ROWS OF THIS SEAT. 2 by the template 'for every input the law returns true; each argument reads behind the call as it read before'; 0 by the template 'total and deterministic' (their statements: YteofiikjilhlgaaTotals.lean).
  GIVEN WITH THE SEED: the statements are not yours to turn. If you find one false, say at which input.
  Laid BY PROGRAM, IN A SANDBOX (cutbox-rows.mjs): the forced cells as the released guide's own fill.sh prints them over the translation ab43ab6cc7e9c2ed… (all of the seat's roots in one cut). By AI agents, Wed Nov 11 2026. No macro, syntax, notation, axiom, sorry.
-/
import Derived.Test.YteofiikjilhlgaaChecked
import GoSem.Claim
import GoSem.ClaimJoined
import GoSem.ClaimMapViews
import Derived.JoinedTies
import Derived.KernelRfl
namespace Go.Proofs.Yteofiikjilhlgaa
/- THE CELL 'sum', in the pinned program and in every row, IS THE sha256 OF THE DUMP (.gsa) THAT YteofiikjilhlgaaProg.lean LOADS. Nothing in Lean hashes anything: it is a label: what it is worth is what the hold of that sum in a sandbox is worth. -/
noncomputable def Try.pinned : Pinned := { name := "yteofiikjilhlgaa", sum := "ab43ab6cc7e9c2ede385dad9d68f6551626d4f7bea29c6c2e57e370d36e72c67", checked := Try.checked }
namespace Rows
def none {H : Type} : Left H := { results := [], args := [] }

/-- 'laws.FnExactCountRowGardens': WHATEVER THE INPUT: true; the input reads as it did. -/
def fnExactCountRowGardensSpec : ChangeSpec := { name := "fnExactCountRowGardens", fn := fun _ => fun
  | [d] => { results := [.lit (.bool true)], args := [d] }
  | _ => none }
def fnExactCountRowGardensRow : OpenClaim := { program := "yteofiikjilhlgaa", sum := "ab43ab6cc7e9c2ede385dad9d68f6551626d4f7bea29c6c2e57e370d36e72c67", func := "loop.example/g01114/laws.FnExactCountRowGardens", spec := "fnExactCountRowGardens", apart := false }
def FnExactCountRowGardensSaid : Prop := fnExactCountRowGardensRow.holds Try.pinned (OpenSpec.ofChange fnExactCountRowGardensSpec)

/-- ITS FALSE NEIGHBOUR: 'it returns false'. Refute it at one input. -/
def fnExactCountRowGardensWrong : ChangeSpec := { name := "fnExactCountRowGardens", fn := fun _ => fun
  | [d] => { results := [.lit (.bool false)], args := [d] }
  | _ => none }
def FnExactCountRowGardensWrongFalsely : Prop := fnExactCountRowGardensRow.holds Try.pinned (OpenSpec.ofChange fnExactCountRowGardensWrong)

/-- 'laws.FnExactLongestRow': WHATEVER THE INPUT: true; the input reads as it did. -/
def fnExactLongestRowSpec : ChangeSpec := { name := "fnExactLongestRow", fn := fun _ => fun
  | [d] => { results := [.lit (.bool true)], args := [d] }
  | _ => none }
def fnExactLongestRowRow : OpenClaim := { program := "yteofiikjilhlgaa", sum := "ab43ab6cc7e9c2ede385dad9d68f6551626d4f7bea29c6c2e57e370d36e72c67", func := "loop.example/g01114/laws.FnExactLongestRow", spec := "fnExactLongestRow", unfollowed := true, recurses := true, apart := false }
def FnExactLongestRowSaid : Prop := fnExactLongestRowRow.holds Try.pinned (OpenSpec.ofChange fnExactLongestRowSpec)

/-- ITS FALSE NEIGHBOUR: 'it returns false'. Refute it at one input. -/
def fnExactLongestRowWrong : ChangeSpec := { name := "fnExactLongestRow", fn := fun _ => fun
  | [d] => { results := [.lit (.bool false)], args := [d] }
  | _ => none }
def FnExactLongestRowWrongFalsely : Prop := fnExactLongestRowRow.holds Try.pinned (OpenSpec.ofChange fnExactLongestRowWrong)

/- THE SECOND FORM. 'bulk': how many values and letters a reading holds, each counted each time it is reached (what is shared counts as often as it is met; a slice's spare places count too). A statement '..UptoSaid' is the law's where the arguments, and the package variables that the reading takes, are together of bulk at most 1048576: NARROWER than '..Said'. Prove '..Said' where nothing that the law and all that it calls make is longer than what came in: it says more and counts as full. Else prove '..UptoSaid'. A law counts once. -/
mutual
def uptoBulk {H : Type} : DataW H → Nat
  | .lit (.string bytes) => bytes.length + 1
  | .lit _ => 1
  | .nil => 1
  | .ptr d => uptoBulk d + 1
  | .slice elems spare => uptoBulkAll elems + uptoBulkAll spare + 1
  | .agg parts => uptoBulkAll parts + 1
  | .iface _ d => uptoBulk d + 1
  | .map entries => uptoBulkEntries entries + 1
  | .held _ => 1
def uptoBulkAll {H : Type} : List (DataW H) → Nat
  | [] => 0
  | d :: r => uptoBulk d + uptoBulkAll r
def uptoBulkEntries {H : Type} : List (Lit × DataW H) → Nat
  | [] => 0
  | x :: r => uptoBulkEntry x + uptoBulkEntries r
def uptoBulkEntry {H : Type} : Lit × DataW H → Nat
  | (.string bytes, d) => bytes.length + uptoBulk d + 1
  | (_, d) => uptoBulk d + 1
 end
def uptoSmall : (H : Type) → List (DataW H) → Bool := fun _ ds => decide (uptoBulkAll ds ≤ 1048576)
def OpenSpec.upto (s : _root_.Go.ChangeSpec) : _root_.Go.OpenSpec := { _root_.Go.OpenSpec.ofChange s with cond := some uptoSmall }

/-- 'laws.FnExactCountRowGardens', WHERE WHAT IT READS IS OF BULK AT MOST 1048576: true; the input reads as it did. -/
def fnExactCountRowGardensUptoRow : OpenClaim := { program := "yteofiikjilhlgaa", sum := "ab43ab6cc7e9c2ede385dad9d68f6551626d4f7bea29c6c2e57e370d36e72c67", func := "loop.example/g01114/laws.FnExactCountRowGardens", spec := "fnExactCountRowGardens", apart := false, narrowed := true }
def FnExactCountRowGardensUptoSaid : Prop := fnExactCountRowGardensUptoRow.holds Try.pinned (OpenSpec.upto fnExactCountRowGardensSpec)

/-- 'laws.FnExactLongestRow', WHERE WHAT IT READS IS OF BULK AT MOST 1048576: true; the input reads as it did. -/
def fnExactLongestRowUptoRow : OpenClaim := { program := "yteofiikjilhlgaa", sum := "ab43ab6cc7e9c2ede385dad9d68f6551626d4f7bea29c6c2e57e370d36e72c67", func := "loop.example/g01114/laws.FnExactLongestRow", spec := "fnExactLongestRow", unfollowed := true, recurses := true, apart := false, narrowed := true }
def FnExactLongestRowUptoSaid : Prop := fnExactLongestRowUptoRow.holds Try.pinned (OpenSpec.upto fnExactLongestRowSpec)

end Rows
end Go.Proofs.Yteofiikjilhlgaa
