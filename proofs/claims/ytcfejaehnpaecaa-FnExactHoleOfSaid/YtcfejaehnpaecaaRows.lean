/-
  No cell of these rows narrows 'for every input' (looked for: loops, veiled, ifaces, maps, wideKeys, modest, calm, conditions, laid).
  DERIVED. THE GIVEN ROWS OF THIS SEAT. 12 by the template 'for every input the law returns true; each argument reads behind the call as it read before'; 0 by the template 'total and deterministic' (their statements: YtcfejaehnpaecaaTotals.lean).
  GIVEN WITH THE SEED: the statements are not yours to turn. If you find one false, say at which input.
  Laid BY PROGRAM, IN A SANDBOX (cutbox-rows.mjs): the forced cells as the released guide's own fill.sh prints them over the translation 27f51d32544bc23d… (all of the seat's roots in one cut). By AI agents, Wed Nov 11 2026. No macro, syntax, notation, axiom, sorry.
-/
import Derived.Test.YtcfejaehnpaecaaChecked
import GoSem.Claim
import GoSem.ClaimJoined
import GoSem.ClaimMapViews
import Derived.JoinedTies
import Derived.KernelRfl
namespace Go.Proofs.Ytcfejaehnpaecaa
/- THE CELL 'sum', in the pinned program and in every row, IS THE sha256 OF THE DUMP (.gsa) THAT YtcfejaehnpaecaaProg.lean LOADS. Nothing in Lean hashes anything: it is a label: what it is worth is what the hold of that sum in a sandbox is worth. -/
noncomputable def Try.pinned : Pinned := { name := "ytcfejaehnpaecaa", sum := "27f51d32544bc23d821a62ad9363c5a5963662623a8253a112996afc9e9c1fc5", checked := Try.checked }
namespace Rows
def none {H : Type} : Left H := { results := [], args := [] }

/-- 'laws.FnExactLevelsOf': WHATEVER THE INPUT: true; the input reads as it did. -/
def fnExactLevelsOfSpec : ChangeSpec := { name := "fnExactLevelsOf", fn := fun _ => fun
  | [d] => { results := [.lit (.bool true)], args := [d] }
  | _ => none }
def fnExactLevelsOfRow : OpenClaim := { program := "ytcfejaehnpaecaa", sum := "27f51d32544bc23d821a62ad9363c5a5963662623a8253a112996afc9e9c1fc5", func := "loop.example/g01114/laws.FnExactLevelsOf", spec := "fnExactLevelsOf", apart := false }
def FnExactLevelsOfSaid : Prop := fnExactLevelsOfRow.holds Try.pinned (OpenSpec.ofChange fnExactLevelsOfSpec)

/-- ITS FALSE NEIGHBOUR: 'it returns false'. Refute it at one input. -/
def fnExactLevelsOfWrong : ChangeSpec := { name := "fnExactLevelsOf", fn := fun _ => fun
  | [d] => { results := [.lit (.bool false)], args := [d] }
  | _ => none }
def FnExactLevelsOfWrongFalsely : Prop := fnExactLevelsOfRow.holds Try.pinned (OpenSpec.ofChange fnExactLevelsOfWrong)

/-- 'laws.FnExactPotentialOf': WHATEVER THE INPUT: true; the input reads as it did. -/
def fnExactPotentialOfSpec : ChangeSpec := { name := "fnExactPotentialOf", fn := fun _ => fun
  | [d] => { results := [.lit (.bool true)], args := [d] }
  | _ => none }
def fnExactPotentialOfRow : OpenClaim := { program := "ytcfejaehnpaecaa", sum := "27f51d32544bc23d821a62ad9363c5a5963662623a8253a112996afc9e9c1fc5", func := "loop.example/g01114/laws.FnExactPotentialOf", spec := "fnExactPotentialOf", apart := false }
def FnExactPotentialOfSaid : Prop := fnExactPotentialOfRow.holds Try.pinned (OpenSpec.ofChange fnExactPotentialOfSpec)

/-- ITS FALSE NEIGHBOUR: 'it returns false'. Refute it at one input. -/
def fnExactPotentialOfWrong : ChangeSpec := { name := "fnExactPotentialOf", fn := fun _ => fun
  | [d] => { results := [.lit (.bool false)], args := [d] }
  | _ => none }
def FnExactPotentialOfWrongFalsely : Prop := fnExactPotentialOfRow.holds Try.pinned (OpenSpec.ofChange fnExactPotentialOfWrong)

/-- 'laws.FnExactDropOf': WHATEVER THE INPUT: true; the input reads as it did. -/
def fnExactDropOfSpec : ChangeSpec := { name := "fnExactDropOf", fn := fun _ => fun
  | [d] => { results := [.lit (.bool true)], args := [d] }
  | _ => none }
def fnExactDropOfRow : OpenClaim := { program := "ytcfejaehnpaecaa", sum := "27f51d32544bc23d821a62ad9363c5a5963662623a8253a112996afc9e9c1fc5", func := "loop.example/g01114/laws.FnExactDropOf", spec := "fnExactDropOf", apart := false }
def FnExactDropOfSaid : Prop := fnExactDropOfRow.holds Try.pinned (OpenSpec.ofChange fnExactDropOfSpec)

/-- ITS FALSE NEIGHBOUR: 'it returns false'. Refute it at one input. -/
def fnExactDropOfWrong : ChangeSpec := { name := "fnExactDropOf", fn := fun _ => fun
  | [d] => { results := [.lit (.bool false)], args := [d] }
  | _ => none }
def FnExactDropOfWrongFalsely : Prop := fnExactDropOfRow.holds Try.pinned (OpenSpec.ofChange fnExactDropOfWrong)

/-- 'laws.FnExactPotentialsOf': WHATEVER THE INPUT: true; the input reads as it did. -/
def fnExactPotentialsOfSpec : ChangeSpec := { name := "fnExactPotentialsOf", fn := fun _ => fun
  | [d1, d2] => { results := [.lit (.bool true)], args := [d1, d2] }
  | _ => none }
def fnExactPotentialsOfRow : OpenClaim := { program := "ytcfejaehnpaecaa", sum := "27f51d32544bc23d821a62ad9363c5a5963662623a8253a112996afc9e9c1fc5", func := "loop.example/g01114/laws.FnExactPotentialsOf", spec := "fnExactPotentialsOf", unfollowed := true, recurses := true, apart := false }
def FnExactPotentialsOfSaid : Prop := fnExactPotentialsOfRow.holds Try.pinned (OpenSpec.ofChange fnExactPotentialsOfSpec)

/-- ITS FALSE NEIGHBOUR: 'it returns false'. Refute it at one input. -/
def fnExactPotentialsOfWrong : ChangeSpec := { name := "fnExactPotentialsOf", fn := fun _ => fun
  | [d1, d2] => { results := [.lit (.bool false)], args := [d1, d2] }
  | _ => none }
def FnExactPotentialsOfWrongFalsely : Prop := fnExactPotentialsOfRow.holds Try.pinned (OpenSpec.ofChange fnExactPotentialsOfWrong)

/-- 'laws.FnExactLeastPotential': WHATEVER THE INPUT: true; the input reads as it did. -/
def fnExactLeastPotentialSpec : ChangeSpec := { name := "fnExactLeastPotential", fn := fun _ => fun
  | [d] => { results := [.lit (.bool true)], args := [d] }
  | _ => none }
def fnExactLeastPotentialRow : OpenClaim := { program := "ytcfejaehnpaecaa", sum := "27f51d32544bc23d821a62ad9363c5a5963662623a8253a112996afc9e9c1fc5", func := "loop.example/g01114/laws.FnExactLeastPotential", spec := "fnExactLeastPotential", apart := false }
def FnExactLeastPotentialSaid : Prop := fnExactLeastPotentialRow.holds Try.pinned (OpenSpec.ofChange fnExactLeastPotentialSpec)

/-- ITS FALSE NEIGHBOUR: 'it returns false'. Refute it at one input. -/
def fnExactLeastPotentialWrong : ChangeSpec := { name := "fnExactLeastPotential", fn := fun _ => fun
  | [d] => { results := [.lit (.bool false)], args := [d] }
  | _ => none }
def FnExactLeastPotentialWrongFalsely : Prop := fnExactLeastPotentialRow.holds Try.pinned (OpenSpec.ofChange fnExactLeastPotentialWrong)

/-- 'laws.FnExactGreatestPotential': WHATEVER THE INPUT: true; the input reads as it did. -/
def fnExactGreatestPotentialSpec : ChangeSpec := { name := "fnExactGreatestPotential", fn := fun _ => fun
  | [d] => { results := [.lit (.bool true)], args := [d] }
  | _ => none }
def fnExactGreatestPotentialRow : OpenClaim := { program := "ytcfejaehnpaecaa", sum := "27f51d32544bc23d821a62ad9363c5a5963662623a8253a112996afc9e9c1fc5", func := "loop.example/g01114/laws.FnExactGreatestPotential", spec := "fnExactGreatestPotential", apart := false }
def FnExactGreatestPotentialSaid : Prop := fnExactGreatestPotentialRow.holds Try.pinned (OpenSpec.ofChange fnExactGreatestPotentialSpec)

/-- ITS FALSE NEIGHBOUR: 'it returns false'. Refute it at one input. -/
def fnExactGreatestPotentialWrong : ChangeSpec := { name := "fnExactGreatestPotential", fn := fun _ => fun
  | [d] => { results := [.lit (.bool false)], args := [d] }
  | _ => none }
def FnExactGreatestPotentialWrongFalsely : Prop := fnExactGreatestPotentialRow.holds Try.pinned (OpenSpec.ofChange fnExactGreatestPotentialWrong)

/-- 'laws.FnExactIsLeast': WHATEVER THE INPUT: true; the input reads as it did. -/
def fnExactIsLeastSpec : ChangeSpec := { name := "fnExactIsLeast", fn := fun _ => fun
  | [d] => { results := [.lit (.bool true)], args := [d] }
  | _ => none }
def fnExactIsLeastRow : OpenClaim := { program := "ytcfejaehnpaecaa", sum := "27f51d32544bc23d821a62ad9363c5a5963662623a8253a112996afc9e9c1fc5", func := "loop.example/g01114/laws.FnExactIsLeast", spec := "fnExactIsLeast", apart := false }
def FnExactIsLeastSaid : Prop := fnExactIsLeastRow.holds Try.pinned (OpenSpec.ofChange fnExactIsLeastSpec)

/-- ITS FALSE NEIGHBOUR: 'it returns false'. Refute it at one input. -/
def fnExactIsLeastWrong : ChangeSpec := { name := "fnExactIsLeast", fn := fun _ => fun
  | [d] => { results := [.lit (.bool false)], args := [d] }
  | _ => none }
def FnExactIsLeastWrongFalsely : Prop := fnExactIsLeastRow.holds Try.pinned (OpenSpec.ofChange fnExactIsLeastWrong)

/-- 'laws.FnExactNextDrop': WHATEVER THE INPUT: true; the input reads as it did. -/
def fnExactNextDropSpec : ChangeSpec := { name := "fnExactNextDrop", fn := fun _ => fun
  | [d] => { results := [.lit (.bool true)], args := [d] }
  | _ => none }
def fnExactNextDropRow : OpenClaim := { program := "ytcfejaehnpaecaa", sum := "27f51d32544bc23d821a62ad9363c5a5963662623a8253a112996afc9e9c1fc5", func := "loop.example/g01114/laws.FnExactNextDrop", spec := "fnExactNextDrop", unfollowed := true, recurses := true, apart := false }
def FnExactNextDropSaid : Prop := fnExactNextDropRow.holds Try.pinned (OpenSpec.ofChange fnExactNextDropSpec)

/-- ITS FALSE NEIGHBOUR: 'it returns false'. Refute it at one input. -/
def fnExactNextDropWrong : ChangeSpec := { name := "fnExactNextDrop", fn := fun _ => fun
  | [d] => { results := [.lit (.bool false)], args := [d] }
  | _ => none }
def FnExactNextDropWrongFalsely : Prop := fnExactNextDropRow.holds Try.pinned (OpenSpec.ofChange fnExactNextDropWrong)

/-- 'laws.FnExactCardBehind': WHATEVER THE INPUT: true; the input reads as it did. -/
def fnExactCardBehindSpec : ChangeSpec := { name := "fnExactCardBehind", fn := fun _ => fun
  | [d1, d2, d3] => { results := [.lit (.bool true)], args := [d1, d2, d3] }
  | _ => none }
def fnExactCardBehindRow : OpenClaim := { program := "ytcfejaehnpaecaa", sum := "27f51d32544bc23d821a62ad9363c5a5963662623a8253a112996afc9e9c1fc5", func := "loop.example/g01114/laws.FnExactCardBehind", spec := "fnExactCardBehind", apart := false }
def FnExactCardBehindSaid : Prop := fnExactCardBehindRow.holds Try.pinned (OpenSpec.ofChange fnExactCardBehindSpec)

/-- ITS FALSE NEIGHBOUR: 'it returns false'. Refute it at one input. -/
def fnExactCardBehindWrong : ChangeSpec := { name := "fnExactCardBehind", fn := fun _ => fun
  | [d1, d2, d3] => { results := [.lit (.bool false)], args := [d1, d2, d3] }
  | _ => none }
def FnExactCardBehindWrongFalsely : Prop := fnExactCardBehindRow.holds Try.pinned (OpenSpec.ofChange fnExactCardBehindWrong)

/-- 'laws.FnExactRoundOf': WHATEVER THE INPUT: true; the input reads as it did. -/
def fnExactRoundOfSpec : ChangeSpec := { name := "fnExactRoundOf", fn := fun _ => fun
  | [d1, d2] => { results := [.lit (.bool true)], args := [d1, d2] }
  | _ => none }
def fnExactRoundOfRow : OpenClaim := { program := "ytcfejaehnpaecaa", sum := "27f51d32544bc23d821a62ad9363c5a5963662623a8253a112996afc9e9c1fc5", func := "loop.example/g01114/laws.FnExactRoundOf", spec := "fnExactRoundOf", apart := false }
def FnExactRoundOfSaid : Prop := fnExactRoundOfRow.holds Try.pinned (OpenSpec.ofChange fnExactRoundOfSpec)

/-- ITS FALSE NEIGHBOUR: 'it returns false'. Refute it at one input. -/
def fnExactRoundOfWrong : ChangeSpec := { name := "fnExactRoundOf", fn := fun _ => fun
  | [d1, d2] => { results := [.lit (.bool false)], args := [d1, d2] }
  | _ => none }
def FnExactRoundOfWrongFalsely : Prop := fnExactRoundOfRow.holds Try.pinned (OpenSpec.ofChange fnExactRoundOfWrong)

/-- 'laws.FnExactHoleOf': WHATEVER THE INPUT: true; the input reads as it did. -/
def fnExactHoleOfSpec : ChangeSpec := { name := "fnExactHoleOf", fn := fun _ => fun
  | [d] => { results := [.lit (.bool true)], args := [d] }
  | _ => none }
def fnExactHoleOfRow : OpenClaim := { program := "ytcfejaehnpaecaa", sum := "27f51d32544bc23d821a62ad9363c5a5963662623a8253a112996afc9e9c1fc5", func := "loop.example/g01114/laws.FnExactHoleOf", spec := "fnExactHoleOf", apart := false }
def FnExactHoleOfSaid : Prop := fnExactHoleOfRow.holds Try.pinned (OpenSpec.ofChange fnExactHoleOfSpec)

/-- ITS FALSE NEIGHBOUR: 'it returns false'. Refute it at one input. -/
def fnExactHoleOfWrong : ChangeSpec := { name := "fnExactHoleOf", fn := fun _ => fun
  | [d] => { results := [.lit (.bool false)], args := [d] }
  | _ => none }
def FnExactHoleOfWrongFalsely : Prop := fnExactHoleOfRow.holds Try.pinned (OpenSpec.ofChange fnExactHoleOfWrong)

/-- 'laws.FnExactSpillOf': WHATEVER THE INPUT: true; the input reads as it did. -/
def fnExactSpillOfSpec : ChangeSpec := { name := "fnExactSpillOf", fn := fun _ => fun
  | [d] => { results := [.lit (.bool true)], args := [d] }
  | _ => none }
def fnExactSpillOfRow : OpenClaim := { program := "ytcfejaehnpaecaa", sum := "27f51d32544bc23d821a62ad9363c5a5963662623a8253a112996afc9e9c1fc5", func := "loop.example/g01114/laws.FnExactSpillOf", spec := "fnExactSpillOf", apart := false }
def FnExactSpillOfSaid : Prop := fnExactSpillOfRow.holds Try.pinned (OpenSpec.ofChange fnExactSpillOfSpec)

/-- ITS FALSE NEIGHBOUR: 'it returns false'. Refute it at one input. -/
def fnExactSpillOfWrong : ChangeSpec := { name := "fnExactSpillOf", fn := fun _ => fun
  | [d] => { results := [.lit (.bool false)], args := [d] }
  | _ => none }
def FnExactSpillOfWrongFalsely : Prop := fnExactSpillOfRow.holds Try.pinned (OpenSpec.ofChange fnExactSpillOfWrong)

/- THE SECOND FORM. 'bulk': how many values and letters a reading holds, each counted each time it is reached (what is shared counts as often as it is met; a slice's spare places count too). A statement '..UptoSaid' is the law's where the arguments, and the package variables that the reading takes, are together of bulk at most 1048576: NARROWER than '..Said'. Prove '..Said' where nothing that the law and all that it calls make is longer than what came in: it says more and counts as full. Else prove '..UptoSaid'. A law counts once. -/
mutual
def uptoBulk {H : Type} : DataW H → Nat
  | .lit (.string bytes) => bytes.length + 1
  | .lit _ => 1
  | .nil => 1
  | .ptr d => uptoBulk d + 1
  | .slice elems spare => uptoBulkAll elems + uptoBulkAll spare + 1
  | .agg parts => uptoBulkAll parts + 1
  | .iface _ d => uptoBulk d + 1
  | .map entries => uptoBulkEntries entries + 1
  | .held _ => 1
def uptoBulkAll {H : Type} : List (DataW H) → Nat
  | [] => 0
  | d :: r => uptoBulk d + uptoBulkAll r
def uptoBulkEntries {H : Type} : List (Lit × DataW H) → Nat
  | [] => 0
  | x :: r => uptoBulkEntry x + uptoBulkEntries r
def uptoBulkEntry {H : Type} : Lit × DataW H → Nat
  | (.string bytes, d) => bytes.length + uptoBulk d + 1
  | (_, d) => uptoBulk d + 1
 end
def uptoSmall : (H : Type) → List (DataW H) → Bool := fun _ ds => decide (uptoBulkAll ds ≤ 1048576)
def OpenSpec.upto (s : _root_.Go.ChangeSpec) : _root_.Go.OpenSpec := { _root_.Go.OpenSpec.ofChange s with cond := some uptoSmall }

/-- 'laws.FnExactLevelsOf', WHERE WHAT IT READS IS OF BULK AT MOST 1048576: true; the input reads as it did. -/
def fnExactLevelsOfUptoRow : OpenClaim := { program := "ytcfejaehnpaecaa", sum := "27f51d32544bc23d821a62ad9363c5a5963662623a8253a112996afc9e9c1fc5", func := "loop.example/g01114/laws.FnExactLevelsOf", spec := "fnExactLevelsOf", apart := false, narrowed := true }
def FnExactLevelsOfUptoSaid : Prop := fnExactLevelsOfUptoRow.holds Try.pinned (OpenSpec.upto fnExactLevelsOfSpec)

/-- 'laws.FnExactPotentialOf', WHERE WHAT IT READS IS OF BULK AT MOST 1048576: true; the input reads as it did. -/
def fnExactPotentialOfUptoRow : OpenClaim := { program := "ytcfejaehnpaecaa", sum := "27f51d32544bc23d821a62ad9363c5a5963662623a8253a112996afc9e9c1fc5", func := "loop.example/g01114/laws.FnExactPotentialOf", spec := "fnExactPotentialOf", apart := false, narrowed := true }
def FnExactPotentialOfUptoSaid : Prop := fnExactPotentialOfUptoRow.holds Try.pinned (OpenSpec.upto fnExactPotentialOfSpec)

/-- 'laws.FnExactDropOf', WHERE WHAT IT READS IS OF BULK AT MOST 1048576: true; the input reads as it did. -/
def fnExactDropOfUptoRow : OpenClaim := { program := "ytcfejaehnpaecaa", sum := "27f51d32544bc23d821a62ad9363c5a5963662623a8253a112996afc9e9c1fc5", func := "loop.example/g01114/laws.FnExactDropOf", spec := "fnExactDropOf", apart := false, narrowed := true }
def FnExactDropOfUptoSaid : Prop := fnExactDropOfUptoRow.holds Try.pinned (OpenSpec.upto fnExactDropOfSpec)

/-- 'laws.FnExactPotentialsOf', WHERE WHAT IT READS IS OF BULK AT MOST 1048576: true; the input reads as it did. -/
def fnExactPotentialsOfUptoRow : OpenClaim := { program := "ytcfejaehnpaecaa", sum := "27f51d32544bc23d821a62ad9363c5a5963662623a8253a112996afc9e9c1fc5", func := "loop.example/g01114/laws.FnExactPotentialsOf", spec := "fnExactPotentialsOf", unfollowed := true, recurses := true, apart := false, narrowed := true }
def FnExactPotentialsOfUptoSaid : Prop := fnExactPotentialsOfUptoRow.holds Try.pinned (OpenSpec.upto fnExactPotentialsOfSpec)

/-- 'laws.FnExactLeastPotential', WHERE WHAT IT READS IS OF BULK AT MOST 1048576: true; the input reads as it did. -/
def fnExactLeastPotentialUptoRow : OpenClaim := { program := "ytcfejaehnpaecaa", sum := "27f51d32544bc23d821a62ad9363c5a5963662623a8253a112996afc9e9c1fc5", func := "loop.example/g01114/laws.FnExactLeastPotential", spec := "fnExactLeastPotential", apart := false, narrowed := true }
def FnExactLeastPotentialUptoSaid : Prop := fnExactLeastPotentialUptoRow.holds Try.pinned (OpenSpec.upto fnExactLeastPotentialSpec)

/-- 'laws.FnExactGreatestPotential', WHERE WHAT IT READS IS OF BULK AT MOST 1048576: true; the input reads as it did. -/
def fnExactGreatestPotentialUptoRow : OpenClaim := { program := "ytcfejaehnpaecaa", sum := "27f51d32544bc23d821a62ad9363c5a5963662623a8253a112996afc9e9c1fc5", func := "loop.example/g01114/laws.FnExactGreatestPotential", spec := "fnExactGreatestPotential", apart := false, narrowed := true }
def FnExactGreatestPotentialUptoSaid : Prop := fnExactGreatestPotentialUptoRow.holds Try.pinned (OpenSpec.upto fnExactGreatestPotentialSpec)

/-- 'laws.FnExactIsLeast', WHERE WHAT IT READS IS OF BULK AT MOST 1048576: true; the input reads as it did. -/
def fnExactIsLeastUptoRow : OpenClaim := { program := "ytcfejaehnpaecaa", sum := "27f51d32544bc23d821a62ad9363c5a5963662623a8253a112996afc9e9c1fc5", func := "loop.example/g01114/laws.FnExactIsLeast", spec := "fnExactIsLeast", apart := false, narrowed := true }
def FnExactIsLeastUptoSaid : Prop := fnExactIsLeastUptoRow.holds Try.pinned (OpenSpec.upto fnExactIsLeastSpec)

/-- 'laws.FnExactNextDrop', WHERE WHAT IT READS IS OF BULK AT MOST 1048576: true; the input reads as it did. -/
def fnExactNextDropUptoRow : OpenClaim := { program := "ytcfejaehnpaecaa", sum := "27f51d32544bc23d821a62ad9363c5a5963662623a8253a112996afc9e9c1fc5", func := "loop.example/g01114/laws.FnExactNextDrop", spec := "fnExactNextDrop", unfollowed := true, recurses := true, apart := false, narrowed := true }
def FnExactNextDropUptoSaid : Prop := fnExactNextDropUptoRow.holds Try.pinned (OpenSpec.upto fnExactNextDropSpec)

/-- 'laws.FnExactCardBehind', WHERE WHAT IT READS IS OF BULK AT MOST 1048576: true; the input reads as it did. -/
def fnExactCardBehindUptoRow : OpenClaim := { program := "ytcfejaehnpaecaa", sum := "27f51d32544bc23d821a62ad9363c5a5963662623a8253a112996afc9e9c1fc5", func := "loop.example/g01114/laws.FnExactCardBehind", spec := "fnExactCardBehind", apart := false, narrowed := true }
def FnExactCardBehindUptoSaid : Prop := fnExactCardBehindUptoRow.holds Try.pinned (OpenSpec.upto fnExactCardBehindSpec)

/-- 'laws.FnExactRoundOf', WHERE WHAT IT READS IS OF BULK AT MOST 1048576: true; the input reads as it did. -/
def fnExactRoundOfUptoRow : OpenClaim := { program := "ytcfejaehnpaecaa", sum := "27f51d32544bc23d821a62ad9363c5a5963662623a8253a112996afc9e9c1fc5", func := "loop.example/g01114/laws.FnExactRoundOf", spec := "fnExactRoundOf", apart := false, narrowed := true }
def FnExactRoundOfUptoSaid : Prop := fnExactRoundOfUptoRow.holds Try.pinned (OpenSpec.upto fnExactRoundOfSpec)

/-- 'laws.FnExactHoleOf', WHERE WHAT IT READS IS OF BULK AT MOST 1048576: true; the input reads as it did. -/
def fnExactHoleOfUptoRow : OpenClaim := { program := "ytcfejaehnpaecaa", sum := "27f51d32544bc23d821a62ad9363c5a5963662623a8253a112996afc9e9c1fc5", func := "loop.example/g01114/laws.FnExactHoleOf", spec := "fnExactHoleOf", apart := false, narrowed := true }
def FnExactHoleOfUptoSaid : Prop := fnExactHoleOfUptoRow.holds Try.pinned (OpenSpec.upto fnExactHoleOfSpec)

/-- 'laws.FnExactSpillOf', WHERE WHAT IT READS IS OF BULK AT MOST 1048576: true; the input reads as it did. -/
def fnExactSpillOfUptoRow : OpenClaim := { program := "ytcfejaehnpaecaa", sum := "27f51d32544bc23d821a62ad9363c5a5963662623a8253a112996afc9e9c1fc5", func := "loop.example/g01114/laws.FnExactSpillOf", spec := "fnExactSpillOf", apart := false, narrowed := true }
def FnExactSpillOfUptoSaid : Prop := fnExactSpillOfUptoRow.holds Try.pinned (OpenSpec.upto fnExactSpillOfSpec)

end Rows
end Go.Proofs.Ytcfejaehnpaecaa
