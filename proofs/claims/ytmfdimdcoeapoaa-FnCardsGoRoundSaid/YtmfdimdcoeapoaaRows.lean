/-
  No cell of these rows narrows 'for every input' (looked for: loops, veiled, ifaces, maps, wideKeys, modest, calm, conditions, laid).
  DERIVED. THE GIVEN ROWS OF THIS SEAT. 5 by the template 'for every input the law returns true; each argument reads behind the call as it read before'; 0 by the template 'total and deterministic' (their statements: YtmfdimdcoeapoaaTotals.lean).
  GIVEN WITH THE SEED: the statements are not yours to turn. If you find one false, say at which input.
  Laid BY PROGRAM, IN A SANDBOX (cutbox-rows.mjs): the forced cells as the released guide's own fill.sh prints them over the translation 1dd79c85f66ec1b1… (all of the seat's roots in one cut). By AI agents, Wed Nov 11 2026. No macro, syntax, notation, axiom, sorry.
-/
import Derived.Test.YtmfdimdcoeapoaaChecked
import GoSem.Claim
import GoSem.ClaimJoined
import GoSem.ClaimMapViews
import Derived.JoinedTies
import Derived.KernelRfl
namespace Go.Proofs.Ytmfdimdcoeapoaa
/- THE CELL 'sum', in the pinned program and in every row, IS THE sha256 OF THE DUMP (.gsa) THAT YtmfdimdcoeapoaaProg.lean LOADS. Nothing in Lean hashes anything: it is a label: what it is worth is what the hold of that sum in a sandbox is worth. -/
noncomputable def Try.pinned : Pinned := { name := "ytmfdimdcoeapoaa", sum := "1dd79c85f66ec1b17224a3ed78f01bc35cbb1170686e60f7307efebfd49de155", checked := Try.checked }
namespace Rows
def none {H : Type} : Left H := { results := [], args := [] }

/-- 'laws.FnPotentialNeverRises': WHATEVER THE INPUT: true; the input reads as it did. -/
def fnPotentialNeverRisesSpec : ChangeSpec := { name := "fnPotentialNeverRises", fn := fun _ => fun
  | [d1, d2] => { results := [.lit (.bool true)], args := [d1, d2] }
  | _ => none }
def fnPotentialNeverRisesRow : OpenClaim := { program := "ytmfdimdcoeapoaa", sum := "1dd79c85f66ec1b17224a3ed78f01bc35cbb1170686e60f7307efebfd49de155", func := "loop.example/g01114/laws.FnPotentialNeverRises", spec := "fnPotentialNeverRises", unfollowed := true, recurses := true, apart := false }
def FnPotentialNeverRisesSaid : Prop := fnPotentialNeverRisesRow.holds Try.pinned (OpenSpec.ofChange fnPotentialNeverRisesSpec)

/-- ITS FALSE NEIGHBOUR: 'it returns false'. Refute it at one input. -/
def fnPotentialNeverRisesWrong : ChangeSpec := { name := "fnPotentialNeverRises", fn := fun _ => fun
  | [d1, d2] => { results := [.lit (.bool false)], args := [d1, d2] }
  | _ => none }
def FnPotentialNeverRisesWrongFalsely : Prop := fnPotentialNeverRisesRow.holds Try.pinned (OpenSpec.ofChange fnPotentialNeverRisesWrong)

/-- 'laws.FnLeastMeansCyclic': WHATEVER THE INPUT: true; the input reads as it did. -/
def fnLeastMeansCyclicSpec : ChangeSpec := { name := "fnLeastMeansCyclic", fn := fun _ => fun
  | [d1, d2] => { results := [.lit (.bool true)], args := [d1, d2] }
  | _ => none }
def fnLeastMeansCyclicRow : OpenClaim := { program := "ytmfdimdcoeapoaa", sum := "1dd79c85f66ec1b17224a3ed78f01bc35cbb1170686e60f7307efebfd49de155", func := "loop.example/g01114/laws.FnLeastMeansCyclic", spec := "fnLeastMeansCyclic", unfollowed := true, recurses := true, apart := false }
def FnLeastMeansCyclicSaid : Prop := fnLeastMeansCyclicRow.holds Try.pinned (OpenSpec.ofChange fnLeastMeansCyclicSpec)

/-- ITS FALSE NEIGHBOUR: 'it returns false'. Refute it at one input. -/
def fnLeastMeansCyclicWrong : ChangeSpec := { name := "fnLeastMeansCyclic", fn := fun _ => fun
  | [d1, d2] => { results := [.lit (.bool false)], args := [d1, d2] }
  | _ => none }
def FnLeastMeansCyclicWrongFalsely : Prop := fnLeastMeansCyclicRow.holds Try.pinned (OpenSpec.ofChange fnLeastMeansCyclicWrong)

/-- 'laws.FnLevelsHoldCards': WHATEVER THE INPUT: true; the input reads as it did. -/
def fnLevelsHoldCardsSpec : ChangeSpec := { name := "fnLevelsHoldCards", fn := fun _ => fun
  | [d1, d2] => { results := [.lit (.bool true)], args := [d1, d2] }
  | _ => none }
def fnLevelsHoldCardsRow : OpenClaim := { program := "ytmfdimdcoeapoaa", sum := "1dd79c85f66ec1b17224a3ed78f01bc35cbb1170686e60f7307efebfd49de155", func := "loop.example/g01114/laws.FnLevelsHoldCards", spec := "fnLevelsHoldCards", unfollowed := true, recurses := true, apart := false }
def FnLevelsHoldCardsSaid : Prop := fnLevelsHoldCardsRow.holds Try.pinned (OpenSpec.ofChange fnLevelsHoldCardsSpec)

/-- ITS FALSE NEIGHBOUR: 'it returns false'. Refute it at one input. -/
def fnLevelsHoldCardsWrong : ChangeSpec := { name := "fnLevelsHoldCards", fn := fun _ => fun
  | [d1, d2] => { results := [.lit (.bool false)], args := [d1, d2] }
  | _ => none }
def FnLevelsHoldCardsWrongFalsely : Prop := fnLevelsHoldCardsRow.holds Try.pinned (OpenSpec.ofChange fnLevelsHoldCardsWrong)

/-- 'laws.FnNextDrops': WHATEVER THE INPUT: true; the input reads as it did. -/
def fnNextDropsSpec : ChangeSpec := { name := "fnNextDrops", fn := fun _ => fun
  | [d1, d2] => { results := [.lit (.bool true)], args := [d1, d2] }
  | _ => none }
def fnNextDropsRow : OpenClaim := { program := "ytmfdimdcoeapoaa", sum := "1dd79c85f66ec1b17224a3ed78f01bc35cbb1170686e60f7307efebfd49de155", func := "loop.example/g01114/laws.FnNextDrops", spec := "fnNextDrops", unfollowed := true, recurses := true, apart := false }
def FnNextDropsSaid : Prop := fnNextDropsRow.holds Try.pinned (OpenSpec.ofChange fnNextDropsSpec)

/-- ITS FALSE NEIGHBOUR: 'it returns false'. Refute it at one input. -/
def fnNextDropsWrong : ChangeSpec := { name := "fnNextDrops", fn := fun _ => fun
  | [d1, d2] => { results := [.lit (.bool false)], args := [d1, d2] }
  | _ => none }
def FnNextDropsWrongFalsely : Prop := fnNextDropsRow.holds Try.pinned (OpenSpec.ofChange fnNextDropsWrong)

/-- 'laws.FnCardsGoRound': WHATEVER THE INPUT: true; the input reads as it did. -/
def fnCardsGoRoundSpec : ChangeSpec := { name := "fnCardsGoRound", fn := fun _ => fun
  | [d1, d2] => { results := [.lit (.bool true)], args := [d1, d2] }
  | _ => none }
def fnCardsGoRoundRow : OpenClaim := { program := "ytmfdimdcoeapoaa", sum := "1dd79c85f66ec1b17224a3ed78f01bc35cbb1170686e60f7307efebfd49de155", func := "loop.example/g01114/laws.FnCardsGoRound", spec := "fnCardsGoRound", unfollowed := true, recurses := true, apart := false }
def FnCardsGoRoundSaid : Prop := fnCardsGoRoundRow.holds Try.pinned (OpenSpec.ofChange fnCardsGoRoundSpec)

/-- ITS FALSE NEIGHBOUR: 'it returns false'. Refute it at one input. -/
def fnCardsGoRoundWrong : ChangeSpec := { name := "fnCardsGoRound", fn := fun _ => fun
  | [d1, d2] => { results := [.lit (.bool false)], args := [d1, d2] }
  | _ => none }
def FnCardsGoRoundWrongFalsely : Prop := fnCardsGoRoundRow.holds Try.pinned (OpenSpec.ofChange fnCardsGoRoundWrong)

/- THE SECOND FORM. 'bulk': how many values and letters a reading holds, each counted each time it is reached (what is shared counts as often as it is met; a slice's spare places count too). A statement '..UptoSaid' is the law's where the arguments, and the package variables that the reading takes, are together of bulk at most 1048576: NARROWER than '..Said'. Prove '..Said' where nothing that the law and all that it calls make is longer than what came in: it says more and counts as full. Else prove '..UptoSaid'. A law counts once. -/
mutual
def uptoBulk {H : Type} : DataW H → Nat
  | .lit (.string bytes) => bytes.length + 1
  | .lit _ => 1
  | .nil => 1
  | .ptr d => uptoBulk d + 1
  | .slice elems spare => uptoBulkAll elems + uptoBulkAll spare + 1
  | .agg parts => uptoBulkAll parts + 1
  | .iface _ d => uptoBulk d + 1
  | .map entries => uptoBulkEntries entries + 1
  | .held _ => 1
def uptoBulkAll {H : Type} : List (DataW H) → Nat
  | [] => 0
  | d :: r => uptoBulk d + uptoBulkAll r
def uptoBulkEntries {H : Type} : List (Lit × DataW H) → Nat
  | [] => 0
  | x :: r => uptoBulkEntry x + uptoBulkEntries r
def uptoBulkEntry {H : Type} : Lit × DataW H → Nat
  | (.string bytes, d) => bytes.length + uptoBulk d + 1
  | (_, d) => uptoBulk d + 1
 end
def uptoSmall : (H : Type) → List (DataW H) → Bool := fun _ ds => decide (uptoBulkAll ds ≤ 1048576)
def OpenSpec.upto (s : _root_.Go.ChangeSpec) : _root_.Go.OpenSpec := { _root_.Go.OpenSpec.ofChange s with cond := some uptoSmall }

/-- 'laws.FnPotentialNeverRises', WHERE WHAT IT READS IS OF BULK AT MOST 1048576: true; the input reads as it did. -/
def fnPotentialNeverRisesUptoRow : OpenClaim := { program := "ytmfdimdcoeapoaa", sum := "1dd79c85f66ec1b17224a3ed78f01bc35cbb1170686e60f7307efebfd49de155", func := "loop.example/g01114/laws.FnPotentialNeverRises", spec := "fnPotentialNeverRises", unfollowed := true, recurses := true, apart := false, narrowed := true }
def FnPotentialNeverRisesUptoSaid : Prop := fnPotentialNeverRisesUptoRow.holds Try.pinned (OpenSpec.upto fnPotentialNeverRisesSpec)

/-- 'laws.FnLeastMeansCyclic', WHERE WHAT IT READS IS OF BULK AT MOST 1048576: true; the input reads as it did. -/
def fnLeastMeansCyclicUptoRow : OpenClaim := { program := "ytmfdimdcoeapoaa", sum := "1dd79c85f66ec1b17224a3ed78f01bc35cbb1170686e60f7307efebfd49de155", func := "loop.example/g01114/laws.FnLeastMeansCyclic", spec := "fnLeastMeansCyclic", unfollowed := true, recurses := true, apart := false, narrowed := true }
def FnLeastMeansCyclicUptoSaid : Prop := fnLeastMeansCyclicUptoRow.holds Try.pinned (OpenSpec.upto fnLeastMeansCyclicSpec)

/-- 'laws.FnLevelsHoldCards', WHERE WHAT IT READS IS OF BULK AT MOST 1048576: true; the input reads as it did. -/
def fnLevelsHoldCardsUptoRow : OpenClaim := { program := "ytmfdimdcoeapoaa", sum := "1dd79c85f66ec1b17224a3ed78f01bc35cbb1170686e60f7307efebfd49de155", func := "loop.example/g01114/laws.FnLevelsHoldCards", spec := "fnLevelsHoldCards", unfollowed := true, recurses := true, apart := false, narrowed := true }
def FnLevelsHoldCardsUptoSaid : Prop := fnLevelsHoldCardsUptoRow.holds Try.pinned (OpenSpec.upto fnLevelsHoldCardsSpec)

/-- 'laws.FnNextDrops', WHERE WHAT IT READS IS OF BULK AT MOST 1048576: true; the input reads as it did. -/
def fnNextDropsUptoRow : OpenClaim := { program := "ytmfdimdcoeapoaa", sum := "1dd79c85f66ec1b17224a3ed78f01bc35cbb1170686e60f7307efebfd49de155", func := "loop.example/g01114/laws.FnNextDrops", spec := "fnNextDrops", unfollowed := true, recurses := true, apart := false, narrowed := true }
def FnNextDropsUptoSaid : Prop := fnNextDropsUptoRow.holds Try.pinned (OpenSpec.upto fnNextDropsSpec)

/-- 'laws.FnCardsGoRound', WHERE WHAT IT READS IS OF BULK AT MOST 1048576: true; the input reads as it did. -/
def fnCardsGoRoundUptoRow : OpenClaim := { program := "ytmfdimdcoeapoaa", sum := "1dd79c85f66ec1b17224a3ed78f01bc35cbb1170686e60f7307efebfd49de155", func := "loop.example/g01114/laws.FnCardsGoRound", spec := "fnCardsGoRound", unfollowed := true, recurses := true, apart := false, narrowed := true }
def FnCardsGoRoundUptoSaid : Prop := fnCardsGoRoundUptoRow.holds Try.pinned (OpenSpec.upto fnCardsGoRoundSpec)

end Rows
end Go.Proofs.Ytmfdimdcoeapoaa
