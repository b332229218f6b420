/-
  No cell of these rows narrows 'for every input' (looked for: loops, veiled, ifaces, maps, wideKeys, modest, calm, conditions, laid).
  DERIVED. THE GIVEN ROWS OF THIS SEAT. 11 by the template 'for every input the law returns true; each argument reads behind the call as it read before'; 0 by the template 'total and deterministic' (their statements: YtmlkgnjenfonfaaTotals.lean).
  GIVEN WITH THE SEED: the statements are not yours to turn. If you find one false, say at which input.
  Laid BY PROGRAM, IN A SANDBOX (cutbox-rows.mjs): the forced cells as the released guide's own fill.sh prints them over the translation 8733e660cce3d579… (all of the seat's roots in one cut). By AI agents, Wed Nov 11 2026. No macro, syntax, notation, axiom, sorry.
-/
import Derived.Test.YtmlkgnjenfonfaaChecked
import GoSem.Claim
import GoSem.ClaimJoined
import GoSem.ClaimMapViews
import Derived.JoinedTies
import Derived.KernelRfl
namespace Go.Proofs.Ytmlkgnjenfonfaa
/- THE CELL 'sum', in the pinned program and in every row, IS THE sha256 OF THE DUMP (.gsa) THAT YtmlkgnjenfonfaaProg.lean LOADS. Nothing in Lean hashes anything: it is a label: what it is worth is what the hold of that sum in a sandbox is worth. -/
noncomputable def Try.pinned : Pinned := { name := "ytmlkgnjenfonfaa", sum := "8733e660cce3d5798e2cf7e4382c43ecb2f86fe4b495f35ef192ccd66db4623f", checked := Try.checked }
namespace Rows
def none {H : Type} : Left H := { results := [], args := [] }

/-- 'laws.FnExactIsBank': WHATEVER THE INPUT: true; the input reads as it did. -/
def fnExactIsBankSpec : ChangeSpec := { name := "fnExactIsBank", fn := fun _ => fun
  | [d] => { results := [.lit (.bool true)], args := [d] }
  | _ => none }
def fnExactIsBankRow : OpenClaim := { program := "ytmlkgnjenfonfaa", sum := "8733e660cce3d5798e2cf7e4382c43ecb2f86fe4b495f35ef192ccd66db4623f", func := "loop.example/g01114/laws.FnExactIsBank", spec := "fnExactIsBank", apart := false }
def FnExactIsBankSaid : Prop := fnExactIsBankRow.holds Try.pinned (OpenSpec.ofChange fnExactIsBankSpec)

/-- ITS FALSE NEIGHBOUR: 'it returns false'. Refute it at one input. -/
def fnExactIsBankWrong : ChangeSpec := { name := "fnExactIsBank", fn := fun _ => fun
  | [d] => { results := [.lit (.bool false)], args := [d] }
  | _ => none }
def FnExactIsBankWrongFalsely : Prop := fnExactIsBankRow.holds Try.pinned (OpenSpec.ofChange fnExactIsBankWrong)

/-- 'laws.FnExactBankCards': WHATEVER THE INPUT: true; the input reads as it did. -/
def fnExactBankCardsSpec : ChangeSpec := { name := "fnExactBankCards", fn := fun _ => fun
  | [d] => { results := [.lit (.bool true)], args := [d] }
  | _ => none }
def fnExactBankCardsRow : OpenClaim := { program := "ytmlkgnjenfonfaa", sum := "8733e660cce3d5798e2cf7e4382c43ecb2f86fe4b495f35ef192ccd66db4623f", func := "loop.example/g01114/laws.FnExactBankCards", spec := "fnExactBankCards", apart := false }
def FnExactBankCardsSaid : Prop := fnExactBankCardsRow.holds Try.pinned (OpenSpec.ofChange fnExactBankCardsSpec)

/-- ITS FALSE NEIGHBOUR: 'it returns false'. Refute it at one input. -/
def fnExactBankCardsWrong : ChangeSpec := { name := "fnExactBankCards", fn := fun _ => fun
  | [d] => { results := [.lit (.bool false)], args := [d] }
  | _ => none }
def FnExactBankCardsWrongFalsely : Prop := fnExactBankCardsRow.holds Try.pinned (OpenSpec.ofChange fnExactBankCardsWrong)

/-- 'laws.FnExactStartBank': WHATEVER THE INPUT: true; the input reads as it did. -/
def fnExactStartBankSpec : ChangeSpec := { name := "fnExactStartBank", fn := fun _ => fun
  | [d1, d2] => { results := [.lit (.bool true)], args := [d1, d2] }
  | _ => none }
def fnExactStartBankRow : OpenClaim := { program := "ytmlkgnjenfonfaa", sum := "8733e660cce3d5798e2cf7e4382c43ecb2f86fe4b495f35ef192ccd66db4623f", func := "loop.example/g01114/laws.FnExactStartBank", spec := "fnExactStartBank", apart := false }
def FnExactStartBankSaid : Prop := fnExactStartBankRow.holds Try.pinned (OpenSpec.ofChange fnExactStartBankSpec)

/-- ITS FALSE NEIGHBOUR: 'it returns false'. Refute it at one input. -/
def fnExactStartBankWrong : ChangeSpec := { name := "fnExactStartBank", fn := fun _ => fun
  | [d1, d2] => { results := [.lit (.bool false)], args := [d1, d2] }
  | _ => none }
def FnExactStartBankWrongFalsely : Prop := fnExactStartBankRow.holds Try.pinned (OpenSpec.ofChange fnExactStartBankWrong)

/-- 'laws.FnExactStepBank': WHATEVER THE INPUT: true; the input reads as it did. -/
def fnExactStepBankSpec : ChangeSpec := { name := "fnExactStepBank", fn := fun _ => fun
  | [d] => { results := [.lit (.bool true)], args := [d] }
  | _ => none }
def fnExactStepBankRow : OpenClaim := { program := "ytmlkgnjenfonfaa", sum := "8733e660cce3d5798e2cf7e4382c43ecb2f86fe4b495f35ef192ccd66db4623f", func := "loop.example/g01114/laws.FnExactStepBank", spec := "fnExactStepBank", apart := false }
def FnExactStepBankSaid : Prop := fnExactStepBankRow.holds Try.pinned (OpenSpec.ofChange fnExactStepBankSpec)

/-- ITS FALSE NEIGHBOUR: 'it returns false'. Refute it at one input. -/
def fnExactStepBankWrong : ChangeSpec := { name := "fnExactStepBank", fn := fun _ => fun
  | [d] => { results := [.lit (.bool false)], args := [d] }
  | _ => none }
def FnExactStepBankWrongFalsely : Prop := fnExactStepBankRow.holds Try.pinned (OpenSpec.ofChange fnExactStepBankWrong)

/-- 'laws.FnExactBankSteps': WHATEVER THE INPUT: true; the input reads as it did. -/
def fnExactBankStepsSpec : ChangeSpec := { name := "fnExactBankSteps", fn := fun _ => fun
  | [d1, d2] => { results := [.lit (.bool true)], args := [d1, d2] }
  | _ => none }
def fnExactBankStepsRow : OpenClaim := { program := "ytmlkgnjenfonfaa", sum := "8733e660cce3d5798e2cf7e4382c43ecb2f86fe4b495f35ef192ccd66db4623f", func := "loop.example/g01114/laws.FnExactBankSteps", spec := "fnExactBankSteps", apart := false }
def FnExactBankStepsSaid : Prop := fnExactBankStepsRow.holds Try.pinned (OpenSpec.ofChange fnExactBankStepsSpec)

/-- ITS FALSE NEIGHBOUR: 'it returns false'. Refute it at one input. -/
def fnExactBankStepsWrong : ChangeSpec := { name := "fnExactBankSteps", fn := fun _ => fun
  | [d1, d2] => { results := [.lit (.bool false)], args := [d1, d2] }
  | _ => none }
def FnExactBankStepsWrongFalsely : Prop := fnExactBankStepsRow.holds Try.pinned (OpenSpec.ofChange fnExactBankStepsWrong)

/-- 'laws.FnExactNewPiles': WHATEVER THE INPUT: true; the input reads as it did. -/
def fnExactNewPilesSpec : ChangeSpec := { name := "fnExactNewPiles", fn := fun _ => fun
  | [d1, d2] => { results := [.lit (.bool true)], args := [d1, d2] }
  | _ => none }
def fnExactNewPilesRow : OpenClaim := { program := "ytmlkgnjenfonfaa", sum := "8733e660cce3d5798e2cf7e4382c43ecb2f86fe4b495f35ef192ccd66db4623f", func := "loop.example/g01114/laws.FnExactNewPiles", spec := "fnExactNewPiles", apart := false }
def FnExactNewPilesSaid : Prop := fnExactNewPilesRow.holds Try.pinned (OpenSpec.ofChange fnExactNewPilesSpec)

/-- ITS FALSE NEIGHBOUR: 'it returns false'. Refute it at one input. -/
def fnExactNewPilesWrong : ChangeSpec := { name := "fnExactNewPiles", fn := fun _ => fun
  | [d1, d2] => { results := [.lit (.bool false)], args := [d1, d2] }
  | _ => none }
def FnExactNewPilesWrongFalsely : Prop := fnExactNewPilesRow.holds Try.pinned (OpenSpec.ofChange fnExactNewPilesWrong)

/-- 'laws.FnExactCountBanks': WHATEVER THE INPUT: true; the input reads as it did. -/
def fnExactCountBanksSpec : ChangeSpec := { name := "fnExactCountBanks", fn := fun _ => fun
  | [d1, d2] => { results := [.lit (.bool true)], args := [d1, d2] }
  | _ => none }
def fnExactCountBanksRow : OpenClaim := { program := "ytmlkgnjenfonfaa", sum := "8733e660cce3d5798e2cf7e4382c43ecb2f86fe4b495f35ef192ccd66db4623f", func := "loop.example/g01114/laws.FnExactCountBanks", spec := "fnExactCountBanks", recurses := true, apart := false }
def FnExactCountBanksSaid : Prop := fnExactCountBanksRow.holds Try.pinned (OpenSpec.ofChange fnExactCountBanksSpec)

/-- ITS FALSE NEIGHBOUR: 'it returns false'. Refute it at one input. -/
def fnExactCountBanksWrong : ChangeSpec := { name := "fnExactCountBanks", fn := fun _ => fun
  | [d1, d2] => { results := [.lit (.bool false)], args := [d1, d2] }
  | _ => none }
def FnExactCountBanksWrongFalsely : Prop := fnExactCountBanksRow.holds Try.pinned (OpenSpec.ofChange fnExactCountBanksWrong)

/-- 'laws.FnExactAgesOf': WHATEVER THE INPUT: true; the input reads as it did. -/
def fnExactAgesOfSpec : ChangeSpec := { name := "fnExactAgesOf", fn := fun _ => fun
  | [d] => { results := [.lit (.bool true)], args := [d] }
  | _ => none }
def fnExactAgesOfRow : OpenClaim := { program := "ytmlkgnjenfonfaa", sum := "8733e660cce3d5798e2cf7e4382c43ecb2f86fe4b495f35ef192ccd66db4623f", func := "loop.example/g01114/laws.FnExactAgesOf", spec := "fnExactAgesOf", apart := false }
def FnExactAgesOfSaid : Prop := fnExactAgesOfRow.holds Try.pinned (OpenSpec.ofChange fnExactAgesOfSpec)

/-- ITS FALSE NEIGHBOUR: 'it returns false'. Refute it at one input. -/
def fnExactAgesOfWrong : ChangeSpec := { name := "fnExactAgesOf", fn := fun _ => fun
  | [d] => { results := [.lit (.bool false)], args := [d] }
  | _ => none }
def FnExactAgesOfWrongFalsely : Prop := fnExactAgesOfRow.holds Try.pinned (OpenSpec.ofChange fnExactAgesOfWrong)

/-- 'laws.FnExactFromAges': WHATEVER THE INPUT: true; the input reads as it did. -/
def fnExactFromAgesSpec : ChangeSpec := { name := "fnExactFromAges", fn := fun _ => fun
  | [d1, d2, d3] => { results := [.lit (.bool true)], args := [d1, d2, d3] }
  | _ => none }
def fnExactFromAgesRow : OpenClaim := { program := "ytmlkgnjenfonfaa", sum := "8733e660cce3d5798e2cf7e4382c43ecb2f86fe4b495f35ef192ccd66db4623f", func := "loop.example/g01114/laws.FnExactFromAges", spec := "fnExactFromAges", apart := false }
def FnExactFromAgesSaid : Prop := fnExactFromAgesRow.holds Try.pinned (OpenSpec.ofChange fnExactFromAgesSpec)

/-- ITS FALSE NEIGHBOUR: 'it returns false'. Refute it at one input. -/
def fnExactFromAgesWrong : ChangeSpec := { name := "fnExactFromAges", fn := fun _ => fun
  | [d1, d2, d3] => { results := [.lit (.bool false)], args := [d1, d2, d3] }
  | _ => none }
def FnExactFromAgesWrongFalsely : Prop := fnExactFromAgesRow.holds Try.pinned (OpenSpec.ofChange fnExactFromAgesWrong)

/-- 'laws.FnExactAllBanks': WHATEVER THE INPUT: true; the input reads as it did. -/
def fnExactAllBanksSpec : ChangeSpec := { name := "fnExactAllBanks", fn := fun _ => fun
  | [d1, d2] => { results := [.lit (.bool true)], args := [d1, d2] }
  | _ => none }
def fnExactAllBanksRow : OpenClaim := { program := "ytmlkgnjenfonfaa", sum := "8733e660cce3d5798e2cf7e4382c43ecb2f86fe4b495f35ef192ccd66db4623f", func := "loop.example/g01114/laws.FnExactAllBanks", spec := "fnExactAllBanks", unfollowed := true, recurses := true, apart := false }
def FnExactAllBanksSaid : Prop := fnExactAllBanksRow.holds Try.pinned (OpenSpec.ofChange fnExactAllBanksSpec)

/-- ITS FALSE NEIGHBOUR: 'it returns false'. Refute it at one input. -/
def fnExactAllBanksWrong : ChangeSpec := { name := "fnExactAllBanks", fn := fun _ => fun
  | [d1, d2] => { results := [.lit (.bool false)], args := [d1, d2] }
  | _ => none }
def FnExactAllBanksWrongFalsely : Prop := fnExactAllBanksRow.holds Try.pinned (OpenSpec.ofChange fnExactAllBanksWrong)

/-- 'laws.FnExactBankPasts': WHATEVER THE INPUT: true; the input reads as it did. -/
def fnExactBankPastsSpec : ChangeSpec := { name := "fnExactBankPasts", fn := fun _ => fun
  | [d] => { results := [.lit (.bool true)], args := [d] }
  | _ => none }
def fnExactBankPastsRow : OpenClaim := { program := "ytmlkgnjenfonfaa", sum := "8733e660cce3d5798e2cf7e4382c43ecb2f86fe4b495f35ef192ccd66db4623f", func := "loop.example/g01114/laws.FnExactBankPasts", spec := "fnExactBankPasts", unfollowed := true, recurses := true, apart := false }
def FnExactBankPastsSaid : Prop := fnExactBankPastsRow.holds Try.pinned (OpenSpec.ofChange fnExactBankPastsSpec)

/-- ITS FALSE NEIGHBOUR: 'it returns false'. Refute it at one input. -/
def fnExactBankPastsWrong : ChangeSpec := { name := "fnExactBankPasts", fn := fun _ => fun
  | [d] => { results := [.lit (.bool false)], args := [d] }
  | _ => none }
def FnExactBankPastsWrongFalsely : Prop := fnExactBankPastsRow.holds Try.pinned (OpenSpec.ofChange fnExactBankPastsWrong)

/- THE SECOND FORM. 'bulk': how many values and letters a reading holds, each counted each time it is reached (what is shared counts as often as it is met; a slice's spare places count too). A statement '..UptoSaid' is the law's where the arguments, and the package variables that the reading takes, are together of bulk at most 1048576: NARROWER than '..Said'. Prove '..Said' where nothing that the law and all that it calls make is longer than what came in: it says more and counts as full. Else prove '..UptoSaid'. A law counts once. -/
mutual
def uptoBulk {H : Type} : DataW H → Nat
  | .lit (.string bytes) => bytes.length + 1
  | .lit _ => 1
  | .nil => 1
  | .ptr d => uptoBulk d + 1
  | .slice elems spare => uptoBulkAll elems + uptoBulkAll spare + 1
  | .agg parts => uptoBulkAll parts + 1
  | .iface _ d => uptoBulk d + 1
  | .map entries => uptoBulkEntries entries + 1
  | .held _ => 1
def uptoBulkAll {H : Type} : List (DataW H) → Nat
  | [] => 0
  | d :: r => uptoBulk d + uptoBulkAll r
def uptoBulkEntries {H : Type} : List (Lit × DataW H) → Nat
  | [] => 0
  | x :: r => uptoBulkEntry x + uptoBulkEntries r
def uptoBulkEntry {H : Type} : Lit × DataW H → Nat
  | (.string bytes, d) => bytes.length + uptoBulk d + 1
  | (_, d) => uptoBulk d + 1
 end
def uptoSmall : (H : Type) → List (DataW H) → Bool := fun _ ds => decide (uptoBulkAll ds ≤ 1048576)
def OpenSpec.upto (s : _root_.Go.ChangeSpec) : _root_.Go.OpenSpec := { _root_.Go.OpenSpec.ofChange s with cond := some uptoSmall }

/-- 'laws.FnExactIsBank', WHERE WHAT IT READS IS OF BULK AT MOST 1048576: true; the input reads as it did. -/
def fnExactIsBankUptoRow : OpenClaim := { program := "ytmlkgnjenfonfaa", sum := "8733e660cce3d5798e2cf7e4382c43ecb2f86fe4b495f35ef192ccd66db4623f", func := "loop.example/g01114/laws.FnExactIsBank", spec := "fnExactIsBank", apart := false, narrowed := true }
def FnExactIsBankUptoSaid : Prop := fnExactIsBankUptoRow.holds Try.pinned (OpenSpec.upto fnExactIsBankSpec)

/-- 'laws.FnExactBankCards', WHERE WHAT IT READS IS OF BULK AT MOST 1048576: true; the input reads as it did. -/
def fnExactBankCardsUptoRow : OpenClaim := { program := "ytmlkgnjenfonfaa", sum := "8733e660cce3d5798e2cf7e4382c43ecb2f86fe4b495f35ef192ccd66db4623f", func := "loop.example/g01114/laws.FnExactBankCards", spec := "fnExactBankCards", apart := false, narrowed := true }
def FnExactBankCardsUptoSaid : Prop := fnExactBankCardsUptoRow.holds Try.pinned (OpenSpec.upto fnExactBankCardsSpec)

/-- 'laws.FnExactStartBank', WHERE WHAT IT READS IS OF BULK AT MOST 1048576: true; the input reads as it did. -/
def fnExactStartBankUptoRow : OpenClaim := { program := "ytmlkgnjenfonfaa", sum := "8733e660cce3d5798e2cf7e4382c43ecb2f86fe4b495f35ef192ccd66db4623f", func := "loop.example/g01114/laws.FnExactStartBank", spec := "fnExactStartBank", apart := false, narrowed := true }
def FnExactStartBankUptoSaid : Prop := fnExactStartBankUptoRow.holds Try.pinned (OpenSpec.upto fnExactStartBankSpec)

/-- 'laws.FnExactStepBank', WHERE WHAT IT READS IS OF BULK AT MOST 1048576: true; the input reads as it did. -/
def fnExactStepBankUptoRow : OpenClaim := { program := "ytmlkgnjenfonfaa", sum := "8733e660cce3d5798e2cf7e4382c43ecb2f86fe4b495f35ef192ccd66db4623f", func := "loop.example/g01114/laws.FnExactStepBank", spec := "fnExactStepBank", apart := false, narrowed := true }
def FnExactStepBankUptoSaid : Prop := fnExactStepBankUptoRow.holds Try.pinned (OpenSpec.upto fnExactStepBankSpec)

/-- 'laws.FnExactBankSteps', WHERE WHAT IT READS IS OF BULK AT MOST 1048576: true; the input reads as it did. -/
def fnExactBankStepsUptoRow : OpenClaim := { program := "ytmlkgnjenfonfaa", sum := "8733e660cce3d5798e2cf7e4382c43ecb2f86fe4b495f35ef192ccd66db4623f", func := "loop.example/g01114/laws.FnExactBankSteps", spec := "fnExactBankSteps", apart := false, narrowed := true }
def FnExactBankStepsUptoSaid : Prop := fnExactBankStepsUptoRow.holds Try.pinned (OpenSpec.upto fnExactBankStepsSpec)

/-- 'laws.FnExactNewPiles', WHERE WHAT IT READS IS OF BULK AT MOST 1048576: true; the input reads as it did. -/
def fnExactNewPilesUptoRow : OpenClaim := { program := "ytmlkgnjenfonfaa", sum := "8733e660cce3d5798e2cf7e4382c43ecb2f86fe4b495f35ef192ccd66db4623f", func := "loop.example/g01114/laws.FnExactNewPiles", spec := "fnExactNewPiles", apart := false, narrowed := true }
def FnExactNewPilesUptoSaid : Prop := fnExactNewPilesUptoRow.holds Try.pinned (OpenSpec.upto fnExactNewPilesSpec)

/-- 'laws.FnExactCountBanks', WHERE WHAT IT READS IS OF BULK AT MOST 1048576: true; the input reads as it did. -/
def fnExactCountBanksUptoRow : OpenClaim := { program := "ytmlkgnjenfonfaa", sum := "8733e660cce3d5798e2cf7e4382c43ecb2f86fe4b495f35ef192ccd66db4623f", func := "loop.example/g01114/laws.FnExactCountBanks", spec := "fnExactCountBanks", recurses := true, apart := false, narrowed := true }
def FnExactCountBanksUptoSaid : Prop := fnExactCountBanksUptoRow.holds Try.pinned (OpenSpec.upto fnExactCountBanksSpec)

/-- 'laws.FnExactAgesOf', WHERE WHAT IT READS IS OF BULK AT MOST 1048576: true; the input reads as it did. -/
def fnExactAgesOfUptoRow : OpenClaim := { program := "ytmlkgnjenfonfaa", sum := "8733e660cce3d5798e2cf7e4382c43ecb2f86fe4b495f35ef192ccd66db4623f", func := "loop.example/g01114/laws.FnExactAgesOf", spec := "fnExactAgesOf", apart := false, narrowed := true }
def FnExactAgesOfUptoSaid : Prop := fnExactAgesOfUptoRow.holds Try.pinned (OpenSpec.upto fnExactAgesOfSpec)

/-- 'laws.FnExactFromAges', WHERE WHAT IT READS IS OF BULK AT MOST 1048576: true; the input reads as it did. -/
def fnExactFromAgesUptoRow : OpenClaim := { program := "ytmlkgnjenfonfaa", sum := "8733e660cce3d5798e2cf7e4382c43ecb2f86fe4b495f35ef192ccd66db4623f", func := "loop.example/g01114/laws.FnExactFromAges", spec := "fnExactFromAges", apart := false, narrowed := true }
def FnExactFromAgesUptoSaid : Prop := fnExactFromAgesUptoRow.holds Try.pinned (OpenSpec.upto fnExactFromAgesSpec)

/-- 'laws.FnExactAllBanks', WHERE WHAT IT READS IS OF BULK AT MOST 1048576: true; the input reads as it did. -/
def fnExactAllBanksUptoRow : OpenClaim := { program := "ytmlkgnjenfonfaa", sum := "8733e660cce3d5798e2cf7e4382c43ecb2f86fe4b495f35ef192ccd66db4623f", func := "loop.example/g01114/laws.FnExactAllBanks", spec := "fnExactAllBanks", unfollowed := true, recurses := true, apart := false, narrowed := true }
def FnExactAllBanksUptoSaid : Prop := fnExactAllBanksUptoRow.holds Try.pinned (OpenSpec.upto fnExactAllBanksSpec)

/-- 'laws.FnExactBankPasts', WHERE WHAT IT READS IS OF BULK AT MOST 1048576: true; the input reads as it did. -/
def fnExactBankPastsUptoRow : OpenClaim := { program := "ytmlkgnjenfonfaa", sum := "8733e660cce3d5798e2cf7e4382c43ecb2f86fe4b495f35ef192ccd66db4623f", func := "loop.example/g01114/laws.FnExactBankPasts", spec := "fnExactBankPasts", unfollowed := true, recurses := true, apart := false, narrowed := true }
def FnExactBankPastsUptoSaid : Prop := fnExactBankPastsUptoRow.holds Try.pinned (OpenSpec.upto fnExactBankPastsSpec)

end Rows
end Go.Proofs.Ytmlkgnjenfonfaa
