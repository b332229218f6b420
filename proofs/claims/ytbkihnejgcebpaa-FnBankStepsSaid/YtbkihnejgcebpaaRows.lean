/-
  No cell of these rows narrows 'for every input' (looked for: loops, veiled, ifaces, maps, wideKeys, modest, calm, conditions, laid).
  DERIVED. THE GIVEN ROWS OF THIS SEAT. 3 by the template 'for every input the law returns true; each argument reads behind the call as it read before'; 0 by the template 'total and deterministic' (their statements: YtbkihnejgcebpaaTotals.lean).
  GIVEN WITH THE SEED: the statements are not yours to turn. If you find one false, say at which input.
  Laid BY PROGRAM, IN A SANDBOX (cutbox-rows.mjs): the forced cells as the released guide's own fill.sh prints them over the translation 36e838f8012a20ae… (all of the seat's roots in one cut). By AI agents, Wed Nov 11 2026. No macro, syntax, notation, axiom, sorry.
-/
import Derived.Test.YtbkihnejgcebpaaChecked
import GoSem.Claim
import GoSem.ClaimJoined
import GoSem.ClaimMapViews
import Derived.JoinedTies
import Derived.KernelRfl
namespace Go.Proofs.Ytbkihnejgcebpaa
/- THE CELL 'sum', in the pinned program and in every row, IS THE sha256 OF THE DUMP (.gsa) THAT YtbkihnejgcebpaaProg.lean LOADS. Nothing in Lean hashes anything: it is a label: what it is worth is what the hold of that sum in a sandbox is worth. -/
noncomputable def Try.pinned : Pinned := { name := "ytbkihnejgcebpaa", sum := "36e838f8012a20ae9dfbc89166af5f2727f187520282e1ddbd1de46856b4fe56", checked := Try.checked }
namespace Rows
def none {H : Type} : Left H := { results := [], args := [] }

/-- 'laws.FnExactAllBanks': WHATEVER THE INPUT: true; the input reads as it did. -/
def fnExactAllBanksSpec : ChangeSpec := { name := "fnExactAllBanks", fn := fun _ => fun
  | [d1, d2] => { results := [.lit (.bool true)], args := [d1, d2] }
  | _ => none }
def fnExactAllBanksRow : OpenClaim := { program := "ytbkihnejgcebpaa", sum := "36e838f8012a20ae9dfbc89166af5f2727f187520282e1ddbd1de46856b4fe56", func := "loop.example/g01114/laws.FnExactAllBanks", spec := "fnExactAllBanks", unfollowed := true, recurses := true, apart := false }
def FnExactAllBanksSaid : Prop := fnExactAllBanksRow.holds Try.pinned (OpenSpec.ofChange fnExactAllBanksSpec)

/-- ITS FALSE NEIGHBOUR: 'it returns false'. Refute it at one input. -/
def fnExactAllBanksWrong : ChangeSpec := { name := "fnExactAllBanks", fn := fun _ => fun
  | [d1, d2] => { results := [.lit (.bool false)], args := [d1, d2] }
  | _ => none }
def FnExactAllBanksWrongFalsely : Prop := fnExactAllBanksRow.holds Try.pinned (OpenSpec.ofChange fnExactAllBanksWrong)

/-- 'laws.FnExactBankPasts': WHATEVER THE INPUT: true; the input reads as it did. -/
def fnExactBankPastsSpec : ChangeSpec := { name := "fnExactBankPasts", fn := fun _ => fun
  | [d] => { results := [.lit (.bool true)], args := [d] }
  | _ => none }
def fnExactBankPastsRow : OpenClaim := { program := "ytbkihnejgcebpaa", sum := "36e838f8012a20ae9dfbc89166af5f2727f187520282e1ddbd1de46856b4fe56", func := "loop.example/g01114/laws.FnExactBankPasts", spec := "fnExactBankPasts", unfollowed := true, recurses := true, apart := false }
def FnExactBankPastsSaid : Prop := fnExactBankPastsRow.holds Try.pinned (OpenSpec.ofChange fnExactBankPastsSpec)

/-- ITS FALSE NEIGHBOUR: 'it returns false'. Refute it at one input. -/
def fnExactBankPastsWrong : ChangeSpec := { name := "fnExactBankPasts", fn := fun _ => fun
  | [d] => { results := [.lit (.bool false)], args := [d] }
  | _ => none }
def FnExactBankPastsWrongFalsely : Prop := fnExactBankPastsRow.holds Try.pinned (OpenSpec.ofChange fnExactBankPastsWrong)

/-- 'laws.FnBankSteps': WHATEVER THE INPUT: true; the input reads as it did. -/
def fnBankStepsSpec : ChangeSpec := { name := "fnBankSteps", fn := fun _ => fun
  | [d1, d2] => { results := [.lit (.bool true)], args := [d1, d2] }
  | _ => none }
def fnBankStepsRow : OpenClaim := { program := "ytbkihnejgcebpaa", sum := "36e838f8012a20ae9dfbc89166af5f2727f187520282e1ddbd1de46856b4fe56", func := "loop.example/g01114/laws.FnBankSteps", spec := "fnBankSteps", apart := false }
def FnBankStepsSaid : Prop := fnBankStepsRow.holds Try.pinned (OpenSpec.ofChange fnBankStepsSpec)

/-- ITS FALSE NEIGHBOUR: 'it returns false'. Refute it at one input. -/
def fnBankStepsWrong : ChangeSpec := { name := "fnBankSteps", fn := fun _ => fun
  | [d1, d2] => { results := [.lit (.bool false)], args := [d1, d2] }
  | _ => none }
def FnBankStepsWrongFalsely : Prop := fnBankStepsRow.holds Try.pinned (OpenSpec.ofChange fnBankStepsWrong)

/- THE SECOND FORM. 'bulk': how many values and letters a reading holds, each counted each time it is reached (what is shared counts as often as it is met; a slice's spare places count too). A statement '..UptoSaid' is the law's where the arguments, and the package variables that the reading takes, are together of bulk at most 1048576: NARROWER than '..Said'. Prove '..Said' where nothing that the law and all that it calls make is longer than what came in: it says more and counts as full. Else prove '..UptoSaid'. A law counts once. -/
mutual
def uptoBulk {H : Type} : DataW H → Nat
  | .lit (.string bytes) => bytes.length + 1
  | .lit _ => 1
  | .nil => 1
  | .ptr d => uptoBulk d + 1
  | .slice elems spare => uptoBulkAll elems + uptoBulkAll spare + 1
  | .agg parts => uptoBulkAll parts + 1
  | .iface _ d => uptoBulk d + 1
  | .map entries => uptoBulkEntries entries + 1
  | .held _ => 1
def uptoBulkAll {H : Type} : List (DataW H) → Nat
  | [] => 0
  | d :: r => uptoBulk d + uptoBulkAll r
def uptoBulkEntries {H : Type} : List (Lit × DataW H) → Nat
  | [] => 0
  | x :: r => uptoBulkEntry x + uptoBulkEntries r
def uptoBulkEntry {H : Type} : Lit × DataW H → Nat
  | (.string bytes, d) => bytes.length + uptoBulk d + 1
  | (_, d) => uptoBulk d + 1
 end
def uptoSmall : (H : Type) → List (DataW H) → Bool := fun _ ds => decide (uptoBulkAll ds ≤ 1048576)
def OpenSpec.upto (s : _root_.Go.ChangeSpec) : _root_.Go.OpenSpec := { _root_.Go.OpenSpec.ofChange s with cond := some uptoSmall }

/-- 'laws.FnExactAllBanks', WHERE WHAT IT READS IS OF BULK AT MOST 1048576: true; the input reads as it did. -/
def fnExactAllBanksUptoRow : OpenClaim := { program := "ytbkihnejgcebpaa", sum := "36e838f8012a20ae9dfbc89166af5f2727f187520282e1ddbd1de46856b4fe56", func := "loop.example/g01114/laws.FnExactAllBanks", spec := "fnExactAllBanks", unfollowed := true, recurses := true, apart := false, narrowed := true }
def FnExactAllBanksUptoSaid : Prop := fnExactAllBanksUptoRow.holds Try.pinned (OpenSpec.upto fnExactAllBanksSpec)

/-- 'laws.FnExactBankPasts', WHERE WHAT IT READS IS OF BULK AT MOST 1048576: true; the input reads as it did. -/
def fnExactBankPastsUptoRow : OpenClaim := { program := "ytbkihnejgcebpaa", sum := "36e838f8012a20ae9dfbc89166af5f2727f187520282e1ddbd1de46856b4fe56", func := "loop.example/g01114/laws.FnExactBankPasts", spec := "fnExactBankPasts", unfollowed := true, recurses := true, apart := false, narrowed := true }
def FnExactBankPastsUptoSaid : Prop := fnExactBankPastsUptoRow.holds Try.pinned (OpenSpec.upto fnExactBankPastsSpec)

/-- 'laws.FnBankSteps', WHERE WHAT IT READS IS OF BULK AT MOST 1048576: true; the input reads as it did. -/
def fnBankStepsUptoRow : OpenClaim := { program := "ytbkihnejgcebpaa", sum := "36e838f8012a20ae9dfbc89166af5f2727f187520282e1ddbd1de46856b4fe56", func := "loop.example/g01114/laws.FnBankSteps", spec := "fnBankSteps", apart := false, narrowed := true }
def FnBankStepsUptoSaid : Prop := fnBankStepsUptoRow.holds Try.pinned (OpenSpec.upto fnBankStepsSpec)

end Rows
end Go.Proofs.Ytbkihnejgcebpaa
