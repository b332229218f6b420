/- The play of a bank state, till a state comes again: mathematics. No condition. -/
import Derived.Test.YtnebfojnbjbogaaDoorBaM
namespace Go.Proofs.YtnebfojnbjbogaaDoor
set_option linter.unusedVariables false
set_option linter.unusedSimpArgs false

/-- the first of n steps behind which the state stands that stands behind K -/
def seekB (b : Bk) (K : Nat) : Nat → Option Nat
  | 0 => none
  | n + 1 => match seekB b K n with
    | some i => some i
    | none => if stepsB n b = stepsB K b then some n else none
theorem seekB_none {b : Bk} {K n : Nat} (h : ∀ i, i < n → stepsB i b ≠ stepsB K b) : seekB b K n = none := by
  induction n with
  | zero => rfl
  | succ n ih =>
    unfold seekB
    rw [ih (fun i hi => h i (by omega)), if_neg (h n (by omega))]
theorem seekB_some {b : Bk} {K n i : Nat} (hi : i < n) (he : stepsB i b = stepsB K b) (h : ∀ j, j < i → stepsB j b ≠ stepsB K b) : seekB b K n = some i := by
  induction n with
  | zero => omega
  | succ n ih =>
    unfold seekB
    by_cases hn : i = n
    · subst hn
      rw [seekB_none h, if_pos he]
    · rw [ih (by omega)]
def orbF (b : Bk) : Nat → Nat → Int × Int × Bool
  | 0, _ => (0, 0, false)
  | f + 1, K => match seekB b K K with
    | some i => ((i : Int), (K : Int) - i, true)
    | none => orbF b f (K + 1)
def mOrb (b : Bk) : Int × Int × Bool := orbF b 1001 0
theorem orb_go {b : Bk} {K : Nat} (hK : K ≤ 1000) (h : ∀ i, i < K → stepsB i b ≠ stepsB K b) : orbF b (1001 - K) K = orbF b (1001 - (K + 1)) (K + 1) := by
  obtain ⟨f, hf⟩ : ∃ f, 1001 - K = f + 1 := ⟨1000 - K, by omega⟩
  have h2 : 1001 - (K + 1) = f := by omega
  rw [h2]
  show orbF b (1001 - K) K = _
  rw [hf]
  show (match seekB b K K with | some i => ((i : Int), (K : Int) - i, true) | none => orbF b f (K + 1)) = _
  rw [seekB_none h]
theorem orb_start (b : Bk) : mOrb b = orbF b (1001 - 1) 1 := orb_go (b := b) (K := 0) (by omega) (fun i hi => absurd hi (Nat.not_lt_zero _))
theorem orb_hit {b : Bk} {K i : Nat} (hK : K ≤ 1000) (hi : i < K) (he : stepsB i b = stepsB K b) (h : ∀ j, j < i → stepsB j b ≠ stepsB K b) : orbF b (1001 - K) K = ((i : Int), (K : Int) - i, true) := by
  obtain ⟨f, hf⟩ : ∃ f, 1001 - K = f + 1 := ⟨1000 - K, by omega⟩
  rw [hf]
  show (match seekB b K K with | some i => ((i : Int), (K : Int) - i, true) | none => orbF b f (K + 1)) = _
  rw [seekB_some hi he h]
theorem orb_end (b : Bk) {K : Nat} (hK : 1001 ≤ K) : orbF b (1001 - K) K = (0, 0, false) := by
  rw [show 1001 - K = 0 by omega]; rfl
def mBankOrbit (b : Bk) : Int × Int × Bool := if bankB b = true then mOrb b else (0, 0, false)
theorem mOrbit_yes {b : Bk} (h : BankOk b) : mBankOrbit b = mOrb b := by unfold mBankOrbit; rw [if_pos (bank_iff.2 h)]
theorem mOrbit_no {b : Bk} (h : ¬ BankOk b) : mBankOrbit b = (0, 0, false) := by unfold mBankOrbit; rw [if_neg (fun q => h (bank_iff.1 q))]
def mIsCyclicBank (b : Bk) : Bool × Bool := (decide ((mBankOrbit b).2.2 = true ∧ (mBankOrbit b).1 = 0), (mBankOrbit b).2.2)
theorem stepsB_next (b : Bk) (k : Nat) : stepsB (k + 1) b = stepB (stepsB k b) := rfl
end Go.Proofs.YtnebfojnbjbogaaDoor
