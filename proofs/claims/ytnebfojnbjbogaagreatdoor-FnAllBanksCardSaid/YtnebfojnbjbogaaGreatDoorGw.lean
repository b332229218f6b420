/- Several texts in one: BoM, BrM. No condition. -/
import Derived.Test.YtnebfojnbjbogaaGreatDoorBaM
namespace Go.Proofs.YtnebfojnbjbogaaGreatDoor
section
set_option linter.unusedVariables false
set_option linter.unusedSimpArgs false

/-- the first of n steps behind which the state stands that stands behind K -/
def seekB (b : Bk) (K : Nat) : Nat → Option Nat
  | 0 => none
  | n + 1 => match seekB b K n with
    | some i => some i
    | none => if stepsB n b = stepsB K b then some n else none
theorem seekB_none {b : Bk} {K n : Nat} (h : ∀ i, i < n → stepsB i b ≠ stepsB K b) : seekB b K n = none := by
  induction n with
  | zero => rfl
  | succ n ih =>
    unfold seekB
    rw [ih (fun i hi => h i (by omega)), if_neg (h n (by omega))]
theorem seekB_some {b : Bk} {K n i : Nat} (hi : i < n) (he : stepsB i b = stepsB K b) (h : ∀ j, j < i → stepsB j b ≠ stepsB K b) : seekB b K n = some i := by
  induction n with
  | zero => omega
  | succ n ih =>
    unfold seekB
    by_cases hn : i = n
    · subst hn
      rw [seekB_none h, if_pos he]
    · rw [ih (by omega)]
def orbF (b : Bk) : Nat → Nat → Int × Int × Bool
  | 0, _ => (0, 0, false)
  | f + 1, K => match seekB b K K with
    | some i => ((i : Int), (K : Int) - i, true)
    | none => orbF b f (K + 1)
def mOrb (b : Bk) : Int × Int × Bool := orbF b 1001 0
theorem orb_go {b : Bk} {K : Nat} (hK : K ≤ 1000) (h : ∀ i, i < K → stepsB i b ≠ stepsB K b) : orbF b (1001 - K) K = orbF b (1001 - (K + 1)) (K + 1) := by
  obtain ⟨f, hf⟩ : ∃ f, 1001 - K = f + 1 := ⟨1000 - K, by omega⟩
  have h2 : 1001 - (K + 1) = f := by omega
  rw [h2]
  show orbF b (1001 - K) K = _
  rw [hf]
  show (match seekB b K K with | some i => ((i : Int), (K : Int) - i, true) | none => orbF b f (K + 1)) = _
  rw [seekB_none h]
theorem orb_start (b : Bk) : mOrb b = orbF b (1001 - 1) 1 := orb_go (b := b) (K := 0) (by omega) (fun i hi => absurd hi (Nat.not_lt_zero _))
theorem orb_hit {b : Bk} {K i : Nat} (hK : K ≤ 1000) (hi : i < K) (he : stepsB i b = stepsB K b) (h : ∀ j, j < i → stepsB j b ≠ stepsB K b) : orbF b (1001 - K) K = ((i : Int), (K : Int) - i, true) := by
  obtain ⟨f, hf⟩ : ∃ f, 1001 - K = f + 1 := ⟨1000 - K, by omega⟩
  rw [hf]
  show (match seekB b K K with | some i => ((i : Int), (K : Int) - i, true) | none => orbF b f (K + 1)) = _
  rw [seekB_some hi he h]
theorem orb_end (b : Bk) {K : Nat} (hK : 1001 ≤ K) : orbF b (1001 - K) K = (0, 0, false) := by
  rw [show 1001 - K = 0 by omega]; rfl
def mBankOrbit (b : Bk) : Int × Int × Bool := if bankB b = true then mOrb b else (0, 0, false)
theorem mOrbit_yes {b : Bk} (h : BankOk b) : mBankOrbit b = mOrb b := by unfold mBankOrbit; rw [if_pos (bank_iff.2 h)]
theorem mOrbit_no {b : Bk} (h : ¬ BankOk b) : mBankOrbit b = (0, 0, false) := by unfold mBankOrbit; rw [if_neg (fun q => h (bank_iff.1 q))]
def mIsCyclicBank (b : Bk) : Bool × Bool := (decide ((mBankOrbit b).2.2 = true ∧ (mBankOrbit b).1 = 0), (mBankOrbit b).2.2)
theorem stepsB_next (b : Bk) (k : Nat) : stepsB (k + 1) b = stepB (stepsB k b) := rfl
end
end Go.Proofs.YtnebfojnbjbogaaGreatDoor
namespace Go.Proofs.YtnebfojnbjbogaaGreatDoor
section
set_option linter.unusedVariables false
set_option linter.unusedSimpArgs false

theorem seekB_of {b : Bk} {K i : Nat} : ∀ {n : Nat}, seekB b K n = some i → i < n ∧ stepsB i b = stepsB K b
  | 0, h => by cases h
  | n + 1, h => by
    unfold seekB at h
    cases hq : seekB b K n with
    | some j =>
      rw [hq] at h
      have e : j = i := by injection h
      subst e
      obtain ⟨h1, h2⟩ := seekB_of hq
      exact ⟨by omega, h2⟩
    | none =>
      rw [hq] at h
      by_cases he : stepsB n b = stepsB K b
      · simp only [if_pos he] at h
        have e : n = i := by injection h
        subst e
        exact ⟨by omega, he⟩
      · simp only [if_neg he] at h
        cases h
theorem seekB_no {b : Bk} {K : Nat} : ∀ {n : Nat}, seekB b K n = none → ∀ i, i < n → stepsB i b ≠ stepsB K b
  | 0, _, i, hi => absurd hi (Nat.not_lt_zero _)
  | n + 1, h, i, hi => by
    unfold seekB at h
    cases hq : seekB b K n with
    | some j => rw [hq] at h; cases h
    | none =>
      rw [hq] at h
      by_cases he : stepsB n b = stepsB K b
      · simp only [if_pos he] at h; cases h
      · by_cases hin : i = n
        · subst hin; exact he
        · exact seekB_no hq i (by omega)
theorem orbF_found (b : Bk) : ∀ (f K : Nat), (orbF b f K).2.2 = true → (∀ q, q < K → ∀ p, p < q → stepsB p b ≠ stepsB q b) →
    ∃ i M : Nat, i < M ∧ M < K + f ∧ orbF b f K = ((i : Int), (M : Int) - i, true) ∧ stepsB i b = stepsB M b ∧ ∀ q, q < M → ∀ p, p < q → stepsB p b ≠ stepsB q b
  | 0, K, h, _ => by cases h
  | f + 1, K, h, hd => by
    have e : orbF b (f + 1) K = match seekB b K K with | some i => ((i : Int), (K : Int) - i, true) | none => orbF b f (K + 1) := rfl
    cases hq : seekB b K K with
    | some i =>
      rw [hq] at e
      obtain ⟨h1, h2⟩ := seekB_of hq
      exact ⟨i, K, h1, by omega, e, h2, hd⟩
    | none =>
      rw [hq] at e
      rw [e] at h
      obtain ⟨i, M, h1, h2, h3, h4, h5⟩ := orbF_found b f (K + 1) h (fun q hq2 p hp => by
        by_cases hqk : q = K
        · subst hqk; exact seekB_no hq p hp
        · exact hd q (by omega) p hp)
      exact ⟨i, M, h1, by omega, by rw [e]; exact h3, h4, h5⟩
theorem orb_foundB {b : Bk} (h : (mOrb b).2.2 = true) : ∃ i M : Nat, i < M ∧ M ≤ 1000 ∧ mOrb b = ((i : Int), (M : Int) - i, true) ∧ stepsB i b = stepsB M b ∧ ∀ q, q < M → ∀ p, p < q → stepsB p b ≠ stepsB q b := by
  obtain ⟨i, M, h1, h2, h3⟩ := orbF_found b 1001 0 h (fun q hq => absurd hq (Nat.not_lt_zero _))
  exact ⟨i, M, h1, by omega, h3⟩
theorem orb_lostB {b : Bk} (h : (mOrb b).2.2 = false) : mOrb b = (0, 0, false) := by
  have key : ∀ (f K : Nat), (orbF b f K).2.2 = false → orbF b f K = (0, 0, false) := by
    intro f
    induction f with
    | zero => intro K _; rfl
    | succ f ih =>
      intro K h
      have e : orbF b (f + 1) K = match seekB b K K with | some i => ((i : Int), (K : Int) - i, true) | none => orbF b f (K + 1) := rfl
      cases hq : seekB b K K with
      | some i => rw [hq] at e; rw [e] at h; cases h
      | none => rw [hq] at e; rw [e] at h ⊢; exact ih _ h
  exact key 1001 0 h
theorem stepsB_plus (i j : Nat) (b : Bk) : stepsB (i + j) b = stepsB i (stepsB j b) := by
  induction i with
  | zero => rw [Nat.zero_add]; rfl
  | succ i ih => rw [show i + 1 + j = (i + j) + 1 by omega]; show stepB (stepsB (i + j) b) = stepB (stepsB i (stepsB j b)); rw [ih]
theorem step_leftB {b : Bk} (h : BankOk b) : (stepB b).l + madeB b * b.h = b.l + b.p.length := by
  show (b.l + b.p.length) % b.h + (b.l + b.p.length) / b.h * b.h = _
  rw [Int.mul_comm]
  have := Int.mul_ediv_add_emod (b.l + b.p.length) b.h
  omega
/-- the cards that are taken in the first k steps -/
def takenB (b : Bk) : Nat → Int
  | 0 => 0
  | k + 1 => takenB b k + ((stepsB k b).p.length : Nat)
theorem takenB_succ (b : Bk) (k : Nat) : takenB b (k + 1) = takenB b k + ((stepsB k b).p.length : Nat) := rfl
theorem stepsB_h (b : Bk) : ∀ k, (stepsB k b).h = b.h
  | 0 => rfl
  | k + 1 => stepsB_h b k
theorem takenB_bound {b : Bk} (h : BankOk b) : ∀ k, 0 ≤ takenB b k ∧ takenB b k ≤ 28 * k
  | 0 => ⟨Int.le_refl _, by show (0 : Int) ≤ _; omega⟩
  | k + 1 => by
    have := takenB_bound h k
    have hl := (steps_okB h k).len
    rw [takenB_succ]
    constructor <;> omega
theorem takenB_made {b : Bk} (h : BankOk b) (k : Nat) : (stepsB k b).l + b.h * (newL b k).sum = b.l + takenB b k := by
  induction k with
  | zero => show b.l + b.h * (newL b 0).sum = b.l + 0; rw [show newL b 0 = [] from rfl]; simp
  | succ k ih =>
    have hs := step_leftB (steps_okB h k)
    rw [stepsB_h] at hs
    rw [takenB_succ, newL_succ, List.sum_append, Int.mul_add]
    show (stepB (stepsB k b)).l + _ = _
    have e : ([madeB (stepsB k b)] : List Int).sum = madeB (stepsB k b) := by simp
    rw [e, Int.mul_comm b.h (madeB (stepsB k b))]
    omega
theorem newL_at (b : Bk) {k i : Nat} (h : i < k) : (newL b k).getD i 0 = madeB (stepsB i b) := by
  unfold newL
  rw [List.getD_eq_getElem?_getD, List.getElem?_map, List.getElem?_range h]; rfl
theorem newL_mem {b : Bk} (h : BankOk b) {k : Nat} {x : Int} (hx : x ∈ newL b k) : 0 ≤ x ∧ x ≤ 28 := by
  unfold newL at hx
  obtain ⟨i, hi, rfl⟩ := List.mem_map.1 hx
  have := (step_ok (steps_okB h i)).2.2
  omega
end
end Go.Proofs.YtnebfojnbjbogaaGreatDoor
