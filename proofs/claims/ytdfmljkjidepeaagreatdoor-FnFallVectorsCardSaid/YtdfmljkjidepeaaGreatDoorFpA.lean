/- What falls reach is never more than 400: a finite fact, by those lists that no fall makes. Plain mathematics; no condition. -/
import Derived.Test.YtdfmljkjidepeaaGreatDoorGf
namespace Go.Proofs.YtdfmljkjidepeaaGreatDoor
set_option linter.unusedVariables false
set_option linter.unusedSimpArgs false

/-- before a fall of a column -/
def upA (a : List Int) (i : Nat) : List Int :=
  if a.getD (i + 1) 0 = 1 ∧ i + 2 = a.length then (a.set i (a.getD i 0 + 1)).take (i + 1) else (a.set i (a.getD i 0 + 1)).set (i + 1) (a.getD (i + 1) 0 - 1)
def predB (a : List Int) (i : Nat) : Bool := decide (i < (upA a i).length) && steepB (upA a i) i && decide (Good (upA a i)) && decide (fallL (upA a i) i = a)
def predC (a : List Int) (i : Nat) : Bool := decide (a.getD (i + 2) 0 + 1 ≤ a.getD (i + 1) 0) && (decide (i = 0) || decide (a.getD i 0 + 1 ≤ a.getD (i - 1) 0))
def sourceB (a : List Int) : Bool := (List.range a.length).all fun i => !(predC a i && predB a i)
theorem source_or (a : List Int) : sourceB a = true ∨ ∃ y i, Good y ∧ i < y.length ∧ steepB y i = true ∧ fallL y i = a := by
  cases h : sourceB a with
  | true => exact .inl rfl
  | false =>
    right
    unfold sourceB at h
    rw [List.all_eq_false] at h
    obtain ⟨i, _, hi⟩ := h
    simp only [Bool.not_eq_true, Bool.not_eq_false'] at hi
    have hi2 : predB a i = true := by
      cases h1 : predC a i <;> cases h2 : predB a i <;> simp [h1, h2] at hi ⊢
    unfold predB at hi2
    simp only [Bool.and_eq_true, decide_eq_true_eq] at hi2
    exact ⟨upA a i, i, hi2.1.2, hi2.1.1.1, hi2.1.1.2, hi2.2⟩
/-- how many are reached in so many levels -/
def lvC : Nat → List (List Int) → Nat
  | 0, _ => 0
  | _ + 1, [] => 0
  | f + 1, x :: l => (x :: l).length + lvC f (once ((x :: l).flatMap behL))
def levF (l : List (List Int)) : Nat → List (List Int)
  | 0 => l
  | t + 1 => once ((levF l t).flatMap behL)
theorem levF_shift (l : List (List Int)) : ∀ t, levF l (t + 1) = levF (once (l.flatMap behL)) t
  | 0 => rfl
  | t + 1 => by show once ((levF l (t + 1)).flatMap behL) = once ((levF (once (l.flatMap behL)) t).flatMap behL); rw [levF_shift l t]
theorem levF_nil : ∀ t, levF [] t = []
  | 0 => rfl
  | t + 1 => by show once ((levF [] t).flatMap behL) = []; rw [levF_nil t]; rfl
theorem frS_levF (xs : List Int) : ∀ t, frS xs t = levF [xs] t
  | 0 => rfl
  | t + 1 => by show once ((frS xs t).flatMap behL) = once ((levF [xs] t).flatMap behL); rw [frS_levF xs t]
theorem lvC_eq : ∀ (f : Nat) (l : List (List Int)), ((List.range f).flatMap (levF l)).length = lvC f l
  | 0, _ => rfl
  | f + 1, [] => by
    have : (List.range (f + 1)).flatMap (levF []) = [] := by
      rw [List.flatMap_eq_nil_iff]
      intro t _
      exact levF_nil t
    rw [this]; rfl
  | f + 1, x :: l => by
    rw [List.range_succ_eq_map, List.flatMap_cons, List.length_append, List.flatMap_map]
    show (x :: l).length + ((List.range f).flatMap fun t => levF (x :: l) (t + 1)).length = _
    simp only [levF_shift]
    rw [lvC_eq f]
    rfl
theorem rs_count (xs : List Int) (f : Nat) : (rsS xs f).length = lvC f [xs] := by
  rw [← lvC_eq]
  unfold rsS
  have : frS xs = levF [xs] := funext (frS_levF xs)
  rw [this]
theorem rch_count (xs : List Int) : (rchS xs).length = lvC 600 [xs] := rs_count xs 600
def srcOk (n : Nat) : Bool := (allL n).all fun a => if a.length ≤ 12 then (if sourceB a = true then decide (lvC 600 [a] ≤ 400) else true) else true
set_option maxRecDepth 100000 in
theorem srcs_few : ∀ n : Fin 19, srcOk n.val = true := by decide +kernel
set_option maxRecDepth 100000 in
theorem srcs_19 : srcOk 19 = true := by decide +kernel
set_option maxRecDepth 100000 in
theorem srcs_20 : srcOk 20 = true := by decide +kernel
set_option maxRecDepth 100000 in
theorem srcs_21 : srcOk 21 = true := by decide +kernel
end Go.Proofs.YtdfmljkjidepeaaGreatDoor
