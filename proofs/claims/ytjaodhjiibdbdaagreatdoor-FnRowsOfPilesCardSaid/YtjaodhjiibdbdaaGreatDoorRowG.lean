/- Chapter 5: all rows of some cards, CountRowGardens by the model and by the program. DRAFT (never built): slots and the last steps are guesses. No condition. -/
import Derived.Test.YtjaodhjiibdbdaaGreatDoorRankW
import Derived.Test.YtjaodhjiibdbdaaGreatDoorRowP
import Derived.Test.YtjaodhjiibdbdaaGreatDoorGb
namespace Go.Proofs.YtjaodhjiibdbdaaGreatDoor
open Go.RowKit
set_option linter.unusedVariables false
set_option linter.unusedSimpArgs false
set_option maxRecDepth 20000

def rowAt (n r : Nat) : List Int := goR (2 * r + 1) n 0
def allR (n : Nat) : List (List Int) := (List.range (cntR n)).map (rowAt n)
theorem allR_length (n : Nat) : (allR n).length = cntR n := by simp [allR]
theorem allR_getD (n r : Nat) (h : r < cntR n) : (allR n).getD r [] = rowAt n r := by
  unfold allR
  rw [List.getD_eq_getElem?_getD, List.getElem?_map, List.getElem?_range h]; rfl
/-- the cards of what is still to come, those in hand among them -/
theorem goR_sum {E : Nat} (h0 : E.testBit 0 = true) : ∀ (c p : Nat), (c ≠ 0 ∨ p = 0) → (goR E c p).sum = (p + c : Nat) ∧ ∀ x ∈ goR E c p, 1 ≤ x
  | 0, p, h => by
    rcases h with h | h
    · exact absurd rfl h
    · subst h; exact ⟨rfl, fun x hx => by cases hx⟩
  | c + 1, p, _ => by
    rw [goR_cons]
    by_cases hb : E.testBit c = true
    · rw [if_pos hb]
      obtain ⟨h1, h2⟩ := goR_sum h0 c 0 (.inr rfl)
      refine ⟨by rw [List.sum_cons, h1]; omega, fun x hx => ?_⟩
      rcases List.mem_cons.1 hx with rfl | hx
      · omega
      · exact h2 x hx
    · rw [if_neg hb]
      have hc : c ≠ 0 := fun e => hb (by rw [e]; exact h0)
      obtain ⟨h1, h2⟩ := goR_sum h0 c (p + 1) (.inl hc)
      exact ⟨by rw [h1]; omega, h2⟩
theorem rowAt_row {n r : Nat} (hn : n ≤ 28) : RowOk (rowAt n r) ∧ (rowAt n r).sum = n := by
  have h0 : (2 * r + 1).testBit 0 = true := by
    rw [Nat.testBit_eq_decide_div_mod_eq, decide_eq_true_iff]; simp
  obtain ⟨h1, h2⟩ := goR_sum h0 n 0 (.inr rfl)
  refine ⟨⟨h2, ?_⟩, by unfold rowAt; rw [h1]; omega⟩
  unfold rowAt; rw [h1]; omega
def gardR (n : Nat) : Nat → Nat
  | 0 => 0
  | r + 1 => gardR n r + if pastC (rowAt n r) = 0 then 1 else 0
theorem gardR_le (n : Nat) : ∀ k, gardR n k ≤ k
  | 0 => Nat.le_refl _
  | k + 1 => by have := gardR_le n k; unfold gardR; split <;> omega
def mCountRowGardens (n : Int) : Int × Bool := if 0 ≤ n ∧ n ≤ 12 then ((gardR n.toNat (cntR n.toNat) : Int), true) else (0, false)
theorem mCRG_yes (n : Nat) (h : n ≤ 12) : mCountRowGardens n = ((gardR n (cntR n) : Int), true) := by unfold mCountRowGardens; rw [if_pos (by omega)]; rfl
theorem mCRG_no (n : Int) (h : ¬ (0 ≤ n ∧ n ≤ 12)) : mCountRowGardens n = (0, false) := by unfold mCountRowGardens; rw [if_neg h]
end Go.Proofs.YtjaodhjiibdbdaaGreatDoor
