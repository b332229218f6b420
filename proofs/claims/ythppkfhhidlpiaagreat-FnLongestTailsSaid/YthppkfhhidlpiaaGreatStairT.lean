/- Chapter 2: the longest tail for as many cards as a staircase has. No condition. -/
import Derived.Test.YthppkfhhidlpiaaGreatTail42
namespace Go.Proofs.YthppkfhhidlpiaaGreat
set_option linter.unusedVariables false
set_option linter.unusedSimpArgs false
def stairT (n t : Nat) : Bool := !(levL (allCX n) t).isEmpty
set_option maxHeartbeats 8000000 in
private theorem st_7 : stairT 28 42 = true := by decide +kernel
set_option maxHeartbeats 8000000 in
private theorem st_6 : stairT 21 30 = true ∧ stairT 21 31 = false := by decide +kernel
set_option maxHeartbeats 8000000 in
private theorem st_5 : stairT 15 20 = true ∧ stairT 15 21 = false := by decide +kernel
private theorem st_4 : stairT 10 12 = true ∧ stairT 10 13 = false := by decide +kernel
private theorem st_3 : stairT 6 6 = true ∧ stairT 6 7 = false := by decide +kernel
private theorem st_2 : stairT 3 2 = true ∧ stairT 3 3 = false := by decide +kernel
private theorem st_1 : stairT 1 0 = true ∧ stairT 1 1 = false := by decide +kernel
private theorem st_0 : stairT 0 0 = true ∧ stairT 0 1 = false := by decide +kernel
theorem stairT_all (k : Nat) (h : k ≤ 7) : stairT (tri k) (k * k - k) = true ∧ stairT (tri k) (k * k - k + 1) = false := by
  match k, h with
  | 0, _ => exact st_0
  | 1, _ => exact st_1
  | 2, _ => exact st_2
  | 3, _ => exact st_3
  | 4, _ => exact st_4
  | 5, _ => exact st_5
  | 6, _ => exact st_6
  | 7, _ => exact ⟨st_7, by show stairT 28 43 = false; unfold stairT; rw [lev_end (by omega)]; rfl⟩
  | k + 8, h => exact absurd h (by omega)
theorem stair_long {k : Nat} (h : k ≤ 7) : (longF (allL (tri k))).1 = (k : Int) * (k : Int) - (k : Int) := by
  have h28 : tri k ≤ 28 := by
    have : ∀ k, k < 8 → tri k ≤ 28 := by decide
    exact this k (by omega)
  have hc := allCX_all (tri k) h28
  obtain ⟨M, h1, h2, h3, _⟩ := long_lev hc
  obtain ⟨s1, s2⟩ := stairT_all k h
  have e1 : levL (allCX (tri k)) (k * k - k) ≠ [] := by intro e; unfold stairT at s1; rw [e] at s1; cases s1
  have e2 : levL (allCX (tri k)) (k * k - k + 1) = [] := by
    unfold stairT at s2
    cases hh : levL (allCX (tri k)) (k * k - k + 1) with
    | nil => rfl
    | cons a l => rw [hh] at s2; cases s2
  have hM : M = k * k - k := by
    rcases Nat.lt_trichotomy M (k * k - k) with hl | he | hl
    · exact absurd h3 (lev_down hc.toCyclics (show M + 1 ≤ k * k - k from hl) e1)
    · exact he
    · exact absurd e2 (lev_down hc.toCyclics (show k * k - k + 1 ≤ M from hl) h2)
  rw [h1, hM]
  have hk : k ≤ k * k := by
    cases k with
    | zero => exact Nat.le_refl _
    | succ k => exact Nat.le_mul_of_pos_left _ (by omega)
  have hmul : ((k * k : Nat) : Int) = (k : Int) * (k : Int) := Int.natCast_mul k k
  omega
end Go.Proofs.YthppkfhhidlpiaaGreat
