/- Chapter 2: all choices of bits, and all cyclic piles, by the model. No condition. -/
import Derived.Test.YtaebdafjbkadlaaRingsI
import Derived.Test.YtaebdafjbkadlaaAll
namespace Go.Proofs.Ytaebdafjbkadlaa
open Go.RowKit
set_option linter.unusedVariables false
set_option linter.unusedSimpArgs false
set_option maxRecDepth 20000

def choiceL : Nat → Nat → List (List Int)
  | 0, o => if o = 0 then [[]] else []
  | n + 1, o => (if 1 ≤ o then (choiceL n (o - 1)).map ((1 : Int) :: ·) else []) ++ (choiceL n o).map ((0 : Int) :: ·)
def chB (n o b : Nat) : List (List Int) := if b ≤ o then (choiceL n (o - b)).map ((b : Int) :: ·) else []
def chPart (n o X : Nat) : List (List Int) := if X = 0 then chB n o 1 ++ chB n o 0 else if X = 1 then chB n o 1 else []
theorem chPart_step (n o b : Nat) (hb : b ≤ 1) : chPart n o b = chPart n o (b + 1) ++ chB n o b := by
  have : b = 0 ∨ b = 1 := by omega
  rcases this with rfl | rfl
  · simp [chPart]
  · simp [chPart]
theorem chPart_end (n o : Nat) : chPart n o 0 = choiceL (n + 1) o := by
  simp only [chPart, if_true, choiceL, chB]
  simp
theorem choice_length (n : Nat) : ∀ o, (choiceL n o).length ≤ 2 ^ n := by
  induction n with
  | zero => intro o; unfold choiceL; split <;> simp
  | succ n ih =>
    intro o
    unfold choiceL
    have h1 := ih (o - 1)
    have h2 := ih o
    rw [List.length_append, List.length_map, Nat.pow_succ]
    split
    · rw [List.length_map]; omega
    · simp; omega
theorem choice_row (n : Nat) : ∀ o, ∀ ys ∈ choiceL n o, ys.length = n ∧ IsB ys := by
  induction n with
  | zero =>
    intro o ys hy
    unfold choiceL at hy
    split at hy
    · rw [List.mem_singleton.1 hy]; exact ⟨rfl, fun b hb => by cases hb⟩
    · cases hy
  | succ n ih =>
    intro o ys hy
    unfold choiceL at hy
    rcases List.mem_append.1 hy with h | h
    · split at h
      · obtain ⟨zs, hz, rfl⟩ := List.mem_map.1 h
        have := ih (o - 1) zs hz
        refine ⟨by simp [this.1], fun b hb => ?_⟩
        rcases List.mem_cons.1 hb with rfl | hb
        · exact .inr rfl
        · exact this.2 b hb
      · cases h
    · obtain ⟨zs, hz, rfl⟩ := List.mem_map.1 h
      have := ih o zs hz
      refine ⟨by simp [this.1], fun b hb => ?_⟩
      rcases List.mem_cons.1 hb with rfl | hb
      · exact .inl rfl
      · exact this.2 b hb
theorem choice_getD (n o i : Nat) : ((choiceL n o).getD i []).length ≤ n := getD_row (b := n) (fun ys hy => Nat.le_of_eq (choice_row n o ys hy).1) i
theorem chB_length (n o b : Nat) : (chB n o b).length ≤ 2 ^ n := by
  unfold chB
  split
  · rw [List.length_map]; exact choice_length n _
  · simp
theorem chPart_length (n o X : Nat) : (chPart n o X).length ≤ 2 ^ n + 2 ^ n := by
  have h1 := chB_length n o 1
  have h2 := chB_length n o 0
  unfold chPart
  split
  · rw [List.length_append]; omega
  · split
    · omega
    · simp

theorem choice_zero (o : Nat) : choiceL 0 o = if o = 0 then [[]] else [] := rfl
end Go.Proofs.Ytaebdafjbkadlaa
