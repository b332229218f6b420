/- Chapter 2: small readers: equal lists, order of lists, is it there, are these bits. No condition. -/
import Derived.Test.YtdfmljkjidepeaaDoorRing
import Derived.Test.YtdfmljkjidepeaaDoorSort
import Derived.Test.YtdfmljkjidepeaaDoorSmA
namespace Go.Proofs.YtdfmljkjidepeaaDoor
open Go.RowKit
set_option linter.unusedVariables false
set_option linter.unusedSimpArgs false
set_option maxRecDepth 20000

theorem idxFrom_mem (xs : List Int) (x : Int) : ∀ i : Nat, 0 ≤ Lib.idxFrom xs x i ↔ x ∈ xs := by
  induction xs with
  | nil => intro i; simp [Lib.idxFrom]
  | cons a l ih =>
    intro i
    unfold Lib.idxFrom
    by_cases h : a = x
    · subst h; simp
    · have h' : ¬ x = a := fun e => h e.symm
      simp only [h, h', List.mem_cons, false_or]
      exact ih (i + 1)
theorem idxOf_mem (xs : List Int) (x : Int) : 0 ≤ Lib.idxOf xs x ↔ x ∈ xs := idxFrom_mem xs x 0
/-! ### Bits -/
def Bits (bs : List Int) : Prop := (1 ≤ bs.length ∧ bs.length ≤ 8) ∧ (∀ b ∈ bs, 0 ≤ b ∧ b ≤ 1) ∧ 0 ∈ bs
instance (bs : List Int) : Decidable (Bits bs) := by unfold Bits; infer_instance
def bitsB (bs : List Int) : Bool := decide (Bits bs)
theorem bits_iff {bs : List Int} : bitsB bs = true ↔ Bits bs := by unfold bitsB; simp
theorem Bits.isB {bs : List Int} (h : Bits bs) : IsB bs := fun b hb => by have := h.2.1 b hb; omega

/-! ### The piles of bits -/
/-- the piles of the first k bits -/
def fromT (bs : List Int) (n k : Nat) : List Int := ((List.range k).map fun (i : Nat) => (n : Int) - 1 - i + bs.getD i 0).filter (fun x => decide (0 < x))
theorem fromT_succ (bs : List Int) (n k : Nat) : fromT bs n (k + 1) = fromT bs n k ++ if 0 < (n : Int) - 1 - k + bs.getD k 0 then [(n : Int) - 1 - k + bs.getD k 0] else [] := by
  unfold fromT
  rw [List.range_succ, List.map_append, List.filter_append]
  congr 1
  by_cases h : 0 < (n : Int) - 1 - k + bs.getD k 0
  · rw [if_pos h, List.map_singleton, List.filter_cons_of_pos (by simpa using h)]; rfl
  · rw [if_neg h, List.map_singleton, List.filter_cons_of_neg (by simpa using h)]; rfl
theorem fromT_all (bs : List Int) (n : Nat) (hn : bs.length = n) : fromT bs n n = fromB bs := by
  subst hn
  induction bs with
  | nil => rfl
  | cons b l ih =>
    unfold fromT
    rw [List.length_cons, List.range_succ_eq_map, List.map_cons, List.map_map]
    have e : ((fun (i : Nat) => (((l.length + 1 : Nat)) : Int) - 1 - i + (b :: l).getD i 0) ∘ Nat.succ) = fun (i : Nat) => ((l.length : Nat) : Int) - 1 - i + l.getD i 0 := by
      funext i
      simp only [Function.comp, Nat.succ_eq_add_one, List.getD_cons_succ]
      omega
    rw [e]
    have e0 : (((l.length + 1 : Nat)) : Int) - 1 - ((0 : Nat) : Int) + (b :: l).getD 0 0 = l.length + b := by simp
    rw [e0]
    unfold fromB
    by_cases h : 0 < (l.length : Int) + b
    · rw [if_pos h, List.filter_cons_of_pos (by simpa using h)]
      congr 1
    · rw [if_neg h, List.filter_cons_of_neg (by simpa using h)]
      exact ih
theorem fromT_length (bs : List Int) (n k : Nat) : (fromT bs n k).length ≤ k := by
  unfold fromT
  have := List.length_filter_le (fun x => decide (0 < x)) ((List.range k).map fun (i : Nat) => (n : Int) - 1 - i + bs.getD i 0)
  simpa using this

end Go.Proofs.YtdfmljkjidepeaaDoor
