/- All bank states of a height and a number of cards: mathematics. No condition. -/
import Derived.Test.YtbkihnejgcebpaaBbM
import Derived.Test.YtbkihnejgcebpaaGa
namespace Go.Proofs.Ytbkihnejgcebpaa
open Go.RowKit
set_option linter.unusedVariables false
set_option linter.unusedSimpArgs false

/-- the bank states with so many cards left -/
def rowBk (H N l : Nat) : List Bk := (allF (N - l) (N - l) H).map fun p => ⟨(H : Int), (l : Int), p⟩
/-- those with fewer than k cards left -/
def baL (H N k : Nat) : List Bk := (List.range k).flatMap (rowBk H N)
theorem baL_zero (H N : Nat) : baL H N 0 = [] := rfl
theorem baL_succ (H N k : Nat) : baL H N (k + 1) = baL H N k ++ rowBk H N k := by unfold baL; rw [List.range_succ, List.flatMap_append]; simp
theorem rowBk_length {H N : Nat} (h : H ≤ 10) (hN : N ≤ 14) (l : Nat) : (rowBk H N l).length ≤ 3718 := by
  unfold rowBk
  rw [List.length_map, allF_length (N - l) (N - l) H (Nat.le_refl _) (by omega) (by omega)]
  have := cnt_le H (by omega) (N - l) (by omega)
  omega
theorem baL_length {H N : Nat} (h : H ≤ 10) (hN : N ≤ 14) (k : Nat) : (baL H N k).length ≤ 3718 * k := by
  induction k with
  | zero => simp [baL_zero]
  | succ k ih =>
    rw [baL_succ, List.length_append]
    have := rowBk_length h hN k
    omega
theorem baL_piles {H N : Nat} (hN : N ≤ 14) (k : Nat) : ∀ b ∈ baL H N k, b.p.length ≤ 14 := by
  intro b hb
  unfold baL at hb
  obtain ⟨l, -, hl⟩ := List.mem_flatMap.1 hb
  unfold rowBk at hl
  obtain ⟨p, hp, rfl⟩ := List.mem_map.1 hl
  have := allF_row (N - l) (N - l) H p hp
  show p.length ≤ 14
  omega
theorem plus2_le (bs : List Bk) (c : Nat) (h : ∀ b ∈ bs, b.p.length ≤ c) : (plus2 (lensB bs)).sum ≤ bs.length * (c + 2) := by
  induction bs with
  | nil => simp [plus2, lensB]
  | cons b bs ih =>
    have h1 := h b (by simp)
    have h2 := ih (fun x hx => h x (by simp [hx]))
    have e : (plus2 (lensB (b :: bs))).sum = (b.p.length + 2) + (plus2 (lensB bs)).sum := by simp [plus2, lensB]
    rw [e, List.length_cons, Nat.succ_mul]
    omega
def mAllBanks (h n : Int) : List Bk × Bool := if (1 ≤ h ∧ h ≤ 10) ∧ 0 ≤ n ∧ n ≤ 14 then (baL h.toNat n.toNat (min h.toNat (n.toNat + 1)), true) else ([], false)
theorem mAllBanks_bound (h n : Int) : (mAllBanks h n).1.length ≤ 1048576 ∧ (plus2 (lensB (mAllBanks h n).1)).sum ≤ 1048576 := by
  unfold mAllBanks
  split
  · next q =>
    have h1 := baL_length (H := h.toNat) (N := n.toNat) (by omega) (by omega) (min h.toNat (n.toNat + 1))
    have h2 := plus2_le (baL h.toNat n.toNat (min h.toNat (n.toNat + 1))) 14 (baL_piles (by omega) _)
    have h3 : min h.toNat (n.toNat + 1) ≤ 10 := by omega
    have h4 : 3718 * min h.toNat (n.toNat + 1) ≤ 37180 := by omega
    exact ⟨by show (baL _ _ _).length ≤ _; omega, by show (plus2 (lensB (baL _ _ _))).sum ≤ _; omega⟩
  · simp [plus2, lensB]
end Go.Proofs.Ytbkihnejgcebpaa
