/- Chapter 2: the ring of bits that were given, and of piles. No condition. -/
import Derived.Test.YtmfdimdcoeapoaaGreatRingC
import Derived.Laws.ResultCell
namespace Go.Proofs.YtmfdimdcoeapoaaGreat
open Go.RowKit
set_option linter.unusedVariables false
set_option linter.unusedSimpArgs false
set_option maxRecDepth 20000

/-- a ring's cells, the first k numbers given -/
def withT (bs : List Int) (n k : Nat) : List Int := ((List.range 8).map fun j => if j < k then bs.getD j 0 else 0) ++ [(n : Int)]
theorem withT_length (bs : List Int) (n k : Nat) : (withT bs n k).length = 9 := by simp [withT]
theorem withT_getD (bs : List Int) (n k j : Nat) (hj : j < 8) : (withT bs n k).getD j 0 = if j < k then bs.getD j 0 else 0 := by
  unfold withT
  rw [List.getD_eq_getElem?_getD, List.getElem?_append_left (by simp; omega), List.getElem?_map, List.getElem?_range hj]; rfl
theorem withT_last (bs : List Int) (n k : Nat) : (withT bs n k).getD 8 0 = n := by
  unfold withT
  rw [List.getD_eq_getElem?_getD, List.getElem?_append_right (by simp)]; simp
theorem withT_zero (bs : List Int) (n : Nat) : withT bs n 0 = [0, 0, 0, 0, 0, 0, 0, 0, (n : Int)] := by
  unfold withT
  simp only [Nat.not_lt_zero, if_false]
  rfl
theorem withT_set (bs : List Int) (n k : Nat) (hk : k < 8) : (withT bs n k).set k (bs.getD k 0) = withT bs n (k + 1) := by
  apply list_ext_getD
  · rw [List.length_set, withT_length, withT_length]
  · intro j hj
    rw [withT_length] at hj
    by_cases hj8 : j < 8
    · by_cases hjr : j = k
      · subst hjr
        rw [getD_set_eq _ _ _ _ (by rw [withT_length]; omega), withT_getD _ _ _ _ hj8, if_pos (by omega)]
      · rw [getD_set_ne _ _ _ _ _ (fun e => hjr e.symm), withT_getD _ _ _ _ hj8, withT_getD _ _ _ _ hj8]
        by_cases hlt : j < k
        · rw [if_pos hlt, if_pos (by omega)]
        · rw [if_neg hlt, if_neg (by omega)]
    · have : j = 8 := by omega
      subst this
      rw [getD_set_ne _ _ _ _ _ (by omega), withT_last, withT_last]
theorem withT_all (bs : List Int) (n : Nat) (hn : bs.length = n) (j : Nat) (hj : j < 8) : (withT bs n n).getD j 0 = bs.getD j 0 := by
  rw [withT_getD _ _ _ _ hj]
  by_cases h : j < n
  · rw [if_pos h]
  · rw [if_neg h, List.getD_eq_getElem?_getD, List.getElem?_eq_none (by omega)]; rfl

/-- no ring -/
def ring0 : Value := .agg #[.int .i64 0, .int .i64 0, .int .i64 0, .int .i64 0, .int .i64 0, .int .i64 0, .int .i64 0, .int .i64 0, .int .i64 0]

def withV (bs : List Int) : Value := if bitsB bs = true then ringV bs else ring0
theorem withV_yes {bs : List Int} (h : bitsB bs = true) : withV bs = ringV bs := by unfold withV; rw [if_pos h]
theorem withV_no {bs : List Int} (h : bitsB bs = false) : withV bs = ring0 := by unfold withV; rw [if_neg (by rw [h]; simp)]
abbrev zer9 : Array Value := #[.int .i64 0, .int .i64 0, .int .i64 0, .int .i64 0, .int .i64 0, .int .i64 0, .int .i64 0, .int .i64 0, .int .i64 0]
end Go.Proofs.YtmfdimdcoeapoaaGreat
