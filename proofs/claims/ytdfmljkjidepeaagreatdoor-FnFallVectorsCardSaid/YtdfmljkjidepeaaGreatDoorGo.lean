/- Several texts in one: OrbA, OrbB, OrbC. No condition. -/
import Derived.Test.YtdfmljkjidepeaaGreatDoorRing
import Derived.Test.YtdfmljkjidepeaaGreatDoorSort
import Derived.Test.YtdfmljkjidepeaaGreatDoorSmA
import Derived.Test.YtdfmljkjidepeaaGreatDoorGh
namespace Go.Proofs.YtdfmljkjidepeaaGreatDoor
section
open Go.RowKit
set_option linter.unusedVariables false
set_option linter.unusedSimpArgs false
set_option maxRecDepth 20000

set_option maxHeartbeats 400000 in
theorem equal_any (ao bo : Option Addr) (n m cap cap' : Nat) (xs ys : List Int) (w : World) (hx : IntsAt w ao n cap xs) (hy : IntsAt w bo m cap' ys) :
    Calls Tryz.prog 29 #[.slice ao n cap, .slice bo m cap'] w fun e w' => e = .returned (.bool (decide (xs = ys))) ∧ ∃ q, w' = w.drewN q := by
  have hn' := hx.lenInt
  have hm' := hy.lenInt
  by_cases hnm : n = m
  · subst hnm
    go_enter Tryz.func29, Tryz.ntmps29
    go_wp2
    go_loopw [13] (fun i wr => ∃ k : Nat, k ≤ n ∧ i = .int .i64 k ∧ xs.take k = ys.take k ∧ ∃ q, wr = w.drewN q)
      (fun i _ => n - (intOf i).toNat)
    case atStart => exact ⟨0, Nat.zero_le _, rfl, rfl, 0, rfl⟩
    case round =>
      obtain ⟨k, hk, rfl, heq, q, rfl⟩ := hrel
      have Heq := Lib.hid heq; clear heq
      by_cases hlt : k < n
      · have hl1 := Lib.hid hx.length
        have hl2 := Lib.hid hy.length
        obtain ⟨b1, o1, rfl, hb1, hc1⟩ := hx.cell k hlt
        have hck1 := hc1 k hlt
        clear hc1
        generalize hx1 : xs.getD k 0 = x at hck1
        have Hx1 := Lib.hid hx1; clear hx1
        obtain ⟨b2, o2, rfl, hb2, hc2⟩ := hy.cell k hlt
        have hck2 := hc2 k hlt
        clear hc2
        generalize hx2 : ys.getD k 0 = y at hck2
        have Hx2 := Lib.hid hx2; clear hx2
        go_wp2
        go_quiet (fail)
        go_wp2
        · go_ret
          have hne : xs ≠ ys := fun e => by
            have h3 := Hx1.out; have h4 := Hx2.out
            rw [e, h4] at h3; subst h3; simp at *
          exact ⟨by simp [hne], _, World.drewN_drewN _ _ _⟩
        · have hxy : x = y := by rename_i hh; simpa using hh
          go_roundw
          case rel => exact ⟨k + 1, by omega, by go_num, by rw [take_snoc Hx1.out hlt hl1.out, take_snoc Hx2.out hlt hl2.out, Heq.out, hxy], _, rfl⟩
          case measure => simp [intOf]; omega
      · go_wp2
        go_ret
        obtain rfl : n = k := by omega
        have e := Heq.out
        rw [take_all hx.length, take_all hy.length] at e
        exact ⟨by simp [e], _, rfl⟩
  · have hne : ((n : Int) != (m : Int)) = true := by simp; omega
    have hxy : xs ≠ ys := fun e => hnm (by rw [← hx.length, ← hy.length, e])
    go_enter Tryz.func29, Tryz.ntmps29
    go_wp2
    go_ret
    exact ⟨by simp [hxy], 0, rfl⟩

theorem idxFrom_mem (xs : List Int) (x : Int) : ∀ i : Nat, 0 ≤ Lib.idxFrom xs x i ↔ x ∈ xs := by
  induction xs with
  | nil => intro i; simp [Lib.idxFrom]
  | cons a l ih =>
    intro i
    unfold Lib.idxFrom
    by_cases h : a = x
    · subst h; simp
    · have h' : ¬ x = a := fun e => h e.symm
      simp only [h, h', List.mem_cons, false_or]
      exact ih (i + 1)
theorem idxOf_mem (xs : List Int) (x : Int) : 0 ≤ Lib.idxOf xs x ↔ x ∈ xs := idxFrom_mem xs x 0
/-! ### Bits -/
def Bits (bs : List Int) : Prop := (1 ≤ bs.length ∧ bs.length ≤ 8) ∧ (∀ b ∈ bs, 0 ≤ b ∧ b ≤ 1) ∧ 0 ∈ bs
instance (bs : List Int) : Decidable (Bits bs) := by unfold Bits; infer_instance
def bitsB (bs : List Int) : Bool := decide (Bits bs)
theorem bits_iff {bs : List Int} : bitsB bs = true ↔ Bits bs := by unfold bitsB; simp
theorem Bits.isB {bs : List Int} (h : Bits bs) : IsB bs := fun b hb => by have := h.2.1 b hb; omega

/-! ### The piles of bits -/
/-- the piles of the first k bits -/
def fromT (bs : List Int) (n k : Nat) : List Int := ((List.range k).map fun (i : Nat) => (n : Int) - 1 - i + bs.getD i 0).filter (fun x => decide (0 < x))
theorem fromT_succ (bs : List Int) (n k : Nat) : fromT bs n (k + 1) = fromT bs n k ++ if 0 < (n : Int) - 1 - k + bs.getD k 0 then [(n : Int) - 1 - k + bs.getD k 0] else [] := by
  unfold fromT
  rw [List.range_succ, List.map_append, List.filter_append]
  congr 1
  by_cases h : 0 < (n : Int) - 1 - k + bs.getD k 0
  · rw [if_pos h, List.map_singleton, List.filter_cons_of_pos (by simpa using h)]; rfl
  · rw [if_neg h, List.map_singleton, List.filter_cons_of_neg (by simpa using h)]; rfl
theorem fromT_all (bs : List Int) (n : Nat) (hn : bs.length = n) : fromT bs n n = fromB bs := by
  subst hn
  induction bs with
  | nil => rfl
  | cons b l ih =>
    unfold fromT
    rw [List.length_cons, List.range_succ_eq_map, List.map_cons, List.map_map]
    have e : ((fun (i : Nat) => (((l.length + 1 : Nat)) : Int) - 1 - i + (b :: l).getD i 0) ∘ Nat.succ) = fun (i : Nat) => ((l.length : Nat) : Int) - 1 - i + l.getD i 0 := by
      funext i
      simp only [Function.comp, Nat.succ_eq_add_one, List.getD_cons_succ]
      omega
    rw [e]
    have e0 : (((l.length + 1 : Nat)) : Int) - 1 - ((0 : Nat) : Int) + (b :: l).getD 0 0 = l.length + b := by simp
    rw [e0]
    unfold fromB
    by_cases h : 0 < (l.length : Int) + b
    · rw [if_pos h, List.filter_cons_of_pos (by simpa using h)]
      congr 1
    · rw [if_neg h, List.filter_cons_of_neg (by simpa using h)]
      exact ih
theorem fromT_length (bs : List Int) (n k : Nat) : (fromT bs n k).length ≤ k := by
  unfold fromT
  have := List.length_filter_le (fun x => decide (0 < x)) ((List.range k).map fun (i : Nat) => (n : Int) - 1 - i + bs.getD i 0)
  simpa using this

end
end Go.Proofs.YtdfmljkjidepeaaGreatDoor
namespace Go.Proofs.YtdfmljkjidepeaaGreatDoor
section
open Go.RowKit
set_option linter.unusedVariables false
set_option linter.unusedSimpArgs false
set_option maxRecDepth 20000

theorem tmod_nat (a b : Nat) : Int.tmod (a : Int) (b : Int) = ((a % b : Nat) : Int) := by
  rw [Int.natCast_emod]; exact Int.tmod_eq_emod_of_nonneg (by omega)

theorem goodBF {xs : List Int} (h : ¬ Good xs) : goodB xs = false := by
  cases hb : goodB xs with
  | false => rfl
  | true => exact absurd (good_iff.1 hb) h
theorem cycBF {xs : List Int} (h : ¬ Cyc xs) : cycB xs = false := by
  cases hb : cycB xs with
  | false => rfl
  | true => exact absurd (cyc_iff.1 hb) h
theorem sum_toNat {xs : List Int} (h : Good xs) : ∃ s : Nat, xs.sum = s ∧ s ≤ 28 := by
  have := sum_nonneg h.1; have := h.2.2
  exact ⟨xs.sum.toNat, by omega, by omega⟩

end
end Go.Proofs.YtdfmljkjidepeaaGreatDoor
namespace Go.Proofs.YtdfmljkjidepeaaGreatDoor
section
open Go.RowKit
set_option linter.unusedVariables false
set_option linter.unusedSimpArgs false
set_option maxRecDepth 20000

def mIsCyclic (xs : List Int) : Bool × Bool := (goodB xs && cycB xs, goodB xs)
theorem mIsC_yes {xs : List Int} (h : goodB xs = true) : mIsCyclic xs = (cycB xs, true) := by unfold mIsCyclic; rw [h]; rfl
theorem mIsC_no {xs : List Int} (h : goodB xs = false) : mIsCyclic xs = (false, false) := by unfold mIsCyclic; rw [h]; rfl

def mBitsOf (xs : List Int) : List Int × Bool := if goodB xs = true ∧ cycB xs = true then (bitsL xs, true) else ([], false)
theorem mBits_yes {xs : List Int} (h : goodB xs = true) (hc : cycB xs = true) : mBitsOf xs = (bitsL xs, true) := by unfold mBitsOf; rw [if_pos ⟨h, hc⟩]
theorem mBits_no1 {xs : List Int} (h : goodB xs = false) : mBitsOf xs = ([], false) := by unfold mBitsOf; rw [if_neg (by rw [h]; simp)]
theorem mBits_no2 {xs : List Int} (h : cycB xs = false) : mBitsOf xs = ([], false) := by unfold mBitsOf; rw [if_neg (by rw [h]; simp)]
theorem mBitsOf_bound (xs : List Int) : (mBitsOf xs).1.length ≤ 1048576 := by
  unfold mBitsOf
  split
  · show (bitsL xs).length ≤ _
    rw [bitsL_length]; have := hL_le xs; omega
  · simp

def mFromBits (bs : List Int) : List Int × Bool := if bitsB bs = true ∧ goodB (fromB bs) = true then (fromB bs, true) else ([], false)
theorem mFrom_yes {bs : List Int} (h : bitsB bs = true) (hc : goodB (fromB bs) = true) : mFromBits bs = (fromB bs, true) := by unfold mFromBits; rw [if_pos ⟨h, hc⟩]
theorem mFrom_no1 {bs : List Int} (h : bitsB bs = false) : mFromBits bs = ([], false) := by unfold mFromBits; rw [if_neg (by rw [h]; simp)]
theorem mFrom_no2 {bs : List Int} (h : goodB (fromB bs) = false) : mFromBits bs = ([], false) := by unfold mFromBits; rw [if_neg (by rw [h]; simp)]
theorem mFromBits_bound (bs : List Int) : (mFromBits bs).1.length ≤ 1048576 := by
  unfold mFromBits
  split
  · next h => have := (good_iff.1 h.2).len; show (fromB bs).length ≤ _; omega
  · simp

def mTurnBits (bs : List Int) (b : Int) : List Int × Bool := if bitsB bs = true ∧ 0 ≤ b ∧ b ≤ 1000 then (rotN b.toNat bs, true) else ([], false)
theorem mTurn_yes {bs : List Int} {b : Nat} (h : bitsB bs = true) (hb : b ≤ 1000) : mTurnBits bs b = (rotN b bs, true) := by unfold mTurnBits; rw [if_pos ⟨h, by omega, by omega⟩]; rfl
theorem mTurn_no1 {bs : List Int} {b : Int} (h : bitsB bs = false) : mTurnBits bs b = ([], false) := by unfold mTurnBits; rw [if_neg (by rw [h]; simp)]
theorem mTurn_no2 {bs : List Int} {b : Int} (h : ¬ (0 ≤ b ∧ b ≤ 1000)) : mTurnBits bs b = ([], false) := by unfold mTurnBits; rw [if_neg (fun hh => h hh.2)]
theorem mTurnBits_bound (bs : List Int) (b : Int) : (mTurnBits bs b).1.length ≤ 1048576 := by
  unfold mTurnBits
  split
  · next h => have := (bits_iff.1 h.1).1; show (rotN b.toNat bs).length ≤ _; rw [rotN_length]; omega
  · simp
end
end Go.Proofs.YtdfmljkjidepeaaGreatDoor
