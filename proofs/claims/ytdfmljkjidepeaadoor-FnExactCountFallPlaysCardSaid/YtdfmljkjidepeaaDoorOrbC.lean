/- Chapter 2: IsCyclic, BitsOf, FromBits, TurnBits by the model. No condition. -/
import Derived.Test.YtdfmljkjidepeaaDoorOrbB
namespace Go.Proofs.YtdfmljkjidepeaaDoor
open Go.RowKit
set_option linter.unusedVariables false
set_option linter.unusedSimpArgs false
set_option maxRecDepth 20000

def mIsCyclic (xs : List Int) : Bool × Bool := (goodB xs && cycB xs, goodB xs)
theorem mIsC_yes {xs : List Int} (h : goodB xs = true) : mIsCyclic xs = (cycB xs, true) := by unfold mIsCyclic; rw [h]; rfl
theorem mIsC_no {xs : List Int} (h : goodB xs = false) : mIsCyclic xs = (false, false) := by unfold mIsCyclic; rw [h]; rfl

def mBitsOf (xs : List Int) : List Int × Bool := if goodB xs = true ∧ cycB xs = true then (bitsL xs, true) else ([], false)
theorem mBits_yes {xs : List Int} (h : goodB xs = true) (hc : cycB xs = true) : mBitsOf xs = (bitsL xs, true) := by unfold mBitsOf; rw [if_pos ⟨h, hc⟩]
theorem mBits_no1 {xs : List Int} (h : goodB xs = false) : mBitsOf xs = ([], false) := by unfold mBitsOf; rw [if_neg (by rw [h]; simp)]
theorem mBits_no2 {xs : List Int} (h : cycB xs = false) : mBitsOf xs = ([], false) := by unfold mBitsOf; rw [if_neg (by rw [h]; simp)]
theorem mBitsOf_bound (xs : List Int) : (mBitsOf xs).1.length ≤ 1048576 := by
  unfold mBitsOf
  split
  · show (bitsL xs).length ≤ _
    rw [bitsL_length]; have := hL_le xs; omega
  · simp

def mFromBits (bs : List Int) : List Int × Bool := if bitsB bs = true ∧ goodB (fromB bs) = true then (fromB bs, true) else ([], false)
theorem mFrom_yes {bs : List Int} (h : bitsB bs = true) (hc : goodB (fromB bs) = true) : mFromBits bs = (fromB bs, true) := by unfold mFromBits; rw [if_pos ⟨h, hc⟩]
theorem mFrom_no1 {bs : List Int} (h : bitsB bs = false) : mFromBits bs = ([], false) := by unfold mFromBits; rw [if_neg (by rw [h]; simp)]
theorem mFrom_no2 {bs : List Int} (h : goodB (fromB bs) = false) : mFromBits bs = ([], false) := by unfold mFromBits; rw [if_neg (by rw [h]; simp)]
theorem mFromBits_bound (bs : List Int) : (mFromBits bs).1.length ≤ 1048576 := by
  unfold mFromBits
  split
  · next h => have := (good_iff.1 h.2).len; show (fromB bs).length ≤ _; omega
  · simp

def mTurnBits (bs : List Int) (b : Int) : List Int × Bool := if bitsB bs = true ∧ 0 ≤ b ∧ b ≤ 1000 then (rotN b.toNat bs, true) else ([], false)
theorem mTurn_yes {bs : List Int} {b : Nat} (h : bitsB bs = true) (hb : b ≤ 1000) : mTurnBits bs b = (rotN b bs, true) := by unfold mTurnBits; rw [if_pos ⟨h, by omega, by omega⟩]; rfl
theorem mTurn_no1 {bs : List Int} {b : Int} (h : bitsB bs = false) : mTurnBits bs b = ([], false) := by unfold mTurnBits; rw [if_neg (by rw [h]; simp)]
theorem mTurn_no2 {bs : List Int} {b : Int} (h : ¬ (0 ≤ b ∧ b ≤ 1000)) : mTurnBits bs b = ([], false) := by unfold mTurnBits; rw [if_neg (fun hh => h hh.2)]
theorem mTurnBits_bound (bs : List Int) (b : Int) : (mTurnBits bs b).1.length ≤ 1048576 := by
  unfold mTurnBits
  split
  · next h => have := (bits_iff.1 h.1).1; show (rotN b.toNat bs).length ≤ _; rw [rotN_length]; omega
  · simp
end Go.Proofs.YtdfmljkjidepeaaDoor
