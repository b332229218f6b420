/- Several texts in one: Play, RowM, RowA, RowB, RwD. No condition. -/
import Derived.Test.YtnebfojnbjbogaaGreatDoorGi
import Derived.Test.YtnebfojnbjbogaaGreatDoorGa
import Derived.Test.YtnebfojnbjbogaaGreatDoorGh
import Derived.Test.YtnebfojnbjbogaaGreatDoorGd
namespace Go.Proofs.YtnebfojnbjbogaaGreatDoor
section
open Go.RowKit
set_option linter.unusedVariables false
set_option linter.unusedSimpArgs false

def playL (k : Nat) (xs : List Int) : List (List Int) := (List.range (k + 1)).map fun i => stepsL i xs
theorem playL_length (k : Nat) (xs : List Int) : (playL k xs).length = k + 1 := by simp [playL]
theorem playL_succ (k : Nat) (xs : List Int) : playL k xs ++ [stepL (stepsL k xs)] = playL (k + 1) xs := by
  unfold playL
  rw [List.range_succ (n := k + 1), List.map_append]
  rfl
theorem playL_getD (k i : Nat) (xs : List Int) (h : i ≤ k) : (playL k xs).getD i [] = stepsL i xs := by
  unfold playL
  rw [List.getD_eq_getElem?_getD, List.getElem?_map, List.getElem?_range (by omega)]
  rfl
def mPlayOf (xs : List Int) (k : Int) : List (List Int) × Bool := if goodB xs = true ∧ 0 ≤ k ∧ k ≤ 1000 then (playL k.toNat xs, true) else ([], false)
theorem mPlay_yes {xs : List Int} {k : Nat} (h : goodB xs = true) (hk : k ≤ 1000) : mPlayOf xs k = (playL k xs, true) := by unfold mPlayOf; rw [if_pos ⟨h, by omega, by omega⟩]; rfl
theorem mPlay_no1 {xs : List Int} {k : Int} (h : goodB xs = false) : mPlayOf xs k = ([], false) := by unfold mPlayOf; rw [if_neg (by rw [h]; simp)]
theorem mPlay_no2 {xs : List Int} {k : Int} (h : ¬ (0 ≤ k ∧ k ≤ 1000)) : mPlayOf xs k = ([], false) := by unfold mPlayOf; rw [if_neg (fun hh => h hh.2)]
theorem playL_good {xs : List Int} (hg : Good xs) (k : Nat) : ∀ ys ∈ playL k xs, Good ys := by
  intro ys hy
  unfold playL at hy
  obtain ⟨i, _, rfl⟩ := List.mem_map.1 hy
  exact stepsL_good hg i
theorem mPlayOf_bound (xs : List Int) (k : Int) : (mPlayOf xs k).1.length ≤ 1048576 ∧ total (mPlayOf xs k).1 ≤ 1048576 := by
  unfold mPlayOf
  split
  · next h =>
    have h1 := playL_length k.toNat xs
    have h3 := total_le (playL k.toNat xs) 28 (fun ys hy => (playL_good (good_iff.1 h.1) _ ys hy).len)
    exact ⟨by show (playL k.toNat xs).length ≤ _; omega, by show total (playL k.toNat xs) ≤ _; omega⟩
  · simp [total]

end
end Go.Proofs.YtnebfojnbjbogaaGreatDoor
namespace Go.Proofs.YtnebfojnbjbogaaGreatDoor
section
set_option linter.unusedVariables false
set_option linter.unusedSimpArgs false

def rowsL : Nat → List Int → List Int
  | 0, xs => xs
  | k + 1, xs => rowStepL (rowsL k xs)
theorem rowsL_add (k : Nat) (xs : List Int) : rowsL (k + 1) xs = rowStepL (rowsL k xs) := rfl
theorem rowsL_row {xs : List Int} (h : RowOk xs) (k : Nat) : RowOk (rowsL k xs) := by
  induction k with
  | zero => exact h
  | succ k ih => exact rowStepL_row ih
theorem row_no {xs : List Int} (h : rowB xs = false) : ¬ RowOk xs := by
  intro hh; rw [row_iff.2 hh] at h; cases h
theorem row_far {xs : List Int} (h : 28 < xs.length) : rowB xs = false := by
  unfold rowB; rw [decide_eq_false_iff_not]; intro hh; have := hh.len; omega
theorem row_sum0 {xs : List Int} (h : RowOk xs) : 0 ≤ xs.sum := by have := sum_nonneg h.1; omega
def mIsRow (xs : List Int) : Bool := rowB xs
def mStepRow (xs : List Int) : List Int × Bool := (if rowB xs then rowStepL xs else [], rowB xs)
theorem mStepRow_yes {xs : List Int} (h : rowB xs = true) : mStepRow xs = (rowStepL xs, true) := by unfold mStepRow; rw [h]; rfl
theorem mStepRow_no {xs : List Int} (h : rowB xs = false) : mStepRow xs = ([], false) := by unfold mStepRow; rw [h]; rfl
theorem mStepRow_bound (xs : List Int) : (mStepRow xs).1.length ≤ 1048576 := by
  cases h : rowB xs
  · rw [mStepRow_no h]; simp
  · rw [mStepRow_yes h]; have := (rowStepL_row (row_iff.1 h)).len; show (rowStepL xs).length ≤ _; omega
def mRowSteps (xs : List Int) (k : Int) : List Int × Bool := if rowB xs = true ∧ 0 ≤ k ∧ k ≤ 1000 then (rowsL k.toNat xs, true) else ([], false)
theorem mRowS_yes {xs : List Int} {k : Nat} (h : rowB xs = true) (hk : k ≤ 1000) : mRowSteps xs k = (rowsL k xs, true) := by unfold mRowSteps; rw [if_pos ⟨h, by omega, by omega⟩]; rfl
theorem mRowS_no1 {xs : List Int} {k : Int} (h : rowB xs = false) : mRowSteps xs k = ([], false) := by unfold mRowSteps; rw [if_neg (by rw [h]; simp)]
theorem mRowS_no2 {xs : List Int} {k : Int} (h : ¬ (0 ≤ k ∧ k ≤ 1000)) : mRowSteps xs k = ([], false) := by unfold mRowSteps; rw [if_neg (fun hh => h hh.2)]
theorem mRowSteps_bound (xs : List Int) (k : Int) : (mRowSteps xs k).1.length ≤ 1048576 := by
  unfold mRowSteps
  split
  · next h => have := (rowsL_row (row_iff.1 h.1) k.toNat).len; show (rowsL k.toNat xs).length ≤ _; omega
  · simp
def playR (k : Nat) (xs : List Int) : List (List Int) := (List.range (k + 1)).map fun i => rowsL i xs
theorem playR_length (k : Nat) (xs : List Int) : (playR k xs).length = k + 1 := by simp [playR]
theorem playR_succ (k : Nat) (xs : List Int) : playR k xs ++ [rowStepL (rowsL k xs)] = playR (k + 1) xs := by
  unfold playR
  rw [List.range_succ (n := k + 1), List.map_append]
  rfl
theorem playR_getD (k i : Nat) (xs : List Int) (h : i ≤ k) : (playR k xs).getD i [] = rowsL i xs := by
  unfold playR
  rw [List.getD_eq_getElem?_getD, List.getElem?_map, List.getElem?_range (by omega)]
  rfl
theorem playR_row {xs : List Int} (hg : RowOk xs) (k : Nat) : ∀ ys ∈ playR k xs, RowOk ys := by
  intro ys hy
  unfold playR at hy
  obtain ⟨i, _, rfl⟩ := List.mem_map.1 hy
  exact rowsL_row hg i
def mPlayRow (xs : List Int) (k : Int) : List (List Int) × Bool := if rowB xs = true ∧ 0 ≤ k ∧ k ≤ 1000 then (playR k.toNat xs, true) else ([], false)
theorem mPlayR_yes {xs : List Int} {k : Nat} (h : rowB xs = true) (hk : k ≤ 1000) : mPlayRow xs k = (playR k xs, true) := by unfold mPlayRow; rw [if_pos ⟨h, by omega, by omega⟩]; rfl
theorem mPlayR_no1 {xs : List Int} {k : Int} (h : rowB xs = false) : mPlayRow xs k = ([], false) := by unfold mPlayRow; rw [if_neg (by rw [h]; simp)]
theorem mPlayR_no2 {xs : List Int} {k : Int} (h : ¬ (0 ≤ k ∧ k ≤ 1000)) : mPlayRow xs k = ([], false) := by unfold mPlayRow; rw [if_neg (fun hh => h hh.2)]
def mSortRow (xs : List Int) : List Int × Bool := (if rowB xs then sortD xs else [], rowB xs)
theorem mSortR_yes {xs : List Int} (h : rowB xs = true) : mSortRow xs = (sortD xs, true) := by unfold mSortRow; rw [h]; rfl
theorem mSortR_no {xs : List Int} (h : rowB xs = false) : mSortRow xs = ([], false) := by unfold mSortRow; rw [h]; rfl
theorem mSortRow_bound (xs : List Int) : (mSortRow xs).1.length ≤ 1048576 := by
  cases h : rowB xs
  · rw [mSortR_no h]; simp
  · rw [mSortR_yes h]; have := (row_iff.1 h).len; show (sortD xs).length ≤ _; rw [sortD_length]; omega

/-! ### Numbers of rows, ways to choose -/
def cntR (n : Nat) : Nat := if n = 0 then 1 else 2 ^ (n - 1)
theorem cntR_zero : cntR 0 = 1 := rfl
theorem cntR_pos {n : Nat} (h : n ≠ 0) : cntR n = 2 ^ (n - 1) := by unfold cntR; rw [if_neg h]
theorem cntR_le : ∀ n, n < 29 → 1 ≤ cntR n ∧ cntR n ≤ 134217728 := by decide +kernel
def mCountRows (n : Int) : Int × Bool := if 0 ≤ n ∧ n ≤ 28 then ((cntR n.toNat : Int), true) else (0, false)
theorem mCR_yes (n : Nat) (h : n ≤ 28) : mCountRows n = ((cntR n : Int), true) := by unfold mCountRows; rw [if_pos (by omega)]; rfl
theorem mCR_no (n : Int) (h : ¬ (0 ≤ n ∧ n ≤ 28)) : mCountRows n = (0, false) := by unfold mCountRows; rw [if_neg h]
/-- what the loop comes to that multiplies and divides in turn -/
def chI (n : Int) : Nat → Int
  | 0 => 1
  | i + 1 => Int.tdiv (chI n i * (n - i)) ((i : Int) + 1)
theorem chI_succ (n : Int) (i : Nat) : chI n (i + 1) = Int.tdiv (chI n i * (n - i)) ((i : Int) + 1) := rfl
theorem chI_fin : ∀ n : Nat, n < 29 → ∀ i : Nat, i < 30 → 0 ≤ chI n i ∧ chI n i ≤ 40116600 ∧ (n < i → chI n i = 0) := by decide +kernel
theorem chI_in {n : Int} (h0 : 0 ≤ n) (h1 : n ≤ 28) {i : Nat} (hi : i ≤ 28) : 0 ≤ chI n i ∧ chI n i ≤ 40116600 := by
  obtain ⟨m, rfl⟩ := Int.eq_ofNat_of_zero_le h0
  have := chI_fin m (by omega) i (by omega)
  exact ⟨this.1, this.2.1⟩
theorem chI_none {n : Int} (h0 : 0 ≤ n) (h1 : n ≤ 28) {i : Nat} (hi : i ≤ 28) (h : n < i) : chI n i = 0 := by
  obtain ⟨m, rfl⟩ := Int.eq_ofNat_of_zero_le h0
  exact (chI_fin m (by omega) i (by omega)).2.2 (by omega)
def pastC (xs : List Int) : Int := if xs = [] then 1 else chI (xs.headD 0) (xs.length - 1)
theorem pastC_nil : pastC [] = 1 := rfl
theorem pastC_cons {xs : List Int} (h : xs ≠ []) : pastC xs = chI (xs.getD 0 0) (xs.length - 1) := by
  unfold pastC; rw [if_neg h]
  cases xs with
  | nil => exact absurd rfl h
  | cons x l => rfl
theorem mem_getD0 {xs : List Int} (h : xs ≠ []) : xs.getD 0 0 ∈ xs := by
  cases xs with
  | nil => exact absurd rfl h
  | cons x l => exact List.mem_cons_self
def mRowPastCount (xs : List Int) : Int × Bool := (if rowB xs then pastC xs else 0, rowB xs)
theorem mRPC_yes {xs : List Int} (h : rowB xs = true) : mRowPastCount xs = (pastC xs, true) := by unfold mRowPastCount; rw [h]; rfl
theorem mRPC_no {xs : List Int} (h : rowB xs = false) : mRowPastCount xs = (0, false) := by unfold mRowPastCount; rw [h]; rfl

/-! ### Orbits, walked to 1000 steps -/
/-- a row that was met before -/
def metR (xs : List Int) (j : Nat) : Option Nat := (List.range j).find? fun i => decide (rowsL i xs = rowsL j xs)
theorem metR_some {xs : List Int} {i j : Nat} (hi : i < j) (he : rowsL i xs = rowsL j xs) (hf : ∀ k, k < i → rowsL k xs ≠ rowsL j xs) : metR xs j = some i := by
  unfold metR
  rw [List.find?_eq_some_iff_getElem]
  refine ⟨by simpa using he, i, by simpa using hi, by simp, fun k hk => ?_⟩
  simpa using hf k hk
theorem metR_none {xs : List Int} {j : Nat} (hf : ∀ k, k < j → rowsL k xs ≠ rowsL j xs) : metR xs j = none := by
  unfold metR
  rw [List.find?_eq_none]
  intro k hk
  simpa using hf k (List.mem_range.1 hk)
/-- the first place at most 1000 at which a row comes again -/
def againR (xs : List Int) : Option Nat := (List.range 1001).find? fun j => (metR xs j).isSome
def orbR (xs : List Int) : Int × Int × Bool := match againR xs with
  | none => (0, 0, false)
  | some j => (((metR xs j).getD 0 : Nat), ((j - (metR xs j).getD 0 : Nat) : Int), true)
theorem orbR_some {xs : List Int} {i j : Nat} (hj : j ≤ 1000) (hi : i < j) (hm : metR xs j = some i) (hn : ∀ k, k < j → metR xs k = none) : orbR xs = ((i : Int), (j : Int) - (i : Int), true) := by
  have : againR xs = some j := by
    unfold againR
    rw [List.find?_eq_some_iff_getElem]
    refine ⟨by rw [hm]; rfl, j, by simp; omega, by simp, fun k hk => ?_⟩
    simp [hn k hk]
  unfold orbR
  rw [this]
  simp only [hm, Option.getD_some]
  rw [Int.ofNat_sub (Nat.le_of_lt hi)]
theorem orbR_none {xs : List Int} (hn : ∀ k, k < 1001 → metR xs k = none) : orbR xs = (0, 0, false) := by
  have : againR xs = none := by
    unfold againR
    rw [List.find?_eq_none]
    intro k hk
    simp [hn k (List.mem_range.1 hk)]
  unfold orbR
  rw [this]
def mRowOrbit (xs : List Int) : Int × Int × Bool := if rowB xs then orbR xs else (0, 0, false)
theorem mRO_yes {xs : List Int} (h : rowB xs = true) : mRowOrbit xs = orbR xs := if_pos h
theorem mRO_no {xs : List Int} (h : rowB xs = false) : mRowOrbit xs = (0, 0, false) := if_neg (by rw [h]; simp)
def mIsCyclicRow (xs : List Int) : Bool × Bool := ((mRowOrbit xs).2.2 && decide ((mRowOrbit xs).1 = 0), (mRowOrbit xs).2.2)

/-! ### How many rows have the same piles -/
end
end Go.Proofs.YtnebfojnbjbogaaGreatDoor
namespace Go.Proofs.YtnebfojnbjbogaaGreatDoor
section
open Go.RowKit
set_option linter.unusedVariables false
set_option linter.unusedSimpArgs false
set_option maxRecDepth 20000

theorem mPlayRow_bound (xs : List Int) (k : Int) : (mPlayRow xs k).1.length ≤ 1048576 ∧ total (mPlayRow xs k).1 ≤ 1048576 := by
  unfold mPlayRow
  split
  · next h =>
    have h1 := playR_length k.toNat xs
    have h3 := total_le (playR k.toNat xs) 28 (fun ys hy => (playR_row (row_iff.1 h.1) _ ys hy).len)
    exact ⟨by show (playR k.toNat xs).length ≤ _; omega, by show total (playR k.toNat xs) ≤ _; omega⟩
  · simp [total]

theorem impl_IsRow (ao : Option Addr) (n cap : Nat) (xs : List Int) (w : World) (h : IntsAt w ao n cap xs) :
    Calls Tryz.prog 63 #[.slice ao n cap] w fun e w' => e = .returned (.bool (mIsRow xs)) ∧ Below w.heap.size w w' := callsBelow (isRow_any ao n cap xs w h)
/-! ### Sorted -/
end
end Go.Proofs.YtnebfojnbjbogaaGreatDoor
namespace Go.Proofs.YtnebfojnbjbogaaGreatDoor
section
open Go.RowKit
set_option linter.unusedVariables false
set_option linter.unusedSimpArgs false
set_option maxRecDepth 20000

theorem pow_fin : ∀ m : Nat, m < 28 → wrap64 (2 ^ m) = (cntR (m + 1) : Int) := by decide +kernel
/-! ### Ways to choose -/
end
end Go.Proofs.YtnebfojnbjbogaaGreatDoor
namespace Go.Proofs.YtnebfojnbjbogaaGreatDoor
section
open Go.RowKit
set_option linter.unusedVariables false
set_option linter.unusedSimpArgs false

/-- one of some numbers that are laid for it -/
theorem amongNew_any (xs : List Int) (w : World) (g A : Nat) (h : Cur w g A) (hA : A ≤ 900000000) (hn : 1 ≤ xs.length) (hn2 : xs.length ≤ 1048576) :
    Calls Tryz.prog 29 #[.pointer (some ⟨g, 0, none⟩), .slice (some ⟨w.heap.size, 0, none⟩) xs.length xs.length] (w.alloc (.cells (xs.map (Value.int .i64)).toArray 3)) fun e w' => ∃ z, z ∈ xs ∧ e = .returned (.int .i64 z) ∧ Cur w' g (A + 2) ∧ Chg (fun k => k = g) w w' := by
  have hlt := h.lt
  have ha := among_any xs.length xs.length _ xs _ g A (intsAt_new w xs (by unfold maxLen; omega)) (fun b o e => by cases e; omega) (h.keep ((Below.refl _ _).alloc (Nat.le_refl _) _)) hA hn hn2
  refine ha.mono fun e w' ⟨i, hi, he, hc, hg⟩ => ⟨xs.getD i 0, mem_of_getD hi, he, hc, hg.allocFirst⟩

theorem pow_fin9 : ∀ m : Nat, m < 29 → wrap64 (2 ^ m) = (cntR (m + 1) : Int) := by decide +kernel
theorem cntR_le9 : ∀ n, n < 30 → 1 ≤ cntR n ∧ cntR n ≤ 268435456 := by decide +kernel
end
end Go.Proofs.YtnebfojnbjbogaaGreatDoor
