/- Several texts in one: Play, RowM, RowA, RowB, RwD. No condition. -/
import Derived.Test.YtjaodhjiibdbdaaGreatDoorGi
import Derived.Test.YtjaodhjiibdbdaaGreatDoorGa
import Derived.Test.YtjaodhjiibdbdaaGreatDoorGh
import Derived.Test.YtjaodhjiibdbdaaGreatDoorGd
namespace Go.Proofs.YtjaodhjiibdbdaaGreatDoor
section
open Go.RowKit
set_option linter.unusedVariables false
set_option linter.unusedSimpArgs false

def playL (k : Nat) (xs : List Int) : List (List Int) := (List.range (k + 1)).map fun i => stepsL i xs
theorem playL_length (k : Nat) (xs : List Int) : (playL k xs).length = k + 1 := by simp [playL]
theorem playL_succ (k : Nat) (xs : List Int) : playL k xs ++ [stepL (stepsL k xs)] = playL (k + 1) xs := by
  unfold playL
  rw [List.range_succ (n := k + 1), List.map_append]
  rfl
theorem playL_getD (k i : Nat) (xs : List Int) (h : i ≤ k) : (playL k xs).getD i [] = stepsL i xs := by
  unfold playL
  rw [List.getD_eq_getElem?_getD, List.getElem?_map, List.getElem?_range (by omega)]
  rfl
def mPlayOf (xs : List Int) (k : Int) : List (List Int) × Bool := if goodB xs = true ∧ 0 ≤ k ∧ k ≤ 1000 then (playL k.toNat xs, true) else ([], false)
theorem mPlay_yes {xs : List Int} {k : Nat} (h : goodB xs = true) (hk : k ≤ 1000) : mPlayOf xs k = (playL k xs, true) := by unfold mPlayOf; rw [if_pos ⟨h, by omega, by omega⟩]; rfl
theorem mPlay_no1 {xs : List Int} {k : Int} (h : goodB xs = false) : mPlayOf xs k = ([], false) := by unfold mPlayOf; rw [if_neg (by rw [h]; simp)]
theorem mPlay_no2 {xs : List Int} {k : Int} (h : ¬ (0 ≤ k ∧ k ≤ 1000)) : mPlayOf xs k = ([], false) := by unfold mPlayOf; rw [if_neg (fun hh => h hh.2)]
theorem playL_good {xs : List Int} (hg : Good xs) (k : Nat) : ∀ ys ∈ playL k xs, Good ys := by
  intro ys hy
  unfold playL at hy
  obtain ⟨i, _, rfl⟩ := List.mem_map.1 hy
  exact stepsL_good hg i
theorem mPlayOf_bound (xs : List Int) (k : Int) : (mPlayOf xs k).1.length ≤ 1048576 ∧ total (mPlayOf xs k).1 ≤ 1048576 := by
  unfold mPlayOf
  split
  · next h =>
    have h1 := playL_length k.toNat xs
    have h3 := total_le (playL k.toNat xs) 28 (fun ys hy => (playL_good (good_iff.1 h.1) _ ys hy).len)
    exact ⟨by show (playL k.toNat xs).length ≤ _; omega, by show total (playL k.toNat xs) ≤ _; omega⟩
  · simp [total]

end
end Go.Proofs.YtjaodhjiibdbdaaGreatDoor
namespace Go.Proofs.YtjaodhjiibdbdaaGreatDoor
section
set_option linter.unusedVariables false
set_option linter.unusedSimpArgs false

def rowsL : Nat → List Int → List Int
  | 0, xs => xs
  | k + 1, xs => rowStepL (rowsL k xs)
theorem rowsL_add (k : Nat) (xs : List Int) : rowsL (k + 1) xs = rowStepL (rowsL k xs) := rfl
theorem rowsL_row {xs : List Int} (h : RowOk xs) (k : Nat) : RowOk (rowsL k xs) := by
  induction k with
  | zero => exact h
  | succ k ih => exact rowStepL_row ih
theorem row_no {xs : List Int} (h : rowB xs = false) : ¬ RowOk xs := by
  intro hh; rw [row_iff.2 hh] at h; cases h
theorem row_far {xs : List Int} (h : 28 < xs.length) : rowB xs = false := by
  unfold rowB; rw [decide_eq_false_iff_not]; intro hh; have := hh.len; omega
theorem row_sum0 {xs : List Int} (h : RowOk xs) : 0 ≤ xs.sum := by have := sum_nonneg h.1; omega
def mIsRow (xs : List Int) : Bool := rowB xs
def mStepRow (xs : List Int) : List Int × Bool := (if rowB xs then rowStepL xs else [], rowB xs)
theorem mStepRow_yes {xs : List Int} (h : rowB xs = true) : mStepRow xs = (rowStepL xs, true) := by unfold mStepRow; rw [h]; rfl
theorem mStepRow_no {xs : List Int} (h : rowB xs = false) : mStepRow xs = ([], false) := by unfold mStepRow; rw [h]; rfl
theorem mStepRow_bound (xs : List Int) : (mStepRow xs).1.length ≤ 1048576 := by
  cases h : rowB xs
  · rw [mStepRow_no h]; simp
  · rw [mStepRow_yes h]; have := (rowStepL_row (row_iff.1 h)).len; show (rowStepL xs).length ≤ _; omega
def mRowSteps (xs : List Int) (k : Int) : List Int × Bool := if rowB xs = true ∧ 0 ≤ k ∧ k ≤ 1000 then (rowsL k.toNat xs, true) else ([], false)
theorem mRowS_yes {xs : List Int} {k : Nat} (h : rowB xs = true) (hk : k ≤ 1000) : mRowSteps xs k = (rowsL k xs, true) := by unfold mRowSteps; rw [if_pos ⟨h, by omega, by omega⟩]; rfl
theorem mRowS_no1 {xs : List Int} {k : Int} (h : rowB xs = false) : mRowSteps xs k = ([], false) := by unfold mRowSteps; rw [if_neg (by rw [h]; simp)]
theorem mRowS_no2 {xs : List Int} {k : Int} (h : ¬ (0 ≤ k ∧ k ≤ 1000)) : mRowSteps xs k = ([], false) := by unfold mRowSteps; rw [if_neg (fun hh => h hh.2)]
theorem mRowSteps_bound (xs : List Int) (k : Int) : (mRowSteps xs k).1.length ≤ 1048576 := by
  unfold mRowSteps
  split
  · next h => have := (rowsL_row (row_iff.1 h.1) k.toNat).len; show (rowsL k.toNat xs).length ≤ _; omega
  · simp
def playR (k : Nat) (xs : List Int) : List (List Int) := (List.range (k + 1)).map fun i => rowsL i xs
theorem playR_length (k : Nat) (xs : List Int) : (playR k xs).length = k + 1 := by simp [playR]
theorem playR_succ (k : Nat) (xs : List Int) : playR k xs ++ [rowStepL (rowsL k xs)] = playR (k + 1) xs := by
  unfold playR
  rw [List.range_succ (n := k + 1), List.map_append]
  rfl
theorem playR_getD (k i : Nat) (xs : List Int) (h : i ≤ k) : (playR k xs).getD i [] = rowsL i xs := by
  unfold playR
  rw [List.getD_eq_getElem?_getD, List.getElem?_map, List.getElem?_range (by omega)]
  rfl
theorem playR_row {xs : List Int} (hg : RowOk xs) (k : Nat) : ∀ ys ∈ playR k xs, RowOk ys := by
  intro ys hy
  unfold playR at hy
  obtain ⟨i, _, rfl⟩ := List.mem_map.1 hy
  exact rowsL_row hg i
def mPlayRow (xs : List Int) (k : Int) : List (List Int) × Bool := if rowB xs = true ∧ 0 ≤ k ∧ k ≤ 1000 then (playR k.toNat xs, true) else ([], false)
theorem mPlayR_yes {xs : List Int} {k : Nat} (h : rowB xs = true) (hk : k ≤ 1000) : mPlayRow xs k = (playR k xs, true) := by unfold mPlayRow; rw [if_pos ⟨h, by omega, by omega⟩]; rfl
theorem mPlayR_no1 {xs : List Int} {k : Int} (h : rowB xs = false) : mPlayRow xs k = ([], false) := by unfold mPlayRow; rw [if_neg (by rw [h]; simp)]
theorem mPlayR_no2 {xs : List Int} {k : Int} (h : ¬ (0 ≤ k ∧ k ≤ 1000)) : mPlayRow xs k = ([], false) := by unfold mPlayRow; rw [if_neg (fun hh => h hh.2)]
def mSortRow (xs : List Int) : List Int × Bool := (if rowB xs then sortD xs else [], rowB xs)
theorem mSortR_yes {xs : List Int} (h : rowB xs = true) : mSortRow xs = (sortD xs, true) := by unfold mSortRow; rw [h]; rfl
theorem mSortR_no {xs : List Int} (h : rowB xs = false) : mSortRow xs = ([], false) := by unfold mSortRow; rw [h]; rfl
theorem mSortRow_bound (xs : List Int) : (mSortRow xs).1.length ≤ 1048576 := by
  cases h : rowB xs
  · rw [mSortR_no h]; simp
  · rw [mSortR_yes h]; have := (row_iff.1 h).len; show (sortD xs).length ≤ _; rw [sortD_length]; omega

/-! ### Numbers of rows, ways to choose -/
def cntR (n : Nat) : Nat := if n = 0 then 1 else 2 ^ (n - 1)
theorem cntR_zero : cntR 0 = 1 := rfl
theorem cntR_pos {n : Nat} (h : n ≠ 0) : cntR n = 2 ^ (n - 1) := by unfold cntR; rw [if_neg h]
theorem cntR_le : ∀ n, n < 29 → 1 ≤ cntR n ∧ cntR n ≤ 134217728 := by decide +kernel
def mCountRows (n : Int) : Int × Bool := if 0 ≤ n ∧ n ≤ 28 then ((cntR n.toNat : Int), true) else (0, false)
theorem mCR_yes (n : Nat) (h : n ≤ 28) : mCountRows n = ((cntR n : Int), true) := by unfold mCountRows; rw [if_pos (by omega)]; rfl
theorem mCR_no (n : Int) (h : ¬ (0 ≤ n ∧ n ≤ 28)) : mCountRows n = (0, false) := by unfold mCountRows; rw [if_neg h]
/-- what the loop comes to that multiplies and divides in turn -/
def chI (n : Int) : Nat → Int
  | 0 => 1
  | i + 1 => Int.tdiv (chI n i * (n - i)) ((i : Int) + 1)
theorem chI_succ (n : Int) (i : Nat) : chI n (i + 1) = Int.tdiv (chI n i * (n - i)) ((i : Int) + 1) := rfl
theorem chI_fin : ∀ n : Nat, n < 29 → ∀ i : Nat, i < 30 → 0 ≤ chI n i ∧ chI n i ≤ 40116600 ∧ (n < i → chI n i = 0) := by decide +kernel
theorem chI_in {n : Int} (h0 : 0 ≤ n) (h1 : n ≤ 28) {i : Nat} (hi : i ≤ 28) : 0 ≤ chI n i ∧ chI n i ≤ 40116600 := by
  obtain ⟨m, rfl⟩ := Int.eq_ofNat_of_zero_le h0
  have := chI_fin m (by omega) i (by omega)
  exact ⟨this.1, this.2.1⟩
theorem chI_none {n : Int} (h0 : 0 ≤ n) (h1 : n ≤ 28) {i : Nat} (hi : i ≤ 28) (h : n < i) : chI n i = 0 := by
  obtain ⟨m, rfl⟩ := Int.eq_ofNat_of_zero_le h0
  exact (chI_fin m (by omega) i (by omega)).2.2 (by omega)
def pastC (xs : List Int) : Int := if xs = [] then 1 else chI (xs.headD 0) (xs.length - 1)
theorem pastC_nil : pastC [] = 1 := rfl
theorem pastC_cons {xs : List Int} (h : xs ≠ []) : pastC xs = chI (xs.getD 0 0) (xs.length - 1) := by
  unfold pastC; rw [if_neg h]
  cases xs with
  | nil => exact absurd rfl h
  | cons x l => rfl
theorem mem_getD0 {xs : List Int} (h : xs ≠ []) : xs.getD 0 0 ∈ xs := by
  cases xs with
  | nil => exact absurd rfl h
  | cons x l => exact List.mem_cons_self
def mRowPastCount (xs : List Int) : Int × Bool := (if rowB xs then pastC xs else 0, rowB xs)
theorem mRPC_yes {xs : List Int} (h : rowB xs = true) : mRowPastCount xs = (pastC xs, true) := by unfold mRowPastCount; rw [h]; rfl
theorem mRPC_no {xs : List Int} (h : rowB xs = false) : mRowPastCount xs = (0, false) := by unfold mRowPastCount; rw [h]; rfl

/-! ### Orbits, walked to 1000 steps -/
/-- a row that was met before -/
def metR (xs : List Int) (j : Nat) : Option Nat := (List.range j).find? fun i => decide (rowsL i xs = rowsL j xs)
theorem metR_some {xs : List Int} {i j : Nat} (hi : i < j) (he : rowsL i xs = rowsL j xs) (hf : ∀ k, k < i → rowsL k xs ≠ rowsL j xs) : metR xs j = some i := by
  unfold metR
  rw [List.find?_eq_some_iff_getElem]
  refine ⟨by simpa using he, i, by simpa using hi, by simp, fun k hk => ?_⟩
  simpa using hf k hk
theorem metR_none {xs : List Int} {j : Nat} (hf : ∀ k, k < j → rowsL k xs ≠ rowsL j xs) : metR xs j = none := by
  unfold metR
  rw [List.find?_eq_none]
  intro k hk
  simpa using hf k (List.mem_range.1 hk)
/-- the first place at most 1000 at which a row comes again -/
def againR (xs : List Int) : Option Nat := (List.range 1001).find? fun j => (metR xs j).isSome
def orbR (xs : List Int) : Int × Int × Bool := match againR xs with
  | none => (0, 0, false)
  | some j => (((metR xs j).getD 0 : Nat), ((j - (metR xs j).getD 0 : Nat) : Int), true)
theorem orbR_some {xs : List Int} {i j : Nat} (hj : j ≤ 1000) (hi : i < j) (hm : metR xs j = some i) (hn : ∀ k, k < j → metR xs k = none) : orbR xs = ((i : Int), (j : Int) - (i : Int), true) := by
  have : againR xs = some j := by
    unfold againR
    rw [List.find?_eq_some_iff_getElem]
    refine ⟨by rw [hm]; rfl, j, by simp; omega, by simp, fun k hk => ?_⟩
    simp [hn k hk]
  unfold orbR
  rw [this]
  simp only [hm, Option.getD_some]
  rw [Int.ofNat_sub (Nat.le_of_lt hi)]
theorem orbR_none {xs : List Int} (hn : ∀ k, k < 1001 → metR xs k = none) : orbR xs = (0, 0, false) := by
  have : againR xs = none := by
    unfold againR
    rw [List.find?_eq_none]
    intro k hk
    simp [hn k (List.mem_range.1 hk)]
  unfold orbR
  rw [this]
def mRowOrbit (xs : List Int) : Int × Int × Bool := if rowB xs then orbR xs else (0, 0, false)
theorem mRO_yes {xs : List Int} (h : rowB xs = true) : mRowOrbit xs = orbR xs := if_pos h
theorem mRO_no {xs : List Int} (h : rowB xs = false) : mRowOrbit xs = (0, 0, false) := if_neg (by rw [h]; simp)
def mIsCyclicRow (xs : List Int) : Bool × Bool := ((mRowOrbit xs).2.2 && decide ((mRowOrbit xs).1 = 0), (mRowOrbit xs).2.2)

/-! ### How many rows have the same piles -/
end
end Go.Proofs.YtjaodhjiibdbdaaGreatDoor
namespace Go.Proofs.YtjaodhjiibdbdaaGreatDoor
section
open Go.RowKit
set_option linter.unusedVariables false
set_option linter.unusedSimpArgs false
set_option maxRecDepth 20000

theorem mPlayRow_bound (xs : List Int) (k : Int) : (mPlayRow xs k).1.length ≤ 1048576 ∧ total (mPlayRow xs k).1 ≤ 1048576 := by
  unfold mPlayRow
  split
  · next h =>
    have h1 := playR_length k.toNat xs
    have h3 := total_le (playR k.toNat xs) 28 (fun ys hy => (playR_row (row_iff.1 h.1) _ ys hy).len)
    exact ⟨by show (playR k.toNat xs).length ≤ _; omega, by show total (playR k.toNat xs) ≤ _; omega⟩
  · simp [total]

set_option maxHeartbeats 400000 in
theorem piSumB_any (ao : Option Addr) (n cap : Nat) (xs : List Int) (w : World) (h : IntsAt w ao n cap xs) (hn28 : n ≤ 28) (hg : ∀ x ∈ xs, 1 ≤ x ∧ x ≤ 28) :
    Calls Tryz.prog 57 #[.slice ao n cap] w fun e w' => e = .returned (.int .i64 xs.sum) ∧ w = w' := by
  have hn := h.lenInt
  go_enter Tryz.func57, Tryz.ntmps57
  go_wp2
  go_loop [3, 8] (fun s i => ∃ k : Nat, ∃ t : Int, k ≤ n ∧ i = .int .i64 k ∧ s = .int .i64 t ∧ (xs.take k).sum = t ∧ 0 ≤ t ∧ t ≤ 28 * k) (fun _ i => n - (intOf i).toNat)
  case atStart => exact ⟨0, 0, Nat.zero_le _, rfl, rfl, rfl, by omega, by omega⟩
  case round =>
    obtain ⟨k, t, hk, rfl, rfl, ht, ht0, ht1⟩ := hrel
    have Ht := Lib.hid ht; clear ht
    by_cases hlt : k < n
    · obtain ⟨b, o, rfl, hb, hc⟩ := h.cell k hlt
      have hck := hc k hlt
      clear hc
      generalize hx : xs.getD k 0 = x at hck
      have Hx := Lib.hid hx; clear hx
      have hm := hg _ (getD_mem Hx.out hlt h.length)
      have e := take_snoc Hx.out hlt h.length
      have e2 : (xs.take (k + 1)).sum = t + x := by rw [e, List.sum_append, Ht.out]; simp
      have E2 := Lib.hid e2; clear e2
      have Hg := Lib.hid hg; clear hg
      clear e h
      go_wp2
      go_round
      case rel => exact ⟨k + 1, t + x, by omega, by go_num, rfl, E2.out, by omega, by omega⟩
      case measure => simp [intOf]; omega
    · go_wp2
      go_ret
      obtain rfl : n = k := by omega
      have hh := Ht.out
      rw [take_all h.length] at hh
      exact ⟨by first | rfl | (rw [hh]; rfl), rfl⟩

set_option maxHeartbeats 1000000 in
theorem roGood_any (ao : Option Addr) (n cap : Nat) (xs : List Int) (w : World) (h : IntsAt w ao n cap xs) :
    Calls Tryz.prog 40 #[.slice ao n cap] w fun e w' => e = .returned (.bool (rowB xs)) ∧ w = w' := by
  have hn := h.lenInt
  by_cases hlen : 28 < n
  · have hbad : rowB xs = false := row_far (by rw [h.length]; exact hlen)
    go_enter Tryz.func40, Tryz.ntmps40
    go_wp2
    go_ret
    exact ⟨by first | rfl | (rw [hbad]; rfl), rfl⟩
  by_cases hall : ∀ x ∈ xs, 1 ≤ x ∧ x ≤ 28
  · have hd : decide (∀ x ∈ xs, 1 ≤ x ∧ x ≤ 28) = true := decide_eq_true hall
    have hfin : rowB xs = decide (xs.sum ≤ 28) := by
      unfold rowB
      rw [decide_eq_decide]
      exact ⟨fun h => h.2, fun h' => ⟨fun x hx => (hall x hx).1, h'⟩⟩
    have hc1 := l1All_any ao n cap xs 1 28 w h
    rw [hd] at hc1
    have hc2 := piSumB_any ao n cap xs w h (by omega) hall
    generalize xs.sum = S at *
    have Hall := Lib.hid hall; clear hall
    have Hc1 := Lib.hid hc1; clear hc1
    have Hc2 := Lib.hid hc2; clear hc2
    have Hfin := Lib.hid hfin; clear hfin
    have Hd := Lib.hid hd; clear hd
    go_enter Tryz.func40, Tryz.ntmps40
    go_wp2_with fail
    with_reducible refine (Hc1.out).mono ?_
    rintro e w' ⟨rfl, rfl⟩
    go_wp2_with fail
    with_reducible refine (Hc2.out).mono ?_
    rintro e w' ⟨rfl, rfl⟩
    go_wp2
    go_ret
    exact ⟨by rw [Hfin.out]; rfl, rfl⟩
  · have hd : decide (∀ x ∈ xs, 1 ≤ x ∧ x ≤ 28) = false := decide_eq_false hall
    have hbad : rowB xs = false := by
      unfold rowB; rw [decide_eq_false_iff_not]
      intro hh
      exact hall fun x hx => RowOk.mem hh hx
    have hc1 := l1All_any ao n cap xs 1 28 w h
    rw [hd] at hc1
    have Hall := Lib.hid hall; clear hall
    have Hbad := Lib.hid hbad; clear hbad
    have Hc1 := Lib.hid hc1; clear hc1
    have Hd := Lib.hid hd; clear hd
    go_enter Tryz.func40, Tryz.ntmps40
    go_wp2_with fail
    with_reducible refine (Hc1.out).mono ?_
    rintro e w' ⟨rfl, rfl⟩
    go_wp2
    go_ret
    exact ⟨by first | rfl | (rw [Hbad.out]; rfl), rfl⟩
theorem roGood_yes (ao : Option Addr) (n cap : Nat) (xs : List Int) (w : World) (h : IntsAt w ao n cap xs) (hg : RowOk xs) :
    Calls Tryz.prog 40 #[.slice ao n cap] w fun e w' => e = .returned (.bool true) ∧ w = w' := by
  have := roGood_any ao n cap xs w h; rw [row_iff.2 hg] at this; exact this
theorem roGood_no (ao : Option Addr) (n cap : Nat) (xs : List Int) (w : World) (h : IntsAt w ao n cap xs) (hg : rowB xs = false) :
    Calls Tryz.prog 40 #[.slice ao n cap] w fun e w' => e = .returned (.bool false) ∧ w = w' := by
  have := roGood_any ao n cap xs w h; rw [hg] at this; exact this
theorem impl_IsRow (ao : Option Addr) (n cap : Nat) (xs : List Int) (w : World) (h : IntsAt w ao n cap xs) :
    Calls Tryz.prog 35 #[.slice ao n cap] w fun e w' => e = .returned (.bool (mIsRow xs)) ∧ Below w.heap.size w w' := callsBelow (isRow_any ao n cap xs w h)
/-! ### Sorted -/
set_option maxHeartbeats 800000 in
theorem impl_SortRow (ao : Option Addr) (n cap : Nat) (xs : List Int) (w : World) (h : IntsAt w ao n cap xs) :
    Calls Tryz.prog 13 #[.slice ao n cap] w fun e w' => ∃ ao' n' cap', e = .returned (.tuple #[.slice ao' n' cap', .bool (mSortRow xs).2]) ∧ Own w.heap.size w'.heap.size w' ao' n' cap' (mSortRow xs).1 ∧ Below w.heap.size w w' := by
  cases hg : rowB xs
  · have hm := mSortR_no hg
    have Hg := Lib.hid hg; clear hg
    have Hm := Lib.hid hm; clear hm
    go_enter Tryz.func13, Tryz.ntmps13
    go_wp2_with fail
    with_reducible refine (isRow_no _ _ _ _ _ h Hg.out).mono ?_
    rintro e w' ⟨rfl, rfl⟩
    go_wp2
    go_ret2
    rw [Hm.out]
    exact ⟨none, 0, 0, rfl, Own.nil _ _ _, Below.refl _ _⟩
  · have hm := mSortR_yes hg
    have hG := row_iff.1 hg
    have hr := rowsAt_one h
    have hcon2 := inOrder_any _ _ _ _ _ hr (by simp only [List.flatten_cons, List.flatten_nil, List.append_nil]; have := hG.len; omega) (by
      intro x hx
      simp only [List.flatten_cons, List.flatten_nil, List.append_nil] at hx
      have := hG.mem hx
      omega)
    simp only [List.flatten_cons, List.flatten_nil, List.append_nil] at hcon2
    have hal := belowAlloc w (.cells #[.slice ao n cap] 24)
    have Hg := Lib.hid hg; clear hg
    have Hm := Lib.hid hm; clear hm
    have HG := Lib.hid hG; clear hG
    have Hcon2 := Lib.hid hcon2; clear hcon2
    have Hr := Lib.hid hr; clear hr
    have Hal := Lib.hid hal; clear hal
    go_enter Tryz.func13, Tryz.ntmps13
    go_wp2_with fail
    with_reducible refine (isRow_yes _ _ _ _ _ h HG.out).mono ?_
    rintro e w' ⟨rfl, rfl⟩
    go_wp2_with fail
    with_reducible refine (Hcon2.out).mono ?_
    rintro e w2 ⟨a2, m2, c2, rfl, ho2, hb2⟩
    go_wp2
    go_ret2
    rw [Hm.out]
    exact ⟨_, _, _, rfl, ho2.mono (by simp) (Nat.le_refl _), belowTrans Hal.out hb2 (Nat.le_refl _)⟩
end
end Go.Proofs.YtjaodhjiibdbdaaGreatDoor
namespace Go.Proofs.YtjaodhjiibdbdaaGreatDoor
section
open Go.RowKit
set_option linter.unusedVariables false
set_option linter.unusedSimpArgs false
set_option maxRecDepth 20000

theorem pow_fin : ∀ m : Nat, m < 28 → wrap64 (2 ^ m) = (cntR (m + 1) : Int) := by decide +kernel
theorem countRows_any (m : Nat) (w : World) (h28 : m ≤ 28) :
    Calls Tryz.prog 11 #[.int .i64 m] w fun e w' => e = .returned (.tuple #[.int .i64 (cntR m : Nat), .bool true]) ∧ w = w' := by
  have hin : (0 : Int) ≤ (m : Int) ∧ (m : Int) ≤ 28 := by omega
  by_cases h : m = 0
  · subst h
    have hir := inRange_yes 0 28 w (by omega)
    have Hir := Lib.hid hir; clear hir
    go_enter Tryz.func11, Tryz.ntmps11
    go_wp2_with fail
    with_reducible refine (Hir.out).mono ?_
    rintro e w' ⟨rfl, rfl⟩
    go_wp2
    go_ret2
    exact ⟨rfl, rfl⟩
  · obtain ⟨q, rfl⟩ : ∃ q, m = q + 1 := ⟨m - 1, by omega⟩
    have hp := pow_fin q (by omega)
    have hb : (((q + 1 : Nat) : Int) == 0) = false := by rw [beq_eq_false_iff_ne]; omega
    have em : (((q + 1 : Nat) : Int) - 1).toNat = q := by omega
    have hm0 : (0 : Int) ≤ ((q + 1 : Nat) : Int) - 1 := by omega
    have hm1 : ((q + 1 : Nat) : Int) - 1 ≤ 64 := by omega
    have hir := inRange_yes ((q : Int) + 1) 28 w (by omega)
    have Hp := Lib.hid hp; clear hp
    have Em := Lib.hid em; clear em
    have Hir := Lib.hid hir; clear hir
    go_enter Tryz.func11, Tryz.ntmps11
    go_wp2_with fail
    with_reducible refine (Hir.out).mono ?_
    rintro e w' ⟨rfl, rfl⟩
    go_wp2
    go_ret2
    exact ⟨retIB (by rw [← Hp.out]) rfl, rfl⟩
theorem impl_CountRows (n : Int) (w : World) :
    Calls Tryz.prog 11 #[.int .i64 n] w fun e w' => e = .returned (.tuple #[.int .i64 (mCountRows n).1, .bool (mCountRows n).2]) ∧ Below w.heap.size w w' := by
  by_cases hn : 0 ≤ n ∧ n ≤ 28
  · obtain ⟨m, rfl⟩ := Int.eq_ofNat_of_zero_le hn.1
    rw [mCR_yes m (by omega)]
    exact callsBelow (countRows_any m w (by omega))
  · have hm := mCR_no n hn
    have Hn := Lib.hid hn; clear hn
    have Hm := Lib.hid hm; clear hm
    go_enter Tryz.func11, Tryz.ntmps11
    go_wp2_with fail
    with_reducible refine (inRange_no _ _ _ Hn.out).mono ?_
    rintro e w' ⟨rfl, rfl⟩
    go_wp2
    go_ret2
    rw [Hm.out]
    exact ⟨rfl, Below.refl _ _⟩

/-! ### Ways to choose -/
end
end Go.Proofs.YtjaodhjiibdbdaaGreatDoor
namespace Go.Proofs.YtjaodhjiibdbdaaGreatDoor
section
open Go.RowKit
set_option linter.unusedVariables false
set_option linter.unusedSimpArgs false

/-- one of some numbers that are laid for it -/
theorem amongNew_any (xs : List Int) (w : World) (g A : Nat) (h : Cur w g A) (hA : A ≤ 900000000) (hn : 1 ≤ xs.length) (hn2 : xs.length ≤ 1048576) :
    Calls Tryz.prog 49 #[.pointer (some ⟨g, 0, none⟩), .slice (some ⟨w.heap.size, 0, none⟩) xs.length xs.length] (w.alloc (.cells (xs.map (Value.int .i64)).toArray 3)) fun e w' => ∃ z, z ∈ xs ∧ e = .returned (.int .i64 z) ∧ Cur w' g (A + 2) ∧ Chg (fun k => k = g) w w' := by
  have hlt := h.lt
  have ha := among_any xs.length xs.length _ xs _ g A (intsAt_new w xs (by unfold maxLen; omega)) (fun b o e => by cases e; omega) (h.keep ((Below.refl _ _).alloc (Nat.le_refl _) _)) hA hn hn2
  refine ha.mono fun e w' ⟨i, hi, he, hc, hg⟩ => ⟨xs.getD i 0, mem_of_getD hi, he, hc, hg.allocFirst⟩

set_option maxHeartbeats 6400000 in
set_option maxRecDepth 100000 in
theorem row_any (most : Nat) (w : World) (g A : Nat) (h : Cur w g A) (hA : A ≤ 800000000) (hm : most ≤ 28) :
    Calls Tryz.prog 43 #[.pointer (some ⟨g, 0, none⟩), .int .i64 most] w fun e w' => ∃ ao n cap xs, e = .returned (.slice ao n cap) ∧ Own w.heap.size w'.heap.size w' ao n cap xs ∧ n ≤ 29 ∧ Cur w' g (A + 400) ∧ Chg (fun k => k = g) w w' := by
  have hcon := pick_any (most + 1) w g A h (by omega) (by omega) (by omega)
  simp only [show ((most + 1 : Nat) : Int) = (most : Int) + 1 from rfl] at hcon
  have hm8 : (most : Int) ≤ 28 := by omega
  have hg := h.lt
  have Hcon := Lib.hid hcon; clear hcon
  go_enter Tryz.func43, Tryz.ntmps43
  go_wp2_with fail
  with_reducible refine (Hcon.out).mono ?_
  rintro e w1 ⟨N, hN, rfl, hc1, hg1⟩
  clear Hcon
  go_wp2
  go_loopw [5, 6] (fun v i wr => ∃ (k m : Nat) (a : Option Addr) (c : Nat) (xs : List Int), v = .slice a k c ∧ i = .int .i64 m ∧ k + m ≤ N ∧ Own w.heap.size wr.heap.size wr a k c xs ∧ Cur wr g (A + 2 + 6 * k) ∧ Chg (fun k => k = g) w wr) (fun _ i _ => (intOf i).toNat)
  case atStart => exact ⟨0, N, none, 0, [], rfl, rfl, by omega, Own.nil _ _ _, hc1, hg1⟩
  case round =>
    obtain ⟨k, m, a, c, xs, rfl, rfl, hkm, ho, hc, hgw⟩ := hrel
    clear hc1 hg1
    have hnew : ∀ j, (Value.slice a k c).ownBlock = some j → w.heap.size ≤ j := fun j hj => (ho.1.lt j hj).1
    by_cases hz : m = 0
    · subst hz
      have hp := pick_any 24 wr g _ hc (by omega) (by omega) (by omega)
      rw [show ((24 : Nat) : Int) = 24 from rfl] at hp
      have hk8 : k ≤ 28 := by omega
      have Hp := Lib.hid hp; clear hp
      have Hnew := Lib.hid hnew; clear hnew
      go_wp2_with fail
      with_reducible refine (Hp.out).mono ?_
      rintro e w2 ⟨b, hb, rfl, hc2, hg2⟩
      have ho2 := ho.chg hg2 (fun j h1 _ _ e => by omega)
      have hgw2 := hgw.trans hg2
      have hs2 := hg2.size
      have hs1 := hgw.size
      have hb8 : (b : Int) < 24 := by omega
      clear ho hc hgw hg2 Hp
      by_cases hb0 : b = 0
      · subst hb0
        have ha := amongNew_any [0, -1, 28, 29, 4611686018427387904] w2 g _ hc2 (by omega) (by simp) (by simp)
        simp only [List.map_cons, List.map_nil, List.length_cons, List.length_nil, Nat.reduceAdd] at ha
        have Ha := Lib.hid ha; clear ha
        go_wp2_with fail
        with_reducible refine (Ha.out).mono ?_
        rintro e w3 ⟨z, hz, rfl, hc3, hg3⟩
        have ho3 := ho2.chg hg3 (fun j h1 _ _ e => by omega)
        have hgw3 := hgw2.trans hg3
        have hs3 := hg3.size
        clear hz ho2 hgw2 hg3
        go_wp2_with (at_builtin; refine wpList_push w3 rfl _ _ rfl w.heap.size _ a k c _ rfl ho3 z rfl (by omega) (by omega) ?_)
        intro a' c' w' ho' hch'
        have hgw' := hgw3.newer hch' Hnew.out
        have hc' := (hc3.chg hch' (fun j hj e => by have := Hnew.out j e; omega)).le (show _ ≤ A + 400 by omega)
        clear ho3 hch' hgw3 hc3
        have Ho' := Lib.hid ho'; clear ho'
        have Hc' := Lib.hid hc'; clear hc'
        have Hgw' := Lib.hid hgw'; clear hgw'
        go_wp2
        go_ret
        exact ⟨_, _, _, _, rfl, Ho'.out, by omega, Hc'.out, Hgw'.out⟩
      · by_cases hb1 : b = 1
        · subst hb1
          have hc2' := hc2.le (show A + 2 + 6 * k + 2 ≤ A + 250 + 2 * k by omega)
          clear hc2
          have ho2' := ho2.mono (Nat.le_refl _) hs2
          obtain ⟨wi, hwi⟩ : ∃ wi : World, wi = w2 := ⟨_, rfl⟩
          subst hwi
          go_wp2_with fail
          go_loopw [5] (fun v wr => ∃ (k : Nat) (a : Option Addr) (c : Nat) (xs : List Int), v = .slice a k c ∧ k ≤ 29 ∧ Own w.heap.size wr.heap.size wr a k c xs ∧ Cur wr g (A + 250 + 2 * k) ∧ Chg (fun k => k = g) w wr) (fun v _ => 29 - (match v with | .slice _ n _ => n | _ => 0))
          case atStart => exact ⟨k, a, c, xs, rfl, by omega, ho2', hc2', hgw2⟩
          case round =>
            clear ho2 ho2' hc2' hgw2 Hnew
            obtain ⟨k, a, c, xs, rfl, hk29, ho, hc, hgw⟩ := hrel
            have hnew : ∀ j, (Value.slice a k c).ownBlock = some j → w.heap.size ≤ j := fun j hj => (ho.1.lt j hj).1
            have hp := pick_any 2 wr g _ hc (by omega) (by omega) (by omega)
            rw [show ((2 : Nat) : Int) = 2 from rfl] at hp
            have Hp := Lib.hid hp; clear hp
            have Hnew := Lib.hid hnew; clear hnew
            go_wp2_with fail
            with_reducible refine (Hp.out).mono ?_
            rintro e w2 ⟨b, hb, rfl, hc2, hg2⟩
            have ho2 := ho.chg hg2 (fun j h1 _ _ e => by omega)
            have hgw2 := hgw.trans hg2
            have hs2 := hg2.size
            have hs1 := hgw.size
            have hb8 : (b : Int) < 2 := by omega
            have hk9 : (k : Int) ≤ 29 := by omega
            clear ho hc hgw hg2 Hp
            by_cases hlt : k < 28 + b
            · have hd : (k : Int) < 28 + (b : Int) := by omega
              go_wp2_with (at_builtin; refine wpList_push w2 rfl _ _ rfl w.heap.size _ a k c _ rfl ho2 1 rfl (by omega) (by omega) ?_)
              intro a' c' w' ho' hch'
              have hgw' := hgw2.newer hch' Hnew.out
              have hc' := (hc2.chg hch' (fun j hj e => by have := Hnew.out j e; omega)).le (show _ ≤ A + 250 + 2 * (k + 1) by omega)
              clear ho2 hch' hgw2 hc2
              have Ho' := Lib.hid ho'; clear ho'
              have Hc' := Lib.hid hc'; clear hc'
              have Hgw' := Lib.hid hgw'; clear hgw'
              go_wp2
              go_roundw
              case rel => exact ⟨k + 1, a', c', _, rfl, by omega, Ho'.out, Hc'.out, Hgw'.out⟩
              case measure => simp only []; omega
            · have hd : ¬ (k : Int) < 28 + (b : Int) := by omega
              have hc' := hc2.le (show _ ≤ A + 400 by omega)
              have ho' := ho2.mono (Nat.le_refl _) hs2
              clear ho2 hc2
              have Ho' := Lib.hid ho'; clear ho'
              have Hc' := Lib.hid hc'; clear hc'
              have Hgw2 := Lib.hid hgw2; clear hgw2
              go_wp2
              go_ret
              exact ⟨_, _, _, _, rfl, Ho'.out, by omega, Hc'.out, Hgw2.out⟩
        · have hd0 : ((b : Int) == 0) = false := by simp; omega
          have hd1 : ((b : Int) == 1) = false := by simp; omega
          have hd2 : decide ((b : Int) = 0) = false := decide_eq_false (by omega)
          have hd3 : decide ((b : Int) = 1) = false := decide_eq_false (by omega)
          have hd4 : ¬ (b : Int) = 0 := by omega
          have hd5 : ¬ (b : Int) = 1 := by omega
          have hc' := hc2.le (show _ ≤ A + 400 by omega)
          have ho' := ho2.mono (Nat.le_refl _) hs2
          clear ho2 hc2
          have Ho' := Lib.hid ho'; clear ho'
          have Hc' := Lib.hid hc'; clear hc'
          have Hgw2 := Lib.hid hgw2; clear hgw2
          have Hb0 := Lib.hid hb0; clear hb0
          have Hb1 := Lib.hid hb1; clear hb1
          go_wp2
          go_ret
          exact ⟨_, _, _, _, rfl, Ho'.out, by omega, Hc'.out, Hgw2.out⟩
    · have hm1 : (0 : Int) < (m : Int) := by omega
      have hm9 : (m : Int) ≤ 28 := by omega
      have ha := amongNew_any [2, 4, 28] wr g _ hc (by omega) (by simp) (by simp)
      simp only [List.map_cons, List.map_nil, List.length_cons, List.length_nil, Nat.reduceAdd] at ha
      have hs1 := hgw.size
      have Ha := Lib.hid ha; clear ha
      have Hnew := Lib.hid hnew; clear hnew
      go_wp2_with fail
      with_reducible refine (Ha.out).mono ?_
      rintro e w3 ⟨z, hz3, rfl, hc3, hg3⟩
      have ho3 := ho.chg hg3 (fun j h1 _ _ e => by omega)
      have hgw3 := hgw.trans hg3
      have hs3 := hg3.size
      have hz2 : 2 ≤ z ∧ z ≤ 28 := by simp at hz3; omega
      obtain ⟨Z, rfl⟩ := Int.eq_ofNat_of_zero_le (show 0 ≤ z by omega)
      clear hz3 ho hgw hg3 hc Ha
      have hleast := l1Least_any (m : Int) (Z : Int) w3
      rw [show min (m : Int) (Z : Int) = ((min m Z : Nat) : Int) by omega] at hleast
      have hp1 := pick_any (min m Z) w3 g _ hc3 (by omega) (by omega) (by omega)
      generalize hX : min m Z = X at hleast hp1
      have Hleast := Lib.hid hleast; clear hleast
      have Hp1 := Lib.hid hp1; clear hp1
      go_wp2_with fail
      with_reducible refine (Hleast.out).mono ?_
      rintro e w' ⟨rfl, rfl⟩
      go_wp2_with fail
      with_reducible refine (Hp1.out).mono ?_
      rintro e w4 ⟨b, hb, rfl, hc4, hg4⟩
      have ho4 := ho3.chg hg4 (fun j h1 _ _ e => by omega)
      have hgw4 := hgw3.trans hg4
      have hs4 := hg4.size
      have hbm : b < m := by omega
      have hb8 : (b : Int) < 28 := by omega
      clear ho3 hgw3 hg4 hc3 Hp1 Hleast hX hb
      go_wp2_with (at_builtin; refine wpList_push w4 rfl _ _ rfl w.heap.size _ a k c _ rfl ho4 _ rfl (by omega) (by omega) ?_)
      intro a' c' w' ho' hch'
      have hgw' := hgw4.newer hch' Hnew.out
      have hc' := (hc4.chg hch' (fun j hj e => by have := Hnew.out j e; omega)).le (show _ ≤ A + 2 + 6 * (k + 1) by omega)
      clear ho4 hch' hgw4 hc4
      have Ho' := Lib.hid ho'; clear ho'
      have Hc' := Lib.hid hc'; clear hc'
      have Hgw' := Lib.hid hgw'; clear hgw'
      go_wp2
      go_roundw
      case rel => exact ⟨k + 1, m - (1 + b), a', c', _, rfl, valI (by omega), by omega, Ho'.out, Hc'.out, Hgw'.out⟩
      case measure => simp [intOf]; omega
theorem DrawIsRow_any (ac : Option Addr) (nc cc : Nat) (w : World) (hnc : nc ≤ 1048576) (hby : ByteIn w w.heap.size ac nc) :
    Calls Tryz.prog 38 #[.slice ac nc cc] w fun e w' => ∃ ao n cap xs, e = .returned (.slice ao n cap) ∧ Own w.heap.size w'.heap.size w' ao n cap xs ∧ n ≤ 29 ∧ Below w.heap.size w w' := by
  have hcon := row_any 28 _ _ 0 (cur_new w ac nc cc hnc hby) (by omega) (by omega)
  rw [show ((28 : Nat) : Int) = 28 from rfl] at hcon
  have Hcon := Lib.hid hcon; clear hcon
  have Hby := Lib.hid hby; clear hby
  go_enter Tryz.func38, Tryz.ntmps38
  go_wp2_with fail
  with_reducible refine (Hcon.out).mono ?_
  rintro e w1 ⟨a, n, c, xs, rfl, ho, hn, hc, hg⟩
  go_wp2
  go_ret
  exact ⟨_, _, _, _, rfl, ho.mono (curSize _ _) (Nat.le_refl _), hn, hg.drawn⟩
theorem pow_fin9 : ∀ m : Nat, m < 29 → wrap64 (2 ^ m) = (cntR (m + 1) : Int) := by decide +kernel
theorem cntR_le9 : ∀ n, n < 30 → 1 ≤ cntR n ∧ cntR n ≤ 268435456 := by decide +kernel
end
end Go.Proofs.YtjaodhjiibdbdaaGreatDoor
