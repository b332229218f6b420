/- Several texts in one: Order, Put, Step, Steps, Past. No condition. -/
import Derived.Test.YtdfmljkjidepeaaGreatDoorSort
import Derived.Test.YtdfmljkjidepeaaGreatDoorGb
import Derived.Test.YtdfmljkjidepeaaGreatDoorGa
import Derived.Test.YtdfmljkjidepeaaGreatDoorHelp
import Derived.Lib.Slices
import Derived.IntWalk
namespace Go.Proofs.YtdfmljkjidepeaaGreatDoor
section
open Go.RowKit Go.Shelf
set_option linter.unusedVariables false
set_option maxRecDepth 20000
set_option linter.unusedSimpArgs false

def catTo (xss : List (List Int)) (k : Nat) : List Int := (xss.take k).flatten
theorem catTo_succ (xss : List (List Int)) (k n : Nat) (x : List Int) (hk : k < n) (hl : xss.length = n) (hx : xss.getD k [] = x) : catTo xss (k + 1) = catTo xss k ++ x := by
  unfold catTo
  rw [take_snocR hx hk hl, List.flatten_append]
  simp
theorem catTo_all (xss : List (List Int)) (n : Nat) (hl : xss.length = n) : catTo xss n = xss.flatten := by unfold catTo; rw [take_allR hl]
theorem catTo_le (xss : List (List Int)) (k : Nat) : (catTo xss k).length ≤ xss.flatten.length := by
  unfold catTo
  have := congrArg List.flatten (List.take_append_drop k xss)
  rw [List.flatten_append] at this
  have := congrArg List.length this
  simp at this ⊢
  omega

theorem intsAt_one (w : World) (x : Int) : IntsAt (w.alloc (.cells #[.int .i64 x] 3)) (some ⟨w.heap.size, 0, none⟩) 1 1 [x] :=
  ⟨rfl, Nat.le_refl _, by unfold maxLen; omega, (fun e => by cases e), fun j hj => ⟨_, _, rfl, by simp, fun i hi => by
    obtain rfl : i = 0 := by omega
    rw [World.cell?_alloc_at _ _ _ _ rfl]; rfl⟩⟩
theorem rowsAt_pair {w : World} {a m c xs a2 m2 c2 ys} (h1 : IntsAt w a m c xs) (h2 : IntsAt w a2 m2 c2 ys) :
    RowsAt (w.alloc (.cells #[.slice a m c, .slice a2 m2 c2] 24)) (some ⟨w.heap.size, 0, none⟩) 2 2 [xs, ys] :=
  ⟨rfl, Nat.le_refl _, by unfold maxLen; omega, (fun e => by cases e), fun j hj => ⟨_, _, rfl, by simp, fun i hi => by
    have hb := belowAlloc w (.cells #[.slice a m c, .slice a2 m2 c2] 24)
    have hi' : i = 0 ∨ i = 1 := by omega
    rcases hi' with rfl | rfl
    · exact ⟨a, m, c, by rw [World.cell?_alloc_at _ _ _ _ rfl]; rfl, h1.keep hb⟩
    · exact ⟨a2, m2, c2, by rw [World.cell?_alloc_at _ _ _ _ rfl]; rfl, h2.keep hb⟩⟩⟩

theorem rowsAt_one {w : World} {a m c xs} (h1 : IntsAt w a m c xs) :
    RowsAt (w.alloc (.cells #[.slice a m c] 24)) (some ⟨w.heap.size, 0, none⟩) 1 1 [xs] :=
  ⟨rfl, Nat.le_refl _, by unfold maxLen; omega, (fun e => by cases e), fun j hj => ⟨_, _, rfl, by simp, fun i hi => by
    have hb := belowAlloc w (.cells #[.slice a m c] 24)
    obtain rfl : i = 0 := by omega
    exact ⟨a, m, c, by rw [World.cell?_alloc_at _ _ _ _ rfl]; rfl, h1.keep hb⟩⟩⟩

/-- a row of one number that the call made -/
theorem Own.single (w : World) (x : Int) : Own w.heap.size (w.alloc (.cells #[.int .i64 x] 3)).heap.size (w.alloc (.cells #[.int .i64 x] 3)) (some ⟨w.heap.size, 0, none⟩) 1 1 [x] :=
  Own.of (World.ownsRow_lit w #[.int .i64 x] 1 (Nat.le_refl _) (by unfold maxLen; omega) rfl)

end
end Go.Proofs.YtdfmljkjidepeaaGreatDoor
namespace Go.Proofs.YtdfmljkjidepeaaGreatDoor
section
open Go.RowKit Go.Shelf
set_option linter.unusedVariables false
set_option linter.unusedSimpArgs false

end
end Go.Proofs.YtdfmljkjidepeaaGreatDoor
namespace Go.Proofs.YtdfmljkjidepeaaGreatDoor
section
open Go.RowKit
set_option linter.unusedVariables false
set_option maxRecDepth 20000
set_option linter.unusedSimpArgs false

end
end Go.Proofs.YtdfmljkjidepeaaGreatDoor
namespace Go.Proofs.YtdfmljkjidepeaaGreatDoor
section
open Go.RowKit
set_option linter.unusedVariables false
set_option maxRecDepth 20000
set_option linter.unusedSimpArgs false

theorem stepsL_add (k : Nat) (xs : List Int) : stepsL (k + 1) xs = stepL (stepsL k xs) := rfl
def mStepPiles (xs : List Int) : List Int × Bool := (if goodB xs then stepL xs else [], goodB xs)
theorem mStep_yes {xs : List Int} (h : goodB xs = true) : mStepPiles xs = (stepL xs, true) := by unfold mStepPiles; rw [h]; rfl
theorem mStep_no {xs : List Int} (h : goodB xs = false) : mStepPiles xs = ([], false) := by unfold mStepPiles; rw [h]; rfl
theorem mStepPiles_bound (xs : List Int) : (mStepPiles xs).1.length ≤ 1048576 := by
  cases h : goodB xs
  · rw [mStep_no h]; simp
  · rw [mStep_yes h]; have := (stepL_good (good_iff.1 h)).len; show (stepL xs).length ≤ _; omega
def mStepsFrom (xs : List Int) (k : Int) : List Int × Bool := if goodB xs = true ∧ 0 ≤ k ∧ k ≤ 1000 then (stepsL k.toNat xs, true) else ([], false)
theorem mSteps_yes {xs : List Int} {k : Nat} (h : goodB xs = true) (hk : k ≤ 1000) : mStepsFrom xs k = (stepsL k xs, true) := by unfold mStepsFrom; rw [if_pos ⟨h, by omega, by omega⟩]; rfl
theorem mSteps_no1 {xs : List Int} {k : Int} (h : goodB xs = false) : mStepsFrom xs k = ([], false) := by unfold mStepsFrom; rw [if_neg (by rw [h]; simp)]
theorem mSteps_no2 {xs : List Int} {k : Int} (h : ¬ (0 ≤ k ∧ k ≤ 1000)) : mStepsFrom xs k = ([], false) := by unfold mStepsFrom; rw [if_neg (fun hh => h hh.2)]
theorem mStepsFrom_bound (xs : List Int) (k : Int) : (mStepsFrom xs k).1.length ≤ 1048576 := by
  unfold mStepsFrom
  split
  · next h => have := (stepsL_good (good_iff.1 h.1) k.toNat).len; show (stepsL k.toNat xs).length ≤ _; omega
  · simp

theorem l1In_yes (n lo hi : Int) (w : World) (h : lo ≤ n ∧ n ≤ hi) : Calls Tryz.prog 79 #[.int .i64 n, .int .i64 lo, .int .i64 hi] w fun e w' => e = .returned (.bool true) ∧ w = w' := by
  have := l1In_any n lo hi w; rw [decide_eq_true h] at this; exact this
theorem l1In_no (n lo hi : Int) (w : World) (h : ¬ (lo ≤ n ∧ n ≤ hi)) : Calls Tryz.prog 79 #[.int .i64 n, .int .i64 lo, .int .i64 hi] w fun e w' => e = .returned (.bool false) ∧ w = w' := by
  have := l1In_any n lo hi w; rw [decide_eq_false h] at this; exact this

end
end Go.Proofs.YtdfmljkjidepeaaGreatDoor
namespace Go.Proofs.YtdfmljkjidepeaaGreatDoor
section
open Go.RowKit
set_option linter.unusedVariables false
set_option linter.unusedSimpArgs false

theorem first_at (xs : List Int) (x : Int) (h : x ∈ xs) : ∃ k, k < xs.length ∧ xs.getD k 0 = x ∧ (∀ j, j < k → xs.getD j 0 ≠ x) ∧ xs.erase x = xs.eraseIdx k := by
  induction xs with
  | nil => cases h
  | cons a l ih =>
    by_cases ha : a = x
    · subst ha
      exact ⟨0, by simp, rfl, fun j hj => absurd hj (Nat.not_lt_zero _), by rw [List.erase_cons_head]; rfl⟩
    · have hx : x ∈ l := by
        rcases List.mem_cons.1 h with e | e
        · exact absurd e.symm ha
        · exact e
      obtain ⟨k, h1, h2, h3, h4⟩ := ih hx
      refine ⟨k + 1, by simp; exact h1, by simpa using h2, fun j hj => ?_, ?_⟩
      · cases j with
        | zero => simpa using ha
        | succ j => simpa using h3 j (by omega)
      · rw [List.erase_cons_tail (by simpa using ha), h4]; rfl
theorem idx_of (xs : List Int) (x : Int) (h : x ∈ xs) : ∃ k, k < xs.length ∧ xs.getD k 0 = x ∧ Lib.idxOf xs x = k ∧ xs.erase x = xs.eraseIdx k := by
  obtain ⟨k, h1, h2, h3, h4⟩ := first_at xs x h
  have := Lib.idxOf_hit xs xs.length k x h1 (Nat.le_refl _) h2 h3
  rw [List.take_length] at this
  exact ⟨k, h1, h2, this, h4⟩
theorem idx_no (xs : List Int) (x : Int) (h : x ∉ xs) : Lib.idxOf xs x = -1 := by
  have := Lib.idxOf_miss xs xs.length x (fun j hj e => h (getD_mem e hj rfl))
  rwa [List.take_length] at this
theorem eraseIdx_next {xs : List Int} {j n at_ : Nat} {x : Int} (hx : xs.getD j 0 = x) (hj : j < n) (hl : xs.length = n) (h : j ≠ at_) : (xs.take (j + 1)).eraseIdx at_ = (xs.take j).eraseIdx at_ ++ [x] := by
  have hlen : (xs.take j).length = j := by simp; omega
  rw [take_snoc hx hj hl]
  by_cases h' : at_ < j
  · rw [List.eraseIdx_append_of_lt_length (by omega)]
  · rw [List.eraseIdx_of_length_le (by simp; omega), List.eraseIdx_of_length_le (by omega)]
theorem eraseIdx_here {xs : List Int} {j n : Nat} {x : Int} (hx : xs.getD j 0 = x) (hj : j < n) (hl : xs.length = n) : (xs.take (j + 1)).eraseIdx j = (xs.take j).eraseIdx j := by
  have hlen : (xs.take j).length = j := by simp; omega
  rw [take_snoc hx hj hl, List.eraseIdx_append_of_length_le (by omega), List.eraseIdx_of_length_le (l := xs.take j) (by omega), hlen]
  simp

def PastOk (xs : List Int) (x : Int) : Prop := x ∈ xs ∧ (xs.length : Int) - 1 ≤ x
instance (xs : List Int) (x : Int) : Decidable (PastOk xs x) := by unfold PastOk; infer_instance
/-- what pastBy comes to -/
def mPast (xs : List Int) (x : Int) : List Int × Bool := if PastOk xs x then (pastL xs x, true) else ([], false)
theorem mPast_yes {xs : List Int} {x : Int} (h : PastOk xs x) : mPast xs x = (pastL xs x, true) := by unfold mPast; rw [if_pos h]
theorem mPast_no {xs : List Int} {x : Int} (h : ¬ PastOk xs x) : mPast xs x = ([], false) := by unfold mPast; rw [if_neg h]

/-! ### The model's -/
def mPastBy (xs : List Int) (x : Int) : List Int × Bool := if goodB xs = true then mPast xs x else ([], false)
theorem mPastBy_yes {xs : List Int} {x : Int} (h : goodB xs = true) : mPastBy xs x = mPast xs x := by unfold mPastBy; rw [if_pos h]
theorem mPastBy_no {xs : List Int} {x : Int} (h : goodB xs = false) : mPastBy xs x = ([], false) := by unfold mPastBy; rw [if_neg (by rw [h]; simp)]
theorem mPast_bound {xs : List Int} (hg : Good xs) (x : Int) : (mPast xs x).1.length ≤ 28 := by
  unfold mPast
  split
  · next h => exact (past_good hg x h.1 h.2).len
  · simp
theorem mPastBy_bound (xs : List Int) (x : Int) : (mPastBy xs x).1.length ≤ 1048576 := by
  cases h : goodB xs
  · rw [mPastBy_no h]; simp
  · rw [mPastBy_yes h]; have := mPast_bound (good_iff.1 h) x; omega

end
end Go.Proofs.YtdfmljkjidepeaaGreatDoor
