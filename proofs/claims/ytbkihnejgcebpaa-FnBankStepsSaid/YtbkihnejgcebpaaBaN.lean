/- Chapter 7: how many bank states some cards make. No condition. -/
import Derived.Test.YtbkihnejgcebpaaHelp
import Derived.Test.YtbkihnejgcebpaaPileC
import Derived.Test.YtbkihnejgcebpaaBaM
import Derived.Lib.MinMax
namespace Go.Proofs.Ytbkihnejgcebpaa
open Go.RowKit
set_option linter.unusedVariables false
set_option linter.unusedSimpArgs false
set_option maxRecDepth 20000

theorem isHeight_any (h : Int) (w : World) : Calls Try.prog 34 #[.int .i64 h] w fun e w' => e = .returned (.bool (decide (1 ≤ h ∧ h ≤ 10))) ∧ w = w' := by
  go_enter Try.func34, Try.ntmps34
  go_wp2
  all_goals (go_ret; exact ⟨by congr 2; simp; omega, rfl⟩)
theorem isHeight_yes (h : Int) (w : World) (hh : 1 ≤ h ∧ h ≤ 10) : Calls Try.prog 34 #[.int .i64 h] w fun e w' => e = .returned (.bool true) ∧ w = w' := by
  have := isHeight_any h w; rw [decide_eq_true hh] at this; exact this
theorem isHeight_no (h : Int) (w : World) (hh : ¬ (1 ≤ h ∧ h ≤ 10)) : Calls Try.prog 34 #[.int .i64 h] w fun e w' => e = .returned (.bool false) ∧ w = w' := by
  have := isHeight_any h w; rw [decide_eq_false hh] at this; exact this
theorem baHeight_any (h : Int) (w : World) : Calls Try.prog 59 #[.int .i64 h] w fun e w' => e = .returned (.bool (decide (1 ≤ h ∧ h ≤ 10))) ∧ w = w' := by
  have hcon := fun W => l1In_any h 1 10 W
  have Hcon := Lib.hid hcon; clear hcon
  go_enter Try.func59, Try.ntmps59
  go_wp2_with fail
  with_reducible refine ((Hcon.out _)).mono ?_
  rintro e w' ⟨rfl, rfl⟩
  go_wp2
  go_ret
  exact ⟨by simp, rfl⟩
theorem baHeight_yes (h : Int) (w : World) (hh : 1 ≤ h ∧ h ≤ 10) : Calls Try.prog 59 #[.int .i64 h] w fun e w' => e = .returned (.bool true) ∧ w = w' := by
  have := baHeight_any h w; rw [decide_eq_true hh] at this; exact this
theorem baHeight_no (h : Int) (w : World) (hh : ¬ (1 ≤ h ∧ h ≤ 10)) : Calls Try.prog 59 #[.int .i64 h] w fun e w' => e = .returned (.bool false) ∧ w = w' := by
  have := baHeight_any h w; rw [decide_eq_false hh] at this; exact this

/-! ### All bank states counted -/
def cbkN (h n k : Nat) : Nat := ((List.range k).map fun l => cnt h (n - l)).sum
theorem cbkN_succ (h n k : Nat) : cbkN h n (k + 1) = cbkN h n k + cnt h (n - k) := by
  unfold cbkN; rw [List.range_succ, List.map_append, List.sum_append]; simp
theorem cbkN_le (h n k : Nat) (hh : h ≤ 10) (hn : n ≤ 28) (hk : k ≤ 10) : cbkN h n k ≤ 3718 * k := by
  induction k with
  | zero => simp [cbkN]
  | succ k ih => rw [cbkN_succ]; have := cnt_le h (by omega) (n - k) (by omega); have := ih (by omega); omega
def mCountBanks (h n : Int) : Int × Bool := if (1 ≤ h ∧ h ≤ 10) ∧ 0 ≤ n ∧ n ≤ 28 then ((cbkN h.toNat n.toNat (min h.toNat (n.toNat + 1)) : Nat), true) else (0, false)

end Go.Proofs.Ytbkihnejgcebpaa
