/- Chapter 1: counts, heights and staircases. No condition. -/
import Derived.Test.YthhhgmkjjagmaaaBase
import Derived.Test.YthhhgmkjjagmaaaGa
import Derived.Test.YthhhgmkjjagmaaaPileA
import Derived.Test.YthhhgmkjjagmaaaHelp
namespace Go.Proofs.Ythhhgmkjjagmaaa
open Go.RowKit
set_option linter.unusedVariables false
set_option linter.unusedSimpArgs false

theorem inRange_any (n most : Int) (w : World) :
    Calls Try.prog 63 #[.int .i64 n, .int .i64 most] w fun e w' => e = .returned (.bool (decide (0 ≤ n ∧ n ≤ most))) ∧ w = w' := by
  go_enter Try.func63, Try.ntmps63
  go_wp2
  all_goals (go_ret; exact ⟨by congr 2; simp; omega, rfl⟩)

theorem inRange_yes (n most : Int) (w : World) (h : 0 ≤ n ∧ n ≤ most) : Calls Try.prog 63 #[.int .i64 n, .int .i64 most] w fun e w' => e = .returned (.bool true) ∧ w = w' := by
  have := inRange_any n most w; rw [decide_eq_true h] at this; exact this
theorem inRange_no (n most : Int) (w : World) (h : ¬ (0 ≤ n ∧ n ≤ most)) : Calls Try.prog 63 #[.int .i64 n, .int .i64 most] w fun e w' => e = .returned (.bool false) ∧ w = w' := by
  have := inRange_any n most w; rw [decide_eq_false h] at this; exact this
theorem l1Least_any (a b : Int) (w : World) :
    Calls Try.prog 103 #[.int .i64 a, .int .i64 b] w fun e w' => e = .returned (.int .i64 (min a b)) ∧ w = w' := by
  go_enter Try.func103, Try.ntmps103
  go_wp2
  all_goals (go_ret; exact ⟨retI (by omega), rfl⟩)

/-! ### Heights -/
set_option maxHeartbeats 1600000 in
theorem piHeight_any (n : Nat) (w : World) (hn : n ≤ 28) :
    Calls Try.prog 65 #[.int .i64 n] w fun e w' => e = .returned (.int .i64 (hgt n)) ∧ w = w' := by
  go_enter Try.func65, Try.ntmps65
  go_wp2
  go_loop [3] (fun i => ∃ k : Nat, k ≤ 7 ∧ k ≤ hgt n ∧ i = .int .i64 k) (fun i => 7 - (intOf i).toNat)
  case atStart => exact ⟨0, by omega, by omega, rfl⟩
  case round =>
    obtain ⟨k, hk, hkn, rfl⟩ := hrel
    have hh := hgt_le n
    have hk8 : k = 0 ∨ k = 1 ∨ k = 2 ∨ k = 3 ∨ k = 4 ∨ k = 5 ∨ k = 6 ∨ k = 7 := by omega
    rcases hk8 with rfl | rfl | rfl | rfl | rfl | rfl | rfl | rfl
    · go_wp2
      · have hc := hgt_cases n hn
        go_round
        case rel => exact ⟨1, by omega, by omega, rfl⟩
        case measure => simp [intOf]
      · have hc := hgt_cases n hn
        go_ret
        exact ⟨retI (by omega), rfl⟩
    · go_wp2
      · have hc := hgt_cases n hn
        go_round
        case rel => exact ⟨2, by omega, by omega, rfl⟩
        case measure => simp [intOf]
      · have hc := hgt_cases n hn
        go_ret
        exact ⟨retI (by omega), rfl⟩
    · go_wp2
      · have hc := hgt_cases n hn
        go_round
        case rel => exact ⟨3, by omega, by omega, rfl⟩
        case measure => simp [intOf]
      · have hc := hgt_cases n hn
        go_ret
        exact ⟨retI (by omega), rfl⟩
    · go_wp2
      · have hc := hgt_cases n hn
        go_round
        case rel => exact ⟨4, by omega, by omega, rfl⟩
        case measure => simp [intOf]
      · have hc := hgt_cases n hn
        go_ret
        exact ⟨retI (by omega), rfl⟩
    · go_wp2
      · have hc := hgt_cases n hn
        go_round
        case rel => exact ⟨5, by omega, by omega, rfl⟩
        case measure => simp [intOf]
      · have hc := hgt_cases n hn
        go_ret
        exact ⟨retI (by omega), rfl⟩
    · go_wp2
      · have hc := hgt_cases n hn
        go_round
        case rel => exact ⟨6, by omega, by omega, rfl⟩
        case measure => simp [intOf]
      · have hc := hgt_cases n hn
        go_ret
        exact ⟨retI (by omega), rfl⟩
    · go_wp2
      · have hc := hgt_cases n hn
        go_round
        case rel => exact ⟨7, by omega, by omega, rfl⟩
        case measure => simp [intOf]
      · have hc := hgt_cases n hn
        go_ret
        exact ⟨retI (by omega), rfl⟩
    · go_wp2
      · have hc := hgt_cases n hn
        go_ret
        exact ⟨retI (by omega), rfl⟩

def mHeightFor (n : Int) : Int × Int × Bool := if 0 ≤ n ∧ n ≤ 28 then (hgt n.toNat, n - tri (hgt n.toNat), true) else (0, 0, false)

end Go.Proofs.Ythhhgmkjjagmaaa
