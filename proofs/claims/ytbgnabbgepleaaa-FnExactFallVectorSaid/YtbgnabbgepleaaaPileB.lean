/- Chapter 1: counts, heights and staircases. No condition. -/
import Derived.Test.YtbgnabbgepleaaaBase
import Derived.Test.YtbgnabbgepleaaaGa
import Derived.Test.YtbgnabbgepleaaaPileA
import Derived.Test.YtbgnabbgepleaaaHelp
namespace Go.Proofs.Ytbgnabbgepleaaa
open Go.RowKit
set_option linter.unusedVariables false
set_option linter.unusedSimpArgs false

theorem inRange_any (n most : Int) (w : World) :
    Calls Try.prog 75 #[.int .i64 n, .int .i64 most] w fun e w' => e = .returned (.bool (decide (0 ≤ n ∧ n ≤ most))) ∧ w = w' := by
  go_enter Try.func75, Try.ntmps75
  go_wp2
  all_goals (go_ret; exact ⟨by congr 2; simp; omega, rfl⟩)

theorem inRange_yes (n most : Int) (w : World) (h : 0 ≤ n ∧ n ≤ most) : Calls Try.prog 75 #[.int .i64 n, .int .i64 most] w fun e w' => e = .returned (.bool true) ∧ w = w' := by
  have := inRange_any n most w; rw [decide_eq_true h] at this; exact this
theorem inRange_no (n most : Int) (w : World) (h : ¬ (0 ≤ n ∧ n ≤ most)) : Calls Try.prog 75 #[.int .i64 n, .int .i64 most] w fun e w' => e = .returned (.bool false) ∧ w = w' := by
  have := inRange_any n most w; rw [decide_eq_false h] at this; exact this
/-! ### Heights -/
set_option maxHeartbeats 1600000 in
theorem piHeight_any (n : Nat) (w : World) (hn : n ≤ 28) :
    Calls Try.prog 72 #[.int .i64 n] w fun e w' => e = .returned (.int .i64 (hgt n)) ∧ w = w' := by
  go_enter Try.func72, Try.ntmps72
  go_wp2
  go_loop [3] (fun i => ∃ k : Nat, k ≤ 7 ∧ k ≤ hgt n ∧ i = .int .i64 k) (fun i => 7 - (intOf i).toNat)
  case atStart => exact ⟨0, by omega, by omega, rfl⟩
  case round =>
    obtain ⟨k, hk, hkn, rfl⟩ := hrel
    have hh := hgt_le n
    have hk8 : k = 0 ∨ k = 1 ∨ k = 2 ∨ k = 3 ∨ k = 4 ∨ k = 5 ∨ k = 6 ∨ k = 7 := by omega
    rcases hk8 with rfl | rfl | rfl | rfl | rfl | rfl | rfl | rfl
    · go_wp2
      · have hc := hgt_cases n hn
        go_round
        case rel => exact ⟨1, by omega, by omega, rfl⟩
        case measure => simp [intOf]
      · have hc := hgt_cases n hn
        go_ret
        exact ⟨retI (by omega), rfl⟩
    · go_wp2
      · have hc := hgt_cases n hn
        go_round
        case rel => exact ⟨2, by omega, by omega, rfl⟩
        case measure => simp [intOf]
      · have hc := hgt_cases n hn
        go_ret
        exact ⟨retI (by omega), rfl⟩
    · go_wp2
      · have hc := hgt_cases n hn
        go_round
        case rel => exact ⟨3, by omega, by omega, rfl⟩
        case measure => simp [intOf]
      · have hc := hgt_cases n hn
        go_ret
        exact ⟨retI (by omega), rfl⟩
    · go_wp2
      · have hc := hgt_cases n hn
        go_round
        case rel => exact ⟨4, by omega, by omega, rfl⟩
        case measure => simp [intOf]
      · have hc := hgt_cases n hn
        go_ret
        exact ⟨retI (by omega), rfl⟩
    · go_wp2
      · have hc := hgt_cases n hn
        go_round
        case rel => exact ⟨5, by omega, by omega, rfl⟩
        case measure => simp [intOf]
      · have hc := hgt_cases n hn
        go_ret
        exact ⟨retI (by omega), rfl⟩
    · go_wp2
      · have hc := hgt_cases n hn
        go_round
        case rel => exact ⟨6, by omega, by omega, rfl⟩
        case measure => simp [intOf]
      · have hc := hgt_cases n hn
        go_ret
        exact ⟨retI (by omega), rfl⟩
    · go_wp2
      · have hc := hgt_cases n hn
        go_round
        case rel => exact ⟨7, by omega, by omega, rfl⟩
        case measure => simp [intOf]
      · have hc := hgt_cases n hn
        go_ret
        exact ⟨retI (by omega), rfl⟩
    · go_wp2
      · have hc := hgt_cases n hn
        go_ret
        exact ⟨retI (by omega), rfl⟩

def mHeightFor (n : Int) : Int × Int × Bool := if 0 ≤ n ∧ n ≤ 28 then (hgt n.toNat, n - tri (hgt n.toNat), true) else (0, 0, false)

end Go.Proofs.Ytbgnabbgepleaaa
