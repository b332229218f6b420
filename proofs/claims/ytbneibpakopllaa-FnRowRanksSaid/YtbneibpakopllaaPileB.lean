/- Chapter 1: counts, heights and staircases. No condition. -/
import Derived.Test.YtbneibpakopllaaBase
import Derived.Test.YtbneibpakopllaaGa
import Derived.Test.YtbneibpakopllaaPileA
import Derived.Test.YtbneibpakopllaaHelp
namespace Go.Proofs.Ytbneibpakopllaa
open Go.RowKit
set_option linter.unusedVariables false
set_option linter.unusedSimpArgs false

theorem inRange_any (n most : Int) (w : World) :
    Calls Try.prog 88 #[.int .i64 n, .int .i64 most] w fun e w' => e = .returned (.bool (decide (0 ≤ n ∧ n ≤ most))) ∧ w = w' := by
  go_enter Try.func88, Try.ntmps88
  go_wp2
  all_goals (go_ret; exact ⟨by congr 2; simp; omega, rfl⟩)

theorem piCards_any (n : Int) (w : World) :
    Calls Try.prog 110 #[.int .i64 n] w fun e w' => e = .returned (.bool (decide (0 ≤ n ∧ n ≤ 28))) ∧ w = w' := by
  go_enter Try.func110, Try.ntmps110
  go_wp2_with (go_at_call 129; refine (l1In_any _ _ _ _).mono ?_; rintro e w' ⟨rfl, rfl⟩)
  go_ret
  exact ⟨retB (by simp), rfl⟩

theorem inRange_yes (n most : Int) (w : World) (h : 0 ≤ n ∧ n ≤ most) : Calls Try.prog 88 #[.int .i64 n, .int .i64 most] w fun e w' => e = .returned (.bool true) ∧ w = w' := by
  have := inRange_any n most w; rw [decide_eq_true h] at this; exact this
theorem inRange_no (n most : Int) (w : World) (h : ¬ (0 ≤ n ∧ n ≤ most)) : Calls Try.prog 88 #[.int .i64 n, .int .i64 most] w fun e w' => e = .returned (.bool false) ∧ w = w' := by
  have := inRange_any n most w; rw [decide_eq_false h] at this; exact this
theorem piCards_yes (n : Int) (w : World) (h : 0 ≤ n ∧ n ≤ 28) : Calls Try.prog 110 #[.int .i64 n] w fun e w' => e = .returned (.bool true) ∧ w = w' := by
  have := piCards_any n w; rw [decide_eq_true h] at this; exact this
theorem piCards_no (n : Int) (w : World) (h : ¬ (0 ≤ n ∧ n ≤ 28)) : Calls Try.prog 110 #[.int .i64 n] w fun e w' => e = .returned (.bool false) ∧ w = w' := by
  have := piCards_any n w; rw [decide_eq_false h] at this; exact this

theorem l1Least_any (a b : Int) (w : World) :
    Calls Try.prog 128 #[.int .i64 a, .int .i64 b] w fun e w' => e = .returned (.int .i64 (min a b)) ∧ w = w' := by
  go_enter Try.func128, Try.ntmps128
  go_wp2
  all_goals (go_ret; exact ⟨retI (by omega), rfl⟩)

/-! ### Heights -/
def mHeightFor (n : Int) : Int × Int × Bool := if 0 ≤ n ∧ n ≤ 28 then (hgt n.toNat, n - tri (hgt n.toNat), true) else (0, 0, false)

set_option maxHeartbeats 1600000 in
theorem impl_HeightFor (n : Int) (w : World) :
    Calls Try.prog 169 #[.int .i64 n] w fun e w' => e = .returned (.tuple #[.int .i64 (mHeightFor n).1, .int .i64 (mHeightFor n).2.1, .bool (mHeightFor n).2.2]) ∧ Below w.heap.size w w' := by
  by_cases hn : 0 ≤ n ∧ n ≤ 28
  · have hin := hn
    obtain ⟨m, rfl⟩ := Int.eq_ofNat_of_zero_le hn.1
    have hm : mHeightFor m = (((hgt m : Nat) : Int), (m : Int) - ((tri (hgt m) : Nat) : Int), true) := by unfold mHeightFor; rw [if_pos hn]; rfl
    have hm28 : m ≤ 28 := by omega
    have Hn := Lib.hid hn; clear hn
    have Hm := Lib.hid hm; clear hm
    have Hin := Lib.hid hin; clear hin
    go_enter Try.func169, Try.ntmps169
    go_wp2_with (go_at_call 88; refine (inRange_yes _ _ _ Hin.out).mono ?_; rintro e w' ⟨rfl, rfl⟩)
    go_loop [5, 6] (fun h l => ∃ k : Nat, k ≤ 7 ∧ k ≤ hgt m ∧ h = .int .i64 k ∧ l = .int .i64 ((m : Int) - tri k)) (fun h _ => 7 - (intOf h).toNat)
    case atStart => exact ⟨0, by omega, by omega, rfl, by simp [tri]⟩
    case round =>
      obtain ⟨k, hk, hkn, rfl, rfl⟩ := hrel
      have hh := hgt_le m
      have h8 : k = 0 ∨ k = 1 ∨ k = 2 ∨ k = 3 ∨ k = 4 ∨ k = 5 ∨ k = 6 ∨ k = 7 := by omega
      rcases h8 with rfl | rfl | rfl | rfl | rfl | rfl | rfl | rfl
      · rw [show ((tri 0 : Nat) : Int) = 0 from rfl]
        go_wp2
        · have hc := hgt_cases m hm28
          go_round
          case rel => exact ⟨1, by omega, by omega, rfl, valI (by have e : ((tri 1 : Nat) : Int) = 1 := rfl; omega)⟩
          case measure => simp [intOf]
        · have hc := hgt_cases m hm28
          have hk' : hgt m = 0 := by omega
          go_ret3
          rw [Hm.out, hk']
          exact ⟨retIIB rfl rfl rfl, Below.refl _ _⟩
      · rw [show ((tri 1 : Nat) : Int) = 1 from rfl]
        go_wp2
        · have hc := hgt_cases m hm28
          go_round
          case rel => exact ⟨2, by omega, by omega, rfl, valI (by have e : ((tri 2 : Nat) : Int) = 3 := rfl; omega)⟩
          case measure => simp [intOf]
        · have hc := hgt_cases m hm28
          have hk' : hgt m = 1 := by omega
          go_ret3
          rw [Hm.out, hk']
          exact ⟨retIIB rfl rfl rfl, Below.refl _ _⟩
      · rw [show ((tri 2 : Nat) : Int) = 3 from rfl]
        go_wp2
        · have hc := hgt_cases m hm28
          go_round
          case rel => exact ⟨3, by omega, by omega, rfl, valI (by have e : ((tri 3 : Nat) : Int) = 6 := rfl; omega)⟩
          case measure => simp [intOf]
        · have hc := hgt_cases m hm28
          have hk' : hgt m = 2 := by omega
          go_ret3
          rw [Hm.out, hk']
          exact ⟨retIIB rfl rfl rfl, Below.refl _ _⟩
      · rw [show ((tri 3 : Nat) : Int) = 6 from rfl]
        go_wp2
        · have hc := hgt_cases m hm28
          go_round
          case rel => exact ⟨4, by omega, by omega, rfl, valI (by have e : ((tri 4 : Nat) : Int) = 10 := rfl; omega)⟩
          case measure => simp [intOf]
        · have hc := hgt_cases m hm28
          have hk' : hgt m = 3 := by omega
          go_ret3
          rw [Hm.out, hk']
          exact ⟨retIIB rfl rfl rfl, Below.refl _ _⟩
      · rw [show ((tri 4 : Nat) : Int) = 10 from rfl]
        go_wp2
        · have hc := hgt_cases m hm28
          go_round
          case rel => exact ⟨5, by omega, by omega, rfl, valI (by have e : ((tri 5 : Nat) : Int) = 15 := rfl; omega)⟩
          case measure => simp [intOf]
        · have hc := hgt_cases m hm28
          have hk' : hgt m = 4 := by omega
          go_ret3
          rw [Hm.out, hk']
          exact ⟨retIIB rfl rfl rfl, Below.refl _ _⟩
      · rw [show ((tri 5 : Nat) : Int) = 15 from rfl]
        go_wp2
        · have hc := hgt_cases m hm28
          go_round
          case rel => exact ⟨6, by omega, by omega, rfl, valI (by have e : ((tri 6 : Nat) : Int) = 21 := rfl; omega)⟩
          case measure => simp [intOf]
        · have hc := hgt_cases m hm28
          have hk' : hgt m = 5 := by omega
          go_ret3
          rw [Hm.out, hk']
          exact ⟨retIIB rfl rfl rfl, Below.refl _ _⟩
      · rw [show ((tri 6 : Nat) : Int) = 21 from rfl]
        go_wp2
        · have hc := hgt_cases m hm28
          go_round
          case rel => exact ⟨7, by omega, by omega, rfl, valI (by have e : ((tri 7 : Nat) : Int) = 28 := rfl; omega)⟩
          case measure => simp [intOf]
        · have hc := hgt_cases m hm28
          have hk' : hgt m = 6 := by omega
          go_ret3
          rw [Hm.out, hk']
          exact ⟨retIIB rfl rfl rfl, Below.refl _ _⟩
      · rw [show ((tri 7 : Nat) : Int) = 28 from rfl]
        go_wp2
        · have hc := hgt_cases m hm28
          have hk' : hgt m = 7 := by omega
          go_ret3
          rw [Hm.out, hk']
          exact ⟨retIIB rfl rfl rfl, Below.refl _ _⟩
  · have hin := hn
    have hm : mHeightFor n = (0, 0, false) := by unfold mHeightFor; rw [if_neg hn]
    have Hn := Lib.hid hn; clear hn
    have Hm := Lib.hid hm; clear hm
    have Hin := Lib.hid hin; clear hin
    go_enter Try.func169, Try.ntmps169
    go_wp2_with (go_at_call 88; refine (inRange_no _ _ _ Hin.out).mono ?_; rintro e w' ⟨rfl, rfl⟩)
    go_ret3
    rw [Hm.out]
    exact ⟨rfl, Below.refl _ _⟩

end Go.Proofs.Ytbneibpakopllaa
