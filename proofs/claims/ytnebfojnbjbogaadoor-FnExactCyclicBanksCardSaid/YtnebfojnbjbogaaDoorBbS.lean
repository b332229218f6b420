/- AllBanks by the specification. No condition. -/
import Derived.Test.YtnebfojnbjbogaaDoorGi
import Derived.Test.YtnebfojnbjbogaaDoorGe
namespace Go.Proofs.YtnebfojnbjbogaaDoor
open Go.RowKit
set_option linter.unusedVariables false
set_option linter.unusedSimpArgs false
set_option maxRecDepth 20000

theorem mAllBanks_yes (H N : Nat) (h : (1 ≤ (H : Int) ∧ (H : Int) ≤ 10) ∧ 0 ≤ (N : Int) ∧ (N : Int) ≤ 14) : mAllBanks H N = (baL H N (min H (N + 1)), true) := by
  unfold mAllBanks; rw [if_pos h]; rfl
theorem mAllBanks_no (h n : Int) (q : ¬ ((1 ≤ h ∧ h ≤ 10) ∧ 0 ≤ n ∧ n ≤ 14)) : mAllBanks h n = ([], false) := by
  unfold mAllBanks; rw [if_neg q]
theorem baFew_yes (h n : Int) (w : World) (q : (1 ≤ h ∧ h ≤ 10) ∧ 0 ≤ n ∧ n ≤ 14) : Calls Tryd.prog 35 #[.int .i64 h, .int .i64 n] w fun e w' => e = .returned (.bool true) ∧ w = w' := by
  have h1 := fun W => baHeight_yes h W q.1
  have h2 := fun W => l1In_t n 0 14 W q.2
  have H1 := Lib.hid h1; clear h1
  have H2 := Lib.hid h2; clear h2
  go_enter Tryd.func35, Tryd.ntmps35
  go_wp2_with fail
  with_reducible refine ((H1.out _)).mono ?_
  rintro e w' ⟨rfl, rfl⟩
  go_wp2_with fail
  with_reducible refine ((H2.out _)).mono ?_
  rintro e w' ⟨rfl, rfl⟩
  go_wp2
  go_ret
  exact ⟨rfl, rfl⟩
theorem baFew_no (h n : Int) (w : World) (q : ¬ ((1 ≤ h ∧ h ≤ 10) ∧ 0 ≤ n ∧ n ≤ 14)) : Calls Tryd.prog 35 #[.int .i64 h, .int .i64 n] w fun e w' => e = .returned (.bool false) ∧ w = w' := by
  by_cases q1 : 1 ≤ h ∧ h ≤ 10
  · have h1 := fun W => baHeight_yes h W q1
    have h2 := fun W => l1In_f n 0 14 W (fun q2 => q ⟨q1, q2⟩)
    clear q
    have H1 := Lib.hid h1; clear h1
    have H2 := Lib.hid h2; clear h2
    have Q1 := Lib.hid q1; clear q1
    go_enter Tryd.func35, Tryd.ntmps35
    go_wp2_with fail
    with_reducible refine ((H1.out _)).mono ?_
    rintro e w' ⟨rfl, rfl⟩
    go_wp2_with fail
    with_reducible refine ((H2.out _)).mono ?_
    rintro e w' ⟨rfl, rfl⟩
    go_wp2
    go_ret
    exact ⟨rfl, rfl⟩
  · have h1 := fun W => baHeight_no h W q1
    clear q
    have H1 := Lib.hid h1; clear h1
    have Q1 := Lib.hid q1; clear q1
    go_enter Tryd.func35, Tryd.ntmps35
    go_wp2_with fail
    with_reducible refine ((H1.out _)).mono ?_
    rintro e w' ⟨rfl, rfl⟩
    go_wp2
    go_ret
    exact ⟨rfl, rfl⟩
end Go.Proofs.YtnebfojnbjbogaaDoor
