/- AllBanks by the specification. No condition. -/
import Derived.Test.YtnebfojnbjbogaaGreatDoorGi
import Derived.Test.YtnebfojnbjbogaaGreatDoorGe
namespace Go.Proofs.YtnebfojnbjbogaaGreatDoor
open Go.RowKit
set_option linter.unusedVariables false
set_option linter.unusedSimpArgs false
set_option maxRecDepth 20000

theorem mAllBanks_yes (H N : Nat) (h : (1 ≤ (H : Int) ∧ (H : Int) ≤ 10) ∧ 0 ≤ (N : Int) ∧ (N : Int) ≤ 14) : mAllBanks H N = (baL H N (min H (N + 1)), true) := by
  unfold mAllBanks; rw [if_pos h]; rfl
theorem mAllBanks_no (h n : Int) (q : ¬ ((1 ≤ h ∧ h ≤ 10) ∧ 0 ≤ n ∧ n ≤ 14)) : mAllBanks h n = ([], false) := by
  unfold mAllBanks; rw [if_neg q]
theorem baFew_yes (h n : Int) (w : World) (q : (1 ≤ h ∧ h ≤ 10) ∧ 0 ≤ n ∧ n ≤ 14) : Calls Tryz.prog 18 #[.int .i64 h, .int .i64 n] w fun e w' => e = .returned (.bool true) ∧ w = w' := by
  have h1 := fun W => baHeight_yes h W q.1
  have h2 := fun W => l1In_t n 0 14 W q.2
  have H1 := Lib.hid h1; clear h1
  have H2 := Lib.hid h2; clear h2
  go_enter Tryz.func18, Tryz.ntmps18
  go_wp2_with fail
  with_reducible refine ((H1.out _)).mono ?_
  rintro e w' ⟨rfl, rfl⟩
  go_wp2_with fail
  with_reducible refine ((H2.out _)).mono ?_
  rintro e w' ⟨rfl, rfl⟩
  go_wp2
  go_ret
  exact ⟨rfl, rfl⟩
theorem baFew_no (h n : Int) (w : World) (q : ¬ ((1 ≤ h ∧ h ≤ 10) ∧ 0 ≤ n ∧ n ≤ 14)) : Calls Tryz.prog 18 #[.int .i64 h, .int .i64 n] w fun e w' => e = .returned (.bool false) ∧ w = w' := by
  by_cases q1 : 1 ≤ h ∧ h ≤ 10
  · have h1 := fun W => baHeight_yes h W q1
    have h2 := fun W => l1In_f n 0 14 W (fun q2 => q ⟨q1, q2⟩)
    clear q
    have H1 := Lib.hid h1; clear h1
    have H2 := Lib.hid h2; clear h2
    have Q1 := Lib.hid q1; clear q1
    go_enter Tryz.func18, Tryz.ntmps18
    go_wp2_with fail
    with_reducible refine ((H1.out _)).mono ?_
    rintro e w' ⟨rfl, rfl⟩
    go_wp2_with fail
    with_reducible refine ((H2.out _)).mono ?_
    rintro e w' ⟨rfl, rfl⟩
    go_wp2
    go_ret
    exact ⟨rfl, rfl⟩
  · have h1 := fun W => baHeight_no h W q1
    clear q
    have H1 := Lib.hid h1; clear h1
    have Q1 := Lib.hid q1; clear q1
    go_enter Tryz.func18, Tryz.ntmps18
    go_wp2_with fail
    with_reducible refine ((H1.out _)).mono ?_
    rintro e w' ⟨rfl, rfl⟩
    go_wp2
    go_ret
    exact ⟨rfl, rfl⟩
theorem spec_AllBanks (h n : Int) (w : World) :
    Calls Tryz.prog 13 #[.int .i64 h, .int .i64 n] w fun e w' => ∃ ao m cap, e = .returned (.tuple #[.slice ao m cap, .bool (mAllBanks h n).2]) ∧ BksOwn w.heap.size w'.heap.size w' ao m cap (mAllBanks h n).1 ∧ Below w.heap.size w w' := by
  by_cases q : (1 ≤ h ∧ h ≤ 10) ∧ 0 ≤ n ∧ n ≤ 14
  · obtain ⟨H, rfl⟩ := Int.eq_ofNat_of_zero_le (show 0 ≤ h by omega)
    obtain ⟨N, rfl⟩ := Int.eq_ofNat_of_zero_le q.2.1
    have h1 := fun W => baFew_yes (H : Int) N W q
    have h2 := fun W => baAll_any H N W (by omega) (by omega)
    have hm := mAllBanks_yes H N q
    clear q
    have H1 := Lib.hid h1; clear h1
    have H2 := Lib.hid h2; clear h2
    have Hm := Lib.hid hm; clear hm
    go_enter Tryz.func13, Tryz.ntmps13
    go_wp2_with fail
    with_reducible refine ((H1.out _)).mono ?_
    rintro e w' ⟨rfl, rfl⟩
    go_wp2_with fail
    with_reducible refine ((H2.out _)).mono ?_
    rintro e w' ⟨a, m, c, rfl, ho, hb⟩
    go_wp2
    go_ret2
    rw [Hm.out]
    exact ⟨_, _, _, rfl, ho, hb⟩
  · have h1 := fun W => baFew_no h n W q
    have hm := mAllBanks_no h n q
    clear q
    have H1 := Lib.hid h1; clear h1
    have Hm := Lib.hid hm; clear hm
    go_enter Tryz.func13, Tryz.ntmps13
    go_wp2_with fail
    with_reducible refine ((H1.out _)).mono ?_
    rintro e w' ⟨rfl, rfl⟩
    go_wp2
    go_ret2
    rw [Hm.out]
    exact ⟨none, 0, 0, rfl, BksOwn.nil _ _ _, Below.refl _ _⟩
end Go.Proofs.YtnebfojnbjbogaaGreatDoor
