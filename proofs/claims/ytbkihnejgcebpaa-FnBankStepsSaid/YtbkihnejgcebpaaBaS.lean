/- Chapter 7: the bank state at the start. No condition. -/
import Derived.Test.YtbkihnejgcebpaaBaF
namespace Go.Proofs.Ytbkihnejgcebpaa
open Go.RowKit
set_option linter.unusedVariables false
set_option linter.unusedSimpArgs false
set_option maxRecDepth 20000

theorem fill_nat (H C : Nat) (xs : List Int) : fillB (H : Int) (C : Int) xs = ⟨(H : Int), ((C % H : Nat) : Int), List.replicate (C / H) (H : Int) ++ xs⟩ := by
  unfold fillB
  rw [← Int.natCast_ediv, ← Int.natCast_emod, Int.toNat_natCast]
set_option maxHeartbeats 1600000 in
theorem spec_StartBank (h n : Int) (w : World) :
    Calls Try.prog 31 #[.int .i64 h, .int .i64 n] w fun e w' => ∃ ao n' cap', e = .returned (.tuple #[.agg #[.int .i64 (mStartBank h n).1.h, .int .i64 (mStartBank h n).1.l, .slice ao n' cap'], .bool (mStartBank h n).2]) ∧ Own w.heap.size w'.heap.size w' ao n' cap' (mStartBank h n).1.p ∧ Below w.heap.size w w' := by
  have hm := mStartBank.eq_1 h n
  have hb1 := belowAlloc w (.cells #[.int .i64 0, .int .i64 0, .slice none 0 0] 33)
  have k1 := Blk.new w 0 0 none 0 0 33
  by_cases hh : 1 ≤ h ∧ h ≤ 10
  · by_cases hn : 0 ≤ n ∧ n ≤ 28
    · rw [if_pos ⟨hh, hn⟩] at hm
      obtain ⟨H, rfl⟩ := Int.eq_ofNat_of_zero_le (show 0 ≤ h by omega)
      obtain ⟨C, rfl⟩ := Int.eq_ofNat_of_zero_le hn.1
      rw [fill_nat, List.append_nil] at hm
      have h1 := fun W => baHeight_yes (H : Int) W hh
      have h2 := fun W => piCards_yes (C : Int) W hn
      have hcon := (baFill_any H C none 0 0 [] _ (IntsAt.nil (w.alloc (.cells #[.int .i64 0, .int .i64 0, .slice none 0 0] 33))) (by omega) (by omega) (by omega)).mono (R' := fun e w1 => ∃ a m c, e = .returned (.tuple #[.agg #[.int .i64 H, .int .i64 ((C % H : Nat) : Int), .slice a m c], .int .i64 ((C / H : Nat) : Int)]) ∧ Own (w.heap.size + 1) w1.heap.size w1 a m c (List.replicate (C / H) (H : Int)) ∧ Below w.heap.size w w1 ∧ Blk w1 w.heap.size 0 0 none 0 0 33 ∧ w.heap.size + 1 ≤ w1.heap.size)
        (fun e w1 ⟨a, m, c, e1, e2, e3⟩ => ⟨a, m, c, e1, by simpa using e2, belowTrans hb1 e3 (Nat.le_refl _), k1.keep e3, by simpa using e3.size⟩)
      clear hb1 k1
      generalize C / H = q at *
      generalize C % H = r at *
      rw [hm]
      clear hm
      have H1 := Lib.hid h1; clear h1
      have H2 := Lib.hid h2; clear h2
      have Hcon := Lib.hid hcon; clear hcon
      have Hh := Lib.hid hh; clear hh
      have Hn := Lib.hid hn; clear hn
      go_enter Try.func31, Try.ntmps31
      go_wp2_with fail
      with_reducible refine ((H1.out _)).mono ?_
      rintro e w' ⟨rfl, rfl⟩
      go_wp2_with fail
      with_reducible refine ((H2.out _)).mono ?_
      rintro e w' ⟨rfl, rfl⟩
      go_wp2_with fail
      with_reducible refine (Hcon.out).mono ?_
      rintro e w1 ⟨a, m, c, rfl, ho, hb, k, hs⟩
      have hbn := belowAlloc w1 (.cells #[.int .i64 (H : Int), .int .i64 (r : Int), .slice a m c] 33)
      obtain ⟨⟨u0, u1, u2⟩, v0, v1, v2⟩ := (k.keep hbn).cells
      have ho2 := ((((ho.keep hbn).offCell (R := w.heap.size) (by omega) 0 (.int .i64 (H : Int))).offCell (R := w.heap.size) (by omega) 1 (.int .i64 (r : Int))).offCell (R := w.heap.size) (by omega) 2 (.slice a m c)).mono (show w.heap.size ≤ w.heap.size + 1 by omega) (show w1.heap.size ≤ w1.heap.size + 1 by omega)
      have hb2 := (((belowTrans hb hbn (Nat.le_refl _)).setCell (p := ⟨w.heap.size, 0, none⟩) (Nat.le_refl _) (.int .i64 (H : Int))).setCell (p := ⟨w.heap.size, 1, none⟩) (Nat.le_refl _) (.int .i64 (r : Int))).setCell (p := ⟨w.heap.size, 2, none⟩) (Nat.le_refl _) (.slice a m c)
      clear ho hb k hbn
      have Ho2 := Lib.hid ho2; clear ho2
      have Hb2 := Lib.hid hb2; clear hb2
      go_wp2
      refine bodyPost_ret (v := .tuple #[.agg #[.int .i64 H, .int .i64 (r : Int), .slice a m c], .bool true]) ?_ rfl ⟨a, m, c, rfl, by have := Ho2.out; simpa using this, by have := Hb2.out; simpa using this⟩
      rw [results_cell_tmp rfl]
      simp [go_sem, asAddr, Result.andThen, loadVar, *]
    · rw [if_neg (fun h => hn h.2)] at hm
      have h1 := fun W => baHeight_yes h W hh
      have h2 := fun W => piCards_no n W hn
      obtain ⟨⟨u0, u1, u2⟩, v0, v1, v2⟩ := k1.cells
      clear k1 u0 u1 u2 v0 v1 v2
      rw [hm]
      clear hm
      have H1 := Lib.hid h1; clear h1
      have H2 := Lib.hid h2; clear h2
      have Hb1 := Lib.hid hb1; clear hb1
      have Hh := Lib.hid hh; clear hh
      have Hn := Lib.hid hn; clear hn
      go_enter Try.func31, Try.ntmps31
      go_wp2_with fail
      with_reducible refine ((H1.out _)).mono ?_
      rintro e w' ⟨rfl, rfl⟩
      go_wp2_with fail
      with_reducible refine ((H2.out _)).mono ?_
      rintro e w' ⟨rfl, rfl⟩
      go_wp2
      refine bodyPost_ret (v := .tuple #[.agg #[.int .i64 0, .int .i64 0, .slice none 0 0], .bool false]) ?_ rfl ⟨none, 0, 0, rfl, Own.nil _ _ _, Hb1.out⟩
      rw [results_cell_tmp rfl]
      simp [go_sem, asAddr, Result.andThen, loadVar, *]
  · rw [if_neg (fun q => hh q.1)] at hm
    have h1 := fun W => baHeight_no h W hh
    clear k1
    rw [hm]
    clear hm
    have H1 := Lib.hid h1; clear h1
    have Hb1 := Lib.hid hb1; clear hb1
    have Hh := Lib.hid hh; clear hh
    go_enter Try.func31, Try.ntmps31
    go_wp2_with fail
    with_reducible refine ((H1.out _)).mono ?_
    rintro e w' ⟨rfl, rfl⟩
    go_wp2
    refine bodyPost_ret (v := .tuple #[.agg #[.int .i64 0, .int .i64 0, .slice none 0 0], .bool false]) ?_ rfl ⟨none, 0, 0, rfl, Own.nil _ _ _, Hb1.out⟩
    rw [results_cell_tmp rfl]
    simp [go_sem, asAddr, Result.andThen, loadVar, *]
set_option maxHeartbeats 1600000 in
theorem impl_StartBank (h n : Int) (w : World) :
    Calls Try.prog 30 #[.int .i64 h, .int .i64 n] w fun e w' => ∃ ao n' cap', e = .returned (.tuple #[.agg #[.int .i64 (mStartBank h n).1.h, .int .i64 (mStartBank h n).1.l, .slice ao n' cap'], .bool (mStartBank h n).2]) ∧ Own w.heap.size w'.heap.size w' ao n' cap' (mStartBank h n).1.p ∧ Below w.heap.size w w' := by
  have hm := mStartBank.eq_1 h n
  have hb1 := belowAlloc w (.cells #[.int .i64 0, .int .i64 0, .slice none 0 0] 33)
  have k1 := Blk.new w 0 0 none 0 0 33
  by_cases hh : 1 ≤ h ∧ h ≤ 10
  · by_cases hn : 0 ≤ n ∧ n ≤ 28
    · rw [if_pos ⟨hh, hn⟩] at hm
      obtain ⟨H, rfl⟩ := Int.eq_ofNat_of_zero_le (show 0 ≤ h by omega)
      obtain ⟨C, rfl⟩ := Int.eq_ofNat_of_zero_le hn.1
      rw [fill_nat, List.append_nil] at hm
      have h1 := fun W => isHeight_yes (H : Int) W hh
      have h2 := fun W => inRange_yes (C : Int) 28 W hn
      have hcon := (makePiles_any H C none 0 0 [] _ (IntsAt.nil (w.alloc (.cells #[.int .i64 0, .int .i64 0, .slice none 0 0] 33))) (by omega) (by omega) (by omega)).mono (R' := fun e w1 => ∃ a m c, e = .returned (.tuple #[.agg #[.int .i64 H, .int .i64 ((C % H : Nat) : Int), .slice a m c], .int .i64 ((C / H : Nat) : Int)]) ∧ Own (w.heap.size + 1) w1.heap.size w1 a m c (List.replicate (C / H) (H : Int)) ∧ Below w.heap.size w w1 ∧ Blk w1 w.heap.size 0 0 none 0 0 33 ∧ w.heap.size + 1 ≤ w1.heap.size)
        (fun e w1 ⟨a, m, c, e1, e2, e3⟩ => ⟨a, m, c, e1, by simpa using e2, belowTrans hb1 e3 (Nat.le_refl _), k1.keep e3, by simpa using e3.size⟩)
      clear hb1 k1
      generalize C / H = q at *
      generalize C % H = r at *
      rw [hm]
      clear hm
      have H1 := Lib.hid h1; clear h1
      have H2 := Lib.hid h2; clear h2
      have Hcon := Lib.hid hcon; clear hcon
      have Hh := Lib.hid hh; clear hh
      have Hn := Lib.hid hn; clear hn
      go_enter Try.func30, Try.ntmps30
      go_wp2_with fail
      with_reducible refine ((H1.out _)).mono ?_
      rintro e w' ⟨rfl, rfl⟩
      go_wp2_with fail
      with_reducible refine ((H2.out _)).mono ?_
      rintro e w' ⟨rfl, rfl⟩
      go_wp2_with fail
      with_reducible refine (Hcon.out).mono ?_
      rintro e w1 ⟨a, m, c, rfl, ho, hb, k, hs⟩
      have hbn := belowAlloc w1 (.cells #[.int .i64 (H : Int), .int .i64 (r : Int), .slice a m c] 33)
      obtain ⟨⟨u0, u1, u2⟩, v0, v1, v2⟩ := (k.keep hbn).cells
      have ho2 := ((((ho.keep hbn).offCell (R := w.heap.size) (by omega) 0 (.int .i64 (H : Int))).offCell (R := w.heap.size) (by omega) 1 (.int .i64 (r : Int))).offCell (R := w.heap.size) (by omega) 2 (.slice a m c)).mono (show w.heap.size ≤ w.heap.size + 1 by omega) (show w1.heap.size ≤ w1.heap.size + 1 by omega)
      have hb2 := (((belowTrans hb hbn (Nat.le_refl _)).setCell (p := ⟨w.heap.size, 0, none⟩) (Nat.le_refl _) (.int .i64 (H : Int))).setCell (p := ⟨w.heap.size, 1, none⟩) (Nat.le_refl _) (.int .i64 (r : Int))).setCell (p := ⟨w.heap.size, 2, none⟩) (Nat.le_refl _) (.slice a m c)
      clear ho hb k hbn
      have Ho2 := Lib.hid ho2; clear ho2
      have Hb2 := Lib.hid hb2; clear hb2
      go_wp2
      refine bodyPost_ret (v := .tuple #[.agg #[.int .i64 H, .int .i64 (r : Int), .slice a m c], .bool true]) ?_ rfl ⟨a, m, c, rfl, by have := Ho2.out; simpa using this, by have := Hb2.out; simpa using this⟩
      rw [results_cell_tmp rfl]
      simp [go_sem, asAddr, Result.andThen, loadVar, *]
    · rw [if_neg (fun h => hn h.2)] at hm
      have h1 := fun W => isHeight_yes h W hh
      have h2 := fun W => inRange_no n 28 W hn
      obtain ⟨⟨u0, u1, u2⟩, v0, v1, v2⟩ := k1.cells
      clear k1 u0 u1 u2 v0 v1 v2
      rw [hm]
      clear hm
      have H1 := Lib.hid h1; clear h1
      have H2 := Lib.hid h2; clear h2
      have Hb1 := Lib.hid hb1; clear hb1
      have Hh := Lib.hid hh; clear hh
      have Hn := Lib.hid hn; clear hn
      go_enter Try.func30, Try.ntmps30
      go_wp2_with fail
      with_reducible refine ((H1.out _)).mono ?_
      rintro e w' ⟨rfl, rfl⟩
      go_wp2_with fail
      with_reducible refine ((H2.out _)).mono ?_
      rintro e w' ⟨rfl, rfl⟩
      go_wp2
      refine bodyPost_ret (v := .tuple #[.agg #[.int .i64 0, .int .i64 0, .slice none 0 0], .bool false]) ?_ rfl ⟨none, 0, 0, rfl, Own.nil _ _ _, Hb1.out⟩
      rw [results_cell_tmp rfl]
      simp [go_sem, asAddr, Result.andThen, loadVar, *]
  · rw [if_neg (fun q => hh q.1)] at hm
    have h1 := fun W => isHeight_no h W hh
    clear k1
    rw [hm]
    clear hm
    have H1 := Lib.hid h1; clear h1
    have Hb1 := Lib.hid hb1; clear hb1
    have Hh := Lib.hid hh; clear hh
    go_enter Try.func30, Try.ntmps30
    go_wp2_with fail
    with_reducible refine ((H1.out _)).mono ?_
    rintro e w' ⟨rfl, rfl⟩
    go_wp2
    refine bodyPost_ret (v := .tuple #[.agg #[.int .i64 0, .int .i64 0, .slice none 0 0], .bool false]) ?_ rfl ⟨none, 0, 0, rfl, Own.nil _ _ _, Hb1.out⟩
    rw [results_cell_tmp rfl]
    simp [go_sem, asAddr, Result.andThen, loadVar, *]
theorem mStartBank_bound (h n : Int) : (mStartBank h n).1.p.length ≤ 1048576 := by
  unfold mStartBank
  split
  · next q =>
    obtain ⟨H, rfl⟩ := Int.eq_ofNat_of_zero_le (show 0 ≤ h by omega)
    obtain ⟨C, rfl⟩ := Int.eq_ofNat_of_zero_le (show 0 ≤ n by omega)
    rw [fill_nat]
    have := Nat.div_le_self C H
    simp
    omega
  · simp [noBk]
end Go.Proofs.Ytbkihnejgcebpaa
