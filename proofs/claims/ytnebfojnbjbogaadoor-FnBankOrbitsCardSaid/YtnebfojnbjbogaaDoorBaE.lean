/- Chapter 7: the bank state behind several steps. No condition. -/
import Derived.Test.YtnebfojnbjbogaaDoorBaK
namespace Go.Proofs.YtnebfojnbjbogaaDoor
open Go.RowKit
set_option linter.unusedVariables false
set_option linter.unusedSimpArgs false
set_option maxRecDepth 20000

set_option maxHeartbeats 1600000 in
theorem impl_BankSteps (h l : Int) (ao : Option Addr) (n cap : Nat) (xs : List Int) (K : Int) (w : World) (hA : IntsAt w ao n cap xs) :
    Calls Tryd.prog 10 #[.agg #[.int .i64 h, .int .i64 l, .slice ao n cap], .int .i64 K] w fun e w' => ∃ a m c, e = .returned (.tuple #[.agg #[.int .i64 (mBankSteps ⟨h, l, xs⟩ K).1.h, .int .i64 (mBankSteps ⟨h, l, xs⟩ K).1.l, .slice a m c], .bool (mBankSteps ⟨h, l, xs⟩ K).2]) ∧ Own w.heap.size w'.heap.size w' a m c (mBankSteps ⟨h, l, xs⟩ K).1.p ∧ Below w.heap.size w w' := by
  have hm := mBankSteps.eq_1 ⟨h, l, xs⟩ K
  obtain ⟨hb2, k1, m1⟩ := two w h l ao n cap
  have hA2 := hA.keep hb2
  have hgen : ∃ B : Bk, ∃ b : Bool, mBankSteps ⟨h, l, xs⟩ K = (B, b) ∧ Calls Tryd.prog 30 #[.agg #[.int .i64 h, .int .i64 l, .slice ao n cap], .int .i64 K] ((w.alloc (.cells #[.int .i64 h, .int .i64 l, .slice ao n cap] 26)).alloc (.cells #[.int .i64 0, .int .i64 0, .slice none 0 0] 26)) (fun e w1 => ∃ a m c a2 n2 c2, e = .returned (.tuple #[.agg #[.int .i64 B.h, .int .i64 B.l, .slice a m c], .slice a2 n2 c2, .bool b]) ∧ Own (w.heap.size + 2) w1.heap.size w1 a m c B.p ∧ Below w.heap.size w w1 ∧ Blk w1 (w.heap.size + 1) 0 0 none 0 0 26 ∧ w.heap.size + 2 ≤ w1.heap.size) := by
    by_cases hk : BankOk ⟨h, l, xs⟩ ∧ 0 ≤ K ∧ K ≤ 1000
    · obtain ⟨k, rfl⟩ := Int.eq_ofNat_of_zero_le hk.2.1
      refine ⟨_, _, by rw [hm, if_pos ⟨bankYes hk.1, hk.2⟩], ?_⟩
      exact (playBank_yes h l ao n cap xs k (by omega) _ hA2 hk.1).mono fun e w1 ⟨a, m, c, a2, c2, e1, e2, e3, e4⟩ => ⟨a, m, c, a2, k, c2, e1, by simpa using e2, belowTrans hb2 e4 (Nat.le_refl _), m1.keep e4, by simpa using e4.size⟩
    · refine ⟨_, _, by rw [hm, if_neg (fun q => hk ⟨bank_iff.1 q.1, q.2⟩)], ?_⟩
      exact (playBank_no h l ao n cap xs K _ hA2 hk).mono fun e w1 ⟨e1, e4⟩ => ⟨none, 0, 0, none, 0, 0, e1, Own.nil _ _ _, belowTrans hb2 e4 (Nat.le_refl _), m1.keep e4, by simpa using e4.size⟩
  obtain ⟨⟨h', l', p'⟩, b, e1, hcon⟩ := hgen
  rw [e1]
  simp only at hcon ⊢
  clear hm hb2 k1 m1 hA2 e1
  have Hcon := Lib.hid hcon; clear hcon
  go_enter Tryd.func10, Tryd.ntmps10
  go_wp2_with fail
  with_reducible refine (Hcon.out).mono ?_
  rintro e w1 ⟨a, m, c, a2, n2, c2, rfl, ho1, hb1, m1, hs1⟩
  have hbn := belowAlloc w1 (.cells #[.int .i64 h', .int .i64 l', .slice a m c] 26)
  obtain ⟨⟨u0, u1, u2⟩, v0, v1, v2⟩ := (m1.keep hbn).cells
  have ho3 := ((((ho1.keep hbn).offCell (R := w.heap.size + 1) (by omega) 0 (.int .i64 h')).offCell (R := w.heap.size + 1) (by omega) 1 (.int .i64 l')).offCell (R := w.heap.size + 1) (by omega) 2 (.slice a m c)).mono (show w.heap.size ≤ w.heap.size + 2 by omega) (show w1.heap.size ≤ w1.heap.size + 1 by omega)
  have hb3 := (((belowTrans hb1 hbn (by omega)).setCell (p := ⟨w.heap.size + 1, 0, none⟩) (by show w.heap.size ≤ w.heap.size + 1; omega) (.int .i64 h')).setCell (p := ⟨w.heap.size + 1, 1, none⟩) (by show w.heap.size ≤ w.heap.size + 1; omega) (.int .i64 l')).setCell (p := ⟨w.heap.size + 1, 2, none⟩) (by show w.heap.size ≤ w.heap.size + 1; omega) (.slice a m c)
  clear ho1 hb1 m1 hbn
  have Ho3 := Lib.hid ho3; clear ho3
  have Hb3 := Lib.hid hb3; clear hb3
  go_wp2
  refine bodyPost_ret (v := .tuple #[.agg #[.int .i64 h', .int .i64 l', .slice a m c], .bool b]) ?_ rfl ⟨a, m, c, rfl, by have := Ho3.out; simpa using this, by have := Hb3.out; simpa using this⟩
  rw [results_cell_tmp rfl]
  simp [go_sem, asAddr, Result.andThen, loadVar, *]
set_option maxHeartbeats 1600000 in
theorem baOwn_any (h l : Int) (ao : Option Addr) (n cap : Nat) (xs : List Int) (w : World) (hA : IntsAt w ao n cap xs) (hn : n ≤ 28) :
    Calls Tryd.prog 34 #[.agg #[.int .i64 h, .int .i64 l, .slice ao n cap]] w fun e w' => ∃ a c, e = .returned (.agg #[.int .i64 h, .int .i64 l, .slice a n c]) ∧ Own w.heap.size w'.heap.size w' a n c xs ∧ Below w.heap.size w w' := by
  obtain ⟨hb2, k1, m1⟩ := two w h l ao n cap
  obtain ⟨W, hW⟩ : ∃ W, W = ((w.alloc (.cells #[.int .i64 h, .int .i64 l, .slice ao n cap] 26)).alloc (.cells #[.int .i64 0, .int .i64 0, .slice none 0 0] 26)) := ⟨_, rfl⟩
  rw [← hW] at hb2 k1 m1
  have hsW : W.heap.size = w.heap.size + 2 := by rw [hW]; simp
  have hA2 := hA.keep hb2.drew
  have hcon := (l1Own_any ao n cap xs W.drew hA2 (by omega)).mono (R' := fun e w1 => ∃ a c, e = .returned (.slice a n c) ∧ Own (w.heap.size + 2) w1.heap.size w1 a n c xs ∧ Below w.heap.size w w1 ∧ Blk w1 w.heap.size h l ao n cap 26 ∧ Blk w1 (w.heap.size + 1) 0 0 none 0 0 26)
    (fun e w1 ⟨a, c, e1, e2, e3⟩ => ⟨a, c, e1, e2.mono (by show w.heap.size + 2 ≤ W.heap.size; omega) (Nat.le_refl _), belowTrans hb2.drew e3 (Nat.le_refl _), k1.drew.keep e3, m1.drew.keep e3⟩)
  obtain ⟨⟨x0, x1, x2⟩, y0, y1, y2⟩ := k1.cells
  obtain ⟨⟨u0, u1, u2⟩, v0, v1, v2⟩ := m1.cells
  clear hA hA2 hb2 k1 m1
  have Hcon := Lib.hid hcon; clear hcon
  have HW := Lib.hid hW; clear hW
  have HsW := Lib.hid hsW; clear hsW
  go_enter Tryd.func34, Tryd.ntmps34
  go_wp2_with fail
  rw [← HW.out]
  go_region_law (first | (go_simp; with_reducible refine (Hcon.out).mono ?_; rintro e w1 ⟨a1, c1, rfl, ho1, hb1, k1, m1⟩; obtain ⟨⟨p0, p1, p2⟩, q0, q1, q2⟩ := k1.cells; obtain ⟨⟨r0, r1, r2⟩, s0, s1, s2⟩ := m1.cells; clear k1 m1; have Ho1 := Lib.hid ho1; have Hb1 := Lib.hid hb1; clear ho1 hb1))
  all_goals
    have ho3 := (((Ho1.out.offCell (R := w.heap.size + 1) (by omega) 0 (.int .i64 h)).offCell (R := w.heap.size + 1) (by omega) 1 (.int .i64 l)).offCell (R := w.heap.size + 1) (by omega) 2 (.slice a1 n c1)).mono (show w.heap.size ≤ w.heap.size + 2 by omega) (Nat.le_refl _)
    have hb3 := ((Hb1.out.setCell (p := ⟨w.heap.size + 1, 0, none⟩) (by show w.heap.size ≤ w.heap.size + 1; omega) (.int .i64 h)).setCell (p := ⟨w.heap.size + 1, 1, none⟩) (by show w.heap.size ≤ w.heap.size + 1; omega) (.int .i64 l)).setCell (p := ⟨w.heap.size + 1, 2, none⟩) (by show w.heap.size ≤ w.heap.size + 1; omega) (.slice a1 n c1)
    clear x0 x1 x2 y0 y1 y2 u0 u1 u2 v0 v1 v2
    have Ho3 := Lib.hid ho3; clear ho3
    have Hb3 := Lib.hid hb3; clear hb3
    go_wp2
    refine bodyPost_ret (v := .agg #[.int .i64 h, .int .i64 l, .slice a1 n c1]) ?_ rfl ⟨a1, c1, rfl, by have := Ho3.out; simpa using this, by have := Hb3.out; simpa using this⟩
    rw [resCell rfl]
    simp [go_sem, asAddr, Result.andThen, loadVar, *]

set_option maxHeartbeats 1600000 in
theorem spec_BankSteps (h l : Int) (ao : Option Addr) (n cap : Nat) (xs : List Int) (K : Int) (w : World) (hA : IntsAt w ao n cap xs) :
    Calls Tryd.prog 17 #[.agg #[.int .i64 h, .int .i64 l, .slice ao n cap], .int .i64 K] w fun e w' => ∃ a m c, e = .returned (.tuple #[.agg #[.int .i64 (mBankSteps ⟨h, l, xs⟩ K).1.h, .int .i64 (mBankSteps ⟨h, l, xs⟩ K).1.l, .slice a m c], .bool (mBankSteps ⟨h, l, xs⟩ K).2]) ∧ Own w.heap.size w'.heap.size w' a m c (mBankSteps ⟨h, l, xs⟩ K).1.p ∧ Below w.heap.size w w' := by
  have hm := mBankSteps.eq_1 ⟨h, l, xs⟩ K
  obtain ⟨hb2, k1, m1⟩ := two w h l ao n cap
  have hA2 := hA.keep hb2
  have hcon := baGood_any h l ao n cap xs _ hA2
  unfold bankV at hcon
  by_cases hk : BankOk ⟨h, l, xs⟩
  · rw [bankYes hk] at hcon
    have hcon' := hcon.mono (R' := fun e w1 => e = .returned (.bool true) ∧ Below w.heap.size w w1 ∧ Blk w1 w.heap.size h l ao n cap 26 ∧ Blk w1 (w.heap.size + 1) 0 0 none 0 0 26 ∧ w.heap.size + 2 ≤ w1.heap.size)
      (fun e w1 ⟨e1, e2⟩ => ⟨e1, belowTrans hb2 e2 (Nat.le_refl _), k1.keep e2, m1.keep e2, by simpa using e2.size⟩)
    clear hcon hb2 hA2 k1 m1
    by_cases hK : 0 ≤ K ∧ K ≤ 1000
    · rw [if_pos ⟨bankYes hk, hK⟩] at hm
      have h2 := fun W => many_yes K W hK
      obtain ⟨k, rfl⟩ := Int.eq_ofNat_of_zero_le hK.1
      have hk1000 : k ≤ 1000 := by omega
      rw [hm]
      simp only [Int.toNat_natCast]
      have hn28 : n ≤ 28 := by have := hk.len; have := hA.length; simp only at *; omega
      have hown := fun W (hW : IntsAt W ao n cap xs) => baOwn_any h l ao n cap xs W hW hn28
      have hstep := fun i a m c W (hW : IntsAt W a m c (stepsB i ⟨h, l, xs⟩).p) => baStep_any (stepsB i ⟨h, l, xs⟩).h (stepsB i ⟨h, l, xs⟩).l a m c (stepsB i ⟨h, l, xs⟩).p W hW (steps_okB hk i)
      have hss := fun i => show stepB (stepsB i ⟨h, l, xs⟩) = stepsB (i + 1) ⟨h, l, xs⟩ from rfl
      clear hm
      have Hcon' := Lib.hid hcon'; clear hcon'
      have H2 := Lib.hid h2; clear h2
      have Hstep := Lib.hid hstep; clear hstep
      have Hss := Lib.hid hss; clear hss
      have Hown := Lib.hid hown; clear hown
      have HK := Lib.hid hK; clear hK
      have Hk := Lib.hid hk; clear hk
      go_enter Tryd.func17, Tryd.ntmps17
      go_wp2_with fail
      with_reducible refine (Hcon'.out).mono ?_
      rintro e w1 ⟨rfl, hb1, k1, m1, hs1⟩
      have hA1 := hA.keep hb1
      obtain ⟨⟨u0, u1, u2⟩, v0, v1, v2⟩ := k1.cells
      have Hb1 := Lib.hid hb1; clear hb1
      have K1 := Lib.hid k1; clear k1
      have M1 := Lib.hid m1; clear m1
      have HA1 := Lib.hid hA1; clear hA1
      go_wp2_with fail
      with_reducible refine (H2.out _).mono ?_
      rintro e w1' ⟨rfl, rfl⟩
      go_wp2_with fail
      with_reducible refine (Hown.out _ HA1.out).mono ?_
      rintro e w2 ⟨a2, c2, rfl, ho2, hb2⟩
      clear u0 u1 u2 v0 v1 v2
      have hs2 := hb2.size
      have hbn := belowAlloc w2 (.cells #[.int .i64 h, .int .i64 l, .slice a2 n c2] 26)
      have n3 := Blk.new w2 h l a2 n c2 26
      have m3 := (M1.out.keep hb2).keep hbn
      have ho3 := ((ho2.keep hbn).mono (show w.heap.size + 2 ≤ w1.heap.size from hs1) (show w2.heap.size ≤ w2.heap.size + 1 by omega))
      have hb3 := belowTrans (belowTrans Hb1.out hb2 (by omega)) hbn (by omega)
      clear ho2 hb2 hbn M1 HA1 K1 Hb1
      have N3 := Lib.hid n3; clear n3
      have M3 := Lib.hid m3; clear m3
      have Ho3 := Lib.hid ho3; clear ho3
      have Hb3 := Lib.hid hb3; clear hb3
      go_wp2_with fail
      go_loopw [1] (fun kv wr => ∃ (i : Nat) (a : Option Addr) (m c : Nat), i ≤ k ∧ kv = .int .i64 ((k - i : Nat) : Int) ∧ Hid (Blk wr w2.heap.size (stepsB i ⟨h, l, xs⟩).h (stepsB i ⟨h, l, xs⟩).l a m c 26) ∧ Hid (Blk wr (w.heap.size + 1) 0 0 none 0 0 26) ∧ Hid (Own (w.heap.size + 2) wr.heap.size wr a m c (stepsB i ⟨h, l, xs⟩).p) ∧ Hid (Below w.heap.size w wr) ∧ w2.heap.size + 1 ≤ wr.heap.size) (fun kv _ => (intOf kv).toNat)
      case atStart => exact ⟨0, a2, n, c2, Nat.zero_le _, rfl, N3, M3, Lib.hid (by have := Ho3.out; simp only [stepsB]; simpa using this), Hb3, by simp⟩
      case round =>
        obtain ⟨i, a, m, c, hik, rfl, Nr, Mr, Or, Hbr, hsr⟩ := hrel
        clear N3 M3 Ho3 Hb3
        obtain ⟨⟨u0, u1, u2⟩, v0, v1, v2⟩ := Nr.out.cells
        by_cases hlt : i < k
        · have hcon := Hstep.out i a m c wr Or.out.at
          rw [Hss.out i] at hcon
          generalize madeB (stepsB i ⟨h, l, xs⟩) = z at *
          generalize hB1 : stepsB i (⟨h, l, xs⟩ : Bk) = B1 at *
          obtain ⟨h1', l1', p1'⟩ := B1
          generalize hB2 : stepsB (i + 1) (⟨h, l, xs⟩ : Bk) = B2 at *
          obtain ⟨h2', l2', p2'⟩ := B2
          simp only at hcon u0 u1 u2
          have hpos : ((k - i : Nat) : Int) > 0 := by omega
          have hcast : ((k - (i + 1) : Nat) : Int) = ((k - i : Nat) : Int) - 1 := by omega
          have Hcon := Lib.hid hcon; clear hcon
          have HB1 := Lib.hid hB1; clear hB1
          have HB2 := Lib.hid hB2; clear hB2
          have Hcast := Lib.hid hcast; clear hcast
          go_wp2_with fail
          with_reducible refine (Hcon.out).mono ?_
          rintro e w4 ⟨a4, m4, c4, rfl, ho4, hb4⟩
          clear u0 u1 u2 v0 v1 v2
          have hs4 := hb4.size
          have hbn := belowAlloc w4 (.cells #[.int .i64 h2', .int .i64 l2', .slice a4 m4 c4] 26)
          have k5 := (Nr.out.keep hb4).keep hbn
          have m5 := (Mr.out.keep hb4).keep hbn
          obtain ⟨⟨u0, u1, u2⟩, v0, v1, v2⟩ := k5.cells
          have k6 := k5.set3 h2' l2' a4 m4 c4
          have m6 := ((m5.chg (chgCell _ w2.heap.size 0 (.int .i64 h2')) (by omega)).chg (chgCell _ w2.heap.size 1 (.int .i64 l2')) (by omega)).chg (chgCell _ w2.heap.size 2 (.slice a4 m4 c4)) (by omega)
          have ho6 := ((((ho4.keep hbn).offCell (R := w2.heap.size) (by omega) 0 (.int .i64 h2')).offCell (R := w2.heap.size) (by omega) 1 (.int .i64 l2')).offCell (R := w2.heap.size) (by omega) 2 (.slice a4 m4 c4)).mono (show w.heap.size + 2 ≤ wr.heap.size by omega) (show w4.heap.size ≤ w4.heap.size + 1 by omega)
          have hb6 := (((belowTrans (belowTrans Hbr.out hb4 (by omega)) hbn (by omega)).setCell (p := ⟨w2.heap.size, 0, none⟩) (by show w.heap.size ≤ w2.heap.size; omega) (.int .i64 h2')).setCell (p := ⟨w2.heap.size, 1, none⟩) (by show w.heap.size ≤ w2.heap.size; omega) (.int .i64 l2')).setCell (p := ⟨w2.heap.size, 2, none⟩) (by show w.heap.size ≤ w2.heap.size; omega) (.slice a4 m4 c4)
          have hs6 : w2.heap.size + 1 ≤ w4.heap.size + 1 := by omega
          clear hb4 hbn k5 m5 ho4 Nr Mr Or Hbr
          have K6 := Lib.hid k6; clear k6
          have M6 := Lib.hid m6; clear m6
          have Ho6 := Lib.hid ho6; clear ho6
          have Hb6 := Lib.hid hb6; clear hb6
          go_wp2
          go_roundw
          case rel => exact ⟨i + 1, a4, m4, c4, by omega, by rw [Hcast.out], by rw [HB2.out]; exact Lib.hid (by have := K6.out; simpa using this), Lib.hid (by have := M6.out; simpa using this), Lib.hid (by rw [HB2.out]; have := Ho6.out; simpa using this), Lib.hid (by have := Hb6.out; simpa using this), by simpa using hs6⟩
          case measure => simp [intOf]; omega
        · obtain rfl : i = k := by omega
          have hz0 : ((i - i : Nat) : Int) = 0 := by omega
          obtain ⟨⟨x0, x1, x2⟩, y0, y1, y2⟩ := Mr.out.cells
          have hor := Or.out
          have ho7 := (((hor.offCell (R := w.heap.size + 1) (by omega) 0 (.int .i64 (stepsB i ⟨h, l, xs⟩).h)).offCell (R := w.heap.size + 1) (by omega) 1 (.int .i64 (stepsB i ⟨h, l, xs⟩).l)).offCell (R := w.heap.size + 1) (by omega) 2 (.slice a m c)).mono (show w.heap.size ≤ w.heap.size + 2 by omega) (Nat.le_refl _)
          have hb7 := ((Hbr.out.setCell (p := ⟨w.heap.size + 1, 0, none⟩) (by show w.heap.size ≤ w.heap.size + 1; omega) (.int .i64 (stepsB i ⟨h, l, xs⟩).h)).setCell (p := ⟨w.heap.size + 1, 1, none⟩) (by show w.heap.size ≤ w.heap.size + 1; omega) (.int .i64 (stepsB i ⟨h, l, xs⟩).l)).setCell (p := ⟨w.heap.size + 1, 2, none⟩) (by show w.heap.size ≤ w.heap.size + 1; omega) (.slice a m c)
          clear hor Or Hbr Mr Nr
          have Ho7 := Lib.hid ho7; clear ho7
          have Hb7 := Lib.hid hb7; clear hb7
          rw [hz0]
          go_wp2
          refine bodyPost_ret (v := .tuple #[.agg #[.int .i64 (stepsB i ⟨h, l, xs⟩).h, .int .i64 (stepsB i ⟨h, l, xs⟩).l, .slice a m c], .bool true]) ?_ rfl ⟨a, m, c, rfl, by have := Ho7.out; simpa using this, by have := Hb7.out; simpa using this⟩
          rw [results_cell_tmp rfl]
          simp [go_sem, asAddr, Result.andThen, loadVar, *]
    · rw [if_neg (fun q => hK q.2)] at hm
      have h2 := fun W => many_no K W hK
      rw [hm]
      clear hm
      unfold noBk
      have Hcon' := Lib.hid hcon'; clear hcon'
      have H2 := Lib.hid h2; clear h2
      have HK := Lib.hid hK; clear hK
      have Hk := Lib.hid hk; clear hk
      go_enter Tryd.func17, Tryd.ntmps17
      go_wp2_with fail
      with_reducible refine (Hcon'.out).mono ?_
      rintro e w1 ⟨rfl, hb1, k1, m1, hs1⟩
      go_wp2_with fail
      with_reducible refine (H2.out _).mono ?_
      rintro e w1' ⟨rfl, rfl⟩
      obtain ⟨⟨u0, u1, u2⟩, v0, v1, v2⟩ := m1.cells
      have hb3 := ((hb1.setCell (p := ⟨w.heap.size + 1, 0, none⟩) (by show w.heap.size ≤ w.heap.size + 1; omega) (.int .i64 0)).setCell (p := ⟨w.heap.size + 1, 1, none⟩) (by show w.heap.size ≤ w.heap.size + 1; omega) (.int .i64 0)).setCell (p := ⟨w.heap.size + 1, 2, none⟩) (by show w.heap.size ≤ w.heap.size + 1; omega) (.slice none 0 0)
      clear hb1 m1
      have Hb3 := Lib.hid hb3; clear hb3
      go_wp2
      refine bodyPost_ret (v := .tuple #[.agg #[.int .i64 0, .int .i64 0, .slice none 0 0], .bool false]) ?_ rfl ⟨none, 0, 0, rfl, Own.nil _ _ _, by have := Hb3.out; simpa using this⟩
      rw [results_cell_tmp rfl]
      simp [go_sem, asAddr, Result.andThen, loadVar, *]
  · rw [if_neg (fun q => hk (bank_iff.1 q.1))] at hm
    rw [bankNo hk] at hcon
    have hcon' := hcon.mono (R' := fun e w1 => e = .returned (.bool false) ∧ Below w.heap.size w w1 ∧ Blk w1 (w.heap.size + 1) 0 0 none 0 0 26)
      (fun e w1 ⟨e1, e2⟩ => ⟨e1, belowTrans hb2 e2 (Nat.le_refl _), m1.keep e2⟩)
    rw [hm]
    clear hcon hb2 k1 m1 hA2 hm
    unfold noBk
    have Hcon' := Lib.hid hcon'; clear hcon'
    have Hk := Lib.hid hk; clear hk
    · go_enter Tryd.func17, Tryd.ntmps17
      go_wp2_with fail
      with_reducible refine (Hcon'.out).mono ?_
      rintro e w1 ⟨rfl, hb1, m1⟩
      obtain ⟨⟨u0, u1, u2⟩, v0, v1, v2⟩ := m1.cells
      have hb3 := ((hb1.setCell (p := ⟨w.heap.size + 1, 0, none⟩) (by show w.heap.size ≤ w.heap.size + 1; omega) (.int .i64 0)).setCell (p := ⟨w.heap.size + 1, 1, none⟩) (by show w.heap.size ≤ w.heap.size + 1; omega) (.int .i64 0)).setCell (p := ⟨w.heap.size + 1, 2, none⟩) (by show w.heap.size ≤ w.heap.size + 1; omega) (.slice none 0 0)
      clear hb1 m1
      have Hb3 := Lib.hid hb3; clear hb3
      go_wp2
      refine bodyPost_ret (v := .tuple #[.agg #[.int .i64 0, .int .i64 0, .slice none 0 0], .bool false]) ?_ rfl ⟨none, 0, 0, rfl, Own.nil _ _ _, by have := Hb3.out; simpa using this⟩
      rw [results_cell_tmp rfl]
      simp [go_sem, asAddr, Result.andThen, loadVar, *]
theorem mBankSteps_bound (b : Bk) (K : Int) : (mBankSteps b K).1.p.length ≤ 1048576 := by
  unfold mBankSteps
  split
  · next q => have := (steps_okB (bank_iff.1 q.1) K.toNat).len; show (stepsB K.toNat b).p.length ≤ _; omega
  · simp [noBk]
end Go.Proofs.YtnebfojnbjbogaaDoor
