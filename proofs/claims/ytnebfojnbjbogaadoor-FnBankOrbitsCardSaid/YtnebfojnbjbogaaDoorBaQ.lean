/- Chapter 7: one step of a bank state. No condition. -/
import Derived.Test.YtnebfojnbjbogaaDoorBaP
namespace Go.Proofs.YtnebfojnbjbogaaDoor
open Go.RowKit
set_option linter.unusedVariables false
set_option linter.unusedSimpArgs false
set_option maxRecDepth 20000

theorem two (w : World) (h l : Int) (ao : Option Addr) (n cap : Nat) :
    Below w.heap.size w ((w.alloc (.cells #[.int .i64 h, .int .i64 l, .slice ao n cap] 26)).alloc (.cells #[.int .i64 0, .int .i64 0, .slice none 0 0] 26)) ∧
    Blk ((w.alloc (.cells #[.int .i64 h, .int .i64 l, .slice ao n cap] 26)).alloc (.cells #[.int .i64 0, .int .i64 0, .slice none 0 0] 26)) w.heap.size h l ao n cap 26 ∧
    Blk ((w.alloc (.cells #[.int .i64 h, .int .i64 l, .slice ao n cap] 26)).alloc (.cells #[.int .i64 0, .int .i64 0, .slice none 0 0] 26)) (w.heap.size + 1) 0 0 none 0 0 26 := by
  have hb1 := belowAlloc w (.cells #[.int .i64 h, .int .i64 l, .slice ao n cap] 26)
  have hbn := belowAlloc (w.alloc (.cells #[.int .i64 h, .int .i64 l, .slice ao n cap] 26)) (.cells #[.int .i64 0, .int .i64 0, .slice none 0 0] 26)
  have m1 := Blk.new (w.alloc (.cells #[.int .i64 h, .int .i64 l, .slice ao n cap] 26)) 0 0 none 0 0 26
  rw [show (w.alloc (.cells #[.int .i64 h, .int .i64 l, .slice ao n cap] 26)).heap.size = w.heap.size + 1 by simp] at m1
  exact ⟨belowTrans hb1 hbn (Nat.le_refl _), (Blk.new w h l ao n cap 26).keep hbn, m1⟩

set_option maxHeartbeats 1600000 in
theorem playBank_no (h l : Int) (ao : Option Addr) (n cap : Nat) (xs : List Int) (K : Int) (w : World) (hA : IntsAt w ao n cap xs) (hk : ¬ (BankOk ⟨h, l, xs⟩ ∧ 0 ≤ K ∧ K ≤ 1000)) :
    Calls Tryd.prog 30 #[.agg #[.int .i64 h, .int .i64 l, .slice ao n cap], .int .i64 K] w fun e w' => e = .returned (.tuple #[.agg #[.int .i64 0, .int .i64 0, .slice none 0 0], .slice none 0 0, .bool false]) ∧ Below w.heap.size w w' := by
  obtain ⟨hb2, k1, m1⟩ := two w h l ao n cap
  have hA2 := hA.keep hb2
  have hcon := isBank_any h l ao n cap xs _ hA2
  unfold bankV at hcon
  by_cases hB : BankOk ⟨h, l, xs⟩
  · have hK : ¬ (0 ≤ K ∧ K ≤ 1000) := fun q => hk ⟨hB, q⟩
    rw [bankYes hB] at hcon
    have hin := fun W => inRange_no K 1000 W hK
    have hcon' := hcon.mono (R' := fun e w1 => e = .returned (.bool true) ∧ Below w.heap.size w w1 ∧ Blk w1 (w.heap.size + 1) 0 0 none 0 0 26)
      (fun e w1 ⟨e1, e2⟩ => ⟨e1, belowTrans hb2 e2 (Nat.le_refl _), m1.keep e2⟩)
    clear hcon hb2 k1 m1 hA2 hk hB
    have Hcon' := Lib.hid hcon'; clear hcon'
    have Hin := Lib.hid hin; clear hin
    have HK := Lib.hid hK; clear hK
    go_enter Tryd.func30, Tryd.ntmps30
    go_wp2_with fail
    with_reducible refine (Hcon'.out).mono ?_
    rintro e w1 ⟨rfl, hb1, m1⟩
    go_wp2_with fail
    with_reducible refine (Hin.out _).mono ?_
    rintro e w1' ⟨rfl, rfl⟩
    obtain ⟨⟨u0, u1, u2⟩, v0, v1, v2⟩ := m1.cells
    have hb3 := ((hb1.setCell (p := ⟨w.heap.size + 1, 0, none⟩) (by show w.heap.size ≤ w.heap.size + 1; omega) (.int .i64 0)).setCell (p := ⟨w.heap.size + 1, 1, none⟩) (by show w.heap.size ≤ w.heap.size + 1; omega) (.int .i64 0)).setCell (p := ⟨w.heap.size + 1, 2, none⟩) (by show w.heap.size ≤ w.heap.size + 1; omega) (.slice none 0 0)
    clear hb1 m1
    have Hb3 := Lib.hid hb3; clear hb3
    go_wp2
    refine bodyPost_ret (v := .tuple #[.agg #[.int .i64 0, .int .i64 0, .slice none 0 0], .slice none 0 0, .bool false]) ?_ rfl ⟨rfl, by have := Hb3.out; simpa using this⟩
    rw [resCell3 rfl]
    simp [go_sem, asAddr, Result.andThen, loadVar, *]
  · rw [bankNo hB] at hcon
    have hcon' := hcon.mono (R' := fun e w1 => e = .returned (.bool false) ∧ Below w.heap.size w w1 ∧ Blk w1 (w.heap.size + 1) 0 0 none 0 0 26)
      (fun e w1 ⟨e1, e2⟩ => ⟨e1, belowTrans hb2 e2 (Nat.le_refl _), m1.keep e2⟩)
    clear hcon hb2 k1 m1 hA2 hk hB
    have Hcon' := Lib.hid hcon'; clear hcon'
    go_enter Tryd.func30, Tryd.ntmps30
    go_wp2_with fail
    with_reducible refine (Hcon'.out).mono ?_
    rintro e w1 ⟨rfl, hb1, m1⟩
    obtain ⟨⟨u0, u1, u2⟩, v0, v1, v2⟩ := m1.cells
    have hb3 := ((hb1.setCell (p := ⟨w.heap.size + 1, 0, none⟩) (by show w.heap.size ≤ w.heap.size + 1; omega) (.int .i64 0)).setCell (p := ⟨w.heap.size + 1, 1, none⟩) (by show w.heap.size ≤ w.heap.size + 1; omega) (.int .i64 0)).setCell (p := ⟨w.heap.size + 1, 2, none⟩) (by show w.heap.size ≤ w.heap.size + 1; omega) (.slice none 0 0)
    clear hb1 m1
    have Hb3 := Lib.hid hb3; clear hb3
    go_wp2
    refine bodyPost_ret (v := .tuple #[.agg #[.int .i64 0, .int .i64 0, .slice none 0 0], .slice none 0 0, .bool false]) ?_ rfl ⟨rfl, by have := Hb3.out; simpa using this⟩
    rw [resCell3 rfl]
    simp [go_sem, asAddr, Result.andThen, loadVar, *]

set_option maxHeartbeats 1600000 in
theorem impl_StepBank (h l : Int) (ao : Option Addr) (n cap : Nat) (xs : List Int) (w : World) (hA : IntsAt w ao n cap xs) :
    Calls Tryd.prog 13 #[.agg #[.int .i64 h, .int .i64 l, .slice ao n cap]] w fun e w' => ∃ a m c, e = .returned (.tuple #[.agg #[.int .i64 (mStepBank ⟨h, l, xs⟩).1.h, .int .i64 (mStepBank ⟨h, l, xs⟩).1.l, .slice a m c], .int .i64 (mStepBank ⟨h, l, xs⟩).2.1, .bool (mStepBank ⟨h, l, xs⟩).2.2]) ∧ Own w.heap.size w'.heap.size w' a m c (mStepBank ⟨h, l, xs⟩).1.p ∧ Below w.heap.size w w' := by
  have hm := mStepBank.eq_1 ⟨h, l, xs⟩
  obtain ⟨hb2, k1, m1⟩ := two w h l ao n cap
  have hA2 := hA.keep hb2
  by_cases hk : BankOk ⟨h, l, xs⟩
  · rw [if_pos (bankYes hk)] at hm
    have hcon := playBank_yes h l ao n cap xs 1 (by omega) _ hA2 hk
    have e1 : stepsB 1 ⟨h, l, xs⟩ = stepB ⟨h, l, xs⟩ := rfl
    have e2 : newL ⟨h, l, xs⟩ 1 = [madeB ⟨h, l, xs⟩] := rfl
    rw [e1, e2] at hcon
    rw [hm]
    generalize madeB ⟨h, l, xs⟩ = z at *
    generalize stepB ⟨h, l, xs⟩ = B1 at *
    obtain ⟨h', l', p'⟩ := B1
    simp only at hcon ⊢
    have hcon' : Calls Tryd.prog 30 #[.agg #[.int .i64 h, .int .i64 l, .slice ao n cap], .int .i64 1] _ (fun e w1 => ∃ a m c g c2, e = .returned (.tuple #[.agg #[.int .i64 h', .int .i64 l', .slice a m c], .slice (some ⟨g, 0, none⟩) 1 c2, .bool true]) ∧ Own (w.heap.size + 2) w1.heap.size w1 a m c p' ∧ Below w.heap.size w w1 ∧ Blk w1 (w.heap.size + 1) 0 0 none 0 0 26 ∧ w1.cell? ⟨g, 0, none⟩ = some (.int .i64 z) ∧ g < w1.heap.size ∧ w.heap.size + 2 ≤ g ∧ w.heap.size + 2 ≤ w1.heap.size) :=
      hcon.mono (fun e w1 ⟨a, m, c, a2, c2, e1, e2, e3, e4⟩ => by
        rcases e3.cases with ⟨q1, q2, _⟩ | ⟨g, rfl, q3, q4, q5⟩
        · omega
        · exact ⟨a, m, c, g, c2, e1, by simpa using e2, belowTrans hb2 e4 (Nat.le_refl _), m1.keep e4, getD_cells e3 0 (by omega), q5, by simpa using q3, by simpa using e4.size⟩)
    clear hcon hb2 k1 m1 hA2 hm hk e1 e2
    have Hcon' := Lib.hid hcon'; clear hcon'
    go_enter Tryd.func13, Tryd.ntmps13
    go_wp2_with fail
    with_reducible refine (Hcon'.out).mono ?_
    rintro e w1 ⟨a, m, c, g, c2, rfl, ho1, hb1, m1, hcz, hg1, hg2, hs1⟩
    have hne1 : ¬ g = w.heap.size + 1 := by omega
    have hne2 : ¬ w.heap.size + 1 = g := by omega
    have hbn := belowAlloc w1 (.cells #[.int .i64 h', .int .i64 l', .slice a m c] 26)
    have n3 := Blk.new w1 h' l' a m c 26
    have m3 := m1.keep hbn
    have hcz3 : (w1.alloc (.cells #[.int .i64 h', .int .i64 l', .slice a m c] 26)).cell? ⟨g, 0, none⟩ = some (.int .i64 z) := by rw [hbn.cell (p := ⟨g, 0, none⟩) hg1]; exact hcz
    have hbb := belowTrans hb1 hbn (by omega)
    have hoo := ho1.keep hbn
    obtain ⟨w3, hw3⟩ : ∃ w3, w3 = w1.alloc (.cells #[.int .i64 h', .int .i64 l', .slice a m c] 26) := ⟨_, rfl⟩
    rw [← hw3] at n3 m3 hcz3 hbb hoo
    have hs3 : w3.heap.size = w1.heap.size + 1 := by rw [hw3]; simp
    obtain ⟨⟨u0, u1, u2⟩, v0, v1, v2⟩ := m3.cells
    obtain ⟨⟨x0, x1, x2⟩, y0, y1, y2⟩ := n3.cells
    have ho3 := (((hoo.offCell (R := w.heap.size + 1) (by omega) 0 (.int .i64 h')).offCell (R := w.heap.size + 1) (by omega) 1 (.int .i64 l')).offCell (R := w.heap.size + 1) (by omega) 2 (.slice a m c)).mono (show w.heap.size ≤ w.heap.size + 2 by omega) (show w1.heap.size ≤ w3.heap.size by omega)
    have hb3 := (((hbb.setCell (p := ⟨w.heap.size + 1, 0, none⟩) (by show w.heap.size ≤ w.heap.size + 1; omega) (.int .i64 h')).setCell (p := ⟨w.heap.size + 1, 1, none⟩) (by show w.heap.size ≤ w.heap.size + 1; omega) (.int .i64 l')).setCell (p := ⟨w.heap.size + 1, 2, none⟩) (by show w.heap.size ≤ w.heap.size + 1; omega) (.slice a m c)).drew
    clear ho1 hb1 m1 hcz hbn n3 m3 hbb hoo
    have Ho3 := Lib.hid ho3; clear ho3
    have Hb3 := Lib.hid hb3; clear hb3
    have Hw3 := Lib.hid hw3; clear hw3
    have Hs3 := Lib.hid hs3; clear hs3
    go_wp2_with fail
    rw [← Hw3.out]
    go_region
    all_goals
      go_wp2
      refine bodyPost_ret (v := .tuple #[.agg #[.int .i64 h', .int .i64 l', .slice a m c], .int .i64 z, .bool true]) ?_ rfl ⟨a, m, c, rfl, by have := Ho3.out.drew; simpa using this, by have := Hb3.out; simpa using this⟩
      rw [resCell3 rfl]
      simp [go_sem, asAddr, Result.andThen, loadVar, *]
  · rw [if_neg (by rw [bankNo hk]; simp)] at hm
    have hcon := playBank_no h l ao n cap xs 1 _ hA2 (fun q => hk q.1)
    have hcon' := hcon.mono (R' := fun e w1 => e = .returned (.tuple #[.agg #[.int .i64 0, .int .i64 0, .slice none 0 0], .slice none 0 0, .bool false]) ∧ Below w.heap.size w w1 ∧ Blk w1 (w.heap.size + 1) 0 0 none 0 0 26 ∧ w.heap.size + 2 ≤ w1.heap.size)
      (fun e w1 ⟨e1, e2⟩ => ⟨e1, belowTrans hb2 e2 (Nat.le_refl _), m1.keep e2, by simpa using e2.size⟩)
    rw [hm]
    clear hcon hb2 k1 m1 hA2 hm hk
    unfold noBk
    have Hcon' := Lib.hid hcon'; clear hcon'
    go_enter Tryd.func13, Tryd.ntmps13
    go_wp2_with fail
    with_reducible refine (Hcon'.out).mono ?_
    rintro e w1 ⟨rfl, hb1, m1, hs1⟩
    have hbn := belowAlloc w1 (.cells #[.int .i64 0, .int .i64 0, .slice none 0 0] 26)
    obtain ⟨⟨u0, u1, u2⟩, v0, v1, v2⟩ := (m1.keep hbn).cells
    have hb3 := (((belowTrans hb1 hbn (by omega)).setCell (p := ⟨w.heap.size + 1, 0, none⟩) (by show w.heap.size ≤ w.heap.size + 1; omega) (.int .i64 0)).setCell (p := ⟨w.heap.size + 1, 1, none⟩) (by show w.heap.size ≤ w.heap.size + 1; omega) (.int .i64 0)).setCell (p := ⟨w.heap.size + 1, 2, none⟩) (by show w.heap.size ≤ w.heap.size + 1; omega) (.slice none 0 0)
    clear hb1 m1 hbn
    have Hb3 := Lib.hid hb3; clear hb3
    go_wp2
    refine bodyPost_ret (v := .tuple #[.agg #[.int .i64 0, .int .i64 0, .slice none 0 0], .int .i64 0, .bool false]) ?_ rfl ⟨none, 0, 0, rfl, Own.nil _ _ _, by have := Hb3.out; simpa using this⟩
    rw [resCell3 rfl]
    simp [go_sem, asAddr, Result.andThen, loadVar, *]
theorem mStepBank_bound (b : Bk) : (mStepBank b).1.p.length ≤ 1048576 := by
  unfold mStepBank
  split
  · next q => have := (step_ok (bank_iff.1 q)).1.len; show (stepB b).p.length ≤ _; omega
  · simp [noBk]
end Go.Proofs.YtnebfojnbjbogaaDoor
