/- Chapter 7: as many new piles as a bank makes. No condition but bounds. -/
import Derived.Test.YtbkihnejgcebpaaBaL
import Derived.Test.YtbkihnejgcebpaaBaN
import Derived.Test.YtbkihnejgcebpaaBaR
import Derived.OneCell
namespace Go.Proofs.Ytbkihnejgcebpaa
open Go.RowKit
set_option linter.unusedVariables false
set_option linter.unusedSimpArgs false
set_option maxRecDepth 20000

theorem divs (H C : Nat) : Int.tdiv (C : Int) (H : Int) = ((C / H : Nat) : Int) ∧ Int.tmod (C : Int) (H : Int) = ((C % H : Nat) : Int) := ⟨(Int.ofNat_tdiv _ _).symm, (Int.ofNat_tmod _ _).symm⟩
theorem divN (H C : Nat) (h1 : 1 ≤ H) (hC : C ≤ 28) : C / H ≤ 28 ∧ C % H ≤ 28 := ⟨Nat.le_trans (Nat.div_le_self _ _) hC, Nat.le_trans (Nat.mod_le _ _) hC⟩
set_option maxHeartbeats 1600000 in
theorem makePiles_any (H C : Nat) (ao : Option Addr) (n cap : Nat) (xs : List Int) (w : World) (hA : IntsAt w ao n cap xs) (h1 : 1 ≤ H ∧ H ≤ 10) (hC : C ≤ 28) (hn : n ≤ 28) :
    Calls Try.prog 61 #[.int .i64 H, .int .i64 C, .slice ao n cap] w fun e w' => ∃ ao' n' cap', e = .returned (.tuple #[.agg #[.int .i64 H, .int .i64 ((C % H : Nat) : Int), .slice ao' n' cap'], .int .i64 ((C / H : Nat) : Int)]) ∧ Own w.heap.size w'.heap.size w' ao' n' cap' (List.replicate (C / H) (H : Int) ++ xs) ∧ Below w.heap.size w w' := by
  obtain ⟨d1, d2⟩ := divs H C
  obtain ⟨b1, b2⟩ := divN H C h1.1 hC
  have hz : ((H : Int) == 0) = false := by simp; omega
  have hz2 : ¬ (H : Int) = 0 := by omega
  have hrep := fun g W => repeat_any (H : Int) (C / H) g W b1
  generalize C / H = q at *
  generalize C % H = r at *
  have hb1 := belowAlloc w (.cells #[.int .i64 0, .int .i64 0, .slice none 0 0] 33)
  have hb2 := belowTrans hb1 (belowAlloc _ (.cells #[.int .i64 (H : Int)] 3)) (Nat.le_refl _)
  have k1 := (Blk.new w 0 0 none 0 0 33).keep (belowAlloc _ (.cells #[.int .i64 (H : Int)] 3))
  have hc2 : ((w.alloc (.cells #[.int .i64 0, .int .i64 0, .slice none 0 0] 33)).alloc (.cells #[.int .i64 (H : Int)] 3)).cell? ⟨w.heap.size + 1, 0, none⟩ = some (.int .i64 (H : Int)) := by
    rw [World.cell?_alloc_at _ _ _ _ (by simp)]; rfl
  have hA2 := hA.keep hb2
  have hcon := (hrep (w.heap.size + 1) _ hc2 (by simp)).mono (R' := fun e w1 => ∃ a c, e = .returned (.slice a q c) ∧ Own (w.heap.size + 2) w1.heap.size w1 a q c (List.replicate q (H : Int)) ∧ Below w.heap.size w w1 ∧ Blk w1 w.heap.size 0 0 none 0 0 33 ∧ IntsAt w1 ao n cap xs ∧ w.heap.size + 2 ≤ w1.heap.size)
    (fun e w1 ⟨a, c, e1, e2, e3⟩ => ⟨a, c, e1, by simpa using e2, belowTrans hb2 e3 (Nat.le_refl _), k1.keep e3, hA2.keep e3, by simpa using e3.size⟩)
  clear hrep hb1 hb2 k1 hc2 hA2
  have Hcon := Lib.hid hcon; clear hcon
  go_enter Try.func61, Try.ntmps61
  go_wp2_with fail
  with_reducible refine (Hcon.out).mono ?_
  rintro e w1 ⟨a1, c1, rfl, ho1, hb1, k1, hA1, hs1⟩
  have Hb1 := Lib.hid hb1; clear hb1
  have K1 := Lib.hid k1; clear k1
  go_wp2_with (at_builtin; refine wpList_cat w1 rfl _ _ rfl (w.heap.size + 2) _ a1 q c1 _ rfl ho1 ao n cap xs rfl hA1 (by omega) (by omega) ?_)
  intro a2 c2 w2 ho2 hch
  have hb2 : Below (w.heap.size + 2) w1 w2 := ho1.chgBelow hch (by omega)
  have k2 : Blk w2 w.heap.size 0 0 none 0 0 33 := (hb2.block w.heap.size (by omega)).trans K1.out
  have hb3 := Hb1.out.trans (hb2.mono (by omega))
  obtain ⟨⟨x0, x1, x2⟩, y0, y1, y2⟩ := k2.cells
  have ho3 := (((ho2.offCell (R := w.heap.size) (by omega) 0 (.int .i64 (H : Int))).offCell (R := w.heap.size) (by omega) 1 (.int .i64 (r : Int))).offCell (R := w.heap.size) (by omega) 2 (.slice a2 (q + n) c2)).mono (show w.heap.size ≤ w.heap.size + 2 by omega) (Nat.le_refl _)
  have hb4 := ((hb3.setCell (p := ⟨w.heap.size, 0, none⟩) (Nat.le_refl _) (.int .i64 (H : Int))).setCell (p := ⟨w.heap.size, 1, none⟩) (Nat.le_refl _) (.int .i64 (r : Int))).setCell (p := ⟨w.heap.size, 2, none⟩) (Nat.le_refl _) (.slice a2 (q + n) c2)
  clear ho1 ho2 hch hb2 hb3 k2 hA1 K1 Hb1
  have Ho3 := Lib.hid ho3; clear ho3
  have Hb4 := Lib.hid hb4; clear hb4
  go_wp2
  refine bodyPost_ret (v := .tuple #[.agg #[.int .i64 H, .int .i64 (r : Int), .slice a2 (q + n) c2], .int .i64 (q : Int)]) ?_ rfl ⟨a2, q + n, c2, rfl, by have := Ho3.out; simpa using this, Hb4.out⟩
  rw [results_cell_tmp rfl]
  simp [go_sem, asAddr, Result.andThen, loadVar, *]

theorem Blk.set2 {w g h l a n c ty} (hh : Blk w g h l a n c ty) (a' : Option Addr) (n' c' : Nat) : Blk (w.setCell ⟨g, 2, none⟩ (.slice a' n' c')) g h l a' n' c' ty := by
  have := heap_setCell_same w g 2 _ _ (.slice a' n' c') hh
  unfold Blk
  rw [this]; rfl
theorem Blk.chg {S : Nat → Prop} {w w' g h l a n c ty} (hh : Blk w g h l a n c ty) (hc : Chg S w w') (hs : ¬ S g) : Blk w' g h l a n c ty := (hc.block g hh.size hs).trans hh

set_option maxHeartbeats 1600000 in
theorem baFill_any (H C : Nat) (ao : Option Addr) (n cap : Nat) (xs : List Int) (w : World) (hA : IntsAt w ao n cap xs) (h1 : 1 ≤ H ∧ H ≤ 10) (hC : C ≤ 28) (hn : n ≤ 28) :
    Calls Try.prog 63 #[.int .i64 H, .int .i64 C, .slice ao n cap] w fun e w' => ∃ ao' n' cap', e = .returned (.tuple #[.agg #[.int .i64 H, .int .i64 ((C % H : Nat) : Int), .slice ao' n' cap'], .int .i64 ((C / H : Nat) : Int)]) ∧ Own w.heap.size w'.heap.size w' ao' n' cap' (List.replicate (C / H) (H : Int) ++ xs) ∧ Below w.heap.size w w' := by
  obtain ⟨d1, d2⟩ := divs H C
  obtain ⟨b1, b2⟩ := divN H C h1.1 hC
  have hz : ((H : Int) == 0) = false := by simp; omega
  have hz2 : ¬ (H : Int) = 0 := by omega
  generalize C / H = q at *
  generalize C % H = r at *
  have hb1 := belowAlloc w (.cells #[.int .i64 0, .int .i64 0, .slice none 0 0] 33)
  have hbn := belowAlloc (w.alloc (.cells #[.int .i64 0, .int .i64 0, .slice none 0 0] 33)) (.cells #[.int .i64 (H : Int), .int .i64 (r : Int), .slice none 0 0] 33)
  have hb2 := belowTrans hb1 hbn (Nat.le_refl _)
  have k1 := (Blk.new w 0 0 none 0 0 33).keep hbn
  have m1 := Blk.new (w.alloc (.cells #[.int .i64 0, .int .i64 0, .slice none 0 0] 33)) (H : Int) (r : Int) none 0 0 33
  rw [show (w.alloc (.cells #[.int .i64 0, .int .i64 0, .slice none 0 0] 33)).heap.size = w.heap.size + 1 by simp] at m1
  have hA2 := hA
  have hs2 : ((w.alloc (.cells #[.int .i64 0, .int .i64 0, .slice none 0 0] 33)).alloc (.cells #[.int .i64 (H : Int), .int .i64 (r : Int), .slice none 0 0] 33)).heap.size = w.heap.size + 2 := by simp
  have hst : ∃ W, W = ((w.alloc (.cells #[.int .i64 0, .int .i64 0, .slice none 0 0] 33)).alloc (.cells #[.int .i64 (H : Int), .int .i64 (r : Int), .slice none 0 0] 33)) := ⟨_, rfl⟩
  clear hb1 hbn
  have Hb2 := Lib.hid hb2; clear hb2
  have K1 := Lib.hid k1; clear k1
  have M1 := Lib.hid m1; clear m1
  have HA2 := Lib.hid hA2; clear hA2
  have Hs2 := Lib.hid hs2; clear hs2
  go_enter Try.func63, Try.ntmps63
  go_wp2_with fail
  go_loopw [9] (fun x wr => ∃ (k : Nat) (a : Option Addr) (p c : Nat), k ≤ q ∧ x = .int .i64 k ∧ Hid (Blk wr w.heap.size 0 0 none 0 0 33) ∧ Hid (Blk wr (w.heap.size + 1) (H : Int) (r : Int) a p c 33) ∧ Own (w.heap.size + 2) wr.heap.size wr a p c (List.replicate k (H : Int)) ∧ Hid (Below w.heap.size w wr) ∧ w.heap.size + 2 ≤ wr.heap.size) (fun x _ => q - (intOf x).toNat)
  case atStart => exact ⟨0, none, 0, 0, Nat.zero_le _, rfl, K1, M1, Own.nil _ _ _, Hb2, by rw [Hs2.out]; exact Nat.le_refl _⟩
  case round =>
    obtain ⟨k, a, p, c, hkq, rfl, Kr, Mr, hor, Hbr, hsr⟩ := hrel
    clear K1 M1 Hb2 Hs2
    have hlp := hor.length
    rw [List.length_replicate] at hlp
    subst hlp
    have hge : ∀ g, (Value.slice a k c).ownBlock = some g → w.heap.size + 2 ≤ g := fun g hg => (hor.1.lt g hg).1
    obtain ⟨⟨x0, x1, x2⟩, y0, y1, y2⟩ := Mr.out.cells
    obtain ⟨⟨u0, u1, u2⟩, v0, v1, v2⟩ := Kr.out.cells
    by_cases hlt : k < q
    · have Hge := Lib.hid hge; clear hge
      go_wp2_with (at_builtin; refine wpList_push wr rfl _ _ rfl (w.heap.size + 2) _ a k c _ rfl hor (H : Int) rfl (by omega) hsr ?_)
      intro a4 c4 w4 ho4 hch
      have hns : ∀ g, g < w.heap.size + 2 → ¬ (Value.slice a k c).ownBlock = some g := fun g hg e => by have := Hge.out g e; omega
      have k4 := Kr.out.chg hch (hns _ (by omega))
      have m4 := Mr.out.chg hch (hns _ (by omega))
      have hb4 : Below (w.heap.size + 2) wr w4 := hor.chgBelow hch hsr
      have hb5 := (Hbr.out.trans (hb4.mono (by omega))).setCell (p := ⟨w.heap.size + 1, 2, none⟩) (by show w.heap.size ≤ w.heap.size + 1; omega) (.slice a4 (k + 1) c4)
      have hs4 : w.heap.size + 2 ≤ w4.heap.size := Nat.le_trans hsr hb4.size
      have m5 := m4.set2 a4 (k + 1) c4
      have k5 := k4.chg (chgCell w4 (w.heap.size + 1) 2 (.slice a4 (k + 1) c4)) (by omega)
      have ho5 := ho4.offCell (R := w.heap.size + 1) (by omega) 2 (.slice a4 (k + 1) c4)
      rw [← List.replicate_succ'] at ho5
      clear x0 x1 x2 y0 y1 y2 u0 u1 u2 v0 v1 v2 hor ho4 hch hb4 Kr Mr Hbr k4
      obtain ⟨⟨x0, x1, x2⟩, y0, y1, y2⟩ := m4.cells
      clear m4
      have Hb5 := Lib.hid hb5; clear hb5
      have M5 := Lib.hid m5; clear m5
      have K5 := Lib.hid k5; clear k5
      have Ho5 := Lib.hid ho5; clear ho5
      have Hns := Lib.hid hns; clear hns
      go_wp2
      go_roundw
      case rel => exact ⟨k + 1, a4, k + 1, c4, by omega, by go_num, K5, M5, by have := Ho5.out; simpa using this, Hb5, by simpa using hs4⟩
      case measure => simp [intOf]; omega
    · obtain rfl : k = q := by omega
      go_wp2_with (at_builtin; refine wpList_cat wr rfl _ _ rfl (w.heap.size + 2) _ a k c _ rfl hor ao n cap xs rfl (HA2.out.keep Hbr.out) (by omega) hsr ?_)
      intro a4 c4 w4 ho4 hch
      have hns : ∀ g, g < w.heap.size + 2 → ¬ (Value.slice a k c).ownBlock = some g := fun g hg e => by have := hge g e; omega
      have k4 := Kr.out.chg hch (hns _ (by omega))
      have m4 := Mr.out.chg hch (hns _ (by omega))
      have hb4 : Below (w.heap.size + 2) wr w4 := hor.chgBelow hch hsr
      have hb5 := (Hbr.out.trans (hb4.mono (by omega))).setCell (p := ⟨w.heap.size + 1, 2, none⟩) (by show w.heap.size ≤ w.heap.size + 1; omega) (.slice a4 (k + n) c4)
      have hs4 : w.heap.size + 2 ≤ w4.heap.size := Nat.le_trans hsr hb4.size
      have m5 := m4.set2 a4 (k + n) c4
      have k5 := k4.chg (chgCell w4 (w.heap.size + 1) 2 (.slice a4 (k + n) c4)) (by omega)
      have ho5 := ho4.offCell (R := w.heap.size + 1) (by omega) 2 (.slice a4 (k + n) c4)
      clear x0 x1 x2 y0 y1 y2 u0 u1 u2 v0 v1 v2 hor ho4 hch hb4 Kr Mr Hbr k4 hge
      obtain ⟨⟨x0, x1, x2⟩, y0, y1, y2⟩ := m4.cells
      clear m4
      obtain ⟨w5, hw5⟩ : ∃ w5, w5 = w4.setCell ⟨w.heap.size + 1, 2, none⟩ (.slice a4 (k + n) c4) := ⟨_, rfl⟩
      have Hb5 := Lib.hid hb5; clear hb5
      have M5 := Lib.hid m5; clear m5
      have K5 := Lib.hid k5; clear k5
      have Ho5 := Lib.hid ho5; clear ho5
      have Hns := Lib.hid hns; clear hns
      have Hw5 := Lib.hid hw5; clear hw5
      go_wp2_with fail
      rw [← Hw5.out]
      clear x0 x1 x2 y0 y1 y2
      have k6 : Blk w5 w.heap.size 0 0 none 0 0 33 := by rw [Hw5.out]; exact K5.out
      have m6 : Blk w5 (w.heap.size + 1) (H : Int) (r : Int) a4 (k + n) c4 33 := by rw [Hw5.out]; exact M5.out
      have ho6 : Own (w.heap.size + 2) w5.heap.size w5 a4 (k + n) c4 (List.replicate k (H : Int) ++ xs) := by rw [Hw5.out]; have := Ho5.out; simpa using this
      have hb6 : Below w.heap.size w w5 := by rw [Hw5.out]; exact Hb5.out
      have ho7 := (((ho6.offCell (R := w.heap.size) (by omega) 0 (.int .i64 (H : Int))).offCell (R := w.heap.size) (by omega) 1 (.int .i64 (r : Int))).offCell (R := w.heap.size) (by omega) 2 (.slice a4 (k + n) c4)).mono (show w.heap.size ≤ w.heap.size + 2 by omega) (Nat.le_refl _)
      have hb7 := (((hb6.setCell (p := ⟨w.heap.size, 0, none⟩) (Nat.le_refl _) (.int .i64 (H : Int))).setCell (p := ⟨w.heap.size, 1, none⟩) (Nat.le_refl _) (.int .i64 (r : Int))).setCell (p := ⟨w.heap.size, 2, none⟩) (Nat.le_refl _) (.slice a4 (k + n) c4)).drew
      clear Hw5 Hb5 M5 K5 Ho5 ho6 hb6
      obtain ⟨⟨x0, x1, x2⟩, y0, y1, y2⟩ := m6.cells
      obtain ⟨⟨u0, u1, u2⟩, v0, v1, v2⟩ := k6.cells
      clear m6 k6
      have Ho7 := Lib.hid ho7; clear ho7
      have Hb7 := Lib.hid hb7; clear hb7
      go_region
      all_goals
        go_wp2
        refine bodyPost_ret (v := .tuple #[.agg #[.int .i64 H, .int .i64 (r : Int), .slice a4 (k + n) c4], .int .i64 (k : Int)]) ?_ rfl ⟨a4, k + n, c4, rfl, by have := Ho7.out.drew; simpa using this, Hb7.out⟩
        rw [results_cell_tmp rfl]
        simp [go_sem, asAddr, Result.andThen, loadVar, *]
end Go.Proofs.Ytbkihnejgcebpaa
