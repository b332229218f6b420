/- The specification reads a bank state from a text. No condition but a bound on the length. -/
import Derived.Test.YtjaodhjiibdbdaaGreatDoorBtM
import Derived.Test.YtjaodhjiibdbdaaGreatDoorGj
namespace Go.Proofs.YtjaodhjiibdbdaaGreatDoor
open Go.RowKit
set_option linter.unusedVariables false
set_option linter.unusedSimpArgs false
set_option maxRecDepth 20000

theorem mPB_n {s : ByteArray} (h : (splitL 58 s.data.toList).length ≠ 3) : mParseBank s = (⟨0, 0, []⟩, false) := by
  unfold mParseBank
  rw [if_neg (fun q => h q.1)]
theorem mPB_3 {s : ByteArray} {W0 W1 W2 : List UInt8} (h : splitL 58 s.data.toList = [W0, W1, W2]) :
    mParseBank s = if (mParsePiles ⟨W2.toArray⟩).2 = true ∧ bankB ⟨readL W0, readL W1, (mParsePiles ⟨W2.toArray⟩).1⟩ = true ∧ bankL ⟨readL W0, readL W1, (mParsePiles ⟨W2.toArray⟩).1⟩ = s.data.toList then (⟨readL W0, readL W1, (mParsePiles ⟨W2.toArray⟩).1⟩, true) else (⟨0, 0, []⟩, false) := by
  unfold mParseBank bkO
  rw [h]
  simp
theorem row3 {B E : Nat} {w : World} {ao : Option Addr} {cap : Nat} {W0 W1 W2 : List UInt8} (h : OwnRow B E w 9 ao 3 cap (strVs [W0, W1, W2])) :
    ∃ g, ao = some ⟨g, 0, none⟩ ∧ g < w.heap.size ∧ ∀ w', Below w.heap.size w w' → w'.cell? ⟨g, 0, none⟩ = some (.string ⟨W0.toArray⟩) ∧ w'.cell? ⟨g, 1, none⟩ = some (.string ⟨W1.toArray⟩) ∧ w'.cell? ⟨g, 2, none⟩ = some (.string ⟨W2.toArray⟩) := by
  obtain ⟨g, rfl, hg, h0⟩ := h.strAt (k := 0) (by omega)
  refine ⟨g, rfl, hg, fun w' hb => ?_⟩
  have hk := h.keep hb
  obtain ⟨g0, e0, -, c0⟩ := hk.strAt (k := 0) (by omega)
  obtain ⟨g1, e1, -, c1⟩ := hk.strAt (k := 1) (by omega)
  obtain ⟨g2, e2, -, c2⟩ := hk.strAt (k := 2) (by omega)
  simp at e0 e1 e2
  subst e0 e1 e2
  exact ⟨c0, c1, c2⟩
theorem str_dataB (s : ByteArray) : (⟨(s.data.toList).toArray⟩ : ByteArray) = s := by apply ByteArray.ext; simp
theorem Own.drewB {B E w a n c zs} (h : Own B E w a n c zs) : Own B E w.drew a n c zs := h.chg (S := fun _ => False) ⟨rfl, rfl, rfl, Nat.le_refl _, fun _ _ _ => rfl⟩ (fun _ _ _ _ => id)
theorem zero3 {w wr : World} (h : Below w.heap.size w wr) : Below w.heap.size w (((wr.setCell ⟨w.heap.size, 0, none⟩ (.int .i64 0)).setCell ⟨w.heap.size, 1, none⟩ (.int .i64 0)).setCell ⟨w.heap.size, 2, none⟩ (.slice none 0 0)) :=
  ((h.setCell (p := ⟨w.heap.size, 0, none⟩) (Nat.le_refl _) (.int .i64 0)).setCell (p := ⟨w.heap.size, 1, none⟩) (Nat.le_refl _) (.int .i64 0)).setCell (p := ⟨w.heap.size, 2, none⟩) (Nat.le_refl _) (.slice none 0 0)
theorem put3 {w wr : World} (h : Below w.heap.size w wr) (x y : Int) (a : Option Addr) (n c : Nat) : Below w.heap.size w (((wr.setCell ⟨w.heap.size, 0, none⟩ (.int .i64 x)).setCell ⟨w.heap.size, 1, none⟩ (.int .i64 y)).setCell ⟨w.heap.size, 2, none⟩ (.slice a n c)) :=
  ((h.setCell (p := ⟨w.heap.size, 0, none⟩) (Nat.le_refl _) (.int .i64 x)).setCell (p := ⟨w.heap.size, 1, none⟩) (Nat.le_refl _) (.int .i64 y)).setCell (p := ⟨w.heap.size, 2, none⟩) (Nat.le_refl _) (.slice a n c)

set_option maxHeartbeats 3200000 in
set_option maxRecDepth 100000 in
theorem spec_PB_n (s : ByteArray) (w : World) (hs : s.size ≤ 1048576) (h3 : (splitL 58 s.data.toList).length ≠ 3) :
    Calls Tryz.prog 32 #[.string s] w fun e w' => ∃ a m c, e = .returned (.tuple #[.agg #[.int .i64 (mParseBank s).1.h, .int .i64 (mParseBank s).1.l, .slice a m c], .bool (mParseBank s).2]) ∧ Own w.heap.size w'.heap.size w' a m c (mParseBank s).1.p ∧ Below w.heap.size w w' := by
  have hb1 := belowAlloc w (.cells #[.int .i64 0, .int .i64 0, .slice none 0 0] 40)
  have k1 := Blk.new w 0 0 none 0 0 40
  have hsp := (l1Split_any s 58 (w.alloc (.cells #[.int .i64 0, .int .i64 0, .slice none 0 0] 40)) hs).mono (R' := fun e w1 => ∃ ao n cap, e = .returned (.slice ao n cap) ∧ OwnRow (w.heap.size + 1) w1.heap.size w1 9 ao n cap (strVs (splitL 58 s.data.toList)) ∧ Below w.heap.size w w1 ∧ Blk w1 w.heap.size 0 0 none 0 0 40 ∧ w.heap.size + 1 ≤ w1.heap.size)
    (fun e w1 ⟨a, n, c, e1, e2, e3⟩ => ⟨a, n, c, e1, by simpa using e2, belowTrans hb1 e3 (Nat.le_refl _), k1.keep e3, by simpa using e3.size⟩)
  rw [show (((58 : UInt8).toNat : Nat) : Int) = 58 from rfl] at hsp
  have hm := mPB_n h3
  have hcl := splitL_le 58 s.data.toList
  have hsz : s.data.toList.length = s.size := rfl
  generalize splitL 58 s.data.toList = O at *
  clear hb1 k1
  have Hsp := Lib.hid hsp; clear hsp
  have H3 := Lib.hid h3; clear h3
  have Hm := Lib.hid hm; clear hm
  have Hcl := Lib.hid hcl; clear hcl
  go_enter Tryz.func32, Tryz.ntmps32
  go_wp2_with fail
  with_reducible refine (Hsp.out).mono ?_
  rintro e w1 ⟨a1, n1, c1, rfl, ho1, hb1, k1, hs1⟩
  have hn1 := ho1.length
  simp only [strVs, List.length_map] at hn1
  have hne : ((n1 : Int) == 3) = false := by have := H3.out; simp; omega
  have hne2 : ¬ (n1 : Int) = 3 := by have := H3.out; omega
  have hle : (n1 : Int) ≤ 1048577 := by have := Hcl.out; omega
  clear hn1 ho1
  have Hb1 := Lib.hid hb1; clear hb1
  have K1 := Lib.hid k1; clear k1
  obtain ⟨⟨u0, u1, u2⟩, v0, v1, v2⟩ := K1.out.cells
  have hbf := zero3 Hb1.out
  have Hbf := Lib.hid hbf; clear hbf
  go_wp2
  refine bodyPost_ret (v := .tuple #[.agg #[.int .i64 0, .int .i64 0, .slice none 0 0], .bool false]) ?_ rfl (by rw [Hm.out]; exact ⟨none, 0, 0, rfl, Own.nil _ _ _, by have := Hbf.out; simpa using this⟩)
  rw [results_cell_tmp rfl]
  simp [go_sem, asAddr, Result.andThen, loadVar, *]

end Go.Proofs.YtjaodhjiibdbdaaGreatDoor
