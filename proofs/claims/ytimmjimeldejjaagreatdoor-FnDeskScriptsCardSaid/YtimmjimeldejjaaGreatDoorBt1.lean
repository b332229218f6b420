/- Several texts in one: BtP, BtQ, BtR. No condition. -/
import Derived.Test.YtimmjimeldejjaaGreatDoorGu
import Derived.Test.YtimmjimeldejjaaGreatDoorGj
namespace Go.Proofs.YtimmjimeldejjaaGreatDoor
section
open Go.RowKit
set_option linter.unusedVariables false
set_option linter.unusedSimpArgs false
set_option maxRecDepth 20000

theorem mPB_n {s : ByteArray} (h : (splitL 58 s.data.toList).length ≠ 3) : mParseBank s = (⟨0, 0, []⟩, false) := by
  unfold mParseBank
  rw [if_neg (fun q => h q.1)]
theorem mPB_3 {s : ByteArray} {W0 W1 W2 : List UInt8} (h : splitL 58 s.data.toList = [W0, W1, W2]) :
    mParseBank s = if (mParsePiles ⟨W2.toArray⟩).2 = true ∧ bankB ⟨readL W0, readL W1, (mParsePiles ⟨W2.toArray⟩).1⟩ = true ∧ bankL ⟨readL W0, readL W1, (mParsePiles ⟨W2.toArray⟩).1⟩ = s.data.toList then (⟨readL W0, readL W1, (mParsePiles ⟨W2.toArray⟩).1⟩, true) else (⟨0, 0, []⟩, false) := by
  unfold mParseBank bkO
  rw [h]
  simp
theorem row3 {B E : Nat} {w : World} {ao : Option Addr} {cap : Nat} {W0 W1 W2 : List UInt8} (h : OwnRow B E w 9 ao 3 cap (strVs [W0, W1, W2])) :
    ∃ g, ao = some ⟨g, 0, none⟩ ∧ g < w.heap.size ∧ ∀ w', Below w.heap.size w w' → w'.cell? ⟨g, 0, none⟩ = some (.string ⟨W0.toArray⟩) ∧ w'.cell? ⟨g, 1, none⟩ = some (.string ⟨W1.toArray⟩) ∧ w'.cell? ⟨g, 2, none⟩ = some (.string ⟨W2.toArray⟩) := by
  obtain ⟨g, rfl, hg, h0⟩ := h.strAt (k := 0) (by omega)
  refine ⟨g, rfl, hg, fun w' hb => ?_⟩
  have hk := h.keep hb
  obtain ⟨g0, e0, -, c0⟩ := hk.strAt (k := 0) (by omega)
  obtain ⟨g1, e1, -, c1⟩ := hk.strAt (k := 1) (by omega)
  obtain ⟨g2, e2, -, c2⟩ := hk.strAt (k := 2) (by omega)
  simp at e0 e1 e2
  subst e0 e1 e2
  exact ⟨c0, c1, c2⟩
theorem str_dataB (s : ByteArray) : (⟨(s.data.toList).toArray⟩ : ByteArray) = s := by apply ByteArray.ext; simp
theorem Own.drewB {B E w a n c zs} (h : Own B E w a n c zs) : Own B E w.drew a n c zs := h.chg (S := fun _ => False) ⟨rfl, rfl, rfl, Nat.le_refl _, fun _ _ _ => rfl⟩ (fun _ _ _ _ => id)
theorem zero3 {w wr : World} (h : Below w.heap.size w wr) : Below w.heap.size w (((wr.setCell ⟨w.heap.size, 0, none⟩ (.int .i64 0)).setCell ⟨w.heap.size, 1, none⟩ (.int .i64 0)).setCell ⟨w.heap.size, 2, none⟩ (.slice none 0 0)) :=
  ((h.setCell (p := ⟨w.heap.size, 0, none⟩) (Nat.le_refl _) (.int .i64 0)).setCell (p := ⟨w.heap.size, 1, none⟩) (Nat.le_refl _) (.int .i64 0)).setCell (p := ⟨w.heap.size, 2, none⟩) (Nat.le_refl _) (.slice none 0 0)
theorem put3 {w wr : World} (h : Below w.heap.size w wr) (x y : Int) (a : Option Addr) (n c : Nat) : Below w.heap.size w (((wr.setCell ⟨w.heap.size, 0, none⟩ (.int .i64 x)).setCell ⟨w.heap.size, 1, none⟩ (.int .i64 y)).setCell ⟨w.heap.size, 2, none⟩ (.slice a n c)) :=
  ((h.setCell (p := ⟨w.heap.size, 0, none⟩) (Nat.le_refl _) (.int .i64 x)).setCell (p := ⟨w.heap.size, 1, none⟩) (Nat.le_refl _) (.int .i64 y)).setCell (p := ⟨w.heap.size, 2, none⟩) (Nat.le_refl _) (.slice a n c)

set_option maxHeartbeats 3200000 in
set_option maxRecDepth 100000 in
theorem spec_PB_n (s : ByteArray) (w : World) (hs : s.size ≤ 1048576) (h3 : (splitL 58 s.data.toList).length ≠ 3) :
    Calls Tryz.prog 125 #[.string s] w fun e w' => ∃ a m c, e = .returned (.tuple #[.agg #[.int .i64 (mParseBank s).1.h, .int .i64 (mParseBank s).1.l, .slice a m c], .bool (mParseBank s).2]) ∧ Own w.heap.size w'.heap.size w' a m c (mParseBank s).1.p ∧ Below w.heap.size w w' := by
  have hb1 := belowAlloc w (.cells #[.int .i64 0, .int .i64 0, .slice none 0 0] 84)
  have k1 := Blk.new w 0 0 none 0 0 84
  have hsp := (l1Split_any s 58 (w.alloc (.cells #[.int .i64 0, .int .i64 0, .slice none 0 0] 84)) hs).mono (R' := fun e w1 => ∃ ao n cap, e = .returned (.slice ao n cap) ∧ OwnRow (w.heap.size + 1) w1.heap.size w1 9 ao n cap (strVs (splitL 58 s.data.toList)) ∧ Below w.heap.size w w1 ∧ Blk w1 w.heap.size 0 0 none 0 0 84 ∧ w.heap.size + 1 ≤ w1.heap.size)
    (fun e w1 ⟨a, n, c, e1, e2, e3⟩ => ⟨a, n, c, e1, by simpa using e2, belowTrans hb1 e3 (Nat.le_refl _), k1.keep e3, by simpa using e3.size⟩)
  rw [show (((58 : UInt8).toNat : Nat) : Int) = 58 from rfl] at hsp
  have hm := mPB_n h3
  have hcl := splitL_le 58 s.data.toList
  have hsz : s.data.toList.length = s.size := rfl
  generalize splitL 58 s.data.toList = O at *
  clear hb1 k1
  have Hsp := Lib.hid hsp; clear hsp
  have H3 := Lib.hid h3; clear h3
  have Hm := Lib.hid hm; clear hm
  have Hcl := Lib.hid hcl; clear hcl
  go_enter Tryz.func125, Tryz.ntmps125
  go_wp2_with fail
  with_reducible refine (Hsp.out).mono ?_
  rintro e w1 ⟨a1, n1, c1, rfl, ho1, hb1, k1, hs1⟩
  have hn1 := ho1.length
  simp only [strVs, List.length_map] at hn1
  have hne : ((n1 : Int) == 3) = false := by have := H3.out; simp; omega
  have hne2 : ¬ (n1 : Int) = 3 := by have := H3.out; omega
  have hle : (n1 : Int) ≤ 1048577 := by have := Hcl.out; omega
  clear hn1 ho1
  have Hb1 := Lib.hid hb1; clear hb1
  have K1 := Lib.hid k1; clear k1
  obtain ⟨⟨u0, u1, u2⟩, v0, v1, v2⟩ := K1.out.cells
  have hbf := zero3 Hb1.out
  have Hbf := Lib.hid hbf; clear hbf
  go_wp2
  refine bodyPost_ret (v := .tuple #[.agg #[.int .i64 0, .int .i64 0, .slice none 0 0], .bool false]) ?_ rfl (by rw [Hm.out]; exact ⟨none, 0, 0, rfl, Own.nil _ _ _, by have := Hbf.out; simpa using this⟩)
  rw [results_cell_tmp rfl]
  simp [go_sem, asAddr, Result.andThen, loadVar, *]

end
end Go.Proofs.YtimmjimeldejjaaGreatDoor
namespace Go.Proofs.YtimmjimeldejjaaGreatDoor
section
open Go.RowKit
set_option linter.unusedVariables false
set_option linter.unusedSimpArgs false
set_option maxRecDepth 20000

set_option maxHeartbeats 3200000 in
set_option maxRecDepth 100000 in
theorem spec_PB_a (s : ByteArray) (w : World) (hs : s.size ≤ 1048576) {W0 W1 W2 : List UInt8} (h3 : splitL 58 s.data.toList = [W0, W1, W2]) (ho : (mParsePiles ⟨W2.toArray⟩).2 = false) :
    Calls Tryz.prog 125 #[.string s] w fun e w' => ∃ a m c, e = .returned (.tuple #[.agg #[.int .i64 (mParseBank s).1.h, .int .i64 (mParseBank s).1.l, .slice a m c], .bool (mParseBank s).2]) ∧ Own w.heap.size w'.heap.size w' a m c (mParseBank s).1.p ∧ Below w.heap.size w w' := by
  have hb1 := belowAlloc w (.cells #[.int .i64 0, .int .i64 0, .slice none 0 0] 84)
  have k1 := Blk.new w 0 0 none 0 0 84
  have hsp := (l1Split_any s 58 (w.alloc (.cells #[.int .i64 0, .int .i64 0, .slice none 0 0] 84)) hs).mono (R' := fun e w1 => ∃ ao n cap, e = .returned (.slice ao n cap) ∧ OwnRow (w.heap.size + 1) w1.heap.size w1 9 ao n cap (strVs (splitL 58 s.data.toList)) ∧ Below w.heap.size w w1 ∧ Blk w1 w.heap.size 0 0 none 0 0 84 ∧ w.heap.size + 1 ≤ w1.heap.size)
    (fun e w1 ⟨a, n, c, e1, e2, e3⟩ => ⟨a, n, c, e1, by simpa using e2, belowTrans hb1 e3 (Nat.le_refl _), k1.keep e3, by simpa using e3.size⟩)
  rw [show (((58 : UInt8).toNat : Nat) : Int) = 58 from rfl] at hsp
  have hwl := splitL_word_le 58 s.data.toList
  have hsz : s.data.toList.length = s.size := rfl
  have hm := mPB_3 h3
  rw [h3] at hsp hwl
  have z0 := hwl W0 (by simp)
  have z1 := hwl W1 (by simp)
  have z2 := hwl W2 (by simp)
  have e2 := fun W => spec_ParsePiles ⟨W2.toArray⟩ W (by show W2.toArray.size ≤ _; rw [List.size_toArray]; omega)
  have e0 := fun W => l1Read_any ⟨W0.toArray⟩ W (by show W0.toArray.size ≤ _; rw [List.size_toArray]; omega)
  have e1 := fun W => l1Read_any ⟨W1.toArray⟩ W (by show W1.toArray.size ≤ _; rw [List.size_toArray]; omega)
  simp only [List.toList_toArray] at e0 e1
  have hpb := mParsePiles_bound ⟨W2.toArray⟩
  rw [if_neg (fun q => by rw [ho] at q; exact absurd q.1 (by simp))] at hm
  rw [ho] at e2
  have hb0 := readL_bounds W0
  have hb9 := readL_bounds W1
  generalize readL W0 = r0 at *
  generalize readL W1 = r1 at *
  generalize (mParsePiles ⟨W2.toArray⟩).1 = p at *
  clear hb1 k1 ho h3 hsz z0 z1 z2 hwl
  have Hsp := Lib.hid hsp; clear hsp
  have Hm := Lib.hid hm; clear hm
  have E0 := Lib.hid e0; clear e0
  have E1 := Lib.hid e1; clear e1
  have E2 := Lib.hid e2; clear e2
  have Hpb := Lib.hid hpb; clear hpb
  go_enter Tryz.func125, Tryz.ntmps125
  go_wp2_with fail
  with_reducible refine (Hsp.out).mono ?_
  rintro e w1 ⟨a1, n1, c1, rfl, ho1, hb1, k1, hs1⟩
  obtain rfl : n1 = 3 := by have := ho1.length; simpa [strVs] using this.symm
  obtain ⟨g, rfl, hg1, hrow⟩ := row3 ho1
  obtain ⟨x0, x1, x2⟩ := hrow w1 (Below.refl _ _)
  clear ho1
  have Hb1 := Lib.hid hb1; clear hb1
  have K1 := Lib.hid k1; clear k1
  have Hrow := Lib.hid hrow; clear hrow
  go_wp2_with fail
  with_reducible refine (E2.out _).mono ?_
  rintro e w2 ⟨a2, n2, c2, rfl, ho2, hb2⟩
  have hs2 := hb2.size
  have hn2 : n2 ≤ 1048576 := by have := ho2.length; have := Hpb.out; omega
  clear x0 x1 x2
  obtain ⟨x0, x1, x2⟩ := Hrow.out w2 hb2
  obtain ⟨y0, y1, -⟩ := Hrow.out _ ((belowTrans hb2 (belowAlloc w2 (.cells #[.int .i64 0, .int .i64 0, .slice none 0 0] 84)) (by omega)).drew)
  have hbA := belowAlloc w2 (.cells #[.int .i64 r0, .int .i64 r1, .slice a2 n2 c2] 84)
  have bA := belowTrans (belowTrans Hb1.out hb2 (by omega)) hbA (by omega)
  have kA := (K1.out.keep hb2).keep hbA
  have mA := Blk.new w2 r0 r1 a2 n2 c2 84
  have oA := ho2.keep hbA
  have oB : IntsAt ((w2.alloc (.cells #[.int .i64 r0, .int .i64 r1, .slice a2 n2 c2] 84)).drew) a2 n2 c2 p := oA.at.drew'
  clear ho2 hb2 hbA
  have BA := Lib.hid bA; clear bA
  have KA := Lib.hid kA; clear kA
  have MA := Lib.hid mA; clear mA
  have OA := Lib.hid oA; clear oA
  have OB := Lib.hid oB; clear oB
  go_wp2_with fail
  go_region_law (first | (go_simp; with_reducible refine (E0.out w2.drew).mono ?_; rintro e w3 ⟨rfl, rfl⟩) | (go_simp; with_reducible refine (E1.out w2.drew).mono ?_; rintro e w3 ⟨rfl, rfl⟩) | (go_simp; with_reducible refine (E0.out (w2.alloc (.cells #[.int .i64 0, .int .i64 0, .slice none 0 0] 84)).drew).mono ?_; rintro e w3 ⟨rfl, rfl⟩) | (go_simp; with_reducible refine (E1.out (w2.alloc (.cells #[.int .i64 0, .int .i64 0, .slice none 0 0] 84)).drew).mono ?_; rintro e w3 ⟨rfl, rfl⟩))
  all_goals
    obtain ⟨⟨u0, u1, u2⟩, v0, v1, v2⟩ := KA.out.cells
    have hbf := (zero3 BA.out).drew
    have Hbf := Lib.hid hbf; clear hbf
    go_wp2
    refine bodyPost_ret (v := .tuple #[.agg #[.int .i64 0, .int .i64 0, .slice none 0 0], .bool false]) ?_ rfl (by rw [Hm.out]; exact ⟨none, 0, 0, rfl, Own.nil _ _ _, by have := Hbf.out; simpa using this⟩)
    rw [results_cell_tmp rfl]
    simp [go_sem, asAddr, Result.andThen, loadVar, *]

end
end Go.Proofs.YtimmjimeldejjaaGreatDoor
namespace Go.Proofs.YtimmjimeldejjaaGreatDoor
section
open Go.RowKit
set_option linter.unusedVariables false
set_option linter.unusedSimpArgs false
set_option maxRecDepth 20000

set_option maxHeartbeats 3200000 in
set_option maxRecDepth 100000 in
theorem spec_PB_b (s : ByteArray) (w : World) (hs : s.size ≤ 1048576) {W0 W1 W2 : List UInt8} (h3 : splitL 58 s.data.toList = [W0, W1, W2]) (ho : (mParsePiles ⟨W2.toArray⟩).2 = true) (hk : bankB ⟨readL W0, readL W1, (mParsePiles ⟨W2.toArray⟩).1⟩ = false) :
    Calls Tryz.prog 125 #[.string s] w fun e w' => ∃ a m c, e = .returned (.tuple #[.agg #[.int .i64 (mParseBank s).1.h, .int .i64 (mParseBank s).1.l, .slice a m c], .bool (mParseBank s).2]) ∧ Own w.heap.size w'.heap.size w' a m c (mParseBank s).1.p ∧ Below w.heap.size w w' := by
  have hb1 := belowAlloc w (.cells #[.int .i64 0, .int .i64 0, .slice none 0 0] 84)
  have k1 := Blk.new w 0 0 none 0 0 84
  have hsp := (l1Split_any s 58 (w.alloc (.cells #[.int .i64 0, .int .i64 0, .slice none 0 0] 84)) hs).mono (R' := fun e w1 => ∃ ao n cap, e = .returned (.slice ao n cap) ∧ OwnRow (w.heap.size + 1) w1.heap.size w1 9 ao n cap (strVs (splitL 58 s.data.toList)) ∧ Below w.heap.size w w1 ∧ Blk w1 w.heap.size 0 0 none 0 0 84 ∧ w.heap.size + 1 ≤ w1.heap.size)
    (fun e w1 ⟨a, n, c, e1, e2, e3⟩ => ⟨a, n, c, e1, by simpa using e2, belowTrans hb1 e3 (Nat.le_refl _), k1.keep e3, by simpa using e3.size⟩)
  rw [show (((58 : UInt8).toNat : Nat) : Int) = 58 from rfl] at hsp
  have hwl := splitL_word_le 58 s.data.toList
  have hsz : s.data.toList.length = s.size := rfl
  have hm := mPB_3 h3
  rw [h3] at hsp hwl
  have z0 := hwl W0 (by simp)
  have z1 := hwl W1 (by simp)
  have z2 := hwl W2 (by simp)
  have e2 := fun W => spec_ParsePiles ⟨W2.toArray⟩ W (by show W2.toArray.size ≤ _; rw [List.size_toArray]; omega)
  have e0 := fun W => l1Read_any ⟨W0.toArray⟩ W (by show W0.toArray.size ≤ _; rw [List.size_toArray]; omega)
  have e1 := fun W => l1Read_any ⟨W1.toArray⟩ W (by show W1.toArray.size ≤ _; rw [List.size_toArray]; omega)
  simp only [List.toList_toArray] at e0 e1
  have hpb := mParsePiles_bound ⟨W2.toArray⟩
  rw [if_neg (fun q => by rw [hk] at q; exact absurd q.2.1 (by simp))] at hm
  rw [ho] at e2
  have hg := fun a n c W (q : IntsAt W a n c (mParsePiles ⟨W2.toArray⟩).1) => baGood_any (readL W0) (readL W1) a n c (mParsePiles ⟨W2.toArray⟩).1 W q
  unfold bankV at hg
  rw [hk] at hg
  have hb0 := readL_bounds W0
  have hb9 := readL_bounds W1
  generalize readL W0 = r0 at *
  generalize readL W1 = r1 at *
  generalize (mParsePiles ⟨W2.toArray⟩).1 = p at *
  clear hb1 k1 ho h3 hsz z0 z1 z2 hwl hk
  have Hsp := Lib.hid hsp; clear hsp
  have Hm := Lib.hid hm; clear hm
  have E0 := Lib.hid e0; clear e0
  have E1 := Lib.hid e1; clear e1
  have E2 := Lib.hid e2; clear e2
  have Hpb := Lib.hid hpb; clear hpb
  have Hg := Lib.hid hg; clear hg
  go_enter Tryz.func125, Tryz.ntmps125
  go_wp2_with fail
  with_reducible refine (Hsp.out).mono ?_
  rintro e w1 ⟨a1, n1, c1, rfl, ho1, hb1, k1, hs1⟩
  obtain rfl : n1 = 3 := by have := ho1.length; simpa [strVs] using this.symm
  obtain ⟨g, rfl, hg1, hrow⟩ := row3 ho1
  obtain ⟨x0, x1, x2⟩ := hrow w1 (Below.refl _ _)
  clear ho1
  have Hb1 := Lib.hid hb1; clear hb1
  have K1 := Lib.hid k1; clear k1
  have Hrow := Lib.hid hrow; clear hrow
  go_wp2_with fail
  with_reducible refine (E2.out _).mono ?_
  rintro e w2 ⟨a2, n2, c2, rfl, ho2, hb2⟩
  have hs2 := hb2.size
  have hn2 : n2 ≤ 1048576 := by have := ho2.length; have := Hpb.out; omega
  clear x0 x1 x2
  obtain ⟨x0, x1, x2⟩ := Hrow.out w2 hb2
  obtain ⟨y0, y1, -⟩ := Hrow.out _ ((belowTrans hb2 (belowAlloc w2 (.cells #[.int .i64 0, .int .i64 0, .slice none 0 0] 84)) (by omega)).drew)
  have hbA := belowAlloc w2 (.cells #[.int .i64 r0, .int .i64 r1, .slice a2 n2 c2] 84)
  have bA := belowTrans (belowTrans Hb1.out hb2 (by omega)) hbA (by omega)
  have kA := (K1.out.keep hb2).keep hbA
  have mA := Blk.new w2 r0 r1 a2 n2 c2 84
  have oA := ho2.keep hbA
  have oB : IntsAt ((w2.alloc (.cells #[.int .i64 r0, .int .i64 r1, .slice a2 n2 c2] 84)).drew) a2 n2 c2 p := oA.at.drew'
  clear ho2 hb2 hbA
  have BA := Lib.hid bA; clear bA
  have KA := Lib.hid kA; clear kA
  have MA := Lib.hid mA; clear mA
  have OA := Lib.hid oA; clear oA
  have OB := Lib.hid oB; clear oB
  go_wp2_with fail
  go_region_law (first | (go_simp; with_reducible refine (E0.out w2.drew).mono ?_; rintro e w3 ⟨rfl, rfl⟩) | (go_simp; with_reducible refine (E1.out w2.drew).mono ?_; rintro e w3 ⟨rfl, rfl⟩) | (go_simp; with_reducible refine (E0.out (w2.alloc (.cells #[.int .i64 0, .int .i64 0, .slice none 0 0] 84)).drew).mono ?_; rintro e w3 ⟨rfl, rfl⟩) | (go_simp; with_reducible refine (E1.out (w2.alloc (.cells #[.int .i64 0, .int .i64 0, .slice none 0 0] 84)).drew).mono ?_; rintro e w3 ⟨rfl, rfl⟩))
  all_goals
    obtain ⟨⟨p0, p1, p2⟩, q0, q1, q2⟩ := MA.out.cells
    go_wp2_with fail
    with_reducible refine (Hg.out _ _ _ _ OB.out).mono ?_
    rintro e w4 ⟨rfl, hb4⟩
    have bG := belowTrans BA.out.drew hb4 (Nat.le_refl _)
    have kG := KA.out.drew.keep hb4
    have mG := MA.out.drew.keep hb4
    have oG := OB.out.keep hb4
    have wG := OA.out.drewB.keep hb4
    clear p0 p1 p2 q0 q1 q2 hb4
    clear oG mG wG
    have BG := Lib.hid bG; clear bG
    have KG := Lib.hid kG; clear kG
    obtain ⟨⟨u0, u1, u2⟩, v0, v1, v2⟩ := KG.out.cells
    have hbf := zero3 BG.out
    have Hbf := Lib.hid hbf; clear hbf
    go_wp2
    refine bodyPost_ret (v := .tuple #[.agg #[.int .i64 0, .int .i64 0, .slice none 0 0], .bool false]) ?_ rfl (by rw [Hm.out]; exact ⟨none, 0, 0, rfl, Own.nil _ _ _, by have := Hbf.out; simpa using this⟩)
    rw [results_cell_tmp rfl]
    simp [go_sem, asAddr, Result.andThen, loadVar, *]

end
end Go.Proofs.YtimmjimeldejjaaGreatDoor
