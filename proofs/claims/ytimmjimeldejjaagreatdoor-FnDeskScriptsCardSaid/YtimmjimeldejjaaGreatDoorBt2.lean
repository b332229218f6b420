/- Several texts in one: BtS, BtT, BtU, BtV. No condition. -/
import Derived.Test.YtimmjimeldejjaaGreatDoorBt1
import Derived.Test.YtimmjimeldejjaaGreatDoorGu
namespace Go.Proofs.YtimmjimeldejjaaGreatDoor
section
open Go.RowKit
set_option linter.unusedVariables false
set_option linter.unusedSimpArgs false
set_option maxRecDepth 20000

set_option maxHeartbeats 3200000 in
set_option maxRecDepth 100000 in
theorem spec_PB_c (s : ByteArray) (w : World) (hs : s.size ≤ 1048576) {W0 W1 W2 : List UInt8} (h3 : splitL 58 s.data.toList = [W0, W1, W2]) (ho : (mParsePiles ⟨W2.toArray⟩).2 = true) (hk : bankB ⟨readL W0, readL W1, (mParsePiles ⟨W2.toArray⟩).1⟩ = true) (ht : bankL ⟨readL W0, readL W1, (mParsePiles ⟨W2.toArray⟩).1⟩ ≠ s.data.toList) :
    Calls Tryz.prog 125 #[.string s] w fun e w' => ∃ a m c, e = .returned (.tuple #[.agg #[.int .i64 (mParseBank s).1.h, .int .i64 (mParseBank s).1.l, .slice a m c], .bool (mParseBank s).2]) ∧ Own w.heap.size w'.heap.size w' a m c (mParseBank s).1.p ∧ Below w.heap.size w w' := by
  have hb1 := belowAlloc w (.cells #[.int .i64 0, .int .i64 0, .slice none 0 0] 84)
  have k1 := Blk.new w 0 0 none 0 0 84
  have hsp := (l1Split_any s 58 (w.alloc (.cells #[.int .i64 0, .int .i64 0, .slice none 0 0] 84)) hs).mono (R' := fun e w1 => ∃ ao n cap, e = .returned (.slice ao n cap) ∧ OwnRow (w.heap.size + 1) w1.heap.size w1 9 ao n cap (strVs (splitL 58 s.data.toList)) ∧ Below w.heap.size w w1 ∧ Blk w1 w.heap.size 0 0 none 0 0 84 ∧ w.heap.size + 1 ≤ w1.heap.size)
    (fun e w1 ⟨a, n, c, e1, e2, e3⟩ => ⟨a, n, c, e1, by simpa using e2, belowTrans hb1 e3 (Nat.le_refl _), k1.keep e3, by simpa using e3.size⟩)
  rw [show (((58 : UInt8).toNat : Nat) : Int) = 58 from rfl] at hsp
  have hwl := splitL_word_le 58 s.data.toList
  have hsz : s.data.toList.length = s.size := rfl
  have hm := mPB_3 h3
  rw [h3] at hsp hwl
  have z0 := hwl W0 (by simp)
  have z1 := hwl W1 (by simp)
  have z2 := hwl W2 (by simp)
  have e2 := fun W => spec_ParsePiles ⟨W2.toArray⟩ W (by show W2.toArray.size ≤ _; rw [List.size_toArray]; omega)
  have e0 := fun W => l1Read_any ⟨W0.toArray⟩ W (by show W0.toArray.size ≤ _; rw [List.size_toArray]; omega)
  have e1 := fun W => l1Read_any ⟨W1.toArray⟩ W (by show W1.toArray.size ≤ _; rw [List.size_toArray]; omega)
  simp only [List.toList_toArray] at e0 e1
  have hpb := mParsePiles_bound ⟨W2.toArray⟩
  rw [if_neg (fun q => ht q.2.2)] at hm
  rw [ho] at e2
  have hg := fun a n c W (q : IntsAt W a n c (mParsePiles ⟨W2.toArray⟩).1) => baGood_any (readL W0) (readL W1) a n c (mParsePiles ⟨W2.toArray⟩).1 W q
  unfold bankV at hg
  rw [hk] at hg
  have htx := fun a n c W (q : IntsAt W a n c (mParsePiles ⟨W2.toArray⟩).1) => baText_any (readL W0) (readL W1) a n c (mParsePiles ⟨W2.toArray⟩).1 W q (bank_iff.1 hk)
  have hne1 : (s.toList == bankL ⟨readL W0, readL W1, (mParsePiles ⟨W2.toArray⟩).1⟩) = false := bytes_ne (Ne.symm ht)
  have hne2 : (bankL ⟨readL W0, readL W1, (mParsePiles ⟨W2.toArray⟩).1⟩ == s.toList) = false := by rw [BEq.comm]; exact hne1
  generalize bankL ⟨readL W0, readL W1, (mParsePiles ⟨W2.toArray⟩).1⟩ = T at *
  have hb0 := readL_bounds W0
  have hb9 := readL_bounds W1
  generalize readL W0 = r0 at *
  generalize readL W1 = r1 at *
  generalize (mParsePiles ⟨W2.toArray⟩).1 = p at *
  clear hb1 k1 ho h3 hsz z0 z1 z2 hwl hk ht
  have Hsp := Lib.hid hsp; clear hsp
  have Hm := Lib.hid hm; clear hm
  have E0 := Lib.hid e0; clear e0
  have E1 := Lib.hid e1; clear e1
  have E2 := Lib.hid e2; clear e2
  have Hpb := Lib.hid hpb; clear hpb
  have Hg := Lib.hid hg; clear hg
  have Htx := Lib.hid htx; clear htx
  go_enter Tryz.func125, Tryz.ntmps125
  go_wp2_with fail
  with_reducible refine (Hsp.out).mono ?_
  rintro e w1 ⟨a1, n1, c1, rfl, ho1, hb1, k1, hs1⟩
  obtain rfl : n1 = 3 := by have := ho1.length; simpa [strVs] using this.symm
  obtain ⟨g, rfl, hg1, hrow⟩ := row3 ho1
  obtain ⟨x0, x1, x2⟩ := hrow w1 (Below.refl _ _)
  clear ho1
  have Hb1 := Lib.hid hb1; clear hb1
  have K1 := Lib.hid k1; clear k1
  have Hrow := Lib.hid hrow; clear hrow
  go_wp2_with fail
  with_reducible refine (E2.out _).mono ?_
  rintro e w2 ⟨a2, n2, c2, rfl, ho2, hb2⟩
  have hs2 := hb2.size
  have hn2 : n2 ≤ 1048576 := by have := ho2.length; have := Hpb.out; omega
  clear x0 x1 x2
  obtain ⟨x0, x1, x2⟩ := Hrow.out w2 hb2
  obtain ⟨y0, y1, -⟩ := Hrow.out _ ((belowTrans hb2 (belowAlloc w2 (.cells #[.int .i64 0, .int .i64 0, .slice none 0 0] 84)) (by omega)).drew)
  have hbA := belowAlloc w2 (.cells #[.int .i64 r0, .int .i64 r1, .slice a2 n2 c2] 84)
  have bA := belowTrans (belowTrans Hb1.out hb2 (by omega)) hbA (by omega)
  have kA := (K1.out.keep hb2).keep hbA
  have mA := Blk.new w2 r0 r1 a2 n2 c2 84
  have oA := ho2.keep hbA
  have oB : IntsAt ((w2.alloc (.cells #[.int .i64 r0, .int .i64 r1, .slice a2 n2 c2] 84)).drew) a2 n2 c2 p := oA.at.drew'
  clear ho2 hb2 hbA
  have BA := Lib.hid bA; clear bA
  have KA := Lib.hid kA; clear kA
  have MA := Lib.hid mA; clear mA
  have OA := Lib.hid oA; clear oA
  have OB := Lib.hid oB; clear oB
  go_wp2_with fail
  go_region_law (first | (go_simp; with_reducible refine (E0.out w2.drew).mono ?_; rintro e w3 ⟨rfl, rfl⟩) | (go_simp; with_reducible refine (E1.out w2.drew).mono ?_; rintro e w3 ⟨rfl, rfl⟩) | (go_simp; with_reducible refine (E0.out (w2.alloc (.cells #[.int .i64 0, .int .i64 0, .slice none 0 0] 84)).drew).mono ?_; rintro e w3 ⟨rfl, rfl⟩) | (go_simp; with_reducible refine (E1.out (w2.alloc (.cells #[.int .i64 0, .int .i64 0, .slice none 0 0] 84)).drew).mono ?_; rintro e w3 ⟨rfl, rfl⟩))
  all_goals
    obtain ⟨⟨p0, p1, p2⟩, q0, q1, q2⟩ := MA.out.cells
    go_wp2_with fail
    with_reducible refine (Hg.out _ _ _ _ OB.out).mono ?_
    rintro e w4 ⟨rfl, hb4⟩
    have bG := belowTrans BA.out.drew hb4 (Nat.le_refl _)
    have kG := KA.out.drew.keep hb4
    have mG := MA.out.drew.keep hb4
    have oG := OB.out.keep hb4
    have wG := OA.out.drewB.keep hb4
    clear p0 p1 p2 q0 q1 q2 hb4
    obtain ⟨⟨p0, p1, p2⟩, q0, q1, q2⟩ := mG.cells
    have BG := Lib.hid bG; clear bG
    have KG := Lib.hid kG; clear kG
    have MG := Lib.hid mG; clear mG
    have OG := Lib.hid oG; clear oG
    have WG := Lib.hid wG; clear wG
    go_wp2_with fail
    with_reducible refine (Htx.out _ _ _ _ OG.out).mono ?_
    rintro e w5 ⟨rfl, hb5⟩
    have bT := belowTrans BG.out hb5 (Nat.le_refl _)
    have kT := KG.out.keep hb5
    have mT := MG.out.keep hb5
    have wT := WG.out.keep hb5
    have hs5 : w2.heap.size + 1 ≤ w5.heap.size := by have := MG.out.size; have := hb5.size; omega
    clear p0 p1 p2 q0 q1 q2 hb5
    clear mT wT
    have BT := Lib.hid bT; clear bT
    have KT := Lib.hid kT; clear kT
    obtain ⟨⟨u0, u1, u2⟩, v0, v1, v2⟩ := KT.out.cells
    have hbf := zero3 BT.out
    have Hbf := Lib.hid hbf; clear hbf
    go_wp2
    refine bodyPost_ret (v := .tuple #[.agg #[.int .i64 0, .int .i64 0, .slice none 0 0], .bool false]) ?_ rfl (by rw [Hm.out]; exact ⟨none, 0, 0, rfl, Own.nil _ _ _, by have := Hbf.out; simpa using this⟩)
    rw [results_cell_tmp rfl]
    simp [go_sem, asAddr, Result.andThen, loadVar, *]

end
end Go.Proofs.YtimmjimeldejjaaGreatDoor
namespace Go.Proofs.YtimmjimeldejjaaGreatDoor
section
open Go.RowKit
set_option linter.unusedVariables false
set_option linter.unusedSimpArgs false
set_option maxRecDepth 20000

set_option maxHeartbeats 3200000 in
set_option maxRecDepth 100000 in
theorem spec_PB_d (s : ByteArray) (w : World) (hs : s.size ≤ 1048576) {W0 W1 W2 : List UInt8} (h3 : splitL 58 s.data.toList = [W0, W1, W2]) (ho : (mParsePiles ⟨W2.toArray⟩).2 = true) (hk : bankB ⟨readL W0, readL W1, (mParsePiles ⟨W2.toArray⟩).1⟩ = true) (ht : bankL ⟨readL W0, readL W1, (mParsePiles ⟨W2.toArray⟩).1⟩ = s.data.toList) :
    Calls Tryz.prog 125 #[.string s] w fun e w' => ∃ a m c, e = .returned (.tuple #[.agg #[.int .i64 (mParseBank s).1.h, .int .i64 (mParseBank s).1.l, .slice a m c], .bool (mParseBank s).2]) ∧ Own w.heap.size w'.heap.size w' a m c (mParseBank s).1.p ∧ Below w.heap.size w w' := by
  have hb1 := belowAlloc w (.cells #[.int .i64 0, .int .i64 0, .slice none 0 0] 84)
  have k1 := Blk.new w 0 0 none 0 0 84
  have hsp := (l1Split_any s 58 (w.alloc (.cells #[.int .i64 0, .int .i64 0, .slice none 0 0] 84)) hs).mono (R' := fun e w1 => ∃ ao n cap, e = .returned (.slice ao n cap) ∧ OwnRow (w.heap.size + 1) w1.heap.size w1 9 ao n cap (strVs (splitL 58 s.data.toList)) ∧ Below w.heap.size w w1 ∧ Blk w1 w.heap.size 0 0 none 0 0 84 ∧ w.heap.size + 1 ≤ w1.heap.size)
    (fun e w1 ⟨a, n, c, e1, e2, e3⟩ => ⟨a, n, c, e1, by simpa using e2, belowTrans hb1 e3 (Nat.le_refl _), k1.keep e3, by simpa using e3.size⟩)
  rw [show (((58 : UInt8).toNat : Nat) : Int) = 58 from rfl] at hsp
  have hwl := splitL_word_le 58 s.data.toList
  have hsz : s.data.toList.length = s.size := rfl
  have hm := mPB_3 h3
  rw [h3] at hsp hwl
  have z0 := hwl W0 (by simp)
  have z1 := hwl W1 (by simp)
  have z2 := hwl W2 (by simp)
  have e2 := fun W => spec_ParsePiles ⟨W2.toArray⟩ W (by show W2.toArray.size ≤ _; rw [List.size_toArray]; omega)
  have e0 := fun W => l1Read_any ⟨W0.toArray⟩ W (by show W0.toArray.size ≤ _; rw [List.size_toArray]; omega)
  have e1 := fun W => l1Read_any ⟨W1.toArray⟩ W (by show W1.toArray.size ≤ _; rw [List.size_toArray]; omega)
  simp only [List.toList_toArray] at e0 e1
  have hpb := mParsePiles_bound ⟨W2.toArray⟩
  rw [if_pos ⟨ho, hk, ht⟩] at hm
  rw [ho] at e2
  have hg := fun a n c W (q : IntsAt W a n c (mParsePiles ⟨W2.toArray⟩).1) => baGood_any (readL W0) (readL W1) a n c (mParsePiles ⟨W2.toArray⟩).1 W q
  unfold bankV at hg
  rw [hk] at hg
  have htx := fun a n c W (q : IntsAt W a n c (mParsePiles ⟨W2.toArray⟩).1) => baText_any (readL W0) (readL W1) a n c (mParsePiles ⟨W2.toArray⟩).1 W q (bank_iff.1 hk)
  rw [ht, str_dataB s] at htx
  have hb0 := readL_bounds W0
  have hb9 := readL_bounds W1
  generalize readL W0 = r0 at *
  generalize readL W1 = r1 at *
  generalize (mParsePiles ⟨W2.toArray⟩).1 = p at *
  clear hb1 k1 ho h3 hsz z0 z1 z2 hwl hk ht
  have Hsp := Lib.hid hsp; clear hsp
  have Hm := Lib.hid hm; clear hm
  have E0 := Lib.hid e0; clear e0
  have E1 := Lib.hid e1; clear e1
  have E2 := Lib.hid e2; clear e2
  have Hpb := Lib.hid hpb; clear hpb
  have Hg := Lib.hid hg; clear hg
  have Htx := Lib.hid htx; clear htx
  go_enter Tryz.func125, Tryz.ntmps125
  go_wp2_with fail
  with_reducible refine (Hsp.out).mono ?_
  rintro e w1 ⟨a1, n1, c1, rfl, ho1, hb1, k1, hs1⟩
  obtain rfl : n1 = 3 := by have := ho1.length; simpa [strVs] using this.symm
  obtain ⟨g, rfl, hg1, hrow⟩ := row3 ho1
  obtain ⟨x0, x1, x2⟩ := hrow w1 (Below.refl _ _)
  clear ho1
  have Hb1 := Lib.hid hb1; clear hb1
  have K1 := Lib.hid k1; clear k1
  have Hrow := Lib.hid hrow; clear hrow
  go_wp2_with fail
  with_reducible refine (E2.out _).mono ?_
  rintro e w2 ⟨a2, n2, c2, rfl, ho2, hb2⟩
  have hs2 := hb2.size
  have hn2 : n2 ≤ 1048576 := by have := ho2.length; have := Hpb.out; omega
  clear x0 x1 x2
  obtain ⟨x0, x1, x2⟩ := Hrow.out w2 hb2
  obtain ⟨y0, y1, -⟩ := Hrow.out _ ((belowTrans hb2 (belowAlloc w2 (.cells #[.int .i64 0, .int .i64 0, .slice none 0 0] 84)) (by omega)).drew)
  have hbA := belowAlloc w2 (.cells #[.int .i64 r0, .int .i64 r1, .slice a2 n2 c2] 84)
  have bA := belowTrans (belowTrans Hb1.out hb2 (by omega)) hbA (by omega)
  have kA := (K1.out.keep hb2).keep hbA
  have mA := Blk.new w2 r0 r1 a2 n2 c2 84
  have oA := ho2.keep hbA
  have oB : IntsAt ((w2.alloc (.cells #[.int .i64 r0, .int .i64 r1, .slice a2 n2 c2] 84)).drew) a2 n2 c2 p := oA.at.drew'
  clear ho2 hb2 hbA
  have BA := Lib.hid bA; clear bA
  have KA := Lib.hid kA; clear kA
  have MA := Lib.hid mA; clear mA
  have OA := Lib.hid oA; clear oA
  have OB := Lib.hid oB; clear oB
  go_wp2_with fail
  go_region_law (first | (go_simp; with_reducible refine (E0.out w2.drew).mono ?_; rintro e w3 ⟨rfl, rfl⟩) | (go_simp; with_reducible refine (E1.out w2.drew).mono ?_; rintro e w3 ⟨rfl, rfl⟩) | (go_simp; with_reducible refine (E0.out (w2.alloc (.cells #[.int .i64 0, .int .i64 0, .slice none 0 0] 84)).drew).mono ?_; rintro e w3 ⟨rfl, rfl⟩) | (go_simp; with_reducible refine (E1.out (w2.alloc (.cells #[.int .i64 0, .int .i64 0, .slice none 0 0] 84)).drew).mono ?_; rintro e w3 ⟨rfl, rfl⟩))
  all_goals
    obtain ⟨⟨p0, p1, p2⟩, q0, q1, q2⟩ := MA.out.cells
    go_wp2_with fail
    with_reducible refine (Hg.out _ _ _ _ OB.out).mono ?_
    rintro e w4 ⟨rfl, hb4⟩
    have bG := belowTrans BA.out.drew hb4 (Nat.le_refl _)
    have kG := KA.out.drew.keep hb4
    have mG := MA.out.drew.keep hb4
    have oG := OB.out.keep hb4
    have wG := OA.out.drewB.keep hb4
    clear p0 p1 p2 q0 q1 q2 hb4
    obtain ⟨⟨p0, p1, p2⟩, q0, q1, q2⟩ := mG.cells
    have BG := Lib.hid bG; clear bG
    have KG := Lib.hid kG; clear kG
    have MG := Lib.hid mG; clear mG
    have OG := Lib.hid oG; clear oG
    have WG := Lib.hid wG; clear wG
    go_wp2_with fail
    with_reducible refine (Htx.out _ _ _ _ OG.out).mono ?_
    rintro e w5 ⟨rfl, hb5⟩
    have bT := belowTrans BG.out hb5 (Nat.le_refl _)
    have kT := KG.out.keep hb5
    have mT := MG.out.keep hb5
    have wT := WG.out.keep hb5
    have hs5 : w2.heap.size + 1 ≤ w5.heap.size := by have := MG.out.size; have := hb5.size; omega
    clear p0 p1 p2 q0 q1 q2 hb5
    obtain ⟨⟨p0, p1, p2⟩, q0, q1, q2⟩ := mT.cells
    obtain ⟨⟨u0, u1, u2⟩, v0, v1, v2⟩ := kT.cells
    have ho6 := (((wT.offCell (R := w.heap.size) (by omega) 0 (.int .i64 r0)).offCell (R := w.heap.size) (by omega) 1 (.int .i64 r1)).offCell (R := w.heap.size) (by omega) 2 (.slice a2 n2 c2)).mono (show w.heap.size ≤ w1.heap.size by omega) (show w2.heap.size ≤ w5.heap.size by omega)
    have hb6 := put3 bT r0 r1 a2 n2 c2
    clear bT kT mT wT
    have Ho6 := Lib.hid ho6; clear ho6
    have Hb6 := Lib.hid hb6; clear hb6
    go_wp2
    refine bodyPost_ret (v := .tuple #[.agg #[.int .i64 r0, .int .i64 r1, .slice a2 n2 c2], .bool true]) ?_ rfl (by rw [Hm.out]; exact ⟨a2, n2, c2, rfl, by have := Ho6.out; simpa using this, by have := Hb6.out; simpa using this⟩)
    rw [results_cell_tmp rfl]
    simp [go_sem, asAddr, Result.andThen, loadVar, *]

end
end Go.Proofs.YtimmjimeldejjaaGreatDoor
namespace Go.Proofs.YtimmjimeldejjaaGreatDoor
section
open Go.RowKit
set_option linter.unusedVariables false

theorem list_three {l : List (List UInt8)} (h : l.length = 3) : ∃ a b c, l = [a, b, c] := by
  match l, h with
  | [a, b, c], _ => exact ⟨a, b, c, rfl⟩
theorem spec_ParseBank (s : ByteArray) (w : World) (hs : s.size ≤ 1048576) :
    Calls Tryz.prog 125 #[.string s] w fun e w' => ∃ a m c, e = .returned (.tuple #[.agg #[.int .i64 (mParseBank s).1.h, .int .i64 (mParseBank s).1.l, .slice a m c], .bool (mParseBank s).2]) ∧ Own w.heap.size w'.heap.size w' a m c (mParseBank s).1.p ∧ Below w.heap.size w w' := by
  by_cases h3 : (splitL 58 s.data.toList).length = 3
  · obtain ⟨W0, W1, W2, h⟩ := list_three h3
    cases ho : (mParsePiles ⟨W2.toArray⟩).2
    · exact spec_PB_a s w hs h ho
    · cases hk : bankB ⟨readL W0, readL W1, (mParsePiles ⟨W2.toArray⟩).1⟩
      · exact spec_PB_b s w hs h ho hk
      · by_cases ht : bankL ⟨readL W0, readL W1, (mParsePiles ⟨W2.toArray⟩).1⟩ = s.data.toList
        · exact spec_PB_d s w hs h ho hk ht
        · exact spec_PB_c s w hs h ho hk ht
  · exact spec_PB_n s w hs h3
end
end Go.Proofs.YtimmjimeldejjaaGreatDoor
namespace Go.Proofs.YtimmjimeldejjaaGreatDoor
section
open Go.RowKit
set_option linter.unusedVariables false
set_option linter.unusedSimpArgs false
set_option maxRecDepth 20000

theorem row2 {B E : Nat} {w : World} {ao : Option Addr} {cap : Nat} {v0 v1 : Int} (h : Own B E w ao 2 cap [v0, v1]) :
    ∃ g, ao = some ⟨g, 0, none⟩ ∧ g < w.heap.size ∧ ∀ w', Below w.heap.size w w' → w'.cell? ⟨g, 0, none⟩ = some (.int .i64 v0) ∧ w'.cell? ⟨g, 1, none⟩ = some (.int .i64 v1) := by
  rcases h.cases with ⟨-, h2, -⟩ | ⟨g, rfl, -, -, hg⟩
  · cases h2
  refine ⟨g, rfl, hg, fun w' hb => ?_⟩
  obtain ⟨b, o, e, -, hc⟩ := (h.at.keep hb).cell 0 (by omega)
  simp at e
  obtain ⟨rfl, rfl⟩ := e
  exact ⟨hc 0 (by omega), hc 1 (by omega)⟩
theorem list_two {l : List Int} (h : l.length = 2) : ∃ a b, l = [a, b] := by
  match l, h with
  | [a, b], _ => exact ⟨a, b, rfl⟩
theorem ext_bytes (s : ByteArray) (a b : Nat) : s.extract a b = ⟨((s.data.toList.take b).drop a).toArray⟩ := by
  have := ext_str s a b
  injection this

set_option maxHeartbeats 3200000 in
set_option maxRecDepth 100000 in
theorem impl_ParseBank (s : ByteArray) (w : World) (hs : s.size ≤ 1048576) (hL : LibOk w) :
    Calls Tryz.prog 116 #[.string s] w fun e w' => ∃ a m c, e = .returned (.tuple #[.agg #[.int .i64 (mParseBank s).1.h, .int .i64 (mParseBank s).1.l, .slice a m c], .bool (mParseBank s).2]) ∧ Own w.heap.size w'.heap.size w' a m c (mParseBank s).1.p ∧ Below w.heap.size w w' := by
  have hb1 := belowAlloc w (.cells #[.int .i64 0, .int .i64 0, .slice none 0 0] 84)
  have k1 := Blk.new w 0 0 none 0 0 84
  have hli := lastIndex_any s (w.alloc (.cells #[.int .i64 0, .int .i64 0, .slice none 0 0] 84)) hs
  have hL1 := hL.keep hb1
  have hsz : s.data.toList.length = s.size := rfl
  clear hL
  have Hli := Lib.hid hli; clear hli
  have Hb1 := Lib.hid hb1; clear hb1
  have K1 := Lib.hid k1; clear k1
  have HL1 := Lib.hid hL1; clear hL1
  have Hsz := Lib.hid hsz; clear hsz
  go_enter Tryz.func116, Tryz.ntmps116
  go_wp2_with fail
  with_reducible refine (Hli.out).mono ?_
  rintro e w1 ⟨⟨r, rfl, hr⟩, rfl⟩
  rcases hr with ⟨rfl, hno⟩ | ⟨k, hk, rfl, hget, hno⟩
  · have hm := mPB_no (s := s) (fun b hb e => hno (e ▸ bank_has))
    clear hno
    have Hm := Lib.hid hm; clear hm
    go_wp2
    refine bodyPost_ret (v := .tuple #[.agg #[.int .i64 0, .int .i64 0, .slice none 0 0], .bool false]) ?_ rfl (by rw [Hm.out]; exact ⟨none, 0, 0, rfl, Own.nil _ _ _, Hb1.out⟩)
    rw [results_cell_tmp rfl]
    simp [go_sem, asAddr, Result.andThen, loadVar, *]
  · have hk' : k < s.size := by have := Hsz.out; omega
    have hP : s.extract 0 k = ⟨(s.data.toList.take k).toArray⟩ := by rw [ext_bytes]; rfl
    have hQ : s.extract (k + 1) s.size = ⟨(s.data.toList.drop (k + 1)).toArray⟩ := by rw [ext_bytes, List.take_of_length_le (by rw [Hsz.out]; omega)]
    have hspn := splitNumbers_any (s.extract 0 k) 58 [] _ (by rw [hP]; show (s.data.toList.take k).toArray.size ≤ _; rw [List.size_toArray, List.length_take]; omega) HL1.out
    have hpd : (s.extract 0 k).data.toList = s.data.toList.take k := by rw [hP]
    have hway := fun vals b (q : SplitIs 58 [] (s.extract 0 k).data.toList vals b) => bank_ways (s := s) (pre := s.data.toList.take k) (post := s.data.toList.drop (k + 1)) (last_split hget) hno (by rw [← hpd]; exact q)
    have hpp := fun W (q : LibOk W) => impl_ParsePiles (s.extract (k + 1) s.size) W (by rw [hQ]; show (s.data.toList.drop (k + 1)).toArray.size ≤ _; rw [List.size_toArray, List.length_drop]; have := Hsz.out; omega) q
    rw [← hQ] at hway
    have hpb := mParsePiles_bound (s.extract (k + 1) s.size)
    change Calls Tryz.prog 159 #[.string (s.extract 0 k), .string ⟨#[58]⟩, .string ⟨#[]⟩] _ _ at hspn
    generalize mParsePiles (s.extract (k + 1) s.size) = PP at *
    obtain ⟨p, ok⟩ := PP
    simp only at hway hpp hpb
    have Hspn := Lib.hid hspn; clear hspn
    have Hway := Lib.hid hway; clear hway
    have Hpp := Lib.hid hpp; clear hpp
    have Hpb := Lib.hid hpb; clear hpb
    have Hget := Lib.hid hget; clear hget
    have Hno := Lib.hid hno; clear hno
    have HP := Lib.hid hP; clear hP
    have HQ := Lib.hid hQ; clear hQ
    have Hpd := Lib.hid hpd; clear hpd
    have hlt1 : (k : Int) ≤ s.size := by omega
    have hlt2 : ¬ (k : Int) < 0 := by omega
    go_wp2_with fail
    refine (Hspn.out).mono ?_
    rintro e w2 ⟨a1, n1, c1, vals, b, rfl, ho1, hsp, hb2⟩
    have hw := Hway.out vals b hsp
    have hb3 := belowTrans Hb1.out hb2 (Nat.le_refl _)
    have k2 := K1.out.keep hb2
    have hL2 := HL1.out.keep hb2
    have hn1 := ho1.at.lenInt
    clear hb2 hsp Hb1 K1 HL1 Hli Hway Hspn Hpd
    have Hb2 := Lib.hid hb3; clear hb3
    have K2 := Lib.hid k2; clear k2
    have HL2 := Lib.hid hL2; clear hL2
    obtain ⟨hw1, hw2, hw3⟩ := hw
    cases b
    · have hm := hw1 rfl
      clear hw1 hw2 hw3 ho1
      have Hm := Lib.hid hm; clear hm
      obtain ⟨⟨u0, u1, u2⟩, w0, w1, w2'⟩ := K2.out.cells
      have hbf := zero3 Hb2.out
      have Hbf := Lib.hid hbf; clear hbf
      go_wp2
      refine bodyPost_ret (v := .tuple #[.agg #[.int .i64 0, .int .i64 0, .slice none 0 0], .bool false]) ?_ rfl (by rw [Hm.out]; exact ⟨none, 0, 0, rfl, Own.nil _ _ _, by have := Hbf.out; simpa using this⟩)
      rw [results_cell_tmp rfl]
      simp [go_sem, asAddr, Result.andThen, loadVar, *]
    by_cases hn : ¬ n1 = 2
    · have hm := hw2 (by rw [ho1.length]; exact hn)
      have he1 : ((n1 : Int) == 2) = false := by simp; omega
      have he2 : ¬ (n1 : Int) = 2 := by omega
      clear hw1 hw2 hw3 ho1 hn
      have Hm := Lib.hid hm; clear hm
      obtain ⟨⟨u0, u1, u2⟩, w0, w1, w2'⟩ := K2.out.cells
      have hbf := zero3 Hb2.out
      have Hbf := Lib.hid hbf; clear hbf
      go_wp2
      refine bodyPost_ret (v := .tuple #[.agg #[.int .i64 0, .int .i64 0, .slice none 0 0], .bool false]) ?_ rfl (by rw [Hm.out]; exact ⟨none, 0, 0, rfl, Own.nil _ _ _, by have := Hbf.out; simpa using this⟩)
      rw [results_cell_tmp rfl]
      simp [go_sem, asAddr, Result.andThen, loadVar, *]
    have hn' : n1 = 2 := Decidable.not_not.1 hn
    clear hn
    subst hn'
    obtain ⟨v0, v1, rfl⟩ := list_two ho1.length
    obtain ⟨m1, m2, m3⟩ := hw3 v0 v1 rfl rfl
    obtain ⟨g, rfl, hg, hrow⟩ := row2 ho1
    have hs2 : w.heap.size + 1 ≤ w2.heap.size := by have := K2.out.size; omega
    clear hw1 hw2 hw3 ho1
    have M1 := Lib.hid m1; clear m1
    have M2 := Lib.hid m2; clear m2
    have M3 := Lib.hid m3; clear m3
    have Hrow := Lib.hid hrow; clear hrow
    go_wp2_with fail
    refine (Hpp.out _ HL2.out).mono ?_
    rintro e w3 ⟨a3, n3, c3, rfl, ho3, hb3⟩
    have hn3 : n3 ≤ 1048576 := by have := ho3.length; have := Hpb.out; omega
    have hs3 := hb3.size
    cases ok
    · have hm := M1.out rfl
      clear M1 M2 M3
      have Hm := Lib.hid hm; clear hm
      have hbA := belowAlloc w3 (.cells #[.int .i64 v0, .int .i64 v1, .slice a3 n3 c3] 84)
      have bA := belowTrans (belowTrans Hb2.out hb3 (Nat.le_refl _)) hbA (Nat.le_refl _)
      have kA := (K2.out.keep hb3).keep hbA
      have mA := Blk.new w3 v0 v1 a3 n3 c3 84
      have oA := ho3.keep hbA
      have oB : IntsAt ((w3.alloc (.cells #[.int .i64 v0, .int .i64 v1, .slice a3 n3 c3] 84))).drew a3 n3 c3 p := oA.at.drew'
      obtain ⟨x0, x1⟩ := Hrow.out _ hb3
      obtain ⟨y0, y1⟩ := Hrow.out _ ((belowTrans hb3 (belowAlloc w3 (.cells #[.int .i64 0, .int .i64 0, .slice none 0 0] 84)) (Nat.le_refl _)))
      clear ho3 hb3 hbA
      have BA := Lib.hid bA; clear bA
      have KA := Lib.hid kA; clear kA
      have MA := Lib.hid mA; clear mA
      have OA := Lib.hid oA; clear oA
      have OB := Lib.hid oB; clear oB
      go_wp2_with fail
      go_region
      all_goals
        obtain ⟨⟨u0, u1, u2⟩, w0, w1, w2'⟩ := KA.out.cells
        have hbf := (zero3 BA.out).drew
        have Hbf := Lib.hid hbf; clear hbf
        go_wp2
        refine bodyPost_ret (v := .tuple #[.agg #[.int .i64 0, .int .i64 0, .slice none 0 0], .bool false]) ?_ rfl (by rw [Hm.out]; exact ⟨none, 0, 0, rfl, Own.nil _ _ _, by have := Hbf.out; simpa using this⟩)
        rw [results_cell_tmp rfl]
        simp [go_sem, asAddr, Result.andThen, loadVar, *]
    · have hcb := fun W q => isBank_any v0 v1 a3 n3 c3 p W q
      unfold bankV at hcb
      cases hkk : bankB ⟨v0, v1, p⟩
      · rw [hkk] at hcb
        have hm := M2.out rfl hkk
        clear M1 M2 M3 hkk
        have Hm := Lib.hid hm; clear hm
        have Hcb := Lib.hid hcb; clear hcb
        have hbA := belowAlloc w3 (.cells #[.int .i64 v0, .int .i64 v1, .slice a3 n3 c3] 84)
        have bA := belowTrans (belowTrans Hb2.out hb3 (Nat.le_refl _)) hbA (Nat.le_refl _)
        have kA := (K2.out.keep hb3).keep hbA
        have mA := Blk.new w3 v0 v1 a3 n3 c3 84
        have oA := ho3.keep hbA
        have oB : IntsAt ((w3.alloc (.cells #[.int .i64 v0, .int .i64 v1, .slice a3 n3 c3] 84))).drew a3 n3 c3 p := oA.at.drew'
        obtain ⟨x0, x1⟩ := Hrow.out _ hb3
        obtain ⟨y0, y1⟩ := Hrow.out _ ((belowTrans hb3 (belowAlloc w3 (.cells #[.int .i64 0, .int .i64 0, .slice none 0 0] 84)) (Nat.le_refl _)))
        clear ho3 hb3 hbA
        have BA := Lib.hid bA; clear bA
        have KA := Lib.hid kA; clear kA
        have MA := Lib.hid mA; clear mA
        have OA := Lib.hid oA; clear oA
        have OB := Lib.hid oB; clear oB
        go_wp2_with fail
        go_region
        all_goals
          obtain ⟨⟨p0, p1, p2⟩, q0, q1, q2⟩ := MA.out.cells
          go_wp2_with fail
          with_reducible refine (Hcb.out _ OB.out).mono ?_
          rintro e w4 ⟨rfl, hb4⟩
          have bG := belowTrans BA.out.drew hb4 (Nat.le_refl _)
          have kG := KA.out.drew.keep hb4
          clear p0 p1 p2 q0 q1 q2 hb4
          have BG := Lib.hid bG; clear bG
          have KG := Lib.hid kG; clear kG
          obtain ⟨⟨u0, u1, u2⟩, w0, w1, w2'⟩ := KG.out.cells
          have hbf := zero3 BG.out
          have Hbf := Lib.hid hbf; clear hbf
          go_wp2
          refine bodyPost_ret (v := .tuple #[.agg #[.int .i64 0, .int .i64 0, .slice none 0 0], .bool false]) ?_ rfl (by rw [Hm.out]; exact ⟨none, 0, 0, rfl, Own.nil _ _ _, by have := Hbf.out; simpa using this⟩)
          rw [results_cell_tmp rfl]
          simp [go_sem, asAddr, Result.andThen, loadVar, *]
      · rw [hkk] at hcb
        have hm := M3.out rfl hkk
        clear M1 M2 M3 hkk
        have Hm := Lib.hid hm; clear hm
        have Hcb := Lib.hid hcb; clear hcb
        have hbA := belowAlloc w3 (.cells #[.int .i64 v0, .int .i64 v1, .slice a3 n3 c3] 84)
        have bA := belowTrans (belowTrans Hb2.out hb3 (Nat.le_refl _)) hbA (Nat.le_refl _)
        have kA := (K2.out.keep hb3).keep hbA
        have mA := Blk.new w3 v0 v1 a3 n3 c3 84
        have oA := ho3.keep hbA
        have oB : IntsAt ((w3.alloc (.cells #[.int .i64 v0, .int .i64 v1, .slice a3 n3 c3] 84))).drew a3 n3 c3 p := oA.at.drew'
        obtain ⟨x0, x1⟩ := Hrow.out _ hb3
        obtain ⟨y0, y1⟩ := Hrow.out _ ((belowTrans hb3 (belowAlloc w3 (.cells #[.int .i64 0, .int .i64 0, .slice none 0 0] 84)) (Nat.le_refl _)))
        clear ho3 hb3 hbA
        have BA := Lib.hid bA; clear bA
        have KA := Lib.hid kA; clear kA
        have MA := Lib.hid mA; clear mA
        have OA := Lib.hid oA; clear oA
        have OB := Lib.hid oB; clear oB
        go_wp2_with fail
        go_region
        all_goals
          obtain ⟨⟨p0, p1, p2⟩, q0, q1, q2⟩ := MA.out.cells
          go_wp2_with fail
          with_reducible refine (Hcb.out _ OB.out).mono ?_
          rintro e w4 ⟨rfl, hb4⟩
          have bG := belowTrans BA.out.drew hb4 (Nat.le_refl _)
          have kG := KA.out.drew.keep hb4
          have mG := MA.out.drew.keep hb4
          have wG := OA.out.drewB.keep hb4
          have hs5 : w3.heap.size + 1 ≤ w4.heap.size := by have := MA.out.size; have := hb4.size; simp at this; omega
          clear p0 p1 p2 q0 q1 q2 hb4
          obtain ⟨⟨p0, p1, p2⟩, q0, q1, q2⟩ := mG.cells
          obtain ⟨⟨u0, u1, u2⟩, t0, t1, t2⟩ := kG.cells
          have ho6 := (((wG.offCell (R := w.heap.size) (by omega) 0 (.int .i64 v0)).offCell (R := w.heap.size) (by omega) 1 (.int .i64 v1)).offCell (R := w.heap.size) (by omega) 2 (.slice a3 n3 c3)).mono (show w.heap.size ≤ w2.heap.size by omega) (show w3.heap.size ≤ w4.heap.size by omega)
          have hb6 := put3 bG v0 v1 a3 n3 c3
          clear bG kG mG wG
          have Ho6 := Lib.hid ho6; clear ho6
          have Hb6 := Lib.hid hb6; clear hb6
          go_wp2
          refine bodyPost_ret (v := .tuple #[.agg #[.int .i64 v0, .int .i64 v1, .slice a3 n3 c3], .bool true]) ?_ rfl (by rw [Hm.out]; exact ⟨a3, n3, c3, rfl, by have := Ho6.out; simpa using this, by have := Hb6.out; simpa using this⟩)
          rw [results_cell_tmp rfl]
          simp [go_sem, asAddr, Result.andThen, loadVar, *]
end
end Go.Proofs.YtimmjimeldejjaaGreatDoor
