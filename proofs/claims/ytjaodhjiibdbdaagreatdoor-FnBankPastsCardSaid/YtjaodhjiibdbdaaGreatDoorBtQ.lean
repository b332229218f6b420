/- The specification reads a bank state from a text: a case. No condition but a bound on the length. -/
import Derived.Test.YtjaodhjiibdbdaaGreatDoorBtP
namespace Go.Proofs.YtjaodhjiibdbdaaGreatDoor
open Go.RowKit
set_option linter.unusedVariables false
set_option linter.unusedSimpArgs false
set_option maxRecDepth 20000

set_option maxHeartbeats 3200000 in
set_option maxRecDepth 100000 in
theorem spec_PB_a (s : ByteArray) (w : World) (hs : s.size ≤ 1048576) {W0 W1 W2 : List UInt8} (h3 : splitL 58 s.data.toList = [W0, W1, W2]) (ho : (mParsePiles ⟨W2.toArray⟩).2 = false) :
    Calls Tryz.prog 32 #[.string s] w fun e w' => ∃ a m c, e = .returned (.tuple #[.agg #[.int .i64 (mParseBank s).1.h, .int .i64 (mParseBank s).1.l, .slice a m c], .bool (mParseBank s).2]) ∧ Own w.heap.size w'.heap.size w' a m c (mParseBank s).1.p ∧ Below w.heap.size w w' := by
  have hb1 := belowAlloc w (.cells #[.int .i64 0, .int .i64 0, .slice none 0 0] 40)
  have k1 := Blk.new w 0 0 none 0 0 40
  have hsp := (l1Split_any s 58 (w.alloc (.cells #[.int .i64 0, .int .i64 0, .slice none 0 0] 40)) hs).mono (R' := fun e w1 => ∃ ao n cap, e = .returned (.slice ao n cap) ∧ OwnRow (w.heap.size + 1) w1.heap.size w1 9 ao n cap (strVs (splitL 58 s.data.toList)) ∧ Below w.heap.size w w1 ∧ Blk w1 w.heap.size 0 0 none 0 0 40 ∧ w.heap.size + 1 ≤ w1.heap.size)
    (fun e w1 ⟨a, n, c, e1, e2, e3⟩ => ⟨a, n, c, e1, by simpa using e2, belowTrans hb1 e3 (Nat.le_refl _), k1.keep e3, by simpa using e3.size⟩)
  rw [show (((58 : UInt8).toNat : Nat) : Int) = 58 from rfl] at hsp
  have hwl := splitL_word_le 58 s.data.toList
  have hsz : s.data.toList.length = s.size := rfl
  have hm := mPB_3 h3
  rw [h3] at hsp hwl
  have z0 := hwl W0 (by simp)
  have z1 := hwl W1 (by simp)
  have z2 := hwl W2 (by simp)
  have e2 := fun W => spec_ParsePiles ⟨W2.toArray⟩ W (by show W2.toArray.size ≤ _; rw [List.size_toArray]; omega)
  have e0 := fun W => l1Read_any ⟨W0.toArray⟩ W (by show W0.toArray.size ≤ _; rw [List.size_toArray]; omega)
  have e1 := fun W => l1Read_any ⟨W1.toArray⟩ W (by show W1.toArray.size ≤ _; rw [List.size_toArray]; omega)
  simp only [List.toList_toArray] at e0 e1
  have hpb := mParsePiles_bound ⟨W2.toArray⟩
  rw [if_neg (fun q => by rw [ho] at q; exact absurd q.1 (by simp))] at hm
  rw [ho] at e2
  have hb0 := readL_bounds W0
  have hb9 := readL_bounds W1
  generalize readL W0 = r0 at *
  generalize readL W1 = r1 at *
  generalize (mParsePiles ⟨W2.toArray⟩).1 = p at *
  clear hb1 k1 ho h3 hsz z0 z1 z2 hwl
  have Hsp := Lib.hid hsp; clear hsp
  have Hm := Lib.hid hm; clear hm
  have E0 := Lib.hid e0; clear e0
  have E1 := Lib.hid e1; clear e1
  have E2 := Lib.hid e2; clear e2
  have Hpb := Lib.hid hpb; clear hpb
  go_enter Tryz.func32, Tryz.ntmps32
  go_wp2_with fail
  with_reducible refine (Hsp.out).mono ?_
  rintro e w1 ⟨a1, n1, c1, rfl, ho1, hb1, k1, hs1⟩
  obtain rfl : n1 = 3 := by have := ho1.length; simpa [strVs] using this.symm
  obtain ⟨g, rfl, hg1, hrow⟩ := row3 ho1
  obtain ⟨x0, x1, x2⟩ := hrow w1 (Below.refl _ _)
  clear ho1
  have Hb1 := Lib.hid hb1; clear hb1
  have K1 := Lib.hid k1; clear k1
  have Hrow := Lib.hid hrow; clear hrow
  go_wp2_with fail
  with_reducible refine (E2.out _).mono ?_
  rintro e w2 ⟨a2, n2, c2, rfl, ho2, hb2⟩
  have hs2 := hb2.size
  have hn2 : n2 ≤ 1048576 := by have := ho2.length; have := Hpb.out; omega
  clear x0 x1 x2
  obtain ⟨x0, x1, x2⟩ := Hrow.out w2 hb2
  obtain ⟨y0, y1, -⟩ := Hrow.out _ ((belowTrans hb2 (belowAlloc w2 (.cells #[.int .i64 0, .int .i64 0, .slice none 0 0] 40)) (by omega)).drew)
  have hbA := belowAlloc w2 (.cells #[.int .i64 r0, .int .i64 r1, .slice a2 n2 c2] 40)
  have bA := belowTrans (belowTrans Hb1.out hb2 (by omega)) hbA (by omega)
  have kA := (K1.out.keep hb2).keep hbA
  have mA := Blk.new w2 r0 r1 a2 n2 c2 40
  have oA := ho2.keep hbA
  have oB : IntsAt ((w2.alloc (.cells #[.int .i64 r0, .int .i64 r1, .slice a2 n2 c2] 40)).drew) a2 n2 c2 p := oA.at.drew'
  clear ho2 hb2 hbA
  have BA := Lib.hid bA; clear bA
  have KA := Lib.hid kA; clear kA
  have MA := Lib.hid mA; clear mA
  have OA := Lib.hid oA; clear oA
  have OB := Lib.hid oB; clear oB
  go_wp2_with fail
  go_region_law (first | (go_simp; with_reducible refine (E0.out w2.drew).mono ?_; rintro e w3 ⟨rfl, rfl⟩) | (go_simp; with_reducible refine (E1.out w2.drew).mono ?_; rintro e w3 ⟨rfl, rfl⟩) | (go_simp; with_reducible refine (E0.out (w2.alloc (.cells #[.int .i64 0, .int .i64 0, .slice none 0 0] 40)).drew).mono ?_; rintro e w3 ⟨rfl, rfl⟩) | (go_simp; with_reducible refine (E1.out (w2.alloc (.cells #[.int .i64 0, .int .i64 0, .slice none 0 0] 40)).drew).mono ?_; rintro e w3 ⟨rfl, rfl⟩))
  all_goals
    obtain ⟨⟨u0, u1, u2⟩, v0, v1, v2⟩ := KA.out.cells
    have hbf := (zero3 BA.out).drew
    have Hbf := Lib.hid hbf; clear hbf
    go_wp2
    refine bodyPost_ret (v := .tuple #[.agg #[.int .i64 0, .int .i64 0, .slice none 0 0], .bool false]) ?_ rfl (by rw [Hm.out]; exact ⟨none, 0, 0, rfl, Own.nil _ _ _, by have := Hbf.out; simpa using this⟩)
    rw [results_cell_tmp rfl]
    simp [go_sem, asAddr, Result.andThen, loadVar, *]

end Go.Proofs.YtjaodhjiibdbdaaGreatDoor
