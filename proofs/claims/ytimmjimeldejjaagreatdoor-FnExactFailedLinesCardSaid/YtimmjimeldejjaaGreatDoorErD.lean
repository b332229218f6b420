/- errors.As where the error is nil or a line that was not executed; FailedLines by the program. Its condition: what the library's own variable holds. -/
import Derived.Test.YtimmjimeldejjaaGreatDoorErC
namespace Go.Proofs.YtimmjimeldejjaaGreatDoor
open Go.RowKit
set_option linter.unusedVariables false
set_option linter.unusedSimpArgs false
set_option maxRecDepth 20000

theorem as_nil (v : Value) (w : World) :
    Calls Tryz.prog 50 #[.nilIface, v] w fun e w' => e = .returned (.bool false) ∧ w = w' := by
  go_enter Tryz.func50, Tryz.ntmps50
  go_wp2
  go_ret
  exact ⟨rfl, rfl⟩
set_option maxHeartbeats 3200000 in
theorem as_bad (n : Int) (p : Addr) (g q : Nat) (v0 v1 : Value) (w : World) (hg : w.heap[g]? = some (.cells #[v0, v1] 75 (0, 0))) (hq : w.cell? ⟨q, 0, none⟩ = some (.pointer (some ⟨g, 0, none⟩))) :
    Calls Tryz.prog 82 #[.iface 75 (.agg #[.int .i64 n, .iface 261 (.pointer (some p))]), .iface 77 (.pointer (some ⟨g, 0, none⟩)), .agg #[.pointer (some ⟨11, 77, none⟩), .pointer (some ⟨q, 0, none⟩), .int .u64 150], .iface 165 (.agg #[.pointer (some ⟨11, 75, none⟩)])] w fun e w' => e = .returned (.bool true) ∧ w'.heap[g]? = some (.cells #[.int .i64 n, .iface 261 (.pointer (some p))] 75 (0, 0)) ∧ Chg (fun k => k = g) w w' := by
  have hgl : g < w.heap.size := (Array.getElem?_eq_some_iff.1 hg).1
  have hql : q < w.heap.size := by
    rcases Nat.lt_or_ge q w.heap.size with h' | h'
    · exact h'
    · simp [World.cell?, Array.getElem?_eq_none h'] at hq
  obtain ⟨w1, hw1⟩ : ∃ w1, w1 = w.alloc (.cells #[.pointer (some ⟨11, 77, none⟩), .pointer (some ⟨q, 0, none⟩), .int .u64 150] 109) := ⟨_, rfl⟩
  have hb1 : Below w.heap.size w w1 := hw1 ▸ belowAlloc w _
  have b1 : w1.heap[w.heap.size]? = some (.cells #[.pointer (some ⟨11, 77, none⟩), .pointer (some ⟨q, 0, none⟩), .int .u64 150] 109 (0, 0)) := hw1 ▸ allocNew w _
  obtain ⟨w2, hw2⟩ : ∃ w2, w2 = w1.alloc (.cells #[.int .i64 n, .iface 261 (.pointer (some p))] 75) := ⟨_, rfl⟩
  have hb2 : Below w1.heap.size w1 w2 := hw2 ▸ belowAlloc w1 _
  have b2 : w2.heap[w1.heap.size]? = some (.cells #[.int .i64 n, .iface 261 (.pointer (some p))] 75 (0, 0)) := hw2 ▸ allocNew w1 _
  have hs1 : w1.heap.size = w.heap.size + 1 := by rw [hw1]; simp
  rw [hs1] at b2
  have x0 := (cellOfB b1 0 _ rfl).1
  have x1 := (cellOfB b1 1 _ rfl).1
  have x2 := (cellOfB b1 2 _ rfl).1
  have hg2 := keepB (keepB hg hb1) hb2
  have f1 := as_typeOfB (.agg #[.int .i64 n, .iface 261 (.pointer (some p))])
  have f2 := as_mAssign
  have f3 := as_assign
  have f4 := as_elemV g q w1 (by rw [hb1.cell (p := ⟨q, 0, none⟩) hql]; exact hq)
  have f5 := as_valueOfB n p w1
  rw [← hw2] at f5
  have f6 := as_set g (w.heap.size + 1) n p v0 v1 w2 (cellOfB b2 0 _ rfl).1 (cellOfB b2 1 _ rfl).1 hg2
  have c6 : Chg (fun k => k = g) w2 ((w2.setCell ⟨g, 0, none⟩ (.int .i64 n)).setCell ⟨g, 1, none⟩ (.iface 261 (.pointer (some p)))) := (chgCell w2 g 0 _).trans (chgCell _ g 1 _)
  have b6 : ((w2.setCell ⟨g, 0, none⟩ (.int .i64 n)).setCell ⟨g, 1, none⟩ (.iface 261 (.pointer (some p)))).heap[g]? = some (.cells #[.int .i64 n, .iface 261 (.pointer (some p))] 75 (0, 0)) := by
    have e1 := heap_setCell_same w2 g 0 _ _ (.int .i64 n) hg2
    have e2 := heap_setCell_same _ g 1 _ _ (.iface 261 (.pointer (some p))) e1
    rw [e2]; rfl
  have hall : Chg (fun k => k = g) w ((w2.setCell ⟨g, 0, none⟩ (.int .i64 n)).setCell ⟨g, 1, none⟩ (.iface 261 (.pointer (some p)))) := ((Chg.ofBelow hb1).trans (Chg.ofBelow hb2)).trans c6
  generalize (w2.setCell ⟨g, 0, none⟩ (.int .i64 n)).setCell ⟨g, 1, none⟩ (.iface 261 (.pointer (some p))) = w3 at *
  clear hg hq hgl hql hb1 hb2 b1 b2 hg2 c6 hw2 hs1
  have Hall := Lib.hid hall; clear hall
  have B6 := Lib.hid b6; clear b6
  subst hw1
  go_enter Tryz.func82, Tryz.ntmps82
  go_wp2
  refine wp_loop_rounds 1 ?_
  rw [rounds_succ]
  go_wp2
  go_ret
  exact ⟨rfl, B6.out, Hall.out⟩
set_option maxHeartbeats 3200000 in
theorem As_bad (n : Int) (p : Addr) (g : Nat) (v0 v1 : Value) (w : World) (hg : w.heap[g]? = some (.cells #[v0, v1] 75 (0, 0))) (h0 : w.cell? ⟨0, 0, none⟩ = some (.iface 165 (.agg #[.pointer (some ⟨11, 73, none⟩)]))) (hlo : 0 < w.heap.size) :
    Calls Tryz.prog 50 #[.iface 75 (.agg #[.int .i64 n, .iface 261 (.pointer (some p))]), .iface 77 (.pointer (some ⟨g, 0, none⟩))] w fun e w' => e = .returned (.bool true) ∧ w'.heap[g]? = some (.cells #[.int .i64 n, .iface 261 (.pointer (some p))] 75 (0, 0)) ∧ Chg (fun k => k = g) w w' := by
  obtain ⟨w1, hw1⟩ : ∃ w1, w1 = w.alloc (.cells #[.pointer (some ⟨g, 0, none⟩)] 77) := ⟨_, rfl⟩
  have hb1 : Below w.heap.size w w1 := hw1 ▸ belowAlloc w _
  have b1 : w1.heap[w.heap.size]? = some (.cells #[.pointer (some ⟨g, 0, none⟩)] 77 (0, 0)) := hw1 ▸ allocNew w _
  obtain ⟨w2, hw2⟩ : ∃ w2, w2 = w1.alloc (.cells #[.pointer (some ⟨11, 77, none⟩), .pointer (some ⟨w.heap.size, 0, none⟩), .int .u64 150] 109) := ⟨_, rfl⟩
  have hb2 : Below w1.heap.size w1 w2 := hw2 ▸ belowAlloc w1 _
  have b2 : w2.heap[w1.heap.size]? = some (.cells #[.pointer (some ⟨11, 77, none⟩), .pointer (some ⟨w.heap.size, 0, none⟩), .int .u64 150] 109 (0, 0)) := hw2 ▸ allocNew w1 _
  have x0 := (cellOfB b2 0 _ rfl).1
  have x1 := (cellOfB b2 1 _ rfl).1
  have x2 := (cellOfB b2 2 _ rfl).1
  have hb12 := belowTrans hb1 hb2 (Nat.le_refl _)
  have g2 : w2.cell? ⟨0, 0, none⟩ = some (.iface 165 (.agg #[.pointer (some ⟨11, 73, none⟩)])) := by rw [hb12.cell (p := ⟨0, 0, none⟩) hlo]; exact h0
  have hq := (cellOfB (keepB b1 hb2) 0 _ rfl).1
  have f1 := as_valueOfP g w
  rw [← hw1] at f1
  have f2 := as_type ⟨w.heap.size, 0, none⟩
  have f3 := as_mKind
  have f4 := as_kindP
  have f5 := as_isNil g w.heap.size w2 hq
  have f6 := as_mElem
  have f7 := as_elem
  have f8 := as_kindB
  have f9 := as_mImpl
  have f10 := as_impl
  have hcon := (as_bad n p g w.heap.size v0 v1 w2 (keepB (keepB hg hb1) hb2) hq).mono (R' := fun e w' => e = .returned (.bool true) ∧ w'.heap[g]? = some (.cells #[.int .i64 n, .iface 261 (.pointer (some p))] 75 (0, 0)) ∧ Chg (fun k => k = g) w w')
    (fun e w' ⟨e1, e2, e3⟩ => ⟨e1, e2, (Chg.ofBelow hb12).trans e3⟩)
  clear hg h0 hlo hb1 hb2 b1 b2 hb12 hq hw1
  subst hw2
  have Hcon := Lib.hid hcon; clear hcon
  go_enter Tryz.func50, Tryz.ntmps50
  go_wp2_with fail
  with_reducible refine (Hcon.out).mono ?_
  rintro e w3 ⟨rfl, q1, q2⟩
  have Q1 := Lib.hid q1; clear q1
  have Q2 := Lib.hid q2; clear q2
  go_wp2
  go_ret
  exact ⟨rfl, Q1.out, Q2.out⟩
end Go.Proofs.YtimmjimeldejjaaGreatDoor
