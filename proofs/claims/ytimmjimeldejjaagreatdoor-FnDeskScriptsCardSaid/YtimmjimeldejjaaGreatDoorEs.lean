/- Several texts in one: ErB, ErC, ErD, ErE. No condition. -/
import Derived.Test.YtimmjimeldejjaaGreatDoorEr
import Derived.Test.YtimmjimeldejjaaGreatDoorDk3
import Derived.Test.YtimmjimeldejjaaGreatDoorCo3
namespace Go.Proofs.YtimmjimeldejjaaGreatDoor
section
open Go.RowKit Go.Extern.Stop Go.Stop Go.Extern
set_option linter.unusedVariables false
set_option linter.unusedSimpArgs false
set_option maxRecDepth 20000

def hP : Value := .pointer (some ⟨11, 77, none⟩)
def hB : Value := .pointer (some ⟨11, 75, none⟩)
def hE : Value := .pointer (some ⟨11, 73, none⟩)
theorem as_valueOfP (g : Nat) (w : World) : (callFunc 79 #[.iface 77 (.pointer (some ⟨g, 0, none⟩))]).run Tryz.prog w = .ok (.value (.agg #[.pointer (some ⟨11, 77, none⟩), .pointer (some ⟨w.heap.size, 0, none⟩), .int .u64 150])) (w.alloc (.cells #[.pointer (some ⟨g, 0, none⟩)] 77)) := by
  rw [@run_callFunc_extern Tryz.prog 79 _ (fun args => Extern.ReflectliteValue.unpack (args.getD 0 (.tuple #[]))) Tryz.func79 (by kernel_rfl) (by kernel_rfl) (by kernel_rfl) (by kernel_rfl)]
  kernel_rfl
theorem as_type (a : Addr) (w : World) : (callFunc 80 #[.agg #[.pointer (some ⟨11, 77, none⟩), .pointer (some a), .int .u64 150]]).run Tryz.prog w = .ok (.value (.iface 165 (.agg #[.pointer (some ⟨11, 77, none⟩)]))) w := by
  rw [@run_callFunc_extern Tryz.prog 80 _ (Extern.ReflectliteValue.methodAny (Extern.ReflectliteValue.valueError "reflectlite.Value.Type" 0) fun t _ _ _ => Extern.ReflectliteType.toType t) Tryz.func80 (by kernel_rfl) (by kernel_rfl) (by kernel_rfl) (by kernel_rfl)]
  kernel_rfl
theorem as_mKind (h : Value) (w : World) : (Go.method 399 165 (.agg #[h]) "Kind").run Tryz.prog w = .ok (281, h) w := by kernel_rfl
theorem as_mElem (v : Value) (w : World) : (Go.method 399 165 v "Elem").run Tryz.prog w = .ok (302, v) w := by kernel_rfl
theorem as_mImpl (v : Value) (w : World) : (Go.method 399 165 v "Implements").run Tryz.prog w = .ok (303, v) w := by kernel_rfl
theorem as_mAssign (v : Value) (w : World) : (Go.method 399 165 v "AssignableTo").run Tryz.prog w = .ok (300, v) w := by kernel_rfl
theorem as_kindP (w : World) : (callFunc 281 #[.pointer (some ⟨11, 77, none⟩)]).run Tryz.prog w = .ok (.value (.int .u8 22)) w := by
  rw [@run_callFunc_extern Tryz.prog 281 _ (Extern.ReflectliteType.abiMethod fun t => do pure (.int .u8 (← Extern.Rtype.kind t))) Tryz.func281 (by kernel_rfl) (by kernel_rfl) (by kernel_rfl) (by kernel_rfl)]
  kernel_rfl
theorem as_kindB (w : World) : (callFunc 281 #[.pointer (some ⟨11, 75, none⟩)]).run Tryz.prog w = .ok (.value (.int .u8 25)) w := by
  rw [@run_callFunc_extern Tryz.prog 281 _ (Extern.ReflectliteType.abiMethod fun t => do pure (.int .u8 (← Extern.Rtype.kind t))) Tryz.func281 (by kernel_rfl) (by kernel_rfl) (by kernel_rfl) (by kernel_rfl)]
  kernel_rfl
theorem as_elem (w : World) : (callFunc 302 #[.agg #[.pointer (some ⟨11, 77, none⟩)]]).run Tryz.prog w = .ok (.value (.iface 165 (.agg #[.pointer (some ⟨11, 75, none⟩)]))) w := by
  rw [@run_callFunc_extern Tryz.prog 302 _ (Extern.ReflectliteType.method Extern.ReflectliteType.elem) Tryz.func302 (by kernel_rfl) (by kernel_rfl) (by kernel_rfl) (by kernel_rfl)]
  kernel_rfl
theorem as_implRel (w : World) : ((Extern.ReflectliteType.relation "Implements" Extern.ReflectliteType.implements_) #[.agg #[.pointer (some ⟨11, 75, none⟩)], .iface 165 (.agg #[.pointer (some ⟨11, 73, none⟩)])]).run Tryz.prog w = .ok (.bool true) w := by kernel_rfl
theorem as_impl (w : World) : (callFunc 303 #[.agg #[.pointer (some ⟨11, 75, none⟩)], .iface 165 (.agg #[.pointer (some ⟨11, 73, none⟩)])]).run Tryz.prog w = .ok (.value (.bool true)) w := by
  rw [@run_callFunc_extern Tryz.prog 303 _ (Extern.ReflectliteType.relation "Implements" Extern.ReflectliteType.implements_) Tryz.func303 (by kernel_rfl) (by kernel_rfl) (by kernel_rfl) (by kernel_rfl), as_implRel]
  rfl
theorem as_typeOfB (v : Value) (w : World) : (callFunc 148 #[.iface 75 v]).run Tryz.prog w = .ok (.value (.iface 165 (.agg #[.pointer (some ⟨11, 75, none⟩)]))) w := by
  rw [@run_callFunc_extern Tryz.prog 148 _ Extern.ReflectliteType.typeOf Tryz.func148 (by kernel_rfl) (by kernel_rfl) (by kernel_rfl) (by kernel_rfl)]
  kernel_rfl
theorem as_assign (w : World) : (callFunc 300 #[.agg #[.pointer (some ⟨11, 75, none⟩)], .iface 165 (.agg #[.pointer (some ⟨11, 75, none⟩)])]).run Tryz.prog w = .ok (.value (.bool true)) w := by
  rw [@run_callFunc_extern Tryz.prog 300 _ (Extern.ReflectliteType.relation "AssignableTo" Extern.ReflectliteType.assignableTo) Tryz.func300 (by kernel_rfl) (by kernel_rfl) (by kernel_rfl) (by kernel_rfl)]
  kernel_rfl
theorem as_valueOfB (n : Int) (p : Addr) (w : World) : (callFunc 79 #[.iface 75 (.agg #[.int .i64 n, .iface 261 (.pointer (some p))])]).run Tryz.prog w = .ok (.value (.agg #[.pointer (some ⟨11, 75, none⟩), .pointer (some ⟨w.heap.size, 0, none⟩), .int .u64 153])) (w.alloc (.cells #[.int .i64 n, .iface 261 (.pointer (some p))] 75)) := by
  rw [@run_callFunc_extern Tryz.prog 79 _ (fun args => Extern.ReflectliteValue.unpack (args.getD 0 (.tuple #[]))) Tryz.func79 (by kernel_rfl) (by kernel_rfl) (by kernel_rfl) (by kernel_rfl)]
  kernel_rfl
end
end Go.Proofs.YtimmjimeldejjaaGreatDoor
namespace Go.Proofs.YtimmjimeldejjaaGreatDoor
section
open Go.RowKit Go.Extern.Stop Go.Stop Go.Extern
set_option linter.unusedVariables false
set_option linter.unusedSimpArgs false
set_option maxRecDepth 20000

theorem as_loadP (g q : Nat) (w : World) (hq : w.cell? ⟨q, 0, none⟩ = some (.pointer (some ⟨g, 0, none⟩))) : (loadVar 77 ⟨q, 0, none⟩).run Tryz.prog w = .ok (.pointer (some ⟨g, 0, none⟩)) w := by
  simp [go_sem, loadVar, hq]
theorem as_isNil (g q : Nat) (w : World) (hq : w.cell? ⟨q, 0, none⟩ = some (.pointer (some ⟨g, 0, none⟩))) : (callFunc 81 #[.agg #[.pointer (some ⟨11, 77, none⟩), .pointer (some ⟨q, 0, none⟩), .int .u64 150]]).run Tryz.prog w = .ok (.value (.bool false)) w := by
  have hp : (Extern.ReflectliteValue.parts (.agg #[.pointer (some ⟨11, 77, none⟩), .pointer (some ⟨q, 0, none⟩), .int .u64 150])).run Tryz.prog w = .ok (some (77, ⟨q, 0, none⟩, 150)) w := by kernel_rfl
  have hl := as_loadP g q w hq
  rw [@run_callFunc_extern Tryz.prog 81 _ (Extern.ReflectliteValue.method (Extern.ReflectliteValue.valueError "reflectlite.Value.IsNil" 0) Extern.ReflectliteValue.isNil) Tryz.func81 (by kernel_rfl) (by kernel_rfl) (by kernel_rfl) (by kernel_rfl)]
  obtain ⟨k, e1, e2⟩ : ∃ k, Extern.ReflectliteValue.method (Extern.ReflectliteValue.valueError "reflectlite.Value.IsNil" 0) Extern.ReflectliteValue.isNil #[.agg #[.pointer (some ⟨11, 77, none⟩), .pointer (some ⟨q, 0, none⟩), .int .u64 150]] = (Extern.ReflectliteValue.parts (.agg #[.pointer (some ⟨11, 77, none⟩), .pointer (some ⟨q, 0, none⟩), .int .u64 150]) >>= k) ∧
    k (some (77, ⟨q, 0, none⟩, 150)) = Extern.ReflectliteValue.isNil 77 ⟨q, 0, none⟩ 150 22 := ⟨_, rfl, rfl⟩
  rw [e1, Sem.run_bind, hp]
  simp only [Result.andThen]
  rw [e2]
  simp [Extern.ReflectliteValue.isNil, Sem.run_bind, hl, Result.andThen]
theorem as_elemV (g q : Nat) (w : World) (hq : w.cell? ⟨q, 0, none⟩ = some (.pointer (some ⟨g, 0, none⟩))) : (callFunc 149 #[.agg #[.pointer (some ⟨11, 77, none⟩), .pointer (some ⟨q, 0, none⟩), .int .u64 150]]).run Tryz.prog w = .ok (.value (.agg #[.pointer (some ⟨11, 75, none⟩), .pointer (some ⟨g, 0, none⟩), .int .u64 409])) w := by
  have hp : (Extern.ReflectliteValue.parts (.agg #[.pointer (some ⟨11, 77, none⟩), .pointer (some ⟨q, 0, none⟩), .int .u64 150])).run Tryz.prog w = .ok (some (77, ⟨q, 0, none⟩, 150)) w := by kernel_rfl
  have he : (Extern.Rtype.elem? 77).run Tryz.prog w = .ok (some 75) w := by kernel_rfl
  have hm : (Extern.ReflectliteValue.mk 75 ⟨g, 0, none⟩ 256).run Tryz.prog w = .ok (.agg #[.pointer (some ⟨11, 75, none⟩), .pointer (some ⟨g, 0, none⟩), .int .u64 409]) w := by kernel_rfl
  have hl := as_loadP g q w hq
  rw [@run_callFunc_extern Tryz.prog 149 _ (Extern.ReflectliteValue.method (Extern.ReflectliteValue.valueError "reflectlite.Value.Elem" 0) Extern.ReflectliteValue.elem) Tryz.func149 (by kernel_rfl) (by kernel_rfl) (by kernel_rfl) (by kernel_rfl)]
  obtain ⟨k, e1, e2⟩ : ∃ k, Extern.ReflectliteValue.method (Extern.ReflectliteValue.valueError "reflectlite.Value.Elem" 0) Extern.ReflectliteValue.elem #[.agg #[.pointer (some ⟨11, 77, none⟩), .pointer (some ⟨q, 0, none⟩), .int .u64 150]] = (Extern.ReflectliteValue.parts (.agg #[.pointer (some ⟨11, 77, none⟩), .pointer (some ⟨q, 0, none⟩), .int .u64 150]) >>= k) ∧
    k (some (77, ⟨q, 0, none⟩, 150)) = Extern.ReflectliteValue.elem 77 ⟨q, 0, none⟩ 150 22 := ⟨_, rfl, rfl⟩
  rw [e1, Sem.run_bind, hp]
  simp only [Result.andThen]
  rw [e2]
  simp [Extern.ReflectliteValue.elem, Sem.run_bind, hl, he, Extern.ReflectliteValue.flagAddr, hm, Result.andThen]
theorem as_set (g b : Nat) (n : Int) (p : Addr) (v0 v1 : Value) (w : World) (hb0 : w.cell? ⟨b, 0, none⟩ = some (.int .i64 n)) (hb1 : w.cell? ⟨b, 1, none⟩ = some (.iface 261 (.pointer (some p)))) (hg : w.heap[g]? = some (.cells #[v0, v1] 75 (0, 0))) : (callFunc 150 #[.agg #[.pointer (some ⟨11, 75, none⟩), .pointer (some ⟨g, 0, none⟩), .int .u64 409], .agg #[.pointer (some ⟨11, 75, none⟩), .pointer (some ⟨b, 0, none⟩), .int .u64 153]]).run Tryz.prog w = .ok (.value (.tuple #[])) ((w.setCell ⟨g, 0, none⟩ (.int .i64 n)).setCell ⟨g, 1, none⟩ (.iface 261 (.pointer (some p)))) := by
  have hp1 : (Extern.ReflectliteValue.parts (.agg #[.pointer (some ⟨11, 75, none⟩), .pointer (some ⟨g, 0, none⟩), .int .u64 409])).run Tryz.prog w = .ok (some (75, ⟨g, 0, none⟩, 409)) w := by kernel_rfl
  have hp2 : (Extern.ReflectliteValue.parts (.agg #[.pointer (some ⟨11, 75, none⟩), .pointer (some ⟨b, 0, none⟩), .int .u64 153])).run Tryz.prog w = .ok (some (75, ⟨b, 0, none⟩, 153)) w := by kernel_rfl
  have hd : (Extern.Rtype.directlyAssignable 75 75).run Tryz.prog w = .ok true w := by kernel_rfl
  have hl : (loadVar 75 ⟨b, 0, none⟩).run Tryz.prog w = .ok (.agg #[.int .i64 n, .iface 261 (.pointer (some p))]) w := by
    simp [go_sem, loadVar, hb0, hb1]
  have hf0 := (cellOfB hg 0 _ rfl)
  have h2 := heap_setCell_same w g 0 _ _ (.int .i64 n) hg
  have hf2 := (cellOfB h2 1 v1 rfl)
  have hst : (storeVar 75 ⟨g, 0, none⟩ (.agg #[.int .i64 n, .iface 261 (.pointer (some p))])).run Tryz.prog w = .ok () ((w.setCell ⟨g, 0, none⟩ (.int .i64 n)).setCell ⟨g, 1, none⟩ (.iface 261 (.pointer (some p)))) := by
    simp [go_sem, storeVar, hf0.1, hf0.2, hf2.1, hf2.2]
  rw [@run_callFunc_extern Tryz.prog 150 _ Extern.ReflectliteValue.set Tryz.func150 (by kernel_rfl) (by kernel_rfl) (by kernel_rfl) (by kernel_rfl)]
  obtain ⟨k1, k2, k3, k4, k5, e1, e2, e3, e4, e5, e6⟩ : ∃ k1 k2 k3 k4 k5, Extern.ReflectliteValue.set #[.agg #[.pointer (some ⟨11, 75, none⟩), .pointer (some ⟨g, 0, none⟩), .int .u64 409], .agg #[.pointer (some ⟨11, 75, none⟩), .pointer (some ⟨b, 0, none⟩), .int .u64 153]] = (Extern.ReflectliteValue.parts (.agg #[.pointer (some ⟨11, 75, none⟩), .pointer (some ⟨g, 0, none⟩), .int .u64 409]) >>= k1) ∧
      k1 (some (75, ⟨g, 0, none⟩, 409)) = (Extern.ReflectliteValue.parts (.agg #[.pointer (some ⟨11, 75, none⟩), .pointer (some ⟨b, 0, none⟩), .int .u64 153]) >>= k2) ∧
      k2 (some (75, ⟨b, 0, none⟩, 153)) = (loadVar 75 ⟨b, 0, none⟩ >>= k3) ∧
      k3 (.agg #[.int .i64 n, .iface 261 (.pointer (some p))]) = (Extern.Rtype.directlyAssignable 75 75 >>= k4) ∧
      k4 true = (storeVar 75 ⟨g, 0, none⟩ (.agg #[.int .i64 n, .iface 261 (.pointer (some p))]) >>= k5) ∧
      k5 () = pure (.tuple #[]) := ⟨_, _, _, _, _, rfl, rfl, rfl, rfl, rfl, rfl⟩
  rw [e1, Sem.run_bind, hp1]
  simp only [Result.andThen]
  rw [e2, Sem.run_bind, hp2]
  simp only [Result.andThen]
  rw [e3, Sem.run_bind, hl]
  simp only [Result.andThen]
  rw [e4, Sem.run_bind, hd]
  simp only [Result.andThen]
  rw [e5, Sem.run_bind, hst]
  simp only [Result.andThen]
  rw [e6]
  rfl
end
end Go.Proofs.YtimmjimeldejjaaGreatDoor
namespace Go.Proofs.YtimmjimeldejjaaGreatDoor
section
open Go.RowKit
set_option linter.unusedVariables false
set_option linter.unusedSimpArgs false
set_option maxRecDepth 20000

theorem as_nil (v : Value) (w : World) :
    Calls Tryz.prog 50 #[.nilIface, v] w fun e w' => e = .returned (.bool false) ∧ w = w' := by
  go_enter Tryz.func50, Tryz.ntmps50
  go_wp2
  go_ret
  exact ⟨rfl, rfl⟩
set_option maxHeartbeats 3200000 in
theorem as_bad (n : Int) (p : Addr) (g q : Nat) (v0 v1 : Value) (w : World) (hg : w.heap[g]? = some (.cells #[v0, v1] 75 (0, 0))) (hq : w.cell? ⟨q, 0, none⟩ = some (.pointer (some ⟨g, 0, none⟩))) :
    Calls Tryz.prog 82 #[.iface 75 (.agg #[.int .i64 n, .iface 261 (.pointer (some p))]), .iface 77 (.pointer (some ⟨g, 0, none⟩)), .agg #[.pointer (some ⟨11, 77, none⟩), .pointer (some ⟨q, 0, none⟩), .int .u64 150], .iface 165 (.agg #[.pointer (some ⟨11, 75, none⟩)])] w fun e w' => e = .returned (.bool true) ∧ w'.heap[g]? = some (.cells #[.int .i64 n, .iface 261 (.pointer (some p))] 75 (0, 0)) ∧ Chg (fun k => k = g) w w' := by
  have hgl : g < w.heap.size := (Array.getElem?_eq_some_iff.1 hg).1
  have hql : q < w.heap.size := by
    rcases Nat.lt_or_ge q w.heap.size with h' | h'
    · exact h'
    · simp [World.cell?, Array.getElem?_eq_none h'] at hq
  obtain ⟨w1, hw1⟩ : ∃ w1, w1 = w.alloc (.cells #[.pointer (some ⟨11, 77, none⟩), .pointer (some ⟨q, 0, none⟩), .int .u64 150] 109) := ⟨_, rfl⟩
  have hb1 : Below w.heap.size w w1 := hw1 ▸ belowAlloc w _
  have b1 : w1.heap[w.heap.size]? = some (.cells #[.pointer (some ⟨11, 77, none⟩), .pointer (some ⟨q, 0, none⟩), .int .u64 150] 109 (0, 0)) := hw1 ▸ allocNew w _
  obtain ⟨w2, hw2⟩ : ∃ w2, w2 = w1.alloc (.cells #[.int .i64 n, .iface 261 (.pointer (some p))] 75) := ⟨_, rfl⟩
  have hb2 : Below w1.heap.size w1 w2 := hw2 ▸ belowAlloc w1 _
  have b2 : w2.heap[w1.heap.size]? = some (.cells #[.int .i64 n, .iface 261 (.pointer (some p))] 75 (0, 0)) := hw2 ▸ allocNew w1 _
  have hs1 : w1.heap.size = w.heap.size + 1 := by rw [hw1]; simp
  rw [hs1] at b2
  have x0 := (cellOfB b1 0 _ rfl).1
  have x1 := (cellOfB b1 1 _ rfl).1
  have x2 := (cellOfB b1 2 _ rfl).1
  have hg2 := keepB (keepB hg hb1) hb2
  have f1 := as_typeOfB (.agg #[.int .i64 n, .iface 261 (.pointer (some p))])
  have f2 := as_mAssign
  have f3 := as_assign
  have f4 := as_elemV g q w1 (by rw [hb1.cell (p := ⟨q, 0, none⟩) hql]; exact hq)
  have f5 := as_valueOfB n p w1
  rw [← hw2] at f5
  have f6 := as_set g (w.heap.size + 1) n p v0 v1 w2 (cellOfB b2 0 _ rfl).1 (cellOfB b2 1 _ rfl).1 hg2
  have c6 : Chg (fun k => k = g) w2 ((w2.setCell ⟨g, 0, none⟩ (.int .i64 n)).setCell ⟨g, 1, none⟩ (.iface 261 (.pointer (some p)))) := (chgCell w2 g 0 _).trans (chgCell _ g 1 _)
  have b6 : ((w2.setCell ⟨g, 0, none⟩ (.int .i64 n)).setCell ⟨g, 1, none⟩ (.iface 261 (.pointer (some p)))).heap[g]? = some (.cells #[.int .i64 n, .iface 261 (.pointer (some p))] 75 (0, 0)) := by
    have e1 := heap_setCell_same w2 g 0 _ _ (.int .i64 n) hg2
    have e2 := heap_setCell_same _ g 1 _ _ (.iface 261 (.pointer (some p))) e1
    rw [e2]; rfl
  have hall : Chg (fun k => k = g) w ((w2.setCell ⟨g, 0, none⟩ (.int .i64 n)).setCell ⟨g, 1, none⟩ (.iface 261 (.pointer (some p)))) := ((Chg.ofBelow hb1).trans (Chg.ofBelow hb2)).trans c6
  generalize (w2.setCell ⟨g, 0, none⟩ (.int .i64 n)).setCell ⟨g, 1, none⟩ (.iface 261 (.pointer (some p))) = w3 at *
  clear hg hq hgl hql hb1 hb2 b1 b2 hg2 c6 hw2 hs1
  have Hall := Lib.hid hall; clear hall
  have B6 := Lib.hid b6; clear b6
  subst hw1
  go_enter Tryz.func82, Tryz.ntmps82
  go_wp2
  refine wp_loop_rounds 1 ?_
  rw [rounds_succ]
  go_wp2
  go_ret
  exact ⟨rfl, B6.out, Hall.out⟩
set_option maxHeartbeats 3200000 in
theorem As_bad (n : Int) (p : Addr) (g : Nat) (v0 v1 : Value) (w : World) (hg : w.heap[g]? = some (.cells #[v0, v1] 75 (0, 0))) (h0 : w.cell? ⟨0, 0, none⟩ = some (.iface 165 (.agg #[.pointer (some ⟨11, 73, none⟩)]))) (hlo : 0 < w.heap.size) :
    Calls Tryz.prog 50 #[.iface 75 (.agg #[.int .i64 n, .iface 261 (.pointer (some p))]), .iface 77 (.pointer (some ⟨g, 0, none⟩))] w fun e w' => e = .returned (.bool true) ∧ w'.heap[g]? = some (.cells #[.int .i64 n, .iface 261 (.pointer (some p))] 75 (0, 0)) ∧ Chg (fun k => k = g) w w' := by
  obtain ⟨w1, hw1⟩ : ∃ w1, w1 = w.alloc (.cells #[.pointer (some ⟨g, 0, none⟩)] 77) := ⟨_, rfl⟩
  have hb1 : Below w.heap.size w w1 := hw1 ▸ belowAlloc w _
  have b1 : w1.heap[w.heap.size]? = some (.cells #[.pointer (some ⟨g, 0, none⟩)] 77 (0, 0)) := hw1 ▸ allocNew w _
  obtain ⟨w2, hw2⟩ : ∃ w2, w2 = w1.alloc (.cells #[.pointer (some ⟨11, 77, none⟩), .pointer (some ⟨w.heap.size, 0, none⟩), .int .u64 150] 109) := ⟨_, rfl⟩
  have hb2 : Below w1.heap.size w1 w2 := hw2 ▸ belowAlloc w1 _
  have b2 : w2.heap[w1.heap.size]? = some (.cells #[.pointer (some ⟨11, 77, none⟩), .pointer (some ⟨w.heap.size, 0, none⟩), .int .u64 150] 109 (0, 0)) := hw2 ▸ allocNew w1 _
  have x0 := (cellOfB b2 0 _ rfl).1
  have x1 := (cellOfB b2 1 _ rfl).1
  have x2 := (cellOfB b2 2 _ rfl).1
  have hb12 := belowTrans hb1 hb2 (Nat.le_refl _)
  have g2 : w2.cell? ⟨0, 0, none⟩ = some (.iface 165 (.agg #[.pointer (some ⟨11, 73, none⟩)])) := by rw [hb12.cell (p := ⟨0, 0, none⟩) hlo]; exact h0
  have hq := (cellOfB (keepB b1 hb2) 0 _ rfl).1
  have f1 := as_valueOfP g w
  rw [← hw1] at f1
  have f2 := as_type ⟨w.heap.size, 0, none⟩
  have f3 := as_mKind
  have f4 := as_kindP
  have f5 := as_isNil g w.heap.size w2 hq
  have f6 := as_mElem
  have f7 := as_elem
  have f8 := as_kindB
  have f9 := as_mImpl
  have f10 := as_impl
  have hcon := (as_bad n p g w.heap.size v0 v1 w2 (keepB (keepB hg hb1) hb2) hq).mono (R' := fun e w' => e = .returned (.bool true) ∧ w'.heap[g]? = some (.cells #[.int .i64 n, .iface 261 (.pointer (some p))] 75 (0, 0)) ∧ Chg (fun k => k = g) w w')
    (fun e w' ⟨e1, e2, e3⟩ => ⟨e1, e2, (Chg.ofBelow hb12).trans e3⟩)
  clear hg h0 hlo hb1 hb2 b1 b2 hb12 hq hw1
  subst hw2
  have Hcon := Lib.hid hcon; clear hcon
  go_enter Tryz.func50, Tryz.ntmps50
  go_wp2_with fail
  with_reducible refine (Hcon.out).mono ?_
  rintro e w3 ⟨rfl, q1, q2⟩
  have Q1 := Lib.hid q1; clear q1
  have Q2 := Lib.hid q2; clear q2
  go_wp2
  go_ret
  exact ⟨rfl, Q1.out, Q2.out⟩
end
end Go.Proofs.YtimmjimeldejjaaGreatDoor
namespace Go.Proofs.YtimmjimeldejjaaGreatDoor
section
open Go.RowKit
set_option linter.unusedVariables false
set_option linter.unusedSimpArgs false
set_option maxRecDepth 20000

/-- the library's own variable holds the handle of the type of errors -/
structure TyOk (w : World) : Prop where
  ty : w.cell? ⟨0, 0, none⟩ = some (.iface 165 (.agg #[.pointer (some ⟨11, 73, none⟩)]))
  low : 0 < w.heap.size
theorem TyOk.keep {w w' : World} (h : TyOk w) (hb : Below w.heap.size w w') : TyOk w' :=
  ⟨by rw [hb.cell (p := ⟨0, 0, none⟩) h.low]; exact h.ty, by have := hb.size; have := h.low; omega⟩
theorem errsF_getD (pn pw : Addr) (l : List Ans) : ∀ (j k : Nat), k < l.length → (errsF pn pw j l).getD k undef = erV ((j + k + 1 : Nat) : Int) pn pw (l.getD k .what) := by
  induction l with
  | nil => intro j k h; simp at h
  | cons x l ih =>
    intro j k h
    cases k with
    | zero => rfl
    | succ k =>
      have := ih (j + 1) k (by simpa using h)
      simp only [errsF, List.getD_cons_succ]
      rw [this, show j + 1 + k + 1 = j + (k + 1) + 1 by omega]
set_option maxHeartbeats 6400000 in
theorem impl_FailedLines (pn pw : Addr) (s : ByteArray) (w : World) (hs : s.size ≤ 1048576) (hd : DkOk w pn pw) (hT : TyOk w) :
    Calls Tryz.prog 22 #[.string s] w fun e w' => ∃ a m c, e = .returned (.tuple #[.slice a m c, .bool (mFailedLines s.data.toList).2]) ∧ Own w.heap.size w'.heap.size w' a m c (mFailedLines s.data.toList).1 ∧ Below w.heap.size w w' := by
  have hcon := deskBehind_any pn pw s w hs hd
  unfold DbPost at hcon
  rw [mFL_resS]
  simp only
  have hlen := dkRes_len s.data.toList
  generalize (linesS s.data.toList).isSome = ok at *
  obtain ⟨As, hAs⟩ : ∃ As, As = (dkRes s.data.toList).2 := ⟨_, rfl⟩
  rw [← hAs] at hcon hlen ⊢
  have hcon2 := hcon.mono (R' := fun e w' => ∃ pa pk pc ra rn rc ea en ec, e = .returned (.tuple #[.agg #[.slice pa pk pc, .slice ra rn rc, .slice ea en ec], .bool ok]) ∧ OwnRow w.heap.size w'.heap.size w' 73 ea en ec (errsF pn pw 0 As) ∧ Below w.heap.size w w')
    (fun e w' ⟨pa, pk, pc, ra, rn, rc, ea, en, ec, e1, _, _, e4, e5⟩ => ⟨pa, pk, pc, ra, rn, rc, ea, en, ec, e1, e4, e5⟩)
  clear hs hcon hd hAs
  have Hcon2 := Lib.hid hcon2; clear hcon2
  go_enter Tryz.func22, Tryz.ntmps22
  go_wp2_with fail
  with_reducible refine (Hcon2.out).mono ?_
  rintro e w1 ⟨pa, pk, pc, ra, rn, rc, ea, en, ec, rfl, hE, hb1⟩
  obtain ⟨w2, hw2⟩ : ∃ w2, w2 = w1.alloc (.cells #[.slice pa pk pc, .slice ra rn rc, .slice ea en ec] 58) := ⟨_, rfl⟩
  have hbD : Below w1.heap.size w1 w2 := hw2 ▸ belowAlloc w1 _
  have D2 : DkB w2 w1.heap.size pa pk pc ra rn rc ea en ec := hw2 ▸ DkB.new w1 pa pk pc ra rn rc ea en ec
  have hal : As.length = en := by have := hE.length; rw [errsF_length] at this; exact this
  have hen8 : (en : Int) ≤ 50 := by omega
  have hb2 := belowTrans hb1 hbD (Nat.le_refl _)
  have hv : ValsAt w2 ea en ec (errsF pn pw 0 As) := (hE.keep hbD).at
  have hty2 := hT.keep hb2
  have hsz2 := hb2.size
  obtain ⟨⟨x0, x1, x2⟩, y0, y1, y2⟩ := D2.cells
  clear hE hb1 hbD hT D2
  have Hb2 := Lib.hid hb2; clear hb2
  have Hty2 := Lib.hid hty2; clear hty2
  subst hw2
  go_wp2_with fail
  generalize hw2 : w1.alloc (.cells #[.slice pa pk pc, .slice ra rn rc, .slice ea en ec] 58) = w2 at *
  go_loopw [6, 18] (fun v i wr => ∃ (k m : Nat) (a : Option Addr) (c : Nat), k ≤ en ∧ m ≤ k ∧ i = .int .i64 k ∧ v = .slice a m c ∧ Hid (Own w2.heap.size wr.heap.size wr a m c (failF 0 (As.take k)) ∧ Below w2.heap.size w2 wr)) (fun _ i _ => en - (intOf i).toNat)
  case atStart => exact ⟨0, 0, none, 0, Nat.zero_le _, Nat.le_refl _, rfl, rfl, Lib.hid ⟨Own.nil _ _ _, Below.refl _ _⟩⟩
  case round =>
    obtain ⟨k, m, a, c, hk, hm, rfl, rfl, Hq⟩ := hrel
    obtain ⟨hF, hbr⟩ := Hq.out
    by_cases hlt : k < en
    · have hvr := hv.keep hbr
      obtain ⟨b', o', rfl, hbl, hcl⟩ := hvr.cell k hlt
      have hck := hcl k hlt
      rw [errsF_getD pn pw As 0 k (by omega), Nat.zero_add] at hck
      have hst := failF_step hal hlt
      have hbA := belowAlloc wr (.cells #[.int .i64 0, .nilIface] 75)
      have bA : (wr.alloc (.cells #[.int .i64 0, .nilIface] 75)).heap[wr.heap.size]? = some (.cells #[.int .i64 0, .nilIface] 75 (0, 0)) := allocNew wr _
      have hba := belowTrans hbr hbA (Nat.le_refl _)
      have hFA := (hF.keep hbA).mono (Nat.le_refl _) hbA.size
      have hrsz := hbr.size
      have htyA := (Hty2.out).keep hba
      clear hcl hvr Hq
      cases hx : As.getD k .what with
      | ok t =>
        rw [hx] at hck hst
        rw [if_neg (by simp [badA]), List.append_nil] at hst
        simp only [erV] at hck
        have hq2 : Hid (Own w2.heap.size (wr.alloc (.cells #[.int .i64 0, .nilIface] 75)).heap.size (wr.alloc (.cells #[.int .i64 0, .nilIface] 75)) a m c (failF 0 (As.take (k + 1))) ∧ Below w2.heap.size w2 (wr.alloc (.cells #[.int .i64 0, .nilIface] 75))) := Lib.hid ⟨by rw [hst]; exact hFA, hba⟩
        have hcon := as_nil (.iface 77 (.pointer (some ⟨wr.heap.size, 0, none⟩))) (wr.alloc (.cells #[.int .i64 0, .nilIface] 75))
        clear hst hF hbr hx hbA bA hba hFA htyA
        have Hcon := Lib.hid hcon; clear hcon
        go_wp2_with fail
        with_reducible refine (Hcon.out).mono ?_
        rintro e w4 ⟨rfl, rfl⟩
        go_wp2
        go_roundw
        case rel => exact ⟨k + 1, m, a, c, by omega, by omega, by go_num, rfl, hq2⟩
        case measure => simp [intOf]; omega
      | no =>
        rw [hx] at hck hst
        rw [if_pos (by simp [badA])] at hst
        simp only [erV, errV] at hck
        have hcon := As_bad ((k + 1 : Nat) : Int) pn wr.heap.size _ _ (wr.alloc (.cells #[.int .i64 0, .nilIface] 75)) bA htyA.ty htyA.low
        have hm8 : m ≤ 50 := by omega
        have hk8 : ((k + 1 : Nat) : Int) ≤ 50 := by omega
        have hgF : w2.heap.size ≤ wr.heap.size := hrsz
        have hkeep := fun w4 (hc : Chg (fun q => q = wr.heap.size) (wr.alloc (.cells #[.int .i64 0, .nilIface] 75)) w4) => (⟨(hF.keep hbA).chg hc (fun q h1 h2 _ e => by omega), hba.trans (hc.below hba.size (fun q e => by omega))⟩ : Own w2.heap.size wr.heap.size w4 a m c (failF 0 (As.take k)) ∧ Below w2.heap.size w2 w4)
        generalize hkk : ((k + 1 : Nat) : Int) = K at *
        clear hF hbr hx hbA bA hba hFA htyA
        have Hcon := Lib.hid hcon; clear hcon
        have Hkeep := Lib.hid hkeep; clear hkeep
        have Hst := Lib.hid hst; clear hst
        have Hkk := Lib.hid hkk; clear hkk
        go_wp2_with fail
        with_reducible refine (Hcon.out).mono ?_
        rintro e w4 ⟨rfl, q1, q2⟩
        obtain ⟨hF4, hb4⟩ := Hkeep.out w4 q2
        have z0 := (cellOfB q1 0 _ rfl).1
        have hs4 := q2.size
        have hs4' : wr.heap.size ≤ w4.heap.size := by simp at hs4; omega
        clear q1 q2 hs4
        go_wp2_with (at_builtin; refine wpList_push w4 rfl _ _ rfl w2.heap.size wr.heap.size a m c _ rfl hF4 _ rfl (by omega) hb4.size ?_)
        intro a5 c5 w5 ho5 hc5
        have hb5 := hb4.trans (hF4.chgBelow hc5 hb4.size)
        have hq5 : Hid (Own w2.heap.size w5.heap.size w5 a5 (m + 1) c5 (failF 0 (As.take (k + 1))) ∧ Below w2.heap.size w2 w5) := Lib.hid ⟨by rw [Hst.out]; exact ho5, hb5⟩
        clear hF4 hb4 ho5 hc5 hb5
        go_wp2
        go_roundw
        case rel => exact ⟨k + 1, m + 1, a5, c5, by omega, by omega, by go_num, rfl, hq5⟩
        case measure => simp [intOf]; omega
      | what =>
        rw [hx] at hck hst
        rw [if_pos (by simp [badA])] at hst
        simp only [erV, errV] at hck
        have hcon := As_bad ((k + 1 : Nat) : Int) pw wr.heap.size _ _ (wr.alloc (.cells #[.int .i64 0, .nilIface] 75)) bA htyA.ty htyA.low
        have hm8 : m ≤ 50 := by omega
        have hk8 : ((k + 1 : Nat) : Int) ≤ 50 := by omega
        have hgF : w2.heap.size ≤ wr.heap.size := hrsz
        have hkeep := fun w4 (hc : Chg (fun q => q = wr.heap.size) (wr.alloc (.cells #[.int .i64 0, .nilIface] 75)) w4) => (⟨(hF.keep hbA).chg hc (fun q h1 h2 _ e => by omega), hba.trans (hc.below hba.size (fun q e => by omega))⟩ : Own w2.heap.size wr.heap.size w4 a m c (failF 0 (As.take k)) ∧ Below w2.heap.size w2 w4)
        generalize hkk : ((k + 1 : Nat) : Int) = K at *
        clear hF hbr hx hbA bA hba hFA htyA
        have Hcon := Lib.hid hcon; clear hcon
        have Hkeep := Lib.hid hkeep; clear hkeep
        have Hst := Lib.hid hst; clear hst
        have Hkk := Lib.hid hkk; clear hkk
        go_wp2_with fail
        with_reducible refine (Hcon.out).mono ?_
        rintro e w4 ⟨rfl, q1, q2⟩
        obtain ⟨hF4, hb4⟩ := Hkeep.out w4 q2
        have z0 := (cellOfB q1 0 _ rfl).1
        have hs4 := q2.size
        have hs4' : wr.heap.size ≤ w4.heap.size := by simp at hs4; omega
        clear q1 q2 hs4
        go_wp2_with (at_builtin; refine wpList_push w4 rfl _ _ rfl w2.heap.size wr.heap.size a m c _ rfl hF4 _ rfl (by omega) hb4.size ?_)
        intro a5 c5 w5 ho5 hc5
        have hb5 := hb4.trans (hF4.chgBelow hc5 hb4.size)
        have hq5 : Hid (Own w2.heap.size w5.heap.size w5 a5 (m + 1) c5 (failF 0 (As.take (k + 1))) ∧ Below w2.heap.size w2 w5) := Lib.hid ⟨by rw [Hst.out]; exact ho5, hb5⟩
        clear hF4 hb4 ho5 hc5 hb5
        go_wp2
        go_roundw
        case rel => exact ⟨k + 1, m + 1, a5, c5, by omega, by omega, by go_num, rfl, hq5⟩
        case measure => simp [intOf]; omega
    · obtain rfl : k = en := by omega
      have htk : As.take k = As := List.take_of_length_le (by omega)
      rw [htk] at hF
      have hbw := belowTrans Hb2.out hbr (Nat.le_refl _)
      have hF2 := hF.mono hsz2 (Nat.le_refl _)
      clear hF hbr Hq htk
      have HF2 := Lib.hid hF2; clear hF2
      have Hbw := Lib.hid hbw; clear hbw
      go_wp2
      go_ret2
      exact ⟨a, m, c, rfl, HF2.out, Hbw.out⟩
end
end Go.Proofs.YtimmjimeldejjaaGreatDoor
