/- Several texts in one: ErI, ErJ. No condition. -/
import Derived.Test.YtimmjimeldejjaaGreatDoorDk0
import Derived.LaidEql
import Derived.Stop.Asserts
import Derived.RowKitTokens
namespace Go.Proofs.YtimmjimeldejjaaGreatDoor
section
open Go.RowKit Go.Extern.Stop Go.Stop Go.Extern
set_option linter.unusedVariables false
set_option linter.unusedSimpArgs false
set_option maxRecDepth 20000

theorem Tryz.isTypeOf (v : Value) (w : World) : (Extern.ReflectliteType.typeOf #[.iface 261 v]).run Tryz.prog w = .ok (.iface 165 (.agg #[.pointer (some ⟨11, 261, none⟩)])) w := by kernel_rfl
theorem Tryz.isMethodComparable (v : Value) (w : World) : (Go.method 399 165 v "Comparable").run Tryz.prog w = .ok (301, v) w := by kernel_rfl
theorem Tryz.isComp : (Tryz.prog.info? 261).map (·.comparable) = some true := by kernel_rfl
theorem Tryz.isSize : (Tryz.prog.info? 263).map (·.size) = some 1 := by kernel_rfl
theorem Tryz.noIsE (v : Value) (xT : TypeId) (w : World) : (Instr.typeAssert (.iface 261 v) xT 212 true).run Tryz.prog w = .ok (.tuple #[.nilIface, .bool false]) w := run_typeAssert_lacksB Tryz.underlying212 (by kernel_rfl) (by kernel_rfl) v xT w
theorem Tryz.noUnwrapE (v : Value) (xT : TypeId) (w : World) : (Instr.typeAssert (.iface 261 v) xT 173 true).run Tryz.prog w = .ok (.tuple #[.nilIface, .bool false]) w := run_typeAssert_lacksB Tryz.underlying173 (by kernel_rfl) (by kernel_rfl) v xT w
theorem Tryz.noUnwrapsE (v : Value) (xT : TypeId) (w : World) : (Instr.typeAssert (.iface 261 v) xT 175 true).run Tryz.prog w = .ok (.tuple #[.nilIface, .bool false]) w := run_typeAssert_lacksB Tryz.underlying175 (by kernel_rfl) (by kernel_rfl) v xT w
theorem Tryz.noIsB (v : Value) (xT : TypeId) (w : World) : (Instr.typeAssert (.iface 75 v) xT 212 true).run Tryz.prog w = .ok (.tuple #[.nilIface, .bool false]) w := run_typeAssert_lacksB Tryz.underlying212 (by kernel_rfl) (by kernel_rfl) v xT w
theorem Tryz.hasUnwrapB (v : Value) (xT : TypeId) (w : World) : (Instr.typeAssert (.iface 75 v) xT 173 true).run Tryz.prog w = .ok (.tuple #[.iface 75 v, .bool true]) w := run_typeAssert_hasB Tryz.underlying173 (by kernel_rfl) v xT w
theorem Tryz.methodUnwrapB (v : Value) (w : World) : (Go.method 399 75 v "Unwrap").run Tryz.prog w = .ok (286, v) w := by kernel_rfl
theorem Tryz.isComparable (w : World) : ∃ h32, (callFunc 301 #[.agg #[.pointer (some ⟨11, 261, none⟩)]]).run Tryz.prog w = h32 := ⟨_, rfl⟩
/-- a line that was not executed -/
def badV (n : Int) (p : Addr) : Value := .agg #[.int .i64 n, errV p]
theorem unwrap_any (n : Int) (p : Addr) (w : World) :
    Calls Tryz.prog 286 #[.agg #[.int .i64 n, errV p]] w fun e w' => e = .returned (errV p) ∧ w' = w.alloc (.cells #[.int .i64 n, errV p] 75) := by
  have hc0 : (w.alloc (.cells #[.int .i64 n, errV p] 75)).cell? ⟨w.heap.size, 1, none⟩ = some (errV p) := (World.cell?_alloc_at _ _ _ _ rfl).trans rfl
  go_enter Tryz.func286, Tryz.ntmps286
  go_wp2
  go_ret
  exact ⟨rfl, rfl⟩
end
end Go.Proofs.YtimmjimeldejjaaGreatDoor
namespace Go.Proofs.YtimmjimeldejjaaGreatDoor
section
open Go.RowKit Go.Extern.Stop Go.Stop Go.Extern
set_option linter.unusedVariables false
set_option linter.unusedSimpArgs false
set_option maxRecDepth 20000

theorem Tryz.isCompares (w : World) : ((Extern.ReflectliteType.method fun t => do Rtype.noPackHeld "Comparable" t; Functor.map (fun a => Value.bool a.comparable) (typeInfo t)) #[.agg #[.pointer (some ⟨11, 261, none⟩)]]).run Tryz.prog w = .ok (.bool true) w := by kernel_rfl
set_option maxHeartbeats 3200000 in
/-- it wraps the error that is asked for -/
theorem is_bad (n : Int) (p : Addr) (w : World) :
    Calls Tryz.prog 175 #[.iface 75 (.agg #[.int .i64 n, errV p]), errV p, .bool true] w fun e w' => e = .returned (.bool true) ∧ Below w.heap.size w w' := by
  obtain ⟨i, hi, hcmp⟩ := Option.map_eq_some_iff.1 Tryz.isComp
  obtain ⟨j, hj, hjs⟩ := Option.map_eq_some_iff.1 Tryz.isSize
  have nB := Tryz.noIsB
  have uB := Tryz.hasUnwrapB
  have mU := Tryz.methodUnwrapB
  have hcon := unwrap_any n p w
  have hbx := belowAlloc w (.cells #[.int .i64 n, errV p] 75)
  unfold errV at *
  have heq := run_eql_iface_ptr_same (P := Tryz.prog) (w.alloc (.cells #[.int .i64 n, .iface 261 (.pointer (some p))] 75)) p Tryz.underlying73 Tryz.underlying261 hi hcmp hj
  have hty := run_eql_iface_types (P := Tryz.prog) 75 261 (.agg #[.int .i64 n, .iface 261 (.pointer (some p))]) (.pointer (some p)) Tryz.underlying73 (by decide) w
  have Hcon := Lib.hid hcon; clear hcon
  have Hbx := Lib.hid hbx; clear hbx
  go_enter Tryz.func175, Tryz.ntmps175
  go_wp2
  refine wp_loop_rounds 2 ?_
  rw [rounds_succ]
  go_wp2_with fail
  with_reducible refine (Hcon.out).mono ?_
  rintro e w1 ⟨rfl, rfl⟩
  go_wp2
  rw [rounds_succ]
  go_wp2
  go_ret
  exact ⟨rfl, Hbx.out⟩
set_option maxHeartbeats 3200000 in
/-- it wraps the other error -/
theorem is_bad_not (n : Int) (p q : Addr) (w : World) (hne : p ≠ q) (hp : ∃ c t, w.heap[p.block]? = some (.cells c t (0, 0))) (hq : ∃ c t, w.heap[q.block]? = some (.cells c t (0, 0))) :
    Calls Tryz.prog 175 #[.iface 75 (.agg #[.int .i64 n, errV p]), errV q, .bool true] w fun e w' => e = .returned (.bool false) ∧ Below w.heap.size w w' := by
  obtain ⟨i, hi, hcmp⟩ := Option.map_eq_some_iff.1 Tryz.isComp
  obtain ⟨j, hj, hjs⟩ := Option.map_eq_some_iff.1 Tryz.isSize
  obtain ⟨cp, tp, hp⟩ := hp
  obtain ⟨cq, tq, hq⟩ := hq
  have nB := Tryz.noIsB
  have uB := Tryz.hasUnwrapB
  have mU := Tryz.methodUnwrapB
  have nE := Tryz.noIsE
  have uE := Tryz.noUnwrapE
  have vE := Tryz.noUnwrapsE
  have hcon := unwrap_any n p w
  have hbx := belowAlloc w (.cells #[.int .i64 n, errV p] 75)
  unfold errV at *
  have heq := run_eql_iface_ptr_other (P := Tryz.prog) (w.alloc (.cells #[.int .i64 n, .iface 261 (.pointer (some p))] 75)) Tryz.underlying73 Tryz.underlying261 hi hcmp hj (by rw [hjs]; decide) hne (keepB hp hbx) (keepB hq hbx)
  have hty := run_eql_iface_types (P := Tryz.prog) 75 261 (.agg #[.int .i64 n, .iface 261 (.pointer (some p))]) (.pointer (some q)) Tryz.underlying73 (by decide) w
  clear hp hq hne
  have Hcon := Lib.hid hcon; clear hcon
  have Hbx := Lib.hid hbx; clear hbx
  go_enter Tryz.func175, Tryz.ntmps175
  go_wp2
  refine wp_loop_rounds 2 ?_
  rw [rounds_succ]
  go_wp2_with fail
  with_reducible refine (Hcon.out).mono ?_
  rintro e w1 ⟨rfl, rfl⟩
  go_wp2
  rw [rounds_succ]
  go_wp2
  go_ret
  exact ⟨rfl, Hbx.out⟩
set_option maxHeartbeats 3200000 in
theorem errorsIs_any (n : Int) (p q : Addr) (b : Bool) (w : World) (hcon : Calls Tryz.prog 175 #[.iface 75 (.agg #[.int .i64 n, errV p]), errV q, .bool true] w fun e w' => e = .returned (.bool b) ∧ Below w.heap.size w w') :
    Calls Tryz.prog 120 #[.iface 75 (.agg #[.int .i64 n, errV p]), errV q] w fun e w' => e = .returned (.bool b) ∧ Below w.heap.size w w' := by
  have h8 := @run_callFunc_extern Tryz.prog 148 _ Extern.ReflectliteType.typeOf Tryz.func148 (by kernel_rfl) (by kernel_rfl) (by kernel_rfl) (by kernel_rfl)
  have h32 := @run_callFunc_extern Tryz.prog 301 _ (Extern.ReflectliteType.method fun t => do Rtype.noPackHeld "Comparable" t; pure (.bool (← typeInfo t).comparable)) Tryz.func301 (by kernel_rfl) (by kernel_rfl) (by kernel_rfl) (by kernel_rfl)
  have tT := Tryz.isTypeOf
  have cT := Tryz.isCompares
  have mR := Tryz.isMethodComparable
  unfold errV at *
  have Hcon := Lib.hid hcon; clear hcon
  go_enter Tryz.func120, Tryz.ntmps120
  go_wp2_with fail
  with_reducible refine (Hcon.out).mono ?_
  rintro e w1 ⟨rfl, hb1⟩
  go_wp2
  go_ret
  exact ⟨rfl, hb1⟩
/-- the reply to a line that is not executed -/
theorem refusal_no (pn pw : Addr) (n : Int) (w : World) (hd : DkOk w pn pw) :
    Calls Tryz.prog 67 #[.iface 75 (.agg #[.int .i64 n, errV pn])] w fun e w' => e = .returned (.string ⟨#[110, 111]⟩) ∧ Below w.heap.size w w' := by
  have h1 := hd.no
  have hcon := errorsIs_any n pn pn true w (is_bad n pn w)
  unfold errV at *
  clear hd
  have Hcon := Lib.hid hcon; clear hcon
  go_enter Tryz.func67, Tryz.ntmps67
  go_wp2_with fail
  with_reducible refine (Hcon.out).mono ?_
  rintro e w1 ⟨rfl, hb1⟩
  go_wp2
  go_ret
  exact ⟨rfl, hb1⟩
theorem refusal_what (pn pw : Addr) (n : Int) (w : World) (hd : DkOk w pn pw) :
    Calls Tryz.prog 67 #[.iface 75 (.agg #[.int .i64 n, errV pw])] w fun e w' => e = .returned (.string ⟨#[119, 104, 97, 116]⟩) ∧ Below w.heap.size w w' := by
  have h1 := hd.no
  have hcon := errorsIs_any n pw pn false w (is_bad_not n pw pn w (Ne.symm hd.ne) hd.whatB hd.noB)
  unfold errV at *
  clear hd
  have Hcon := Lib.hid hcon; clear hcon
  go_enter Tryz.func67, Tryz.ntmps67
  go_wp2_with fail
  with_reducible refine (Hcon.out).mono ?_
  rintro e w1 ⟨rfl, hb1⟩
  go_wp2
  go_ret
  exact ⟨rfl, hb1⟩
end
end Go.Proofs.YtimmjimeldejjaaGreatDoor
