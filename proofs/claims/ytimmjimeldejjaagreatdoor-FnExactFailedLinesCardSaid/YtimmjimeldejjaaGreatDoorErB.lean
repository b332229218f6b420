/- errors.As where the error is nil or a line that was not executed. Its condition: what the library's own variable holds. -/
import Derived.Test.YtimmjimeldejjaaGreatDoorEr
namespace Go.Proofs.YtimmjimeldejjaaGreatDoor
open Go.RowKit Go.Extern.Stop Go.Stop Go.Extern
set_option linter.unusedVariables false
set_option linter.unusedSimpArgs false
set_option maxRecDepth 20000

/-- a pointer to a line that was not executed; such a line; their handles -/
def ptB (g : Nat) : Value := .iface 77 (.pointer (some ⟨g, 0, none⟩))
def hP : Value := .pointer (some ⟨11, 77, none⟩)
def hB : Value := .pointer (some ⟨11, 75, none⟩)
def hE : Value := .pointer (some ⟨11, 73, none⟩)
def rt (h : Value) : Value := .iface 165 (.agg #[h])
theorem as_valueOfP (g : Nat) (w : World) : (callFunc 79 #[.iface 77 (.pointer (some ⟨g, 0, none⟩))]).run Tryz.prog w = .ok (.value (.agg #[.pointer (some ⟨11, 77, none⟩), .pointer (some ⟨w.heap.size, 0, none⟩), .int .u64 150])) (w.alloc (.cells #[.pointer (some ⟨g, 0, none⟩)] 77)) := by
  rw [@run_callFunc_extern Tryz.prog 79 _ (fun args => Extern.ReflectliteValue.unpack (args.getD 0 (.tuple #[]))) Tryz.func79 (by kernel_rfl) (by kernel_rfl) (by kernel_rfl) (by kernel_rfl)]
  kernel_rfl
theorem as_type (a : Addr) (w : World) : (callFunc 80 #[.agg #[.pointer (some ⟨11, 77, none⟩), .pointer (some a), .int .u64 150]]).run Tryz.prog w = .ok (.value (.iface 165 (.agg #[.pointer (some ⟨11, 77, none⟩)]))) w := by
  rw [@run_callFunc_extern Tryz.prog 80 _ (Extern.ReflectliteValue.methodAny (Extern.ReflectliteValue.valueError "reflectlite.Value.Type" 0) fun t _ _ _ => Extern.ReflectliteType.toType t) Tryz.func80 (by kernel_rfl) (by kernel_rfl) (by kernel_rfl) (by kernel_rfl)]
  kernel_rfl
theorem as_mKind (h : Value) (w : World) : (Go.method 399 165 (.agg #[h]) "Kind").run Tryz.prog w = .ok (281, h) w := by kernel_rfl
theorem as_mElem (v : Value) (w : World) : (Go.method 399 165 v "Elem").run Tryz.prog w = .ok (302, v) w := by kernel_rfl
theorem as_mImpl (v : Value) (w : World) : (Go.method 399 165 v "Implements").run Tryz.prog w = .ok (303, v) w := by kernel_rfl
theorem as_mAssign (v : Value) (w : World) : (Go.method 399 165 v "AssignableTo").run Tryz.prog w = .ok (300, v) w := by kernel_rfl
theorem as_kindP (w : World) : (callFunc 281 #[.pointer (some ⟨11, 77, none⟩)]).run Tryz.prog w = .ok (.value (.int .u8 22)) w := by
  rw [@run_callFunc_extern Tryz.prog 281 _ (Extern.ReflectliteType.abiMethod fun t => do pure (.int .u8 (← Extern.Rtype.kind t))) Tryz.func281 (by kernel_rfl) (by kernel_rfl) (by kernel_rfl) (by kernel_rfl)]
  kernel_rfl
theorem as_kindB (w : World) : (callFunc 281 #[.pointer (some ⟨11, 75, none⟩)]).run Tryz.prog w = .ok (.value (.int .u8 25)) w := by
  rw [@run_callFunc_extern Tryz.prog 281 _ (Extern.ReflectliteType.abiMethod fun t => do pure (.int .u8 (← Extern.Rtype.kind t))) Tryz.func281 (by kernel_rfl) (by kernel_rfl) (by kernel_rfl) (by kernel_rfl)]
  kernel_rfl
theorem as_elem (w : World) : (callFunc 302 #[.agg #[.pointer (some ⟨11, 77, none⟩)]]).run Tryz.prog w = .ok (.value (.iface 165 (.agg #[.pointer (some ⟨11, 75, none⟩)]))) w := by
  rw [@run_callFunc_extern Tryz.prog 302 _ (Extern.ReflectliteType.method Extern.ReflectliteType.elem) Tryz.func302 (by kernel_rfl) (by kernel_rfl) (by kernel_rfl) (by kernel_rfl)]
  kernel_rfl
theorem as_implRel (w : World) : ((Extern.ReflectliteType.relation "Implements" Extern.ReflectliteType.implements_) #[.agg #[.pointer (some ⟨11, 75, none⟩)], .iface 165 (.agg #[.pointer (some ⟨11, 73, none⟩)])]).run Tryz.prog w = .ok (.bool true) w := by kernel_rfl
theorem as_impl (w : World) : (callFunc 303 #[.agg #[.pointer (some ⟨11, 75, none⟩)], .iface 165 (.agg #[.pointer (some ⟨11, 73, none⟩)])]).run Tryz.prog w = .ok (.value (.bool true)) w := by
  rw [@run_callFunc_extern Tryz.prog 303 _ (Extern.ReflectliteType.relation "Implements" Extern.ReflectliteType.implements_) Tryz.func303 (by kernel_rfl) (by kernel_rfl) (by kernel_rfl) (by kernel_rfl), as_implRel]
  rfl
theorem as_typeOfB (v : Value) (w : World) : (callFunc 148 #[.iface 75 v]).run Tryz.prog w = .ok (.value (.iface 165 (.agg #[.pointer (some ⟨11, 75, none⟩)]))) w := by
  rw [@run_callFunc_extern Tryz.prog 148 _ Extern.ReflectliteType.typeOf Tryz.func148 (by kernel_rfl) (by kernel_rfl) (by kernel_rfl) (by kernel_rfl)]
  kernel_rfl
theorem as_assign (w : World) : (callFunc 300 #[.agg #[.pointer (some ⟨11, 75, none⟩)], .iface 165 (.agg #[.pointer (some ⟨11, 75, none⟩)])]).run Tryz.prog w = .ok (.value (.bool true)) w := by
  rw [@run_callFunc_extern Tryz.prog 300 _ (Extern.ReflectliteType.relation "AssignableTo" Extern.ReflectliteType.assignableTo) Tryz.func300 (by kernel_rfl) (by kernel_rfl) (by kernel_rfl) (by kernel_rfl)]
  kernel_rfl
theorem as_valueOfB (n : Int) (p : Addr) (w : World) : (callFunc 79 #[.iface 75 (.agg #[.int .i64 n, .iface 261 (.pointer (some p))])]).run Tryz.prog w = .ok (.value (.agg #[.pointer (some ⟨11, 75, none⟩), .pointer (some ⟨w.heap.size, 0, none⟩), .int .u64 153])) (w.alloc (.cells #[.int .i64 n, .iface 261 (.pointer (some p))] 75)) := by
  rw [@run_callFunc_extern Tryz.prog 79 _ (fun args => Extern.ReflectliteValue.unpack (args.getD 0 (.tuple #[]))) Tryz.func79 (by kernel_rfl) (by kernel_rfl) (by kernel_rfl) (by kernel_rfl)]
  kernel_rfl
end Go.Proofs.YtimmjimeldejjaaGreatDoor
