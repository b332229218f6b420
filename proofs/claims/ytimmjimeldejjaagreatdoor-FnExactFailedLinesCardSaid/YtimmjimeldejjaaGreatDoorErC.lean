/- errors.As where the error is nil or a line that was not executed: what reads and writes. Its condition: what the library's own variable holds. -/
import Derived.Test.YtimmjimeldejjaaGreatDoorErB
namespace Go.Proofs.YtimmjimeldejjaaGreatDoor
open Go.RowKit Go.Extern.Stop Go.Stop Go.Extern
set_option linter.unusedVariables false
set_option linter.unusedSimpArgs false
set_option maxRecDepth 20000

theorem as_loadP (g q : Nat) (w : World) (hq : w.cell? ⟨q, 0, none⟩ = some (.pointer (some ⟨g, 0, none⟩))) : (loadVar 77 ⟨q, 0, none⟩).run Tryz.prog w = .ok (.pointer (some ⟨g, 0, none⟩)) w := by
  simp [go_sem, loadVar, hq]
theorem as_isNil (g q : Nat) (w : World) (hq : w.cell? ⟨q, 0, none⟩ = some (.pointer (some ⟨g, 0, none⟩))) : (callFunc 81 #[.agg #[.pointer (some ⟨11, 77, none⟩), .pointer (some ⟨q, 0, none⟩), .int .u64 150]]).run Tryz.prog w = .ok (.value (.bool false)) w := by
  have hp : (Extern.ReflectliteValue.parts (.agg #[.pointer (some ⟨11, 77, none⟩), .pointer (some ⟨q, 0, none⟩), .int .u64 150])).run Tryz.prog w = .ok (some (77, ⟨q, 0, none⟩, 150)) w := by kernel_rfl
  have hl := as_loadP g q w hq
  rw [@run_callFunc_extern Tryz.prog 81 _ (Extern.ReflectliteValue.method (Extern.ReflectliteValue.valueError "reflectlite.Value.IsNil" 0) Extern.ReflectliteValue.isNil) Tryz.func81 (by kernel_rfl) (by kernel_rfl) (by kernel_rfl) (by kernel_rfl)]
  obtain ⟨k, e1, e2⟩ : ∃ k, Extern.ReflectliteValue.method (Extern.ReflectliteValue.valueError "reflectlite.Value.IsNil" 0) Extern.ReflectliteValue.isNil #[.agg #[.pointer (some ⟨11, 77, none⟩), .pointer (some ⟨q, 0, none⟩), .int .u64 150]] = (Extern.ReflectliteValue.parts (.agg #[.pointer (some ⟨11, 77, none⟩), .pointer (some ⟨q, 0, none⟩), .int .u64 150]) >>= k) ∧
    k (some (77, ⟨q, 0, none⟩, 150)) = Extern.ReflectliteValue.isNil 77 ⟨q, 0, none⟩ 150 22 := ⟨_, rfl, rfl⟩
  rw [e1, Sem.run_bind, hp]
  simp only [Result.andThen]
  rw [e2]
  simp [Extern.ReflectliteValue.isNil, Sem.run_bind, hl, Result.andThen]
theorem as_elemV (g q : Nat) (w : World) (hq : w.cell? ⟨q, 0, none⟩ = some (.pointer (some ⟨g, 0, none⟩))) : (callFunc 149 #[.agg #[.pointer (some ⟨11, 77, none⟩), .pointer (some ⟨q, 0, none⟩), .int .u64 150]]).run Tryz.prog w = .ok (.value (.agg #[.pointer (some ⟨11, 75, none⟩), .pointer (some ⟨g, 0, none⟩), .int .u64 409])) w := by
  have hp : (Extern.ReflectliteValue.parts (.agg #[.pointer (some ⟨11, 77, none⟩), .pointer (some ⟨q, 0, none⟩), .int .u64 150])).run Tryz.prog w = .ok (some (77, ⟨q, 0, none⟩, 150)) w := by kernel_rfl
  have he : (Extern.Rtype.elem? 77).run Tryz.prog w = .ok (some 75) w := by kernel_rfl
  have hm : (Extern.ReflectliteValue.mk 75 ⟨g, 0, none⟩ 256).run Tryz.prog w = .ok (.agg #[.pointer (some ⟨11, 75, none⟩), .pointer (some ⟨g, 0, none⟩), .int .u64 409]) w := by kernel_rfl
  have hl := as_loadP g q w hq
  rw [@run_callFunc_extern Tryz.prog 149 _ (Extern.ReflectliteValue.method (Extern.ReflectliteValue.valueError "reflectlite.Value.Elem" 0) Extern.ReflectliteValue.elem) Tryz.func149 (by kernel_rfl) (by kernel_rfl) (by kernel_rfl) (by kernel_rfl)]
  obtain ⟨k, e1, e2⟩ : ∃ k, Extern.ReflectliteValue.method (Extern.ReflectliteValue.valueError "reflectlite.Value.Elem" 0) Extern.ReflectliteValue.elem #[.agg #[.pointer (some ⟨11, 77, none⟩), .pointer (some ⟨q, 0, none⟩), .int .u64 150]] = (Extern.ReflectliteValue.parts (.agg #[.pointer (some ⟨11, 77, none⟩), .pointer (some ⟨q, 0, none⟩), .int .u64 150]) >>= k) ∧
    k (some (77, ⟨q, 0, none⟩, 150)) = Extern.ReflectliteValue.elem 77 ⟨q, 0, none⟩ 150 22 := ⟨_, rfl, rfl⟩
  rw [e1, Sem.run_bind, hp]
  simp only [Result.andThen]
  rw [e2]
  simp [Extern.ReflectliteValue.elem, Sem.run_bind, hl, he, Extern.ReflectliteValue.flagAddr, hm, Result.andThen]
theorem as_set (g b : Nat) (n : Int) (p : Addr) (v0 v1 : Value) (w : World) (hb0 : w.cell? ⟨b, 0, none⟩ = some (.int .i64 n)) (hb1 : w.cell? ⟨b, 1, none⟩ = some (.iface 261 (.pointer (some p)))) (hg : w.heap[g]? = some (.cells #[v0, v1] 75 (0, 0))) : (callFunc 150 #[.agg #[.pointer (some ⟨11, 75, none⟩), .pointer (some ⟨g, 0, none⟩), .int .u64 409], .agg #[.pointer (some ⟨11, 75, none⟩), .pointer (some ⟨b, 0, none⟩), .int .u64 153]]).run Tryz.prog w = .ok (.value (.tuple #[])) ((w.setCell ⟨g, 0, none⟩ (.int .i64 n)).setCell ⟨g, 1, none⟩ (.iface 261 (.pointer (some p)))) := by
  have hp1 : (Extern.ReflectliteValue.parts (.agg #[.pointer (some ⟨11, 75, none⟩), .pointer (some ⟨g, 0, none⟩), .int .u64 409])).run Tryz.prog w = .ok (some (75, ⟨g, 0, none⟩, 409)) w := by kernel_rfl
  have hp2 : (Extern.ReflectliteValue.parts (.agg #[.pointer (some ⟨11, 75, none⟩), .pointer (some ⟨b, 0, none⟩), .int .u64 153])).run Tryz.prog w = .ok (some (75, ⟨b, 0, none⟩, 153)) w := by kernel_rfl
  have hd : (Extern.Rtype.directlyAssignable 75 75).run Tryz.prog w = .ok true w := by kernel_rfl
  have hl : (loadVar 75 ⟨b, 0, none⟩).run Tryz.prog w = .ok (.agg #[.int .i64 n, .iface 261 (.pointer (some p))]) w := by
    simp [go_sem, loadVar, hb0, hb1]
  have hf0 := (cellOfB hg 0 _ rfl)
  have h2 := heap_setCell_same w g 0 _ _ (.int .i64 n) hg
  have hf2 := (cellOfB h2 1 v1 rfl)
  have hst : (storeVar 75 ⟨g, 0, none⟩ (.agg #[.int .i64 n, .iface 261 (.pointer (some p))])).run Tryz.prog w = .ok () ((w.setCell ⟨g, 0, none⟩ (.int .i64 n)).setCell ⟨g, 1, none⟩ (.iface 261 (.pointer (some p)))) := by
    simp [go_sem, storeVar, hf0.1, hf0.2, hf2.1, hf2.2]
  rw [@run_callFunc_extern Tryz.prog 150 _ Extern.ReflectliteValue.set Tryz.func150 (by kernel_rfl) (by kernel_rfl) (by kernel_rfl) (by kernel_rfl)]
  obtain ⟨k1, k2, k3, k4, k5, e1, e2, e3, e4, e5, e6⟩ : ∃ k1 k2 k3 k4 k5, Extern.ReflectliteValue.set #[.agg #[.pointer (some ⟨11, 75, none⟩), .pointer (some ⟨g, 0, none⟩), .int .u64 409], .agg #[.pointer (some ⟨11, 75, none⟩), .pointer (some ⟨b, 0, none⟩), .int .u64 153]] = (Extern.ReflectliteValue.parts (.agg #[.pointer (some ⟨11, 75, none⟩), .pointer (some ⟨g, 0, none⟩), .int .u64 409]) >>= k1) ∧
      k1 (some (75, ⟨g, 0, none⟩, 409)) = (Extern.ReflectliteValue.parts (.agg #[.pointer (some ⟨11, 75, none⟩), .pointer (some ⟨b, 0, none⟩), .int .u64 153]) >>= k2) ∧
      k2 (some (75, ⟨b, 0, none⟩, 153)) = (loadVar 75 ⟨b, 0, none⟩ >>= k3) ∧
      k3 (.agg #[.int .i64 n, .iface 261 (.pointer (some p))]) = (Extern.Rtype.directlyAssignable 75 75 >>= k4) ∧
      k4 true = (storeVar 75 ⟨g, 0, none⟩ (.agg #[.int .i64 n, .iface 261 (.pointer (some p))]) >>= k5) ∧
      k5 () = pure (.tuple #[]) := ⟨_, _, _, _, _, rfl, rfl, rfl, rfl, rfl, rfl⟩
  rw [e1, Sem.run_bind, hp1]
  simp only [Result.andThen]
  rw [e2, Sem.run_bind, hp2]
  simp only [Result.andThen]
  rw [e3, Sem.run_bind, hl]
  simp only [Result.andThen]
  rw [e4, Sem.run_bind, hd]
  simp only [Result.andThen]
  rw [e5, Sem.run_bind, hst]
  simp only [Result.andThen]
  rw [e6]
  rfl
end Go.Proofs.YtimmjimeldejjaaGreatDoor
