/- Chapter 7: several steps of a bank state, noted. No condition. -/
import Derived.Test.YtnebfojnbjbogaaGreatDoorGe
namespace Go.Proofs.YtnebfojnbjbogaaGreatDoor
open Go.RowKit
set_option linter.unusedVariables false
set_option linter.unusedSimpArgs false
set_option maxRecDepth 20000

theorem Blk.set3 {w g h l a n c ty} (hh : Blk w g h l a n c ty) (h' l' : Int) (a' : Option Addr) (n' c' : Nat) : Blk (((w.setCell ⟨g, 0, none⟩ (.int .i64 h')).setCell ⟨g, 1, none⟩ (.int .i64 l')).setCell ⟨g, 2, none⟩ (.slice a' n' c')) g h' l' a' n' c' ty := by
  have e1 := heap_setCell_same w g 0 _ _ (.int .i64 h') hh
  have e2 := heap_setCell_same _ g 1 _ _ (.int .i64 l') e1
  have e3 := heap_setCell_same _ g 2 _ _ (.slice a' n' c') e2
  unfold Blk
  rw [e3]; rfl
theorem resCell3 {fn : Func} {p u v : Tmp} {ty : TypeId} (h : fn.results = #[.cell p ty, .tmp u, .tmp v]) (tmps : Array Value) (P : Program) (w : World) :
    (results fn tmps).run P w = ((asAddr (tmps.getD p undef)).run P w).andThen fun a w₁ => ((loadVar ty a).run P w₁).andThen fun x w₂ => .ok (.tuple #[x, tmps.getD u undef, tmps.getD v undef]) w₂ := by
  simp only [results, h]
  simp [Sem.run_bind, Result.andThen]
def rowN (b : Bk) (K i : Nat) : List Int := newL b i ++ List.replicate (K - i) 0
theorem rowN_zero (b : Bk) (K : Nat) : rowN b K 0 = List.replicate K 0 := by simp [rowN, newL]
theorem rowN_full (b : Bk) (K : Nat) : rowN b K K = newL b K := by simp [rowN]
theorem rowN_length (b : Bk) (K i : Nat) (hi : i ≤ K) : (rowN b K i).length = K := by simp [rowN, newL_length]; omega
theorem rowN_set (b : Bk) (K i : Nat) (hi : i < K) : (rowN b K i).set i (madeB (stepsB i b)) = rowN b K (i + 1) := by
  unfold rowN
  rw [newL_succ, List.set_append_right _ _ (by rw [newL_length]; exact Nat.le_refl _), newL_length, Nat.sub_self, show K - i = (K - (i + 1)) + 1 by omega, List.replicate_succ, List.set_cons_zero, List.append_assoc]
  rfl

end Go.Proofs.YtnebfojnbjbogaaGreatDoor
