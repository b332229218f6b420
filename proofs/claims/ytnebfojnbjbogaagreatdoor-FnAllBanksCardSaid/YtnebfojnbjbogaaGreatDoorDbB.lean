/- The draw of a bank state. No condition but sizes. -/
import Derived.Test.YtnebfojnbjbogaaGreatDoorDbA
import Derived.Test.YtnebfojnbjbogaaGreatDoorGe
import Derived.Test.YtnebfojnbjbogaaGreatDoorGh
namespace Go.Proofs.YtnebfojnbjbogaaGreatDoor
open Go.RowKit
set_option linter.unusedVariables false
set_option linter.unusedSimpArgs false
set_option maxRecDepth 20000

theorem BkSt.fin {w0 g A R b wr h l a n c xs} (s : BkSt w0 g A R b wr h l a n c xs) :
    Own w0.heap.size (((wr.setCell ⟨R, 0, none⟩ (.int .i64 h)).setCell ⟨R, 1, none⟩ (.int .i64 l)).setCell ⟨R, 2, none⟩ (.slice a n c)).heap.size (((wr.setCell ⟨R, 0, none⟩ (.int .i64 h)).setCell ⟨R, 1, none⟩ (.int .i64 l)).setCell ⟨R, 2, none⟩ (.slice a n c)) a n c xs ∧
    Cur (((wr.setCell ⟨R, 0, none⟩ (.int .i64 h)).setCell ⟨R, 1, none⟩ (.int .i64 l)).setCell ⟨R, 2, none⟩ (.slice a n c)) g A ∧
    Chg (fun k => k = g) w0 (((wr.setCell ⟨R, 0, none⟩ (.int .i64 h)).setCell ⟨R, 1, none⟩ (.int .i64 l)).setCell ⟨R, 2, none⟩ (.slice a n c)) := by
  obtain ⟨h1, h2, h3, h4, h5, h6, h7, h8⟩ := s
  have hne := fun k q => h4.apartOwn h5 (k := k) q
  have e1 := chgCell wr R 0 (.int .i64 h)
  have e2 := chgCell (wr.setCell ⟨R, 0, none⟩ (.int .i64 h)) R 1 (.int .i64 l)
  have e3 := chgCell ((wr.setCell ⟨R, 0, none⟩ (.int .i64 h)).setCell ⟨R, 1, none⟩ (.int .i64 l)) R 2 (.slice a n c)
  have ec := (e1.trans e2).trans e3
  refine ⟨?_, h1.chg ec (fun k q e => by omega), chgNew (chgNew (chgNew h2 (by omega) 0 _) (by omega) 1 _) (by omega) 2 _⟩
  have := h5.chg ec (fun k _ _ q e => hne k q e)
  simpa using this
theorem BkSt.blkOff {w0 g A R b wr w' h l a n c xs} (s : BkSt w0 g A R b wr h l a n c xs) (hc : Chg (fun k => (Value.slice a n c).ownBlock = some k) wr w') : Blk w' b h l a n c 32 :=
  s.blk.chg hc (fun q => s.blk.apartOwn s.own q rfl)
/-- the piles have grown: the row that is written, and then the cell that names it -/
theorem BkSt.push {w0 g A R b wr w' h l a n c xs a' n' c' ys} (s : BkSt w0 g A R b wr h l a n c xs) (hc : Chg (fun k => (Value.slice a n c).ownBlock = some k) wr w') (ho : Own w0.heap.size w'.heap.size w' a' n' c' ys) :
    BkSt w0 g A R b (w'.setCell ⟨b, 2, none⟩ (.slice a' n' c')) h l a' n' c' ys := by
  have kb := s.blkOff hc
  have kR : Blk w' R 0 0 none 0 0 32 := s.res.chg hc (fun q => s.res.apartOwn s.own q rfl)
  obtain ⟨h1, h2, h3, h4, h5, h6, h7, h8⟩ := s
  have hge : ∀ k, (Value.slice a n c).ownBlock = some k → w0.heap.size ≤ k := fun k q => (h5.1.lt k q).1
  have hne := fun k q => kb.apartOwn ho (k := k) q
  have ec := chgCell w' b 2 (.slice a' n' c')
  refine ⟨(h1.chg hc (fun k q e => by have := hge k e; omega)).chg ec (fun k q e => by omega), chgNew (h2.newer hc hge) (by omega) 2 _, kb.set2 a' n' c', kR.chg ec (by omega), ?_, h6, h7, h8⟩
  have := ho.chg ec (fun k _ _ q e => hne k q e)
  simpa using this
theorem put_good {p : List Int} {x : Int} (h : Good p) (h1 : 1 ≤ x) (h2 : p.sum + x ≤ 28) : Good (sortD (p ++ [x])) := by
  refine ⟨fun y hy => ?_, sortD_sorted _, ?_⟩
  · rcases List.mem_append.1 ((sortD_perm _).mem_iff.1 hy) with q | q
    · exact h.1 y q
    · rw [List.mem_singleton.1 q]; exact h1
  · rw [perm_sum (sortD_perm _), List.sum_append]
    simpa using h2
theorem oneAt (w : World) (z : Int) : IntsAt (w.alloc (.cells #[.int .i64 z] 3)) (some ⟨w.heap.size, 0, none⟩) 1 1 [z] := intsAt_new w [z] (by unfold maxLen; simp)
theorem among3 {z : Int} (h : z ∈ [(3 : Int), 5, 10]) : ∃ Z : Nat, z = (Z : Int) ∧ 1 ≤ Z ∧ Z ≤ 10 := by
  simp only [List.mem_cons, List.mem_nil_iff, or_false] at h
  rcases h with rfl | rfl | rfl
  · exact ⟨3, rfl, by omega, by omega⟩
  · exact ⟨5, rfl, by omega, by omega⟩
  · exact ⟨10, rfl, by omega, by omega⟩
theorem fill_start {H C : Nat} (hH : 1 ≤ H ∧ H ≤ 10) (hC : C ≤ 28) : BankOk ⟨(H : Int), ((C % H : Nat) : Int), List.replicate (C / H) (H : Int) ++ []⟩ := by
  have := (fill_ok (h := (H : Int)) (c := (C : Int)) (older := []) (by omega) (by omega) (fun x hx => by cases hx) List.Pairwise.nil (by simp; omega)).1
  rw [fill_nat] at this
  exact this
end Go.Proofs.YtnebfojnbjbogaaGreatDoor
