/- A bank state in the making, in a draw: what the walk carries. No condition. -/
import Derived.Test.YtnebfojnbjbogaaGreatDoorGd
import Derived.Test.YtnebfojnbjbogaaGreatDoorGm
import Derived.Test.YtnebfojnbjbogaaGreatDoorBaP
import Derived.Test.YtnebfojnbjbogaaGreatDoorBaQ
namespace Go.Proofs.YtnebfojnbjbogaaGreatDoor
open Go.RowKit
set_option linter.unusedVariables false
set_option linter.unusedSimpArgs false
set_option maxRecDepth 20000

theorem Blk.apartOwn {w g h l a n c B E a' n' c' xs k} (hb : Blk w g h l a n c 32) (ho : Own B E w a' n' c' xs) (hk : (Value.slice a' n' c').ownBlock = some k) : k ≠ g := fun e => by
  subst e
  obtain ⟨cur, f⟩ := OwnRow.typed ho hk
  unfold Blk at hb
  rw [hb] at f
  simp at f
/-- the draw's state: the cursor, the block b of the bank state in the making, the block R of the result -/
structure BkSt (w0 : World) (g A R b : Nat) (wr : World) (h l : Int) (a : Option Addr) (n c : Nat) (xs : List Int) : Prop where
  cur : Cur wr g A
  chg : Chg (fun k => k = g) w0 wr
  blk : Blk wr b h l a n c 32
  res : Blk wr R 0 0 none 0 0 32
  own : Own w0.heap.size wr.heap.size wr a n c xs
  hg : g < w0.heap.size
  hR : w0.heap.size ≤ R
  hb : R < b
theorem BkSt.sizes {w0 g A R b wr h l a n c xs} (s : BkSt w0 g A R b wr h l a n c xs) : R < wr.heap.size ∧ b < wr.heap.size ∧ w0.heap.size ≤ wr.heap.size := ⟨s.res.size, s.blk.size, s.chg.size⟩
theorem BkSt.le {w0 g A A' R b wr h l a n c xs} (s : BkSt w0 g A R b wr h l a n c xs) (hA : A ≤ A') : BkSt w0 g A' R b wr h l a n c xs := ⟨s.cur.le hA, s.chg, s.blk, s.res, s.own, s.hg, s.hR, s.hb⟩
/-- behind a call on the cursor -/
theorem BkSt.call {w0 g A A' R b wr w' h l a n c xs} (s : BkSt w0 g A R b wr h l a n c xs) (hc : Cur w' g A') (hk : Chg (fun k => k = g) wr w') : BkSt w0 g A' R b w' h l a n c xs := by
  obtain ⟨h1, h2, h3, h4, h5, h6, h7, h8⟩ := s
  exact ⟨hc, h2.trans hk, h3.chg hk (by omega), h4.chg hk (by omega), (h5.chg hk (fun k q _ _ e => by omega)).mono (Nat.le_refl _) hk.size, h6, h7, h8⟩
/-- behind a call that writes nothing that was there -/
theorem BkSt.keep {w0 g A R b wr w' h l a n c xs} (s : BkSt w0 g A R b wr h l a n c xs) (hb : Below wr.heap.size wr w') : BkSt w0 g A R b w' h l a n c xs := by
  obtain ⟨h1, h2, h3, h4, h5, h6, h7, h8⟩ := s
  exact ⟨h1.keep hb, h2.trans (Chg.ofBelow hb), h3.keep hb, h4.keep hb, (h5.keep hb).mono (Nat.le_refl _) hb.size, h6, h7, h8⟩
theorem chgNew {w0 wr : World} {g b : Nat} (h : Chg (fun k => k = g) w0 wr) (hb : w0.heap.size ≤ b) (k : Nat) (v : Value) : Chg (fun k => k = g) w0 (wr.setCell ⟨b, k, none⟩ v) :=
  h.newer (chgCell wr b k v) (fun q e => by omega)
/-- another bank state is laid into the block -/
theorem BkSt.set {w0 g A R b wr h l a n c xs} (s : BkSt w0 g A R b wr h l a n c xs) (h' l' : Int) (a' : Option Addr) (n' c' : Nat) (ys : List Int) (ho : Own w0.heap.size wr.heap.size wr a' n' c' ys) :
    BkSt w0 g A R b (((wr.setCell ⟨b, 0, none⟩ (.int .i64 h')).setCell ⟨b, 1, none⟩ (.int .i64 l')).setCell ⟨b, 2, none⟩ (.slice a' n' c')) h' l' a' n' c' ys := by
  obtain ⟨h1, h2, h3, h4, h5, h6, h7, h8⟩ := s
  have hne := fun k q => h3.apartOwn ho (k := k) q
  have e1 := chgCell wr b 0 (.int .i64 h')
  have e2 := chgCell (wr.setCell ⟨b, 0, none⟩ (.int .i64 h')) b 1 (.int .i64 l')
  have e3 := chgCell ((wr.setCell ⟨b, 0, none⟩ (.int .i64 h')).setCell ⟨b, 1, none⟩ (.int .i64 l')) b 2 (.slice a' n' c')
  have ec := (e1.trans e2).trans e3
  refine ⟨h1.chg ec (fun k q e => by omega), chgNew (chgNew (chgNew h2 (by omega) 0 _) (by omega) 1 _) (by omega) 2 _, h3.set3 h' l' a' n' c', h4.chg ec (by omega), ?_, h6, h7, h8⟩
  have := ho.chg ec (fun k _ _ q e => hne k q e)
  simpa using this
/-- one of its numbers is changed -/
theorem BkSt.setH {w0 g A R b wr h l a n c xs} (s : BkSt w0 g A R b wr h l a n c xs) (h' : Int) : BkSt w0 g A R b (wr.setCell ⟨b, 0, none⟩ (.int .i64 h')) h' l a n c xs := by
  obtain ⟨h1, h2, h3, h4, h5, h6, h7, h8⟩ := s
  have hne := fun k q => h3.apartOwn h5 (k := k) q
  have ec := chgCell wr b 0 (.int .i64 h')
  refine ⟨h1.chg ec (fun k q e => by omega), chgNew h2 (by omega) 0 _, ?_, h4.chg ec (by omega), ?_, h6, h7, h8⟩
  · have := heap_setCell_same wr b 0 _ _ (.int .i64 h') h3
    unfold Blk
    rw [this]; rfl
  · have := h5.chg ec (fun k _ _ q e => hne k q e)
    simpa using this
theorem BkSt.setL {w0 g A R b wr h l a n c xs} (s : BkSt w0 g A R b wr h l a n c xs) (l' : Int) : BkSt w0 g A R b (wr.setCell ⟨b, 1, none⟩ (.int .i64 l')) h l' a n c xs := by
  obtain ⟨h1, h2, h3, h4, h5, h6, h7, h8⟩ := s
  have hne := fun k q => h3.apartOwn h5 (k := k) q
  have ec := chgCell wr b 1 (.int .i64 l')
  refine ⟨h1.chg ec (fun k q e => by omega), chgNew h2 (by omega) 1 _, ?_, h4.chg ec (by omega), ?_, h6, h7, h8⟩
  · have := heap_setCell_same wr b 1 _ _ (.int .i64 l') h3
    unfold Blk
    rw [this]; rfl
  · have := h5.chg ec (fun k _ _ q e => hne k q e)
    simpa using this
theorem BkSt.setP {w0 g A R b wr h l a n c xs} (s : BkSt w0 g A R b wr h l a n c xs) (a' : Option Addr) (n' c' : Nat) (ys : List Int) (ho : Own w0.heap.size wr.heap.size wr a' n' c' ys) :
    BkSt w0 g A R b (wr.setCell ⟨b, 2, none⟩ (.slice a' n' c')) h l a' n' c' ys := by
  obtain ⟨h1, h2, h3, h4, h5, h6, h7, h8⟩ := s
  have hne := fun k q => h3.apartOwn ho (k := k) q
  have ec := chgCell wr b 2 (.slice a' n' c')
  refine ⟨h1.chg ec (fun k q e => by omega), chgNew h2 (by omega) 2 _, h3.set2 a' n' c', h4.chg ec (by omega), ?_, h6, h7, h8⟩
  have := ho.chg ec (fun k _ _ q e => hne k q e)
  simpa using this
end Go.Proofs.YtnebfojnbjbogaaGreatDoor
