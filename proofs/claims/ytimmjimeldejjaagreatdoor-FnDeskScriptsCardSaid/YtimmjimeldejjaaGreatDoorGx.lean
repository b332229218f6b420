/- Several texts in one: DbA, DbB, DsA. No condition. -/
import Derived.Test.YtimmjimeldejjaaGreatDoorGd
import Derived.Test.YtimmjimeldejjaaGreatDoorGy
import Derived.Test.YtimmjimeldejjaaGreatDoorGe
import Derived.Test.YtimmjimeldejjaaGreatDoorGh
import Derived.Test.YtimmjimeldejjaaGreatDoorText
namespace Go.Proofs.YtimmjimeldejjaaGreatDoor
section
open Go.RowKit
set_option linter.unusedVariables false
set_option linter.unusedSimpArgs false
set_option maxRecDepth 20000

theorem Blk.apartOwn {w g h l a n c B E a' n' c' xs k} (hb : Blk w g h l a n c 84) (ho : Own B E w a' n' c' xs) (hk : (Value.slice a' n' c').ownBlock = some k) : k ≠ g := fun e => by
  subst e
  obtain ⟨cur, f⟩ := OwnRow.typed ho hk
  unfold Blk at hb
  rw [hb] at f
  simp at f
/-- the draw's state: the cursor, the block b of the bank state in the making, the block R of the result -/
structure BkSt (w0 : World) (g A R b : Nat) (wr : World) (h l : Int) (a : Option Addr) (n c : Nat) (xs : List Int) : Prop where
  cur : Cur wr g A
  chg : Chg (fun k => k = g) w0 wr
  blk : Blk wr b h l a n c 84
  res : Blk wr R 0 0 none 0 0 84
  own : Own w0.heap.size wr.heap.size wr a n c xs
  hg : g < w0.heap.size
  hR : w0.heap.size ≤ R
  hb : R < b
theorem BkSt.sizes {w0 g A R b wr h l a n c xs} (s : BkSt w0 g A R b wr h l a n c xs) : R < wr.heap.size ∧ b < wr.heap.size ∧ w0.heap.size ≤ wr.heap.size := ⟨s.res.size, s.blk.size, s.chg.size⟩
theorem BkSt.le {w0 g A A' R b wr h l a n c xs} (s : BkSt w0 g A R b wr h l a n c xs) (hA : A ≤ A') : BkSt w0 g A' R b wr h l a n c xs := ⟨s.cur.le hA, s.chg, s.blk, s.res, s.own, s.hg, s.hR, s.hb⟩
/-- behind a call on the cursor -/
theorem BkSt.call {w0 g A A' R b wr w' h l a n c xs} (s : BkSt w0 g A R b wr h l a n c xs) (hc : Cur w' g A') (hk : Chg (fun k => k = g) wr w') : BkSt w0 g A' R b w' h l a n c xs := by
  obtain ⟨h1, h2, h3, h4, h5, h6, h7, h8⟩ := s
  exact ⟨hc, h2.trans hk, h3.chg hk (by omega), h4.chg hk (by omega), (h5.chg hk (fun k q _ _ e => by omega)).mono (Nat.le_refl _) hk.size, h6, h7, h8⟩
/-- behind a call that writes nothing that was there -/
theorem BkSt.keep {w0 g A R b wr w' h l a n c xs} (s : BkSt w0 g A R b wr h l a n c xs) (hb : Below wr.heap.size wr w') : BkSt w0 g A R b w' h l a n c xs := by
  obtain ⟨h1, h2, h3, h4, h5, h6, h7, h8⟩ := s
  exact ⟨h1.keep hb, h2.trans (Chg.ofBelow hb), h3.keep hb, h4.keep hb, (h5.keep hb).mono (Nat.le_refl _) hb.size, h6, h7, h8⟩
theorem chgNew {w0 wr : World} {g b : Nat} (h : Chg (fun k => k = g) w0 wr) (hb : w0.heap.size ≤ b) (k : Nat) (v : Value) : Chg (fun k => k = g) w0 (wr.setCell ⟨b, k, none⟩ v) :=
  h.newer (chgCell wr b k v) (fun q e => by omega)
/-- another bank state is laid into the block -/
theorem BkSt.set {w0 g A R b wr h l a n c xs} (s : BkSt w0 g A R b wr h l a n c xs) (h' l' : Int) (a' : Option Addr) (n' c' : Nat) (ys : List Int) (ho : Own w0.heap.size wr.heap.size wr a' n' c' ys) :
    BkSt w0 g A R b (((wr.setCell ⟨b, 0, none⟩ (.int .i64 h')).setCell ⟨b, 1, none⟩ (.int .i64 l')).setCell ⟨b, 2, none⟩ (.slice a' n' c')) h' l' a' n' c' ys := by
  obtain ⟨h1, h2, h3, h4, h5, h6, h7, h8⟩ := s
  have hne := fun k q => h3.apartOwn ho (k := k) q
  have e1 := chgCell wr b 0 (.int .i64 h')
  have e2 := chgCell (wr.setCell ⟨b, 0, none⟩ (.int .i64 h')) b 1 (.int .i64 l')
  have e3 := chgCell ((wr.setCell ⟨b, 0, none⟩ (.int .i64 h')).setCell ⟨b, 1, none⟩ (.int .i64 l')) b 2 (.slice a' n' c')
  have ec := (e1.trans e2).trans e3
  refine ⟨h1.chg ec (fun k q e => by omega), chgNew (chgNew (chgNew h2 (by omega) 0 _) (by omega) 1 _) (by omega) 2 _, h3.set3 h' l' a' n' c', h4.chg ec (by omega), ?_, h6, h7, h8⟩
  have := ho.chg ec (fun k _ _ q e => hne k q e)
  simpa using this
/-- one of its numbers is changed -/
theorem BkSt.setH {w0 g A R b wr h l a n c xs} (s : BkSt w0 g A R b wr h l a n c xs) (h' : Int) : BkSt w0 g A R b (wr.setCell ⟨b, 0, none⟩ (.int .i64 h')) h' l a n c xs := by
  obtain ⟨h1, h2, h3, h4, h5, h6, h7, h8⟩ := s
  have hne := fun k q => h3.apartOwn h5 (k := k) q
  have ec := chgCell wr b 0 (.int .i64 h')
  refine ⟨h1.chg ec (fun k q e => by omega), chgNew h2 (by omega) 0 _, ?_, h4.chg ec (by omega), ?_, h6, h7, h8⟩
  · have := heap_setCell_same wr b 0 _ _ (.int .i64 h') h3
    unfold Blk
    rw [this]; rfl
  · have := h5.chg ec (fun k _ _ q e => hne k q e)
    simpa using this
theorem BkSt.setL {w0 g A R b wr h l a n c xs} (s : BkSt w0 g A R b wr h l a n c xs) (l' : Int) : BkSt w0 g A R b (wr.setCell ⟨b, 1, none⟩ (.int .i64 l')) h l' a n c xs := by
  obtain ⟨h1, h2, h3, h4, h5, h6, h7, h8⟩ := s
  have hne := fun k q => h3.apartOwn h5 (k := k) q
  have ec := chgCell wr b 1 (.int .i64 l')
  refine ⟨h1.chg ec (fun k q e => by omega), chgNew h2 (by omega) 1 _, ?_, h4.chg ec (by omega), ?_, h6, h7, h8⟩
  · have := heap_setCell_same wr b 1 _ _ (.int .i64 l') h3
    unfold Blk
    rw [this]; rfl
  · have := h5.chg ec (fun k _ _ q e => hne k q e)
    simpa using this
theorem BkSt.setP {w0 g A R b wr h l a n c xs} (s : BkSt w0 g A R b wr h l a n c xs) (a' : Option Addr) (n' c' : Nat) (ys : List Int) (ho : Own w0.heap.size wr.heap.size wr a' n' c' ys) :
    BkSt w0 g A R b (wr.setCell ⟨b, 2, none⟩ (.slice a' n' c')) h l a' n' c' ys := by
  obtain ⟨h1, h2, h3, h4, h5, h6, h7, h8⟩ := s
  have hne := fun k q => h3.apartOwn ho (k := k) q
  have ec := chgCell wr b 2 (.slice a' n' c')
  refine ⟨h1.chg ec (fun k q e => by omega), chgNew h2 (by omega) 2 _, h3.set2 a' n' c', h4.chg ec (by omega), ?_, h6, h7, h8⟩
  have := ho.chg ec (fun k _ _ q e => hne k q e)
  simpa using this
end
end Go.Proofs.YtimmjimeldejjaaGreatDoor
namespace Go.Proofs.YtimmjimeldejjaaGreatDoor
section
open Go.RowKit
set_option linter.unusedVariables false
set_option linter.unusedSimpArgs false
set_option maxRecDepth 20000

theorem BkSt.fin {w0 g A R b wr h l a n c xs} (s : BkSt w0 g A R b wr h l a n c xs) :
    Own w0.heap.size (((wr.setCell ⟨R, 0, none⟩ (.int .i64 h)).setCell ⟨R, 1, none⟩ (.int .i64 l)).setCell ⟨R, 2, none⟩ (.slice a n c)).heap.size (((wr.setCell ⟨R, 0, none⟩ (.int .i64 h)).setCell ⟨R, 1, none⟩ (.int .i64 l)).setCell ⟨R, 2, none⟩ (.slice a n c)) a n c xs ∧
    Cur (((wr.setCell ⟨R, 0, none⟩ (.int .i64 h)).setCell ⟨R, 1, none⟩ (.int .i64 l)).setCell ⟨R, 2, none⟩ (.slice a n c)) g A ∧
    Chg (fun k => k = g) w0 (((wr.setCell ⟨R, 0, none⟩ (.int .i64 h)).setCell ⟨R, 1, none⟩ (.int .i64 l)).setCell ⟨R, 2, none⟩ (.slice a n c)) := by
  obtain ⟨h1, h2, h3, h4, h5, h6, h7, h8⟩ := s
  have hne := fun k q => h4.apartOwn h5 (k := k) q
  have e1 := chgCell wr R 0 (.int .i64 h)
  have e2 := chgCell (wr.setCell ⟨R, 0, none⟩ (.int .i64 h)) R 1 (.int .i64 l)
  have e3 := chgCell ((wr.setCell ⟨R, 0, none⟩ (.int .i64 h)).setCell ⟨R, 1, none⟩ (.int .i64 l)) R 2 (.slice a n c)
  have ec := (e1.trans e2).trans e3
  refine ⟨?_, h1.chg ec (fun k q e => by omega), chgNew (chgNew (chgNew h2 (by omega) 0 _) (by omega) 1 _) (by omega) 2 _⟩
  have := h5.chg ec (fun k _ _ q e => hne k q e)
  simpa using this
theorem BkSt.blkOff {w0 g A R b wr w' h l a n c xs} (s : BkSt w0 g A R b wr h l a n c xs) (hc : Chg (fun k => (Value.slice a n c).ownBlock = some k) wr w') : Blk w' b h l a n c 84 :=
  s.blk.chg hc (fun q => s.blk.apartOwn s.own q rfl)
/-- the piles have grown: the row that is written, and then the cell that names it -/
theorem BkSt.push {w0 g A R b wr w' h l a n c xs a' n' c' ys} (s : BkSt w0 g A R b wr h l a n c xs) (hc : Chg (fun k => (Value.slice a n c).ownBlock = some k) wr w') (ho : Own w0.heap.size w'.heap.size w' a' n' c' ys) :
    BkSt w0 g A R b (w'.setCell ⟨b, 2, none⟩ (.slice a' n' c')) h l a' n' c' ys := by
  have kb := s.blkOff hc
  have kR : Blk w' R 0 0 none 0 0 84 := s.res.chg hc (fun q => s.res.apartOwn s.own q rfl)
  obtain ⟨h1, h2, h3, h4, h5, h6, h7, h8⟩ := s
  have hge : ∀ k, (Value.slice a n c).ownBlock = some k → w0.heap.size ≤ k := fun k q => (h5.1.lt k q).1
  have hne := fun k q => kb.apartOwn ho (k := k) q
  have ec := chgCell w' b 2 (.slice a' n' c')
  refine ⟨(h1.chg hc (fun k q e => by have := hge k e; omega)).chg ec (fun k q e => by omega), chgNew (h2.newer hc hge) (by omega) 2 _, kb.set2 a' n' c', kR.chg ec (by omega), ?_, h6, h7, h8⟩
  have := ho.chg ec (fun k _ _ q e => hne k q e)
  simpa using this
theorem put_good {p : List Int} {x : Int} (h : Good p) (h1 : 1 ≤ x) (h2 : p.sum + x ≤ 28) : Good (sortD (p ++ [x])) := by
  refine ⟨fun y hy => ?_, sortD_sorted _, ?_⟩
  · rcases List.mem_append.1 ((sortD_perm _).mem_iff.1 hy) with q | q
    · exact h.1 y q
    · rw [List.mem_singleton.1 q]; exact h1
  · rw [perm_sum (sortD_perm _), List.sum_append]
    simpa using h2
theorem oneAt (w : World) (z : Int) : IntsAt (w.alloc (.cells #[.int .i64 z] 3)) (some ⟨w.heap.size, 0, none⟩) 1 1 [z] := intsAt_new w [z] (by unfold maxLen; simp)
theorem among3 {z : Int} (h : z ∈ [(3 : Int), 5, 10]) : ∃ Z : Nat, z = (Z : Int) ∧ 1 ≤ Z ∧ Z ≤ 10 := by
  simp only [List.mem_cons, List.mem_nil_iff, or_false] at h
  rcases h with rfl | rfl | rfl
  · exact ⟨3, rfl, by omega, by omega⟩
  · exact ⟨5, rfl, by omega, by omega⟩
  · exact ⟨10, rfl, by omega, by omega⟩
theorem fill_start {H C : Nat} (hH : 1 ≤ H ∧ H ≤ 10) (hC : C ≤ 28) : BankOk ⟨(H : Int), ((C % H : Nat) : Int), List.replicate (C / H) (H : Int) ++ []⟩ := by
  have := (fill_ok (h := (H : Int)) (c := (C : Int)) (older := []) (by omega) (by omega) (fun x hx => by cases hx) List.Pairwise.nil (by simp; omega)).1
  rw [fill_nat] at this
  exact this
set_option maxHeartbeats 6400000 in
set_option maxRecDepth 100000 in
theorem bank_any (most : Nat) (w : World) (g A : Nat) (h : Cur w g A) (hA : A ≤ 700000000) (hm : most ≤ 28) :
    Calls Tryz.prog 61 #[.pointer (some ⟨g, 0, none⟩), .int .i64 most] w fun e w' => ∃ h l a n c xs, e = .returned (.agg #[.int .i64 h, .int .i64 l, .slice a n c]) ∧ Own w.heap.size w'.heap.size w' a n c xs ∧ n ≤ 40 ∧ Cur w' g (A + 300) ∧ Chg (fun k => k = g) w w' := by
  have hg := h.lt
  have hba := belowAlloc w (.cells #[.int .i64 0, .int .i64 0, .slice none 0 0] 84)
  have kR := Blk.new w 0 0 none 0 0 84
  have hm8 : (most : Int) ≤ 28 := by omega
  obtain ⟨W, hW⟩ : ∃ W, W = w.alloc (.cells #[.int .i64 0, .int .i64 0, .slice none 0 0] 84) := ⟨_, rfl⟩
  rw [← hW] at hba kR
  have hsW : W.heap.size = w.heap.size + 1 := by rw [hW]; simp
  have ha := amongNew_any [3, 5, 10] W g A (h.keep hba) (by omega) (by simp) (by simp)
  simp only [List.map_cons, List.map_nil, List.length_cons, List.length_nil, Nat.reduceAdd] at ha
  rw [hsW] at ha
  have Ha := Lib.hid ha; clear ha
  have HW := Lib.hid hW; clear hW
  have Hba := Lib.hid hba; clear hba
  have KR := Lib.hid kR; clear kR
  go_enter Tryz.func61, Tryz.ntmps61
  go_wp2_with fail
  rw [← HW.out]
  with_reducible refine (Ha.out).mono ?_
  rintro e w1 ⟨z, hz, rfl, hc1, hg1⟩
  obtain ⟨Z, rfl, hZ1, hZ2⟩ := among3 hz
  have hp := pick_any Z w1 g _ hc1 (by omega) hZ1 (by omega)
  have Hp := Lib.hid hp; clear hp
  clear hz
  go_wp2_with fail
  with_reducible refine (Hp.out).mono ?_
  rintro e w2 ⟨b0, hb0, rfl, hc2, hg2⟩
  obtain ⟨H, hH⟩ : ∃ H : Nat, H = b0 + 1 := ⟨_, rfl⟩
  have eH : (1 : Int) + (b0 : Int) = (H : Int) := by omega
  have hH1 : 1 ≤ H := by omega
  have hH2 : H ≤ 10 := by omega
  have hb8 : (b0 : Int) ≤ 9 := by omega
  have hp2 := pick_any (most + 1) w2 g _ hc2 (by omega) (by omega) (by omega)
  simp only [show ((most + 1 : Nat) : Int) = (most : Int) + 1 from rfl] at hp2
  clear Hp
  have Hp2 := Lib.hid hp2; clear hp2
  have EH := Lib.hid eH; clear eH
  go_wp2_with fail
  simp only [EH.out]
  clear hH EH hb0 hb8
  with_reducible refine (Hp2.out).mono ?_
  rintro e w3 ⟨C, hC, rfl, hc3, hg3⟩
  have hf := baFill_any H C none 0 0 [] w3 (IntsAt.nil w3) ⟨hH1, hH2⟩ (by omega) (by omega)
  have hok0 := fill_start ⟨hH1, hH2⟩ (show C ≤ 28 by omega)
  have hH8 : (H : Int) ≤ 10 := by omega
  have hH9 : (1 : Int) ≤ (H : Int) := by omega
  generalize ((C % H : Nat) : Int) = l0 at *
  generalize List.replicate (C / H) (H : Int) ++ [] = p0 at *
  clear Hp2
  have Hf := Lib.hid hf; clear hf
  have Hok0 := Lib.hid hok0; clear hok0
  go_wp2_with fail
  with_reducible refine (Hf.out).mono ?_
  rintro e w4 ⟨a4, n4, c4, rfl, ho4, hb4⟩
  have hb5 := belowAlloc w4 (.cells #[.int .i64 (H : Int), .int .i64 l0, .slice a4 n4 c4] 84)
  have kb := Blk.new w4 (H : Int) l0 a4 n4 c4 84
  have z1 := hg1.size
  have z2 := hg2.size
  have z3 := hg3.size
  have z4 := hb4.size
  have hgs : Chg (fun k => k = g) W w3 := (hg1.trans hg2).trans hg3
  have st0 : BkSt w g (A + 6) w.heap.size w4.heap.size (w4.alloc (.cells #[.int .i64 (H : Int), .int .i64 l0, .slice a4 n4 c4] 84)) (H : Int) l0 a4 n4 c4 p0 :=
    ⟨(hc3.keep hb4).keep hb5, (((Chg.ofBelow Hba.out).trans hgs).trans (Chg.ofBelow hb4)).trans (Chg.ofBelow hb5), kb, ((KR.out.chg hgs (by omega)).keep hb4).keep hb5, (ho4.keep hb5).mono (by omega) (by simp), hg, Nat.le_refl _, by omega⟩
  obtain ⟨b6, hb6⟩ : ∃ b6, b6 = w4.heap.size := ⟨_, rfl⟩
  rw [← hb6] at st0
  have hp3 := pick_any 12 _ g _ st0.cur (by omega) (by omega) (by omega)
  rw [show ((12 : Nat) : Int) = 12 from rfl] at hp3
  clear Hf hc3 hg3 hg2 hg1 hc1 hc2 ho4 hb4 hb5 kb hgs z1 z2 z3 z4
  have Hp3 := Lib.hid hp3; clear hp3
  have St0 := Lib.hid st0; clear st0
  go_wp2_with fail
  rw [← hb6]
  with_reducible refine (Hp3.out).mono ?_
  rintro e w5 ⟨K, hK, rfl, hc5, hg5⟩
  have st1 := St0.out.call hc5 hg5
  clear St0 Hp3 hc5 hg5 hb6
  have St1 := Lib.hid st1; clear st1
  go_wp2_with fail
  go_loopw [8] (fun i wr => ∃ (m : Nat) (l : Int) (a : Option Addr) (n c : Nat) (p : List Int), i = .int .i64 m ∧ m ≤ 12 ∧ Hid (BkSt w g (A + 8) w.heap.size b6 wr (H : Int) l a n c p) ∧ Hid (BankOk ⟨(H : Int), l, p⟩)) (fun i _ => (intOf i).toNat)
  case atStart => exact ⟨K, _, _, _, _, _, rfl, by omega, St1, Hok0⟩
  case round =>
    obtain ⟨m, l, a, n, c, p, rfl, hm12, Hst, Hok⟩ := hrel
    clear St1 Hok0
    by_cases hm0 : m = 0
    · subst hm0
      have hn40 : n ≤ 28 := by rw [← Hst.out.own.length]; exact Hok.out.len
      have hp4 := one_any 2 _ g _ Hst.out.cur (by omega) (by omega) (by omega)
      rw [show ((2 : Nat) : Int) = 2 from rfl] at hp4
      have Hp4 := Lib.hid hp4; clear hp4
      go_wp2_with fail
      with_reducible refine (Hp4.out).mono ?_
      rintro e w6 ⟨t, rfl, hc6, hg6⟩
      have st6 := Hst.out.call hc6 hg6
      clear Hst Hp4 hc6 hg6
      cases t
      · have St6 := Lib.hid st6; clear st6
        have hq := pick_any 24 _ g _ St6.out.cur (by omega) (by omega) (by omega)
        rw [show ((24 : Nat) : Int) = 24 from rfl] at hq
        have hs0 := St6.out.sizes
        have Hq := Lib.hid hq; clear hq
        go_wp2_with fail
        with_reducible refine (Hq.out).mono ?_
        rintro e w7 ⟨q, hq24, rfl, hc7, hg7⟩
        have s7 := St6.out.call hc7 hg7
        have hs7 := s7.sizes
        have hq8 : (q : Int) < 24 := by omega
        clear St6 hc7 hg7 Hq hs0
        by_cases hq0 : q = 0
        · subst hq0
          have ha := amongNew_any [-1, (H : Int), 0] w7 g _ s7.cur (by omega) (by simp) (by simp)
          simp only [List.map_cons, List.map_nil, List.length_cons, List.length_nil, Nat.reduceAdd] at ha
          have Ha := Lib.hid ha; clear ha
          have S7 := Lib.hid s7; clear s7
          go_wp2_with fail
          with_reducible refine (Ha.out).mono ?_
          rintro e w8 ⟨z, hz, rfl, hc8, hg8⟩
          have s8 := S7.out.call hc8 hg8
          obtain ⟨⟨x0, x1, x2⟩, y0, y1, y2⟩ := s8.blk.cells
          have s9 := s8.setL z
          obtain ⟨f1, f2, f3⟩ := s9.fin
          obtain ⟨⟨r0, r1, r2⟩, t0, t1, t2⟩ := s9.res.cells
          have s9s := s9.sizes
          have hRb : ¬ w.heap.size = b6 := by have := s9.hb; omega
          have hbR : ¬ b6 = w.heap.size := by have := s9.hb; omega
          clear s9
          have F1 := Lib.hid f1; clear f1
          have F2 := Lib.hid f2; clear f2
          have F3 := Lib.hid f3; clear f3
          go_wp2
          refine bodyPost_ret (v := .agg #[.int .i64 (H : Int), .int .i64 z, .slice a n c]) ?_ rfl ⟨_, _, _, _, _, _, rfl, F1.out, by omega, F2.out.le (by omega), F3.out⟩
          rw [resCell rfl]
          simp [go_sem, asAddr, Result.andThen, loadVar, *]
        · by_cases hq1 : q = 1
          · subst hq1
            have ha := amongNew_any [0, -1, 10, 11] w7 g _ s7.cur (by omega) (by simp) (by simp)
            simp only [List.map_cons, List.map_nil, List.length_cons, List.length_nil, Nat.reduceAdd] at ha
            have Ha := Lib.hid ha; clear ha
            have S7 := Lib.hid s7; clear s7
            go_wp2_with fail
            with_reducible refine (Ha.out).mono ?_
            rintro e w8 ⟨z, hz, rfl, hc8, hg8⟩
            have s8 := S7.out.call hc8 hg8
            obtain ⟨⟨x0, x1, x2⟩, y0, y1, y2⟩ := s8.blk.cells
            have s9 := s8.setH z
            obtain ⟨f1, f2, f3⟩ := s9.fin
            obtain ⟨⟨r0, r1, r2⟩, t0, t1, t2⟩ := s9.res.cells
            have s9s := s9.sizes
            have hRb : ¬ w.heap.size = b6 := by have := s9.hb; omega
            have hbR : ¬ b6 = w.heap.size := by have := s9.hb; omega
            clear s9
            have F1 := Lib.hid f1; clear f1
            have F2 := Lib.hid f2; clear f2
            have F3 := Lib.hid f3; clear f3
            go_wp2
            refine bodyPost_ret (v := .agg #[.int .i64 z, .int .i64 l, .slice a n c]) ?_ rfl ⟨_, _, _, _, _, _, rfl, F1.out, by omega, F2.out.le (by omega), F3.out⟩
            rw [resCell rfl]
            simp [go_sem, asAddr, Result.andThen, loadVar, *]
          · by_cases hq2 : q = 2
            · subst hq2
              have ha := amongNew_any [0, 1, 29, (H : Int) + 1] w7.drew g _ s7.cur.drew (by omega) (by simp) (by simp)
              simp only [List.map_cons, List.map_nil, List.length_cons, List.length_nil, Nat.reduceAdd] at ha
              have hwrp : IntKind.i64.wrap ((H : Int) + 1) = (H : Int) + 1 := IntWalk.i64_in _ (by omega)
              have hdz : w7.drew.heap.size = w7.heap.size := by simp
              rw [hdz] at ha
              have hda : (w7.drew.alloc (.cells #[.int .i64 0, .int .i64 1, .int .i64 29, .int .i64 ((H : Int) + 1)] 3)) = (w7.alloc (.cells #[.int .i64 0, .int .i64 1, .int .i64 29, .int .i64 ((H : Int) + 1)] 3)).drew := rfl
              change Calls Tryz.prog 54 _ (w7.alloc (.cells #[.int .i64 0, .int .i64 1, .int .i64 29, .int .i64 ((H : Int) + 1)] 3)).drew _ at ha
              clear hda
              obtain ⟨⟨x0, x1, x2⟩, y0, y1, y2⟩ := s7.blk.cells
              have hn67 : n + 1 ≤ 67108864 := by omega
              have Ha := Lib.hid ha; clear ha
              have S7 := Lib.hid s7; clear s7
              go_wp2_with fail
              go_region_law (first | (go_simp; with_reducible refine (Ha.out).mono ?_; rintro e w8 ⟨z, hz, rfl, hc8, hg8⟩; have s8 := S7.out.call hc8 ((Chg.refl _ w7).drew.trans hg8); have hs8 := s8.sizes; have s8a := s8.keep (belowAlloc w8 (.cells #[.int .i64 z] 3)); have hy := oneAt w8 z; obtain ⟨⟨v0, v1, v2⟩, u0, u1, u2⟩ := s8.blk.cells; have S8a := Lib.hid s8a; have Hy := Lib.hid hy; clear s8 s8a hy hc8 hg8 hz) | (refine step_cat (w8.alloc (.cells #[.int .i64 z] 3)) rfl (.tmp 93) (.tmp 99) rfl w.heap.size (w8.alloc (.cells #[.int .i64 z] 3)).heap.size a n c p rfl S8a.out.own (some ⟨w8.heap.size, 0, none⟩) 1 1 [z] rfl Hy.out hn67 S8a.out.sizes.2.2 ?_; intro a9 c9 w9 ho9 hc9; have kb9 := S8a.out.blkOff hc9; obtain ⟨⟨r0, r1, r2⟩, t0, t1, t2⟩ := kb9.cells; have S9 := Lib.hid (S8a.out.push hc9 ho9); clear kb9 ho9 hc9))
              all_goals
                have s9 := S9.out
                clear x0 x1 x2 y0 y1 y2 v0 v1 v2 u0 u1 u2 r0 r1 r2 t0 t1 t2
                obtain ⟨⟨x0, x1, x2⟩, y0, y1, y2⟩ := s9.blk.cells
                obtain ⟨f1, f2, f3⟩ := s9.fin
                obtain ⟨⟨r0, r1, r2⟩, t0, t1, t2⟩ := s9.res.cells
                have s9s := s9.sizes
                have hRb : ¬ w.heap.size = b6 := by have := s9.hb; omega
                have hbR : ¬ b6 = w.heap.size := by have := s9.hb; omega
                clear s9
                have F1 := Lib.hid f1; clear f1
                have F2 := Lib.hid f2; clear f2
                have F3 := Lib.hid f3; clear f3
                go_wp2
                refine bodyPost_ret (v := .agg #[.int .i64 (H : Int), .int .i64 l, .slice a9 (n + 1) c9]) ?_ rfl ⟨_, _, _, _, _, _, rfl, F1.out, by omega, F2.out.le (by omega), F3.out⟩
                rw [resCell rfl]
                simp [go_sem, asAddr, Result.andThen, loadVar, *]
            · have hd0 : ((q : Int) == 0) = false := by simp; omega
              have hd1 : ((q : Int) == 1) = false := by simp; omega
              have hd2 : ((q : Int) == 2) = false := by simp; omega
              have he0 : decide ((q : Int) = 0) = false := decide_eq_false (by omega)
              have he1 : decide ((q : Int) = 1) = false := decide_eq_false (by omega)
              have he2 : decide ((q : Int) = 2) = false := decide_eq_false (by omega)
              have hf0 : ¬ (q : Int) = 0 := by omega
              have hf1 : ¬ (q : Int) = 1 := by omega
              have hf2 : ¬ (q : Int) = 2 := by omega
              obtain ⟨⟨x0, x1, x2⟩, y0, y1, y2⟩ := s7.blk.cells
              have s9 := s7
              clear hq0 hq1 hq2
              obtain ⟨f1, f2, f3⟩ := s9.fin
              obtain ⟨⟨r0, r1, r2⟩, t0, t1, t2⟩ := s9.res.cells
              have s9s := s9.sizes
              have hRb : ¬ w.heap.size = b6 := by have := s9.hb; omega
              have hbR : ¬ b6 = w.heap.size := by have := s9.hb; omega
              clear s9
              have F1 := Lib.hid f1; clear f1
              have F2 := Lib.hid f2; clear f2
              have F3 := Lib.hid f3; clear f3
              go_wp2
              refine bodyPost_ret (v := .agg #[.int .i64 (H : Int), .int .i64 l, .slice a n c]) ?_ rfl ⟨_, _, _, _, _, _, rfl, F1.out, by omega, F2.out.le (by omega), F3.out⟩
              rw [resCell rfl]
              simp [go_sem, asAddr, Result.andThen, loadVar, *]
      · have hp5 := pick_any H _ g _ st6.cur (by omega) hH1 (by omega)
        have St6 := Lib.hid st6; clear st6
        have Hp5 := Lib.hid hp5; clear hp5
        go_wp2_with fail
        with_reducible refine (Hp5.out).mono ?_
        rintro e w8 ⟨lf, hlf, rfl, hc8, hg8⟩
        have st8 := St6.out.call hc8 hg8
        have hs8 := st8.sizes
        have hlf8 : (lf : Int) ≤ 9 := by omega
        obtain ⟨⟨x0, x1, x2⟩, y0, y1, y2⟩ := st8.blk.cells
        have st9 := st8.set (H : Int) (lf : Int) none 0 0 [] (Own.nil _ _ _)
        have hp6 := pick_any (most + 1) _ g _ st9.cur (by omega) (by omega) (by omega)
        simp only [show ((most + 1 : Nat) : Int) = (most : Int) + 1 from rfl] at hp6
        clear St6 Hp5 hc8 hg8 st8 hn40 Hok
        have St9 := Lib.hid st9; clear st9
        have Hp6 := Lib.hid hp6; clear hp6
        go_wp2_with fail
        with_reducible refine (Hp6.out).mono ?_
        rintro e w10 ⟨N, hN, rfl, hc10, hg10⟩
        have st10 := (St9.out.call hc10 hg10).le (show _ ≤ A + 80 - 2 * N by omega)
        clear St9 Hp6 hc10 hg10 x0 x1 x2 y0 y1 y2
        have St10 := Lib.hid st10; clear st10
        go_wp2_with fail
        go_loopw [12] (fun i wr => ∃ (m : Nat) (a : Option Addr) (n c : Nat) (p : List Int), i = .int .i64 m ∧ m ≤ 28 ∧ Hid (BkSt w g (A + 80 - 2 * m) w.heap.size b6 wr (H : Int) (lf : Int) a n c p) ∧ Hid (Good p)) (fun i _ => (intOf i).toNat)
        case atStart => exact ⟨N, _, _, _, _, rfl, by omega, St10, Lib.hid good_nil⟩
        case round =>
          obtain ⟨m, a, n, c, p, rfl, hm28, Hst, Hgp⟩ := hrel
          clear St10
          have hn40 : n ≤ 28 := by rw [← Hst.out.own.length]; exact Hgp.out.len
          by_cases hm0 : m = 0
          · subst hm0
            have st6 := Hst.out.le (show _ ≤ A + 80 by omega)
            clear Hst
            have St6 := Lib.hid st6; clear st6
            have hq := pick_any 24 _ g _ St6.out.cur (by omega) (by omega) (by omega)
            rw [show ((24 : Nat) : Int) = 24 from rfl] at hq
            have hs0 := St6.out.sizes
            have Hq := Lib.hid hq; clear hq
            go_wp2_with fail
            with_reducible refine (Hq.out).mono ?_
            rintro e w7 ⟨q, hq24, rfl, hc7, hg7⟩
            have s7 := St6.out.call hc7 hg7
            have hs7 := s7.sizes
            have hq8 : (q : Int) < 24 := by omega
            clear St6 hc7 hg7 Hq hs0
            by_cases hq0 : q = 0
            · subst hq0
              have ha := amongNew_any [-1, (H : Int), 0] w7 g _ s7.cur (by omega) (by simp) (by simp)
              simp only [List.map_cons, List.map_nil, List.length_cons, List.length_nil, Nat.reduceAdd] at ha
              have Ha := Lib.hid ha; clear ha
              have S7 := Lib.hid s7; clear s7
              go_wp2_with fail
              with_reducible refine (Ha.out).mono ?_
              rintro e w8 ⟨z, hz, rfl, hc8, hg8⟩
              have s8 := S7.out.call hc8 hg8
              obtain ⟨⟨x0, x1, x2⟩, y0, y1, y2⟩ := s8.blk.cells
              have s9 := s8.setL z
              obtain ⟨f1, f2, f3⟩ := s9.fin
              obtain ⟨⟨r0, r1, r2⟩, t0, t1, t2⟩ := s9.res.cells
              have s9s := s9.sizes
              have hRb : ¬ w.heap.size = b6 := by have := s9.hb; omega
              have hbR : ¬ b6 = w.heap.size := by have := s9.hb; omega
              clear s9
              have F1 := Lib.hid f1; clear f1
              have F2 := Lib.hid f2; clear f2
              have F3 := Lib.hid f3; clear f3
              go_wp2
              refine bodyPost_ret (v := .agg #[.int .i64 (H : Int), .int .i64 z, .slice a n c]) ?_ rfl ⟨_, _, _, _, _, _, rfl, F1.out, by omega, F2.out.le (by omega), F3.out⟩
              rw [resCell rfl]
              simp [go_sem, asAddr, Result.andThen, loadVar, *]
            · by_cases hq1 : q = 1
              · subst hq1
                have ha := amongNew_any [0, -1, 10, 11] w7 g _ s7.cur (by omega) (by simp) (by simp)
                simp only [List.map_cons, List.map_nil, List.length_cons, List.length_nil, Nat.reduceAdd] at ha
                have Ha := Lib.hid ha; clear ha
                have S7 := Lib.hid s7; clear s7
                go_wp2_with fail
                with_reducible refine (Ha.out).mono ?_
                rintro e w8 ⟨z, hz, rfl, hc8, hg8⟩
                have s8 := S7.out.call hc8 hg8
                obtain ⟨⟨x0, x1, x2⟩, y0, y1, y2⟩ := s8.blk.cells
                have s9 := s8.setH z
                obtain ⟨f1, f2, f3⟩ := s9.fin
                obtain ⟨⟨r0, r1, r2⟩, t0, t1, t2⟩ := s9.res.cells
                have s9s := s9.sizes
                have hRb : ¬ w.heap.size = b6 := by have := s9.hb; omega
                have hbR : ¬ b6 = w.heap.size := by have := s9.hb; omega
                clear s9
                have F1 := Lib.hid f1; clear f1
                have F2 := Lib.hid f2; clear f2
                have F3 := Lib.hid f3; clear f3
                go_wp2
                refine bodyPost_ret (v := .agg #[.int .i64 z, .int .i64 (lf : Int), .slice a n c]) ?_ rfl ⟨_, _, _, _, _, _, rfl, F1.out, by omega, F2.out.le (by omega), F3.out⟩
                rw [resCell rfl]
                simp [go_sem, asAddr, Result.andThen, loadVar, *]
              · by_cases hq2 : q = 2
                · subst hq2
                  have ha := amongNew_any [0, 1, 29, (H : Int) + 1] w7.drew g _ s7.cur.drew (by omega) (by simp) (by simp)
                  simp only [List.map_cons, List.map_nil, List.length_cons, List.length_nil, Nat.reduceAdd] at ha
                  have hwrp : IntKind.i64.wrap ((H : Int) + 1) = (H : Int) + 1 := IntWalk.i64_in _ (by omega)
                  have hdz : w7.drew.heap.size = w7.heap.size := by simp
                  rw [hdz] at ha
                  have hda : (w7.drew.alloc (.cells #[.int .i64 0, .int .i64 1, .int .i64 29, .int .i64 ((H : Int) + 1)] 3)) = (w7.alloc (.cells #[.int .i64 0, .int .i64 1, .int .i64 29, .int .i64 ((H : Int) + 1)] 3)).drew := rfl
                  change Calls Tryz.prog 54 _ (w7.alloc (.cells #[.int .i64 0, .int .i64 1, .int .i64 29, .int .i64 ((H : Int) + 1)] 3)).drew _ at ha
                  clear hda
                  obtain ⟨⟨x0, x1, x2⟩, y0, y1, y2⟩ := s7.blk.cells
                  have hn67 : n + 1 ≤ 67108864 := by omega
                  have Ha := Lib.hid ha; clear ha
                  have S7 := Lib.hid s7; clear s7
                  go_wp2_with fail
                  go_region_law (first | (go_simp; with_reducible refine (Ha.out).mono ?_; rintro e w8 ⟨z, hz, rfl, hc8, hg8⟩; have s8 := S7.out.call hc8 ((Chg.refl _ w7).drew.trans hg8); have hs8 := s8.sizes; have s8a := s8.keep (belowAlloc w8 (.cells #[.int .i64 z] 3)); have hy := oneAt w8 z; obtain ⟨⟨v0, v1, v2⟩, u0, u1, u2⟩ := s8.blk.cells; have S8a := Lib.hid s8a; have Hy := Lib.hid hy; clear s8 s8a hy hc8 hg8 hz) | (refine step_cat (w8.alloc (.cells #[.int .i64 z] 3)) rfl (.tmp 93) (.tmp 99) rfl w.heap.size (w8.alloc (.cells #[.int .i64 z] 3)).heap.size a n c p rfl S8a.out.own (some ⟨w8.heap.size, 0, none⟩) 1 1 [z] rfl Hy.out hn67 S8a.out.sizes.2.2 ?_; intro a9 c9 w9 ho9 hc9; have kb9 := S8a.out.blkOff hc9; obtain ⟨⟨r0, r1, r2⟩, t0, t1, t2⟩ := kb9.cells; have S9 := Lib.hid (S8a.out.push hc9 ho9); clear kb9 ho9 hc9))
                  all_goals
                    have s9 := S9.out
                    clear x0 x1 x2 y0 y1 y2 v0 v1 v2 u0 u1 u2 r0 r1 r2 t0 t1 t2
                    obtain ⟨⟨x0, x1, x2⟩, y0, y1, y2⟩ := s9.blk.cells
                    obtain ⟨f1, f2, f3⟩ := s9.fin
                    obtain ⟨⟨r0, r1, r2⟩, t0, t1, t2⟩ := s9.res.cells
                    have s9s := s9.sizes
                    have hRb : ¬ w.heap.size = b6 := by have := s9.hb; omega
                    have hbR : ¬ b6 = w.heap.size := by have := s9.hb; omega
                    clear s9
                    have F1 := Lib.hid f1; clear f1
                    have F2 := Lib.hid f2; clear f2
                    have F3 := Lib.hid f3; clear f3
                    go_wp2
                    refine bodyPost_ret (v := .agg #[.int .i64 (H : Int), .int .i64 (lf : Int), .slice a9 (n + 1) c9]) ?_ rfl ⟨_, _, _, _, _, _, rfl, F1.out, by omega, F2.out.le (by omega), F3.out⟩
                    rw [resCell rfl]
                    simp [go_sem, asAddr, Result.andThen, loadVar, *]
                · have hd0 : ((q : Int) == 0) = false := by simp; omega
                  have hd1 : ((q : Int) == 1) = false := by simp; omega
                  have hd2 : ((q : Int) == 2) = false := by simp; omega
                  have he0 : decide ((q : Int) = 0) = false := decide_eq_false (by omega)
                  have he1 : decide ((q : Int) = 1) = false := decide_eq_false (by omega)
                  have he2 : decide ((q : Int) = 2) = false := decide_eq_false (by omega)
                  have hf0 : ¬ (q : Int) = 0 := by omega
                  have hf1 : ¬ (q : Int) = 1 := by omega
                  have hf2 : ¬ (q : Int) = 2 := by omega
                  obtain ⟨⟨x0, x1, x2⟩, y0, y1, y2⟩ := s7.blk.cells
                  have s9 := s7
                  clear hq0 hq1 hq2
                  obtain ⟨f1, f2, f3⟩ := s9.fin
                  obtain ⟨⟨r0, r1, r2⟩, t0, t1, t2⟩ := s9.res.cells
                  have s9s := s9.sizes
                  have hRb : ¬ w.heap.size = b6 := by have := s9.hb; omega
                  have hbR : ¬ b6 = w.heap.size := by have := s9.hb; omega
                  clear s9
                  have F1 := Lib.hid f1; clear f1
                  have F2 := Lib.hid f2; clear f2
                  have F3 := Lib.hid f3; clear f3
                  go_wp2
                  refine bodyPost_ret (v := .agg #[.int .i64 (H : Int), .int .i64 (lf : Int), .slice a n c]) ?_ rfl ⟨_, _, _, _, _, _, rfl, F1.out, by omega, F2.out.le (by omega), F3.out⟩
                  rw [resCell rfl]
                  simp [go_sem, asAddr, Result.andThen, loadVar, *]
          · obtain ⟨M, rfl⟩ : ∃ M, m = M + 1 := ⟨m - 1, by omega⟩
            have hm1 : (0 : Int) < (M : Int) + 1 := by omega
            have hm9 : (M : Int) + 1 ≤ 28 := by omega
            have hp7 := pick_any H _ g _ Hst.out.cur (by omega) hH1 (by omega)
            have Hp7 := Lib.hid hp7; clear hp7
            go_wp2_with fail
            with_reducible refine (Hp7.out).mono ?_
            rintro e w11 ⟨x, hx, rfl, hc11, hg11⟩
            have st11 := (Hst.out.call hc11 hg11).le (show _ ≤ A + 80 - 2 * M by omega)
            have hs11 := st11.sizes
            have hps := piSum_any a n c p w11 st11.own.at Hgp.out
            have hS0 := sum_nonneg Hgp.out.1
            have hS1 : p.sum ≤ 28 := Hgp.out.2.2
            have hx8 : (x : Int) ≤ 9 := by omega
            have hpg := fun (q : p.sum + (1 + (x : Int)) ≤ 28) => put_good (x := 1 + (x : Int)) Hgp.out (by omega) q
            have hpp := piPut_any a n c p (1 + (x : Int)) w11 st11.own.at Hgp.out.2.1 (by omega)
            obtain ⟨⟨x0, x1, x2⟩, y0, y1, y2⟩ := st11.blk.cells
            generalize p.sum = S at *
            clear Hst Hp7 hc11 hg11
            have St11 := Lib.hid st11; clear st11
            have Hps := Lib.hid hps; clear hps
            have Hpp := Lib.hid hpp; clear hpp
            have Hpg := Lib.hid hpg; clear hpg
            go_wp2_with fail
            with_reducible refine (Hps.out).mono ?_
            rintro e w' ⟨rfl, rfl⟩
            by_cases hle : (lf : Int) + (1 + (x : Int)) + S ≤ (most : Int)
            · have hgn := Hpg.out (by omega)
              have Hgn := Lib.hid hgn; clear hgn
              go_wp2_with fail
              with_reducible refine (Hpp.out).mono ?_
              rintro e w12 ⟨a12, n12, c12, rfl, ho12, hb12⟩
              have st12 := St11.out.keep hb12
              have hs12 := hb12.size
              clear x0 x1 x2 y0 y1 y2
              obtain ⟨⟨x0, x1, x2⟩, y0, y1, y2⟩ := st12.blk.cells
              have st13 := st12.setP a12 n12 c12 _ (ho12.mono hs11.2.2 (Nat.le_refl _))
              clear St11 st12 ho12 hb12
              have St13 := Lib.hid st13; clear st13
              go_wp2
              go_roundw
              case rel => exact ⟨M, a12, n12, c12, _, by go_num, by omega, St13, Hgn⟩
              case measure => simp [intOf] <;> omega
            · go_wp2
              go_roundw
              case rel => exact ⟨M, a, n, c, p, by go_num, by omega, St11, Hgp⟩
              case measure => simp [intOf] <;> omega
    · obtain ⟨M, rfl⟩ : ∃ M, m = M + 1 := ⟨m - 1, by omega⟩
      have hm1 : (0 : Int) < (M : Int) + 1 := by omega
      have hm9 : (M : Int) + 1 ≤ 12 := by omega
      have hbs := baStep_any (H : Int) l a n c p wr Hst.out.own.at Hok.out
      have hok2 := (step_ok Hok.out).1
      have hh : (stepB ⟨(H : Int), l, p⟩).h = (H : Int) := rfl
      generalize hY : stepB ⟨(H : Int), l, p⟩ = Y at *
      obtain ⟨h5, l5, p5⟩ := Y
      simp only at hbs hh
      subst hh
      obtain ⟨⟨x0, x1, x2⟩, y0, y1, y2⟩ := Hst.out.blk.cells
      have hsz := Hst.out.sizes
      have Hbs := Lib.hid hbs; clear hbs
      have Hok2 := Lib.hid hok2; clear hok2
      have HY := Lib.hid hY; clear hY
      go_wp2_with fail
      with_reducible refine (Hbs.out).mono ?_
      rintro e w6 ⟨a6, n6, c6, rfl, ho6, hb7⟩
      clear x0 x1 x2 y0 y1 y2
      have hs6 := hb7.size
      have hba6 := belowAlloc w6 (.cells #[.int .i64 (H : Int), .int .i64 l5, .slice a6 n6 c6] 84)
      have st3 := (Hst.out.keep hb7).keep hba6
      have ho7 := (ho6.keep hba6).mono (show w.heap.size ≤ wr.heap.size from hsz.2.2) (show w6.heap.size ≤ (w6.alloc (.cells #[.int .i64 (H : Int), .int .i64 l5, .slice a6 n6 c6] 84)).heap.size by simp)
      have kb9 := Blk.new w6 (H : Int) l5 a6 n6 c6 84
      obtain ⟨⟨x0, x1, x2⟩, y0, y1, y2⟩ := kb9.cells
      obtain ⟨⟨z0, z1, z2⟩, q0, q1, q2⟩ := st3.blk.cells
      have hn1 : ¬ b6 = w6.heap.size := by have := hsz.2.1; omega
      have hn2 : ¬ w6.heap.size = b6 := by omega
      have st4 := st3.set (H : Int) l5 a6 n6 c6 p5 ho7
      clear st3 ho7 kb9 hba6 ho6 hb7 Hst
      have St4 := Lib.hid st4; clear st4
      go_wp2
      go_roundw
      case rel => exact ⟨M, l5, a6, n6, c6, p5, by go_num, by omega, St4, Hok2⟩
      case measure => simp [intOf] <;> omega
end
end Go.Proofs.YtimmjimeldejjaaGreatDoor
namespace Go.Proofs.YtimmjimeldejjaaGreatDoor
section
open Go.RowKit
set_option linter.unusedVariables false
set_option linter.unusedSimpArgs false
set_option maxRecDepth 20000

theorem byte_back (w : World) (b : UInt8) : (convert 22 9 (.slice (some ⟨w.heap.size, 0, none⟩) 1 1)).run Tryz.prog (w.alloc (.cells #[.int .u8 (b.toNat : Int)] 5)) = .ok (.string ⟨#[b]⟩) (w.alloc (.cells #[.int .u8 (b.toNat : Int)] 5)) := by
  have := run_convert_bytes_back (P := Tryz.prog) (w.alloc (.cells #[.int .u8 (b.toNat : Int)] 5)) 22 9 5 ⟨w.heap.size, 0, none⟩ 1 [b] Tryz.underlying22 Tryz.underlying5 Tryz.underlying9 (fun j hj => by
    obtain rfl : j = 0 := by simp at hj; omega
    rw [Addr.add_lit, World.cell?_alloc_at _ _ _ _ rfl]
    simp)
  exact this
theorem Chg.drewN {S : Nat → Prop} {w w' : World} (h : Chg S w w') (n : Nat) : Chg S w (w'.drewN n) := ⟨h.os, h.tape, h.output, h.size, h.block⟩
end
end Go.Proofs.YtimmjimeldejjaaGreatDoor
