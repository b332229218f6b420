/- Chapter 7: how many new piles each step makes. No condition. -/
import Derived.Test.YtnebfojnbjbogaaDoorBaQ
import Derived.Test.YtnebfojnbjbogaaDoorGg
namespace Go.Proofs.YtnebfojnbjbogaaDoor
open Go.RowKit
set_option linter.unusedVariables false
set_option linter.unusedSimpArgs false
set_option maxRecDepth 20000

theorem many_yes (k : Int) (w : World) (h : 0 ≤ k ∧ k ≤ 1000) : Calls Tryd.prog 32 #[.int .i64 k] w fun e w' => e = .returned (.bool true) ∧ w = w' := by
  have hcon := fun W => l1In_t k 0 1000 W h
  have Hcon := Lib.hid hcon; clear hcon
  have H := Lib.hid h; clear h
  go_enter Tryd.func32, Tryd.ntmps32
  go_wp2_with fail
  with_reducible refine ((Hcon.out _)).mono ?_
  rintro e w' ⟨rfl, rfl⟩
  go_wp2
  go_ret
  exact ⟨rfl, rfl⟩
theorem many_no (k : Int) (w : World) (h : ¬ (0 ≤ k ∧ k ≤ 1000)) : Calls Tryd.prog 32 #[.int .i64 k] w fun e w' => e = .returned (.bool false) ∧ w = w' := by
  have hcon := fun W => l1In_f k 0 1000 W h
  have Hcon := Lib.hid hcon; clear hcon
  have H := Lib.hid h; clear h
  go_enter Tryd.func32, Tryd.ntmps32
  go_wp2_with fail
  with_reducible refine ((Hcon.out _)).mono ?_
  rintro e w' ⟨rfl, rfl⟩
  go_wp2
  go_ret
  exact ⟨rfl, rfl⟩
theorem pushNP {ops : Array Oper} {rest : List Oper} {o : Oper} {a : Act} {Q : Exit → Act → World → Prop} (w : World) (hgd : o.guard = none) (s x : Operand)
    (ho : o.op = .call { callee := .builtin .append, args := #[s, x], argTypes := #[24, 24] })
    (B E : Nat) (ao : Option Addr) (n cap : Nat) (xs : List Int) (hs : a.eval s = .slice ao n cap) (hown : Own B E w ao n cap xs) (y : Int)
    (g : Nat) (hgs : w.heap.size = g) (hx : a.eval x = .slice (some ⟨g, 0, none⟩) 1 1) (hn : n ≤ 67108863) (hB : B ≤ w.heap.size)
    (h : ∀ ao' cap' w', Own B w'.heap.size w' ao' (n + 1) cap' (xs ++ [y]) → Chg (fun k => (Value.slice ao n cap).ownBlock = some k) w w' → NewOr w (.slice ao n cap) (.slice ao' (n + 1) cap') → wpList Tryd.prog ops Q rest (a.put o.dst (.slice ao' (n + 1) cap')) w') :
    wpList Tryd.prog ops Q (o :: rest) a (w.alloc (.cells #[.int .i64 y] 3)) :=
  wpList_pushVX w hgd s x 24 ho 3 _ 8 Tryd.underlying24 Tryd.infoInt rfl (by decide) B E ao n cap _ hs hown _ rfl (hgs ▸ hx) hn hB (fun ao' cap' w' ho' hc hnew => h ao' cap' w' (by unfold Own; rw [List.map_append]; exact ho') hc hnew)

set_option maxHeartbeats 1600000 in
theorem impl_NewPiles (h l : Int) (ao : Option Addr) (n cap : Nat) (xs : List Int) (K : Int) (w : World) (hA : IntsAt w ao n cap xs) :
    Calls Tryd.prog 12 #[.agg #[.int .i64 h, .int .i64 l, .slice ao n cap], .int .i64 K] w fun e w' => ∃ a m c, e = .returned (.tuple #[.slice a m c, .bool (mNewPiles ⟨h, l, xs⟩ K).2]) ∧ Own w.heap.size w'.heap.size w' a m c (mNewPiles ⟨h, l, xs⟩ K).1 ∧ Below w.heap.size w w' := by
  have hm := mNewPiles.eq_1 ⟨h, l, xs⟩ K
  have hb1 := belowAlloc w (.cells #[.int .i64 h, .int .i64 l, .slice ao n cap] 26)
  have hA1 := hA.keep hb1
  by_cases hk : BankOk ⟨h, l, xs⟩ ∧ 0 ≤ K ∧ K ≤ 1000
  · rw [if_pos ⟨bankYes hk.1, hk.2⟩] at hm
    obtain ⟨k, rfl⟩ := Int.eq_ofNat_of_zero_le hk.2.1
    have hcon := playBank_yes h l ao n cap xs k (by omega) _ hA1 hk.1
    rw [hm]
    simp only [Int.toNat_natCast]
    generalize newL ⟨h, l, xs⟩ k = NL at *
    generalize stepsB k ⟨h, l, xs⟩ = B1 at *
    obtain ⟨h', l', p'⟩ := B1
    have hcon' := hcon.mono (R' := fun e w1 => ∃ a m c a2 c2, e = .returned (.tuple #[.agg #[.int .i64 h', .int .i64 l', .slice a m c], .slice a2 k c2, .bool true]) ∧ Own w.heap.size w1.heap.size w1 a2 k c2 NL ∧ Below w.heap.size w w1)
      (fun e w1 ⟨a, m, c, a2, c2, e1, e2, e3, e4⟩ => ⟨a, m, c, a2, c2, e1, e3.mono (by simp) (Nat.le_refl _), belowTrans hb1 e4 (Nat.le_refl _)⟩)
    clear hcon hb1 hA1 hm hk
    have Hcon' := Lib.hid hcon'; clear hcon'
    go_enter Tryd.func12, Tryd.ntmps12
    go_wp2_with fail
    with_reducible refine (Hcon'.out).mono ?_
    rintro e w1 ⟨a, m, c, a2, c2, rfl, ho1, hb1⟩
    have hbn := belowAlloc w1 (.cells #[.int .i64 h', .int .i64 l', .slice a m c] 26)
    have ho2 := (ho1.keep hbn).mono (Nat.le_refl _) (show w1.heap.size ≤ w1.heap.size + 1 by omega)
    have hb2 := belowTrans hb1 hbn (Nat.le_trans hb1.size (Nat.le_refl _) |> fun q => Nat.le_refl _)
    clear ho1 hb1 hbn
    have Ho2 := Lib.hid ho2; clear ho2
    have Hb2 := Lib.hid hb2; clear hb2
    go_wp2
    go_ret2
    exact ⟨a2, k, c2, rfl, by have := Ho2.out; simpa using this, Hb2.out⟩
  · rw [if_neg (fun q => hk ⟨bank_iff.1 q.1, q.2⟩)] at hm
    have hcon := playBank_no h l ao n cap xs K _ hA1 hk
    rw [hm]
    clear hm hk hA1
    have Hcon := Lib.hid hcon; clear hcon
    have Hb1 := Lib.hid hb1; clear hb1
    go_enter Tryd.func12, Tryd.ntmps12
    go_wp2_with fail
    with_reducible refine (Hcon.out).mono ?_
    rintro e w1 ⟨rfl, hb2⟩
    have hbb := belowTrans (belowTrans Hb1.out hb2 (Nat.le_refl _)) (belowAlloc w1 (.cells #[.int .i64 0, .int .i64 0, .slice none 0 0] 26)) (Nat.le_refl _)
    have Hbb := Lib.hid hbb; clear hbb
    go_wp2
    go_ret2
    exact ⟨none, 0, 0, rfl, Own.nil _ _ _, Hbb.out⟩

set_option maxHeartbeats 1600000 in
theorem spec_NewPiles (h l : Int) (ao : Option Addr) (n cap : Nat) (xs : List Int) (K : Int) (w : World) (hA : IntsAt w ao n cap xs) :
    Calls Tryd.prog 16 #[.agg #[.int .i64 h, .int .i64 l, .slice ao n cap], .int .i64 K] w fun e w' => ∃ a m c, e = .returned (.tuple #[.slice a m c, .bool (mNewPiles ⟨h, l, xs⟩ K).2]) ∧ Own w.heap.size w'.heap.size w' a m c (mNewPiles ⟨h, l, xs⟩ K).1 ∧ Below w.heap.size w w' := by
  have hm := mNewPiles.eq_1 ⟨h, l, xs⟩ K
  have hb1 := belowAlloc w (.cells #[.int .i64 h, .int .i64 l, .slice ao n cap] 26)
  have hA1 := hA.keep hb1
  have k1 := Blk.new w h l ao n cap 26
  have hcon := baGood_any h l ao n cap xs _ hA1
  unfold bankV at hcon
  by_cases hk : BankOk ⟨h, l, xs⟩
  · rw [bankYes hk] at hcon
    have hcon' := hcon.mono (R' := fun e w1 => e = .returned (.bool true) ∧ Below w.heap.size w w1 ∧ Blk w1 w.heap.size h l ao n cap 26 ∧ w.heap.size + 1 ≤ w1.heap.size)
      (fun e w1 ⟨e1, e2⟩ => ⟨e1, belowTrans hb1 e2 (Nat.le_refl _), k1.keep e2, by simpa using e2.size⟩)
    clear hcon hb1 hA1 k1
    by_cases hK : 0 ≤ K ∧ K ≤ 1000
    · rw [if_pos ⟨bankYes hk, hK⟩] at hm
      have h2 := fun W => many_yes K W hK
      obtain ⟨k, rfl⟩ := Int.eq_ofNat_of_zero_le hK.1
      have hk1000 : k ≤ 1000 := by omega
      rw [hm]
      simp only [Int.toNat_natCast]
      have hstep := fun i a m c W (hW : IntsAt W a m c (stepsB i ⟨h, l, xs⟩).p) => baStep_any (stepsB i ⟨h, l, xs⟩).h (stepsB i ⟨h, l, xs⟩).l a m c (stepsB i ⟨h, l, xs⟩).p W hW (steps_okB hk i)
      have hsucc := fun i => newL_succ ⟨h, l, xs⟩ i
      have hss := fun i => show stepB (stepsB i ⟨h, l, xs⟩) = stepsB (i + 1) ⟨h, l, xs⟩ from rfl
      have hnl0 : newL ⟨h, l, xs⟩ 0 = [] := rfl
      have hlen := fun i => newL_length ⟨h, l, xs⟩ i
      have hsep0 : ∀ b o, ao = some ⟨b, o, none⟩ → ¬ (Value.slice none 0 0).ownBlock = some b := fun b o _ q => by simp [Value.ownBlock] at q
      clear hm
      have Hcon' := Lib.hid hcon'; clear hcon'
      have H2 := Lib.hid h2; clear h2
      have Hstep := Lib.hid hstep; clear hstep
      have Hsucc := Lib.hid hsucc; clear hsucc
      have Hss := Lib.hid hss; clear hss
      have Hnl0 := Lib.hid hnl0; clear hnl0
      have Hlen := Lib.hid hlen; clear hlen
      have Hsep0 := Lib.hid hsep0; clear hsep0
      have HK := Lib.hid hK; clear hK
      have Hk := Lib.hid hk; clear hk
      go_enter Tryd.func16, Tryd.ntmps16
      go_wp2_with fail
      with_reducible refine (Hcon'.out).mono ?_
      rintro e w1 ⟨rfl, hb1, k1, hs1⟩
      have hA1 := hA.keep hb1
      have Hb1 := Lib.hid hb1; clear hb1
      have K1 := Lib.hid k1; clear k1
      have HA1 := Lib.hid hA1; clear hA1
      go_wp2_with fail
      with_reducible refine (H2.out _).mono ?_
      rintro e w1' ⟨rfl, rfl⟩
      go_wp2_with fail
      go_loopw [1, 6] (fun kv ov wr => ∃ (i : Nat) (a : Option Addr) (m c : Nat) (p : Option Addr) (cc : Nat), i ≤ k ∧ kv = .int .i64 ((k - i : Nat) : Int) ∧ ov = .slice p i cc ∧ Hid (Blk wr w.heap.size (stepsB i ⟨h, l, xs⟩).h (stepsB i ⟨h, l, xs⟩).l a m c 26) ∧ Hid (IntsAt wr a m c (stepsB i ⟨h, l, xs⟩).p) ∧ Hid (∀ b o, a = some ⟨b, o, none⟩ → ¬ (Value.slice p i cc).ownBlock = some b) ∧ Own (w.heap.size + 1) wr.heap.size wr p i cc (newL ⟨h, l, xs⟩ i) ∧ Hid (Below w.heap.size w wr) ∧ w.heap.size + 1 ≤ wr.heap.size) (fun kv _ _ => (intOf kv).toNat)
      case atStart => exact ⟨0, ao, n, cap, none, 0, Nat.zero_le _, rfl, rfl, K1, HA1, Hsep0, by rw [Hnl0.out]; exact Own.nil _ _ _, Hb1, hs1⟩
      case round =>
        obtain ⟨i, a, m, c, p, cc, hik, rfl, rfl, Kr, Ar, Sr, hor, Hbr, hsr⟩ := hrel
        clear K1 HA1 Hsep0 Hb1
        obtain ⟨⟨u0, u1, u2⟩, v0, v1, v2⟩ := Kr.out.cells
        by_cases hlt : i < k
        · have hcon := Hstep.out i a m c wr Ar.out
          have hsc := Hsucc.out i
          rw [Hss.out i] at hcon
          generalize madeB (stepsB i ⟨h, l, xs⟩) = z at *
          generalize hB1 : stepsB i (⟨h, l, xs⟩ : Bk) = B1 at *
          obtain ⟨h1', l1', p1'⟩ := B1
          generalize hB2 : stepsB (i + 1) (⟨h, l, xs⟩ : Bk) = B2 at *
          obtain ⟨h2', l2', p2'⟩ := B2
          simp only at hcon u0 u1 u2
          have hpos : ((k - i : Nat) : Int) > 0 := by omega
          have hcast : ((k - (i + 1) : Nat) : Int) = ((k - i : Nat) : Int) - 1 := by omega
          have Hcon := Lib.hid hcon; clear hcon
          have Hsc := Lib.hid hsc; clear hsc
          have HB1 := Lib.hid hB1; clear hB1
          have HB2 := Lib.hid hB2; clear hB2
          have Hcast := Lib.hid hcast; clear hcast
          go_wp2_with fail
          with_reducible refine (Hcon.out).mono ?_
          rintro e w4 ⟨a4, m4, c4, rfl, ho4, hb4⟩
          clear u0 u1 u2 v0 v1 v2
          have hbn := belowAlloc w4 (.cells #[.int .i64 h2', .int .i64 l2', .slice a4 m4 c4] 26)
          have hb5 := belowTrans hb4 hbn (Nat.le_refl _)
          have hor5 := hor.keep hb5
          have k5 := Kr.out.keep hb5
          have n5 := Blk.new w4 h2' l2' a4 m4 c4 26
          have ho5 := ho4.keep hbn
          have hbr5 := belowTrans Hbr.out hb5 (by omega)
          have hs5 := hb4.size
          obtain ⟨w5, hw5⟩ : ∃ w5, w5 = w4.alloc (.cells #[.int .i64 h2', .int .i64 l2', .slice a4 m4 c4] 26) := ⟨_, rfl⟩
          have hsz5 : w5.heap.size = w4.heap.size + 1 := by rw [hw5]; simp
          rw [← hw5] at hor5 k5 n5 ho5 hbr5
          clear hb4 hbn hb5 Kr Ar Sr Hbr
          have Hw5 := Lib.hid hw5; clear hw5
          have Ho5 := Lib.hid ho5; clear ho5
          have Hbr5 := Lib.hid hbr5; clear hbr5
          have K5 := Lib.hid k5; clear k5
          have N5 := Lib.hid n5; clear n5
          have Hor5 := Lib.hid hor5; clear hor5
          go_wp2_with (at_builtin; refine pushNP (w4.alloc (.cells #[.int .i64 h2', .int .i64 l2', .slice a4 m4 c4] 26)) rfl _ _ rfl (w.heap.size + 1) wr.heap.size p i cc _ rfl (Hw5.out ▸ Hor5.out) z (w4.heap.size + 1) (by simp) rfl (by omega) (by rw [← Hw5.out]; omega) ?_)
          rw [← Hw5.out]
          intro a6 c6 w6 ho6 hch hnew
          rw [← Hsc.out] at ho6
          have hge : ∀ g, (Value.slice p i cc).ownBlock = some g → w.heap.size + 1 ≤ g ∧ g < wr.heap.size := fun g hg => ⟨(Hor5.out.1.lt g hg).1, Hor5.out.2 g hg⟩
          have hb6 : Below (w.heap.size + 1) w5 w6 := Hor5.out.chgBelow hch (by omega)
          have k6 := K5.out.chg hch (fun q => by have := hge _ q; omega)
          have n6 := N5.out.chg hch (fun q => by have := hge _ q; omega)
          have ho7 := Ho5.out.chg hch (fun g g1 _ _ q => by have := hge _ q; omega)
          have hs6 := hb6.size
          have hbr6 := Hbr5.out.trans (hb6.mono (by omega))
          have hsep : ∀ b o, a4 = some ⟨b, o, none⟩ → ¬ (Value.slice a6 (i + 1) c6).ownBlock = some b := fun b o hb q => by
            subst hb
            have g1 := (Ho5.out.1.lt b rfl).1
            have g2 := Ho5.out.2 b rfl
            rcases hnew b q with q' | q'
            · have := hge _ q'; omega
            · omega
          clear hor
          obtain ⟨⟨u0, u1, u2⟩, v0, v1, v2⟩ := k6.cells
          obtain ⟨⟨x0, x1, x2⟩, y0, y1, y2⟩ := n6.cells
          have k7 := k6.set3 h2' l2' a4 m4 c4
          have ho8 := (((ho7.offCell (R := w.heap.size) (by omega) 0 (.int .i64 h2')).offCell (R := w.heap.size) (by omega) 1 (.int .i64 l2')).offCell (R := w.heap.size) (by omega) 2 (.slice a4 m4 c4)).at
          have ho9 := ((ho6.offCell (R := w.heap.size) (by omega) 0 (.int .i64 h2')).offCell (R := w.heap.size) (by omega) 1 (.int .i64 l2')).offCell (R := w.heap.size) (by omega) 2 (.slice a4 m4 c4)
          have hb9 := ((hbr6.setCell (p := ⟨w.heap.size, 0, none⟩) (Nat.le_refl _) (.int .i64 h2')).setCell (p := ⟨w.heap.size, 1, none⟩) (Nat.le_refl _) (.int .i64 l2')).setCell (p := ⟨w.heap.size, 2, none⟩) (Nat.le_refl _) (.slice a4 m4 c4)
          have hs9 : w.heap.size + 1 ≤ w6.heap.size := by omega
          clear k6 n6 ho6 ho7 hb6 hbr6 hch hnew hge
          have K7 := Lib.hid k7; clear k7
          have Ho8 := Lib.hid ho8; clear ho8
          have Ho9 := Lib.hid ho9; clear ho9
          have Hb9 := Lib.hid hb9; clear hb9
          have Hsep := Lib.hid hsep; clear hsep
          go_wp2
          go_roundw
          case rel => exact ⟨i + 1, a4, m4, c4, a6, c6, by omega, by rw [Hcast.out], rfl, by rw [HB2.out]; exact K7, by rw [HB2.out]; exact Ho8, Hsep, by have := Ho9.out; simpa using this, Hb9, by simpa using hs9⟩
          case measure => simp [intOf]; omega
        · obtain rfl : i = k := by omega
          have hz0 : ((i - i : Nat) : Int) = 0 := by omega
          have Hor := Lib.hid hor; clear hor
          rw [hz0]
          go_wp2
          go_ret2
          exact ⟨p, i, cc, rfl, Hor.out.mono (by omega) (Nat.le_refl _), Hbr.out⟩
    · rw [if_neg (fun q => hK q.2)] at hm
      have h2 := fun W => many_no K W hK
      rw [hm]
      clear hm
      have Hcon' := Lib.hid hcon'; clear hcon'
      have H2 := Lib.hid h2; clear h2
      have HK := Lib.hid hK; clear hK
      have Hk := Lib.hid hk; clear hk
      go_enter Tryd.func16, Tryd.ntmps16
      go_wp2_with fail
      with_reducible refine (Hcon'.out).mono ?_
      rintro e w1 ⟨rfl, hb1, k1, hs1⟩
      have Hb1 := Lib.hid hb1; clear hb1
      have K1 := Lib.hid k1; clear k1
      go_wp2_with fail
      with_reducible refine (H2.out _).mono ?_
      rintro e w1' ⟨rfl, rfl⟩
      go_wp2
      go_ret2
      exact ⟨none, 0, 0, rfl, Own.nil _ _ _, Hb1.out⟩
  · rw [if_neg (fun q => hk (bank_iff.1 q.1))] at hm
    rw [bankNo hk] at hcon
    rw [hm]
    clear hm k1
    have Hcon := Lib.hid hcon; clear hcon
    have Hb1 := Lib.hid hb1; clear hb1
    have Hk := Lib.hid hk; clear hk
    go_enter Tryd.func16, Tryd.ntmps16
    go_wp2_with fail
    with_reducible refine (Hcon.out).mono ?_
    rintro e w1 ⟨rfl, hb2⟩
    have hbb := belowTrans Hb1.out hb2 (Nat.le_refl _)
    have Hbb := Lib.hid hbb; clear hbb
    go_wp2
    go_ret2
    exact ⟨none, 0, 0, rfl, Own.nil _ _ _, Hbb.out⟩
theorem mNewPiles_bound (b : Bk) (K : Int) : (mNewPiles b K).1.length ≤ 1048576 := by
  unfold mNewPiles
  split
  · next q => rw [newL_length]; omega
  · simp
end Go.Proofs.YtnebfojnbjbogaaDoor
