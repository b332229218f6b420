/- Chapter 7: several steps of a bank state, noted. No condition. -/
import Derived.Test.YtnebfojnbjbogaaDoorGe
namespace Go.Proofs.YtnebfojnbjbogaaDoor
open Go.RowKit
set_option linter.unusedVariables false
set_option linter.unusedSimpArgs false
set_option maxRecDepth 20000

theorem Blk.set3 {w g h l a n c ty} (hh : Blk w g h l a n c ty) (h' l' : Int) (a' : Option Addr) (n' c' : Nat) : Blk (((w.setCell ⟨g, 0, none⟩ (.int .i64 h')).setCell ⟨g, 1, none⟩ (.int .i64 l')).setCell ⟨g, 2, none⟩ (.slice a' n' c')) g h' l' a' n' c' ty := by
  have e1 := heap_setCell_same w g 0 _ _ (.int .i64 h') hh
  have e2 := heap_setCell_same _ g 1 _ _ (.int .i64 l') e1
  have e3 := heap_setCell_same _ g 2 _ _ (.slice a' n' c') e2
  unfold Blk
  rw [e3]; rfl
theorem resCell3 {fn : Func} {p u v : Tmp} {ty : TypeId} (h : fn.results = #[.cell p ty, .tmp u, .tmp v]) (tmps : Array Value) (P : Program) (w : World) :
    (results fn tmps).run P w = ((asAddr (tmps.getD p undef)).run P w).andThen fun a w₁ => ((loadVar ty a).run P w₁).andThen fun x w₂ => .ok (.tuple #[x, tmps.getD u undef, tmps.getD v undef]) w₂ := by
  simp only [results, h]
  simp [Sem.run_bind, Result.andThen]
def rowN (b : Bk) (K i : Nat) : List Int := newL b i ++ List.replicate (K - i) 0
theorem rowN_zero (b : Bk) (K : Nat) : rowN b K 0 = List.replicate K 0 := by simp [rowN, newL]
theorem rowN_full (b : Bk) (K : Nat) : rowN b K K = newL b K := by simp [rowN]
theorem rowN_length (b : Bk) (K i : Nat) (hi : i ≤ K) : (rowN b K i).length = K := by simp [rowN, newL_length]; omega
theorem rowN_set (b : Bk) (K i : Nat) (hi : i < K) : (rowN b K i).set i (madeB (stepsB i b)) = rowN b K (i + 1) := by
  unfold rowN
  rw [newL_succ, List.set_append_right _ _ (by rw [newL_length]; exact Nat.le_refl _), newL_length, Nat.sub_self, show K - i = (K - (i + 1)) + 1 by omega, List.replicate_succ, List.set_cons_zero, List.append_assoc]
  rfl

set_option maxHeartbeats 3200000 in
theorem playBank_yes (h l : Int) (ao : Option Addr) (n cap : Nat) (xs : List Int) (K : Nat) (hK : K ≤ 1000) (w : World) (hA : IntsAt w ao n cap xs) (hk : BankOk ⟨h, l, xs⟩) :
    Calls Tryd.prog 30 #[.agg #[.int .i64 h, .int .i64 l, .slice ao n cap], .int .i64 K] w fun e w' => ∃ a m c a2 c2, e = .returned (.tuple #[.agg #[.int .i64 (stepsB K ⟨h, l, xs⟩).h, .int .i64 (stepsB K ⟨h, l, xs⟩).l, .slice a m c], .slice a2 K c2, .bool true]) ∧ Own w.heap.size w'.heap.size w' a m c (stepsB K ⟨h, l, xs⟩).p ∧ Own w.heap.size w'.heap.size w' a2 K c2 (newL ⟨h, l, xs⟩ K) ∧ Below w.heap.size w w' := by
  have hlen := hA.length
  have hn28 : n ≤ 28 := by have := hk.len; simp only at this; omega
  have hstep := fun i a m c W (hW : IntsAt W a m c (stepsB i ⟨h, l, xs⟩).p) => stepOfBank_any (stepsB i ⟨h, l, xs⟩).h (stepsB i ⟨h, l, xs⟩).l a m c (stepsB i ⟨h, l, xs⟩).p W hW (steps_okB hk i)
  have hset := fun i hi => rowN_set ⟨h, l, xs⟩ K i hi
  have hmb := fun i => (step_ok (steps_okB hk i)).2.2
  have hb1 := belowAlloc w (.cells #[.int .i64 h, .int .i64 l, .slice ao n cap] 26)
  have hbn := belowAlloc (w.alloc (.cells #[.int .i64 h, .int .i64 l, .slice ao n cap] 26)) (.cells #[.int .i64 0, .int .i64 0, .slice none 0 0] 26)
  have hb2 := belowTrans hb1 hbn (Nat.le_refl _)
  have k1 := (Blk.new w h l ao n cap 26).keep hbn
  have m1 := Blk.new (w.alloc (.cells #[.int .i64 h, .int .i64 l, .slice ao n cap] 26)) 0 0 none 0 0 26
  rw [show (w.alloc (.cells #[.int .i64 h, .int .i64 l, .slice ao n cap] 26)).heap.size = w.heap.size + 1 by simp] at m1
  have hA2 := hA.keep hb2
  have hcon := isBank_any h l ao n cap xs _ hA2
  rw [bankYes hk] at hcon
  unfold bankV at hcon
  have hcon' := hcon.mono (R' := fun e w1 => e = .returned (.bool true) ∧ Below w.heap.size w w1 ∧ Blk w1 w.heap.size h l ao n cap 26 ∧ Blk w1 (w.heap.size + 1) 0 0 none 0 0 26 ∧ w.heap.size + 2 ≤ w1.heap.size)
    (fun e w1 ⟨e1, e2⟩ => ⟨e1, belowTrans hb2 e2 (Nat.le_refl _), k1.keep e2, m1.keep e2, by simpa using e2.size⟩)
  have hin := fun W => inRange_yes (K : Int) 1000 W (by omega)
  have hcp := fun W (hW : IntsAt W ao n cap xs) => copyOf_any ao n cap xs W hW (by omega)
  obtain ⟨i0, hi, hz0, hz1, hz2⟩ := info_parts Tryd.infoInt
  have h0 : stepsB 0 ⟨h, l, xs⟩ = ⟨h, l, xs⟩ := rfl
  have hss := fun i => show stepB (stepsB i ⟨h, l, xs⟩) = stepsB (i + 1) ⟨h, l, xs⟩ from rfl
  have hnl := rowN_full ⟨h, l, xs⟩ K
  have hz := rowN_zero ⟨h, l, xs⟩ K
  clear hcon k1 m1 hb1 hbn hb2 hA2
  have Hcon' := Lib.hid hcon'; clear hcon'
  have Hin := Lib.hid hin; clear hin
  have Hcp := Lib.hid hcp; clear hcp
  have Hstep := Lib.hid hstep; clear hstep
  have Hset := Lib.hid hset; clear hset
  have Hmb := Lib.hid hmb; clear hmb
  have Hss := Lib.hid hss; clear hss
  have Hnl := Lib.hid hnl; clear hnl
  have Hz := Lib.hid hz; clear hz
  have H0 := Lib.hid h0; clear h0
  have Hlen := Lib.hid hlen; clear hlen
  go_enter Tryd.func30, Tryd.ntmps30
  go_wp2_with fail
  with_reducible refine (Hcon'.out).mono ?_
  rintro e w1 ⟨rfl, hb1, k1, m1, hs1⟩
  obtain ⟨⟨u0, u1, u2⟩, v0, v1, v2⟩ := k1.cells
  have hA1 := hA.keep hb1
  have Hb1 := Lib.hid hb1; clear hb1
  have M1 := Lib.hid m1; clear m1
  have HA1 := Lib.hid hA1; clear hA1
  have K1 := Lib.hid k1; clear k1
  go_wp2_with fail
  with_reducible refine (Hin.out _).mono ?_
  rintro e w1' ⟨rfl, rfl⟩
  go_wp2_with fail
  with_reducible refine (Hcp.out _ HA1.out).mono ?_
  rintro e w2 ⟨a2, c2, rfl, ho2, hb2⟩
  clear u0 u1 u2 v0 v1 v2
  have k2 := K1.out.keep hb2
  have m2 := M1.out.keep hb2
  have hs2 := hb2.size
  have hbb2 := belowTrans Hb1.out hb2 (Nat.le_refl _)
  obtain ⟨⟨u0, u1, u2⟩, v0, v1, v2⟩ := k2.cells
  have k3 := k2.set2 a2 n c2
  have m3 := m2.chg (chgCell w2 w.heap.size 2 (.slice a2 n c2)) (by omega)
  have ho3 := (ho2.offCell (R := w.heap.size) (by omega) 2 (.slice a2 n c2)).mono (show w.heap.size + 2 ≤ w1.heap.size from hs1) (Nat.le_refl _)
  have hb3 := hbb2.setCell (p := ⟨w.heap.size, 2, none⟩) (Nat.le_refl _) (.slice a2 n c2)
  have hs3 : (w2.setCell ⟨w.heap.size, 2, none⟩ (.slice a2 n c2)).heap.size = w2.heap.size := by simp
  clear k2 m2 hbb2 ho2 hb2 Hb1 M1 HA1 K1
  have K3 := Lib.hid k3; clear k3
  have M3 := Lib.hid m3; clear m3
  have Ho3 := Lib.hid ho3; clear ho3
  have Hb3 := Lib.hid hb3; clear hb3
  have Hs3 := Lib.hid hs3; clear hs3
  go_wp2_with (at_make; refine wpList_make_full (w2.setCell ⟨w.heap.size, 2, none⟩ (.slice a2 n c2)) rfl _ _ _ rfl w2.heap.size 3 i0 _ 1 Tryd.underlying24 hi hz0 hz1 _ _ _ _ K rfl rfl rfl rfl ?_ ?_ (by rw [Hs3.out]; exact Nat.le_refl _) ?_)
  · first | (rw [hz2]; omega) | omega
  · first | (unfold maxLen; omega) | omega
  · intro w3 hown hgrow
    rw [madeZeros] at hown
    have ho : Own w2.heap.size w3.heap.size w3 (some ⟨w2.heap.size, 0, none⟩) K K (List.replicate K 0) := Own.of hown
    rw [← Hz.out] at ho
    have hb4 : Below w2.heap.size (w2.setCell ⟨w.heap.size, 2, none⟩ (.slice a2 n c2)) w3 := (Below.refl _ _).grown hgrow (by rw [Hs3.out]; exact Nat.le_refl _) (fun k hk => by cases hk)
    have hb4' := hb4
    rw [← Hs3.out] at hb4'
    have hs4 : w2.heap.size ≤ w3.heap.size := by have := hb4.size; rw [Hs3.out] at this; exact this
    have k4 := K3.out.keep hb4'
    have m4 := M3.out.keep hb4'
    have ho4 := (Ho3.out.keep hb4').mono (Nat.le_refl _) hs4
    have hne4 : ∀ g, (Value.slice a2 n c2).ownBlock = some g → g ≠ w2.heap.size := fun g hg => by have := Ho3.out.2 g hg; omega
    have hb5 := belowTrans Hb3.out hb4' (by simp)
    clear hi hz0 hz1 hz2 hgrow hown hb4 hb4' u0 u1 u2 v0 v1 v2 K3 M3 Ho3 Hb3 Hs3
    have hs24 : w.heap.size + 2 ≤ w2.heap.size := by omega
    have hGt : w2.heap.size < w3.heap.size := by
      rcases ho.cases with ⟨q, _⟩ | ⟨g, q, _, q2, _⟩
      · simp at q
      · simp only [Option.some.injEq, Addr.mk.injEq, and_true] at q; omega
    clear hs1 hs2
    have K4 := Lib.hid k4; clear k4
    have M4 := Lib.hid m4; clear m4
    have Ho := Lib.hid ho; clear ho
    have Ho4 := Lib.hid ho4; clear ho4
    have Hb5 := Lib.hid hb5; clear hb5
    have Hne4 := Lib.hid hne4; clear hne4
    go_wp2_with fail
    go_loopw [25] (fun x wr => ∃ (i : Nat) (a : Option Addr) (m c : Nat), i ≤ K ∧ x = .int .i64 i ∧ Hid (Blk wr w.heap.size (stepsB i ⟨h, l, xs⟩).h (stepsB i ⟨h, l, xs⟩).l a m c 26) ∧ Hid (Blk wr (w.heap.size + 1) 0 0 none 0 0 26) ∧ Hid (Own (w.heap.size + 2) wr.heap.size wr a m c (stepsB i ⟨h, l, xs⟩).p) ∧ Hid (∀ g, (Value.slice a m c).ownBlock = some g → g ≠ w2.heap.size) ∧ Hid (Own w2.heap.size w3.heap.size wr (some ⟨w2.heap.size, 0, none⟩) K K (rowN ⟨h, l, xs⟩ K i)) ∧ Hid (Below w.heap.size w wr) ∧ w3.heap.size ≤ wr.heap.size) (fun x _ => K - (intOf x).toNat)
    case atStart => exact ⟨0, a2, n, c2, Nat.zero_le _, rfl, K4, M4, Ho4, Hne4, Ho, Hb5, Nat.le_refl _⟩
    case round =>
      obtain ⟨i, a, m, c, hiK, rfl, Kr, Mr, Hor, Hner, Hrow, Hbr, hsr⟩ := hrel
      clear K4 M4 Ho4 Hne4 Ho Hb5
      obtain ⟨⟨u0, u1, u2⟩, v0, v1, v2⟩ := Kr.out.cells
      by_cases hlt : i < K
      · have hcon := Hstep.out i a m c wr Hor.out.at
        obtain ⟨z1, z2⟩ := Hmb.out i
        have hst := Hset.out i hlt
        rw [Hss.out i] at hcon
        generalize madeB (stepsB i ⟨h, l, xs⟩) = z at *
        generalize hB1 : stepsB i (⟨h, l, xs⟩ : Bk) = B1 at *
        obtain ⟨h1', l1', p1'⟩ := B1
        generalize hB2 : stepsB (i + 1) (⟨h, l, xs⟩ : Bk) = B2 at *
        obtain ⟨h2', l2', p2'⟩ := B2
        simp only at hcon u0 u1 u2
        have Hcon := Lib.hid hcon; clear hcon
        have Hst := Lib.hid hst; clear hst
        have HB1 := Lib.hid hB1; clear hB1
        have HB2 := Lib.hid hB2; clear hB2
        go_wp2_with fail
        with_reducible refine (Hcon.out).mono ?_
        rintro e w4 ⟨a4, m4, c4, rfl, ho4, hb4⟩
        have hs5 := hb4.size
        have k4 := Kr.out.keep hb4
        have m4' := Mr.out.keep hb4
        have hr4 := Hrow.out.keep hb4
        have hbb4 := belowTrans Hbr.out hb4 (by omega)
        have hne5 : ∀ g, (Value.slice a4 m4 c4).ownBlock = some g → g ≠ w2.heap.size := fun g hg => by have := (ho4.1.lt g hg).1; omega
        clear u0 u1 u2 v0 v1 v2 Kr Mr Hor Hner Hrow Hbr hb4
        obtain ⟨⟨u0, u1, u2⟩, v0, v1, v2⟩ := k4.cells
        have k5 := k4.set3 h2' l2' a4 m4 c4
        have m5 := ((m4'.chg (chgCell w4 w.heap.size 0 (.int .i64 h2')) (by omega)).chg (chgCell _ w.heap.size 1 (.int .i64 l2')) (by omega)).chg (chgCell _ w.heap.size 2 (.slice a4 m4 c4)) (by omega)
        have ho5 := (((ho4.offCell (R := w.heap.size) (by omega) 0 (.int .i64 h2')).offCell (R := w.heap.size) (by omega) 1 (.int .i64 l2')).offCell (R := w.heap.size) (by omega) 2 (.slice a4 m4 c4)).mono (show w.heap.size + 2 ≤ wr.heap.size by omega) (Nat.le_refl _)
        have hr5 := ((hr4.offCell (R := w.heap.size) (by omega) 0 (.int .i64 h2')).offCell (R := w.heap.size) (by omega) 1 (.int .i64 l2')).offCell (R := w.heap.size) (by omega) 2 (.slice a4 m4 c4)
        have hb5 := ((hbb4.setCell (p := ⟨w.heap.size, 0, none⟩) (Nat.le_refl _) (.int .i64 h2')).setCell (p := ⟨w.heap.size, 1, none⟩) (Nat.le_refl _) (.int .i64 l2')).setCell (p := ⟨w.heap.size, 2, none⟩) (Nat.le_refl _) (.slice a4 m4 c4)
        have hs6 : w3.heap.size ≤ w4.heap.size := by omega
        clear k4 m4' ho4 hr4 hbb4
        have k6 := k5.chg (chgCell _ w2.heap.size i (.int .i64 z)) (by omega)
        have m6 := m5.chg (chgCell _ w2.heap.size i (.int .i64 z)) (by omega)
        have ho6 := ho5.chg (chgCell _ w2.heap.size i (.int .i64 z)) (fun g _ _ hg e => hne5 g hg e)
        have hr6 := (hr5.set i z).1
        rw [Hst.out] at hr6
        have hb6 := hb5.setCell (p := ⟨w2.heap.size, i, none⟩) (by show w.heap.size ≤ w2.heap.size; omega) (.int .i64 z)
        have hfz := hr5.frozenAt i
        have hcz := getD_cells hr5 i hlt
        clear k5 m5 ho5 hr5 hb5
        have K6 := Lib.hid k6; clear k6
        have M6 := Lib.hid m6; clear m6
        have Ho6 := Lib.hid ho6; clear ho6
        have Hr6 := Lib.hid hr6; clear hr6
        have Hb6 := Lib.hid hb6; clear hb6
        have Hne5 := Lib.hid hne5; clear hne5
        go_wp2
        go_roundw
        case rel => exact ⟨i + 1, a4, m4, c4, by omega, by go_num, by rw [HB2.out]; exact K6, M6, Lib.hid (by rw [HB2.out]; have := Ho6.out; simpa using this), Hne5, Hr6, Hb6, by simpa using hs6⟩
        case measure => simp [intOf]; omega
      · obtain rfl : i = K := by omega
        obtain ⟨⟨x0, x1, x2⟩, y0, y1, y2⟩ := Mr.out.cells
        have hrow := Hrow.out
        rw [Hnl.out] at hrow
        have hor := Hor.out
        have ho7 := (((hor.offCell (R := w.heap.size + 1) (by omega) 0 (.int .i64 (stepsB i ⟨h, l, xs⟩).h)).offCell (R := w.heap.size + 1) (by omega) 1 (.int .i64 (stepsB i ⟨h, l, xs⟩).l)).offCell (R := w.heap.size + 1) (by omega) 2 (.slice a m c)).mono (show w.heap.size ≤ w.heap.size + 2 by omega) (Nat.le_refl _)
        have hr7 := (((hrow.offCell (R := w.heap.size + 1) (by omega) 0 (.int .i64 (stepsB i ⟨h, l, xs⟩).h)).offCell (R := w.heap.size + 1) (by omega) 1 (.int .i64 (stepsB i ⟨h, l, xs⟩).l)).offCell (R := w.heap.size + 1) (by omega) 2 (.slice a m c)).mono (show w.heap.size ≤ w2.heap.size by omega) hsr
        have hb7 := ((Hbr.out.setCell (p := ⟨w.heap.size + 1, 0, none⟩) (by show w.heap.size ≤ w.heap.size + 1; omega) (.int .i64 (stepsB i ⟨h, l, xs⟩).h)).setCell (p := ⟨w.heap.size + 1, 1, none⟩) (by show w.heap.size ≤ w.heap.size + 1; omega) (.int .i64 (stepsB i ⟨h, l, xs⟩).l)).setCell (p := ⟨w.heap.size + 1, 2, none⟩) (by show w.heap.size ≤ w.heap.size + 1; omega) (.slice a m c)
        clear hrow hor Hrow Hor Hbr Kr Mr Hner
        have Ho7 := Lib.hid ho7; clear ho7
        have Hr7 := Lib.hid hr7; clear hr7
        have Hb7 := Lib.hid hb7; clear hb7
        go_wp2
        refine bodyPost_ret (v := .tuple #[.agg #[.int .i64 (stepsB i ⟨h, l, xs⟩).h, .int .i64 (stepsB i ⟨h, l, xs⟩).l, .slice a m c], .slice (some ⟨w2.heap.size, 0, none⟩) i i, .bool true]) ?_ rfl ⟨a, m, c, some ⟨w2.heap.size, 0, none⟩, i, rfl, by have := Ho7.out; simpa using this, by have := Hr7.out; simpa using this, by have := Hb7.out; simpa using this⟩
        rw [resCell3 rfl]
        simp [go_sem, asAddr, Result.andThen, loadVar, *]
end Go.Proofs.YtnebfojnbjbogaaDoor
