/- Chapter 6 by the model: settling, counting and playing falls, weights, one column. No condition. -/
import Derived.Test.YthhhgmkjjagmaaaSaA
import Derived.Test.YthhhgmkjjagmaaaSaF
import Derived.Test.YthhhgmkjjagmaaaPut
import Derived.Deep.LoopGhost
namespace Go.Proofs.Ythhhgmkjjagmaaa
open Go.RowKit
set_option linter.unusedVariables false
set_option linter.unusedSimpArgs false
set_option maxRecDepth 20000

/-! ### A row of ints, and another one that is grown beside it -/
structure Sep (B E : Nat) (w : World) (v : Value) (a : Option Addr) (n c : Nat) (xs : List Int) : Prop where
  own : Own B E w a n c xs
  ap : ∀ g, v.ownBlock = some g → (Value.slice a n c).ownBlock ≠ some g
theorem Sep.keep {B E w w' v a n c xs} (h : Sep B E w v a n c xs) (hb : Below w.heap.size w w') : Sep B E w' v a n c xs := ⟨h.own.keep hb, h.ap⟩
theorem Sep.mono {B E B' E' w v a n c xs} (h : Sep B E w v a n c xs) (hB : B' ≤ B) (hE : E ≤ E') : Sep B' E' w v a n c xs := ⟨h.own.mono hB hE, h.ap⟩
theorem Sep.drewN {B E w v a n c xs} (h : Sep B E w v a n c xs) (q : Nat) : Sep B E (w.drewN q) v a n c xs := ⟨h.own, h.ap⟩
theorem Sep.chg {B E w w' v a n c xs} (h : Sep B E w v a n c xs) (hc : Chg (fun k => v.ownBlock = some k) w w') : Sep B E w' v a n c xs :=
  ⟨h.own.chg hc (fun g _ _ h1 h2 => h.ap g h2 h1), h.ap⟩
theorem Sep.push {B E w w' v v' a n c xs} (h : Sep B E w v a n c xs) (hE : E ≤ w.heap.size) (hc : Chg (fun k => v.ownBlock = some k) w w') (hn : NewOr w v v') : Sep B E w' v' a n c xs :=
  ⟨(h.chg hc).own, fun g hg h1 => by
    rcases hn g hg with h2 | h2
    · exact h.ap g h2 h1
    · have := h.own.2 g h1
      omega⟩
/-- what was made behind a world that holds the other one -/
theorem Sep.fresh {B E w v a n c xs} (h : Own B E w a n c xs) (hv : ∀ g, v.ownBlock = some g → g < B) : Sep B E w v a n c xs :=
  ⟨h, fun g hg h1 => by have := hv g hg; have := (h.1.lt g h1).1; omega⟩
theorem Sep.nil {B E w a n c xs} (h : Own B E w a n c xs) : Sep B E w (.slice none 0 0) a n c xs := ⟨h, fun g hg => by simp [Value.ownBlock] at hg⟩
theorem ownLt {B E w a n c xs} (h : Own B E w a n c xs) : ∀ g, (Value.slice a n c).ownBlock = some g → g < E := h.2
theorem Own.chgSelf {w w' : World} {g n c : Nat} (h : Chg (fun k => some k = (Value.slice (some ⟨g, 0, none⟩) n c).ownBlock) w w') : Chg (fun k => (Value.slice (some ⟨g, 0, none⟩) n c).ownBlock = some k) w w' := h.mono fun k hk => hk.symm
theorem chgCell (w : World) (g i n c : Nat) (v : Value) : Chg (fun k => (Value.slice (some ⟨g, 0, none⟩) n c).ownBlock = some k) w (w.setCell ⟨g, i, none⟩ v) :=
  ⟨rfl, rfl, rfl, by simp, fun q _ hq => heap_setCell_other w ⟨g, i, none⟩ q _ (fun e => hq (by simp [Value.ownBlock, e]))⟩
/-- one number more behind a row of ints, and where the row lies then -/
theorem wpList_pushI {ops : Array Oper} {rest : List Oper} {o : Oper} {a : Act} {Q : Exit → Act → World → Prop} (w : World) (hgd : o.guard = none) (s x : Operand)
    (ho : o.op = .call { callee := .builtin .append, args := #[s, x], argTypes := #[24, 24] })
    (B E : Nat) (ao : Option Addr) (n cap : Nat) (xs : List Int) (hs : a.eval s = .slice ao n cap) (hown : Own B E w ao n cap xs) (y : Int)
    (hx : a.eval x = .slice (some ⟨w.heap.size, 0, none⟩) 1 1) (hn : n ≤ 67108863) (hB : B ≤ w.heap.size)
    (h : ∀ ao' cap' w', Own B w'.heap.size w' ao' (n + 1) cap' (xs ++ [y]) → Chg (fun k => (Value.slice ao n cap).ownBlock = some k) w w' → NewOr w (.slice ao n cap) (.slice ao' (n + 1) cap') → wpList Try.prog ops Q rest (a.put o.dst (.slice ao' (n + 1) cap')) w') :
    wpList Try.prog ops Q (o :: rest) a (w.alloc (.cells #[.int .i64 y] 3)) :=
  wpList_pushVX w hgd s x 24 ho 3 _ 8 Try.underlying24 Try.infoInt rfl (by decide) B E ao n cap _ hs hown _ rfl hx hn hB (fun ao' cap' w' ho' hc hnew => h ao' cap' w' (by unfold Own; rw [List.map_append]; exact ho') hc hnew)

theorem cnts_go {xs : List Int} (hg : Grains xs) {t : Nat} (h : ∀ u, u < t → firstN (stepsS xs u) ≠ none) (i : Nat) : 0 ≤ (cntS xs t).getD i 0 ∧ (cntS xs t).getD i 0 ≤ 576 := by
  have h1 := (steps_go hg h).2.2.2 i
  have h2 := steps_few hg h
  omega

set_option maxHeartbeats 6400000 in
theorem saSettle_any (ao : Option Addr) (n cap : Nat) (xs : List Int) (w : World) (h : IntsAt w ao n cap xs) (hg : Grains xs) :
    Calls Try.prog 61 #[.slice ao n cap] w fun e w' => ∃ a1 n1 c1 a2 n2 c2, e = .returned (.tuple #[.slice a1 n1 c1, .slice a2 n2 c2]) ∧ Own w.heap.size w'.heap.size w' a1 n1 c1 (settleL xs) ∧ Own w.heap.size w'.heap.size w' a2 n2 c2 (countsL xs) ∧ Below w.heap.size w w' := by
  have hl := h.length
  have hlen := hg.len
  have hcp := l1Own_any ao n cap xs w h (by omega)
  have Hl := Lib.hid hl; clear hl
  have Hg := Lib.hid hg; clear hg
  have Hcp := Lib.hid hcp; clear hcp
  go_enter Try.func61, Try.ntmps61
  go_wp2_with fail
  with_reducible refine (Hcp.out).mono ?_
  rintro e w1 ⟨a1, c1, rfl, ho1, hb1⟩
  go_wp2_with fail
  with_reducible refine (saFalls_any _ _ _ _ _ ho1.at Hg.out).mono ?_
  rintro e w2 ⟨a3, n3, c3, rfl, ho3, hb3⟩
  have hs1 := hb1.size
  have hs3 := hb3.size
  have ho1' := (ho1.keep hb3).mono (Nat.le_refl _) hs3
  have ho3' := ho3.mono hs1 (Nat.le_refl _)
  have hb2 := belowTrans hb1 hb3 (Nat.le_refl _)
  clear ho1 ho3 hb1 hb3
  go_wp2_with fail
  go_loopg [4, 5, 6] 577 (fun k v u f wr => ∃ (t : Nat) (a1 : Option Addr) (n1 c1 : Nat) (a2 : Option Addr) (n2 c2 : Nat) (a3 : Option Addr) (n3 c3 : Nat), v = .slice a1 n1 c1 ∧ u = .slice a2 n2 c2 ∧ f = .slice a3 n3 c3 ∧ k + t = 577 ∧ Hid (∀ q, q < t → firstN (stepsS xs q) ≠ none) ∧
      Sep w.heap.size wr.heap.size wr (.slice a2 n2 c2) a1 n1 c1 (stepsS xs t) ∧ Own w.heap.size wr.heap.size wr a2 n2 c2 (cntS xs t) ∧ Sep w.heap.size wr.heap.size wr (.slice a2 n2 c2) a3 n3 c3 (fallsL (stepsS xs t)) ∧ Below w.heap.size w wr)
  case atStart => exact ⟨0, a1, n, c1, none, 0, 0, a3, n3, c3, rfl, rfl, rfl, rfl, Lib.hid (fun q hq => absurd hq (Nat.not_lt_zero _)), Sep.nil ho1', Own.nil _ _ _, Sep.nil ho3', hb2⟩
  case round =>
    obtain ⟨t, a1, n1, c1, a2, n2, c2, a3, n3, c3, rfl, rfl, rfl, hk, Hno, hnow, hcn, hfa, hb⟩ := hrel
    clear ho1' ho3' hb2
    have hgo := steps_go Hg.out Hno.out
    have hfew := steps_few Hg.out Hno.out
    have hn3 := hfa.own.length
    have hn1 := hnow.own.length
    have hn2 := hcn.length
    have hcv := cnts_go Hg.out Hno.out
    by_cases hz : n3 = 0
    · have hnil : firstN (stepsS xs t) = none := firstN_nil.2 (List.eq_nil_of_length_eq_zero (by omega))
      obtain ⟨e1, e2⟩ := settle_at Hg.out Hno.out hnil
      rw [← e1] at hnow
      rw [← e2] at hcn
      subst hz
      have Hgo := Lib.hid hgo; clear hgo
      have Hn3 := Lib.hid hn3; clear hn3
      have Hn1 := Lib.hid hn1; clear hn1
      have Hn2 := Lib.hid hn2; clear hn2
      have Hnil := Lib.hid hnil; clear hnil
      have E1 := Lib.hid e1; clear e1
      have E2 := Lib.hid e2; clear e2
      have Hcv := Lib.hid hcv; clear hcv
      go_wp2
      go_ret2
      exact ⟨_, _, _, _, _, _, rfl, hnow.own, hcn, hb⟩
    · have hpos : (0 : Int) < n3 := by omega
      obtain ⟨x, l, hxl⟩ : ∃ x l, fallsL (stepsS xs t) = x :: l := by
        cases hh : fallsL (stepsS xs t) with
        | nil => rw [hh] at hn3; exact absurd hn3.symm hz
        | cons x l => exact ⟨x, l, rfl⟩
      obtain ⟨i, rfl, hfi, hilt, _⟩ := firstN_cons hxl
      obtain ⟨e1, e2⟩ := step_fall hfi
      have hx0 : (fallsL (stepsS xs t)).getD 0 0 = (i : Int) := by rw [hxl]; rfl
      have hno2 : ∀ q, q < t + 1 → firstN (stepsS xs q) ≠ none := fun q hq => by
        by_cases e : q = t
        · subst e; rw [hfi]; simp
        · exact Hno.out q (by omega)
      have hfew2 := steps_few Hg.out hno2
      have hgr2 := (steps_go Hg.out hno2).1
      have hz24 := hgo.2.2.1
      have hG := hgo.1
      have hi24 := hG.len
      have e3 : cntS xs (t + 1) = bump (cntS xs t) i := e2
      have hcon := fun W hh => saFall_any a1 n1 c1 (stepsS xs t) i W hh hG (by omega)
      have hcon2 := fun a n c W hh => saFalls_any a n c (stepsS xs (t + 1)) W hh hgr2
      rw [← e1] at hcon
      generalize hyy : stepsS xs t = ys at *
      generalize hy2 : stepsS xs (t + 1) = ys2 at *
      generalize hFF : fallsL ys = F at *
      generalize hZZ : cntS xs t = Z at *
      rcases hfa.own.cases with ⟨_, hz', _⟩ | ⟨g3, rfl, _, _, hg3⟩
      · exact absurd hz' hz
      have hck := getD_cells hfa.own 0 (by omega)
      rw [hx0] at hck
      have hcon1 := hcon wr hnow.own.at
      have hib : (i : Int) ≤ 24 := by omega
      clear hcon e2
      have Hgo := Lib.hid hgo; clear hgo
      have Hn3 := Lib.hid hn3; clear hn3
      have Hn1 := Lib.hid hn1; clear hn1
      have Hn2 := Lib.hid hn2; clear hn2
      have Hxl := Lib.hid hxl; clear hxl
      have Hfi := Lib.hid hfi; clear hfi
      have E1 := Lib.hid e1; clear e1
      have E3 := Lib.hid e3; clear e3
      have Hx0 := Lib.hid hx0; clear hx0
      have Hno2 := Lib.hid hno2; clear hno2
      have Hgr2 := Lib.hid hgr2; clear hgr2
      have HG := Lib.hid hG; clear hG
      have Hcv := Lib.hid hcv; clear hcv
      have Hyy := Lib.hid hyy; clear hyy
      have Hy2 := Lib.hid hy2; clear hy2
      have HFF := Lib.hid hFF; clear hFF
      have HZZ := Lib.hid hZZ; clear hZZ
      have Hcon1 := Lib.hid hcon1; clear hcon1
      have Hcon2 := Lib.hid hcon2; clear hcon2
      have Hk := Lib.hid hk; clear hk
      have Hfew := Lib.hid hfew; clear hfew
      have Hfew2 := Lib.hid hfew2; clear hfew2
      go_wp2_with fail
      with_reducible refine (Hcon1.out).mono ?_
      rintro e w2 ⟨a4, n4, c4, rfl, ho4, hb4⟩
      have hsw := hb.size
      have hs4 := hb4.size
      have hnew : Sep w.heap.size w2.heap.size w2 (.slice a2 n2 c2) a4 n4 c4 ys2 := (Sep.fresh ho4 (ownLt hcn)).mono hsw (Nat.le_refl _)
      have hfa2 := (hfa.keep hb4).mono (Nat.le_refl _) hs4
      have hcn2 := (hcn.keep hb4).mono (Nat.le_refl _) hs4
      have hbw := belowTrans hb hb4 (Nat.le_refl _)
      clear hnow hcn hfa hb hb4 ho4 hck
      obtain ⟨wi, hwi⟩ : ∃ wi : World, wi = w2 := ⟨_, rfl⟩
      subst hwi
      go_wp2_with fail
      go_loopw [5] (fun v wr => ∃ (q : Nat) (a : Option Addr) (c : Nat), n2 ≤ q ∧ q ≤ max n2 (i + 1) ∧ v = .slice a q c ∧ Own w.heap.size wr.heap.size wr a q c (Z ++ List.replicate (q - n2) 0) ∧ Sep w.heap.size wr.heap.size wr (.slice a q c) a4 n4 c4 ys2 ∧ Sep w.heap.size wr.heap.size wr (.slice a q c) (some ⟨g3, 0, none⟩) n3 c3 F ∧ Below w.heap.size w wr) (fun v _ => match v with | .slice _ q _ => 9000 - q | _ => 0)
      case atStart => exact ⟨n2, a2, c2, Nat.le_refl _, by omega, rfl, by simpa using hcn2, hnew, hfa2, hbw⟩
      case round =>
        obtain ⟨q, a, c, hp1, hp2, rfl, hown, hsn, hsf, hb⟩ := hrel
        clear hnew hfa2 hcn2 hbw
        have hck := getD_cells hsf.own 0 (by omega)
        rw [Hx0.out] at hck
        have hn2b : n2 ≤ 24 := by rw [← Hn2.out]; exact hz24
        by_cases hlt2 : q ≤ i
        · have hlI : (q : Int) ≤ i := by omega
          go_wp2_with (at_builtin; refine wpList_pushI wr rfl _ _ rfl w.heap.size wr.heap.size a q c _ rfl hown _ rfl (by omega) hb.size ?_)
          intro a5 c5 w5 ho5 hc5 hnw
          have hb5 := hb.trans (hown.chgBelow hc5 hb.size)
          have hs5 := hc5.size
          have hsn5 := (hsn.push (Nat.le_refl _) hc5 hnw).mono (Nat.le_refl _) hs5
          have hsf5 := (hsf.push (Nat.le_refl _) hc5 hnw).mono (Nat.le_refl _) hs5
          clear hown hc5 hnw hsn hsf hb
          go_wp2
          go_roundw
          case rel => exact ⟨q + 1, a5, c5, by omega, by omega, rfl, by rw [show q + 1 - n2 = (q - n2) + 1 by omega, List.replicate_succ']; simpa using ho5, hsn5, hsf5, hb5⟩
          case measure => simp; omega
        · have hpe : q - n2 = i + 1 - Z.length := by rw [Hn2.out]; omega
          obtain ⟨_, hz', _⟩ | ⟨g, rfl, hg, hgE, hgw⟩ := hown.cases
          · omega
          · have hck2 := getD_cells hown i (by omega)
            have hval : (Z ++ List.replicate (q - n2) 0).getD i 0 = Z.getD i 0 := getD_pad Z _ i
            have hfz := hown.frozenAt i
            have hset := Own.set hown i (Z.getD i 0 + 1)
            rw [hval] at hck2
            have hxk := Hcv.out i
            have hbm : (Z ++ List.replicate (q - n2) 0).set i (Z.getD i 0 + 1) = bump Z i := by unfold bump; rw [← hpe, hval]
            rw [hbm, ← E3.out] at hset
            have hchg := chgCell wr g i q c (.int .i64 (Z.getD i 0 + 1))
            have hset1 := hset.1.mono (Nat.le_refl _) (show wr.heap.size ≤ (wr.setCell ⟨g, i, none⟩ (.int .i64 (Z.getD i 0 + 1))).heap.size by simp)
            have hsn1 := (hsn.chg hchg).mono (Nat.le_refl _) (show wr.heap.size ≤ (wr.setCell ⟨g, i, none⟩ (.int .i64 (Z.getD i 0 + 1))).heap.size by simp)
            have hbb := hb.setCell hg (p := ⟨g, i, none⟩) (.int .i64 (Z.getD i 0 + 1))
            generalize hxk' : Z.getD i 0 = y at *
            have hkk : (i : Int) < q := by omega
            have hkq : ¬ ((q : Int) ≤ i) := by omega
            have hcon3 := Hcon2.out a4 n4 c4 (wr.setCell ⟨g, i, none⟩ (.int .i64 (y + 1))) hsn1.own.at
            clear hown hset hb hsn hsf hchg
            have Hxk' := Lib.hid hxk'; clear hxk'
            have Hval := Lib.hid hval; clear hval
            have Hset1 := Lib.hid hset1; clear hset1
            have Hbm := Lib.hid hbm; clear hbm
            have Hpe := Lib.hid hpe; clear hpe
            have Hbb := Lib.hid hbb; clear hbb
            have Hsn1 := Lib.hid hsn1; clear hsn1
            have Hcon3 := Lib.hid hcon3; clear hcon3
            go_wp2_with fail
            with_reducible refine (Hcon3.out).mono ?_
            rintro e w6 ⟨a6, n6, c6, rfl, ho6, hb6⟩
            have hs6 := hb6.size
            have hbs := Hbb.out.size
            have hsn6 := (Hsn1.out.keep hb6).mono (Nat.le_refl _) hs6
            have hcn6 := (Hset1.out.keep hb6).mono (Nat.le_refl _) hs6
            have hf6 : Sep w.heap.size w6.heap.size w6 (.slice (some ⟨g, 0, none⟩) q c) a6 n6 c6 (fallsL ys2) := (Sep.fresh ho6 (ownLt Hset1.out)).mono hbs (Nat.le_refl _)
            have hb6' := belowTrans Hbb.out hb6 (Nat.le_refl _)
            rw [← Hy2.out] at hsn6 hf6
            clear ho6 hb6
            go_wp2
            go_roundg (576 - t)
            case measure => have := Hk.out; have := Hfew2.out; omega
            case rel => exact ⟨t + 1, a4, n4, c4, some ⟨g, 0, none⟩, q, c, a6, n6, c6, rfl, rfl, rfl, by have := Hk.out; have := Hfew2.out; omega, Lib.hid Hno2.out, hsn6, hcn6, hf6, hb6'⟩

theorem spec_SettleSand (ao : Option Addr) (n cap : Nat) (xs : List Int) (w : World) (h : IntsAt w ao n cap xs) :
    Calls Try.prog 14 #[.slice ao n cap] w fun e w' => ∃ ao' n' cap', e = .returned (.tuple #[.slice ao' n' cap', .bool (mSettleSand xs).2]) ∧ Own w.heap.size w'.heap.size w' ao' n' cap' (mSettleSand xs).1 ∧ Below w.heap.size w w' := by
  cases hg : sandB xs
  · have hm := mSettle_no hg
    have Hg := Lib.hid hg; clear hg
    have Hm := Lib.hid hm; clear hm
    go_enter Try.func14, Try.ntmps14
    go_wp2_with fail
    with_reducible refine (saGood_no _ _ _ _ _ h Hg.out).mono ?_
    rintro e w' ⟨rfl, rfl⟩
    go_wp2
    go_ret2
    rw [Hm.out]
    exact ⟨none, 0, 0, rfl, Own.nil _ _ _, Below.refl _ _⟩
  · have hm := mSettle_yes hg
    have hG := sand_iff.1 hg
    have Hg := Lib.hid hg; clear hg
    have Hm := Lib.hid hm; clear hm
    have HG := Lib.hid hG; clear hG
    go_enter Try.func14, Try.ntmps14
    go_wp2_with fail
    with_reducible refine (saGood_yes _ _ _ _ _ h HG.out).mono ?_
    rintro e w' ⟨rfl, rfl⟩
    go_wp2_with fail
    with_reducible refine (saSettle_any _ _ _ _ _ h HG.out.grains).mono ?_
    rintro e w1 ⟨a1, n1, c1, a2, n2, c2, rfl, ho1, _, hb⟩
    generalize settleL xs = S at *
    go_wp2_with fail
    with_reducible refine (saIf_any _ _ _ _ _ _ _ ho1).mono ?_
    rintro e w2 ⟨a3, n3, c3, rfl, ho3, rfl⟩
    go_wp2
    go_ret2
    rw [Hm.out]
    exact ⟨_, _, _, rfl, ho3, hb⟩
theorem spec_FallCounts (ao : Option Addr) (n cap : Nat) (xs : List Int) (w : World) (h : IntsAt w ao n cap xs) :
    Calls Try.prog 16 #[.slice ao n cap] w fun e w' => ∃ ao' n' cap', e = .returned (.tuple #[.slice ao' n' cap', .bool (mFallCounts xs).2]) ∧ Own w.heap.size w'.heap.size w' ao' n' cap' (mFallCounts xs).1 ∧ Below w.heap.size w w' := by
  cases hg : sandB xs
  · have hm := mCounts_no hg
    have Hg := Lib.hid hg; clear hg
    have Hm := Lib.hid hm; clear hm
    go_enter Try.func16, Try.ntmps16
    go_wp2_with fail
    with_reducible refine (saGood_no _ _ _ _ _ h Hg.out).mono ?_
    rintro e w' ⟨rfl, rfl⟩
    go_wp2
    go_ret2
    rw [Hm.out]
    exact ⟨none, 0, 0, rfl, Own.nil _ _ _, Below.refl _ _⟩
  · have hm := mCounts_yes hg
    have hG := sand_iff.1 hg
    have Hg := Lib.hid hg; clear hg
    have Hm := Lib.hid hm; clear hm
    have HG := Lib.hid hG; clear hG
    go_enter Try.func16, Try.ntmps16
    go_wp2_with fail
    with_reducible refine (saGood_yes _ _ _ _ _ h HG.out).mono ?_
    rintro e w' ⟨rfl, rfl⟩
    go_wp2_with fail
    with_reducible refine (saSettle_any _ _ _ _ _ h HG.out.grains).mono ?_
    rintro e w1 ⟨a1, n1, c1, a2, n2, c2, rfl, _, ho1, hb⟩
    generalize countsL xs = S at *
    go_wp2
    go_ret2
    rw [Hm.out]
    exact ⟨_, _, _, rfl, ho1, hb⟩

theorem Grains.take {xs : List Int} (h : Grains xs) (k : Nat) : Grains (xs.take k) := by
  refine ⟨h.good.take k, ?_⟩
  have h1 := h.good.1
  have h2 : xs.sum = (xs.take k).sum + (xs.drop k).sum := by rw [← List.sum_append, List.take_append_drop]
  have h3 := sum_nonneg (fun x hx => h1 x (List.mem_of_mem_drop hx) : ∀ x ∈ xs.drop k, 1 ≤ x)
  have := h.2
  omega
theorem l1In_yes' (a lo hi : Int) (w : World) (h : lo ≤ a ∧ a ≤ hi) : Calls Try.prog 57 #[.int .i64 a, .int .i64 lo, .int .i64 hi] w fun e w' => e = .returned (.bool true) ∧ w = w' := by
  have := l1In_any a lo hi w; rw [decide_eq_true h] at this; exact this
theorem l1In_no' (a lo hi : Int) (w : World) (h : ¬ (lo ≤ a ∧ a ≤ hi)) : Calls Try.prog 57 #[.int .i64 a, .int .i64 lo, .int .i64 hi] w fun e w' => e = .returned (.bool false) ∧ w = w' := by
  have := l1In_any a lo hi w; rw [decide_eq_false h] at this; exact this

set_option maxHeartbeats 1600000 in
theorem spec_FallGrain (ao : Option Addr) (n cap : Nat) (xs : List Int) (i : Int) (w : World) (h : IntsAt w ao n cap xs) :
    Calls Try.prog 25 #[.slice ao n cap, .int .i64 i] w fun e w' => ∃ ao' n' cap', e = .returned (.tuple #[.slice ao' n' cap', .bool (mFallGrain xs i).2]) ∧ Own w.heap.size w'.heap.size w' ao' n' cap' (mFallGrain xs i).1 ∧ Below w.heap.size w w' := by
  cases hg : sandB xs
  · have hm : mFallGrain xs i = ([], false) := mPlayF_no1 hg
    have Hg := Lib.hid hg; clear hg
    have Hm := Lib.hid hm; clear hm
    go_enter Try.func25, Try.ntmps25
    go_wp2_with fail
    with_reducible refine (saGood_no _ _ _ _ _ h Hg.out).mono ?_
    rintro e w' ⟨rfl, rfl⟩
    go_wp2
    go_ret2
    rw [Hm.out]
    exact ⟨none, 0, 0, rfl, Own.nil _ _ _, Below.refl _ _⟩
  · have hG := sand_iff.1 hg
    have hl := h.length
    have hlen := hG.grains.len
    have hm : mFallGrain xs i = ifSand (fall1 xs i) := by unfold mFallGrain; rw [mPlayF_yes hg (by simp)]; rfl
    have hn24 : (n : Int) ≤ 24 := by omega
    by_cases hin : 0 ≤ i ∧ i ≤ (n : Int) - 1
    · obtain ⟨k, rfl⟩ := Int.eq_ofNat_of_zero_le hin.1
      have hk : k < n := by omega
      cases hs : steepB xs k
      · have hf : fall1 xs (k : Int) = none := by unfold fall1; rw [if_neg (fun hh => by have := hh.2.2; simp at this; rw [hs] at this; cases this)]
        rw [hf, ifSand_none] at hm
        have hcon := saSteep_any ao n cap xs k w h hG.grains hk
        rw [hs] at hcon
        have Hg := Lib.hid hg; clear hg
        have Hm := Lib.hid hm; clear hm
        have HG := Lib.hid hG; clear hG
        have Hin := Lib.hid hin; clear hin
        have Hf := Lib.hid hf; clear hf
        have Hs := Lib.hid hs; clear hs
        have Hl := Lib.hid hl; clear hl
        have Hcon := Lib.hid hcon; clear hcon
        go_enter Try.func25, Try.ntmps25
        go_wp2_with fail
        with_reducible refine (saGood_yes _ _ _ _ _ h HG.out).mono ?_
        rintro e w' ⟨rfl, rfl⟩
        go_wp2_with fail
        with_reducible refine (l1In_yes' _ _ _ _ Hin.out).mono ?_
        rintro e w' ⟨rfl, rfl⟩
        go_wp2_with fail
        with_reducible refine (Hcon.out).mono ?_
        rintro e w' ⟨rfl, rfl⟩
        go_wp2
        go_ret2
        rw [Hm.out]
        exact ⟨none, 0, 0, rfl, Own.nil _ _ _, Below.refl _ _⟩
      · have hf : fall1 xs (k : Int) = some (fallL xs k) := by unfold fall1; rw [if_pos ⟨by omega, by omega, by simpa using hs⟩]; simp
        rw [hf] at hm
        have hcon := saSteep_any ao n cap xs k w h hG.grains hk
        rw [hs] at hcon
        have Hg := Lib.hid hg; clear hg
        have Hm := Lib.hid hm; clear hm
        have HG := Lib.hid hG; clear hG
        have Hin := Lib.hid hin; clear hin
        have Hf := Lib.hid hf; clear hf
        have Hs := Lib.hid hs; clear hs
        have Hl := Lib.hid hl; clear hl
        have Hcon := Lib.hid hcon; clear hcon
        go_enter Try.func25, Try.ntmps25
        go_wp2_with fail
        with_reducible refine (saGood_yes _ _ _ _ _ h HG.out).mono ?_
        rintro e w' ⟨rfl, rfl⟩
        go_wp2_with fail
        with_reducible refine (l1In_yes' _ _ _ _ Hin.out).mono ?_
        rintro e w' ⟨rfl, rfl⟩
        go_wp2_with fail
        with_reducible refine (Hcon.out).mono ?_
        rintro e w' ⟨rfl, rfl⟩
        go_wp2_with fail
        with_reducible refine (saFall_any _ _ _ _ _ _ h HG.out.grains hk).mono ?_
        rintro e w1 ⟨a1, n1, c1, rfl, ho1, hb⟩
        go_wp2_with fail
        with_reducible refine (saIf_any _ _ _ _ _ _ _ ho1).mono ?_
        rintro e w2 ⟨a3, n3, c3, rfl, ho3, rfl⟩
        go_wp2
        go_ret2
        rw [Hm.out]
        exact ⟨_, _, _, rfl, ho3, hb⟩
    · have hf : fall1 xs i = none := by unfold fall1; rw [if_neg (fun hh => hin ⟨hh.1, by have := hh.2.1; omega⟩)]
      rw [hf, ifSand_none] at hm
      have Hg := Lib.hid hg; clear hg
      have Hm := Lib.hid hm; clear hm
      have HG := Lib.hid hG; clear hG
      have Hin := Lib.hid hin; clear hin
      have Hf := Lib.hid hf; clear hf
      have Hl := Lib.hid hl; clear hl
      go_enter Try.func25, Try.ntmps25
      go_wp2_with fail
      with_reducible refine (saGood_yes _ _ _ _ _ h HG.out).mono ?_
      rintro e w' ⟨rfl, rfl⟩
      go_wp2_with fail
      with_reducible refine (l1In_no' _ _ _ _ Hin.out).mono ?_
      rintro e w' ⟨rfl, rfl⟩
      go_wp2
      go_ret2
      rw [Hm.out]
      exact ⟨none, 0, 0, rfl, Own.nil _ _ _, Below.refl _ _⟩

set_option maxHeartbeats 3200000 in
theorem spec_PlayFalls (ao : Option Addr) (n cap : Nat) (xs : List Int) (bo : Option Addr) (m cap' : Nat) (fs : List Int) (w : World) (h : IntsAt w ao n cap xs) (h' : IntsAt w bo m cap' fs) :
    Calls Try.prog 10 #[.slice ao n cap, .slice bo m cap'] w fun e w' => ∃ ao' n' cap', e = .returned (.tuple #[.slice ao' n' cap', .bool (mPlayFalls xs fs).2]) ∧ Own w.heap.size w'.heap.size w' ao' n' cap' (mPlayFalls xs fs).1 ∧ Below w.heap.size w w' := by
  have hlm := h'.length
  have hmI := h'.lenInt
  cases hg : sandB xs
  · have hm : mPlayFalls xs fs = ([], false) := mPlayF_no1 hg
    have Hg := Lib.hid hg; clear hg
    have Hm := Lib.hid hm; clear hm
    have Hlm := Lib.hid hlm; clear hlm
    go_enter Try.func10, Try.ntmps10
    go_wp2_with fail
    with_reducible refine (saGood_no _ _ _ _ _ h Hg.out).mono ?_
    rintro e w' ⟨rfl, rfl⟩
    go_wp2
    go_ret2
    rw [Hm.out]
    exact ⟨none, 0, 0, rfl, Own.nil _ _ _, Below.refl _ _⟩
  have hG := sand_iff.1 hg
  have hl := h.length
  have hlen := hG.grains.len
  by_cases h300 : m ≤ 300
  · have hm := mPlayF_yes (fs := fs) hg (by omega)
    have hcp := l1Own_any ao n cap xs w h (by omega)
    have hstop := fun k hk => playF_stop (xs := xs) (fs := fs) (k := k) hk
    have hgr := fun k ys hk => playF_grains (xs := xs) (fs := fs.take k) (ys := ys) hG.grains hk
    have h300I : (m : Int) ≤ 300 := by omega
    have Hg := Lib.hid hg; clear hg
    have Hm := Lib.hid hm; clear hm
    have HG := Lib.hid hG; clear hG
    have Hl := Lib.hid hl; clear hl
    have Hlm := Lib.hid hlm; clear hlm
    have Hcp := Lib.hid hcp; clear hcp
    have Hstop := Lib.hid hstop; clear hstop
    have Hgr := Lib.hid hgr; clear hgr
    go_enter Try.func10, Try.ntmps10
    go_wp2_with fail
    with_reducible refine (saGood_yes _ _ _ _ _ h HG.out).mono ?_
    rintro e w' ⟨rfl, rfl⟩
    go_wp2_with fail
    with_reducible refine (Hcp.out).mono ?_
    rintro e w1 ⟨a1, c1, rfl, ho1, hb1⟩
    go_wp2_with fail
    go_loopw [6, 21] (fun v i wr => ∃ (k : Nat) (a : Option Addr) (p c : Nat) (ys : List Int), k ≤ m ∧ i = .int .i64 k ∧ v = .slice a p c ∧ Hid (playF xs (fs.take k) = some ys) ∧ Own w.heap.size wr.heap.size wr a p c ys ∧ Below w.heap.size w wr) (fun _ i _ => m - (intOf i).toNat)
    case atStart => exact ⟨0, a1, n, c1, xs, Nat.zero_le _, rfl, rfl, Lib.hid rfl, ho1, hb1⟩
    case round =>
      obtain ⟨k, a, p, c, ys, hk, rfl, rfl, Hp, hown, hb⟩ := hrel
      have hgy := Hgr.out k ys Hp.out
      have hpl := hown.length
      have hy24 := hgy.len
      have hpI : (p : Int) ≤ 24 := by omega
      clear ho1 hb1
      by_cases hlt : k < m
      · have h1 := h'.keep hb
        obtain ⟨b1, o1, rfl, hb1, hc1⟩ := h1.cell k hlt
        have hck1 := hc1 k hlt
        clear hc1
        generalize hx1 : fs.getD k 0 = x at hck1
        have Hx1 := Lib.hid hx1; clear hx1
        have e := take_snoc Hx1.out hlt Hlm.out
        have e2 : playF xs (fs.take (k + 1)) = fall1 ys x := by rw [e, playF_snoc, Hp.out]; rfl
        by_cases hin : 0 ≤ x ∧ x ≤ (p : Int) - 1
        · obtain ⟨i, rfl⟩ := Int.eq_ofNat_of_zero_le hin.1
          have hi : i < p := by omega
          have hcon := saSteep_any a p c ys i wr hown.at hgy hi
          cases hs : steepB ys i
          · rw [hs] at hcon
            have hf : fall1 ys (i : Int) = none := by unfold fall1; rw [if_neg (fun hh => by have := hh.2.2; simp at this; rw [hs] at this; cases this)]
            rw [hf] at e2
            have hend := Hstop.out _ e2
            have hm2 : mPlayFalls xs fs = ([], false) := by rw [Hm.out, hend]; rfl
            have E := Lib.hid e; clear e
            have E2 := Lib.hid e2; clear e2
            have Hf := Lib.hid hf; clear hf
            have Hs := Lib.hid hs; clear hs
            have Hin := Lib.hid hin; clear hin
            have Hcon := Lib.hid hcon; clear hcon
            have Hend := Lib.hid hend; clear hend
            have Hm2 := Lib.hid hm2; clear hm2
            have Hgy := Lib.hid hgy; clear hgy
            have Hpl := Lib.hid hpl; clear hpl
            go_wp2_with fail
            with_reducible refine (l1In_yes' _ _ _ _ Hin.out).mono ?_
            rintro e w' ⟨rfl, rfl⟩
            go_wp2_with fail
            with_reducible refine (Hcon.out).mono ?_
            rintro e w' ⟨rfl, rfl⟩
            go_wp2
            go_ret2
            rw [Hm2.out]
            exact ⟨none, 0, 0, rfl, Own.nil _ _ _, hb⟩
          · rw [hs] at hcon
            have hf : fall1 ys (i : Int) = some (fallL ys i) := by unfold fall1; rw [if_pos ⟨by omega, by omega, by simpa using hs⟩]; simp
            rw [hf] at e2
            have hcon2 := saFall_any a p c ys i wr hown.at hgy hi
            have hs1 := hb.size
            have E := Lib.hid e; clear e
            have E2 := Lib.hid e2; clear e2
            have Hf := Lib.hid hf; clear hf
            have Hs := Lib.hid hs; clear hs
            have Hin := Lib.hid hin; clear hin
            have Hcon := Lib.hid hcon; clear hcon
            have Hcon2 := Lib.hid hcon2; clear hcon2
            have Hgy := Lib.hid hgy; clear hgy
            have Hpl := Lib.hid hpl; clear hpl
            go_wp2_with fail
            with_reducible refine (l1In_yes' _ _ _ _ Hin.out).mono ?_
            rintro e w' ⟨rfl, rfl⟩
            go_wp2_with fail
            with_reducible refine (Hcon.out).mono ?_
            rintro e w' ⟨rfl, rfl⟩
            go_wp2_with fail
            with_reducible refine (Hcon2.out).mono ?_
            rintro e w2 ⟨a2, n2, c2, rfl, ho2, hb2⟩
            go_wp2
            go_roundw
            case rel => exact ⟨k + 1, a2, n2, c2, _, by omega, by go_num, rfl, Lib.hid E2.out, ho2.mono hs1 (Nat.le_refl _), belowTrans hb hb2 (Nat.le_refl _)⟩
            case measure => simp [intOf]; omega
        · have hf : fall1 ys x = none := by unfold fall1; rw [if_neg (fun hh => hin ⟨hh.1, by have := hh.2.1; omega⟩)]
          rw [hf] at e2
          have hend := Hstop.out _ e2
          have hm2 : mPlayFalls xs fs = ([], false) := by rw [Hm.out, hend]; rfl
          have E := Lib.hid e; clear e
          have E2 := Lib.hid e2; clear e2
          have Hf := Lib.hid hf; clear hf
          have Hin := Lib.hid hin; clear hin
          have Hend := Lib.hid hend; clear hend
          have Hm2 := Lib.hid hm2; clear hm2
          have Hgy := Lib.hid hgy; clear hgy
          have Hpl := Lib.hid hpl; clear hpl
          go_wp2_with fail
          with_reducible refine (l1In_no' _ _ _ _ Hin.out).mono ?_
          rintro e w' ⟨rfl, rfl⟩
          go_wp2
          go_ret2
          rw [Hm2.out]
          exact ⟨none, 0, 0, rfl, Own.nil _ _ _, hb⟩
      · obtain rfl : m = k := by omega
        have hp := Hp.out
        rw [take_all Hlm.out] at hp
        have hm2 : mPlayFalls xs fs = ifSand (some ys) := by rw [Hm.out, hp]
        have Hp := Lib.hid hp; clear hp
        have Hm2 := Lib.hid hm2; clear hm2
        have Hgy := Lib.hid hgy; clear hgy
        have Hpl := Lib.hid hpl; clear hpl
        go_wp2_with fail
        with_reducible refine (saIf_any _ _ _ _ _ _ _ hown).mono ?_
        rintro e w2 ⟨a3, n3, c3, rfl, ho3, rfl⟩
        go_wp2
        go_ret2
        rw [Hm2.out]
        exact ⟨_, _, _, rfl, ho3, hb⟩
  · have hm := mPlayF_no2 (xs := xs) (fs := fs) (by omega)
    have h300I : (300 : Int) < m := by omega
    have Hg := Lib.hid hg; clear hg
    have Hm := Lib.hid hm; clear hm
    have HG := Lib.hid hG; clear hG
    have Hl := Lib.hid hl; clear hl
    have Hlm := Lib.hid hlm; clear hlm
    go_enter Try.func10, Try.ntmps10
    go_wp2_with fail
    with_reducible refine (saGood_yes _ _ _ _ _ h HG.out).mono ?_
    rintro e w' ⟨rfl, rfl⟩
    go_wp2
    go_ret2
    rw [Hm.out]
    exact ⟨none, 0, 0, rfl, Own.nil _ _ _, Below.refl _ _⟩

set_option maxHeartbeats 3200000 in
theorem spec_SettledShape (n : Int) (w : World) :
    Calls Try.prog 22 #[.int .i64 n] w fun e w' => ∃ ao' n' cap', e = .returned (.tuple #[.slice ao' n' cap', .bool (mSettledShape n).2]) ∧ Own w.heap.size w'.heap.size w' ao' n' cap' (mSettledShape n).1 ∧ Below w.heap.size w w' := by
  by_cases hn : 0 ≤ n ∧ n ≤ 24
  · have hin := hn
    obtain ⟨m, rfl⟩ := Int.eq_ofNat_of_zero_le hn.1
    have hm := shape_of (n := m) (by omega)
    have hh := piHeight_any m w (by omega)
    have hst := fun W => piStairs_any (hgt m) W (by have := hgt_le m; omega)
    have hdn := stairs_down (hgt m)
    have h7 := hgt_le m
    have h6 : hgt m ≤ 6 := by unfold hgt; (repeat' split) <;> omega
    have h8 : hgt m = 0 ∨ hgt m = 1 ∨ hgt m = 2 ∨ hgt m = 3 ∨ hgt m = 4 ∨ hgt m = 5 ∨ hgt m = 6 := by omega
    unfold restI at hm
    generalize hgt m = k at *
    obtain ⟨Q, hQ⟩ : ∃ Q : Int, Q = ((tri k : Nat) : Int) := ⟨_, rfl⟩
    rw [← hQ] at hm
    have hm24 : (m : Int) ≤ 24 := by omega
    have Hn := Lib.hid hn; clear hn
    have Hin := Lib.hid hin; clear hin
    rcases h8 with rfl | rfl | rfl | rfl | rfl | rfl | rfl
    all_goals
      have hput := fun a n c W hW => piPut_any a n c _ ((m : Int) - Q) W hW hdn
      by_cases hr : (0 : Int) < (m : Int) - Q
      · rw [if_pos hr] at hm
        simp [tri] at hQ
        subst hQ
        try simp only [Int.sub_zero] at hput hm hr
        have Hm := Lib.hid hm; clear hm
        have Hh := Lib.hid hh; clear hh
        have Hst := Lib.hid hst; clear hst
        have Hdn := Lib.hid hdn; clear hdn
        have Hput := Lib.hid hput; clear hput
        go_enter Try.func22, Try.ntmps22
        go_wp2_with fail
        with_reducible refine (l1In_yes' _ _ _ _ Hin.out).mono ?_
        rintro e w' ⟨rfl, rfl⟩
        go_wp2_with fail
        with_reducible refine (Hh.out).mono ?_
        rintro e w' ⟨rfl, rfl⟩
        go_wp2_with fail
        refine (Hst.out _).mono ?_
        rintro e w1 ⟨a1, c1, rfl, ho1, hb1⟩
        go_wp2_with fail
        with_reducible refine (Hput.out _ _ _ _ ho1.at (by decide)).mono ?_
        rintro e w2 ⟨a2, n2, c2, rfl, ho2, hb2⟩
        go_wp2
        go_ret2
        rw [Hm.out]
        exact ⟨_, _, _, rfl, ho2.mono hb1.size (Nat.le_refl _), belowTrans hb1 hb2 (Nat.le_refl _)⟩
      · rw [if_neg hr, sortD_of_sorted hdn] at hm
        clear hput
        simp [tri] at hQ
        subst hQ
        try simp only [Int.sub_zero] at hr
        have Hm := Lib.hid hm; clear hm
        have Hh := Lib.hid hh; clear hh
        have Hst := Lib.hid hst; clear hst
        have Hdn := Lib.hid hdn; clear hdn
        go_enter Try.func22, Try.ntmps22
        go_wp2_with fail
        with_reducible refine (l1In_yes' _ _ _ _ Hin.out).mono ?_
        rintro e w' ⟨rfl, rfl⟩
        go_wp2_with fail
        with_reducible refine (Hh.out).mono ?_
        rintro e w' ⟨rfl, rfl⟩
        go_wp2_with fail
        refine (Hst.out _).mono ?_
        rintro e w1 ⟨a1, c1, rfl, ho1, hb1⟩
        go_wp2
        go_ret2
        rw [Hm.out]
        exact ⟨_, _, _, rfl, ho1, hb1⟩
  · have hm := mShape_no hn
    have Hm := Lib.hid hm; clear hm
    have Hn := Lib.hid hn; clear hn
    go_enter Try.func22, Try.ntmps22
    go_wp2_with fail
    with_reducible refine (l1In_no' _ _ _ _ Hn.out).mono ?_
    rintro e w' ⟨rfl, rfl⟩
    go_wp2
    go_ret2
    rw [Hm.out]
    exact ⟨none, 0, 0, rfl, Own.nil _ _ _, Below.refl _ _⟩
end Go.Proofs.Ythhhgmkjjagmaaa
