/- Chapter 6 by the program: FallsOf, IsSettled, WeightOf, settling, counting and playing falls. No condition. -/
import Derived.Test.YtdfmljkjidepeaaDoorSaJ
namespace Go.Proofs.YtdfmljkjidepeaaDoor
open Go.RowKit
set_option linter.unusedVariables false
set_option linter.unusedSimpArgs false
set_option maxRecDepth 20000

theorem slideFrom_any (ao : Option Addr) (n cap : Nat) (xs : List Int) (w : World) (h : IntsAt w ao n cap xs) (hn : n ≤ 1048576) :
    Calls Tryd.prog 33 #[.slice ao n cap] w fun e w' => ∃ R a c, e = .returned (.pointer (some ⟨R, 0, none⟩)) ∧ Sl w.heap.size w'.heap.size R w' a n c xs none 0 0 [] ∧ Below w.heap.size w w' := by
  have hcp := copyOf_any ao n cap xs w h hn
  have Hcp := Lib.hid hcp; clear hcp
  go_enter Tryd.func33, Tryd.ntmps33
  go_wp2_with fail
  with_reducible refine (Hcp.out).mono ?_
  rintro e w1 ⟨a1, c1, rfl, ho1, hb1⟩
  have hs1 := hb1.size
  have hblk : (w1.alloc (.cells #[.slice a1 n c1, .slice none 0 0] 50)).heap[w1.heap.size]? = some (.cells #[.slice a1 n c1, .slice none 0 0] 50 (0, 0)) := by rw [heap_alloc_new]
  have hsl : Sl w.heap.size (w1.alloc (.cells #[.slice a1 n c1, .slice none 0 0] 50)).heap.size w1.heap.size (w1.alloc (.cells #[.slice a1 n c1, .slice none 0 0] 50)) a1 n c1 xs none 0 0 [] :=
    ⟨hblk, hs1, Sep.nil ((ho1.keep (belowAlloc w1 _)).mono (Nat.le_refl _) (by simp)), Own.nil _ _ _⟩
  have hbb := hb1.alloc hs1 (.cells #[.slice a1 n c1, .slice none 0 0] 50)
  clear ho1 hb1 hblk
  have Hsl := Lib.hid hsl; clear hsl
  have Hbb := Lib.hid hbb; clear hbb
  go_wp2
  go_ret
  exact ⟨_, _, _, rfl, Hsl.out, Hbb.out⟩

theorem sandS_any (B E R : Nat) (a : Option Addr) (n c : Nat) (xs : List Int) (a2 : Option Addr) (n2 c2 : Nat) (zs : List Int) (w : World) (h : Sl B E R w a n c xs a2 n2 c2 zs) :
    Calls Tryd.prog 23 #[.pointer (some ⟨R, 0, none⟩)] w fun e w' => ∃ ao' n' cap', e = .returned (.tuple #[.slice ao' n' cap', .bool (ifSand (some xs)).2]) ∧ Own B E w' ao' n' cap' (ifSand (some xs)).1 ∧ w = w' := by
  obtain ⟨k0, k1⟩ := h.c0
  have hown := h.cols.own
  cases hg : sandB xs
  · have hm := ifSand_no hg
    have Hg := Lib.hid hg; clear hg
    have Hm := Lib.hid hm; clear hm
    go_enter Tryd.func23, Tryd.ntmps23
    go_wp2_with fail
    with_reducible refine (isSand_no _ _ _ _ _ hown.at Hg.out).mono ?_
    rintro e w' ⟨rfl, rfl⟩
    go_wp2
    go_ret2
    rw [Hm.out]
    exact ⟨none, 0, 0, rfl, Own.nil _ _ _, rfl⟩
  · have hm := ifSand_yes hg
    have Hg := Lib.hid hg; clear hg
    have Hm := Lib.hid hm; clear hm
    go_enter Tryd.func23, Tryd.ntmps23
    go_wp2_with fail
    with_reducible refine (isSand_yes _ _ _ _ _ hown.at (sand_iff.1 Hg.out)).mono ?_
    rintro e w' ⟨rfl, rfl⟩
    go_wp2
    go_ret2
    rw [Hm.out]
    exact ⟨_, _, _, rfl, hown, rfl⟩

theorem let_any (B R : Nat) (a : Option Addr) (n c : Nat) (xs : List Int) (a2 : Option Addr) (n2 c2 : Nat) (zs : List Int) (i : Nat) (w : World) (h : Sl B w.heap.size R w a n c xs a2 n2 c2 zs) (hB : B ≤ w.heap.size) (hg : Grains xs) (hi : i < n) (hn2 : n2 ≤ 24) (hz : ∀ j, 0 ≤ zs.getD j 0 ∧ zs.getD j 0 ≤ 576) :
    Calls Tryd.prog 35 #[.pointer (some ⟨R, 0, none⟩), fallV (decide (i + 1 = n)) i] w fun e w' => e = .returned (.tuple #[]) ∧ ∃ a' n' c' a3 n3 c3, Sl B w'.heap.size R w' a' n' c' (fallL xs i) a3 n3 c3 (bump zs i) ∧ Below B w w' := by
  by_cases he : i + 1 = n
  · rw [decide_eq_true he]; exact letEnd_any B R a n c xs a2 n2 c2 zs i w h hB hg he hn2 hz
  · rw [decide_eq_false he]; exact letIn_any B R a n c xs a2 n2 c2 zs i w h hB hg (by omega) hn2 hz

theorem fallsV_first {xs : List Int} {i : Nat} (h : firstN xs = some i) : (fallsV xs xs.length)[0]? = some (fallV (decide (i + 1 = xs.length)) i) := by
  unfold firstN at h
  unfold fallsV
  rw [List.getElem?_map, ← List.head?_eq_getElem?, h]
  rfl

set_option maxHeartbeats 6400000 in
theorem settled_any (ao : Option Addr) (n cap : Nat) (xs : List Int) (w : World) (h : IntsAt w ao n cap xs) (hg : Grains xs) :
    Calls Tryd.prog 22 #[.slice ao n cap] w fun e w' => ∃ R a1 n1 c1 a2 n2 c2, e = .returned (.pointer (some ⟨R, 0, none⟩)) ∧ Sl w.heap.size w'.heap.size R w' a1 n1 c1 (settleL xs) a2 n2 c2 (countsL xs) ∧ Below w.heap.size w w' := by
  have hl := h.length
  have hlen := hg.len
  have hcp := slideFrom_any ao n cap xs w h (by omega)
  have Hl := Lib.hid hl; clear hl
  have Hg := Lib.hid hg; clear hg
  have Hcp := Lib.hid hcp; clear hcp
  go_enter Tryd.func22, Tryd.ntmps22
  go_wp2_with fail
  with_reducible refine (Hcp.out).mono ?_
  rintro e w1 ⟨R, a1, c1, rfl, hs1, hb1⟩
  obtain ⟨k0, k1⟩ := hs1.c0
  go_wp2_with fail
  with_reducible refine (fallsOf_any _ _ _ _ _ hs1.cols.own.at Hg.out).mono ?_
  rintro e w2 ⟨a3, n3, c3, rfl, ho3, hb3⟩
  have hsz3 := hb3.size
  have hs2 := (hs1.keep hb3).mono hsz3
  have hb2 := belowTrans hb1 hb3 (Nat.le_refl _)
  clear hs1 hb1 hb3 k0 k1
  go_wp2_with fail
  go_loopg [4] 577 (fun k f wr => ∃ (t : Nat) (a1 : Option Addr) (n1 c1 : Nat) (a2 : Option Addr) (n2 c2 : Nat) (a3 : Option Addr) (n3 c3 B3 E3 : Nat), f = .slice a3 n3 c3 ∧ k + t = 577 ∧ Hid (∀ q, q < t → firstN (stepsS xs q) ≠ none) ∧
      Sl w.heap.size wr.heap.size R wr a1 n1 c1 (stepsS xs t) a2 n2 c2 (cntS xs t) ∧ OwnRow B3 E3 wr 53 a3 n3 c3 (fallsV (stepsS xs t) n1) ∧ Below w.heap.size w wr)
  case atStart => exact ⟨0, a1, n, c1, none, 0, 0, a3, n3, c3, _, _, rfl, rfl, Lib.hid (fun q hq => absurd hq (Nat.not_lt_zero _)), hs2, ho3, hb2⟩
  case round =>
    obtain ⟨t, a1, n1, c1, a2, n2, c2, a3, n3, c3, B3, E3, rfl, hk, Hno, hsl, hfa, hb⟩ := hrel
    clear hs2 ho3 hb2
    have hgo := steps_go Hg.out Hno.out
    have hfew := steps_few Hg.out Hno.out
    have hn3 := hfa.length
    rw [fallsV_length] at hn3
    have hn1 := hsl.cols.own.length
    have hn2 := hsl.cnts.length
    have hcv := cnts_go Hg.out Hno.out
    have hfl : fallsT (stepsS xs t) n1 = fallsL (stepsS xs t) := by unfold fallsL; rw [hn1]
    rw [hfl] at hn3
    by_cases hz : n3 = 0
    · have hnil : firstN (stepsS xs t) = none := firstN_nil.2 (List.eq_nil_of_length_eq_zero (by omega))
      obtain ⟨e1, e2⟩ := settle_at Hg.out Hno.out hnil
      rw [← e1, ← e2] at hsl
      subst hz
      clear hfa hgo hcv hn1 hn2 hn3 hfl
      have Hsl := Lib.hid hsl; clear hsl
      have Hnil := Lib.hid hnil; clear hnil
      have E1 := Lib.hid e1; clear e1
      have E2 := Lib.hid e2; clear e2
      go_wp2
      go_ret
      exact ⟨_, _, _, _, _, _, _, rfl, Hsl.out, hb⟩
    · have hpos : (0 : Int) < n3 := by omega
      obtain ⟨x, l, hxl⟩ : ∃ x l, fallsL (stepsS xs t) = x :: l := by
        cases hh : fallsL (stepsS xs t) with
        | nil => rw [hh] at hn3; exact absurd hn3.symm hz
        | cons x l => exact ⟨x, l, rfl⟩
      obtain ⟨i, rfl, hfi, hilt, _⟩ := firstN_cons hxl
      obtain ⟨e1, e2⟩ := step_fall hfi
      have hno2 : ∀ q, q < t + 1 → firstN (stepsS xs q) ≠ none := fun q hq => by
        by_cases e : q = t
        · subst e; rw [hfi]; simp
        · exact Hno.out q (by omega)
      have hfew2 := steps_few Hg.out hno2
      have hgr2 := (steps_go Hg.out hno2).1
      have hz24 := hgo.2.2.1
      have hG := hgo.1
      have hv0 := fallsV_first hfi
      rw [hn1] at hv0
      rcases hfa.cases with ⟨_, hz', _⟩ | ⟨g3, rfl, _, _, hg3⟩
      · exact absurd hz' hz
      have hck := World.ownsRow.cellAt hfa.1 0 (by omega)
      have hvl : (fallsV (stepsS xs t) n1)[0]'(by rw [fallsV_length, hfl]; omega) = fallV (decide (i + 1 = n1)) i := by
        rw [List.getElem?_eq_getElem (by rw [fallsV_length, hfl]; omega)] at hv0
        simpa using hv0
      rw [List.getElem?_eq_getElem (by rw [fallsV_length, hfl]; omega), hvl] at hck
      have hcon := let_any w.heap.size R a1 n1 c1 (stepsS xs t) a2 n2 c2 (cntS xs t) i wr hsl hb.size hG (by omega) (by omega) hcv
      rw [← e1, ← e2] at hcon
      have hcon2 := fun a n c W hh => fallsOf_any a n c (stepsS xs (t + 1)) W hh hgr2
      generalize fallV (decide (i + 1 = n1)) i = fv at *
      clear hfa hvl hv0 hgo hcv hsl hn1 hn2 hn3 hfl
      have Hxl := Lib.hid hxl; clear hxl
      have Hfi := Lib.hid hfi; clear hfi
      have E1 := Lib.hid e1; clear e1
      have E2 := Lib.hid e2; clear e2
      have Hno2 := Lib.hid hno2; clear hno2
      have Hgr2 := Lib.hid hgr2; clear hgr2
      have HG := Lib.hid hG; clear hG
      have Hcon := Lib.hid hcon; clear hcon
      have Hcon2 := Lib.hid hcon2; clear hcon2
      have Hk := Lib.hid hk; clear hk
      have Hfew := Lib.hid hfew; clear hfew
      have Hfew2 := Lib.hid hfew2; clear hfew2
      have Hz24 := Lib.hid hz24; clear hz24
      go_wp2_with fail
      with_reducible refine (Hcon.out).mono ?_
      rintro e w4 ⟨rfl, a4, n4, c4, a5, n5, c5, hs4, hb4⟩
      obtain ⟨k0, k1⟩ := hs4.c0
      go_wp2_with fail
      with_reducible refine (Hcon2.out _ _ _ _ hs4.cols.own.at).mono ?_
      rintro e w6 ⟨a6, n6, c6, rfl, ho6, hb6⟩
      have hsz6 := hb6.size
      have hs6 := (hs4.keep hb6).mono hsz6
      have hbw := belowTrans (hb.trans hb4) hb6 (Nat.le_refl _)
      have hrow : OwnRow w4.heap.size w6.heap.size w6 53 a6 n6 c6 (fallsV (stepsS xs (t + 1)) n4) := ho6
      clear hs4 hb4 hb6 ho6 hck k0 k1
      have Hs6 := Lib.hid hs6; clear hs6
      have Hrow := Lib.hid hrow; clear hrow
      go_wp2
      go_roundg (576 - t)
      case measure => have := Hk.out; have := Hfew2.out; omega
      case rel => exact ⟨t + 1, a4, n4, c4, a5, n5, c5, a6, n6, c6, _, _, rfl, by have := Hk.out; have := Hfew2.out; omega, Lib.hid Hno2.out, Hs6.out, Hrow.out, hbw⟩
end Go.Proofs.YtdfmljkjidepeaaDoor
