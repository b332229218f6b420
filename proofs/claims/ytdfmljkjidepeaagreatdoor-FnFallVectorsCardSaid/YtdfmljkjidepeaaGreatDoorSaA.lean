/- Chapter 6 by the model: what sand is, falls, what all falls end in. No condition. -/
import Derived.Test.YtdfmljkjidepeaaGreatDoorAppX
import Derived.Test.YtdfmljkjidepeaaGreatDoorGb
import Derived.Test.YtdfmljkjidepeaaGreatDoorGf
namespace Go.Proofs.YtdfmljkjidepeaaGreatDoor
open Go.RowKit
set_option linter.unusedVariables false
set_option linter.unusedSimpArgs false
set_option maxRecDepth 20000

theorem sandB_of {xs : List Int} (hg : Good xs) (h12 : xs.length ≤ 12) : sandB xs = decide (xs.sum ≤ 24) := by
  unfold sandB
  rw [decide_eq_decide]
  exact ⟨fun h => h.2.2, fun h => ⟨h12, hg, h⟩⟩
theorem sandB_far {xs : List Int} (h12 : ¬ xs.length ≤ 12) : sandB xs = false := sand_no.2 fun h => h12 h.1
theorem sandB_bad {xs : List Int} (hg : goodB xs = false) : sandB xs = false := sand_no.2 fun h => by rw [good_iff.2 h.good] at hg; cases hg

set_option maxHeartbeats 800000 in
theorem saGood_any (ao : Option Addr) (n cap : Nat) (xs : List Int) (w : World) (h : IntsAt w ao n cap xs) :
    Calls Tryz.prog 21 #[.slice ao n cap] w fun e w' => e = .returned (.bool (sandB xs)) ∧ w = w' := by
  have hn := h.lenInt
  have hl := h.length
  by_cases h12 : n ≤ 12
  · cases hg : goodB xs
    · have hm := sandB_bad hg
      have Hg := Lib.hid hg; clear hg
      have Hm := Lib.hid hm; clear hm
      have Hl := Lib.hid hl; clear hl
      go_enter Tryz.func21, Tryz.ntmps21
      go_wp2_with fail
      with_reducible refine (piGood_no _ _ _ _ _ h Hg.out).mono ?_
      rintro e w' ⟨rfl, rfl⟩
      go_wp2
      go_ret
      exact ⟨by rw [Hm.out]; rfl, rfl⟩
    · have hG := good_iff.1 hg
      have hm := sandB_of hG (by omega)
      have hs := piSum_any ao n cap xs w h hG
      generalize xs.sum = S at *
      have Hg := Lib.hid hg; clear hg
      have Hm := Lib.hid hm; clear hm
      have HG := Lib.hid hG; clear hG
      have Hl := Lib.hid hl; clear hl
      have Hs := Lib.hid hs; clear hs
      go_enter Tryz.func21, Tryz.ntmps21
      go_wp2_with fail
      with_reducible refine (piGood_yes _ _ _ _ _ h HG.out).mono ?_
      rintro e w' ⟨rfl, rfl⟩
      go_wp2_with fail
      with_reducible refine (Hs.out).mono ?_
      rintro e w' ⟨rfl, rfl⟩
      go_wp2
      go_ret
      exact ⟨by rw [Hm.out]; rfl, rfl⟩
  · have hm := sandB_far (xs := xs) (by omega)
    have Hm := Lib.hid hm; clear hm
    have Hl := Lib.hid hl; clear hl
    go_enter Tryz.func21, Tryz.ntmps21
    go_wp2
    go_ret
    exact ⟨by rw [Hm.out]; rfl, rfl⟩
theorem saGood_yes (ao : Option Addr) (n cap : Nat) (xs : List Int) (w : World) (h : IntsAt w ao n cap xs) (hg : Sand xs) :
    Calls Tryz.prog 21 #[.slice ao n cap] w fun e w' => e = .returned (.bool true) ∧ w = w' := by
  have := saGood_any ao n cap xs w h; rw [sand_iff.2 hg] at this; exact this
theorem saGood_no (ao : Option Addr) (n cap : Nat) (xs : List Int) (w : World) (h : IntsAt w ao n cap xs) (hg : sandB xs = false) :
    Calls Tryz.prog 21 #[.slice ao n cap] w fun e w' => e = .returned (.bool false) ∧ w = w' := by
  have := saGood_any ao n cap xs w h; rw [hg] at this; exact this
theorem grains_at {xs : List Int} (h : Grains xs) (j : Nat) : 0 ≤ xs.getD j 0 ∧ xs.getD j 0 ≤ 24 := by
  refine ⟨good_ge0 h.good j, ?_⟩
  by_cases hj : j < xs.length
  · have := h.mem (x := xs.getD j 0) (by rw [List.getD_eq_getElem?_getD, List.getElem?_eq_getElem hj]; exact List.getElem_mem hj)
    exact this.2
  · rw [getD_past (by omega)]; omega

set_option maxHeartbeats 800000 in
theorem saSteep_any (ao : Option Addr) (n cap : Nat) (xs : List Int) (i : Nat) (w : World) (h : IntsAt w ao n cap xs) (hg : Grains xs) (hi : i < n) :
    Calls Tryz.prog 64 #[.slice ao n cap, .int .i64 i] w fun e w' => e = .returned (.bool (steepB xs i)) ∧ w = w' := by
  have hn := h.lenInt
  have hl := h.length
  have hlen := hg.len
  obtain ⟨b, o, rfl, hb, hc⟩ := h.cell i hi
  have hci := hc i hi
  have hx1 := grains_at hg i
  have hy1 := grains_at hg (i + 1)
  have hst : steepB xs i = decide (xs.getD (i + 1) 0 + 2 ≤ xs.getD i 0) := rfl
  by_cases hlt : i + 1 < n
  · have hc1 := hc (i + 1) hlt
    generalize xs.getD i 0 = x at *
    generalize xs.getD (i + 1) 0 = y at *
    clear h hc hg
    have Hst := Lib.hid hst; clear hst
    have Hl := Lib.hid hl; clear hl
    go_enter Tryz.func64, Tryz.ntmps64
    go_wp2
    go_ret
    exact ⟨by rw [Hst.out]; rfl, rfl⟩
  · have hy : xs.getD (i + 1) 0 = 0 := getD_past (by omega)
    rw [hy] at hst
    generalize xs.getD i 0 = x at *
    clear h hc hg hy1 hy
    have Hst := Lib.hid hst; clear hst
    have Hl := Lib.hid hl; clear hl
    go_enter Tryz.func64, Tryz.ntmps64
    go_wp2
    go_ret
    exact ⟨by rw [Hst.out]; simp, rfl⟩

set_option maxHeartbeats 1600000 in
theorem saFalls_any (ao : Option Addr) (n cap : Nat) (xs : List Int) (w : World) (h : IntsAt w ao n cap xs) (hg : Grains xs) :
    Calls Tryz.prog 41 #[.slice ao n cap] w fun e w' => ∃ ao' n' cap', e = .returned (.slice ao' n' cap') ∧ Own w.heap.size w'.heap.size w' ao' n' cap' (fallsL xs) ∧ Below w.heap.size w w' := by
  have hl := h.length
  have hlen := hg.len
  have hn : (n : Int) ≤ 24 := by omega
  have hf : fallsT xs n = fallsL xs := by unfold fallsL; rw [hl]
  have Hg := Lib.hid hg; clear hg
  have Hl := Lib.hid hl; clear hl
  have Hf := Lib.hid hf; clear hf
  go_enter Tryz.func41, Tryz.ntmps41
  go_wp2
  go_loopw [3, 7] (fun v i wr => ∃ (k : Nat) (a : Option Addr) (m c : Nat), k ≤ n ∧ i = .int .i64 k ∧ v = .slice a m c ∧ Own w.heap.size wr.heap.size wr a m c (fallsT xs k) ∧ Below w.heap.size w wr) (fun _ i _ => n - (intOf i).toNat)
  case atStart => exact ⟨0, none, 0, 0, Nat.zero_le _, rfl, rfl, Own.nil _ _ _, Below.refl _ _⟩
  case round =>
    obtain ⟨k, a, m, c, hk, rfl, rfl, hown, hb⟩ := hrel
    have hm := hown.length
    have hml := fallsT_length xs k
    rw [hm] at hml
    have Hm := Lib.hid hm; clear hm
    by_cases hlt : k < n
    · have hcon := saSteep_any ao n cap xs k wr (h.keep hb) Hg.out hlt
      cases hs : steepB xs k
      · rw [hs] at hcon
        have e := fallsT_no hs
        have Hcon := Lib.hid hcon; clear hcon
        have Hs := Lib.hid hs; clear hs
        have E := Lib.hid e; clear e
        go_wp2_with fail
        with_reducible refine (Hcon.out).mono ?_
        rintro e w' ⟨rfl, rfl⟩
        go_wp2
        go_roundw
        case rel => exact ⟨k + 1, a, m, c, by omega, by go_num, rfl, by rw [E.out]; exact hown, hb⟩
        case measure => simp [intOf]; omega
      · rw [hs] at hcon
        have e := fallsT_yes hs
        have Hcon := Lib.hid hcon; clear hcon
        have Hs := Lib.hid hs; clear hs
        have E := Lib.hid e; clear e
        go_wp2_with fail
        with_reducible refine (Hcon.out).mono ?_
        rintro e w' ⟨rfl, rfl⟩
        go_wp2_with (at_builtin; refine wpList_push wr rfl _ _ rfl w.heap.size wr.heap.size a m c _ rfl hown _ rfl (by omega) hb.size ?_)
        intro ao2 cap2 w2 ho2 hc2
        have hb2 := hown.chgBelow hc2 hb.size
        clear hown
        go_wp2
        go_roundw
        case rel => exact ⟨k + 1, ao2, _, cap2, by omega, by go_num, rfl, by rw [E.out]; exact ho2, hb.trans hb2⟩
        case measure => simp [intOf]; omega
    · obtain rfl : n = k := by omega
      rw [Hf.out] at hown
      go_wp2
      go_ret
      exact ⟨_, _, _, rfl, hown, hb⟩

set_option maxHeartbeats 1600000 in
theorem saFall_any (ao : Option Addr) (n cap : Nat) (xs : List Int) (i : Nat) (w : World) (h : IntsAt w ao n cap xs) (hg : Grains xs) (hi : i < n) :
    Calls Tryz.prog 42 #[.slice ao n cap, .int .i64 i] w fun e w' => ∃ ao' n' cap', e = .returned (.slice ao' n' cap') ∧ Own w.heap.size w'.heap.size w' ao' n' cap' (fallL xs i) ∧ Below w.heap.size w w' := by
  have hl := h.length
  have hlen := hg.len
  have hn : (n : Int) ≤ 24 := by omega
  have hcp := l1Own_any ao n cap xs w h (by omega)
  have hx1 := grains_at hg i
  have hy1 := grains_at hg (i + 1)
  have Hg := Lib.hid hg; clear hg
  have Hl := Lib.hid hl; clear hl
  have Hcp := Lib.hid hcp; clear hcp
  go_enter Tryz.func42, Tryz.ntmps42
  go_wp2_with fail
  with_reducible refine (Hcp.out).mono ?_
  rintro e w1 ⟨a1, c1, rfl, ho1, hb1⟩
  rcases ho1.cases with ⟨_, hz, _⟩ | ⟨g, rfl, hgB, hgE, hgs⟩
  · omega
  have hck := getD_cells ho1 i hi
  have hfz := ho1.frozenAt i
  have hset := ho1.set i (xs.getD i 0 - 1)
  have hb2 := hb1.setCell hgB (p := ⟨g, i, none⟩) (.int .i64 (xs.getD i 0 - 1))
  by_cases he : i + 1 = n
  · have hfl := fallL_end (xs := xs) (i := i) (by rw [Hl.out]; exact he)
    have hsz : (w1.setCell ⟨g, i, none⟩ (.int .i64 (xs.getD i 0 - 1))).heap.size = w1.heap.size := by simp
    have hd : ((i : Int) + 1 == (n : Int)) = true := by simp; omega
    have heI : (i : Int) + 1 = n := by omega
    have hs2 := hset.1.mono (Nat.le_refl _) (show w1.heap.size ≤ (w1.setCell ⟨g, i, none⟩ (.int .i64 (xs.getD i 0 - 1))).heap.size by simp)
    generalize xs.getD i 0 = x at *
    clear ho1 hset hb1
    have Hfl := Lib.hid hfl; clear hfl
    have Hs2 := Lib.hid hs2; clear hs2
    have Hb2 := Lib.hid hb2; clear hb2
    have Hsz := Lib.hid hsz; clear hsz
    go_wp2_with (at_builtin; refine wpList_push (w1.setCell ⟨g, i, none⟩ (.int .i64 (x - 1))) rfl _ _ rfl w.heap.size _ _ n _ _ rfl Hs2.out 1 (by rw [Hsz.out]; rfl) (by omega) Hb2.out.size ?_)
    intro a3 c3 w3 ho3 hc3
    have hb3 := Hb2.out.trans (Hs2.out.chgBelow hc3 Hb2.out.size)
    go_wp2
    go_ret
    exact ⟨_, _, _, rfl, by rw [Hfl.out]; exact ho3, hb3⟩
  · have hfl := fallL_in (xs := xs) (i := i) (by rw [Hl.out]; exact he)
    have hd : ((i : Int) + 1 == (n : Int)) = false := by simp; omega
    have hi1 : i + 1 < n := by omega
    have hck1 := getD_cells hset.1 (i + 1) hi1
    have hfz1 := hset.1.frozenAt (i + 1)
    rw [getD_set_neM _ _ _ _ _ (by omega)] at hck1
    have hset1 := hset.1.set (i + 1) (xs.getD (i + 1) 0 + 1)
    have hb3 := hb2.setCell hgB (p := ⟨g, i + 1, none⟩) (.int .i64 (xs.getD (i + 1) 0 + 1))
    rw [← hfl] at hset1
    have hs3 := hset1.1.mono (Nat.le_refl _) (show w1.heap.size ≤ ((w1.setCell ⟨g, i, none⟩ (.int .i64 (xs.getD i 0 - 1))).setCell ⟨g, i + 1, none⟩ (.int .i64 (xs.getD (i + 1) 0 + 1))).heap.size by simp)
    generalize xs.getD i 0 = x at *
    generalize xs.getD (i + 1) 0 = y at *
    clear ho1 hset hb1 hset1 hb2
    have Hfl := Lib.hid hfl; clear hfl
    have Hs3 := Lib.hid hs3; clear hs3
    have Hb3 := Lib.hid hb3; clear hb3
    go_wp2
    go_ret
    exact ⟨_, _, _, rfl, Hs3.out, Hb3.out⟩

end Go.Proofs.YtdfmljkjidepeaaGreatDoor
