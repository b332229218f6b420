/- Chapter 6 by the model: ReachSand, CountReach, CanReach, FallsBetween, FallVector, LowestOf. No condition. -/
import Derived.Test.YtbgnabbgepleaaaSaS
import Derived.Test.YtbgnabbgepleaaaSaX
import Derived.Test.YtbgnabbgepleaaaRowsC
namespace Go.Proofs.Ytbgnabbgepleaaa
open Go.RowKit
set_option linter.unusedVariables false
set_option linter.unusedSimpArgs false
set_option maxRecDepth 20000

theorem rchL_pos {xs : List Int} {n : Nat} (h : (rchL xs).length = n) : (n = 0 ↔ ¬ okR xs) := by
  rw [← rchL_nil, ← h]
  exact ⟨fun h => List.eq_nil_of_length_eq_zero h, fun h => by rw [h]; rfl⟩
theorem mReachSand_bound (xs : List Int) : (mReachSand xs).1.length ≤ 1048576 ∧ total (mReachSand xs).1 ≤ 1048576 := mReachSand_small2 xs
theorem spec_ReachSand (ao : Option Addr) (n cap : Nat) (xs : List Int) (w : World) (h : IntsAt w ao n cap xs) :
    Calls Try.prog 40 #[.slice ao n cap] w fun e w' => ∃ ao' n' cap', e = .returned (.tuple #[.slice ao' n' cap', .bool (mReachSand xs).2]) ∧ RowsR w.heap.size w'.heap.size w' ao' n' cap' (mReachSand xs).1 ∧ Below w.heap.size w w' := by
  cases hg : sandB xs
  · have hm := mReach_no1 hg
    have Hg := Lib.hid hg; clear hg
    have Hm := Lib.hid hm; clear hm
    go_enter Try.func40, Try.ntmps40
    go_wp2_with fail
    with_reducible refine (saGood_no _ _ _ _ _ h Hg.out).mono ?_
    rintro e w' ⟨rfl, rfl⟩
    go_wp2
    go_ret2
    rw [Hm.out]
    exact ⟨none, 0, 0, rfl, RowsR.nil _ _ _, Below.refl _ _⟩
  · have hS := sand_iff.1 hg
    have hcon := saReach_any ao n cap xs w h hS
    have Hg := Lib.hid hg; clear hg
    have HS := Lib.hid hS; clear hS
    have Hcon := Lib.hid hcon; clear hcon
    go_enter Try.func40, Try.ntmps40
    go_wp2_with fail
    with_reducible refine (saGood_yes _ _ _ _ _ h HS.out).mono ?_
    rintro e w' ⟨rfl, rfl⟩
    go_wp2_with fail
    with_reducible refine (Hcon.out).mono ?_
    rintro e w1 ⟨a1, n1, c1, vs1, rfl, hs1, hb1⟩
    have hn1 := rchL_pos hs1.length
    by_cases hok : okR xs
    · have hm := mReach_yes Hg.out hok
      have hnz : ((n1 : Int) == 0) = false := by
        have : n1 ≠ 0 := fun e => (hn1.1 e) hok
        simp; omega
      have hrr := hs1.toR (Nat.le_refl _) (Nat.le_refl _) (Nat.le_refl _) (Nat.le_refl _)
      clear hs1
      have Hn1 := Lib.hid hn1; clear hn1
      have Hok := Lib.hid hok; clear hok
      have Hm := Lib.hid hm; clear hm
      have Hrr := Lib.hid hrr; clear hrr
      go_wp2
      go_ret2
      rw [Hm.out]
      exact ⟨_, _, _, rfl, Hrr.out, hb1⟩
    · have hm := mReach_no2 hok
      have hz := hn1.2 hok
      subst hz
      clear hs1
      have Hn1 := Lib.hid hn1; clear hn1
      have Hok := Lib.hid hok; clear hok
      have Hm := Lib.hid hm; clear hm
      go_wp2
      go_ret2
      rw [Hm.out]
      exact ⟨none, 0, 0, rfl, RowsR.nil _ _ _, hb1⟩
theorem mCR_yes {xs : List Int} (h : sandB xs = true) (hok : okR xs) : mCountReach xs = (((rchL xs).length : Int), true) := by unfold mCountReach; rw [mReach_yes h hok]
theorem mCR_no1 {xs : List Int} (h : sandB xs = false) : mCountReach xs = (0, false) := by unfold mCountReach; rw [mReach_no1 h]; rfl
theorem mCR_no2 {xs : List Int} (h : ¬ okR xs) : mCountReach xs = (0, false) := by unfold mCountReach; rw [mReach_no2 h]; rfl
theorem spec_CountReach (ao : Option Addr) (n cap : Nat) (xs : List Int) (w : World) (h : IntsAt w ao n cap xs) :
    Calls Try.prog 45 #[.slice ao n cap] w fun e w' => e = .returned (.tuple #[.int .i64 (mCountReach xs).1, .bool (mCountReach xs).2]) ∧ Below w.heap.size w w' := by
  cases hg : sandB xs
  · have hm := mCR_no1 hg
    have Hg := Lib.hid hg; clear hg
    have Hm := Lib.hid hm; clear hm
    go_enter Try.func45, Try.ntmps45
    go_wp2_with fail
    with_reducible refine (saGood_no _ _ _ _ _ h Hg.out).mono ?_
    rintro e w' ⟨rfl, rfl⟩
    go_wp2
    go_ret2
    rw [Hm.out]
    exact ⟨rfl, Below.refl _ _⟩
  · have hS := sand_iff.1 hg
    have hcon := fun W hW => saReach_any ao n cap xs W hW hS
    have Hg := Lib.hid hg; clear hg
    have HS := Lib.hid hS; clear hS
    have Hcon := Lib.hid hcon; clear hcon
    go_enter Try.func45, Try.ntmps45
    go_wp2_with fail
    with_reducible refine (saGood_yes _ _ _ _ _ h HS.out).mono ?_
    rintro e w' ⟨rfl, rfl⟩
    go_wp2_with fail
    with_reducible refine (Hcon.out _ h).mono ?_
    rintro e w1 ⟨a1, n1, c1, vs1, rfl, hs1, hb1⟩
    have hl1 := hs1.length
    have hn1 := rchL_pos hl1
    by_cases hok : okR xs
    · have hm := mCR_yes Hg.out hok
      have hnz : ((n1 : Int) == 0) = false := by
        have : n1 ≠ 0 := fun e => (hn1.1 e) hok
        simp; omega
      clear hs1
      have Hn1 := Lib.hid hn1; clear hn1
      have Hok := Lib.hid hok; clear hok
      have Hm := Lib.hid hm; clear hm
      have Hl1 := Lib.hid hl1; clear hl1
      go_wp2_with fail
      with_reducible refine (Hcon.out _ (h.keep hb1)).mono ?_
      rintro e w2 ⟨a2, n2, c2, vs2, rfl, hs2, hb2⟩
      have hl2 := hs2.length
      clear hs2
      have hbf := belowTrans hb1 hb2 (Nat.le_refl _)
      have Hl2 := Lib.hid hl2; clear hl2
      go_wp2
      go_ret2
      rw [Hm.out, Hl2.out]
      exact ⟨rfl, hbf⟩
    · have hm := mCR_no2 hok
      have hz := hn1.2 hok
      subst hz
      clear hs1
      have Hn1 := Lib.hid hn1; clear hn1
      have Hok := Lib.hid hok; clear hok
      have Hm := Lib.hid hm; clear hm
      have Hl1 := Lib.hid hl1; clear hl1
      go_wp2
      go_ret2
      rw [Hm.out]
      exact ⟨rfl, hb1⟩

theorem saCan_any (ao : Option Addr) (n cap : Nat) (xs : List Int) (bo : Option Addr) (m cap' : Nat) (ys : List Int) (w : World) (h : IntsAt w ao n cap xs) (h' : IntsAt w bo m cap' ys) (hg : Sand xs) :
    Calls Try.prog 83 #[.slice ao n cap, .slice bo m cap'] w fun e w' => e = .returned (.tuple #[.bool (canB xs ys), .bool (decide (okR xs))]) ∧ Below w.heap.size w w' := by
  have hcon := saReach_any ao n cap xs w h hg
  have Hg := Lib.hid hg; clear hg
  have Hcon := Lib.hid hcon; clear hcon
  go_enter Try.func83, Try.ntmps83
  go_wp2_with fail
  with_reducible refine (Hcon.out).mono ?_
  rintro e w1 ⟨a1, n1, c1, vs1, rfl, hs1, hb1⟩
  have hl1 := hs1.length
  have hn1 := rchL_pos hl1
  have hpc := orPlace_any a1 bo n1 m c1 cap' (rchL xs) ys w1 hs1.at (h'.keep hb1)
  have hcb : canB xs ys = decide (ys ∈ rchL xs) := rfl
  have hokd : decide (okR xs) = decide ((0 : Int) < n1) := by
    rw [decide_eq_decide]
    constructor
    · intro hok
      have : n1 ≠ 0 := fun e => (hn1.1 e) hok
      omega
    · intro h0
      apply Classical.byContradiction
      intro hno
      have := hn1.2 hno
      omega
  clear hs1
  have Hl1 := Lib.hid hl1; clear hl1
  have Hn1 := Lib.hid hn1; clear hn1
  have Hpc := Lib.hid hpc; clear hpc
  have Hcb := Lib.hid hcb; clear hcb
  have Hokd := Lib.hid hokd; clear hokd
  go_wp2_with fail
  with_reducible refine (Hpc.out).mono ?_
  rintro e w2 ⟨r, rfl, hpi, hb2⟩
  have hbf := belowTrans hb1 hb2 (Nat.le_refl _)
  rcases place_iff hpi with ⟨rfl, hnm⟩ | ⟨hr0, hm⟩
  · have hc2 : canB xs ys = false := by rw [Hcb.out]; exact decide_eq_false hnm
    have Hnm := Lib.hid hnm; clear hnm
    have Hpi := Lib.hid hpi; clear hpi
    have Hc2 := Lib.hid hc2; clear hc2
    go_wp2
    go_ret2
    exact ⟨by rw [Hc2.out, Hokd.out]; simp, hbf⟩
  · have hc2 : canB xs ys = true := by rw [Hcb.out]; exact decide_eq_true hm
    have Hm := Lib.hid hm; clear hm
    have Hpi := Lib.hid hpi; clear hpi
    have Hc2 := Lib.hid hc2; clear hc2
    go_wp2
    go_ret2
    exact ⟨by rw [Hc2.out, Hokd.out]; simp [hr0], hbf⟩
theorem mCan_yes {xs ys : List Int} (h : sandB xs = true) (h' : sandB ys = true) : mCanReach xs ys = (canB xs ys, decide (okR xs)) := by unfold mCanReach; rw [if_pos ⟨h, h'⟩]
theorem mCan_no1 {xs ys : List Int} (h : sandB xs = false) : mCanReach xs ys = (false, false) := by unfold mCanReach; rw [if_neg (by rw [h]; simp)]
theorem mCan_no2 {xs ys : List Int} (h : sandB ys = false) : mCanReach xs ys = (false, false) := by unfold mCanReach; rw [if_neg (by rw [h]; simp)]
theorem reaB_no1 {xs ys : List Int} (h : sandB xs = false) : reaB xs ys = false := by unfold reaB; rw [h]; rfl
theorem reaB_no2 {xs ys : List Int} (h : sandB ys = false) : reaB xs ys = false := by unfold reaB; rw [h]; simp
theorem reaB_yes {xs ys : List Int} (h : sandB xs = true) (h' : sandB ys = true) : reaB xs ys = canB xs ys := by unfold reaB; rw [h, h']; rfl
theorem spec_CanReach (ao : Option Addr) (n cap : Nat) (xs : List Int) (bo : Option Addr) (m cap' : Nat) (ys : List Int) (w : World) (h : IntsAt w ao n cap xs) (h' : IntsAt w bo m cap' ys) :
    Calls Try.prog 47 #[.slice ao n cap, .slice bo m cap'] w fun e w' => e = .returned (.tuple #[.bool (mCanReach xs ys).1, .bool (mCanReach xs ys).2]) ∧ Below w.heap.size w w' := by
  cases hg : sandB xs
  · have hm := mCan_no1 (ys := ys) hg
    have Hg := Lib.hid hg; clear hg
    have Hm := Lib.hid hm; clear hm
    go_enter Try.func47, Try.ntmps47
    go_wp2_with fail
    with_reducible refine (saGood_no _ _ _ _ _ h Hg.out).mono ?_
    rintro e w' ⟨rfl, rfl⟩
    go_wp2
    go_ret2
    rw [Hm.out]
    exact ⟨rfl, Below.refl _ _⟩
  cases hg2 : sandB ys
  · have hm := mCan_no2 (xs := xs) hg2
    have Hg := Lib.hid hg; clear hg
    have Hm := Lib.hid hm; clear hm
    have Hg2 := Lib.hid hg2; clear hg2
    go_enter Try.func47, Try.ntmps47
    go_wp2_with fail
    with_reducible refine (saGood_yes _ _ _ _ _ h (sand_iff.1 Hg.out)).mono ?_
    rintro e w' ⟨rfl, rfl⟩
    go_wp2_with fail
    with_reducible refine (saGood_no _ _ _ _ _ h' Hg2.out).mono ?_
    rintro e w' ⟨rfl, rfl⟩
    go_wp2
    go_ret2
    rw [Hm.out]
    exact ⟨rfl, Below.refl _ _⟩
  have hm := mCan_yes hg hg2
  have hcon := saCan_any ao n cap xs bo m cap' ys w h h' (sand_iff.1 hg)
  generalize canB xs ys = cb at *
  generalize decide (okR xs) = ob at *
  have Hg := Lib.hid hg; clear hg
  have Hm := Lib.hid hm; clear hm
  have Hg2 := Lib.hid hg2; clear hg2
  have Hcon := Lib.hid hcon; clear hcon
  go_enter Try.func47, Try.ntmps47
  go_wp2_with fail
  with_reducible refine (saGood_yes _ _ _ _ _ h (sand_iff.1 Hg.out)).mono ?_
  rintro e w' ⟨rfl, rfl⟩
  go_wp2_with fail
  with_reducible refine (saGood_yes _ _ _ _ _ h' (sand_iff.1 Hg2.out)).mono ?_
  rintro e w' ⟨rfl, rfl⟩
  go_wp2_with fail
  with_reducible refine (Hcon.out).mono ?_
  rintro e w1 ⟨rfl, hb1⟩
  go_wp2
  go_ret2
  rw [Hm.out]
  exact ⟨rfl, hb1⟩
set_option maxHeartbeats 800000 in
theorem spec_FallsBetween (ao : Option Addr) (n cap : Nat) (xs : List Int) (bo : Option Addr) (m cap' : Nat) (ys : List Int) (w : World) (h : IntsAt w ao n cap xs) (h' : IntsAt w bo m cap' ys) :
    Calls Try.prog 49 #[.slice ao n cap, .slice bo m cap'] w fun e w' => e = .returned (.tuple #[.int .i64 (mFallsBetween xs ys).1, .bool (mFallsBetween xs ys).2]) ∧ Below w.heap.size w w' := by
  cases hg : sandB xs
  · have hm := mFB_no (reaB_no1 (ys := ys) hg)
    have Hg := Lib.hid hg; clear hg
    have Hm := Lib.hid hm; clear hm
    go_enter Try.func49, Try.ntmps49
    go_wp2_with fail
    with_reducible refine (saGood_no _ _ _ _ _ h Hg.out).mono ?_
    rintro e w' ⟨rfl, rfl⟩
    go_wp2
    go_ret2
    rw [Hm.out]
    exact ⟨rfl, Below.refl _ _⟩
  cases hg2 : sandB ys
  · have hm := mFB_no (reaB_no2 (xs := xs) hg2)
    have Hg := Lib.hid hg; clear hg
    have Hm := Lib.hid hm; clear hm
    have Hg2 := Lib.hid hg2; clear hg2
    go_enter Try.func49, Try.ntmps49
    go_wp2_with fail
    with_reducible refine (saGood_yes _ _ _ _ _ h (sand_iff.1 Hg.out)).mono ?_
    rintro e w' ⟨rfl, rfl⟩
    go_wp2_with fail
    with_reducible refine (saGood_no _ _ _ _ _ h' Hg2.out).mono ?_
    rintro e w' ⟨rfl, rfl⟩
    go_wp2
    go_ret2
    rw [Hm.out]
    exact ⟨rfl, Below.refl _ _⟩
  have hr := reaB_yes hg hg2
  have hcon := saCan_any ao n cap xs bo m cap' ys w h h' (sand_iff.1 hg)
  have hS := sand_iff.1 hg
  have hS2 := sand_iff.1 hg2
  have hw1 := hS.grains.wt
  have hw2 := hS2.grains.wt
  have hwa := fun W hh => saWeight_any ao n cap xs W hh hS.grains
  have hwb := fun W hh => saWeight_any bo m cap' ys W hh hS2.grains
  generalize decide (okR xs) = ob at *
  cases hc : canB xs ys
  · rw [hc] at hcon
    have hm := mFB_no (by rw [hr, hc])
    have Hg := Lib.hid hg; clear hg
    have Hm := Lib.hid hm; clear hm
    have Hg2 := Lib.hid hg2; clear hg2
    have Hcon := Lib.hid hcon; clear hcon
    have Hr := Lib.hid hr; clear hr
    have Hc := Lib.hid hc; clear hc
    have HS := Lib.hid hS; clear hS
    have HS2 := Lib.hid hS2; clear hS2
    have Hwa := Lib.hid hwa; clear hwa
    have Hwb := Lib.hid hwb; clear hwb
    go_enter Try.func49, Try.ntmps49
    go_wp2_with fail
    with_reducible refine (saGood_yes _ _ _ _ _ h HS.out).mono ?_
    rintro e w' ⟨rfl, rfl⟩
    go_wp2_with fail
    with_reducible refine (saGood_yes _ _ _ _ _ h' HS2.out).mono ?_
    rintro e w' ⟨rfl, rfl⟩
    go_wp2_with fail
    with_reducible refine (Hcon.out).mono ?_
    rintro e w1 ⟨rfl, hb1⟩
    go_wp2
    go_ret2
    rw [Hm.out]
    exact ⟨rfl, hb1⟩
  · rw [hc] at hcon
    have hm := mFB_yes (by rw [hr, hc])
    generalize wt 0 xs = p at *
    generalize wt 0 ys = q at *
    have Hg := Lib.hid hg; clear hg
    have Hm := Lib.hid hm; clear hm
    have Hg2 := Lib.hid hg2; clear hg2
    have Hcon := Lib.hid hcon; clear hcon
    have Hr := Lib.hid hr; clear hr
    have Hc := Lib.hid hc; clear hc
    have HS := Lib.hid hS; clear hS
    have HS2 := Lib.hid hS2; clear hS2
    have Hwa := Lib.hid hwa; clear hwa
    have Hwb := Lib.hid hwb; clear hwb
    go_enter Try.func49, Try.ntmps49
    go_wp2_with fail
    with_reducible refine (saGood_yes _ _ _ _ _ h HS.out).mono ?_
    rintro e w' ⟨rfl, rfl⟩
    go_wp2_with fail
    with_reducible refine (saGood_yes _ _ _ _ _ h' HS2.out).mono ?_
    rintro e w' ⟨rfl, rfl⟩
    go_wp2_with fail
    with_reducible refine (Hcon.out).mono ?_
    rintro e w1 ⟨rfl, hb1⟩
    go_wp2_with fail
    with_reducible refine (Hwb.out _ (h'.keep hb1)).mono ?_
    rintro e w2 ⟨rfl, rfl⟩
    go_wp2_with fail
    with_reducible refine (Hwa.out _ (h.keep hb1)).mono ?_
    rintro e w2 ⟨rfl, rfl⟩
    go_wp2
    go_ret2
    rw [Hm.out]
    exact ⟨rfl, hb1⟩

theorem slUptoOwn {B E w ao n cap xs} (h : Own B E w ao n cap xs) (hi : Nat) (hhi : hi ≤ n) (k : IntKind) : (∀ W : World, (Instr.sliceAt 22 (.slice ao n cap) none (some (.int k (hi : Int))) none).run Try.prog W = .ok (.slice ao hi cap) W) ∧ Own B E w ao hi cap (xs.take hi) := by
  rcases h.cases with ⟨rfl, rfl, rfl, rfl⟩ | ⟨g, rfl, _, _, _⟩
  · obtain rfl : hi = 0 := by omega
    obtain ⟨a2, h1, h2⟩ := slUpto w [] h.at 0 (Nat.le_refl _) k
    refine ⟨fun W => ?_, Own.nil _ _ _⟩
    have hrun := run_slice_h (P := Try.prog) (w := W) 22 none 0 0 Try.underlying22 k ((0 : Nat) : Int) (by omega) (by omega)
    rw [sizeInt] at hrun
    rw [run_sliceAt_slice _ _ _ _ _ _ Try.underlying22, hrun]
    simp [Result.andThen, sliced]
  · refine ⟨fun W => ?_, ?_⟩
    · have hrun := run_slice_h (P := Try.prog) (w := W) 22 (some ⟨g, 0, none⟩) n cap Try.underlying22 k (hi : Int) (by omega) (by have := h.at.le; omega)
      rw [sizeInt] at hrun
      rw [run_sliceAt_slice _ _ _ _ _ _ Try.underlying22, hrun]
      simp [Result.andThen, sliced, Addr.add_lit]
    · have := OwnRow.cut h hhi
      unfold Own
      rw [List.map_take]; exact this

set_option maxHeartbeats 3200000 in
theorem spec_FallVector (ao : Option Addr) (n cap : Nat) (xs : List Int) (bo : Option Addr) (m cap' : Nat) (ys : List Int) (w : World) (h : IntsAt w ao n cap xs) (h' : IntsAt w bo m cap' ys) :
    Calls Try.prog 51 #[.slice ao n cap, .slice bo m cap'] w fun e w' => ∃ ao' n' cap', e = .returned (.tuple #[.slice ao' n' cap', .bool (mFallVector xs ys).2]) ∧ Own w.heap.size w'.heap.size w' ao' n' cap' (mFallVector xs ys).1 ∧ Below w.heap.size w w' := by
  cases hg : sandB xs
  · have hm := mFV_no (reaB_no1 (ys := ys) hg)
    have Hg := Lib.hid hg; clear hg
    have Hm := Lib.hid hm; clear hm
    go_enter Try.func51, Try.ntmps51
    go_wp2_with fail
    with_reducible refine (saGood_no _ _ _ _ _ h Hg.out).mono ?_
    rintro e w' ⟨rfl, rfl⟩
    go_wp2
    go_ret2
    rw [Hm.out]
    exact ⟨none, 0, 0, rfl, Own.nil _ _ _, Below.refl _ _⟩
  cases hg2 : sandB ys
  · have hm := mFV_no (reaB_no2 (xs := xs) hg2)
    have Hg := Lib.hid hg; clear hg
    have Hm := Lib.hid hm; clear hm
    have Hg2 := Lib.hid hg2; clear hg2
    go_enter Try.func51, Try.ntmps51
    go_wp2_with fail
    with_reducible refine (saGood_yes _ _ _ _ _ h (sand_iff.1 Hg.out)).mono ?_
    rintro e w' ⟨rfl, rfl⟩
    go_wp2_with fail
    with_reducible refine (saGood_no _ _ _ _ _ h' Hg2.out).mono ?_
    rintro e w' ⟨rfl, rfl⟩
    go_wp2
    go_ret2
    rw [Hm.out]
    exact ⟨none, 0, 0, rfl, Own.nil _ _ _, Below.refl _ _⟩
  have hr := reaB_yes hg hg2
  have hcon := saCan_any ao n cap xs bo m cap' ys w h h' (sand_iff.1 hg)
  have hS := sand_iff.1 hg
  have hS2 := sand_iff.1 hg2
  generalize decide (okR xs) = ob at *
  cases hc : canB xs ys
  · rw [hc] at hcon
    have hm := mFV_no (by rw [hr, hc])
    have Hg := Lib.hid hg; clear hg
    have Hm := Lib.hid hm; clear hm
    have Hg2 := Lib.hid hg2; clear hg2
    have Hcon := Lib.hid hcon; clear hcon
    have Hr := Lib.hid hr; clear hr
    have Hc := Lib.hid hc; clear hc
    have HS := Lib.hid hS; clear hS
    have HS2 := Lib.hid hS2; clear hS2
    go_enter Try.func51, Try.ntmps51
    go_wp2_with fail
    with_reducible refine (saGood_yes _ _ _ _ _ h HS.out).mono ?_
    rintro e w' ⟨rfl, rfl⟩
    go_wp2_with fail
    with_reducible refine (saGood_yes _ _ _ _ _ h' HS2.out).mono ?_
    rintro e w' ⟨rfl, rfl⟩
    go_wp2_with fail
    with_reducible refine (Hcon.out).mono ?_
    rintro e w1 ⟨rfl, hb1⟩
    go_wp2
    go_ret2
    rw [Hm.out]
    exact ⟨none, 0, 0, rfl, Own.nil _ _ _, hb1⟩
  · rw [hc] at hcon
    have hm := mFV_yes (by rw [hr, hc])
    have hnn := vec_nonneg hS.grains (canB_iff.1 hc).2
    have hlx := h.length
    have hly := h'.length
    have hnI := h.lenInt
    have hm12 : m ≤ 12 := by rw [← hly]; exact hS2.1
    have hn12 : n ≤ 12 := by rw [← hlx]; exact hS.1
    rw [hly] at hnn
    have hlt := last_trim hnn m
    have hvl : vecL xs ys = (vecT xs ys m).take (trimN (vecT xs ys m) m) := by unfold vecL; rw [hly]
    have htl := trimN_le (vecT xs ys m) m
    have hlast : ∀ k, k < m → lastN (vecT xs ys m) (k + 1) = if 0 < diffI xs ys (k + 1) then k + 1 else lastN (vecT xs ys m) k := fun k hk => by
      show (if 0 < (vecT xs ys m).getD k 0 then k + 1 else lastN (vecT xs ys m) k) = _
      rw [vecT_getD _ _ hk]
    have hdb := diff_bound hS.grains hS2.grains
    have hds := diffI_succ xs ys
    have hgx := grains_at hS.grains
    have hgy := grains_at hS2.grains
    have hpx : ∀ i, n ≤ i → xs.getD i 0 = 0 := fun i hi => getD_past (by omega)
    have Hg := Lib.hid hg; clear hg
    have Hm := Lib.hid hm; clear hm
    have Hg2 := Lib.hid hg2; clear hg2
    have Hcon := Lib.hid hcon; clear hcon
    have Hr := Lib.hid hr; clear hr
    have Hc := Lib.hid hc; clear hc
    have HS := Lib.hid hS; clear hS
    have HS2 := Lib.hid hS2; clear hS2
    have Hnn := Lib.hid hnn; clear hnn
    have Hlx := Lib.hid hlx; clear hlx
    have Hly := Lib.hid hly; clear hly
    have Hlt := Lib.hid hlt; clear hlt
    have Hvl := Lib.hid hvl; clear hvl
    have Htl := Lib.hid htl; clear htl
    have Hlast := Lib.hid hlast; clear hlast
    have Hdb := Lib.hid hdb; clear hdb
    have Hds := Lib.hid hds; clear hds
    have Hgx := Lib.hid hgx; clear hgx
    have Hgy := Lib.hid hgy; clear hgy
    have Hpx := Lib.hid hpx; clear hpx
    go_enter Try.func51, Try.ntmps51
    go_wp2_with fail
    with_reducible refine (saGood_yes _ _ _ _ _ h HS.out).mono ?_
    rintro e w' ⟨rfl, rfl⟩
    go_wp2_with fail
    with_reducible refine (saGood_yes _ _ _ _ _ h' HS2.out).mono ?_
    rintro e w' ⟨rfl, rfl⟩
    go_wp2_with fail
    with_reducible refine (Hcon.out).mono ?_
    rintro e w1 ⟨rfl, hb1⟩
    have h1 := h.keep hb1
    have h1' := h'.keep hb1
    go_wp2_with fail
    go_loopw [8, 9, 10, 31] (fun v s l i wr => ∃ (k : Nat) (a : Option Addr) (c : Nat) (d : Int) (q : Nat), k ≤ m ∧ i = .int .i64 k ∧ v = .slice a k c ∧ s = .int .i64 d ∧ l = .int .i64 q ∧ Hid (diffI xs ys k = d) ∧ Hid (lastN (vecT xs ys m) k = q) ∧ q ≤ k ∧ Own w.heap.size wr.heap.size wr a k c (vecT xs ys k) ∧ Below w.heap.size w wr) (fun _ _ _ i _ => m - (intOf i).toNat)
    case atStart => exact ⟨0, none, 0, 0, 0, Nat.zero_le _, rfl, rfl, rfl, rfl, Lib.hid (by simp [diffI]), Lib.hid rfl, Nat.le_refl _, Own.nil _ _ _, hb1⟩
    case round =>
      obtain ⟨k, a, c, d, q, hk, rfl, rfl, rfl, rfl, Hd, Hq, hqk, hown, hb⟩ := hrel
      clear hb1 h1 h1'
      have hd := Hdb.out k
      rw [Hd.out] at hd
      by_cases hlt : k < m
      · have h2 := h.keep hb
        have h2' := h'.keep hb
        obtain ⟨b1, o1, rfl, hb1, hc1⟩ := h2'.cell k hlt
        have hck1 := hc1 k hlt
        clear hc1
        generalize hx1 : ys.getD k 0 = y at hck1
        have Hx1 := Lib.hid hx1; clear hx1
        have hyy := Hgy.out k
        rw [Hx1.out] at hyy
        have hd2 := Hdb.out (k + 1)
        have hsc := Hds.out k
        rw [Hd.out, Hx1.out] at hsc
        have hvs := vecT_succ xs ys k
        have hla := Hlast.out k hlt
        by_cases hkn : k < n
        · obtain ⟨b2, o2, rfl, hbl2, hc2⟩ := h2.cell k hkn
          have hckx := hc2 k hkn
          clear hc2
          have hxx := Hgx.out k
          generalize xs.getD k 0 = x at *
          have hkI : (k : Int) < n := by omega
          generalize hDD : diffI xs ys (k + 1) = D at *
          have hDe : D = d - y + x := hsc
          by_cases hD : 0 < D
          · rw [if_pos hD] at hla
            have hDs : (0 : Int) < d - y + x := by omega
            have Hvs := Lib.hid hvs; clear hvs
            have Hla := Lib.hid hla; clear hla
            have Hsc := Lib.hid hsc; clear hsc
            have HDD := Lib.hid hDD; clear hDD
            have HDe := Lib.hid hDe; clear hDe
            go_wp2_with (at_builtin; refine wpList_push wr rfl _ _ rfl w.heap.size wr.heap.size a k c _ rfl hown _ rfl (by omega) hb.size ?_)
            intro a3 c3 w3 ho3 hc3
            have hb3 := hb.trans (hown.chgBelow hc3 hb.size)
            clear hown hc3 h2 h2' hb
            go_wp2
            go_roundw
            case rel => exact ⟨k + 1, a3, c3, d - y + x, k + 1, by omega, by go_num, rfl, rfl, by go_num, Lib.hid (by rw [HDD.out]; exact HDe.out), Lib.hid Hla.out, Nat.le_refl _, by rw [Hvs.out, HDe.out]; exact ho3, hb3⟩
            case measure => simp [intOf]; omega
          · rw [if_neg hD] at hla
            have hDs : ¬ ((0 : Int) < d - y + x) := by omega
            have Hvs := Lib.hid hvs; clear hvs
            have Hla := Lib.hid hla; clear hla
            have Hsc := Lib.hid hsc; clear hsc
            have HDD := Lib.hid hDD; clear hDD
            have HDe := Lib.hid hDe; clear hDe
            go_wp2_with (at_builtin; refine wpList_push wr rfl _ _ rfl w.heap.size wr.heap.size a k c _ rfl hown _ rfl (by omega) hb.size ?_)
            intro a3 c3 w3 ho3 hc3
            have hb3 := hb.trans (hown.chgBelow hc3 hb.size)
            clear hown hc3 h2 h2' hb
            go_wp2
            go_roundw
            case rel => exact ⟨k + 1, a3, c3, d - y + x, q, by omega, by go_num, rfl, rfl, rfl, Lib.hid (by rw [HDD.out]; exact HDe.out), Lib.hid (by rw [Hla.out]; exact Hq.out), by omega, by rw [Hvs.out, HDe.out]; exact ho3, hb3⟩
            case measure => simp [intOf]; omega
        · rw [Hpx.out k (by omega), Int.add_zero] at hsc
          have hkI : ¬ ((k : Int) < n) := by omega
          generalize hDD : diffI xs ys (k + 1) = D at *
          have hDe : D = d - y := hsc
          by_cases hD : 0 < D
          · rw [if_pos hD] at hla
            have hDs : (0 : Int) < d - y := by omega
            have Hvs := Lib.hid hvs; clear hvs
            have Hla := Lib.hid hla; clear hla
            have Hsc := Lib.hid hsc; clear hsc
            have HDD := Lib.hid hDD; clear hDD
            have HDe := Lib.hid hDe; clear hDe
            go_wp2_with (at_builtin; refine wpList_push wr rfl _ _ rfl w.heap.size wr.heap.size a k c _ rfl hown _ rfl (by omega) hb.size ?_)
            intro a3 c3 w3 ho3 hc3
            have hb3 := hb.trans (hown.chgBelow hc3 hb.size)
            clear hown hc3 h2 h2' hb
            go_wp2
            go_roundw
            case rel => exact ⟨k + 1, a3, c3, d - y, k + 1, by omega, by go_num, rfl, rfl, by go_num, Lib.hid (by rw [HDD.out]; exact HDe.out), Lib.hid Hla.out, Nat.le_refl _, by rw [Hvs.out, HDe.out]; exact ho3, hb3⟩
            case measure => simp [intOf]; omega
          · rw [if_neg hD] at hla
            have hDs : ¬ ((0 : Int) < d - y) := by omega
            have Hvs := Lib.hid hvs; clear hvs
            have Hla := Lib.hid hla; clear hla
            have Hsc := Lib.hid hsc; clear hsc
            have HDD := Lib.hid hDD; clear hDD
            have HDe := Lib.hid hDe; clear hDe
            go_wp2_with (at_builtin; refine wpList_push wr rfl _ _ rfl w.heap.size wr.heap.size a k c _ rfl hown _ rfl (by omega) hb.size ?_)
            intro a3 c3 w3 ho3 hc3
            have hb3 := hb.trans (hown.chgBelow hc3 hb.size)
            clear hown hc3 h2 h2' hb
            go_wp2
            go_roundw
            case rel => exact ⟨k + 1, a3, c3, d - y, q, by omega, by go_num, rfl, rfl, rfl, Lib.hid (by rw [HDD.out]; exact HDe.out), Lib.hid (by rw [Hla.out]; exact Hq.out), by omega, by rw [Hvs.out, HDe.out]; exact ho3, hb3⟩
            case measure => simp [intOf]; omega
      · obtain rfl : m = k := by omega
        have hqe : trimN (vecT xs ys m) m = q := by rw [← Hlt.out]; exact Hq.out
        have hve := Hvl.out
        rw [hqe] at hve
        obtain ⟨hsl, hi2⟩ := slUptoOwn hown q hqk .i64
        rw [← hve] at hi2
        clear hown
        have Hqe := Lib.hid hqe; clear hqe
        have Hve := Lib.hid hve; clear hve
        go_wp2
        go_ret2
        rw [Hm.out]
        exact ⟨_, _, _, rfl, hi2, hb⟩
end Go.Proofs.Ytbgnabbgepleaaa
