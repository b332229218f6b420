/- Chapter 6 by the model: ReachSand, CountReach, CanReach, FallsBetween, FallVector, LowestOf. No condition. -/
import Derived.Test.YthhhgmkjjagmaaaSaS
import Derived.Test.YthhhgmkjjagmaaaGf
import Derived.Test.YthhhgmkjjagmaaaGy
namespace Go.Proofs.Ythhhgmkjjagmaaa
open Go.RowKit
set_option linter.unusedVariables false
set_option linter.unusedSimpArgs false
set_option maxRecDepth 20000

theorem rchL_pos {xs : List Int} {n : Nat} (h : (rchL xs).length = n) : (n = 0 ↔ ¬ okR xs) := by
  rw [← rchL_nil, ← h]
  exact ⟨fun h => List.eq_nil_of_length_eq_zero h, fun h => by rw [h]; rfl⟩
theorem mReachSand_bound (xs : List Int) : (mReachSand xs).1.length ≤ 1048576 ∧ total (mReachSand xs).1 ≤ 1048576 := mReachSand_small2 xs
theorem spec_ReachSand (ao : Option Addr) (n cap : Nat) (xs : List Int) (w : World) (h : IntsAt w ao n cap xs) :
    Calls Try.prog 32 #[.slice ao n cap] w fun e w' => ∃ ao' n' cap', e = .returned (.tuple #[.slice ao' n' cap', .bool (mReachSand xs).2]) ∧ RowsR w.heap.size w'.heap.size w' ao' n' cap' (mReachSand xs).1 ∧ Below w.heap.size w w' := by
  cases hg : sandB xs
  · have hm := mReach_no1 hg
    have Hg := Lib.hid hg; clear hg
    have Hm := Lib.hid hm; clear hm
    go_enter Try.func32, Try.ntmps32
    go_wp2_with fail
    with_reducible refine (saGood_no _ _ _ _ _ h Hg.out).mono ?_
    rintro e w' ⟨rfl, rfl⟩
    go_wp2
    go_ret2
    rw [Hm.out]
    exact ⟨none, 0, 0, rfl, RowsR.nil _ _ _, Below.refl _ _⟩
  · have hS := sand_iff.1 hg
    have hcon := saReach_any ao n cap xs w h hS
    have Hg := Lib.hid hg; clear hg
    have HS := Lib.hid hS; clear hS
    have Hcon := Lib.hid hcon; clear hcon
    go_enter Try.func32, Try.ntmps32
    go_wp2_with fail
    with_reducible refine (saGood_yes _ _ _ _ _ h HS.out).mono ?_
    rintro e w' ⟨rfl, rfl⟩
    go_wp2_with fail
    with_reducible refine (Hcon.out).mono ?_
    rintro e w1 ⟨a1, n1, c1, vs1, rfl, hs1, hb1⟩
    have hn1 := rchL_pos hs1.length
    by_cases hok : okR xs
    · have hm := mReach_yes Hg.out hok
      have hnz : ((n1 : Int) == 0) = false := by
        have : n1 ≠ 0 := fun e => (hn1.1 e) hok
        simp; omega
      have hrr := hs1.toR (Nat.le_refl _) (Nat.le_refl _) (Nat.le_refl _) (Nat.le_refl _)
      clear hs1
      have Hn1 := Lib.hid hn1; clear hn1
      have Hok := Lib.hid hok; clear hok
      have Hm := Lib.hid hm; clear hm
      have Hrr := Lib.hid hrr; clear hrr
      go_wp2
      go_ret2
      rw [Hm.out]
      exact ⟨_, _, _, rfl, Hrr.out, hb1⟩
    · have hm := mReach_no2 hok
      have hz := hn1.2 hok
      subst hz
      clear hs1
      have Hn1 := Lib.hid hn1; clear hn1
      have Hok := Lib.hid hok; clear hok
      have Hm := Lib.hid hm; clear hm
      go_wp2
      go_ret2
      rw [Hm.out]
      exact ⟨none, 0, 0, rfl, RowsR.nil _ _ _, hb1⟩
theorem mCtR_yes {xs : List Int} (h : sandB xs = true) (hok : okR xs) : mCountReach xs = (((rchL xs).length : Int), true) := by unfold mCountReach; rw [mReach_yes h hok]
theorem mCtR_no1 {xs : List Int} (h : sandB xs = false) : mCountReach xs = (0, false) := by unfold mCountReach; rw [mReach_no1 h]; rfl
theorem mCtR_no2 {xs : List Int} (h : ¬ okR xs) : mCountReach xs = (0, false) := by unfold mCountReach; rw [mReach_no2 h]; rfl
theorem spec_CountReach (ao : Option Addr) (n cap : Nat) (xs : List Int) (w : World) (h : IntsAt w ao n cap xs) :
    Calls Try.prog 34 #[.slice ao n cap] w fun e w' => e = .returned (.tuple #[.int .i64 (mCountReach xs).1, .bool (mCountReach xs).2]) ∧ Below w.heap.size w w' := by
  cases hg : sandB xs
  · have hm := mCtR_no1 hg
    have Hg := Lib.hid hg; clear hg
    have Hm := Lib.hid hm; clear hm
    go_enter Try.func34, Try.ntmps34
    go_wp2_with fail
    with_reducible refine (saGood_no _ _ _ _ _ h Hg.out).mono ?_
    rintro e w' ⟨rfl, rfl⟩
    go_wp2
    go_ret2
    rw [Hm.out]
    exact ⟨rfl, Below.refl _ _⟩
  · have hS := sand_iff.1 hg
    have hcon := fun W hW => saReach_any ao n cap xs W hW hS
    have Hg := Lib.hid hg; clear hg
    have HS := Lib.hid hS; clear hS
    have Hcon := Lib.hid hcon; clear hcon
    go_enter Try.func34, Try.ntmps34
    go_wp2_with fail
    with_reducible refine (saGood_yes _ _ _ _ _ h HS.out).mono ?_
    rintro e w' ⟨rfl, rfl⟩
    go_wp2_with fail
    with_reducible refine (Hcon.out _ h).mono ?_
    rintro e w1 ⟨a1, n1, c1, vs1, rfl, hs1, hb1⟩
    have hl1 := hs1.length
    have hn1 := rchL_pos hl1
    by_cases hok : okR xs
    · have hm := mCtR_yes Hg.out hok
      have hnz : ((n1 : Int) == 0) = false := by
        have : n1 ≠ 0 := fun e => (hn1.1 e) hok
        simp; omega
      clear hs1
      have Hn1 := Lib.hid hn1; clear hn1
      have Hok := Lib.hid hok; clear hok
      have Hm := Lib.hid hm; clear hm
      have Hl1 := Lib.hid hl1; clear hl1
      go_wp2_with fail
      with_reducible refine (Hcon.out _ (h.keep hb1)).mono ?_
      rintro e w2 ⟨a2, n2, c2, vs2, rfl, hs2, hb2⟩
      have hl2 := hs2.length
      clear hs2
      have hbf := belowTrans hb1 hb2 (Nat.le_refl _)
      have Hl2 := Lib.hid hl2; clear hl2
      go_wp2
      go_ret2
      rw [Hm.out, Hl2.out]
      exact ⟨rfl, hbf⟩
    · have hm := mCtR_no2 hok
      have hz := hn1.2 hok
      subst hz
      clear hs1
      have Hn1 := Lib.hid hn1; clear hn1
      have Hok := Lib.hid hok; clear hok
      have Hm := Lib.hid hm; clear hm
      have Hl1 := Lib.hid hl1; clear hl1
      go_wp2
      go_ret2
      rw [Hm.out]
      exact ⟨rfl, hb1⟩

theorem saCan_any (ao : Option Addr) (n cap : Nat) (xs : List Int) (bo : Option Addr) (m cap' : Nat) (ys : List Int) (w : World) (h : IntsAt w ao n cap xs) (h' : IntsAt w bo m cap' ys) (hg : Sand xs) :
    Calls Try.prog 79 #[.slice ao n cap, .slice bo m cap'] w fun e w' => e = .returned (.tuple #[.bool (canB xs ys), .bool (decide (okR xs))]) ∧ Below w.heap.size w w' := by
  have hcon := saReach_any ao n cap xs w h hg
  have Hg := Lib.hid hg; clear hg
  have Hcon := Lib.hid hcon; clear hcon
  go_enter Try.func79, Try.ntmps79
  go_wp2_with fail
  with_reducible refine (Hcon.out).mono ?_
  rintro e w1 ⟨a1, n1, c1, vs1, rfl, hs1, hb1⟩
  have hl1 := hs1.length
  have hn1 := rchL_pos hl1
  have hpc := orPlace_any a1 bo n1 m c1 cap' (rchL xs) ys w1 hs1.at (h'.keep hb1)
  have hcb : canB xs ys = decide (ys ∈ rchL xs) := rfl
  have hokd : decide (okR xs) = decide ((0 : Int) < n1) := by
    rw [decide_eq_decide]
    constructor
    · intro hok
      have : n1 ≠ 0 := fun e => (hn1.1 e) hok
      omega
    · intro h0
      apply Classical.byContradiction
      intro hno
      have := hn1.2 hno
      omega
  clear hs1
  have Hl1 := Lib.hid hl1; clear hl1
  have Hn1 := Lib.hid hn1; clear hn1
  have Hpc := Lib.hid hpc; clear hpc
  have Hcb := Lib.hid hcb; clear hcb
  have Hokd := Lib.hid hokd; clear hokd
  go_wp2_with fail
  with_reducible refine (Hpc.out).mono ?_
  rintro e w2 ⟨r, rfl, hpi, hb2⟩
  have hbf := belowTrans hb1 hb2 (Nat.le_refl _)
  rcases place_iff hpi with ⟨rfl, hnm⟩ | ⟨hr0, hm⟩
  · have hc2 : canB xs ys = false := by rw [Hcb.out]; exact decide_eq_false hnm
    have Hnm := Lib.hid hnm; clear hnm
    have Hpi := Lib.hid hpi; clear hpi
    have Hc2 := Lib.hid hc2; clear hc2
    go_wp2
    go_ret2
    exact ⟨by rw [Hc2.out, Hokd.out]; simp, hbf⟩
  · have hc2 : canB xs ys = true := by rw [Hcb.out]; exact decide_eq_true hm
    have Hm := Lib.hid hm; clear hm
    have Hpi := Lib.hid hpi; clear hpi
    have Hc2 := Lib.hid hc2; clear hc2
    go_wp2
    go_ret2
    exact ⟨by rw [Hc2.out, Hokd.out]; simp [hr0], hbf⟩
theorem mCan_yes {xs ys : List Int} (h : sandB xs = true) (h' : sandB ys = true) : mCanReach xs ys = (canB xs ys, decide (okR xs)) := by unfold mCanReach; rw [if_pos ⟨h, h'⟩]
theorem mCan_no1 {xs ys : List Int} (h : sandB xs = false) : mCanReach xs ys = (false, false) := by unfold mCanReach; rw [if_neg (by rw [h]; simp)]
theorem mCan_no2 {xs ys : List Int} (h : sandB ys = false) : mCanReach xs ys = (false, false) := by unfold mCanReach; rw [if_neg (by rw [h]; simp)]
theorem reaB_no1 {xs ys : List Int} (h : sandB xs = false) : reaB xs ys = false := by unfold reaB; rw [h]; rfl
theorem reaB_no2 {xs ys : List Int} (h : sandB ys = false) : reaB xs ys = false := by unfold reaB; rw [h]; simp
theorem reaB_yes {xs ys : List Int} (h : sandB xs = true) (h' : sandB ys = true) : reaB xs ys = canB xs ys := by unfold reaB; rw [h, h']; rfl
theorem spec_CanReach (ao : Option Addr) (n cap : Nat) (xs : List Int) (bo : Option Addr) (m cap' : Nat) (ys : List Int) (w : World) (h : IntsAt w ao n cap xs) (h' : IntsAt w bo m cap' ys) :
    Calls Try.prog 38 #[.slice ao n cap, .slice bo m cap'] w fun e w' => e = .returned (.tuple #[.bool (mCanReach xs ys).1, .bool (mCanReach xs ys).2]) ∧ Below w.heap.size w w' := by
  cases hg : sandB xs
  · have hm := mCan_no1 (ys := ys) hg
    have Hg := Lib.hid hg; clear hg
    have Hm := Lib.hid hm; clear hm
    go_enter Try.func38, Try.ntmps38
    go_wp2_with fail
    with_reducible refine (saGood_no _ _ _ _ _ h Hg.out).mono ?_
    rintro e w' ⟨rfl, rfl⟩
    go_wp2
    go_ret2
    rw [Hm.out]
    exact ⟨rfl, Below.refl _ _⟩
  cases hg2 : sandB ys
  · have hm := mCan_no2 (xs := xs) hg2
    have Hg := Lib.hid hg; clear hg
    have Hm := Lib.hid hm; clear hm
    have Hg2 := Lib.hid hg2; clear hg2
    go_enter Try.func38, Try.ntmps38
    go_wp2_with fail
    with_reducible refine (saGood_yes _ _ _ _ _ h (sand_iff.1 Hg.out)).mono ?_
    rintro e w' ⟨rfl, rfl⟩
    go_wp2_with fail
    with_reducible refine (saGood_no _ _ _ _ _ h' Hg2.out).mono ?_
    rintro e w' ⟨rfl, rfl⟩
    go_wp2
    go_ret2
    rw [Hm.out]
    exact ⟨rfl, Below.refl _ _⟩
  have hm := mCan_yes hg hg2
  have hcon := saCan_any ao n cap xs bo m cap' ys w h h' (sand_iff.1 hg)
  generalize canB xs ys = cb at *
  generalize decide (okR xs) = ob at *
  have Hg := Lib.hid hg; clear hg
  have Hm := Lib.hid hm; clear hm
  have Hg2 := Lib.hid hg2; clear hg2
  have Hcon := Lib.hid hcon; clear hcon
  go_enter Try.func38, Try.ntmps38
  go_wp2_with fail
  with_reducible refine (saGood_yes _ _ _ _ _ h (sand_iff.1 Hg.out)).mono ?_
  rintro e w' ⟨rfl, rfl⟩
  go_wp2_with fail
  with_reducible refine (saGood_yes _ _ _ _ _ h' (sand_iff.1 Hg2.out)).mono ?_
  rintro e w' ⟨rfl, rfl⟩
  go_wp2_with fail
  with_reducible refine (Hcon.out).mono ?_
  rintro e w1 ⟨rfl, hb1⟩
  go_wp2
  go_ret2
  rw [Hm.out]
  exact ⟨rfl, hb1⟩
theorem slUptoOwn {B E w ao n cap xs} (h : Own B E w ao n cap xs) (hi : Nat) (hhi : hi ≤ n) (k : IntKind) : (∀ W : World, (Instr.sliceAt 24 (.slice ao n cap) none (some (.int k (hi : Int))) none).run Try.prog W = .ok (.slice ao hi cap) W) ∧ Own B E w ao hi cap (xs.take hi) := by
  rcases h.cases with ⟨rfl, rfl, rfl, rfl⟩ | ⟨g, rfl, _, _, _⟩
  · obtain rfl : hi = 0 := by omega
    obtain ⟨a2, h1, h2⟩ := slUpto w [] h.at 0 (Nat.le_refl _) k
    refine ⟨fun W => ?_, Own.nil _ _ _⟩
    have hrun := run_slice_h (P := Try.prog) (w := W) 24 none 0 0 Try.underlying24 k ((0 : Nat) : Int) (by omega) (by omega)
    rw [sizeInt] at hrun
    rw [run_sliceAt_slice _ _ _ _ _ _ Try.underlying24, hrun]
    simp [Result.andThen, sliced]
  · refine ⟨fun W => ?_, ?_⟩
    · have hrun := run_slice_h (P := Try.prog) (w := W) 24 (some ⟨g, 0, none⟩) n cap Try.underlying24 k (hi : Int) (by omega) (by have := h.at.le; omega)
      rw [sizeInt] at hrun
      rw [run_sliceAt_slice _ _ _ _ _ _ Try.underlying24, hrun]
      simp [Result.andThen, sliced, Addr.add_lit]
    · have := OwnRow.cut h hhi
      unfold Own
      rw [List.map_take]; exact this

end Go.Proofs.Ythhhgmkjjagmaaa
