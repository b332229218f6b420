/- Chapter 6 by the program: FallsOf, IsSettled, WeightOf, SettleSand, FallCounts, PlayFalls, FallGrain, SettledShape. No condition. -/
import Derived.Test.YthhhgmkjjagmaaaSaK
import Derived.Test.YthhhgmkjjagmaaaOrder
namespace Go.Proofs.Ythhhgmkjjagmaaa
open Go.RowKit
set_option linter.unusedVariables false
set_option linter.unusedSimpArgs false
set_option maxRecDepth 20000

theorem fallsV_at {xs : List Int} {k n : Nat} (hk : k < (fallsV xs n).length) : ∃ (b : Bool) (i : Nat), (fallsV xs n)[k]? = some (fallV b i) ∧ (fallsT xs n).getD k 0 = (i : Int) := by
  unfold fallsV fallsT at *
  rw [List.length_map] at hk
  refine ⟨decide ((fallsN xs n)[k] + 1 = xs.length), (fallsN xs n)[k], ?_, ?_⟩
  · rw [List.getElem?_map, List.getElem?_eq_getElem hk]; rfl
  · rw [List.getD_eq_getElem?_getD, List.getElem?_map, List.getElem?_eq_getElem hk]; rfl

set_option maxHeartbeats 3200000 in
theorem impl_FallsOf (ao : Option Addr) (n cap : Nat) (xs : List Int) (w : World) (h : IntsAt w ao n cap xs) :
    Calls Try.prog 26 #[.slice ao n cap] w fun e w' => ∃ ao' n' cap', e = .returned (.tuple #[.slice ao' n' cap', .bool (mFallsOf xs).2]) ∧ Own w.heap.size w'.heap.size w' ao' n' cap' (mFallsOf xs).1 ∧ Below w.heap.size w w' := by
  cases hg : sandB xs
  · have hm := mFallsOf_no hg
    have Hg := Lib.hid hg; clear hg
    have Hm := Lib.hid hm; clear hm
    go_enter Try.func26, Try.ntmps26
    go_wp2_with fail
    with_reducible refine (isSand_no _ _ _ _ _ h Hg.out).mono ?_
    rintro e w' ⟨rfl, rfl⟩
    go_wp2
    go_ret2
    rw [Hm.out]
    exact ⟨none, 0, 0, rfl, Own.nil _ _ _, Below.refl _ _⟩
  · have hm := mFallsOf_yes hg
    have hG := sand_iff.1 hg
    have hl := h.length
    have hlen := hG.grains.len
    have hem := Own.empty w
    have hba := belowAlloc w (.cells #[] 3)
    have hwa : (w.alloc (.cells #[] 3)).heap.size = w.heap.size + 1 := by simp
    have hcp := fallsOf_any ao n cap xs _ (h.keep hba) hG.grains
    have hff : fallsT xs n = fallsL xs := by unfold fallsL; rw [hl]
    have Hg := Lib.hid hg; clear hg
    have Hm := Lib.hid hm; clear hm
    have HG := Lib.hid hG; clear hG
    have Hl := Lib.hid hl; clear hl
    have Hcp := Lib.hid hcp; clear hcp
    have Hba := Lib.hid hba; clear hba
    have Hem := Lib.hid hem; clear hem
    have Hwa := Lib.hid hwa; clear hwa
    have Hff := Lib.hid hff; clear hff
    go_enter Try.func26, Try.ntmps26
    go_wp2_with fail
    with_reducible refine (isSand_yes _ _ _ _ _ h HG.out).mono ?_
    rintro e w' ⟨rfl, rfl⟩
    go_wp2_with fail
    with_reducible refine (Hcp.out).mono ?_
    rintro e w1 ⟨a1, n1, c1, rfl, ho1, hb1⟩
    have hs1 := hb1.size
    rw [Hwa.out] at hs1
    have hn1 := ho1.length
    have hn2 := fallsT_length xs n
    rw [fallsV_length] at hn1
    have hem1 := (Hem.out.keep hb1).mono (Nat.le_refl _) (by rw [Hwa.out]; exact hs1)
    have hb2 := belowTrans (Hba.out) hb1 (Nat.le_refl _)
    have hsep : Sep w.heap.size w1.heap.size w1 (.slice none 0 0) (some ⟨w.heap.size, 0, none⟩) 0 0 [] := Sep.nil hem1
    rw [hn1] at hn2
    have hn3 : n1 ≤ 24 := by have := Hl.out; omega
    clear hb1 hsep
    have Hn1 := Lib.hid hn1; clear hn1
    have Hn2 := Lib.hid hn2; clear hn2
    go_wp2_with fail
    go_loopw [4, 14] (fun v i wr => ∃ (k : Nat) (a : Option Addr) (c : Nat), k ≤ n1 ∧ i = .int .i64 k ∧ v = .slice a k c ∧ Own w.heap.size wr.heap.size wr a k c ((fallsT xs n).take k) ∧ OwnRow (w.heap.size + 1) w1.heap.size wr 63 a1 n1 c1 (fallsV xs n) ∧ Below w.heap.size w wr) (fun _ i _ => n1 - (intOf i).toNat)
    case atStart => exact ⟨0, _, 0, Nat.zero_le _, rfl, rfl, by simpa using hem1, ho1.mono (by rw [Hwa.out]; exact Nat.le_refl _) (Nat.le_refl _), hb2⟩
    case round =>
      obtain ⟨k, a, c, hk, rfl, rfl, hown, hrow, hb⟩ := hrel
      clear ho1 hem1 hb2
      by_cases hlt : k < n1
      · obtain ⟨bb, i, hv1, hv2⟩ := fallsV_at (xs := xs) (k := k) (n := n) (by rw [fallsV_length, Hn1.out]; exact hlt)
        rcases hrow.cases with ⟨_, hz', _⟩ | ⟨g3, rfl, _, _, hg3⟩
        · omega
        have hck := World.ownsRow.cellAt hrow.1 k (by omega)
        rw [hv1] at hck
        have e := take_snoc hv2 hlt Hn1.out
        obtain ⟨T, f, hfv, hme, hent, hcol⟩ := mColV bb i
        rw [hfv] at hck
        clear hv1 hfv
        have E := Lib.hid e; clear e
        have Hv2 := Lib.hid hv2; clear hv2
        have Hcol := Lib.hid hcol; clear hcol
        go_wp2_with fail
        with_reducible refine (Hcol.out _).mono ?_
        rintro e w' ⟨rfl, rfl⟩
        go_wp2_with (at_builtin; refine wpList_pushI wr rfl _ _ rfl w.heap.size wr.heap.size a k c _ rfl hown _ rfl (by omega) hb.size ?_)
        intro ao2 cap2 w2 ho2 hc2 _
        have hb3 := hb.trans (hown.chgBelow hc2 hb.size)
        have hrow2 := hrow.chg hc2 (fun g _ _ h1 h2 => OwnRow.apart_ty hrow hown (by decide) h1 h2)
        clear hown hrow hc2 hck hb
        go_wp2
        go_roundw
        case rel => exact ⟨k + 1, ao2, cap2, by omega, by go_num, rfl, by rw [E.out]; exact ho2, hrow2, hb3⟩
        case measure => simp [intOf]; omega
      · obtain rfl : n1 = k := by omega
        rw [take_all Hn1.out, Hff.out] at hown
        clear hrow
        go_wp2
        go_ret2
        rw [Hm.out]
        exact ⟨_, _, _, rfl, hown, hb⟩

set_option maxHeartbeats 800000 in
theorem impl_IsSettled (ao : Option Addr) (n cap : Nat) (xs : List Int) (w : World) (h : IntsAt w ao n cap xs) :
    Calls Try.prog 17 #[.slice ao n cap] w fun e w' => e = .returned (.tuple #[.bool (mIsSettled xs).1, .bool (mIsSettled xs).2]) ∧ Below w.heap.size w w' := by
  cases hg : sandB xs
  · have hm := mIsSettled_no hg
    have Hg := Lib.hid hg; clear hg
    have Hm := Lib.hid hm; clear hm
    go_enter Try.func17, Try.ntmps17
    go_wp2_with fail
    with_reducible refine (isSand_no _ _ _ _ _ h Hg.out).mono ?_
    rintro e w' ⟨rfl, rfl⟩
    go_wp2
    go_ret2
    rw [Hm.out]
    exact ⟨rfl, Below.refl _ _⟩
  · have hm := mIsSettled_yes hg
    have hG := sand_iff.1 hg
    have hln := h.length
    have Hg := Lib.hid hg; clear hg
    have Hm := Lib.hid hm; clear hm
    have HG := Lib.hid hG; clear hG
    go_enter Try.func17, Try.ntmps17
    go_wp2_with fail
    with_reducible refine (isSand_yes _ _ _ _ _ h HG.out).mono ?_
    rintro e w' ⟨rfl, rfl⟩
    go_wp2_with fail
    with_reducible refine (fallsOf_any _ _ _ _ _ h HG.out.grains).mono ?_
    rintro e w' ⟨ao', n', cap', rfl, ho, hb⟩
    have hl := ho.length
    rw [fallsV_length, ← hln] at hl
    have hl2 : (fallsL xs).length = n' := hl
    have hd : decide (fallsL xs = []) = ((n' : Int) == 0) := by
      by_cases hz : n' = 0
      · subst hz
        rw [List.eq_nil_of_length_eq_zero hl2]; rfl
      · have h1 : fallsL xs ≠ [] := fun e => hz (by rw [← hl2, e]; rfl)
        rw [decide_eq_false h1]
        symm
        simp; omega
    clear ho
    have Hl := Lib.hid hl; clear hl
    have Hd := Lib.hid hd; clear hd
    have Hl2 := Lib.hid hl2; clear hl2
    have Hln := Lib.hid hln; clear hln
    go_wp2
    go_ret2
    rw [Hm.out]
    exact ⟨by rw [Hd.out]; rfl, hb⟩

set_option maxHeartbeats 1600000 in
theorem impl_WeightOf (ao : Option Addr) (n cap : Nat) (xs : List Int) (w : World) (h : IntsAt w ao n cap xs) :
    Calls Try.prog 18 #[.slice ao n cap] w fun e w' => e = .returned (.tuple #[.int .i64 (mWeightOf xs).1, .bool (mWeightOf xs).2]) ∧ Below w.heap.size w w' := by
  cases hg : sandB xs
  · have hm := mWeight_no hg
    have Hg := Lib.hid hg; clear hg
    have Hm := Lib.hid hm; clear hm
    go_enter Try.func18, Try.ntmps18
    go_wp2_with fail
    with_reducible refine (isSand_no _ _ _ _ _ h Hg.out).mono ?_
    rintro e w' ⟨rfl, rfl⟩
    go_wp2
    go_ret2
    rw [Hm.out]
    exact ⟨rfl, Below.refl _ _⟩
  · have hm := mWeight_yes hg
    have hG := sand_iff.1 hg
    have hn := h.lenInt
    have hl := h.length
    have hlen := hG.grains.len
    have hn24 : (n : Int) ≤ 24 := by omega
    have Hg := Lib.hid hg; clear hg
    have Hl := Lib.hid hl; clear hl
    have Hm := Lib.hid hm; clear hm
    have HG := Lib.hid hG; clear hG
    go_enter Try.func18, Try.ntmps18
    go_wp2_with fail
    with_reducible refine (isSand_yes _ _ _ _ _ h HG.out).mono ?_
    rintro e w' ⟨rfl, rfl⟩
    go_wp2
    go_loop [4, 12] (fun s i => ∃ k : Nat, ∃ t : Int, k ≤ n ∧ i = .int .i64 k ∧ s = .int .i64 t ∧ wt 0 (xs.take k) = t) (fun _ i => n - (intOf i).toNat)
    case atStart => exact ⟨0, 0, Nat.zero_le _, rfl, rfl, rfl⟩
    case round =>
      obtain ⟨k, t, hk, rfl, rfl, ht⟩ := hrel
      have hb := (HG.out.grains.take k).wt
      rw [ht] at hb
      have Ht := Lib.hid ht; clear ht
      by_cases hlt : k < n
      · obtain ⟨b, o, rfl, hb, hc⟩ := h.cell k hlt
        have hck := hc k hlt
        clear hc
        generalize hx : xs.getD k 0 = x at hck
        have Hx := Lib.hid hx; clear hx
        have e := take_snoc Hx.out hlt Hl.out
        have hx := grains_at HG.out.grains k
        rw [Hx.out] at hx
        have e2 : wt 0 (xs.take (k + 1)) = t + (k : Int) * x := by
          rw [e, wt_snoc, Ht.out, List.length_take, Nat.min_eq_left (by have := Hl.out; omega)]
          simp
        have hq : 0 ≤ (k : Int) * x ∧ (k : Int) * x ≤ 576 := by
          refine ⟨Int.mul_nonneg (by omega) (by omega), ?_⟩
          have h1 : (k : Int) * x ≤ (k : Int) * 24 := Int.mul_le_mul_of_nonneg_left (by omega) (by omega)
          omega
        have E2 := Lib.hid e2; clear e2
        have E := Lib.hid e; clear e
        go_wp2
        go_round
        case rel => exact ⟨k + 1, t + (k : Int) * x, by omega, by go_num, rfl, E2.out⟩
        case measure => simp [intOf]; omega
      · obtain rfl : n = k := by omega
        have hh := Ht.out
        rw [take_all Hl.out] at hh
        have Hh := Lib.hid hh; clear hh
        go_wp2
        go_ret2
        rw [Hm.out, Hh.out]
        exact ⟨rfl, Below.refl _ _⟩

theorem impl_SettleSand (ao : Option Addr) (n cap : Nat) (xs : List Int) (w : World) (h : IntsAt w ao n cap xs) :
    Calls Try.prog 13 #[.slice ao n cap] w fun e w' => ∃ ao' n' cap', e = .returned (.tuple #[.slice ao' n' cap', .bool (mSettleSand xs).2]) ∧ Own w.heap.size w'.heap.size w' ao' n' cap' (mSettleSand xs).1 ∧ Below w.heap.size w w' := by
  cases hg : sandB xs
  · have hm := mSettle_no hg
    have Hg := Lib.hid hg; clear hg
    have Hm := Lib.hid hm; clear hm
    go_enter Try.func13, Try.ntmps13
    go_wp2_with fail
    with_reducible refine (isSand_no _ _ _ _ _ h Hg.out).mono ?_
    rintro e w' ⟨rfl, rfl⟩
    go_wp2
    go_ret2
    rw [Hm.out]
    exact ⟨none, 0, 0, rfl, Own.nil _ _ _, Below.refl _ _⟩
  · have hm := mSettle_yes hg
    have hG := sand_iff.1 hg
    have hst := settled_any ao n cap xs w h hG.grains
    generalize settleL xs = S at *
    generalize countsL xs = C at *
    have Hg := Lib.hid hg; clear hg
    have Hm := Lib.hid hm; clear hm
    have HG := Lib.hid hG; clear hG
    have Hst := Lib.hid hst; clear hst
    go_enter Try.func13, Try.ntmps13
    go_wp2_with fail
    with_reducible refine (isSand_yes _ _ _ _ _ h HG.out).mono ?_
    rintro e w' ⟨rfl, rfl⟩
    go_wp2_with fail
    with_reducible refine (Hst.out).mono ?_
    rintro e w1 ⟨R, a1, n1, c1, a2, n2, c2, rfl, hs1, hb⟩
    go_wp2_with fail
    with_reducible refine (sandS_any _ _ _ _ _ _ _ _ _ _ _ _ hs1).mono ?_
    rintro e w2 ⟨a3, n3, c3, rfl, ho3, rfl⟩
    go_wp2
    go_ret2
    rw [Hm.out]
    exact ⟨_, _, _, rfl, ho3, hb⟩
theorem impl_FallCounts (ao : Option Addr) (n cap : Nat) (xs : List Int) (w : World) (h : IntsAt w ao n cap xs) :
    Calls Try.prog 15 #[.slice ao n cap] w fun e w' => ∃ ao' n' cap', e = .returned (.tuple #[.slice ao' n' cap', .bool (mFallCounts xs).2]) ∧ Own w.heap.size w'.heap.size w' ao' n' cap' (mFallCounts xs).1 ∧ Below w.heap.size w w' := by
  cases hg : sandB xs
  · have hm := mCounts_no hg
    have Hg := Lib.hid hg; clear hg
    have Hm := Lib.hid hm; clear hm
    go_enter Try.func15, Try.ntmps15
    go_wp2_with fail
    with_reducible refine (isSand_no _ _ _ _ _ h Hg.out).mono ?_
    rintro e w' ⟨rfl, rfl⟩
    go_wp2
    go_ret2
    rw [Hm.out]
    exact ⟨none, 0, 0, rfl, Own.nil _ _ _, Below.refl _ _⟩
  · have hm := mCounts_yes hg
    have hG := sand_iff.1 hg
    have hst := settled_any ao n cap xs w h hG.grains
    generalize settleL xs = S at *
    generalize countsL xs = C at *
    have Hg := Lib.hid hg; clear hg
    have Hm := Lib.hid hm; clear hm
    have HG := Lib.hid hG; clear hG
    have Hst := Lib.hid hst; clear hst
    go_enter Try.func15, Try.ntmps15
    go_wp2_with fail
    with_reducible refine (isSand_yes _ _ _ _ _ h HG.out).mono ?_
    rintro e w' ⟨rfl, rfl⟩
    go_wp2_with fail
    with_reducible refine (Hst.out).mono ?_
    rintro e w1 ⟨R, a1, n1, c1, a2, n2, c2, rfl, hs1, hb⟩
    obtain ⟨k0, k1⟩ := hs1.c1
    have hown := hs1.cnts
    clear hs1
    go_wp2
    go_ret2
    rw [Hm.out]
    exact ⟨_, _, _, rfl, hown, hb⟩

theorem bump_ok {zs : List Int} {t i : Nat} (hl : zs.length ≤ 24) (hz : ∀ j, 0 ≤ zs.getD j 0 ∧ zs.getD j 0 ≤ t) (hi : i < 24) : (bump zs i).length ≤ 24 ∧ ∀ j, 0 ≤ (bump zs i).getD j 0 ∧ (bump zs i).getD j 0 ≤ ((t + 1 : Nat) : Int) := by
  refine ⟨by rw [bump_length]; omega, fun k => ?_⟩
  have hb := hz k
  have hbi := hz i
  unfold bump
  by_cases hk : k = i
  · subst hk
    rw [getD_set_eqM _ _ _ _ (by simp; omega), getD_pad]
    push_cast
    omega
  · rw [getD_set_neM _ _ _ _ _ (by omega), getD_pad]
    push_cast
    omega

set_option maxHeartbeats 6400000 in
theorem impl_PlayFalls (ao : Option Addr) (n cap : Nat) (xs : List Int) (bo : Option Addr) (m cap' : Nat) (fs : List Int) (w : World) (h : IntsAt w ao n cap xs) (h' : IntsAt w bo m cap' fs) :
    Calls Try.prog 9 #[.slice ao n cap, .slice bo m cap'] w fun e w' => ∃ ao' n' cap', e = .returned (.tuple #[.slice ao' n' cap', .bool (mPlayFalls xs fs).2]) ∧ Own w.heap.size w'.heap.size w' ao' n' cap' (mPlayFalls xs fs).1 ∧ Below w.heap.size w w' := by
  have hlm := h'.length
  have hmI := h'.lenInt
  cases hg : sandB xs
  · have hm : mPlayFalls xs fs = ([], false) := mPlayF_no1 hg
    have Hg := Lib.hid hg; clear hg
    have Hm := Lib.hid hm; clear hm
    have Hlm := Lib.hid hlm; clear hlm
    go_enter Try.func9, Try.ntmps9
    go_wp2_with fail
    with_reducible refine (isSand_no _ _ _ _ _ h Hg.out).mono ?_
    rintro e w' ⟨rfl, rfl⟩
    go_wp2
    go_ret2
    rw [Hm.out]
    exact ⟨none, 0, 0, rfl, Own.nil _ _ _, Below.refl _ _⟩
  have hG := sand_iff.1 hg
  have hl := h.length
  have hlen := hG.grains.len
  by_cases h300 : m ≤ 300
  · have hm := mPlayF_yes (fs := fs) hg (by omega)
    have hcp := slideFrom_any ao n cap xs w h (by omega)
    have hstop := fun k hk => playF_stop (xs := xs) (fs := fs) (k := k) hk
    have hgr := fun k ys hk => playF_grains (xs := xs) (fs := fs.take k) (ys := ys) hG.grains hk
    have h300I : (m : Int) ≤ 300 := by omega
    have Hg := Lib.hid hg; clear hg
    have Hm := Lib.hid hm; clear hm
    have HG := Lib.hid hG; clear hG
    have Hl := Lib.hid hl; clear hl
    have Hlm := Lib.hid hlm; clear hlm
    have Hcp := Lib.hid hcp; clear hcp
    have Hstop := Lib.hid hstop; clear hstop
    have Hgr := Lib.hid hgr; clear hgr
    go_enter Try.func9, Try.ntmps9
    go_wp2_with fail
    with_reducible refine (isSand_yes _ _ _ _ _ h HG.out).mono ?_
    rintro e w' ⟨rfl, rfl⟩
    go_wp2_with fail
    with_reducible refine (Hcp.out).mono ?_
    rintro e w1 ⟨R, a1, c1, rfl, hs1, hb1⟩
    go_wp2_with fail
    go_loopw [23] (fun i wr => ∃ (k : Nat) (a : Option Addr) (p c : Nat) (ys : List Int) (a2 : Option Addr) (n2 c2 : Nat) (zs : List Int), k ≤ m ∧ i = .int .i64 k ∧ Hid (playF xs (fs.take k) = some ys) ∧ Sl w.heap.size wr.heap.size R wr a p c ys a2 n2 c2 zs ∧ Hid (zs.length ≤ 24 ∧ ∀ j, 0 ≤ zs.getD j 0 ∧ zs.getD j 0 ≤ (k : Int)) ∧ Below w.heap.size w wr) (fun i _ => m - (intOf i).toNat)
    case atStart => exact ⟨0, a1, n, c1, xs, none, 0, 0, [], Nat.zero_le _, rfl, Lib.hid rfl, hs1, Lib.hid ⟨by simp, fun j => by simp⟩, hb1⟩
    case round =>
      obtain ⟨k, a, p, c, ys, a2, n2, c2, zs, hk, rfl, Hp, hsl, Hzs, hb⟩ := hrel
      have hgy := Hgr.out k ys Hp.out
      have hpl := hsl.cols.own.length
      have hy24 := hgy.len
      have hpI : (p : Int) ≤ 24 := by omega
      have hn2 := hsl.cnts.length
      obtain ⟨k0, k1⟩ := hsl.c0
      clear hs1 hb1
      by_cases hlt : k < m
      · have h1 := h'.keep hb
        obtain ⟨b1, o1, rfl, hb1, hc1⟩ := h1.cell k hlt
        have hck1 := hc1 k hlt
        clear hc1
        generalize hx1 : fs.getD k 0 = x at hck1
        have Hx1 := Lib.hid hx1; clear hx1
        have e := take_snoc Hx1.out hlt Hlm.out
        have e2 : playF xs (fs.take (k + 1)) = fall1 ys x := by rw [e, playF_snoc, Hp.out]; rfl
        by_cases hin : 0 ≤ x ∧ x ≤ (p : Int) - 1
        · obtain ⟨i, rfl⟩ := Int.eq_ofNat_of_zero_le hin.1
          have hi : i < p := by omega
          have hcon := fallAt_in a p c ys i wr hsl.cols.own.at hgy hi
          have hzz : ∀ j, 0 ≤ zs.getD j 0 ∧ zs.getD j 0 ≤ 576 := fun j => by have := Hzs.out.2 j; omega
          have hlet := fun q => let_any w.heap.size R a p c ys a2 n2 c2 zs i (wr.drewN q) (hsl.drewN q) hb.size hgy hi (by have := Hzs.out.1; omega) hzz
          have hzb := bump_ok Hzs.out.1 Hzs.out.2 (show i < 24 by omega)
          generalize fallV (decide (i + 1 = p)) i = fv at *
          cases hs : steepB ys i
          · rw [hs] at hcon
            have hf : fall1 ys (i : Int) = none := by unfold fall1; rw [if_neg (fun hh => by have := hh.2.2; simp at this; rw [hs] at this; cases this)]
            rw [hf] at e2
            have hend := Hstop.out _ e2
            have hm2 : mPlayFalls xs fs = ([], false) := by rw [Hm.out, hend]; rfl
            clear hlet hsl hzz
            have E := Lib.hid e; clear e
            have E2 := Lib.hid e2; clear e2
            have Hf := Lib.hid hf; clear hf
            have Hs := Lib.hid hs; clear hs
            have Hin := Lib.hid hin; clear hin
            have Hcon := Lib.hid hcon; clear hcon
            have Hend := Lib.hid hend; clear hend
            have Hm2 := Lib.hid hm2; clear hm2
            have Hgy := Lib.hid hgy; clear hgy
            have Hpl := Lib.hid hpl; clear hpl
            have Hzb := Lib.hid hzb; clear hzb
            have Hn2 := Lib.hid hn2; clear hn2
            go_wp2_with fail
            with_reducible refine (Hcon.out).mono ?_
            rintro e w' ⟨rfl, q, rfl⟩
            go_wp2
            go_ret2
            rw [Hm2.out]
            exact ⟨none, 0, 0, rfl, Own.nil _ _ _, belowDrewN hb q⟩
          · rw [hs] at hcon
            have hf : fall1 ys (i : Int) = some (fallL ys i) := by unfold fall1; rw [if_pos ⟨by omega, by omega, by simpa using hs⟩]; simp
            rw [hf] at e2
            clear hsl hzz
            have E := Lib.hid e; clear e
            have E2 := Lib.hid e2; clear e2
            have Hf := Lib.hid hf; clear hf
            have Hs := Lib.hid hs; clear hs
            have Hin := Lib.hid hin; clear hin
            have Hcon := Lib.hid hcon; clear hcon
            have Hlet := Lib.hid hlet; clear hlet
            have Hgy := Lib.hid hgy; clear hgy
            have Hpl := Lib.hid hpl; clear hpl
            have Hzb := Lib.hid hzb; clear hzb
            have Hn2 := Lib.hid hn2; clear hn2
            go_wp2_with fail
            with_reducible refine (Hcon.out).mono ?_
            rintro e w' ⟨rfl, q, rfl⟩
            go_wp2_with fail
            with_reducible refine (Hlet.out q).mono ?_
            rintro e w2 ⟨rfl, a4, n4, c4, a5, n5, c5, hs4, hb4⟩
            have hb5 := (belowDrewN hb q).trans hb4
            clear k0 k1
            have Hs4 := Lib.hid hs4; clear hs4
            go_wp2
            go_roundw
            case rel => exact ⟨k + 1, a4, n4, c4, _, a5, n5, c5, _, by omega, by go_num, Lib.hid E2.out, Hs4.out, Lib.hid Hzb.out, hb5⟩
            case measure => simp [intOf]; omega
        · have hf : fall1 ys x = none := by unfold fall1; rw [if_neg (fun hh => hin ⟨hh.1, by have := hh.2.1; omega⟩)]
          rw [hf] at e2
          have hend := Hstop.out _ e2
          have hm2 : mPlayFalls xs fs = ([], false) := by rw [Hm.out, hend]; rfl
          have hcon := fallAt_out a p c x wr hpI hin
          clear hsl
          have E := Lib.hid e; clear e
          have E2 := Lib.hid e2; clear e2
          have Hf := Lib.hid hf; clear hf
          have Hin := Lib.hid hin; clear hin
          have Hend := Lib.hid hend; clear hend
          have Hm2 := Lib.hid hm2; clear hm2
          have Hgy := Lib.hid hgy; clear hgy
          have Hpl := Lib.hid hpl; clear hpl
          have Hcon := Lib.hid hcon; clear hcon
          have Hn2 := Lib.hid hn2; clear hn2
          go_wp2_with fail
          with_reducible refine (Hcon.out).mono ?_
          rintro e w' ⟨rfl, rfl⟩
          go_wp2
          go_ret2
          rw [Hm2.out]
          exact ⟨none, 0, 0, rfl, Own.nil _ _ _, hb⟩
      · obtain rfl : m = k := by omega
        have hp := Hp.out
        rw [take_all Hlm.out] at hp
        have hm2 : mPlayFalls xs fs = ifSand (some ys) := by rw [Hm.out, hp]
        have hcon := sandS_any _ _ _ _ _ _ _ _ _ _ _ _ hsl
        clear hsl
        have Hp := Lib.hid hp; clear hp
        have Hm2 := Lib.hid hm2; clear hm2
        have Hgy := Lib.hid hgy; clear hgy
        have Hpl := Lib.hid hpl; clear hpl
        have Hcon := Lib.hid hcon; clear hcon
        have Hn2 := Lib.hid hn2; clear hn2
        go_wp2_with fail
        with_reducible refine (Hcon.out).mono ?_
        rintro e w2 ⟨a3, n3, c3, rfl, ho3, rfl⟩
        go_wp2
        go_ret2
        rw [Hm2.out]
        exact ⟨_, _, _, rfl, ho3, hb⟩
  · have hm := mPlayF_no2 (xs := xs) (fs := fs) (by omega)
    have h300I : (300 : Int) < m := by omega
    have Hg := Lib.hid hg; clear hg
    have Hm := Lib.hid hm; clear hm
    have HG := Lib.hid hG; clear hG
    have Hl := Lib.hid hl; clear hl
    have Hlm := Lib.hid hlm; clear hlm
    go_enter Try.func9, Try.ntmps9
    go_wp2_with fail
    with_reducible refine (isSand_yes _ _ _ _ _ h HG.out).mono ?_
    rintro e w' ⟨rfl, rfl⟩
    go_wp2
    go_ret2
    rw [Hm.out]
    exact ⟨none, 0, 0, rfl, Own.nil _ _ _, Below.refl _ _⟩

theorem impl_FallGrain (ao : Option Addr) (n cap : Nat) (xs : List Int) (i : Int) (w : World) (h : IntsAt w ao n cap xs) :
    Calls Try.prog 24 #[.slice ao n cap, .int .i64 i] w fun e w' => ∃ ao' n' cap', e = .returned (.tuple #[.slice ao' n' cap', .bool (mFallGrain xs i).2]) ∧ Own w.heap.size w'.heap.size w' ao' n' cap' (mFallGrain xs i).1 ∧ Below w.heap.size w w' := by
  have hba := belowAlloc w (.cells #[.int .i64 i] 3)
  have hcon := impl_PlayFalls ao n cap xs _ _ _ [i] _ (h.keep hba) (Own.single w i).at
  have hwa : w.heap.size ≤ (w.alloc (.cells #[.int .i64 i] 3)).heap.size := by simp
  have hm : mFallGrain xs i = mPlayFalls xs [i] := rfl
  have Hba := Lib.hid hba; clear hba
  have Hcon := Lib.hid hcon; clear hcon
  have Hwa := Lib.hid hwa; clear hwa
  have Hm := Lib.hid hm; clear hm
  go_enter Try.func24, Try.ntmps24
  go_wp2_with fail
  with_reducible refine (Hcon.out).mono ?_
  rintro e w1 ⟨a1, n1, c1, rfl, ho1, hb1⟩
  have hbf := belowTrans Hba.out hb1 (Nat.le_refl _)
  go_wp2
  go_ret2
  rw [Hm.out]
  exact ⟨_, _, _, rfl, ho1.mono Hwa.out (Nat.le_refl _), hbf⟩

theorem singleColumn_any (n : Int) (w : World) :
    Calls Try.prog 64 #[.int .i64 n] w fun e w' => ∃ ao' n' cap', e = .returned (.slice ao' n' cap') ∧ Own w.heap.size w'.heap.size w' ao' n' cap' (oneCol n) ∧ Below w.heap.size w w' := by
  by_cases hz : n = 0
  · subst hz
    have hem := Own.empty w
    have hba := belowAlloc w (.cells #[] 3)
    have ho : oneCol 0 = [] := rfl
    have Hem := Lib.hid hem; clear hem
    have Hba := Lib.hid hba; clear hba
    have Ho := Lib.hid ho; clear ho
    go_enter Try.func64, Try.ntmps64
    go_wp2
    go_ret
    exact ⟨_, _, _, rfl, by rw [Ho.out]; exact Hem.out, Hba.out⟩
  · have hem := Own.single w n
    have hba := belowAlloc w (.cells #[.int .i64 n] 3)
    have ho : oneCol n = [n] := by unfold oneCol; rw [if_neg hz]
    have hd : (n == 0) = false := by simpa using hz
    have Hem := Lib.hid hem; clear hem
    have Hba := Lib.hid hba; clear hba
    have Ho := Lib.hid ho; clear ho
    have Hz := Lib.hid hz; clear hz
    go_enter Try.func64, Try.ntmps64
    go_wp2
    go_ret
    exact ⟨_, _, _, rfl, by rw [Ho.out]; exact Hem.out, Hba.out⟩
theorem impl_SettledShape (n : Int) (w : World) :
    Calls Try.prog 21 #[.int .i64 n] w fun e w' => ∃ ao' n' cap', e = .returned (.tuple #[.slice ao' n' cap', .bool (mSettledShape n).2]) ∧ Own w.heap.size w'.heap.size w' ao' n' cap' (mSettledShape n).1 ∧ Below w.heap.size w w' := by
  by_cases hn : 0 ≤ n ∧ n ≤ 24
  · have hm := mShape_yes hn
    have Hm := Lib.hid hm; clear hm
    have Hn := Lib.hid hn; clear hn
    go_enter Try.func21, Try.ntmps21
    go_wp2_with fail
    with_reducible refine (inRange_yes _ _ _ Hn.out).mono ?_
    rintro e w' ⟨rfl, rfl⟩
    go_wp2_with fail
    with_reducible refine (singleColumn_any _ _).mono ?_
    rintro e w1 ⟨a1, n1, c1, rfl, ho1, hb1⟩
    go_wp2_with fail
    with_reducible refine (impl_SettleSand _ _ _ _ _ ho1.at).mono ?_
    rintro e w2 ⟨a2, n2, c2, rfl, ho2, hb2⟩
    have hs1 := hb1.size
    go_wp2
    go_ret2
    rw [Hm.out]
    exact ⟨_, _, _, rfl, ho2.mono hs1 (Nat.le_refl _), belowTrans hb1 hb2 (Nat.le_refl _)⟩
  · have hm := mShape_no hn
    have Hm := Lib.hid hm; clear hm
    have Hn := Lib.hid hn; clear hn
    go_enter Try.func21, Try.ntmps21
    go_wp2_with fail
    with_reducible refine (inRange_no _ _ _ Hn.out).mono ?_
    rintro e w' ⟨rfl, rfl⟩
    go_wp2
    go_ret2
    rw [Hm.out]
    exact ⟨none, 0, 0, rfl, Own.nil _ _ _, Below.refl _ _⟩
end Go.Proofs.Ythhhgmkjjagmaaa
