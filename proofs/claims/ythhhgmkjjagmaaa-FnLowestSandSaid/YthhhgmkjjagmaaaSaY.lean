/- Chapter 6: FallVector and LowestOf by the program, LowestOf by the model. No condition. -/
import Derived.Test.YthhhgmkjjagmaaaSaW
namespace Go.Proofs.Ythhhgmkjjagmaaa
open Go.RowKit
set_option linter.unusedVariables false
set_option linter.unusedSimpArgs false
set_option maxRecDepth 20000

set_option maxHeartbeats 3200000 in
theorem impl_FallVector (ao : Option Addr) (n cap : Nat) (xs : List Int) (bo : Option Addr) (m cap' : Nat) (ys : List Int) (w : World) (h : IntsAt w ao n cap xs) (h' : IntsAt w bo m cap' ys) :
    Calls Try.prog 39 #[.slice ao n cap, .slice bo m cap'] w fun e w' => ∃ ao' n' cap', e = .returned (.tuple #[.slice ao' n' cap', .bool (mFallVector xs ys).2]) ∧ Own w.heap.size w'.heap.size w' ao' n' cap' (mFallVector xs ys).1 ∧ Below w.heap.size w w' := by
  have hcon := reaches_any ao n cap xs bo m cap' ys w h h'
  cases hr : reaB xs ys
  · rw [hr] at hcon
    have hm := mFV_no hr
    have Hcon := Lib.hid hcon; clear hcon
    have Hr := Lib.hid hr; clear hr
    have Hm := Lib.hid hm; clear hm
    go_enter Try.func39, Try.ntmps39
    go_wp2_with fail
    with_reducible refine (Hcon.out).mono ?_
    rintro e w1 ⟨rfl, hb1⟩
    go_wp2
    go_ret2
    rw [Hm.out]
    exact ⟨none, 0, 0, rfl, Own.nil _ _ _, hb1⟩
  rw [hr] at hcon
  have hm := mFV_yes hr
  obtain ⟨hS, hS2, _, _⟩ := reaB_iff.1 hr
  have hlx := h.length
  have hly := h'.length
  have hnI := h.lenInt
  have hm12 : m ≤ 12 := by rw [← hly]; exact hS2.1
  have hn12 : n ≤ 12 := by rw [← hlx]; exact hS.1
  have hvl : vecL xs ys = (vecT xs ys m).take (trimN (vecT xs ys m) m) := by unfold vecL; rw [hly]
  have hVl := vecT_length xs ys m
  have hVg : ∀ k, k < m → (vecT xs ys m).getD k 0 = diffI xs ys (k + 1) := fun k hk => vecT_getD xs ys hk
  have hdb := diff_bound hS.grains hS2.grains
  have hds := diffI_succ xs ys
  have hgx := grains_at hS.grains
  have hgy := grains_at hS2.grains
  have hpx : ∀ i, n ≤ i → xs.getD i 0 = 0 := fun i hi => getD_past (by omega)
  generalize vecT xs ys m = V at *
  obtain ⟨i0, hi, hz0, hz1, hz2⟩ := info_parts Try.infoInt
  have Hcon := Lib.hid hcon; clear hcon
  have Hr := Lib.hid hr; clear hr
  have Hm := Lib.hid hm; clear hm
  have HS := Lib.hid hS; clear hS
  have HS2 := Lib.hid hS2; clear hS2
  have Hlx := Lib.hid hlx; clear hlx
  have Hly := Lib.hid hly; clear hly
  have Hvl := Lib.hid hvl; clear hvl
  have HVl := Lib.hid hVl; clear hVl
  have HVg := Lib.hid hVg; clear hVg
  have Hdb := Lib.hid hdb; clear hdb
  have Hds := Lib.hid hds; clear hds
  have Hgx := Lib.hid hgx; clear hgx
  have Hgy := Lib.hid hgy; clear hgy
  have Hpx := Lib.hid hpx; clear hpx
  go_enter Try.func39, Try.ntmps39
  go_wp2_with fail
  with_reducible refine (Hcon.out).mono ?_
  rintro e w1 ⟨rfl, hb1⟩
  go_wp2_with (at_make; refine wpList_make_full w1 rfl _ _ _ rfl w1.heap.size 3 i0 _ 1 Try.underlying24 hi hz0 hz1 _ _ _ _ m rfl rfl rfl rfl ?_ ?_ (Nat.le_refl _) ?_)
  · rw [hz2]; omega
  · unfold maxLen; omega
  intro w2 hown hgrow
  rw [madeZeros] at hown
  have ho : Own w1.heap.size w2.heap.size w2 (some ⟨w1.heap.size, 0, none⟩) m m (V.take 0 ++ List.replicate (m - 0) 0) := by simpa using Own.of hown
  have hb2 : Below w1.heap.size w1 w2 := (Below.refl _ _).grown hgrow (Nat.le_refl _) (fun k hk => by cases hk)
  clear hown hgrow hi hz0 hz1 hz2
  generalize hBe : w1.heap.size = B at *
  have hws : w.heap.size ≤ B := by rw [← hBe]; exact hb1.size
  have hbw : Below w.heap.size w w2 := hb1.trans (hb2.mono hws)
  have HBe := Lib.hid hBe; clear hBe
  clear hb2
  go_wp2_with fail
  go_loopw [6, 18] (fun s i wr => ∃ (k : Nat) (d : Int), k ≤ m ∧ i = .int .i64 k ∧ s = .int .i64 d ∧ Hid (diffI xs ys k = d) ∧ Own B wr.heap.size wr (some ⟨B, 0, none⟩) m m (V.take k ++ List.replicate (m - k) 0) ∧ Below w.heap.size w wr) (fun _ i _ => m - (intOf i).toNat)
  case atStart => exact ⟨0, 0, Nat.zero_le _, rfl, rfl, Lib.hid (by simp [diffI]), ho, hbw⟩
  case round =>
    obtain ⟨k, d, hk, rfl, rfl, Hd, hown, hb⟩ := hrel
    clear ho hbw
    have hd := Hdb.out k
    rw [Hd.out] at hd
    by_cases hlt : k < m
    · have h2 := h.keep hb
      have h2' := h'.keep hb
      obtain ⟨b1, o1, rfl, hb1, hc1⟩ := h2'.cell k hlt
      have hck1 := hc1 k hlt
      clear hc1
      generalize hx1 : ys.getD k 0 = y at hck1
      have Hx1 := Lib.hid hx1; clear hx1
      have hyy := Hgy.out k
      rw [Hx1.out] at hyy
      have hd2 := Hdb.out (k + 1)
      have hsc := Hds.out k
      rw [Hd.out, Hx1.out] at hsc
      have hfz := hown.frozenAt k
      have hcl := getD_cells hown k hlt
      obtain ⟨u0, hu0⟩ : ∃ u : Int, (V.take k ++ List.replicate (m - k) 0).getD k 0 = u := ⟨_, rfl⟩
      rw [hu0] at hcl
      have hset := hown.set k (diffI xs ys (k + 1))
      rw [fill_set V k m _ (HVg.out k hlt) hlt HVl.out] at hset
      have hbb := hb.setCell (p := ⟨B, k, none⟩) hws (.int .i64 (diffI xs ys (k + 1)))
      have hset1 := hset.1.mono (Nat.le_refl _) (show wr.heap.size ≤ (wr.setCell ⟨B, k, none⟩ (.int .i64 (diffI xs ys (k + 1)))).heap.size by simp)
      by_cases hkn : k < n
      · obtain ⟨b2, o2, rfl, hbl2, hc2⟩ := h2.cell k hkn
        have hckx := hc2 k hkn
        clear hc2
        have hxx := Hgx.out k
        generalize xs.getD k 0 = x at *
        have hkI : (k : Int) < n := by omega
        generalize hDD : diffI xs ys (k + 1) = D at *
        subst hsc
        clear hown hset h2 h2' hb
        have HDD := Lib.hid hDD; clear hDD
        have Hset1 := Lib.hid hset1; clear hset1
        have Hbb := Lib.hid hbb; clear hbb
        have Hu0 := Lib.hid hu0; clear hu0
        go_wp2
        go_roundw
        case rel => exact ⟨k + 1, d - y + x, by omega, by go_num, rfl, HDD, Hset1.out, Hbb.out⟩
        case measure => simp [intOf]; omega
      · rw [Hpx.out k (by omega), Int.add_zero] at hsc
        have hkI : ¬ ((k : Int) < n) := by omega
        generalize hDD : diffI xs ys (k + 1) = D at *
        subst hsc
        clear hown hset h2 h2' hb
        have HDD := Lib.hid hDD; clear hDD
        have Hset1 := Lib.hid hset1; clear hset1
        have Hbb := Lib.hid hbb; clear hbb
        have Hu0 := Lib.hid hu0; clear hu0
        go_wp2
        go_roundw
        case rel => exact ⟨k + 1, d - y, by omega, by go_num, rfl, HDD, Hset1.out, Hbb.out⟩
        case measure => simp [intOf]; omega
    · obtain rfl : m = k := by omega
      have hfa := fill_all V m HVl.out
      rw [hfa] at hown
      have Hfa := Lib.hid hfa; clear hfa
      obtain ⟨wo, hwo⟩ : ∃ wo : World, wo = wr := ⟨_, rfl⟩
      subst hwo
      go_wp2_with fail
      go_loopw [7] (fun v wr => ∃ q : Nat, q ≤ m ∧ v = .slice (some ⟨B, 0, none⟩) q m ∧ Hid (trimN V q = trimN V m) ∧ Own B wr.heap.size wr (some ⟨B, 0, none⟩) m m V ∧ Below w.heap.size w wr) (fun v _ => lenOf v)
      case atStart => exact ⟨m, Nat.le_refl _, rfl, Lib.hid rfl, hown, hb⟩
      case round =>
        obtain ⟨q, hq, rfl, Hq, hown, hb⟩ := hrel
        by_cases hz : q = 0
        · subst hz
          have hve := Hvl.out
          rw [← Hq.out] at hve
          have hfin : Own B wr.heap.size wr (some ⟨B, 0, none⟩) 0 m (vecL xs ys) := by
            rw [hve]; exact (slUptoOwn hown 0 (Nat.zero_le _) .i64).2
          clear hown
          have Hve := Lib.hid hve; clear hve
          have Hfin := Lib.hid hfin; clear hfin
          go_wp2
          go_ret2
          rw [Hm.out]
          exact ⟨_, _, _, rfl, Hfin.out.mono hws (Nat.le_refl _), hb⟩
        · obtain ⟨p, rfl⟩ : ∃ p, q = p + 1 := ⟨q - 1, by omega⟩
          have hcl := getD_cells hown p (by omega)
          generalize hv : V.getD p 0 = v at hcl
          have ep : (((p + 1 : Nat)) : Int) - 1 = (p : Int) := by omega
          have ep2 : (p : Int) + 1 - 1 = (p : Int) := by omega
          obtain ⟨hsl, hcut⟩ := slUptoOwn hown (p + 1) hq .i64
          have hsl2 : ∀ W : World, (Instr.sliceAt 24 (.slice (some ⟨B, 0, none⟩) (p + 1) m) none (some (.int .i64 (p : Int))) none).run Try.prog W = .ok (.slice (some ⟨B, 0, none⟩) p m) W := (slUptoOwn hcut p (by omega) .i64).1
          by_cases hv0 : v = 0
          · have htr : trimN V p = trimN V m := by
              rw [← Hq.out]
              show trimN V p = if V.getD p 0 = 0 then trimN V p else p + 1
              rw [hv, if_pos hv0]
            subst hv0
            clear hcut hsl
            have Hv := Lib.hid hv; clear hv
            have Htr := Lib.hid htr; clear htr
            go_wp2
            go_roundw
            case rel => exact ⟨p, by omega, rfl, Htr, hown, hb⟩
            case measure => show p < p + 1; omega
          · have htr : trimN V m = p + 1 := by
              rw [← Hq.out]
              show (if V.getD p 0 = 0 then trimN V p else p + 1) = p + 1
              rw [hv, if_neg hv0]
            have hve := Hvl.out
            rw [htr] at hve
            rw [← hve] at hcut
            have hd0 : (v == 0) = false := by simpa using hv0
            clear hown hsl
            have Hv := Lib.hid hv; clear hv
            have Htr := Lib.hid htr; clear htr
            have Hve := Lib.hid hve; clear hve
            have Hcut := Lib.hid hcut; clear hcut
            have Hv0 := Lib.hid hv0; clear hv0
            go_wp2
            go_ret2
            rw [Hm.out]
            exact ⟨_, _, _, rfl, Hcut.out.mono hws (Nat.le_refl _), hb⟩

/-! ### LowestOf -/
theorem place_canB {xs ys : List Int} {r : Int} (h : PlaceIs (rchL xs) ys r) : (r = -1 ∧ canB xs ys = false) ∨ (0 ≤ r ∧ canB xs ys = true) := by
  rcases place_iff h with ⟨h1, h2⟩ | ⟨h1, h2⟩
  · exact .inl ⟨h1, decide_eq_false h2⟩
  · exact .inr ⟨h1, decide_eq_true h2⟩
set_option maxHeartbeats 6400000 in
theorem spec_LowestOf (ao : Option Addr) (n cap : Nat) (xs : List Int) (bo : Option Addr) (m cap' : Nat) (ys : List Int) (w : World) (h : IntsAt w ao n cap xs) (h' : IntsAt w bo m cap' ys) :
    Calls Try.prog 45 #[.slice ao n cap, .slice bo m cap'] w fun e w' => ∃ ao' n' cap', e = .returned (.tuple #[.slice ao' n' cap', .bool (mLowestOf xs ys).2]) ∧ Own w.heap.size w'.heap.size w' ao' n' cap' (mLowestOf xs ys).1 ∧ Below w.heap.size w w' := by
  by_cases hg : ¬ (Sand xs)
  · have hm := mLow_no (xs := xs) (ys := ys) (fun hh => hg hh.1)
    have hgb := sand_no.2 hg
    have Hg := Lib.hid hg; clear hg
    have Hm := Lib.hid hm; clear hm
    have Hgb := Lib.hid hgb; clear hgb
    go_enter Try.func45, Try.ntmps45
    go_wp2_with fail
    with_reducible refine (saGood_no _ _ _ _ _ h Hgb.out).mono ?_
    rintro e w' ⟨rfl, rfl⟩
    go_wp2
    go_ret2
    rw [Hm.out]
    exact ⟨none, 0, 0, rfl, Own.nil _ _ _, Below.refl _ _⟩
  replace hg := Classical.not_not.1 hg
  by_cases hg2 : ¬ (Sand ys)
  · have hm := mLow_no (xs := xs) (ys := ys) (fun hh => hg2 hh.2.1)
    have hgb := sand_no.2 hg2
    have Hg := Lib.hid hg; clear hg
    have Hm := Lib.hid hm; clear hm
    have Hgb := Lib.hid hgb; clear hgb
    have Hg2 := Lib.hid hg2; clear hg2
    go_enter Try.func45, Try.ntmps45
    go_wp2_with fail
    with_reducible refine (saGood_yes _ _ _ _ _ h Hg.out).mono ?_
    rintro e w' ⟨rfl, rfl⟩
    go_wp2_with fail
    with_reducible refine (saGood_no _ _ _ _ _ h' Hgb.out).mono ?_
    rintro e w' ⟨rfl, rfl⟩
    go_wp2
    go_ret2
    rw [Hm.out]
    exact ⟨none, 0, 0, rfl, Own.nil _ _ _, Below.refl _ _⟩
  replace hg2 := Classical.not_not.1 hg2
  have hl := h.length
  have hsx := piSum_any ao n cap xs w h hg.good
  have hsy := piSum_any bo m cap' ys w h' hg2.good
  have hx24 := hg.grains.2
  have hy24 := hg2.grains.2
  have hx0 := sum_nonneg hg.good.1
  have hy0 := sum_nonneg hg2.good.1
  by_cases hss : ¬ (xs.sum = ys.sum)
  · have hm := mLow_no (xs := xs) (ys := ys) (fun hh => hss hh.2.2.1)
    generalize xs.sum = S at *
    generalize ys.sum = T at *
    have hne : (S != T) = true := by simpa using hss
    have Hg := Lib.hid hg; clear hg
    have Hm := Lib.hid hm; clear hm
    have Hg2 := Lib.hid hg2; clear hg2
    have Hsx := Lib.hid hsx; clear hsx
    have Hsy := Lib.hid hsy; clear hsy
    have Hl := Lib.hid hl; clear hl
    have Hss := Lib.hid hss; clear hss
    go_enter Try.func45, Try.ntmps45
    go_wp2_with fail
    with_reducible refine (saGood_yes _ _ _ _ _ h Hg.out).mono ?_
    rintro e w' ⟨rfl, rfl⟩
    go_wp2_with fail
    with_reducible refine (saGood_yes _ _ _ _ _ h' Hg2.out).mono ?_
    rintro e w' ⟨rfl, rfl⟩
    go_wp2_with fail
    with_reducible refine (Hsx.out).mono ?_
    rintro e w' ⟨rfl, rfl⟩
    go_wp2_with fail
    with_reducible refine (Hsy.out).mono ?_
    rintro e w' ⟨rfl, rfl⟩
    go_wp2
    go_ret2
    rw [Hm.out]
    exact ⟨none, 0, 0, rfl, Own.nil _ _ _, Below.refl _ _⟩
  replace hss := Classical.not_not.1 hss
  rw [← hss] at hsy
  by_cases h15 : ¬ (xs.sum ≤ 15)
  · have hm := mLow_no (xs := xs) (ys := ys) (fun hh => h15 hh.2.2.2.1)
    generalize xs.sum = S at *
    have hne : (S != S) = false := by simp
    have h15I : (15 : Int) < S := by omega
    have Hg := Lib.hid hg; clear hg
    have Hm := Lib.hid hm; clear hm
    have Hg2 := Lib.hid hg2; clear hg2
    have Hsx := Lib.hid hsx; clear hsx
    have Hsy := Lib.hid hsy; clear hsy
    have Hl := Lib.hid hl; clear hl
    have Hss := Lib.hid hss; clear hss
    go_enter Try.func45, Try.ntmps45
    go_wp2_with fail
    with_reducible refine (saGood_yes _ _ _ _ _ h Hg.out).mono ?_
    rintro e w' ⟨rfl, rfl⟩
    go_wp2_with fail
    with_reducible refine (saGood_yes _ _ _ _ _ h' Hg2.out).mono ?_
    rintro e w' ⟨rfl, rfl⟩
    go_wp2_with fail
    with_reducible refine (Hsx.out).mono ?_
    rintro e w' ⟨rfl, rfl⟩
    go_wp2_with fail
    with_reducible refine (Hsy.out).mono ?_
    rintro e w' ⟨rfl, rfl⟩
    go_wp2_with fail
    with_reducible refine (Hsx.out).mono ?_
    rintro e w' ⟨rfl, rfl⟩
    go_wp2
    go_ret2
    rw [Hm.out]
    exact ⟨none, 0, 0, rfl, Own.nil _ _ _, Below.refl _ _⟩
  replace h15 := Classical.not_not.1 h15
  by_cases hnil : xs = []
  · have hm := mLow_no (xs := xs) (ys := ys) (fun hh => hh.2.2.2.2.1 hnil)
    have hn0 : n = 0 := by rw [← hl, hnil]; rfl
    subst hn0
    generalize xs.sum = S at *
    have hne : (S != S) = false := by simp
    have h15I : ¬ ((15 : Int) < S) := by omega
    have Hg := Lib.hid hg; clear hg
    have Hm := Lib.hid hm; clear hm
    have Hg2 := Lib.hid hg2; clear hg2
    have Hsx := Lib.hid hsx; clear hsx
    have Hsy := Lib.hid hsy; clear hsy
    have Hl := Lib.hid hl; clear hl
    have Hss := Lib.hid hss; clear hss
    have Hnil := Lib.hid hnil; clear hnil
    go_enter Try.func45, Try.ntmps45
    go_wp2_with fail
    with_reducible refine (saGood_yes _ _ _ _ _ h Hg.out).mono ?_
    rintro e w' ⟨rfl, rfl⟩
    go_wp2_with fail
    with_reducible refine (saGood_yes _ _ _ _ _ h' Hg2.out).mono ?_
    rintro e w' ⟨rfl, rfl⟩
    go_wp2_with fail
    with_reducible refine (Hsx.out).mono ?_
    rintro e w' ⟨rfl, rfl⟩
    go_wp2_with fail
    with_reducible refine (Hsy.out).mono ?_
    rintro e w' ⟨rfl, rfl⟩
    go_wp2_with fail
    with_reducible refine (Hsx.out).mono ?_
    rintro e w' ⟨rfl, rfl⟩
    go_wp2
    go_ret2
    rw [Hm.out]
    exact ⟨none, 0, 0, rfl, Own.nil _ _ _, Below.refl _ _⟩
  have hpos := sum_pos hg.good hnil
  have hone := one_sand hpos h15
  have hnz : ((n : Int) == 0) = false := by
    have : n ≠ 0 := fun e => hnil (List.eq_nil_of_length_eq_zero (by omega))
    simp; omega
  have hmy : bothB xs ys [xs.sum] = true → mLowestOf xs ys = (lowestL xs ys, true) := fun hb => mLow_yes ⟨hg, hg2, hss, h15, hnil, hb⟩
  have hmn : bothB xs ys [xs.sum] = false → mLowestOf xs ys = ([], false) := fun hb => mLow_no (fun hh => by have := hh.2.2.2.2.2; rw [hb] at this; cases this)
  have hlow : lowestL xs ys = lastBy (bothB xs ys) (rchL [xs.sum]) := rfl
  generalize xs.sum = S at *
  have hne : (S != S) = false := by simp
  have h15I : ¬ ((15 : Int) < S) := by omega
  have hba := belowAlloc w (.cells #[.int .i64 S] 3)
  have hre := saReach_any _ _ _ _ _ (Own.single w S).at hone
  have hws : w.heap.size ≤ (w.alloc (.cells #[.int .i64 S] 3)).heap.size := by simp
  have hbb : bothB xs ys [S] = (canB [S] xs && canB [S] ys) := rfl
  have Hg := Lib.hid hg; clear hg
  have Hg2 := Lib.hid hg2; clear hg2
  have Hsx := Lib.hid hsx; clear hsx
  have Hsy := Lib.hid hsy; clear hsy
  have Hl := Lib.hid hl; clear hl
  have Hss := Lib.hid hss; clear hss
  have Hnil := Lib.hid hnil; clear hnil
  have Hone := Lib.hid hone; clear hone
  have Hmy := Lib.hid hmy; clear hmy
  have Hmn := Lib.hid hmn; clear hmn
  have Hlow := Lib.hid hlow; clear hlow
  have Hba := Lib.hid hba; clear hba
  have Hre := Lib.hid hre; clear hre
  have Hws := Lib.hid hws; clear hws
  have Hbb := Lib.hid hbb; clear hbb
  go_enter Try.func45, Try.ntmps45
  go_wp2_with fail
  with_reducible refine (saGood_yes _ _ _ _ _ h Hg.out).mono ?_
  rintro e w' ⟨rfl, rfl⟩
  go_wp2_with fail
  with_reducible refine (saGood_yes _ _ _ _ _ h' Hg2.out).mono ?_
  rintro e w' ⟨rfl, rfl⟩
  go_wp2_with fail
  with_reducible refine (Hsx.out).mono ?_
  rintro e w' ⟨rfl, rfl⟩
  go_wp2_with fail
  with_reducible refine (Hsy.out).mono ?_
  rintro e w' ⟨rfl, rfl⟩
  go_wp2_with fail
  with_reducible refine (Hsx.out).mono ?_
  rintro e w' ⟨rfl, rfl⟩
  go_wp2_with fail
  with_reducible refine (Hsx.out).mono ?_
  rintro e w' ⟨rfl, rfl⟩
  go_wp2_with fail
  with_reducible refine (Hre.out).mono ?_
  rintro e w1 ⟨a1, n1, c1, vs1, rfl, hs1, hb1⟩
  have hbw := belowTrans Hba.out hb1 (Nat.le_refl _)
  have hl1 := hs1.length
  have hs1' := hs1.mono Hws.out (Nat.le_refl _) Hws.out (Nat.le_refl _)
  have hn400 := rchL_len [S]
  rw [hl1] at hn400
  clear hs1 hb1
  have hp1 := orPlace_any a1 ao n1 n c1 cap _ xs w1 hs1'.at (h.keep hbw)
  have Hp1 := Lib.hid hp1; clear hp1
  have Hl1 := Lib.hid hl1; clear hl1
  go_wp2_with fail
  with_reducible refine (Hp1.out).mono ?_
  rintro e w2 ⟨r1, rfl, hpi1, hb2⟩
  have hbw2 := belowTrans hbw hb2 (Nat.le_refl _)
  have hs2 := (hs1'.keep hb2).mono (Nat.le_refl _) hb2.size (Nat.le_refl _) hb2.size
  clear hs1' hbw hb2
  rcases place_canB hpi1 with ⟨rfl, hc1⟩ | ⟨hr1, hc1⟩
  · have hm := Hmn.out (by rw [Hbb.out, hc1]; rfl)
    clear hs2
    have Hm := Lib.hid hm; clear hm
    have Hc1 := Lib.hid hc1; clear hc1
    have Hpi1 := Lib.hid hpi1; clear hpi1
    go_wp2
    go_ret2
    rw [Hm.out]
    exact ⟨none, 0, 0, rfl, Own.nil _ _ _, hbw2⟩
  have hp2 := orPlace_any a1 bo n1 m c1 cap' _ ys w2 hs2.at (h'.keep hbw2)
  have hr1n : ¬ (r1 < 0) := by omega
  have Hp2 := Lib.hid hp2; clear hp2
  have Hpi1 := Lib.hid hpi1; clear hpi1
  go_wp2_with fail
  with_reducible refine (Hp2.out).mono ?_
  rintro e w3 ⟨r2, rfl, hpi2, hb3⟩
  have hbw3 := belowTrans hbw2 hb3 (Nat.le_refl _)
  have hs3 := (hs2.keep hb3).mono (Nat.le_refl _) hb3.size (Nat.le_refl _) hb3.size
  clear hs2 hbw2 hb3
  rcases place_canB hpi2 with ⟨rfl, hc2⟩ | ⟨hr2, hc2⟩
  · have hm := Hmn.out (by rw [Hbb.out, hc1, hc2]; rfl)
    clear hs3
    have Hm := Lib.hid hm; clear hm
    have Hc2 := Lib.hid hc2; clear hc2
    have Hc1 := Lib.hid hc1; clear hc1
    have Hpi2 := Lib.hid hpi2; clear hpi2
    go_wp2
    go_ret2
    rw [Hm.out]
    exact ⟨none, 0, 0, rfl, Own.nil _ _ _, hbw3⟩
  have hm := Hmy.out (by rw [Hbb.out, hc1, hc2]; rfl)
  have hr2n : ¬ (r2 < 0) := by omega
  have hsd : ∀ x ∈ rchL [S], Sand x := fun x hx => rchL_sand hx
  generalize rchL [S] = L at *
  have hn8 : (n1 : Int) ≤ 400 := by omega
  have Hm := Lib.hid hm; clear hm
  have Hc1 := Lib.hid hc1; clear hc1
  have Hc2 := Lib.hid hc2; clear hc2
  have Hpi2 := Lib.hid hpi2; clear hpi2
  have Hsd := Lib.hid hsd; clear hsd
  go_wp2_with fail
  go_loopw [7, 52] (fun v i wr => ∃ (k : Nat) (a : Option Addr) (p c : Nat), k ≤ n1 ∧ i = .int .i64 k ∧ v = .slice a p c ∧ Own w.heap.size wr.heap.size wr a p c (lastBy (bothB xs ys) (L.take k)) ∧ Sp w.heap.size wr.heap.size w.heap.size wr.heap.size wr a1 n1 c1 vs1 L ∧ Below w.heap.size w wr) (fun _ i _ => n1 - (intOf i).toNat)
  case atStart => exact ⟨0, none, 0, 0, Nat.zero_le _, rfl, rfl, Own.nil _ _ _, hs3, hbw3⟩
  case round =>
    obtain ⟨k, a, p, c, hk, rfl, rfl, hown, hs, hb⟩ := hrel
    clear hs3 hbw3
    have hsz := hb.size
    by_cases hlt : k < n1
    · obtain ⟨b, oo, a3, m3, c3, rfl, hbl, hck, _, hrow⟩ := hs.getRow hlt
      have hS3 := Hsd.out _ (getD_memR hlt Hl1.out)
      have etk := take_snocX hlt Hl1.out
      generalize L.getD k [] = z at *
      have els := lastBy_snoc (bothB xs ys) (L.take k) z
      rw [← etk] at els
      have hre2 := saReach_any a3 m3 c3 z wr hrow.at hS3
      have hbz : bothB xs ys z = (canB z xs && canB z ys) := rfl
      have HS3 := Lib.hid hS3; clear hS3
      have Etk := Lib.hid etk; clear etk
      have Els := Lib.hid els; clear els
      have Hre2 := Lib.hid hre2; clear hre2
      have Hbz := Lib.hid hbz; clear hbz
      go_wp2_with fail
      with_reducible refine (Hre2.out).mono ?_
      rintro e w4 ⟨a4, n4, c4, vs4, rfl, hs4, hb4⟩
      have hbw4 := belowTrans hb hb4 (Nat.le_refl _)
      have hown4 := (hown.keep hb4).mono (Nat.le_refl _) hb4.size
      have hrow4 := (hrow.keep hb4).mono (Nat.le_refl _) hb4.size
      have hs4b := (hs.keep hb4).mono (Nat.le_refl _) hb4.size (Nat.le_refl _) hb4.size
      have hq1 := orPlace_any a4 ao n4 n c4 cap _ xs w4 hs4.at (h.keep hbw4)
      clear hown hrow hs hb hb4 hck
      have Hq1 := Lib.hid hq1; clear hq1
      go_wp2_with fail
      with_reducible refine (Hq1.out).mono ?_
      rintro e w5 ⟨r5, rfl, hpi5, hb5⟩
      have hbw5 := belowTrans hbw4 hb5 (Nat.le_refl _)
      have hown5 := (hown4.keep hb5).mono (Nat.le_refl _) hb5.size
      have hrow5 := (hrow4.keep hb5).mono (Nat.le_refl _) hb5.size
      have hs5b := (hs4b.keep hb5).mono (Nat.le_refl _) hb5.size (Nat.le_refl _) hb5.size
      have hs5 := hs4.keep hb5
      clear hown4 hrow4 hs4b hs4 hb5 hbw4
      rcases place_canB hpi5 with ⟨rfl, hc5⟩ | ⟨hr5, hc5⟩
      · have hno : bothB xs ys z = false := by rw [Hbz.out, hc5]; rfl
        rw [hno] at Els
        clear hs5
        have Hpi5 := Lib.hid hpi5; clear hpi5
        have Hc5 := Lib.hid hc5; clear hc5
        have Hno := Lib.hid hno; clear hno
        go_wp2
        go_roundw
        case rel => exact ⟨k + 1, a, p, c, by omega, by go_num, rfl, by rw [Els.out]; exact hown5, hs5b, hbw5⟩
        case measure => simp [intOf]; omega
      · have hr5n : ¬ (r5 < 0) := by omega
        have hq2 := orPlace_any a4 bo n4 m c4 cap' _ ys w5 hs5.at (h'.keep hbw5)
        clear hs5
        have Hq2 := Lib.hid hq2; clear hq2
        have Hpi5 := Lib.hid hpi5; clear hpi5
        go_wp2_with fail
        with_reducible refine (Hq2.out).mono ?_
        rintro e w6 ⟨r6, rfl, hpi6, hb6⟩
        have hbw6 := belowTrans hbw5 hb6 (Nat.le_refl _)
        have hown6 := (hown5.keep hb6).mono (Nat.le_refl _) hb6.size
        have hrow6 := (hrow5.keep hb6).mono (Nat.le_refl _) hb6.size
        have hs6b := (hs5b.keep hb6).mono (Nat.le_refl _) hb6.size (Nat.le_refl _) hb6.size
        clear hown5 hrow5 hs5b hb6 hbw5
        rcases place_canB hpi6 with ⟨rfl, hc6⟩ | ⟨hr6, hc6⟩
        · have hno : bothB xs ys z = false := by rw [Hbz.out, hc5, hc6]; rfl
          rw [hno] at Els
          clear hrow6
          have Hpi6 := Lib.hid hpi6; clear hpi6
          have Hc6 := Lib.hid hc6; clear hc6
          have Hno := Lib.hid hno; clear hno
          have Hc5 := Lib.hid hc5; clear hc5
          go_wp2
          go_roundw
          case rel => exact ⟨k + 1, a, p, c, by omega, by go_num, rfl, by rw [Els.out]; exact hown6, hs6b, hbw6⟩
          case measure => simp [intOf]; omega
        · have hyes : bothB xs ys z = true := by rw [Hbz.out, hc5, hc6]; rfl
          rw [hyes] at Els
          have hr6n : ¬ (r6 < 0) := by omega
          clear hown6
          have Hpi6 := Lib.hid hpi6; clear hpi6
          have Hc6 := Lib.hid hc6; clear hc6
          have Hyes := Lib.hid hyes; clear hyes
          have Hc5 := Lib.hid hc5; clear hc5
          go_wp2
          go_roundw
          case rel => exact ⟨k + 1, a3, m3, c3, by omega, by go_num, rfl, by rw [Els.out]; exact hrow6, hs6b, hbw6⟩
          case measure => simp [intOf]; omega
    · obtain rfl : n1 = k := by omega
      rw [take_allR Hl1.out, ← Hlow.out] at hown
      clear hs
      go_wp2
      go_ret2
      rw [Hm.out]
      exact ⟨_, _, _, rfl, hown, hb⟩
end Go.Proofs.Ythhhgmkjjagmaaa
