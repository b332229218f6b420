/- Chapter 4 by the program: gardens, pasts at some steps, trees. No condition. -/
import Derived.Test.YtaebdafjbkadlaaPaG
import Derived.Test.YtaebdafjbkadlaaSrtI
import Derived.Test.YtaebdafjbkadlaaAllI
import Derived.Test.YtaebdafjbkadlaaCycP
namespace Go.Proofs.Ytaebdafjbkadlaa
open Go.RowKit
set_option linter.unusedVariables false
set_option linter.unusedSimpArgs false
set_option maxRecDepth 20000

set_option maxHeartbeats 800000 in
theorem impl_IsGarden (ao : Option Addr) (n cap : Nat) (xs : List Int) (w : World) (h : IntsAt w ao n cap xs) :
    Calls Try.prog 26 #[.slice ao n cap] w fun e w' => e = .returned (.tuple #[.bool (mIsGarden xs).1, .bool (mIsGarden xs).2]) ∧ Below w.heap.size w w' := by
  cases hg : goodB xs
  · have hm := mGard_no hg
    have Hg := Lib.hid hg; clear hg
    have Hm := Lib.hid hm; clear hm
    go_enter Try.func26, Try.ntmps26
    go_wp2_with fail
    with_reducible refine (isPiles_no _ _ _ _ _ h Hg.out).mono ?_
    rintro e w' ⟨rfl, rfl⟩
    go_wp2
    go_ret2
    rw [Hm.out]
    exact ⟨rfl, Below.refl _ _⟩
  · have hm := mGard_yes hg
    have hG := good_iff.1 hg
    have hl := h.length
    have hlen := hG.len
    have hn28 : (n : Int) ≤ 28 := by omega
    by_cases hz : n = 0
    · have hxs : xs = [] := List.eq_nil_of_length_eq_zero (by omega)
      subst hz
      subst hxs
      have Hg := Lib.hid hg; clear hg
      have Hm := Lib.hid hm; clear hm
      have HG := Lib.hid hG; clear hG
      go_enter Try.func26, Try.ntmps26
      go_wp2_with fail
      with_reducible refine (isPiles_yes _ _ _ _ _ h HG.out).mono ?_
      rintro e w' ⟨rfl, rfl⟩
      go_wp2
      go_ret2
      rw [Hm.out]
      exact ⟨rfl, Below.refl _ _⟩
    · have hcon := isPiles_yes _ _ _ _ _ h hG
      obtain ⟨b, o, rfl, hb, hc⟩ := h.cell 0 (by omega)
      have hck := hc 0 (by omega)
      rw [Nat.add_zero] at hck
      generalize hx : xs.getD 0 0 = x at hck
      have hxm := hG.mem (getD_mem hx (show 0 < n by omega) hl)
      have e := gardB_eq hz hl hx
      have hpos : (0 : Int) < n := by omega
      clear hc h
      by_cases hlt : x < (n : Int) - 1
      · rw [decide_eq_true hlt] at e
        have hd : decide (x < (n : Int) - 1) = true := decide_eq_true hlt
        have Hx := Lib.hid hx; clear hx
        have Hl := Lib.hid hl; clear hl
        have Hg := Lib.hid hg; clear hg
        have Hm := Lib.hid hm; clear hm
        have HG := Lib.hid hG; clear hG
        have E := Lib.hid e; clear e
        have Hcon := Lib.hid hcon; clear hcon
        go_enter Try.func26, Try.ntmps26
        go_wp2_with fail
        with_reducible refine (Hcon.out).mono ?_
        rintro e w' ⟨rfl, rfl⟩
        go_wp2
        go_ret2
        rw [Hm.out, E.out]
        exact ⟨rfl, Below.refl _ _⟩
      · rw [decide_eq_false hlt] at e
        have hd : decide (x < (n : Int) - 1) = false := decide_eq_false hlt
        have Hx := Lib.hid hx; clear hx
        have Hl := Lib.hid hl; clear hl
        have Hg := Lib.hid hg; clear hg
        have Hm := Lib.hid hm; clear hm
        have HG := Lib.hid hG; clear hG
        have E := Lib.hid e; clear e
        have Hcon := Lib.hid hcon; clear hcon
        go_enter Try.func26, Try.ntmps26
        go_wp2_with fail
        with_reducible refine (Hcon.out).mono ?_
        rintro e w' ⟨rfl, rfl⟩
        go_wp2
        go_ret2
        rw [Hm.out, E.out]
        exact ⟨rfl, Below.refl _ _⟩

set_option maxHeartbeats 1600000 in
theorem impl_GardensOf (n : Int) (w : World) :
    Calls Try.prog 21 #[.int .i64 n] w fun e w' => ∃ ao' n' cap', e = .returned (.tuple #[.slice ao' n' cap', .bool (mGardensOf n).2]) ∧ OwnRows w.heap.size w'.heap.size w' ao' n' cap' (mGardensOf n).1 ∧ Below w.heap.size w w' := by
  have hcon := impl_AllPiles n w
  by_cases hn : 0 ≤ n ∧ n ≤ 28
  · obtain ⟨m, rfl⟩ := Int.eq_ofNat_of_zero_le hn.1
    have hm := mGards_yes m (by omega)
    rw [mAll_yes m (by omega)] at hcon
    have hG : ∀ x ∈ allL m, Good x := fun x hx => (allL_good (by omega) hx).1
    have hle := allL_le (n := m) (by omega)
    unfold gardL at hm
    generalize allL m = A at *
    have Hn := Lib.hid hn; clear hn
    have Hm := Lib.hid hm; clear hm
    have Hcon := Lib.hid hcon; clear hcon
    have HG := Lib.hid hG; clear hG
    go_enter Try.func21, Try.ntmps21
    go_wp2_with fail
    with_reducible refine (Hcon.out).mono ?_
    rintro e w1 ⟨a1, n1, c1, rfl, ho1, hb1⟩
    have hn1 := ho1.length
    have hs1 := hb1.size
    obtain ⟨avs, hsp, hap⟩ := ho1.sp
    have hvl := hsp.spine.length
    have hn8 : n1 ≤ 3718 := by omega
    clear ho1
    have Hn1 := Lib.hid hn1; clear hn1
    have Hap := Lib.hid hap; clear hap
    have Hvl := Lib.hid hvl; clear hvl
    go_wp2_with fail
    go_loopw [6, 20] (fun v i wr => ∃ (j : Nat) (a : Option Addr) (p c : Nat) (vs : List Value), j ≤ n1 ∧ p ≤ j ∧ i = .int .i64 j ∧ v = .slice a p c ∧ Sp w1.heap.size wr.heap.size w.heap.size w1.heap.size wr a p c vs ((A.take j).filter gardB) ∧ vs.Sublist (avs.take j) ∧ Below w1.heap.size w1 wr) (fun _ i _ => n1 - (intOf i).toNat)
    case atStart => exact ⟨0, none, 0, 0, [], Nat.zero_le _, Nat.le_refl _, rfl, rfl, Sp.nil _ _ _ _ _, List.Sublist.slnil, Below.refl _ _⟩
    case round =>
      obtain ⟨j, a, p, c, vs, hj, hp, rfl, rfl, hv, hsub, hb⟩ := hrel
      by_cases hlt : j < n1
      · obtain ⟨b, oo, a3, m3, c3, rfl, hbl, hck, hvv, hrow⟩ := (hsp.keep hb).getRow hlt
        have hg3 := HG.out _ (getD_memR hlt Hn1.out)
        have e := filter_snoc gardB (A.take j) (A.getD j [])
        rw [← take_snocX hlt Hn1.out] at e
        have ev : avs.take (j + 1) = avs.take j ++ [.slice a3 m3 c3] := by
          rw [← hvv, List.take_add_one, List.getElem?_eq_getElem (by rw [Hvl.out]; exact hlt), List.getD_eq_getElem?_getD, List.getElem?_eq_getElem (by rw [Hvl.out]; exact hlt)]; rfl
        generalize A.getD j [] = x at *
        have hcon := impl_IsGarden a3 m3 c3 x wr hrow.at
        rw [mGard_yes (good_iff.2 hg3)] at hcon
        cases hgb : gardB x
        · rw [hgb] at hcon
          simp only [hgb, Bool.false_eq_true, if_false, List.append_nil] at e
          have hsub2 : vs.Sublist (avs.take (j + 1)) := by rw [ev]; exact hsub.trans (List.sublist_append_left _ _)
          have Hcon := Lib.hid hcon; clear hcon
          have E := Lib.hid e; clear e
          have Hg3 := Lib.hid hg3; clear hg3
          have Hgb := Lib.hid hgb; clear hgb
          have Ev := Lib.hid ev; clear ev
          have Hvv := Lib.hid hvv; clear hvv
          have Hsub := Lib.hid hsub; clear hsub
          have Hsub2 := Lib.hid hsub2; clear hsub2
          go_wp2_with fail
          with_reducible refine (Hcon.out).mono ?_
          rintro e w2 ⟨rfl, hb2⟩
          have hs2 := hb2.size
          have hv2 := (hv.keep hb2).mono (Nat.le_refl _) hs2 (Nat.le_refl _) (Nat.le_refl _)
          have hb3 := belowTrans hb hb2 (Nat.le_refl _)
          clear hv hb hb2 hrow
          go_wp2
          go_roundw
          case rel => exact ⟨j + 1, a, p, c, vs, by omega, by omega, by go_num, rfl, by rw [E.out]; exact hv2, Hsub2.out, hb3⟩
          case measure => simp [intOf]; omega
        · rw [hgb] at hcon
          simp only [hgb, if_true] at e
          have hsub2 : (vs ++ [Value.slice a3 m3 c3]).Sublist (avs.take (j + 1)) := by rw [ev]; exact hsub.append_right _
          have Hcon := Lib.hid hcon; clear hcon
          have E := Lib.hid e; clear e
          have Hg3 := Lib.hid hg3; clear hg3
          have Hgb := Lib.hid hgb; clear hgb
          have Ev := Lib.hid ev; clear ev
          have Hvv := Lib.hid hvv; clear hvv
          have Hsub := Lib.hid hsub; clear hsub
          have Hsub2 := Lib.hid hsub2; clear hsub2
          go_wp2_with fail
          with_reducible refine (Hcon.out).mono ?_
          rintro e w2 ⟨rfl, hb2⟩
          have hs2 := hb2.size
          have hv2 := (hv.keep hb2).mono (Nat.le_refl _) hs2 (Nat.le_refl _) (Nat.le_refl _)
          have hrow2 := hrow.keep hb2
          have hb3 := belowTrans hb hb2 (Nat.le_refl _)
          clear hv hb hb2 hrow
          go_wp2_with (at_builtin; refine wpList_pushSp w2 rfl _ _ rfl w1.heap.size w2.heap.size w.heap.size w1.heap.size a p c vs _ rfl hv2 a3 m3 c3 x hrow2 rfl (by omega) hb3.size ?_)
          intro a4 c4 w4 hv4 hc4 _
          have hb4 := hb3.trans (hv2.below hc4 hb3.size)
          clear hv2 hc4 hb3
          go_wp2
          go_roundw
          case rel => exact ⟨j + 1, a4, p + 1, c4, _, by omega, by omega, by go_num, rfl, by rw [E.out]; exact hv4, Hsub2.out, hb4⟩
          case measure => simp [intOf]; omega
      · obtain rfl : n1 = j := by omega
        rw [take_allR Hn1.out] at hv
        have hs := hb.size
        have hap2 := Hap.out.sublist (hsub.trans (List.take_sublist _ _))
        have Hap2 := Lib.hid hap2; clear hap2
        have Hsub := Lib.hid hsub; clear hsub
        go_wp2
        go_ret2
        rw [Hm.out]
        exact ⟨_, _, _, rfl, hv.own Hap2.out (by omega) (by omega) (by omega) (by omega), belowTrans hb1 hb (Nat.le_refl _)⟩
  · have hm := mGards_no n hn
    rw [mAll_no n hn] at hcon
    have Hn := Lib.hid hn; clear hn
    have Hm := Lib.hid hm; clear hm
    have Hcon := Lib.hid hcon; clear hcon
    go_enter Try.func21, Try.ntmps21
    go_wp2_with fail
    with_reducible refine (Hcon.out).mono ?_
    rintro e w1 ⟨a1, n1, c1, rfl, ho1, hb1⟩
    go_wp2
    go_ret2
    rw [Hm.out]
    exact ⟨none, 0, 0, rfl, OwnRows.nil _ _ _, hb1⟩
theorem impl_CountGardens (n : Int) (w : World) :
    Calls Try.prog 23 #[.int .i64 n] w fun e w' => e = .returned (.tuple #[.int .i64 (mCountGardens n).1, .bool (mCountGardens n).2]) ∧ Below w.heap.size w w' := by
  have hcon := impl_GardensOf n w
  by_cases hn : 0 ≤ n ∧ n ≤ 28
  · obtain ⟨m, rfl⟩ := Int.eq_ofNat_of_zero_le hn.1
    have hm := mCGard_yes m (by omega)
    rw [mGards_yes m (by omega)] at hcon
    have Hn := Lib.hid hn; clear hn
    have Hm := Lib.hid hm; clear hm
    have Hcon := Lib.hid hcon; clear hcon
    go_enter Try.func23, Try.ntmps23
    go_wp2_with fail
    with_reducible refine (Hcon.out).mono ?_
    rintro e w1 ⟨a1, n1, c1, rfl, ho1, hb1⟩
    have hl1 := ho1.length
    have Hl1 := Lib.hid hl1; clear hl1
    go_wp2
    go_ret2
    rw [Hm.out]
    exact ⟨by rw [← Hl1.out]; rfl, hb1⟩
  · have hm := mCGard_no n hn
    rw [mGards_no n hn] at hcon
    have Hn := Lib.hid hn; clear hn
    have Hm := Lib.hid hm; clear hm
    have Hcon := Lib.hid hcon; clear hcon
    go_enter Try.func23, Try.ntmps23
    go_wp2_with fail
    with_reducible refine (Hcon.out).mono ?_
    rintro e w1 ⟨a1, n1, c1, rfl, ho1, hb1⟩
    have hl1 := ho1.length
    have Hl1 := Lib.hid hl1; clear hl1
    go_wp2
    go_ret2
    rw [Hm.out]
    exact ⟨by first | rfl | (rw [← Hl1.out]; rfl), hb1⟩

/-! ### Pasts at some steps -/
set_option maxHeartbeats 1600000 in
theorem impl_PastsAt (ao : Option Addr) (n cap : Nat) (xs : List Int) (k : Int) (w : World) (h : IntsAt w ao n cap xs) :
    Calls Try.prog 52 #[.slice ao n cap, .int .i64 k] w fun e w' => ∃ ao' n' cap', e = .returned (.tuple #[.slice ao' n' cap', .bool (mPastsAt xs k).2]) ∧ OwnRows w.heap.size w'.heap.size w' ao' n' cap' (mPastsAt xs k).1 ∧ Below w.heap.size w w' := by
  cases hg : goodB xs
  · have hm := mPA_no1 (k := k) hg
    have Hg := Lib.hid hg; clear hg
    have Hm := Lib.hid hm; clear hm
    go_enter Try.func52, Try.ntmps52
    go_wp2_with fail
    with_reducible refine (isPiles_no _ _ _ _ _ h Hg.out).mono ?_
    rintro e w' ⟨rfl, rfl⟩
    go_wp2
    go_ret2
    rw [Hm.out]
    exact ⟨none, 0, 0, rfl, OwnRows.nil _ _ _, Below.refl _ _⟩
  · by_cases hk : 0 ≤ k ∧ k ≤ 60
    · obtain ⟨q, rfl⟩ := Int.eq_ofNat_of_zero_le hk.1
      have hq : q ≤ 60 := by omega
      have hm := mPA_yes hg hq
      have hG := good_iff.1 hg
      have hl := h.length
      have hlen := hG.len
      have hcp := copyOf_any ao n cap xs w h (by omega)
      have hlv : ∀ j, j ≤ q → (∀ x ∈ lvW false [xs] j, Good x) ∧ (lvW false [xs] j).length ≤ 3718 := fun j _ => by
        rw [lvW_false]
        exact ⟨fun x hx => ((mem_lvA hG j x).1 hx).1, lvA_length hG j⟩
      have Hg := Lib.hid hg; clear hg
      have Hm := Lib.hid hm; clear hm
      have Hk := Lib.hid hk; clear hk
      have HG := Lib.hid hG; clear hG
      have Hl := Lib.hid hl; clear hl
      have Hcp := Lib.hid hcp; clear hcp
      have Hlv := Lib.hid hlv; clear hlv
      go_enter Try.func52, Try.ntmps52
      go_wp2_with fail
      with_reducible refine (isPiles_yes _ _ _ _ _ h HG.out).mono ?_
      rintro e w' ⟨rfl, rfl⟩
      go_wp2_with fail
      with_reducible refine (inRange_yes _ _ _ Hk.out).mono ?_
      rintro e w' ⟨rfl, rfl⟩
      go_wp2_with fail
      with_reducible refine (Hcp.out).mono ?_
      rintro e w1 ⟨a1, c1, rfl, ho1, hb1⟩
      have h1 := OwnRows.one ho1 w.heap.size (Nat.le_refl _) hb1.size (by omega)
      have h2 := h1.keep (belowAlloc _ (.cells #[.slice (some ⟨w1.heap.size, 0, none⟩) 1 1, wayF false] 66))
      have hba := (hb1.alloc hb1.size (.cells #[.slice a1 n c1] 31)).alloc (by have := hb1.size; simp only [World.size_alloc]; omega) (.cells #[.slice (some ⟨w1.heap.size, 0, none⟩) 1 1, wayF false] 66)
      have hcon := level_any false w.heap.size (some ⟨w1.heap.size, 0, none⟩) 1 1 [xs] q _ (h2.mono (Nat.le_refl _) (by simp only [World.size_alloc]; omega)) hba.size hq Hlv.out
      rw [lvW_false] at hcon
      clear h1 h2 ho1 hb1
      unfold treesV wayF wbV at hcon
      unfold wayF wbV at hba
      have Hcon := Lib.hid hcon; clear hcon
      have Hba := Lib.hid hba; clear hba
      go_wp2_with fail
      with_reducible refine (Hcon.out).mono ?_
      rintro e w2 ⟨a2, m2, c2, rfl, ho2, hb2⟩
      have hs2 := Nat.le_trans (Hba.out).size hb2.size
      have hlen2 := ho2.length
      have hll := lvA_length HG.out q
      have hcon2 := greatestFirst_any _ _ a2 m2 c2 _ w2 ho2 (by omega) hs2
      have Hcon2 := Lib.hid hcon2; clear hcon2
      have Hlen2 := Lib.hid hlen2; clear hlen2
      clear ho2
      go_wp2_with fail
      with_reducible refine (Hcon2.out).mono ?_
      rintro e w3 ⟨rfl, ho3, hb3⟩
      have hs3 := hb3.size
      have hbf := (belowTrans (Hba.out) hb2 (Nat.le_refl _)).trans hb3
      have Hbf := Lib.hid hbf; clear hbf
      go_wp2
      go_ret2
      rw [Hm.out]
      exact ⟨_, _, _, rfl, ho3.mono (Nat.le_refl _) hs3, Hbf.out⟩
    · have hm := mPA_no2 (xs := xs) hk
      have Hg := Lib.hid hg; clear hg
      have Hm := Lib.hid hm; clear hm
      have Hk := Lib.hid hk; clear hk
      go_enter Try.func52, Try.ntmps52
      go_wp2_with fail
      with_reducible refine (isPiles_yes _ _ _ _ _ h (good_iff.1 Hg.out)).mono ?_
      rintro e w' ⟨rfl, rfl⟩
      go_wp2_with fail
      with_reducible refine (inRange_no _ _ _ Hk.out).mono ?_
      rintro e w' ⟨rfl, rfl⟩
      go_wp2
      go_ret2
      rw [Hm.out]
      exact ⟨none, 0, 0, rfl, OwnRows.nil _ _ _, Below.refl _ _⟩
theorem impl_CountAt (ao : Option Addr) (n cap : Nat) (xs : List Int) (k : Int) (w : World) (h : IntsAt w ao n cap xs) :
    Calls Try.prog 55 #[.slice ao n cap, .int .i64 k] w fun e w' => e = .returned (.tuple #[.int .i64 (mCountAt xs k).1, .bool (mCountAt xs k).2]) ∧ Below w.heap.size w w' := by
  have hcon := impl_PastsAt ao n cap xs k w h
  have hm : mCountAt xs k = ((((mPastsAt xs k).1.length : Nat) : Int), (mPastsAt xs k).2) := by
    unfold mCountAt mPastsAt
    split <;> rfl
  rw [hm]
  generalize mPastsAt xs k = M at *
  obtain ⟨M1, M2⟩ := M
  have Hcon := Lib.hid hcon; clear hcon
  have Hm := Lib.hid hm; clear hm
  go_enter Try.func55, Try.ntmps55
  go_wp2_with fail
  with_reducible refine (Hcon.out).mono ?_
  rintro e w1 ⟨a1, n1, c1, rfl, ho1, hb1⟩
  have hl1 := ho1.length
  have Hl1 := Lib.hid hl1; clear hl1
  go_wp2
  go_ret2
  exact ⟨by rw [← Hl1.out]; rfl, hb1⟩

/-! ### Trees -/
theorem one_len {xs : List Int} (hg : Good xs) : ∀ x ∈ [xs], x.length ≤ 28 := fun x hx => by rw [List.mem_singleton.1 hx]; exact hg.len
/-- the levels of the tree of these piles, as each function makes them -/
theorem oneLevels (ao : Option Addr) (n cap : Nat) (xs : List Int) (w : World) (h : IntsAt w ao n cap xs) (hg : Good xs) :
    (Calls Try.prog 84 #[.slice (some ⟨w.heap.size, 0, none⟩) 1 1] (w.alloc (.cells #[.slice ao n cap] 31)) fun e w' => ∃ a c, e = .returned (treesV true a 1 c) ∧ OwnRows w.heap.size w'.heap.size w' a 1 c [xs] ∧ Below w.heap.size w w') ∧
    (∀ (w1 : World) (a : Option Addr) (c : Nat), OwnRows w.heap.size w1.heap.size w1 a 1 c [xs] → Below w.heap.size w w1 → Calls Try.prog 89 #[treesV true a 1 c] w1 fun e w' => ∃ a2 c2, e = .returned (.slice a2 (depN xs) c2) ∧ (∃ lvs vss, OwnRow w1.heap.size w'.heap.size w' 25 a2 (depN xs) c2 lvs ∧ LvX w.heap.size w'.heap.size w' lvs vss (levs [xs] (depN xs))) ∧ Below w.heap.size w w') := by
  obtain ⟨s, _, _, hr⟩ := roots_one hg
  constructor
  · refine (treesFrom_any _ _ _ [xs] _ (rowsAt_one h) (by omega) (one_len hg)).mono ?_
    rintro e w' ⟨a, c, he, ho, hb⟩
    exact ⟨a, c, he, ho.mono (by simp) (Nat.le_refl _), belowTrans (belowAlloc w _) hb (Nat.le_refl _)⟩
  · intro w1 a c ho hb
    refine (levels_any w.heap.size a 1 c [xs] s w1 ho hb.size hr (by simp)).mono ?_
    rintro e w' ⟨a2, c2, he, hx, hb2⟩
    exact ⟨a2, c2, he, hx, belowTrans hb hb2 (Nat.le_refl _)⟩
set_option maxHeartbeats 1600000 in
theorem impl_TreeOf (ao : Option Addr) (n cap : Nat) (xs : List Int) (w : World) (h : IntsAt w ao n cap xs) :
    Calls Try.prog 57 #[.slice ao n cap] w fun e w' => ∃ ao' n' cap', e = .returned (.tuple #[.slice ao' n' cap', .bool (mTreeOf xs).2]) ∧ OwnRows w.heap.size w'.heap.size w' ao' n' cap' (mTreeOf xs).1 ∧ Below w.heap.size w w' := by
  cases hg : goodB xs
  · have hm := mTree_no hg
    have Hg := Lib.hid hg; clear hg
    have Hm := Lib.hid hm; clear hm
    go_enter Try.func57, Try.ntmps57
    go_wp2_with fail
    with_reducible refine (isPiles_no _ _ _ _ _ h Hg.out).mono ?_
    rintro e w' ⟨rfl, rfl⟩
    go_wp2
    go_ret2
    rw [Hm.out]
    exact ⟨none, 0, 0, rfl, OwnRows.nil _ _ _, Below.refl _ _⟩
  · have hG := good_iff.1 hg
    have hm := mTree_yes hg
    obtain ⟨h1, h2⟩ := oneLevels ao n cap xs w h hG
    have hll := tree_len hG (depN xs)
    unfold treeL at hm
    generalize depN xs = N at *
    have Hg := Lib.hid hg; clear hg
    have Hm := Lib.hid hm; clear hm
    have HG := Lib.hid hG; clear hG
    have H1 := Lib.hid h1; clear h1
    have H2 := Lib.hid h2; clear h2
    go_enter Try.func57, Try.ntmps57
    go_wp2_with fail
    with_reducible refine (isPiles_yes _ _ _ _ _ h HG.out).mono ?_
    rintro e w' ⟨rfl, rfl⟩
    go_wp2_with fail
    with_reducible refine (H1.out).mono ?_
    rintro e w1 ⟨a1, c1, rfl, ho1, hb1⟩
    have hcon := H2.out w1 a1 c1 ho1 hb1
    have hs1 := hb1.size
    have Hcon := Lib.hid hcon; clear hcon
    clear ho1 hb1
    go_wp2_with fail
    with_reducible refine (Hcon.out).mono ?_
    rintro e w2 ⟨a2, c2, rfl, ⟨lvs, vss, hov, hlv⟩, hb2⟩
    have hs2 := hb2.size
    have hcon2 := concatL_any _ _ _ _ a2 N c2 lvs vss _ w2 hov hlv (by omega) hs2 (Nat.le_refl _)
    have Hcon2 := Lib.hid hcon2; clear hcon2
    clear hov hlv
    go_wp2_with fail
    with_reducible refine (Hcon2.out).mono ?_
    rintro e w3 ⟨a3, n3, c3, rfl, ho3, hb3⟩
    have hs3 := hb3.size
    have hl3 := ho3.length
    have hcon3 := greatestFirst_any _ _ a3 n3 c3 _ w3 ho3 (by omega) (by omega)
    have Hcon3 := Lib.hid hcon3; clear hcon3
    have Hl3 := Lib.hid hl3; clear hl3
    clear ho3
    go_wp2_with fail
    with_reducible refine (Hcon3.out).mono ?_
    rintro e w4 ⟨rfl, ho4, hb4⟩
    have hs4 := hb4.size
    have hbf := (belowTrans hb2 hb3 (Nat.le_refl _)).trans hb4
    have Hbf := Lib.hid hbf; clear hbf
    go_wp2
    go_ret2
    rw [Hm.out]
    exact ⟨_, _, _, rfl, ho4.mono (Nat.le_refl _) hs4, Hbf.out⟩
theorem impl_TreeSize (ao : Option Addr) (n cap : Nat) (xs : List Int) (w : World) (h : IntsAt w ao n cap xs) :
    Calls Try.prog 59 #[.slice ao n cap] w fun e w' => e = .returned (.tuple #[.int .i64 (mTreeSize xs).1, .bool (mTreeSize xs).2]) ∧ Below w.heap.size w w' := by
  have hcon := impl_TreeOf ao n cap xs w h
  have hm : mTreeSize xs = ((((mTreeOf xs).1.length : Nat) : Int), (mTreeOf xs).2) := by
    unfold mTreeSize mTreeOf
    split <;> rfl
  rw [hm]
  generalize mTreeOf xs = M at *
  obtain ⟨M1, M2⟩ := M
  have Hcon := Lib.hid hcon; clear hcon
  have Hm := Lib.hid hm; clear hm
  go_enter Try.func59, Try.ntmps59
  go_wp2_with fail
  with_reducible refine (Hcon.out).mono ?_
  rintro e w1 ⟨a1, n1, c1, rfl, ho1, hb1⟩
  have hl1 := ho1.length
  have Hl1 := Lib.hid hl1; clear hl1
  go_wp2
  go_ret2
  exact ⟨by rw [← Hl1.out]; rfl, hb1⟩
theorem impl_DepthOf (ao : Option Addr) (n cap : Nat) (xs : List Int) (w : World) (h : IntsAt w ao n cap xs) :
    Calls Try.prog 42 #[.slice ao n cap] w fun e w' => e = .returned (.tuple #[.int .i64 (mDepthOf xs).1, .bool (mDepthOf xs).2]) ∧ Below w.heap.size w w' := by
  cases hg : goodB xs
  · have hm := mDep_no hg
    have Hg := Lib.hid hg; clear hg
    have Hm := Lib.hid hm; clear hm
    go_enter Try.func42, Try.ntmps42
    go_wp2_with fail
    with_reducible refine (isPiles_no _ _ _ _ _ h Hg.out).mono ?_
    rintro e w' ⟨rfl, rfl⟩
    go_wp2
    go_ret2
    rw [Hm.out]
    exact ⟨rfl, Below.refl _ _⟩
  · have hG := good_iff.1 hg
    have hm := mDep_yes hg
    obtain ⟨h1, h2⟩ := oneLevels ao n cap xs w h hG
    have hN := (depN_spec hG).2.1
    generalize depN xs = N at *
    have Hg := Lib.hid hg; clear hg
    have Hm := Lib.hid hm; clear hm
    have HG := Lib.hid hG; clear hG
    have H1 := Lib.hid h1; clear h1
    have H2 := Lib.hid h2; clear h2
    go_enter Try.func42, Try.ntmps42
    go_wp2_with fail
    with_reducible refine (isPiles_yes _ _ _ _ _ h HG.out).mono ?_
    rintro e w' ⟨rfl, rfl⟩
    go_wp2_with fail
    with_reducible refine (H1.out).mono ?_
    rintro e w1 ⟨a1, c1, rfl, ho1, hb1⟩
    have hcon := H2.out w1 a1 c1 ho1 hb1
    have Hcon := Lib.hid hcon; clear hcon
    clear ho1 hb1
    go_wp2_with fail
    with_reducible refine (Hcon.out).mono ?_
    rintro e w2 ⟨a2, c2, rfl, ⟨lvs, vss, hov, hlv⟩, hb2⟩
    go_wp2
    go_ret2
    rw [Hm.out]
    exact ⟨rfl, hb2⟩
end Go.Proofs.Ytaebdafjbkadlaa
