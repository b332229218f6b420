/- Chapter 6: LowestOf by the program. No condition. -/
import Derived.Test.YthhhgmkjjagmaaaSaY
namespace Go.Proofs.Ythhhgmkjjagmaaa
open Go.RowKit
set_option linter.unusedVariables false
set_option linter.unusedSimpArgs false
set_option maxRecDepth 20000

set_option maxHeartbeats 6400000 in
theorem impl_LowestOf (ao : Option Addr) (n cap : Nat) (xs : List Int) (bo : Option Addr) (m cap' : Nat) (ys : List Int) (w : World) (h : IntsAt w ao n cap xs) (h' : IntsAt w bo m cap' ys) :
    Calls Try.prog 44 #[.slice ao n cap, .slice bo m cap'] w fun e w' => ∃ ao' n' cap', e = .returned (.tuple #[.slice ao' n' cap', .bool (mLowestOf xs ys).2]) ∧ Own w.heap.size w'.heap.size w' ao' n' cap' (mLowestOf xs ys).1 ∧ Below w.heap.size w w' := by
  by_cases hg : ¬ Sand xs
  · have hm := mLow_no (xs := xs) (ys := ys) (fun hh => hg hh.1)
    have hgb := sand_no.2 hg
    have Hg := Lib.hid hg; clear hg
    have Hm := Lib.hid hm; clear hm
    have Hgb := Lib.hid hgb; clear hgb
    go_enter Try.func44, Try.ntmps44
    go_wp2_with fail
    with_reducible refine (isSand_no _ _ _ _ _ h Hgb.out).mono ?_
    rintro e w' ⟨rfl, rfl⟩
    go_wp2
    go_ret2
    rw [Hm.out]
    exact ⟨none, 0, 0, rfl, Own.nil _ _ _, Below.refl _ _⟩
  replace hg := Classical.not_not.1 hg
  by_cases hg2 : ¬ Sand ys
  · have hm := mLow_no (xs := xs) (ys := ys) (fun hh => hg2 hh.2.1)
    have hgb := sand_no.2 hg2
    have Hg := Lib.hid hg; clear hg
    have Hm := Lib.hid hm; clear hm
    have Hgb := Lib.hid hgb; clear hgb
    have Hg2 := Lib.hid hg2; clear hg2
    go_enter Try.func44, Try.ntmps44
    go_wp2_with fail
    with_reducible refine (isSand_yes _ _ _ _ _ h Hg.out).mono ?_
    rintro e w' ⟨rfl, rfl⟩
    go_wp2_with fail
    with_reducible refine (isSand_no _ _ _ _ _ h' Hgb.out).mono ?_
    rintro e w' ⟨rfl, rfl⟩
    go_wp2
    go_ret2
    rw [Hm.out]
    exact ⟨none, 0, 0, rfl, Own.nil _ _ _, Below.refl _ _⟩
  replace hg2 := Classical.not_not.1 hg2
  have hl := h.length
  have hsx := sumOf_any ao n cap xs w h hg.good
  have hsy := sumOf_any bo m cap' ys w h' hg2.good
  have hx24 := hg.grains.2
  have hy24 := hg2.grains.2
  have hx0 := sum_nonneg hg.good.1
  have hy0 := sum_nonneg hg2.good.1
  by_cases hnil : xs = []
  · have hm := mLow_no (xs := xs) (ys := ys) (fun hh => hh.2.2.2.2.1 hnil)
    have hs0 : xs.sum = 0 := by rw [hnil]; rfl
    rw [hs0] at hsx
    have Hg := Lib.hid hg; clear hg
    have Hm := Lib.hid hm; clear hm
    have Hg2 := Lib.hid hg2; clear hg2
    have Hsx := Lib.hid hsx; clear hsx
    have Hsy := Lib.hid hsy; clear hsy
    have Hl := Lib.hid hl; clear hl
    have Hnil := Lib.hid hnil; clear hnil
    have Hs0 := Lib.hid hs0; clear hs0
    go_enter Try.func44, Try.ntmps44
    go_wp2_with fail
    with_reducible refine (isSand_yes _ _ _ _ _ h Hg.out).mono ?_
    rintro e w' ⟨rfl, rfl⟩
    go_wp2_with fail
    with_reducible refine (isSand_yes _ _ _ _ _ h' Hg2.out).mono ?_
    rintro e w' ⟨rfl, rfl⟩
    go_wp2_with fail
    with_reducible refine (Hsx.out).mono ?_
    rintro e w' ⟨rfl, rfl⟩
    go_wp2
    go_ret2
    rw [Hm.out]
    exact ⟨none, 0, 0, rfl, Own.nil _ _ _, Below.refl _ _⟩
  have hpos := sum_pos hg.good hnil
  by_cases h15 : ¬ (xs.sum ≤ 15)
  · have hm := mLow_no (xs := xs) (ys := ys) (fun hh => h15 hh.2.2.2.1)
    generalize xs.sum = S at *
    have hne : (S == 0) = false := by simp; omega
    have h15I : (15 : Int) < S := by omega
    have Hg := Lib.hid hg; clear hg
    have Hm := Lib.hid hm; clear hm
    have Hg2 := Lib.hid hg2; clear hg2
    have Hsx := Lib.hid hsx; clear hsx
    have Hsy := Lib.hid hsy; clear hsy
    have Hl := Lib.hid hl; clear hl
    have Hnil := Lib.hid hnil; clear hnil
    go_enter Try.func44, Try.ntmps44
    go_wp2_with fail
    with_reducible refine (isSand_yes _ _ _ _ _ h Hg.out).mono ?_
    rintro e w' ⟨rfl, rfl⟩
    go_wp2_with fail
    with_reducible refine (isSand_yes _ _ _ _ _ h' Hg2.out).mono ?_
    rintro e w' ⟨rfl, rfl⟩
    go_wp2_with fail
    with_reducible refine (Hsx.out).mono ?_
    rintro e w' ⟨rfl, rfl⟩
    go_wp2
    go_ret2
    rw [Hm.out]
    exact ⟨none, 0, 0, rfl, Own.nil _ _ _, Below.refl _ _⟩
  replace h15 := Classical.not_not.1 h15
  by_cases hss : ¬ (xs.sum = ys.sum)
  · have hm := mLow_no (xs := xs) (ys := ys) (fun hh => hss hh.2.2.1)
    generalize xs.sum = S at *
    generalize ys.sum = T at *
    have hne : (T != S) = true := by simpa using fun e => hss e.symm
    have hne0 : (S == 0) = false := by simp; omega
    have h15I : ¬ ((15 : Int) < S) := by omega
    have Hg := Lib.hid hg; clear hg
    have Hm := Lib.hid hm; clear hm
    have Hg2 := Lib.hid hg2; clear hg2
    have Hsx := Lib.hid hsx; clear hsx
    have Hsy := Lib.hid hsy; clear hsy
    have Hl := Lib.hid hl; clear hl
    have Hss := Lib.hid hss; clear hss
    have Hnil := Lib.hid hnil; clear hnil
    go_enter Try.func44, Try.ntmps44
    go_wp2_with fail
    with_reducible refine (isSand_yes _ _ _ _ _ h Hg.out).mono ?_
    rintro e w' ⟨rfl, rfl⟩
    go_wp2_with fail
    with_reducible refine (isSand_yes _ _ _ _ _ h' Hg2.out).mono ?_
    rintro e w' ⟨rfl, rfl⟩
    go_wp2_with fail
    with_reducible refine (Hsx.out).mono ?_
    rintro e w' ⟨rfl, rfl⟩
    go_wp2_with fail
    with_reducible refine (Hsy.out).mono ?_
    rintro e w' ⟨rfl, rfl⟩
    go_wp2
    go_ret2
    rw [Hm.out]
    exact ⟨none, 0, 0, rfl, Own.nil _ _ _, Below.refl _ _⟩
  replace hss := Classical.not_not.1 hss
  rw [← hss] at hsy
  have hone := one_sand hpos h15
  have hmy : bothB xs ys [xs.sum] = true → mLowestOf xs ys = (lowestL xs ys, true) := fun hb => mLow_yes ⟨hg, hg2, hss, h15, hnil, hb⟩
  have hmn : bothB xs ys [xs.sum] = false → mLowestOf xs ys = ([], false) := fun hb => mLow_no (fun hh => by have := hh.2.2.2.2.2; rw [hb] at this; cases this)
  have hlow : lowestL xs ys = lastBy (bothB xs ys) (rchL [xs.sum]) := rfl
  have hoc : oneCol xs.sum = [xs.sum] := by unfold oneCol; rw [if_neg (by omega)]
  have hup : ∀ c ∈ rchL [xs.sum], bothB xs ys c = true → bothB xs ys [xs.sum] = true := fun c hc hb => both_up hone hc hb
  have hself : bothB xs ys [xs.sum] = true → [xs.sum] ∈ rchL [xs.sum] := fun hb => both_self hb
  have hfst : (mReachSand [xs.sum]).1 = rchL [xs.sum] := by
    by_cases hok : okR [xs.sum]
    · rw [mReach_yes (sand_iff.2 hone) hok]
    · rw [mReach_no2 hok, rchL_no hok]
  have hn400 := rchL_len [xs.sum]
  have hsd : ∀ x ∈ rchL [xs.sum], Sand x := fun x hx => rchL_sand hx
  have hrb : ∀ c, Sand c → bothB xs ys c = (reaB c xs && reaB c ys) := fun c hc => by
    rw [reaB_yes (sand_iff.2 hc) (sand_iff.2 hg), reaB_yes (sand_iff.2 hc) (sand_iff.2 hg2)]; rfl
  have hsc := singleColumn_any xs.sum w
  rw [hoc] at hsc
  have hre := fun a n c W hW => impl_ReachSand a n c [xs.sum] W hW
  rw [hfst] at hre
  generalize (mReachSand [xs.sum]).2 = fb at *
  generalize rchL [xs.sum] = L at *
  generalize xs.sum = S at *
  have hne0 : (S == 0) = false := by simp; omega
  have hne : (S != S) = false := by simp
  have h15I : ¬ ((15 : Int) < S) := by omega
  have Hg := Lib.hid hg; clear hg
  have Hg2 := Lib.hid hg2; clear hg2
  have Hsx := Lib.hid hsx; clear hsx
  have Hsy := Lib.hid hsy; clear hsy
  have Hl := Lib.hid hl; clear hl
  have Hss := Lib.hid hss; clear hss
  have Hnil := Lib.hid hnil; clear hnil
  have Hone := Lib.hid hone; clear hone
  have Hmy := Lib.hid hmy; clear hmy
  have Hmn := Lib.hid hmn; clear hmn
  have Hlow := Lib.hid hlow; clear hlow
  have Hoc := Lib.hid hoc; clear hoc
  have Hup := Lib.hid hup; clear hup
  have Hself := Lib.hid hself; clear hself
  have Hfst := Lib.hid hfst; clear hfst
  have Hsd := Lib.hid hsd; clear hsd
  have Hrb := Lib.hid hrb; clear hrb
  have Hsc := Lib.hid hsc; clear hsc
  have Hre := Lib.hid hre; clear hre
  go_enter Try.func44, Try.ntmps44
  go_wp2_with fail
  with_reducible refine (isSand_yes _ _ _ _ _ h Hg.out).mono ?_
  rintro e w' ⟨rfl, rfl⟩
  go_wp2_with fail
  with_reducible refine (isSand_yes _ _ _ _ _ h' Hg2.out).mono ?_
  rintro e w' ⟨rfl, rfl⟩
  go_wp2_with fail
  with_reducible refine (Hsx.out).mono ?_
  rintro e w' ⟨rfl, rfl⟩
  go_wp2_with fail
  with_reducible refine (Hsy.out).mono ?_
  rintro e w' ⟨rfl, rfl⟩
  go_wp2_with fail
  with_reducible refine (Hsc.out).mono ?_
  rintro e w1 ⟨a1, n1, c1, rfl, ho1, hb1⟩
  have hre2 := Hre.out a1 n1 c1 w1 ho1.at
  clear ho1
  have Hre2 := Lib.hid hre2; clear hre2
  go_wp2_with fail
  with_reducible refine (Hre2.out).mono ?_
  rintro e w2 ⟨a2, n2, c2, rfl, ho2, hb2⟩
  have hl2 := ho2.length
  rw [hl2] at hn400
  have hn8 : (n2 : Int) ≤ 400 := by omega
  obtain ⟨vs, hs2, _⟩ := ho2.sp
  have hs2' := hs2.mono hb1.size (Nat.le_refl _) hb1.size (Nat.le_refl _)
  have hbw := belowTrans hb1 hb2 (Nat.le_refl _)
  have hd0 : ∀ x ∈ L.drop n2, bothB xs ys x = false := fun x hx => by rw [List.drop_of_length_le (by omega)] at hx; cases hx
  clear ho2 hs2 hb1 hb2
  have Hl2 := Lib.hid hl2; clear hl2
  go_wp2_with fail
  go_loopw [9] (fun i wr => ∃ k : Nat, k ≤ n2 ∧ i = .int .i64 ((k : Int) - 1) ∧ Hid (∀ x ∈ L.drop k, bothB xs ys x = false) ∧ Sp w.heap.size wr.heap.size w.heap.size wr.heap.size wr a2 n2 c2 vs L ∧ Below w.heap.size w wr) (fun i _ => (intOf i + 1).toNat)
  case atStart => exact ⟨n2, Nat.le_refl _, rfl, Lib.hid hd0, hs2', hbw⟩
  case round =>
    obtain ⟨k', hk, rfl, Hno, hs, hb⟩ := hrel
    clear hs2' hbw hd0
    by_cases hz : k' = 0
    · subst hz
      have hnone : bothB xs ys [S] = false := by
        cases hbb : bothB xs ys [S]
        · rfl
        · have := Hno.out [S] (by rw [List.drop_zero]; exact Hself.out hbb)
          rw [hbb] at this; cases this
      have hm := Hmn.out hnone
      clear hs
      have Hnone := Lib.hid hnone; clear hnone
      have Hm := Lib.hid hm; clear hm
      go_wp2
      go_ret2
      rw [Hm.out]
      exact ⟨none, 0, 0, rfl, Own.nil _ _ _, hb⟩
    · obtain ⟨k, rfl⟩ : ∃ k, k' = k + 1 := ⟨k' - 1, by omega⟩
      have hlt : k < n2 := by omega
      rw [show (((k + 1 : Nat)) : Int) - 1 = (k : Int) by omega]
      obtain ⟨b, oo, a3, m3, c3, rfl, hbl, hck, _, hrow⟩ := hs.getRow hlt
      have hmz := getD_memR hlt Hl2.out
      have hS3 := Hsd.out _ hmz
      have hla : bothB xs ys (L.getD k []) = true → lastBy (bothB xs ys) L = L.getD k [] := fun hp => lastBy_at (by rw [Hl2.out]; exact hlt) hp Hno.out
      have hdrop : L.drop k = L.getD k [] :: L.drop (k + 1) := by
        rw [List.getD_eq_getElem?_getD, List.getElem?_eq_getElem (by rw [Hl2.out]; exact hlt)]
        exact List.drop_eq_getElem_cons _
      generalize L.getD k [] = z at *
      have hbz := Hrb.out z hS3
      have hupz := Hup.out z hmz
      have hcon := reaches_any a3 m3 c3 z ao n cap xs wr hrow.at (h.keep hb)
      have hno2 : bothB xs ys z = false → ∀ x ∈ L.drop k, bothB xs ys x = false := fun hz x hx => by
        rw [hdrop] at hx
        rcases List.mem_cons.1 hx with rfl | h'
        · exact hz
        · exact Hno.out x h'
      cases hr1 : reaB z xs
      · rw [hr1] at hcon hbz
        have hno3 := hno2 (by rw [hbz]; rfl)
        clear hrow
        have Hcon := Lib.hid hcon; clear hcon
        have Hbz := Lib.hid hbz; clear hbz
        have HS3 := Lib.hid hS3; clear hS3
        have Hmz := Lib.hid hmz; clear hmz
        have Hla := Lib.hid hla; clear hla
        have Hdrop := Lib.hid hdrop; clear hdrop
        have Hupz := Lib.hid hupz; clear hupz
        have Hno2 := Lib.hid hno2; clear hno2
        have Hno3 := Lib.hid hno3; clear hno3
        have Hr1 := Lib.hid hr1; clear hr1
        go_wp2_with fail
        with_reducible refine (Hcon.out).mono ?_
        rintro e w4 ⟨rfl, hb4⟩
        have hbw4 := belowTrans hb hb4 (Nat.le_refl _)
        have hs4 := (hs.keep hb4).mono (Nat.le_refl _) hb4.size (Nat.le_refl _) hb4.size
        clear hs hck hb4 hb
        go_wp2
        go_roundw
        case rel => exact ⟨k, by omega, rfl, Hno3, hs4, hbw4⟩
        case measure => simp [intOf] <;> omega
      · rw [hr1] at hcon hbz
        have Hcon := Lib.hid hcon; clear hcon
        have Hbz := Lib.hid hbz; clear hbz
        have HS3 := Lib.hid hS3; clear hS3
        have Hmz := Lib.hid hmz; clear hmz
        have Hla := Lib.hid hla; clear hla
        have Hdrop := Lib.hid hdrop; clear hdrop
        have Hupz := Lib.hid hupz; clear hupz
        have Hno2 := Lib.hid hno2; clear hno2
        have Hr1 := Lib.hid hr1; clear hr1
        go_wp2_with fail
        with_reducible refine (Hcon.out).mono ?_
        rintro e w4 ⟨rfl, hb4⟩
        have hbw4 := belowTrans hb hb4 (Nat.le_refl _)
        have hs4 := (hs.keep hb4).mono (Nat.le_refl _) hb4.size (Nat.le_refl _) hb4.size
        have hrow4 := (hrow.keep hb4).mono (Nat.le_refl _) hb4.size
        have hck4 : w4.cell? ⟨b, oo + k, none⟩ = some (.slice a3 m3 c3) := by rw [hb4.cell (p := ⟨b, oo + k, none⟩) hbl]; exact hck
        have hbl4 : b < w4.heap.size := Nat.lt_of_lt_of_le hbl hb4.size
        have hcon2 := reaches_any a3 m3 c3 z bo m cap' ys w4 hrow4.at (h'.keep hbw4)
        clear hs hck hb4 hb hrow
        cases hr2 : reaB z ys
        · rw [hr2] at hcon2
          have hno3 := Hno2.out (by rw [Hbz.out, hr2]; rfl)
          clear hrow4
          have Hcon2 := Lib.hid hcon2; clear hcon2
          have Hno3 := Lib.hid hno3; clear hno3
          have Hr2 := Lib.hid hr2; clear hr2
          go_wp2_with fail
          with_reducible refine (Hcon2.out).mono ?_
          rintro e w5 ⟨rfl, hb5⟩
          have hbw5 := belowTrans hbw4 hb5 (Nat.le_refl _)
          have hs5 := (hs4.keep hb5).mono (Nat.le_refl _) hb5.size (Nat.le_refl _) hb5.size
          clear hs4 hck4 hb5 hbw4
          go_wp2
          go_roundw
          case rel => exact ⟨k, by omega, rfl, Hno3, hs5, hbw5⟩
          case measure => simp [intOf] <;> omega
        · rw [hr2] at hcon2
          have hyes : bothB xs ys z = true := by rw [Hbz.out, hr2]; rfl
          have hm := Hmy.out (Hupz.out hyes)
          have hlz := Hlow.out
          rw [Hla.out hyes] at hlz
          rw [hlz] at hm
          have Hcon2 := Lib.hid hcon2; clear hcon2
          have Hr2 := Lib.hid hr2; clear hr2
          have Hyes := Lib.hid hyes; clear hyes
          have Hm := Lib.hid hm; clear hm
          have Hlz := Lib.hid hlz; clear hlz
          go_wp2_with fail
          with_reducible refine (Hcon2.out).mono ?_
          rintro e w5 ⟨rfl, hb5⟩
          have hbw5 := belowTrans hbw4 hb5 (Nat.le_refl _)
          have hrow5 := (hrow4.keep hb5).mono (Nat.le_refl _) hb5.size
          have hck5 : w5.cell? ⟨b, oo + k, none⟩ = some (.slice a3 m3 c3) := by rw [hb5.cell (p := ⟨b, oo + k, none⟩) hbl4]; exact hck4
          clear hs4 hck4 hb5 hbw4 hrow4
          go_wp2
          go_ret2
          rw [Hm.out]
          exact ⟨_, _, _, rfl, hrow5, hbw5⟩
end Go.Proofs.Ythhhgmkjjagmaaa
