/- Chapter 3: PotentialsOf and NextDrop by the program. No condition. -/
import Derived.Test.YtmfdimdcoeapoaaGw
import Derived.Test.YtmfdimdcoeapoaaPlay
namespace Go.Proofs.Ytmfdimdcoeapoaa
open Go.RowKit
set_option linter.unusedVariables false
set_option linter.unusedSimpArgs false
set_option maxRecDepth 20000

set_option maxHeartbeats 1600000 in
set_option maxRecDepth 100000 in
theorem impl_PotentialsOf (ao : Option Addr) (n cap : Nat) (xs : List Int) (k : Int) (w : World) (h : IntsAt w ao n cap xs) :
    Calls Try.prog 10 #[.slice ao n cap, .int .i64 k] w fun e w' => ∃ ao' n' cap', e = .returned (.tuple #[.slice ao' n' cap', .bool (mPotentialsOf xs k).2]) ∧ Own w.heap.size w'.heap.size w' ao' n' cap' (mPotentialsOf xs k).1 ∧ Below w.heap.size w w' := by
  have hplay := impl_PlayOf ao n cap xs k w h
  by_cases hgk : goodB xs = true ∧ 0 ≤ k ∧ k ≤ 1000
  · obtain ⟨hg, hk⟩ := hgk
    obtain ⟨q, rfl⟩ := Int.eq_ofNat_of_zero_le hk.1
    have hq : q ≤ 1000 := by omega
    have hm := mPots_yes hg hq
    rw [mPlay_yes hg hq] at hplay
    have hG := good_iff.1 hg
    have hpl := playL_length q xs
    obtain ⟨i0, hi, hz0, hz1, hz2⟩ := info_parts Try.infoInt
    have hsl := potsL_length xs q
    have Hg := Lib.hid hg; clear hg
    have Hm := Lib.hid hm; clear hm
    have HG := Lib.hid hG; clear hG
    have Hplay := Lib.hid hplay; clear hplay
    clear h hk
    go_enter Try.func10, Try.ntmps10
    go_wp2_with fail
    with_reducible refine (Hplay.out).mono ?_
    rintro e w1 ⟨a1, m1, c1, rfl, hrows, hb⟩
    have hm1 : m1 = q + 1 := by have := hrows.length; omega
    subst hm1
    have hs1 := hb.size
    go_wp2_with (at_make; refine wpList_make_full w1 rfl _ _ _ rfl w1.heap.size 3 i0 _ 1 Try.underlying24 hi hz0 hz1 _ _ _ _ (q + 1) rfl rfl rfl rfl ?_ ?_ (Nat.le_refl _) ?_)
    · rw [hz2]; omega
    · unfold maxLen; omega
    intro w2 hown hgrow
    rw [madeZeros] at hown
    have ho : Own w1.heap.size w2.heap.size w2 (some ⟨w1.heap.size, 0, none⟩) (q + 1) (q + 1) (List.replicate (q + 1) 0) := Own.of hown
    have hb2 : Below w.heap.size w w2 := hb.grown hgrow hs1 (fun k hk => by cases hk)
    have hrows2 : OwnRows w.heap.size w1.heap.size w2 a1 (q + 1) c1 (playL q xs) := hrows.keep ((Below.refl _ _).grown hgrow (Nat.le_refl _) (fun k hk => by cases hk))
    clear hi hz0 hz1 hz2 hgrow hown hrows
    go_wp2_with fail
    go_loopw [24] (fun i wr => ∃ j : Nat, j ≤ q + 1 ∧ i = .int .i64 j ∧ Own w1.heap.size w2.heap.size wr (some ⟨w1.heap.size, 0, none⟩) (q + 1) (q + 1) ((potsL xs q).take j ++ List.replicate ((potsL xs q).length - j) 0) ∧ OwnRows w.heap.size w1.heap.size wr a1 (q + 1) c1 (playL q xs) ∧ w2.heap.size ≤ wr.heap.size ∧ Below w.heap.size w wr) (fun i _ => q + 1 - (intOf i).toNat)
    case atStart => exact ⟨0, Nat.zero_le _, rfl, by simpa [hsl] using ho, hrows2, Nat.le_refl _, hb2⟩
    case round =>
      obtain ⟨j, hj, rfl, hoj, hrj, hsj, hbj⟩ := hrel
      clear ho hrows2 hb2
      by_cases hlt : j < q + 1
      · obtain ⟨b, oo, rfl, hbl, hc⟩ := hrj.at.cell j (by omega)
        obtain ⟨a2, m2, c2, hck, hi2⟩ := hc j (by omega)
        clear hc
        rw [playL_getD q j xs (by omega)] at hi2
        have hcon := potentialOf_any a2 m2 c2 _ wr hi2 (stepsL_good HG.out j)
        have hp := potsL_getD xs (k := q) (i := j) (by omega)
        have hpr := pot_range (stepsL_good HG.out j)
        rw [← hp] at hcon hpr
        have hput := putLev (potsL xs q) j (by omega)
        clear hp
        generalize (potsL xs q).getD j 0 = y at *
        have Hcon := Lib.hid hcon; clear hcon
        have Hput := Lib.hid hput; clear hput
        go_wp2_with fail
        with_reducible refine (Hcon.out).mono ?_
        rintro e w3 ⟨rfl, hb3⟩
        have hs3 := hb3.size
        have ho3 := hoj.keep hb3
        have hr3 := hrj.keep hb3
        have hbw3 := belowTrans hbj hb3 (Nat.le_refl _)
        have hfz := ho3.frozenAt j
        have hcell := getD_cells ho3 j (by omega)
        have hst := ho3.set j y
        rw [Hput.out] at hst
        have hr4 : OwnRows w.heap.size w1.heap.size (w3.setCell ⟨w1.heap.size, j, none⟩ (.int .i64 y)) (some ⟨b, oo, none⟩) (q + 1) c1 (playL q xs) := hr3.chg (S := fun k => k = w1.heap.size) ((Chg.ofGrown hst.2).mono (fun k hk => by cases hk; rfl)) (fun g _ hg2 he => by omega)
        have hb4 := hbw3.setCell (p := ⟨w1.heap.size, j, none⟩) hs1 (.int .i64 y)
        generalize ((potsL xs q).take j ++ List.replicate ((potsL xs q).length - j) 0).getD j 0 = z at hcell
        have Hst := Lib.hid hst; clear hst
        have Ho3 := Lib.hid ho3; clear ho3
        have Hr3 := Lib.hid hr3; clear hr3
        have Hr4 := Lib.hid hr4; clear hr4
        have Hb4 := Lib.hid hb4; clear hb4
        have Hoj := Lib.hid hoj; clear hoj
        have Hrj := Lib.hid hrj; clear hrj
        clear hck hi2
        go_wp2_with fail
        go_roundw
        case rel => exact ⟨j + 1, by omega, valI (by omega), Hst.out.1, Hr4.out, by simp; omega, Hb4.out⟩
        case measure => simp [intOf]; omega
      · have hjn : j = q + 1 := by omega
        have e : (potsL xs q).take j ++ List.replicate ((potsL xs q).length - j) 0 = potsL xs q := by rw [hjn, hsl, List.take_of_length_le (by omega)]; simp
        rw [e] at hoj
        clear hjn
        go_wp2_with fail
        go_ret2
        rw [Hm.out]
        exact ⟨_, _, _, rfl, hoj.mono hs1 hsj, hbj⟩
  · have hm : mPotentialsOf xs k = ([], false) := by unfold mPotentialsOf; rw [if_neg hgk]
    have hmp : mPlayOf xs k = ([], false) := by unfold mPlayOf; rw [if_neg hgk]
    rw [hmp] at hplay
    have Hm := Lib.hid hm; clear hm
    have Hplay := Lib.hid hplay; clear hplay
    have Hgk := Lib.hid hgk; clear hgk
    clear h hmp
    go_enter Try.func10, Try.ntmps10
    go_wp2_with fail
    with_reducible refine (Hplay.out).mono ?_
    rintro e w1 ⟨a1, m1, c1, rfl, hrows, hb⟩
    go_wp2_with fail
    go_ret2
    rw [Hm.out]
    exact ⟨none, 0, 0, rfl, Own.nil _ _ _, hb⟩

set_option maxHeartbeats 1600000 in
theorem impl_NextDrop (ao : Option Addr) (n cap : Nat) (xs : List Int) (w : World) (h : IntsAt w ao n cap xs) :
    Calls Try.prog 36 #[.slice ao n cap] w fun e w' => e = .returned (.tuple #[.int .i64 (mNextDrop xs).1, .bool (mNextDrop xs).2]) ∧ Below w.heap.size w w' := by
  have hleast := impl_IsLeast ao n cap xs w h
  cases hg : goodB xs
  · have hm := mNext_no1 hg
    rw [mIsLeast_no hg] at hleast
    have Hg := Lib.hid hg; clear hg
    have Hm := Lib.hid hm; clear hm
    have Hleast := Lib.hid hleast; clear hleast
    go_enter Try.func36, Try.ntmps36
    go_wp2_with fail
    with_reducible refine (Hleast.out).mono ?_
    rintro e w1 ⟨rfl, hb⟩
    go_wp2_with fail
    go_ret2
    rw [Hm.out]
    exact ⟨rfl, hb⟩
  · rw [mIsLeast_yes hg] at hleast
    have hG := good_iff.1 hg
    by_cases hc : Cyc xs
    · have hm := mNext_no2 hc
      rw [show cycB xs = true from decide_eq_true hc] at hleast
      have Hg := Lib.hid hg; clear hg
      have Hm := Lib.hid hm; clear hm
      have Hleast := Lib.hid hleast; clear hleast
      have Hc := Lib.hid hc; clear hc
      go_enter Try.func36, Try.ntmps36
      go_wp2_with fail
      with_reducible refine (Hleast.out).mono ?_
      rintro e w1 ⟨rfl, hb⟩
      go_wp2_with fail
      go_ret2
      rw [Hm.out]
      exact ⟨rfl, hb⟩
    · have hm := mNext_yes hg hc
      rw [show cycB xs = false from decide_eq_false hc] at hleast
      have hlen := hG.len
      have hl := h.length
      have hcp := fun (w : World) (h : IntsAt w ao n cap xs) => copyOf_any ao n cap xs w h (by omega)
      have hnd := (nd_spec hG hc).2.2
      have Hg := Lib.hid hg; clear hg
      have Hm := Lib.hid hm; clear hm
      have Hleast := Lib.hid hleast; clear hleast
      have Hc := Lib.hid hc; clear hc
      have HG := Lib.hid hG; clear hG
      have Hcp := Lib.hid hcp; clear hcp
      have Hl := Lib.hid hl; clear hl
      go_enter Try.func36, Try.ntmps36
      go_wp2_with fail
      with_reducible refine (Hleast.out).mono ?_
      rintro e w1 ⟨rfl, hb⟩
      have h1 := h.keep hb
      clear h
      go_wp2_with fail
      with_reducible refine (Hcp.out _ h1).mono ?_
      rintro e w2 ⟨a2, c2, rfl, ho2, hb2⟩
      have hb12 := belowTrans hb hb2 (Nat.le_refl _)
      have ho2' := ho2.mono hb.size (Nat.le_refl _)
      clear ho2 hb hb2 h1
      go_wp2_with fail
      go_loopw [6, 7] (fun s p wr => ∃ (j : Nat) (a : Option Addr) (m c : Nat), s = .int .i64 (j + 1 : Nat) ∧ p = .slice a m c ∧ Own w.heap.size wr.heap.size wr a m c (stepsL j xs) ∧ (∀ r, r < j → dropL (stepsL r xs) = 0) ∧ Below w.heap.size w wr) (fun s _ _ => ndL xs + 1 - (intOf s).toNat)
      case atStart => exact ⟨0, a2, n, c2, rfl, rfl, ho2', fun r hr => by omega, hb12⟩
      case round =>
        obtain ⟨j, a, m, c, rfl, rfl, hown, hz, hbj⟩ := hrel
        have hGj := stepsL_good HG.out j
        have hdn := drop_next HG.out Hc.out hz
        have hd := dropOf_any a m c _ wr hown.at hGj
        have hstp := fun w h => stepOf_any a m c (stepsL j xs) w h hGj
        have hb0 := dropN_bound hGj (k := (stepsL j xs).length) (Nat.le_refl _)
        have hlj := hGj.len
        have hd0 : 0 ≤ dropL (stepsL j xs) := hb0.1
        clear hb0
        by_cases h0 : dropL (stepsL j xs) = 0
        · have hz2 : ∀ r, r < j + 1 → dropL (stepsL r xs) = 0 := fun r hr => by
            by_cases e : r = j
            · rw [e]; exact h0
            · exact hz r (by omega)
          have hlt := hdn.2.1 h0
          rw [h0] at hd
          have Hd := Lib.hid hd; clear hd
          have Hstp := Lib.hid hstp; clear hstp
          have Hz := Lib.hid hz; clear hz
          have Hz2 := Lib.hid hz2; clear hz2
          have Hdn := Lib.hid hdn; clear hdn
          have HGj := Lib.hid hGj; clear hGj
          have H0 := Lib.hid h0; clear h0
          go_wp2_with fail
          with_reducible refine (Hd.out).mono ?_
          rintro e w3 ⟨rfl, rfl⟩
          go_wp2_with fail
          with_reducible refine (Hstp.out _ hown.at).mono ?_
          rintro e w4 ⟨a4, m4, c4, rfl, ho4, hb4⟩
          go_wp2_with fail
          go_roundw
          case rel => exact ⟨j + 1, a4, m4, c4, valI (by omega), rfl, ho4.mono hbj.size (Nat.le_refl _), Hz2.out, belowTrans hbj hb4 (Nat.le_refl _)⟩
          case measure => simp [intOf]; omega
        · have hje := hdn.2.2 h0
          have hne1 : (dropL (stepsL j xs) == 0) = false := by simpa using h0
          have hne2 : decide (dropL (stepsL j xs) = 0) = false := decide_eq_false h0
          generalize dropL (stepsL j xs) = d at *
          have Hd := Lib.hid hd; clear hd
          have Hstp := Lib.hid hstp; clear hstp
          have Hz := Lib.hid hz; clear hz
          have Hdn := Lib.hid hdn; clear hdn
          have HGj := Lib.hid hGj; clear hGj
          have H0 := Lib.hid h0; clear h0
          have Hje := Lib.hid hje; clear hje
          go_wp2_with fail
          with_reducible refine (Hd.out).mono ?_
          rintro e w3 ⟨rfl, rfl⟩
          go_wp2_with fail
          go_ret2
          rw [Hm.out, ← Hje.out]
          exact ⟨rfl, hbj⟩
end Go.Proofs.Ytmfdimdcoeapoaa
