/- Chapter 2: FirstOfCycles, CountCycles by the model. No condition. -/
import Derived.Test.YthppkfhhidlpiaaFirstI
import Derived.Test.YthppkfhhidlpiaaGa
import Derived.Test.YthppkfhhidlpiaaTail
namespace Go.Proofs.Ythppkfhhidlpiaa
open Go.RowKit
set_option linter.unusedVariables false
set_option linter.unusedSimpArgs false
set_option maxRecDepth 20000

set_option maxHeartbeats 1600000 in
theorem orTailO_any (ao : Option Addr) (n cap : Nat) (xs : List Int) (w : World) (h : IntsAt w ao n cap xs) (hg : Good xs) :
    Calls Try.prog 106 #[.slice ao n cap] w fun e w' => ∃ a m c, e = .returned (.tuple #[.int .i64 (tailL xs), .slice a m c]) ∧ RowsO w.heap.size w'.heap.size w' a m c (cycL xs) ∧ Below w.heap.size w w' := by
  have hlen := hg.len
  have hl := h.length
  have hcp := l1Own_any ao n cap xs w h (by omega)
  have Hg := Lib.hid hg; clear hg
  have Hcp := Lib.hid hcp; clear hcp
  have Hl := Lib.hid hl; clear hl
  go_enter Try.func106, Try.ntmps106
  go_wp2_with fail
  with_reducible refine (Hcp.out).mono ?_
  rintro e w1 ⟨a1, c1, rfl, ho1, hb1⟩
  go_wp2_with fail
  go_loopw [4, 5] (fun p v wr => ∃ (j E : Nat) (a : Option Addr) (c : Nat) (a2 : Option Addr) (m2 c2 : Nat), p = .slice a j c ∧ v = .slice a2 m2 c2 ∧ w.heap.size ≤ E ∧ E ≤ wr.heap.size ∧ OwnRows w.heap.size E wr a j c (runL xs j) ∧ Own E wr.heap.size wr a2 m2 c2 (stepsL j xs) ∧ (runL xs j).Nodup ∧ Below w.heap.size w wr) (fun p _ _ => 3719 - lenOf p)
  case atStart => exact ⟨0, w.heap.size, none, 0, a1, n, c1, rfl, rfl, Nat.le_refl _, hb1.size, OwnRows.nil _ _ _, ho1, List.nodup_nil, hb1⟩
  case round =>
    obtain ⟨j, E, a, c, a2, m2, c2, rfl, rfl, hE1, hE2, hrows, hown, hnd, hb⟩ := hrel
    have hshort := runL_short Hg.out hnd
    have hG := stepsL_good Hg.out j
    have Hnd := Lib.hid hnd; clear hnd
    have HG := Lib.hid hG; clear hG
    go_wp2_with fail
    with_reducible refine (orPlace_any _ _ _ _ _ _ _ _ _ hrows.at hown.at).mono ?_
    rintro e w2 ⟨r, rfl, hpl, hb2⟩
    have hbw := belowTrans hb hb2 (Nat.le_refl _)
    have hrows2 := hrows.keep hb2
    have hown2 := (hown.keep hb2).mono (Nat.le_refl _) hb2.size
    have hs2 := hb2.size
    rcases place_first hpl with ⟨rfl, hne⟩ | ⟨i, rfl, hi, he⟩
    · have hnd2 := runL_nodup_succ Hnd.out hne
      have hsucc := runL_succ xs j
      have hshort2 := runL_short Hg.out hnd2
      have Hnd2 := Lib.hid hnd2; clear hnd2
      have Hsucc := Lib.hid hsucc; clear hsucc
      have Hne := Lib.hid hne; clear hne
      clear hrows hown hpl hb2 hb
      go_wp2_with (at_builtin; refine wpList_pushR w2 rfl _ _ rfl w.heap.size E _ j c _ rfl hrows2 (by omega) a2 m2 c2 E _ hown2 hE1 hown2.ge rfl (by omega) hbw.size ?_)
      intro a4 c4 w4 ho4 hc4
      have hb4 := hbw.trans (hrows2.chgBelow hc4 hbw.size)
      have hs4 := hc4.size
      have hnow := (hown2.chg hc4 (fun g h1 h2 h3 h4 => by
        obtain ⟨vs, hv1, _⟩ := hrows2.vals
        have := hv1.2 g h4
        omega)).at
      clear hc4 hown2 hrows2
      go_wp2_with fail
      with_reducible refine (piStep_any _ _ _ _ _ hnow HG.out).mono ?_
      rintro e w5 ⟨a5, m5, c5, rfl, ho5, hb5⟩
      have hs5 := hb5.size
      go_wp2_with fail
      go_roundw
      case rel => exact ⟨j + 1, w4.heap.size, a4, c4, a5, m5, c5, rfl, rfl, by omega, hs5, by rw [Hsucc.out]; exact ho4.keep hb5, ho5, Hnd2.out, belowTrans hb4 hb5 (Nat.le_refl _)⟩
      case measure => simp [lenOf]; omega
    · obtain ⟨hti, hjp⟩ := first_again Hg.out hi he Hnd.out
      have Hti := Lib.hid hti; clear hti
      have Hjp := Lib.hid hjp; clear hjp
      clear hrows hown hpl hb2 hb
      go_wp2_with fail
      with_reducible refine (orPlace_any _ _ _ _ _ _ _ _ _ hrows2.at hown2.at).mono ?_
      rintro e w3 ⟨r, rfl, hpl, hb3⟩
      have hbw3 := belowTrans hbw hb3 (Nat.le_refl _)
      have hrows3 := hrows2.keep hb3
      rcases place_first hpl with ⟨rfl, hne⟩ | ⟨i2, rfl, hi2, he2⟩
      · exact absurd he (hne i hi)
      · have hti2 := (first_again Hg.out hi2 he2 Hnd.out).1
        have hi0 : (0 : Int) ≤ (i2 : Int) := by omega
        have hrr := rowsFromO hrows3 i2 hi2
        have hcne : ¬ c = i2 := by have := hrows3.at.le; omega
        have hcd := cycL_drop Hg.out
        rw [← hti2] at hcd
        have hj2 : j = i2 + perL (endL xs) := by have := Hjp.out; omega
        rw [← hj2] at hcd
        rw [hcd] at hrr
        have hfin := hrr.mono (Nat.le_refl w.heap.size) (show E ≤ w3.heap.size by have := hb3.size; omega)
        have Hti2 := Lib.hid hti2; clear hti2
        have Hj2 := Lib.hid hj2; clear hj2
        have Hcd := Lib.hid hcd; clear hcd
        have Hrr := Lib.hid hrr; clear hrr
        have Hrows3 := Lib.hid hrows3; clear hrows3
        have Hpl := Lib.hid hpl; clear hpl
        have He2 := Lib.hid he2; clear he2
        have He := Lib.hid he; clear he
        have Hfin := Lib.hid hfin; clear hfin
        go_wp2_with fail
        go_quiet (fail)
        go_wp2_with fail
        go_ret2
        rw [← Hti2.out]
        exact ⟨_, _, _, rfl, Hfin.out.drewN _, belowDrewN hbw3 _⟩


theorem choiceX_eq (n : Nat) : ∀ o, choiceX n o = choiceL n o := by
  induction n with
  | zero => intro o; rfl
  | succ n ih => intro o; simp only [choiceX, choiceL, ih]
theorem place_in {l : List (List Int)} {ys : List Int} {r : Int} (h : PlaceIs l ys r) : (r = -1 ∧ ys ∉ l) ∨ (0 ≤ r ∧ ys ∈ l) := by
  rcases h with ⟨h1, h2⟩ | ⟨i, h1, h2, h3, _⟩
  · exact .inl ⟨h1, h2⟩
  · refine .inr ⟨by omega, ?_⟩
    rw [← h3, List.getD_eq_getElem?_getD, List.getElem?_eq_getElem h2]
    exact List.getElem_mem _
theorem foldF_le (l : List (List Int)) : (foldF l).1.length ≤ l.length ∧ (foldF l).2.length ≤ 8 * l.length := by
  have key : ∀ (l : List (List Int)) (s : List (List Int) × List (List Int)), (l.foldl stepF s).1.length ≤ s.1.length + l.length ∧ (l.foldl stepF s).2.length ≤ s.2.length + 8 * l.length := by
    intro l
    induction l with
    | nil => intro s; simp
    | cons b l ih =>
      intro s
      have h := ih (stepF s b)
      have h1 : (stepF s b).1.length ≤ s.1.length + 1 ∧ (stepF s b).2.length ≤ s.2.length + 8 := by
        unfold stepF
        split
        · omega
        · simp only [List.length_append, List.length_singleton]
          have : (ringB b).length ≤ 8 := by
            unfold ringB perB
            rw [List.length_map, List.length_range]
            cases hf : (List.range 8).find? fun p => decide (rotN (p + 1) b = b) with
            | none => simp
            | some p =>
              have := List.mem_range.1 (List.mem_of_find?_eq_some hf)
              simp; omega
          omega
      simp only [List.foldl_cons, List.length_cons]
      omega
  have := key l ([], [])
  simpa [foldF] using this

set_option maxHeartbeats 3200000 in
theorem orFirsts_any (n : Nat) (w : World) (hn : n ≤ 28) :
    Calls Try.prog 129 #[.int .i64 n] w fun e w' => ∃ ao m c, e = .returned (.slice ao m c) ∧ RowsR w.heap.size w'.heap.size w' ao m c (firstsL n) ∧ Below w.heap.size w w' := by
  have hcon := orAll_any n w hn
  have hfe := firsts_eq n (by omega)
  rw [choiceX_eq] at hfe
  have hgb : ∀ bs ∈ choiceL (hgt n + 1) (n - tri (hgt n)), GB bs := fun bs hb => by
    obtain ⟨h1, h2, h3⟩ := choice_good n (by omega) bs hb
    exact ⟨(choice_row _ _ bs hb).2, h3, by omega⟩
  have hcl := choice_count n (by omega)
  unfold firstsL
  rw [← hfe]
  unfold allC at hcon
  generalize choiceL (hgt n + 1) (n - tri (hgt n)) = C at *
  have Hcon := Lib.hid hcon; clear hcon
  have Hgb := Lib.hid hgb; clear hgb
  have Hfe := Lib.hid hfe; clear hfe
  go_enter Try.func129, Try.ntmps129
  go_wp2_with fail
  with_reducible refine (Hcon.out).mono ?_
  rintro e w1 ⟨a1, n1, c1, rfl, ho1, hb1⟩
  have hn1 := ho1.length
  rw [List.length_map] at hn1
  rw [hn1] at hcl
  have Hn1 := Lib.hid hn1; clear hn1
  go_wp2_with fail
  go_loopw [3, 4, 12] (fun v s i wr => ∃ (j : Nat) (a : Option Addr) (p c : Nat) (a2 : Option Addr) (p2 c2 : Nat) (vs us : List Value), j ≤ n1 ∧ p ≤ 256 ∧ p2 ≤ 2048 ∧ i = .int .i64 j ∧ v = .slice a p c ∧ s = .slice a2 p2 c2 ∧
    OwnRow w1.heap.size wr.heap.size wr 24 a p c vs ∧ RowsW w.heap.size w1.heap.size wr vs ((foldF (C.take j)).1.map fromB) ∧
    OwnRow w1.heap.size wr.heap.size wr 24 a2 p2 c2 us ∧ RowsW w1.heap.size wr.heap.size wr us ((foldF (C.take j)).2.map fromB) ∧
    Hid (∀ g, (Value.slice a p c).ownBlock = some g → (Value.slice a2 p2 c2).ownBlock ≠ some g) ∧ Below w1.heap.size w1 wr) (fun _ _ i _ => n1 - (intOf i).toNat)
  case atStart => exact ⟨0, none, 0, 0, none, 0, 0, [], [], Nat.zero_le _, by omega, by omega, rfl, rfl, rfl, OwnRow.nil _ _ _ _, RowsW.nil _ _ _, OwnRow.nil _ _ _ _, RowsW.nil _ _ _, Lib.hid (fun g hg => by simp [Value.ownBlock] at hg), Below.refl _ _⟩
  case round =>
    obtain ⟨j, a, p, c, a2, p2, c2, vs, us, hj, hp, hp2, rfl, rfl, rfl, hov, hrv, hou, hru, hsep, hb⟩ := hrel
    by_cases hlt : j < n1
    · have hrs := ho1.keep hb
      obtain ⟨avs, hav, hrav⟩ := hrs.vals
      obtain ⟨bl, oo, rfl, hbl, hc⟩ := hav.at.cell j hlt
      obtain ⟨a3, m3, c3, e3, hrow3⟩ := hrav.row j (by rw [List.length_map, Hn1.out]; exact hlt)
      have hck := hc j hlt
      rw [e3] at hck
      have hmem : C.getD j [] ∈ C := by
        rw [List.getD_eq_getElem?_getD, List.getElem?_eq_getElem (by rw [Hn1.out]; exact hlt)]; exact List.getElem_mem _
      have hgm : (C.map fromB).getD j [] = fromB (C.getD j []) := by
        rw [List.getD_eq_getElem?_getD, List.getElem?_map, List.getElem?_eq_getElem (by rw [Hn1.out]; exact hlt), List.getD_eq_getElem?_getD, List.getElem?_eq_getElem (by rw [Hn1.out]; exact hlt)]; rfl
      rw [hgm] at hrow3
      have hG := Hgb.out _ hmem
      have htk := take_snocR (xs := C) (k := j) (n := n1) (x := C.getD j []) rfl hlt Hn1.out
      have hstep : foldF (C.take (j + 1)) = stepF (foldF (C.take j)) (C.getD j []) := by rw [htk, foldF_snoc]
      have hgbs := foldF_GB (l := C.take j) (fun x hx => Hgb.out x (List.mem_of_mem_take hx))
      generalize C.getD j [] = bs at *
      generalize hFo : foldF (C.take j) = F at *
      obtain ⟨fo, fs⟩ := F
      simp only at hrv hru hstep hgbs
      have hi3 := hrow3.at
      have hseenAt := hru.at hou.at
      clear hc hrs hav hrav
      have Hmem := Lib.hid hmem; clear hmem
      have Hgm := Lib.hid hgm; clear hgm
      have Htk := Lib.hid htk; clear htk
      have Hstep := Lib.hid hstep; clear hstep
      have HFo := Lib.hid hFo; clear hFo
      have E3 := Lib.hid e3; clear e3
      go_wp2_with fail
      with_reducible refine (orPlace_any _ _ _ _ _ _ _ _ _ hseenAt hi3).mono ?_
      rintro e w2 ⟨r, rfl, hpl, hb2⟩
      have hbw2 := belowTrans hb hb2 (Nat.le_refl _)
      have hs2 := hb2.size
      have hov2 := (OwnRow.keep hov hb2).mono (Nat.le_refl _) hs2
      have hrv2 := hrv.keep hb2
      have hou2 := (OwnRow.keep hou hb2).mono (Nat.le_refl _) hs2
      have hru2 := (hru.keep hb2).mono (Nat.le_refl _) hs2
      have hrow32 := hrow3.keep hb2
      clear hov hrv hou hru hrow3 hi3 hseenAt
      rcases place_in hpl with ⟨rfl, hnot⟩ | ⟨hr0, hin⟩
      · have hnb : bs ∉ fs := fun hm => hnot ((mem_bits hG hgbs.2).2 hm)
        have hstep2 : foldF (C.take (j + 1)) = (fo ++ [bs], fs ++ ringB bs) := by rw [Hstep.out]; unfold stepF; rw [if_neg hnb]
        have hcyc := cycle_bits hG
        have Hnb := Lib.hid hnb; clear hnb
        have Hstep2 := Lib.hid hstep2; clear hstep2
        have Hcyc := Lib.hid hcyc; clear hcyc
        have Hnot := Lib.hid hnot; clear hnot
        have Hpl := Lib.hid hpl; clear hpl
        go_wp2_with fail
        with_reducible refine (orTailO_any _ _ _ _ _ hrow32.at hG.good).mono ?_
        rintro e w3 ⟨a4, m4, c4, rfl, hro, hb3⟩
        obtain ⟨cvs, hcv, hcw⟩ := hro.ex
        rw [Hcyc.out] at hcw
        have hs3 := hb3.size
        have hbw3 := belowTrans hbw2 hb3 (Nat.le_refl _)
        have hov3 := (OwnRow.keep hov2 hb3).mono (Nat.le_refl _) hs3
        have hrv3 := hrv2.keep hb3
        have hou3 := (OwnRow.keep hou2 hb3).mono (Nat.le_refl _) hs3
        have hru3 := (hru2.keep hb3).mono (Nat.le_refl _) hs3
        have hrow33 := hrow32.keep hb3
        have hm4 := hcv.length
        have hm4' := hcw.length
        have hr8 : (ringB bs).length ≤ 8 ∧ 0 < (ringB bs).length := by
          have h1 := cycL_length hG.good
          rw [Hcyc.out, List.length_map] at h1
          refine ⟨h1, ?_⟩
          unfold ringB perB
          rw [List.length_map, List.length_range]; omega
        rw [List.length_map] at hm4'
        have hmm : 0 < m4 ∧ m4 ≤ 8 := by omega
        have hcw' := hcw.mono (show w1.heap.size ≤ w2.heap.size by have := hbw2.size; omega) (Nat.le_refl _)
        clear hov2 hrv2 hou2 hru2 hrow32 hro hb3
        have Hm4 := Lib.hid hm4; clear hm4
        have Hm4' := Lib.hid hm4'; clear hm4'
        have Hr8 := Lib.hid hr8; clear hr8
        go_wp2_with (at_builtin; refine wpList_catVX w3 rfl _ _ rfl w1.heap.size w3.heap.size a2 p2 c2 us rfl hou3 a4 m4 c4 cvs rfl hcv hcw'.oneCell (by omega) (by omega) hbw3.size ?_)
        intro a5 c5 w5 ho5 hc5 hnew5
        have hs5 := hc5.size
        have hb5 : Below w1.heap.size w1 w5 := hbw3.trans (hou3.chgBelow hc5 hbw3.size)
        have hru5 := ((hru3.append hcw').chgSpine hou3 hc5).mono (Nat.le_refl _) hs5
        have hrv5 := hrv3.chgSpine hou3 hc5
        have hov5 : OwnRow w1.heap.size w5.heap.size w5 24 a p c vs := (OwnRow.chg hov3 hc5 (fun g h1 h2 h3 h4 => hsep.out g h3 h4)).mono (Nat.le_refl _) hs5
        have hrow35 : Own w.heap.size w1.heap.size w5 a3 m3 c3 (fromB bs) := hrow33.chg hc5 (fun g h1 h2 h3 h4 => by
          have := (hou3.1.lt g h4).1; omega)
        have hsep5 : ∀ g, (Value.slice a p c).ownBlock = some g → (Value.slice a5 (p2 + m4) c5).ownBlock ≠ some g := fun g hg h5 => by
          rcases hnew5 g h5 with h' | h'
          · exact hsep.out g hg h'
          · have := hov3.2 g hg; omega
        have Hsep5 := Lib.hid hsep5; clear hsep5
        clear hou3 hru3 hrv3 hov3 hrow33 hc5 hnew5 hcv hcw hcw'
        go_wp2_with (at_builtin; refine wpList_pushVX w5 rfl _ _ 26 rfl 24 _ 24 Try.underlying26 Try.infoInts rfl (by decide) w1.heap.size w5.heap.size a p c vs rfl hov5 (.slice a3 m3 c3) rfl rfl (by omega) hb5.size ?_)
        intro a6 c6 w6 ho6 hc6 hnew6
        have hs6 := hc6.size
        have hb6 : Below w1.heap.size w1 w6 := hb5.trans (hov5.chgBelow hc6 hb5.size)
        have hrv6 := (hrv5.append (RowsW.one hrow35)).chgSpine hov5 hc6
        have hou6 : OwnRow w1.heap.size w6.heap.size w6 24 a5 (p2 + m4) c5 (us ++ cvs) := (OwnRow.chg ho5 hc6 (fun g h1 h2 h3 h4 => Hsep5.out g h4 h3)).mono (Nat.le_refl _) hs6
        have hru6 := (hru5.chgSpine hov5 hc6).mono (Nat.le_refl _) hs6
        have hsep6 : Hid (∀ g, (Value.slice a6 (p + 1) c6).ownBlock = some g → (Value.slice a5 (p2 + m4) c5).ownBlock ≠ some g) := Lib.hid (fun g hg h5 => by
          rcases hnew6 g hg with h' | h'
          · exact Hsep5.out g h' h5
          · have := ho5.2 g h5; omega)
        have hlens := foldF_le (C.take (j + 1))
        rw [Hstep2.out] at hlens
        have htl : (C.take (j + 1)).length ≤ 256 := by rw [List.length_take, Hn1.out]; omega
        have hvl := ho6.length
        have hvl2 := hrv6.length
        have hul := hou6.length
        have hul2 := hru6.length
        simp only [List.length_append, List.length_map, List.length_singleton] at hlens hvl hvl2 hul hul2
        have hpp : p + 1 ≤ 256 := by omega
        have hpp2 : p2 + m4 ≤ 2048 := by omega
        clear hov5 hrv5 ho5 hru5 hc6 hnew6 hrow35 hlens htl hvl hvl2 hul hul2
        go_wp2_with fail
        go_roundw
        case rel => exact ⟨j + 1, a6, p + 1, c6, a5, p2 + m4, c5, _, _, by omega, hpp, hpp2, by go_num, rfl, rfl, ho6, by rw [Hstep2.out, List.map_append]; exact hrv6, hou6, by rw [Hstep2.out, List.map_append]; exact hru6, hsep6, hb6⟩
        case measure => simp [intOf]; omega
      · have hyes : bs ∈ fs := (mem_bits hG hgbs.2).1 hin
        have hstep2 : foldF (C.take (j + 1)) = (fo, fs) := by rw [Hstep.out]; unfold stepF; rw [if_pos hyes]
        have Hyes := Lib.hid hyes; clear hyes
        have Hstep2 := Lib.hid hstep2; clear hstep2
        have Hin := Lib.hid hin; clear hin
        have Hpl := Lib.hid hpl; clear hpl
        go_wp2_with fail
        go_roundw
        case rel => exact ⟨j + 1, a, p, c, a2, p2, c2, vs, us, by omega, hp, hp2, by go_num, rfl, rfl, hov2, by rw [Hstep2.out]; exact hrv2, hou2, by rw [Hstep2.out]; exact hru2, hsep, hbw2⟩
        case measure => simp [intOf]; omega
    · obtain rfl : n1 = j := by omega
      rw [List.take_of_length_le (by rw [Hn1.out]; exact Nat.le_refl _)] at hrv
      go_wp2_with fail
      go_ret
      exact ⟨_, _, _, rfl, hrv.toR hov (Nat.le_refl _) hb.size hb1.size (Nat.le_refl _), belowTrans hb1 hb (Nat.le_refl _)⟩

theorem spec_FirstOfCycles (n : Int) (w : World) :
    Calls Try.prog 53 #[.int .i64 n] w fun e w' => ∃ ao' n' cap', e = .returned (.tuple #[.slice ao' n' cap', .bool (mFirstOfCycles n).2]) ∧ RowsR w.heap.size w'.heap.size w' ao' n' cap' (mFirstOfCycles n).1 ∧ Below w.heap.size w w' := by
  by_cases hn : 0 ≤ n ∧ n ≤ 28
  · have hin := hn
    obtain ⟨m, rfl⟩ := Int.eq_ofNat_of_zero_le hn.1
    have hm := mFirst_yes m (by omega)
    have hcon := orFirsts_any m w (by omega)
    have Hn := Lib.hid hn; clear hn
    have Hm := Lib.hid hm; clear hm
    have Hin := Lib.hid hin; clear hin
    have Hcon := Lib.hid hcon; clear hcon
    go_enter Try.func53, Try.ntmps53
    go_wp2_with fail
    with_reducible refine (piCards_yes _ _ Hin.out).mono ?_
    rintro e w' ⟨rfl, rfl⟩
    go_wp2_with fail
    with_reducible refine (Hcon.out).mono ?_
    rintro e w1 ⟨a1, m1, c1, rfl, ho1, hb1⟩
    go_wp2_with fail
    go_ret2
    rw [Hm.out]
    exact ⟨_, _, _, rfl, ho1, hb1⟩
  · have hm := mFirst_no n hn
    have Hn := Lib.hid hn; clear hn
    have Hm := Lib.hid hm; clear hm
    go_enter Try.func53, Try.ntmps53
    go_wp2_with fail
    with_reducible refine (piCards_no _ _ Hn.out).mono ?_
    rintro e w' ⟨rfl, rfl⟩
    go_wp2_with fail
    go_ret2
    rw [Hm.out]
    exact ⟨none, 0, 0, rfl, RowsR.nil _ _ _, Below.refl _ _⟩
theorem spec_CountCycles (n : Int) (w : World) :
    Calls Try.prog 51 #[.int .i64 n] w fun e w' => e = .returned (.tuple #[.int .i64 (mCountCycles n).1, .bool (mCountCycles n).2]) ∧ Below w.heap.size w w' := by
  by_cases hn : 0 ≤ n ∧ n ≤ 28
  · have hin := hn
    obtain ⟨m, rfl⟩ := Int.eq_ofNat_of_zero_le hn.1
    have hm := mCountC_yes m (by omega)
    have hcon := orFirsts_any m w (by omega)
    have Hn := Lib.hid hn; clear hn
    have Hm := Lib.hid hm; clear hm
    have Hin := Lib.hid hin; clear hin
    have Hcon := Lib.hid hcon; clear hcon
    go_enter Try.func51, Try.ntmps51
    go_wp2_with fail
    with_reducible refine (piCards_yes _ _ Hin.out).mono ?_
    rintro e w' ⟨rfl, rfl⟩
    go_wp2_with fail
    with_reducible refine (Hcon.out).mono ?_
    rintro e w1 ⟨a1, m1, c1, rfl, ho1, hb1⟩
    have hl := ho1.length
    have Hl := Lib.hid hl; clear hl
    go_wp2_with fail
    go_ret2
    rw [Hm.out, Hl.out]
    exact ⟨rfl, hb1⟩
  · have hm := mCountC_no n hn
    have Hn := Lib.hid hn; clear hn
    have Hm := Lib.hid hm; clear hm
    go_enter Try.func51, Try.ntmps51
    go_wp2_with fail
    with_reducible refine (piCards_no _ _ Hn.out).mono ?_
    rintro e w' ⟨rfl, rfl⟩
    go_wp2_with fail
    go_ret2
    rw [Hm.out]
    exact ⟨rfl, Below.refl _ _⟩
end Go.Proofs.Ythppkfhhidlpiaa
