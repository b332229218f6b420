/- Chapter 2: MeetOfPlays. No condition. -/
import Derived.Test.YthppkfhhidlpiaaGa
import Derived.Test.YthppkfhhidlpiaaTailI
namespace Go.Proofs.Ythppkfhhidlpiaa
open Go.RowKit
set_option linter.unusedVariables false
set_option linter.unusedSimpArgs false
set_option maxRecDepth 20000

/-- what is asked of a state, whichever kind it is -/
theorem st_any {w : World} {v : Value} {xs : List Int} (h : StV w v xs) (hg : Good xs) : ∃ (T : TypeId) (u : Value) (fp fn fc : FuncId), v = .iface T u ∧
    (∀ w, (method 260 T u "loop.example/g01114/impl.piles").run Try.prog w = .ok (fp, u) w) ∧
    (∀ w, (method 260 T u "loop.example/g01114/impl.next").run Try.prog w = .ok (fn, u) w) ∧
    (∀ w, (method 260 T u "loop.example/g01114/impl.isCyclic").run Try.prog w = .ok (fc, u) w) ∧
    ((∀ args w, (callFunc fp args).run Try.prog w = .ok (.enter fp args) w) ∧ (∀ args w, (callFunc fn args).run Try.prog w = .ok (.enter fn args) w) ∧ (∀ args w, (callFunc fc args).run Try.prog w = .ok (.enter fc args) w)) ∧
    (∀ w', Below w.heap.size w w' → Calls Try.prog fp #[u] w' fun e w2 => ∃ ao n c, e = .returned (.slice ao n c) ∧ Own w'.heap.size w2.heap.size w2 ao n c xs ∧ Below w'.heap.size w' w2) ∧
    (∀ w', Below w.heap.size w w' → Calls Try.prog fn #[u] w' fun e w2 => ∃ v2, e = .returned v2 ∧ StV w2 v2 (stepL xs) ∧ Below w'.heap.size w' w2) ∧
    (∀ w', Below w.heap.size w w' → Calls Try.prog fc #[u] w' fun e w2 => e = .returned (.bool (cycB xs)) ∧ Below w'.heap.size w' w2) := by
  rcases h with ⟨hc, rfl⟩ | ⟨hc, ao, n, c, rfl, hi⟩
  · refine ⟨_, _, _, _, _, rfl, mRingPiles _, mRingNext _, mRingCyc _, ⟨(fun _ _ => by kernel_rfl), (fun _ _ => by kernel_rfl), (fun _ _ => by kernel_rfl)⟩, fun w' hb => ringPiles_of xs w' hc hg, fun w' hb => ringNext_any xs w' hc hg, fun w' hb => ?_⟩
    rw [cyc_iff.2 hc]; exact ringCyc _ w'
  · have hl := hi.length
    have hlen := hg.len
    refine ⟨_, _, _, _, _, rfl, mLoosePiles _ _ _, mLooseNext _ _ _, mLooseCyc _ _ _, ⟨(fun _ _ => by kernel_rfl), (fun _ _ => by kernel_rfl), (fun _ _ => by kernel_rfl)⟩, fun w' hb => loosePiles_any ao n c xs w' (hi.keep hb) (by omega), fun w' hb => looseNext_any ao n c xs w' (hi.keep hb) hg, fun w' hb => ?_⟩
    rw [cycBF hc]; exact callsBelow (looseCyc ao n c w')

set_option maxHeartbeats 1600000 in
theorem impl_MeetOfPlays (ao : Option Addr) (n cap : Nat) (xs : List Int) (bo : Option Addr) (m cap' : Nat) (ys : List Int) (w : World) (h : IntsAt w ao n cap xs) (h' : IntsAt w bo m cap' ys) :
    Calls Try.prog 61 #[.slice ao n cap, .slice bo m cap'] w fun e w' => e = .returned (.tuple #[.int .i64 (mMeetOfPlays xs ys).1, .bool (mMeetOfPlays xs ys).2]) ∧ Below w.heap.size w w' := by
  cases hg : goodB xs
  · have hm := mMeet_no1 (y := ys) hg
    have Hg := Lib.hid hg; clear hg
    have Hm := Lib.hid hm; clear hm
    go_enter Try.func61, Try.ntmps61
    go_wp2_with fail
    with_reducible refine (isPiles_no _ _ _ _ _ h Hg.out).mono ?_
    rintro e w' ⟨rfl, rfl⟩
    go_wp2
    go_ret2
    rw [Hm.out]
    exact ⟨rfl, Below.refl _ _⟩
  cases hg2 : goodB ys
  · have hm := mMeet_no2 (x := xs) hg2
    have hG := good_iff.1 hg
    have Hg := Lib.hid hg; clear hg
    have Hg2 := Lib.hid hg2; clear hg2
    have Hm := Lib.hid hm; clear hm
    have HG := Lib.hid hG; clear hG
    go_enter Try.func61, Try.ntmps61
    go_wp2_with fail
    with_reducible refine (isPiles_yes _ _ _ _ _ h HG.out).mono ?_
    rintro e w' ⟨rfl, rfl⟩
    go_wp2_with fail
    with_reducible refine (isPiles_no _ _ _ _ _ h' Hg2.out).mono ?_
    rintro e w' ⟨rfl, rfl⟩
    go_wp2
    go_ret2
    rw [Hm.out]
    exact ⟨rfl, Below.refl _ _⟩
  have hG := good_iff.1 hg
  have hG2 := good_iff.1 hg2
  have hsome := fun k => mMeet_yes (k := k) hg hg2
  have hnone := mMeet_none hg hg2
  have ht1 := tailL_spec hG
  have ht2 := tailL_spec hG2
  have Hg := Lib.hid hg; clear hg
  have Hg2 := Lib.hid hg2; clear hg2
  have HG := Lib.hid hG; clear hG
  have HG2 := Lib.hid hG2; clear hG2
  have Hsome := Lib.hid hsome; clear hsome
  have Hnone := Lib.hid hnone; clear hnone
  have Ht1 := Lib.hid ht1; clear ht1
  have Ht2 := Lib.hid ht2; clear ht2
  go_enter Try.func61, Try.ntmps61
  go_wp2_with fail
  with_reducible refine (isPiles_yes _ _ _ _ _ h HG.out).mono ?_
  rintro e w' ⟨rfl, rfl⟩
  go_wp2_with fail
  with_reducible refine (isPiles_yes _ _ _ _ _ h' HG2.out).mono ?_
  rintro e w' ⟨rfl, rfl⟩
  go_wp2_with fail
  with_reducible refine (stateOf_any _ _ _ _ _ h HG.out).mono ?_
  rintro e w1 ⟨v1, rfl, hst1, hb1⟩
  have h2 := h'.keep hb1
  go_wp2_with fail
  with_reducible refine (stateOf_any _ _ _ _ _ h2 HG2.out).mono ?_
  rintro e w2 ⟨v2, rfl, hst2, hb2⟩
  have hst1' := hst1.keep hb2
  have hbw := belowTrans hb1 hb2 (Nat.le_refl _)
  clear hst1 hb1 hb2 h2 h h'
  go_wp2_with fail
  go_loopw [6, 7, 8] (fun s t i wr => ∃ j : Nat, i = .int .i64 j ∧ StV wr s (stepsL j xs) ∧ StV wr t (stepsL j ys) ∧ (∀ q, q < j → stepsL q xs ≠ stepsL q ys) ∧ j ≤ max (tailL xs) (tailL ys) ∧ Below w.heap.size w wr) (fun _ _ i _ => 3719 - (intOf i).toNat)
  case atStart => exact ⟨0, rfl, hst1', hst2, fun q hq => by omega, Nat.zero_le _, hbw⟩
  case round =>
    obtain ⟨j, rfl, hs1, hs2, hno, hjm, hb⟩ := hrel
    clear hst1' hst2 hbw
    have hGx := stepsL_good HG.out j
    have hGy := stepsL_good HG2.out j
    obtain ⟨T, u, fp, fn, fc, rfl, hp1, hn1, hc1, ⟨ep1, en1, ec1⟩, cp1, cn1, cc1⟩ := st_any hs1 hGx
    obtain ⟨T2, u2, fp2, fn2, fc2, rfl, hp2, hn2, hc2, ⟨ep2, en2, ec2⟩, cp2, cn2, cc2⟩ := st_any hs2 hGy
    have hj8 : j ≤ 3718 := by have := Ht1.out.1; have := Ht2.out.1; omega
    have HGx := Lib.hid hGx; clear hGx
    have HGy := Lib.hid hGy; clear hGy
    have Hno := Lib.hid hno; clear hno
    have Hjm := Lib.hid hjm; clear hjm
    have Hs1 := Lib.hid hs1; clear hs1
    have Hs2 := Lib.hid hs2; clear hs2
    have Cp1 := Lib.hid cp1; clear cp1
    have Cn1 := Lib.hid cn1; clear cn1
    have Cc1 := Lib.hid cc1; clear cc1
    have Cp2 := Lib.hid cp2; clear cp2
    have Cn2 := Lib.hid cn2; clear cn2
    have Cc2 := Lib.hid cc2; clear cc2
    go_wp2_with fail
    with_reducible refine (Cp1.out wr (Below.refl _ _)).mono ?_
    rintro e w3 ⟨a3, m3, c3, rfl, ho3, hb3⟩
    go_wp2_with fail
    with_reducible refine (Cp2.out w3 hb3).mono ?_
    rintro e w4 ⟨a4, m4, c4, rfl, ho4, hb4⟩
    have ho3' := ho3.keep hb4
    have hb4' := belowTrans hb3 hb4 (Nat.le_refl _)
    clear ho3
    by_cases heq : stepsL j xs = stepsL j ys
    · go_wp2_with fail
      with_reducible refine (equal_yes _ _ _ _ _ _ _ _ _ ho3'.at ho4.at heq).mono ?_
      rintro e w5 ⟨rfl, hb5⟩
      have hm := Hsome.out j (meet_some heq Hno.out hj8)
      have Heq := Lib.hid heq; clear heq
      have Hm := Lib.hid hm; clear hm
      go_wp2_with fail
      go_ret2
      rw [Hm.out]
      exact ⟨rfl, belowTrans (belowTrans hb hb4' (Nat.le_refl _)) hb5 (Nat.le_refl _)⟩
    · go_wp2_with fail
      with_reducible refine (equal_no _ _ _ _ _ _ _ _ _ ho3'.at ho4.at heq).mono ?_
      rintro e w5 ⟨rfl, hb5⟩
      have hb5' := belowTrans hb4' hb5 (Nat.le_refl _)
      have hno2 : ∀ q, q < j + 1 → stepsL q xs ≠ stepsL q ys := fun q hq => by
        by_cases e : q = j
        · subst e; exact heq
        · exact Hno.out q (by omega)
      clear ho3' ho4 hb4' hb4 hb3 hb5
      have Heq := Lib.hid heq; clear heq
      have Hno2 := Lib.hid hno2; clear hno2
      go_wp2_with fail
      with_reducible refine (Cc1.out w5 hb5').mono ?_
      rintro e w6 ⟨rfl, hb6⟩
      have hb6' := belowTrans hb5' hb6 (Nat.le_refl _)
      by_cases hcx : Cyc (stepsL j xs)
      · have hcb := cyc_iff.2 hcx
        by_cases hcy : Cyc (stepsL j ys)
        · have hcb2 := cyc_iff.2 hcy
          have hm := Hnone.out (meet_none (never_from HG.out HG2.out hcx hcy (fun i hi => Hno2.out i (by omega))))
          have Hcx := Lib.hid hcx; clear hcx
          have Hcy := Lib.hid hcy; clear hcy
          have Hm := Lib.hid hm; clear hm
          go_wp2_with fail
          with_reducible refine (Cc2.out w6 hb6').mono ?_
          rintro e w7 ⟨rfl, hb7⟩
          go_wp2_with fail
          go_ret2
          rw [Hm.out]
          exact ⟨rfl, belowTrans (belowTrans hb hb6' (Nat.le_refl _)) hb7 (Nat.le_refl _)⟩
        · have hcb2 := cycBF hcy
          have hjt : j + 1 ≤ max (tailL xs) (tailL ys) := by
            have : j < tailL ys := Nat.lt_of_not_le fun hle => hcy (cyc_from HG2.out hle)
            omega
          have Hcx := Lib.hid hcx; clear hcx
          have Hcy := Lib.hid hcy; clear hcy
          go_wp2_with fail
          with_reducible refine (Cc2.out w6 hb6').mono ?_
          rintro e w7 ⟨rfl, hb7⟩
          have hb7' := belowTrans hb6' hb7 (Nat.le_refl _)
          go_wp2_with fail
          with_reducible refine (Cn1.out w7 hb7').mono ?_
          rintro e w8 ⟨v8, rfl, hst8, hb8⟩
          have hb8' := belowTrans hb7' hb8 (Nat.le_refl _)
          go_wp2_with fail
          with_reducible refine (Cn2.out w8 hb8').mono ?_
          rintro e w9 ⟨v9, rfl, hst9, hb9⟩
          have hst8' := hst8.keep hb9
          go_wp2_with fail
          go_roundw
          case rel => exact ⟨j + 1, valI (by omega), hst8', hst9, Hno2.out, hjt, belowTrans (belowTrans hb hb8' (Nat.le_refl _)) hb9 (Nat.le_refl _)⟩
          case measure => simp [intOf]; omega
      · have hcb := cycBF hcx
        have hjt : j + 1 ≤ max (tailL xs) (tailL ys) := by
          have : j < tailL xs := Nat.lt_of_not_le fun hle => hcx (cyc_from HG.out hle)
          omega
        have Hcx := Lib.hid hcx; clear hcx
        go_wp2_with fail
        with_reducible refine (Cn1.out w6 hb6').mono ?_
        rintro e w8 ⟨v8, rfl, hst8, hb8⟩
        have hb8' := belowTrans hb6' hb8 (Nat.le_refl _)
        go_wp2_with fail
        with_reducible refine (Cn2.out w8 hb8').mono ?_
        rintro e w9 ⟨v9, rfl, hst9, hb9⟩
        have hst8' := hst8.keep hb9
        go_wp2_with fail
        go_roundw
        case rel => exact ⟨j + 1, valI (by omega), hst8', hst9, Hno2.out, hjt, belowTrans (belowTrans hb hb8' (Nat.le_refl _)) hb9 (Nat.le_refl _)⟩
        case measure => simp [intOf]; omega
end Go.Proofs.Ythppkfhhidlpiaa
