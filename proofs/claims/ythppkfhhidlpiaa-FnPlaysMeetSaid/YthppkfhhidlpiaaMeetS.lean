/- Chapter 2: MeetOfPlays by the model. No condition. -/
import Derived.Test.YthppkfhhidlpiaaMeet
namespace Go.Proofs.Ythppkfhhidlpiaa
open Go.RowKit
set_option linter.unusedVariables false
set_option linter.unusedSimpArgs false
set_option maxRecDepth 20000

theorem l1Most_any (a b : Nat) (w : World) :
    Calls Try.prog 137 #[.int .i64 a, .int .i64 b] w fun e w' => e = .returned (.int .i64 (max a b : Nat)) ∧ w = w' := by
  by_cases h : (b : Int) < a
  · have e : max a b = a := by omega
    rw [e]
    go_enter Try.func137, Try.ntmps137
    go_wp2
    go_ret
    exact ⟨rfl, rfl⟩
  · have e : max a b = b := by omega
    rw [e]
    go_enter Try.func137, Try.ntmps137
    go_wp2
    go_ret
    exact ⟨rfl, rfl⟩
theorem l1Same_yes (ao bo : Option Addr) (n m cap cap' : Nat) (xs ys : List Int) (w : World) (hx : IntsAt w ao n cap xs) (hy : IntsAt w bo m cap' ys) (h : xs = ys) :
    Calls Try.prog 138 #[.slice ao n cap, .slice bo m cap'] w fun e w' => e = .returned (.bool true) ∧ Below w.heap.size w w' :=
  (l1Same_any ao bo n m cap cap' xs ys w hx hy).mono fun e w' ⟨a, q, b⟩ => ⟨by rw [a, decide_eq_true h], b ▸ belowDrewN (Below.refl _ _) q⟩
theorem l1Same_no (ao bo : Option Addr) (n m cap cap' : Nat) (xs ys : List Int) (w : World) (hx : IntsAt w ao n cap xs) (hy : IntsAt w bo m cap' ys) (h : ¬ xs = ys) :
    Calls Try.prog 138 #[.slice ao n cap, .slice bo m cap'] w fun e w' => e = .returned (.bool false) ∧ Below w.heap.size w w' :=
  (l1Same_any ao bo n m cap cap' xs ys w hx hy).mono fun e w' ⟨a, q, b⟩ => ⟨by rw [a, decide_eq_false h], b ▸ belowDrewN (Below.refl _ _) q⟩

set_option maxHeartbeats 1600000 in
theorem spec_MeetOfPlays (ao : Option Addr) (n cap : Nat) (xs : List Int) (bo : Option Addr) (m cap' : Nat) (ys : List Int) (w : World) (h : IntsAt w ao n cap xs) (h' : IntsAt w bo m cap' ys) :
    Calls Try.prog 62 #[.slice ao n cap, .slice bo m cap'] w fun e w' => e = .returned (.tuple #[.int .i64 (mMeetOfPlays xs ys).1, .bool (mMeetOfPlays xs ys).2]) ∧ Below w.heap.size w w' := by
  cases hg : goodB xs
  · have hm := mMeet_no1 (y := ys) hg
    have Hg := Lib.hid hg; clear hg
    have Hm := Lib.hid hm; clear hm
    go_enter Try.func62, Try.ntmps62
    go_wp2_with fail
    with_reducible refine (piGood_no _ _ _ _ _ h Hg.out).mono ?_
    rintro e w' ⟨rfl, rfl⟩
    go_wp2
    go_ret2
    rw [Hm.out]
    exact ⟨rfl, Below.refl _ _⟩
  cases hg2 : goodB ys
  · have hm := mMeet_no2 (x := xs) hg2
    have hG := good_iff.1 hg
    have Hg := Lib.hid hg; clear hg
    have Hg2 := Lib.hid hg2; clear hg2
    have Hm := Lib.hid hm; clear hm
    have HG := Lib.hid hG; clear hG
    go_enter Try.func62, Try.ntmps62
    go_wp2_with fail
    with_reducible refine (piGood_yes _ _ _ _ _ h HG.out).mono ?_
    rintro e w' ⟨rfl, rfl⟩
    go_wp2_with fail
    with_reducible refine (piGood_no _ _ _ _ _ h' Hg2.out).mono ?_
    rintro e w' ⟨rfl, rfl⟩
    go_wp2
    go_ret2
    rw [Hm.out]
    exact ⟨rfl, Below.refl _ _⟩
  have hG := good_iff.1 hg
  have hG2 := good_iff.1 hg2
  have hs1 := piSum_any ao n cap xs w h hG
  have hs2 := piSum_any bo m cap' ys w h' hG2
  by_cases hsum : xs.sum = ys.sum
  · rw [hsum] at hs1
    have hsome := fun k => mMeet_yes (k := k) hg hg2
    have hnone := mMeet_none hg hg2
    have ht1 := tailL_spec hG
    have ht2 := tailL_spec hG2
    have hl8 := cycL_length hG
    have hlen1 := hG.len
    have hlen2 := hG2.len
    have hl1 := h.length
    have hl2 := h'.length
    have Hg := Lib.hid hg; clear hg
    have Hg2 := Lib.hid hg2; clear hg2
    have HG := Lib.hid hG; clear hG
    have HG2 := Lib.hid hG2; clear hG2
    have Hsome := Lib.hid hsome; clear hsome
    have Hnone := Lib.hid hnone; clear hnone
    have Hs1 := Lib.hid hs1; clear hs1
    have Hs2 := Lib.hid hs2; clear hs2
    have Hsum := Lib.hid hsum; clear hsum
    have Hl1 := Lib.hid hl1; clear hl1
    have Hl2 := Lib.hid hl2; clear hl2
    go_enter Try.func62, Try.ntmps62
    go_wp2_with fail
    with_reducible refine (piGood_yes _ _ _ _ _ h HG.out).mono ?_
    rintro e w' ⟨rfl, rfl⟩
    go_wp2_with fail
    with_reducible refine (piGood_yes _ _ _ _ _ h' HG2.out).mono ?_
    rintro e w' ⟨rfl, rfl⟩
    go_wp2_with fail
    with_reducible refine (Hs1.out).mono ?_
    rintro e w' ⟨rfl, rfl⟩
    go_wp2_with fail
    with_reducible refine (Hs2.out).mono ?_
    rintro e w' ⟨rfl, rfl⟩
    go_wp2_with fail
    with_reducible refine (orTail_any _ _ _ _ _ h HG.out).mono ?_
    rintro e w1 ⟨a1, m1, c1, rfl, hr1, hb1⟩
    have hml := hr1.length
    have hn1 := h.keep hb1
    have hn2 := h'.keep hb1
    clear hr1
    go_wp2_with fail
    with_reducible refine (orTail_any _ _ _ _ _ hn2 HG2.out).mono ?_
    rintro e w2 ⟨a2, m2, c2, rfl, hr2, hb2⟩
    have hn1' := hn1.keep hb2
    have hn2' := hn2.keep hb2
    have hbw := belowTrans hb1 hb2 (Nat.le_refl _)
    clear hr2 hn1 hn2 hb1 hb2
    go_wp2_with fail
    with_reducible refine (l1Own_any _ _ _ _ _ hn1' (by rw [← Hl1.out]; omega)).mono ?_
    rintro e w3 ⟨a3, c3, rfl, ho3, hb3⟩
    have hn2'' := hn2'.keep hb3
    have hbw3 := belowTrans hbw hb3 (Nat.le_refl _)
    have hx3 := ho3.at
    clear ho3 hn1' hn2' hbw
    go_wp2_with fail
    with_reducible refine (l1Own_any _ _ _ _ _ hn2'' (by rw [← Hl2.out]; omega)).mono ?_
    rintro e w4 ⟨a4, c4, rfl, ho4, hb4⟩
    have hbw4 := belowTrans hbw3 hb4 (Nat.le_refl _)
    have hx4 := hx3.keep hb4
    have hy4 := ho4.at
    clear ho4 hx3 hb4 hbw3 hb3
    generalize hT1 : tailL xs = T1 at *
    generalize hT2 : tailL ys = T2 at *
    have HT1 := Lib.hid hT1; clear hT1
    have HT2 := Lib.hid hT2; clear hT2
    go_wp2_with fail
    go_loopw [10, 11, 12] (fun x y i wr => ∃ (j : Nat) (p : Option Addr) (pn pc : Nat) (q : Option Addr) (qn qc : Nat), i = .int .i64 j ∧ x = .slice p pn pc ∧ y = .slice q qn qc ∧ IntsAt wr p pn pc (stepsL j xs) ∧ IntsAt wr q qn qc (stepsL j ys) ∧ (∀ i, i < j → stepsL i xs ≠ stepsL i ys) ∧ j ≤ max T1 T2 + m1 + 1 ∧ Below w.heap.size w wr) (fun _ _ i _ => 4000 - (intOf i).toNat)
    case atStart => exact ⟨0, _, _, _, _, _, _, rfl, rfl, rfl, hx4, hy4, fun q hq => by omega, by omega, hbw4⟩
    case round =>
      obtain ⟨j, p, pn, pc, q, qn, qc, rfl, rfl, rfl, hx, hy, hno, hjm, hb⟩ := hrel
      clear hx4 hy4 hbw4
      have hGx := stepsL_good HG.out j
      have hGy := stepsL_good HG2.out j
      have hm8 : m1 ≤ 8 := by omega
      have hT1' := ht1.1
      have hT2' := ht2.1
      have HGx := Lib.hid hGx; clear hGx
      have HGy := Lib.hid hGy; clear hGy
      have Hno := Lib.hid hno; clear hno
      go_wp2_with fail
      with_reducible refine (l1Most_any T1 T2 wr).mono ?_
      rintro e w' ⟨rfl, rfl⟩
      by_cases hle : j ≤ max T1 T2 + m1
      · have hle' : (j : Int) ≤ ((max T1 T2 : Nat) : Int) + m1 := by omega
        have hMX8 : max T1 T2 ≤ 3718 := by omega
        generalize hMX : max T1 T2 = MX at *
        go_wp2_with fail
        by_cases heq : stepsL j xs = stepsL j ys
        · with_reducible refine (l1Same_yes _ _ _ _ _ _ _ _ _ hx hy heq).mono ?_
          rintro e w5 ⟨rfl, hb5⟩
          have hj3 : j ≤ 3718 := by
            apply Nat.le_of_not_lt
            intro hl
            have hcx := cyc_from HG.out (k := 3718) (by rw [HT1.out]; omega)
            have hcy := cyc_from HG2.out (k := 3718) (by rw [HT2.out]; omega)
            exact never_from HG.out HG2.out hcx hcy (fun i hi => Hno.out i (by omega)) j heq
          have hm := Hsome.out j (meet_some heq Hno.out hj3)
          have Heq := Lib.hid heq; clear heq
          have Hm := Lib.hid hm; clear hm
          have HMX := Lib.hid hMX; clear hMX
          go_wp2_with fail
          go_ret2
          rw [Hm.out]
          exact ⟨rfl, belowTrans hb hb5 (Nat.le_refl _)⟩
        · with_reducible refine (l1Same_no _ _ _ _ _ _ _ _ _ hx hy heq).mono ?_
          rintro e w5 ⟨rfl, hb5⟩
          have hno2 : ∀ q, q < j + 1 → stepsL q xs ≠ stepsL q ys := fun q hq => by
            by_cases e : q = j
            · subst e; exact heq
            · exact Hno.out q (by omega)
          have hx5 := hx.keep hb5
          have hy5 := hy.keep hb5
          have hb5' := belowTrans hb hb5 (Nat.le_refl _)
          clear hx hy hb hb5
          have Heq := Lib.hid heq; clear heq
          have Hno2 := Lib.hid hno2; clear hno2
          have HMX := Lib.hid hMX; clear hMX
          go_wp2_with fail
          with_reducible refine (piStep_any _ _ _ _ _ hx5 HGx.out).mono ?_
          rintro e w6 ⟨a6, m6, c6, rfl, ho6, hb6⟩
          have hy6 := hy5.keep hb6
          have hx6 := ho6.at
          have hb6' := belowTrans hb5' hb6 (Nat.le_refl _)
          clear ho6
          go_wp2_with fail
          with_reducible refine (piStep_any _ _ _ _ _ hy6 HGy.out).mono ?_
          rintro e w7 ⟨a7, m7, c7, rfl, ho7, hb7⟩
          have hx7 := hx6.keep hb7
          go_wp2_with fail
          go_roundw
          case rel => exact ⟨j + 1, _, _, _, _, _, _, valI (by omega), rfl, rfl, hx7, ho7.at, Hno2.out, by have := HMX.out; omega, belowTrans hb6' hb7 (Nat.le_refl _)⟩
          case measure => simp [intOf]; omega
      · have hle' : ((max T1 T2 : Nat) : Int) + m1 < j := by omega
        have hcx := cyc_from HG.out (k := max T1 T2) (by rw [HT1.out]; omega)
        have hcy := cyc_from HG2.out (k := max T1 T2) (by rw [HT2.out]; omega)
        have hm := Hnone.out (meet_none (never_from HG.out HG2.out hcx hcy (fun i hi => Hno.out i (by omega))))
        have hMX8 : max T1 T2 ≤ 3718 := by omega
        generalize hMX : max T1 T2 = MX at *
        have Hm := Lib.hid hm; clear hm
        have Hcx := Lib.hid hcx; clear hcx
        have Hcy := Lib.hid hcy; clear hcy
        have HMX := Lib.hid hMX; clear hMX
        go_wp2_with fail
        go_ret2
        rw [Hm.out]
        exact ⟨rfl, hb⟩
  · have hm := mMeet_none hg hg2 (meet_none (sums_differ hG hG2 hsum))
    have hne : (xs.sum != ys.sum) = true := by simpa using hsum
    have Hg := Lib.hid hg; clear hg
    have Hg2 := Lib.hid hg2; clear hg2
    have HG := Lib.hid hG; clear hG
    have HG2 := Lib.hid hG2; clear hG2
    have Hm := Lib.hid hm; clear hm
    have Hs1 := Lib.hid hs1; clear hs1
    have Hs2 := Lib.hid hs2; clear hs2
    have Hsum := Lib.hid hsum; clear hsum
    go_enter Try.func62, Try.ntmps62
    go_wp2_with fail
    with_reducible refine (piGood_yes _ _ _ _ _ h HG.out).mono ?_
    rintro e w' ⟨rfl, rfl⟩
    go_wp2_with fail
    with_reducible refine (piGood_yes _ _ _ _ _ h' HG2.out).mono ?_
    rintro e w' ⟨rfl, rfl⟩
    go_wp2_with fail
    with_reducible refine (Hs1.out).mono ?_
    rintro e w' ⟨rfl, rfl⟩
    go_wp2_with fail
    with_reducible refine (Hs2.out).mono ?_
    rintro e w' ⟨rfl, rfl⟩
    go_wp2_with fail
    go_ret2
    rw [Hm.out]
    exact ⟨rfl, Below.refl _ _⟩
end Go.Proofs.Ythppkfhhidlpiaa
