/- Chapter 2: tails and cycles by the program. No condition. -/
import Derived.Test.YthppkfhhidlpiaaGreatTail
import Derived.Test.YthppkfhhidlpiaaGreatRingF
namespace Go.Proofs.YthppkfhhidlpiaaGreat
open Go.RowKit
set_option linter.unusedVariables false
set_option linter.unusedSimpArgs false
set_option maxRecDepth 20000

theorem tail_least {xs : List Int} (hg : Good xs) {j : Nat} (h : ∀ i, i < j → ¬ Cyc (stepsL i xs)) : j ≤ tailL xs :=
  Nat.le_of_not_lt fun hl => h _ hl (tailL_spec hg).2.1

set_option maxHeartbeats 800000 in
theorem runToCycle_any (ao : Option Addr) (n cap : Nat) (xs : List Int) (w : World) (h : IntsAt w ao n cap xs) (hg : Good xs) :
    Calls Tryz.prog 54 #[.slice ao n cap] w fun e w' => e = .returned (.tuple #[.iface 79 (ringV (bitsL (endL xs))), .int .i64 (tailL xs)]) ∧ Below w.heap.size w w' := by
  have hcon := stateOf_any ao n cap xs w h hg
  have Hcon := Lib.hid hcon; clear hcon
  have Hg := Lib.hid hg; clear hg
  go_enter Tryz.func54, Tryz.ntmps54
  go_wp2_with fail
  with_reducible refine (Hcon.out).mono ?_
  rintro e w1 ⟨v, rfl, hst, hb1⟩
  go_wp2_with fail
  go_loopw [4, 5] (fun s t wr => ∃ (j : Nat), t = .int .i64 j ∧ StV wr s (stepsL j xs) ∧ (∀ i, i < j → ¬ Cyc (stepsL i xs)) ∧ Below w.heap.size w wr) (fun _ t _ => 3719 - (intOf t).toNat)
  case atStart => exact ⟨0, rfl, hst, fun i hi => by omega, hb1⟩
  case round =>
    obtain ⟨j, rfl, hst2, hno, hb⟩ := hrel
    have hG := stepsL_good Hg.out j
    have hjt := tail_least Hg.out hno
    have htl := (tailL_spec Hg.out).1
    rcases hst2 with ⟨hc, rfl⟩ | ⟨hc, a2, m2, c2, rfl, hi2⟩
    · have hj : tailL xs = j := tailL_unique Hg.out hc hno
      have hme := mRingCyc (bitsL (stepsL j xs))
      have HG := Lib.hid hG; clear hG
      have Hc := Lib.hid hc; clear hc
      have Hno := Lib.hid hno; clear hno
      have Hj := Lib.hid hj; clear hj
      clear hjt
      go_wp2_with fail
      with_reducible refine (ringCyc _ _).mono ?_
      rintro e w2 ⟨rfl, hb2⟩
      go_wp2_with fail
      go_ret2
      unfold endL
      rw [Hj.out]
      exact ⟨rfl, belowTrans hb hb2 (Nat.le_refl _)⟩
    · have hno2 : ∀ i, i < j + 1 → ¬ Cyc (stepsL i xs) := fun i hi => by
        by_cases e : i = j
        · subst e; exact hc
        · exact hno i (by omega)
      have hjt2 := tail_least Hg.out hno2
      have hme := mLooseCyc a2 m2 c2
      have hmn := mLooseNext a2 m2 c2
      have HG := Lib.hid hG; clear hG
      have Hc := Lib.hid hc; clear hc
      have Hno := Lib.hid hno; clear hno
      have Hno2 := Lib.hid hno2; clear hno2
      go_wp2_with fail
      with_reducible refine (looseCyc _ _ _ _).mono ?_
      rintro e w2 ⟨rfl, rfl⟩
      go_wp2_with fail
      with_reducible refine (looseNext_any _ _ _ _ _ hi2 HG.out).mono ?_
      rintro e w3 ⟨v3, rfl, hst3, hb3⟩
      go_wp2_with fail
      go_roundw
      case rel => exact ⟨j + 1, valI (by omega), hst3, Hno2.out, belowTrans hb hb3 (Nat.le_refl _)⟩
      case measure => simp [intOf]; omega

set_option maxHeartbeats 800000 in
theorem impl_TailOf (ao : Option Addr) (n cap : Nat) (xs : List Int) (w : World) (h : IntsAt w ao n cap xs) :
    Calls Tryz.prog 14 #[.slice ao n cap] w fun e w' => e = .returned (.tuple #[.int .i64 (mTailOf xs).1, .bool (mTailOf xs).2]) ∧ Below w.heap.size w w' := by
  cases hg : goodB xs
  · have hm := mTail_no hg
    have Hg := Lib.hid hg; clear hg
    have Hm := Lib.hid hm; clear hm
    go_enter Tryz.func14, Tryz.ntmps14
    go_wp2_with fail
    with_reducible refine (isPiles_no _ _ _ _ _ h Hg.out).mono ?_
    rintro e w' ⟨rfl, rfl⟩
    go_wp2
    go_ret2
    rw [Hm.out]
    exact ⟨rfl, Below.refl _ _⟩
  · have hm := mTail_yes hg
    have hG := good_iff.1 hg
    have Hg := Lib.hid hg; clear hg
    have Hm := Lib.hid hm; clear hm
    have HG := Lib.hid hG; clear hG
    go_enter Tryz.func14, Tryz.ntmps14
    go_wp2_with fail
    with_reducible refine (isPiles_yes _ _ _ _ _ h HG.out).mono ?_
    rintro e w' ⟨rfl, rfl⟩
    go_wp2_with fail
    with_reducible refine (runToCycle_any _ _ _ _ _ h HG.out).mono ?_
    rintro e w1 ⟨rfl, hb1⟩
    go_wp2_with fail
    go_ret2
    rw [Hm.out]
    exact ⟨rfl, hb1⟩

theorem ringPiles_of (xs : List Int) (w : World) (hc : Cyc xs) (hg : Good xs) :
    Calls Tryz.prog 70 #[ringV (bitsL xs)] w fun e w' => ∃ ao n cap, e = .returned (.slice ao n cap) ∧ Own w.heap.size w'.heap.size w' ao n cap xs ∧ Below w.heap.size w w' := by
  have := piles_any (bitsL xs) w (bitsL_isB hc) (by rw [bitsL_length]; have := hL_le xs; omega)
  rw [from_bits hg hc] at this
  exact this
theorem ringNext_of (xs : List Int) (w : World) (hc : Cyc xs) (hg : Good xs) :
    Calls Tryz.prog 189 #[ringV (bitsL xs)] w fun e w' => e = .returned (.iface 79 (ringV (bitsL (stepL xs)))) ∧ Below w.heap.size w w' := by
  refine (ringNext_any xs w hc hg).mono ?_
  rintro e w' ⟨v, rfl, hst, hb⟩
  rcases hst with ⟨_, rfl⟩ | ⟨hn, _⟩
  · exact ⟨rfl, hb⟩
  · exact absurd (cyc_step hg hc) hn

theorem equal_yes (ao bo : Option Addr) (n m cap cap' : Nat) (xs ys : List Int) (w : World) (hx : IntsAt w ao n cap xs) (hy : IntsAt w bo m cap' ys) (h : xs = ys) :
    Calls Tryz.prog 79 #[.slice ao n cap, .slice bo m cap'] w fun e w' => e = .returned (.bool true) ∧ Below w.heap.size w w' :=
  (equal_any ao bo n m cap cap' xs ys w hx hy).mono fun e w' ⟨a, q, b⟩ => ⟨by rw [a, decide_eq_true h], b ▸ belowDrewN (Below.refl _ _) q⟩
theorem equal_no (ao bo : Option Addr) (n m cap cap' : Nat) (xs ys : List Int) (w : World) (hx : IntsAt w ao n cap xs) (hy : IntsAt w bo m cap' ys) (h : ¬ xs = ys) :
    Calls Tryz.prog 79 #[.slice ao n cap, .slice bo m cap'] w fun e w' => e = .returned (.bool false) ∧ Below w.heap.size w w' :=
  (equal_any ao bo n m cap cap' xs ys w hx hy).mono fun e w' ⟨a, q, b⟩ => ⟨by rw [a, decide_eq_false h], b ▸ belowDrewN (Below.refl _ _) q⟩

set_option maxHeartbeats 1600000 in
theorem impl_CycleOf (ao : Option Addr) (n cap : Nat) (xs : List Int) (w : World) (h : IntsAt w ao n cap xs) :
    Calls Tryz.prog 114 #[.slice ao n cap] w fun e w' => ∃ ao' n' cap', e = .returned (.tuple #[.slice ao' n' cap', .bool (mCycleOf xs).2]) ∧ OwnRows w.heap.size w'.heap.size w' ao' n' cap' (mCycleOf xs).1 ∧ Below w.heap.size w w' := by
  cases hg : goodB xs
  · have hm := mCycle_no hg
    have Hg := Lib.hid hg; clear hg
    have Hm := Lib.hid hm; clear hm
    go_enter Tryz.func114, Tryz.ntmps114
    go_wp2_with fail
    with_reducible refine (isPiles_no _ _ _ _ _ h Hg.out).mono ?_
    rintro e w' ⟨rfl, rfl⟩
    go_wp2
    go_ret2
    rw [Hm.out]
    exact ⟨none, 0, 0, rfl, OwnRows.nil _ _ _, Below.refl _ _⟩
  · have hm := mCycle_yes hg
    have hG := good_iff.1 hg
    have hrun := runToCycle_any ao n cap xs w h hG
    have hzg := endL_good hG
    have hzc := endL_cyc hG
    unfold cycL at hm
    generalize endL xs = z at *
    have hper := perL_spec hzg hzc
    have hp7 := hL_le z
    have hmp := mRingPiles (bitsL z)
    have hmn := mRingNext (bitsL z)
    have Hg := Lib.hid hg; clear hg
    have Hm := Lib.hid hm; clear hm
    have HG := Lib.hid hG; clear hG
    have Hrun := Lib.hid hrun; clear hrun
    have Hzg := Lib.hid hzg; clear hzg
    have Hzc := Lib.hid hzc; clear hzc
    have Hper := Lib.hid hper; clear hper
    go_enter Tryz.func114, Tryz.ntmps114
    go_wp2_with fail
    with_reducible refine (isPiles_yes _ _ _ _ _ h HG.out).mono ?_
    rintro e w' ⟨rfl, rfl⟩
    go_wp2_with fail
    with_reducible refine (Hrun.out).mono ?_
    rintro e w1 ⟨rfl, hb1⟩
    go_wp2_with fail
    with_reducible refine (ringPiles_of z _ Hzc.out Hzg.out).mono ?_
    rintro e w2 ⟨a2, m2, c2, rfl, ho2, hb2⟩
    have hbw2 := belowTrans hb1 hb2 (Nat.le_refl _)
    have hone := OwnRows.one (ho2.mono hb1.size (Nat.le_refl _)) w.heap.size (Nat.le_refl _) hbw2.size (Nat.le_succ _)
    have hb3 := hbw2.alloc hbw2.size (.cells #[.slice a2 m2 c2] 27)
    clear ho2 hb2
    go_wp2_with fail
    with_reducible refine (ringNext_of z _ Hzc.out Hzg.out).mono ?_
    rintro e w4 ⟨rfl, hb4⟩
    have hs4 := hb4.size
    have hone4 := hone.keep hb4
    have hb5 := belowTrans hb3 hb4 (Nat.le_refl _)
    clear hmp hmn
    go_wp2_with fail
    go_loopw [4, 6] (fun s p wr => ∃ (q : Nat) (a : Option Addr) (c : Nat), 1 ≤ q ∧ q ≤ perL z ∧ s = .iface 79 (ringV (bitsL (stepsL q z))) ∧ p = .slice a q c ∧ OwnRows w.heap.size wr.heap.size wr a q c (runL z q) ∧ Below w.heap.size w wr) (fun _ p _ => 9 - lenOf p)
    case atStart => exact ⟨1, _, 1, Nat.le_refl _, Hper.out.1, rfl, rfl, hone4.mono (Nat.le_refl _) (by simp at hs4; omega), hb5⟩
    case round =>
      obtain ⟨q, a, c, hq1, hqp, rfl, rfl, hrows, hb⟩ := hrel
      clear hone4 hb5 hone hb3
      have hGq := stepsL_good Hzg.out q
      have hCq := cyc_steps Hzg.out Hzc.out q
      have hmp := mRingPiles (bitsL (stepsL q z))
      have hmn := mRingNext (bitsL (stepsL q z))
      obtain ⟨b, oo, rfl, hbl, hcell⟩ := hrows.at.cell 0 (by omega)
      obtain ⟨a6, m6, c6, hck, hi6⟩ := hcell 0 (by omega)
      clear hcell
      rw [runL_getD _ _ _ (by omega)] at hi6
      have hpi := fun w => ringPiles_of (stepsL q z) w hCq hGq
      have hrefl : Below wr.heap.size wr wr.drew := (Below.refl _ _).drew
      have HGq := Lib.hid hGq; clear hGq
      have HCq := Lib.hid hCq; clear hCq
      have Hpi := Lib.hid hpi; clear hpi
      have hck0 : ∀ w3 : World, Below wr.heap.size wr w3 → w3.cell? ⟨b, oo, none⟩ = some (.slice a6 m6 c6) := fun w3 hb3 => by
        rw [hb3.cell (p := ⟨b, oo, none⟩) hbl]; simpa using hck
      have hi60 : ∀ w3 : World, Below wr.heap.size wr w3 → IntsAt w3 a6 m6 c6 z := fun w3 hb3 => hi6.keep hb3
      clear hi6
      have hq0 : 0 < q := by omega
      have hckA : wr.cell? ⟨b, oo, none⟩ = some (.slice a6 m6 c6) := by simpa using hck
      clear hck
      have Hck0 := Lib.hid hck0; clear hck0
      have Hi60 := Lib.hid hi60; clear hi60
      by_cases heq : stepsL q z = z
      · have Heq := Lib.hid heq; clear heq
        go_wp2_with fail
        go_region_law (first | (go_simp; with_reducible refine (Hpi.out wr.drew).mono ?_; rintro e w3 ⟨a3, m3, c3, rfl, ho3, hb3⟩; have hbr3 : Below wr.heap.size wr w3 := belowTrans hrefl hb3 (Nat.le_refl _); have hck3 := Hck0.out w3 hbr3; have hi3 := Hi60.out w3 hbr3; have tokA : True := trivial) | (have _t := tokA; go_simp; with_reducible refine (equal_yes a3 a6 m3 m6 c3 c6 (stepsL q z) z w3 ho3.at hi3 Heq.out).mono ?_; rintro e w5 ⟨rfl, hb5⟩))
        all_goals
          have hbr5 := belowTrans hbr3 hb5 (Nat.le_refl _)
          have hrows5 := (hrows.keep hbr5).mono (Nat.le_refl _) hbr5.size
          have hbw5 := belowTrans hb hbr5 (Nat.le_refl _)
          have hqe : q = perL z := by
            apply Nat.le_antisymm hqp
            apply Nat.le_of_not_lt
            intro hl
            exact Hper.out.2.2.2 q hq0 hl Heq.out
          clear hrows hi3 ho3 hck3
          have Hqe := Lib.hid hqe; clear hqe
          go_wp2_with fail
          go_ret2
          rw [Hm.out]
          exact ⟨_, _, _, rfl, by rw [← Hqe.out]; exact hrows5, hbw5⟩
      · have Heq := Lib.hid heq; clear heq
        go_wp2_with fail
        go_region_law (first | (go_simp; with_reducible refine (Hpi.out wr.drew).mono ?_; rintro e w3 ⟨a3, m3, c3, rfl, ho3, hb3⟩; have hbr3 : Below wr.heap.size wr w3 := belowTrans hrefl hb3 (Nat.le_refl _); have hck3 := Hck0.out w3 hbr3; have hi3 := Hi60.out w3 hbr3; have tokA : True := trivial) | (have _t := tokA; go_simp; with_reducible refine (equal_no a3 a6 m3 m6 c3 c6 (stepsL q z) z w3 ho3.at hi3 Heq.out).mono ?_; rintro e w5 ⟨rfl, hb5⟩))
        all_goals
          have hbr5 := belowTrans hbr3 hb5 (Nat.le_refl _)
          have hrows5 := (hrows.keep hbr5).mono (Nat.le_refl _) hbr5.size
          have hbw5 := belowTrans hb hbr5 (Nat.le_refl _)
          have hqlt : q < perL z := by
            apply Nat.lt_of_le_of_ne hqp
            intro e
            exact Heq.out (by rw [e]; exact Hper.out.2.2.1)
          have hp8 : perL z ≤ 8 := by have := Hper.out.2.1; omega
          have hsucc := runL_succ z q
          clear hrows hi3 ho3 hck3
          have Hsucc := Lib.hid hsucc; clear hsucc
          go_wp2_with fail
          with_reducible refine (Hpi.out w5).mono ?_
          rintro e w6 ⟨a7, m7, c7, rfl, ho7, hb7⟩
          have hrows6 := hrows5.keep hb7
          have hbw6 := belowTrans hbw5 hb7 (Nat.le_refl _)
          clear hrows5
          go_wp2_with (at_builtin; refine wpList_pushR w6 rfl _ _ rfl w.heap.size w5.heap.size _ q c _ rfl hrows6 hb7.size a7 m7 c7 w5.heap.size _ ho7 hbw5.size ho7.ge rfl (by omega) hbw6.size ?_)
          intro a8 c8 w8 ho8 hc8
          have hb8 := hbw6.trans (hrows6.chgBelow hc8 hbw6.size)
          clear hrows6 hc8 ho7
          go_wp2_with fail
          with_reducible refine (ringNext_of (stepsL q z) _ HCq.out HGq.out).mono ?_
          rintro e w9 ⟨rfl, hb9⟩
          go_wp2_with fail
          go_roundw
          case rel => exact ⟨q + 1, a8, c8, by omega, by omega, rfl, rfl, by rw [Hsucc.out]; exact (ho8.keep hb9).mono (Nat.le_refl _) hb9.size, belowTrans hb8 hb9 (Nat.le_refl _)⟩
          case measure => simp [lenOf] <;> omega

set_option maxHeartbeats 800000 in
theorem impl_CycleLength (ao : Option Addr) (n cap : Nat) (xs : List Int) (w : World) (h : IntsAt w ao n cap xs) :
    Calls Tryz.prog 75 #[.slice ao n cap] w fun e w' => e = .returned (.tuple #[.int .i64 (mCycleLength xs).1, .bool (mCycleLength xs).2]) ∧ Below w.heap.size w w' := by
  have hcon := impl_CycleOf ao n cap xs w h
  cases hg : goodB xs
  · have hm := mCycleL_no hg
    rw [mCycle_no hg] at hcon
    have Hg := Lib.hid hg; clear hg
    have Hm := Lib.hid hm; clear hm
    have Hcon := Lib.hid hcon; clear hcon
    go_enter Tryz.func75, Tryz.ntmps75
    go_wp2_with fail
    with_reducible refine (Hcon.out).mono ?_
    rintro e w1 ⟨a1, m1, c1, rfl, ho1, hb1⟩
    have hl : m1 = 0 := by have := ho1.length; simpa using this.symm
    subst hl
    go_wp2_with fail
    go_ret2
    rw [Hm.out]
    exact ⟨rfl, hb1⟩
  · have hm := mCycleL_yes hg
    rw [mCycle_yes hg] at hcon
    have Hg := Lib.hid hg; clear hg
    have Hm := Lib.hid hm; clear hm
    have Hcon := Lib.hid hcon; clear hcon
    go_enter Tryz.func75, Tryz.ntmps75
    go_wp2_with fail
    with_reducible refine (Hcon.out).mono ?_
    rintro e w1 ⟨a1, m1, c1, rfl, ho1, hb1⟩
    have hl := ho1.length
    have Hl := Lib.hid hl; clear hl
    go_wp2_with fail
    go_ret2
    rw [Hm.out]
    exact ⟨by rw [← Hl.out]; rfl, hb1⟩
end Go.Proofs.YthppkfhhidlpiaaGreat
