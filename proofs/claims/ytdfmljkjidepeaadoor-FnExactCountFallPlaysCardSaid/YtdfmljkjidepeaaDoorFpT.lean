/- CountFallPlays by the specification: the call itself. No condition. -/
import Derived.Test.YtdfmljkjidepeaaDoorFpS
namespace Go.Proofs.YtdfmljkjidepeaaDoor
open Go.RowKit
set_option linter.unusedVariables false
set_option linter.unusedSimpArgs false
set_option maxRecDepth 20000

set_option maxHeartbeats 1600000 in
theorem spec_CountFallPlays (ao : Option Addr) (n cap : Nat) (xs : List Int) (w : World) (h : IntsAt w ao n cap xs) :
    Calls Tryd.prog 4 #[.slice ao n cap] w fun e w' => e = .returned (.tuple #[.int .i64 (mCountFallPlays xs).1, .bool (mCountFallPlays xs).2]) ∧ Below w.heap.size w w' := by
  cases hs : sandB xs
  · rw [mPlays_no1 hs]
    have hcon := saGood_no ao n cap xs w h hs
    clear hs
    have Hcon := Lib.hid hcon; clear hcon
    go_enter Tryd.func4, Tryd.ntmps4
    go_wp2_with fail
    with_reducible refine (Hcon.out).mono ?_
    rintro e w' ⟨rfl, rfl⟩
    go_wp2
    go_ret2
    exact ⟨rfl, Below.refl _ _⟩
  · have hsand := sand_iff.1 hs
    have hcon := saGood_yes ao n cap xs w h hsand
    have hre := saReach_any ao n cap xs w h hsand
    have hoks := ok_settle hsand
    by_cases hok : okR xs
    · obtain ⟨r1, r2, r3, r4, r5⟩ := rch_facts hsand.grains hok
      have hll := rchL_len xs
      have hWl := wL_le hsand.grains
      have hm1 := fun q => mPlays_yes hs (hoks.1 hok) q
      have hm2 := fun q => mPlays_no3 (a := xs) q
      have hpl := fun a m c W (q : RowsAt W a m c (rchL xs)) (q2 : 0 < m) (q3 : m ≤ 400) => saPlays_any a m c (rchL xs) W q q2 q3 r3 r5
      rw [r1] at hpl
      generalize wL xs = N at *
      generalize rchL xs = L at *
      clear hs hsand hoks hok r1 r2 r3 r5
      have Hcon := Lib.hid hcon; clear hcon
      have Hre := Lib.hid hre; clear hre
      have Hpl := Lib.hid hpl; clear hpl
      have Hm1 := Lib.hid hm1; clear hm1
      have Hm2 := Lib.hid hm2; clear hm2
      have R4 := Lib.hid r4; clear r4
      have Hll := Lib.hid hll; clear hll
      go_enter Tryd.func4, Tryd.ntmps4
      go_wp2_with fail
      with_reducible refine (Hcon.out).mono ?_
      rintro e w' ⟨rfl, rfl⟩
      go_wp2_with fail
      with_reducible refine (Hre.out).mono ?_
      rintro e w1 ⟨a1, m1, c1, vs, rfl, hsp, hb1⟩
      have hat := hsp.at
      have hlm := hat.length
      have hm0 : 0 < m1 := by rw [← hlm]; exact R4.out
      have hm4 : m1 ≤ 400 := by rw [← hlm]; exact Hll.out
      have hm0i : ¬ (m1 : Int) = 0 := by omega
      have hm0b : ((m1 : Int) == 0) = false := by simpa using hm0i
      have hp1 := Hpl.out _ _ _ _ hat hm0 hm4
      clear hsp hlm
      have Hp1 := Lib.hid hp1; clear hp1
      have Hat := Lib.hid hat; clear hat
      have Hb1 := Lib.hid hb1; clear hb1
      go_wp2_with fail
      with_reducible refine (Hp1.out).mono ?_
      rintro e w2 ⟨rfl, hb2⟩
      have hat2 := Hat.out.keep hb2
      have hb3 := belowTrans Hb1.out hb2 (Nat.le_refl _)
      have hp2 := Hpl.out _ _ _ _ hat2 hm0 hm4
      clear hb2 Hp1 Hat Hb1
      have Hp2 := Lib.hid hp2; clear hp2
      have Hb3 := Lib.hid hb3; clear hb3
      by_cases hN : N ≤ 1000000000
      · have hm := Hm1.out hN
        have hNi : ¬ (1000000000 : Int) < (N : Int) := by omega
        have Hm := Lib.hid hm; clear hm
        go_wp2_with fail
        with_reducible refine (Hp2.out).mono ?_
        rintro e w4 ⟨rfl, hb4⟩
        have hb5 := belowTrans Hb3.out hb4 (Nat.le_refl _)
        clear hb4
        have Hb5 := Lib.hid hb5; clear hb5
        go_wp2
        go_ret2
        rw [Hm.out]
        exact ⟨rfl, Hb5.out⟩
      · have hm := Hm2.out hN
        have hNi : (1000000000 : Int) < (N : Int) := by omega
        have Hm := Lib.hid hm; clear hm
        go_wp2
        go_ret2
        rw [Hm.out]
        exact ⟨rfl, Hb3.out⟩
    · have hq : (mSettleSand xs).2 = false := by
        cases h9 : (mSettleSand xs).2 with
        | false => rfl
        | true => exact absurd (hoks.2 h9) hok
      rw [mPlays_no2 hq]
      rw [rchL_no hok] at hre
      clear hs hsand hoks hok hq
      have Hcon := Lib.hid hcon; clear hcon
      have Hre := Lib.hid hre; clear hre
      go_enter Tryd.func4, Tryd.ntmps4
      go_wp2_with fail
      with_reducible refine (Hcon.out).mono ?_
      rintro e w' ⟨rfl, rfl⟩
      go_wp2_with fail
      with_reducible refine (Hre.out).mono ?_
      rintro e w1 ⟨a1, m1, c1, vs, rfl, hsp, hb1⟩
      have hlm := hsp.at.length
      simp only [List.length_nil] at hlm
      subst hlm
      clear hsp
      have Hb1 := Lib.hid hb1; clear hb1
      go_wp2
      go_ret2
      exact ⟨rfl, Hb1.out⟩
end Go.Proofs.YtdfmljkjidepeaaDoor
