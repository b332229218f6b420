/- CountFallPlays by the program: the call itself. No condition. -/
import Derived.Test.YtdfmljkjidepeaaDoorFpI
namespace Go.Proofs.YtdfmljkjidepeaaDoor
open Go.RowKit Go.Maps
set_option linter.unusedVariables false
set_option linter.unusedSimpArgs false
set_option maxRecDepth 20000

set_option maxHeartbeats 1600000 in
theorem impl_CountFallPlays (ao : Option Addr) (n cap : Nat) (xs : List Int) (w : World) (h : IntsAt w ao n cap xs) :
    Calls Tryd.prog 6 #[.slice ao n cap] w fun e w' => e = .returned (.tuple #[.int .i64 (mCountFallPlays xs).1, .bool (mCountFallPlays xs).2]) ∧ Below w.heap.size w w' := by
  have hst := impl_SettleSand ao n cap xs w h
  cases hq : (mSettleSand xs).2
  · have hm := mPlays_no2 hq
    rw [hq] at hst
    rw [hm]
    clear hq hm
    have Hst := Lib.hid hst; clear hst
    go_enter Tryd.func6, Tryd.ntmps6
    go_wp2_with fail
    with_reducible refine (Hst.out).mono ?_
    rintro e w1 ⟨a1, n1, c1, rfl, ho1, hb1⟩
    clear ho1
    have Hb1 := Lib.hid hb1; clear hb1
    go_wp2
    go_ret2
    exact ⟨rfl, Hb1.out⟩
  · have hsb : sandB xs = true := by
      cases hs : sandB xs with
      | true => rfl
      | false => rw [mSettle_no hs] at hq; cases hq
    have hsand := sand_iff.1 hsb
    have hok := (ok_settle hsand).2 hq
    have hfrom := fun W g (hA : IntsAt W ao n cap xs) (hM : MapW W g (.map []) []) => from_any xs hsand.grains hok.1 577 xs ao n cap g (.map []) [] W (by have := hsand.grains.wt; omega) (self_mem xs) hA hM List.nodup_nil (fun s hs => by cases hs)
    have hWl := wL_le hsand.grains
    rw [hq] at hst
    have hm1 := fun q => mPlays_yes hsb hq q
    have hm2 := fun q => mPlays_no3 (a := xs) q
    clear hq hsb hsand hok
    generalize wL xs = N at *
    have Hst := Lib.hid hst; clear hst
    have Hfrom := Lib.hid hfrom; clear hfrom
    have Hm1 := Lib.hid hm1; clear hm1
    have Hm2 := Lib.hid hm2; clear hm2
    have hmm := @run_makeMap Tryd.prog
    go_enter Tryd.func6, Tryd.ntmps6
    go_wp2_with fail
    with_reducible refine (Hst.out).mono ?_
    rintro e w1 ⟨a1, n1, c1, rfl, ho1, hb1⟩
    clear ho1
    have hba := belowAlloc w1 (.map #[] 0)
    have hM := MapW.made w1
    have hA1 := (h.keep hb1).keep hba
    have hb2 := belowTrans hb1 hba (Nat.le_refl _)
    have hcon := Hfrom.out _ _ hA1 hM
    have hgl : w.heap.size ≤ w1.heap.size := hb1.size
    clear hb1 hba hM hA1
    have Hcon := Lib.hid hcon; clear hcon
    have Hb2 := Lib.hid hb2; clear hb2
    go_wp2_with fail
    with_reducible refine (Hcon.out).mono ?_
    rintro e w3 ⟨rfl, D', S', f1, f2, f3, f4, f5⟩
    have hb3 : Below w.heap.size w w3 := Hb2.out.trans (f5.below (by have := Hb2.out.size; omega) (fun k e => by omega))
    clear f1 f2 f3 f4 f5 hmm
    by_cases hN : N ≤ 1000000000
    · have hm := Hm1.out hN
      have hNi : ¬ (1000000000 : Int) < (N : Int) := by omega
      have Hb3 := Lib.hid hb3; clear hb3
      have Hm := Lib.hid hm; clear hm
      go_wp2
      go_ret2
      rw [Hm.out]
      exact ⟨rfl, Hb3.out⟩
    · have hm := Hm2.out hN
      have hNi : (1000000000 : Int) < (N : Int) := by omega
      have Hb3 := Lib.hid hb3; clear hb3
      have Hm := Lib.hid hm; clear hm
      go_wp2
      go_ret2
      rw [Hm.out]
      exact ⟨rfl, Hb3.out⟩
end Go.Proofs.YtdfmljkjidepeaaDoor
