/- FnPlaysEndInCycles: for every input the law returns true and leaves its arguments as they were. No condition. -/
import Derived.Test.YthppkfhhidlpiaaRows
import Derived.WalkKit
import Derived.ProofKit
import Derived.OpenShut
import Derived.ShutString
import Derived.ChangeOld
import Derived.Below
import Derived.Test.YthppkfhhidlpiaaHead
import Derived.Test.YthppkfhhidlpiaaGe
import Derived.Test.YthppkfhhidlpiaaGd
import Derived.Test.YthppkfhhidlpiaaGx
import Derived.Test.YthppkfhhidlpiaaTailI
import Derived.Test.YthppkfhhidlpiaaTail42
import Derived.Test.YthppkfhhidlpiaaSteps
import Derived.Test.YthppkfhhidlpiaaPileB
import Derived.Test.YthppkfhhidlpiaaOrbB
namespace Go.Proofs.Ythppkfhhidlpiaa.fnPlaysEndInCycles
set_option linter.unusedSimpArgs false
open Go.ChangeShapes Go.WideShapes Go.ChangeAt Go.RowKit
open Go.ChangeMaps (open_string shut_string)
set_option linter.unusedVariables false

theorem own : ownKnob Try.prog.godebug = none := by kernel_rfl
theorem laidOut : laidOutB Try.prog = true := by kernel_rfl

/-- WHAT THE WALK IS TOLD OF A SLICE OF INTEGERS THAT CAME IN: it is nil; or it leads to a row of 'cap' cells, the numbers 'zs' (the first 'len' are its elements, the rest its spare room), each fitting its kind. -/
def IsRow (k : IntKind) (w : World) (a : Option Addr) (len cap : Nat) (zs : List Int) : Prop :=
  (a = none ∧ len = 0 ∧ cap = 0 ∧ zs = []) ∨
  ∃ x, a = some x ∧ len ≤ cap ∧ cap ≤ maxLen ∧ zs.length = cap ∧ (∀ i, i < zs.length → w.cell? (x.add i) = some (.int k (zs.getD i 0))) ∧ ∀ n ∈ zs, (Lit.int k n).wf = true

/-! ### THE WALK: the Go text returns true, AND WRITES NOTHING THAT WAS THERE: 'Below w.heap.size w w'' (Derived/Below.lean: '.refl', '.alloc', '.drew', '.setCell' at a new block, '.trans'). Open each 'IsRow' by 'rcases' AHEAD of 'go_enter'; part every test ahead of the walk. -/
set_option maxHeartbeats 4000000 in
set_option maxRecDepth 100000 in
theorem walk (a0 : Option Addr) (len0 cap0 : Nat) (z0 : List Int) (a1 : Option Addr) (len1 cap1 : Nat) (z1 : List Int) (w : World) (w0 : IsRow .u8 w a0 len0 cap0 z0) (w1 : IsRow .u8 w a1 len1 cap1 z1) :
    Calls Try.prog 3 #[.slice a0 len0 cap0, .slice a1 len1 cap1] w fun e w' => e = .returned (.bool true) ∧ Below w.heap.size w w' := by
  have by0 := byteIn_row w0
  have by1 := byteIn_row w1
  have hl0 : len0 ≤ maxLen := by
    rcases w0 with ⟨_, h, _⟩ | ⟨x, _, h, h', _⟩
    · rw [h]; exact Nat.zero_le _
    · exact Nat.le_trans h h'
  clear w0 w1
  by_cases hbig : 1048576 < len0 ∨ (1048576 : Int) - len0 < len1
  · have hb := big_yes a0 a1 len0 len1 cap0 cap1 w hbig hl0
    have Hb := Lib.hid hb; clear hb
    go_enter Try.func3, Try.ntmps3
    go_wp2_with fail
    with_reducible refine (Hb.out).mono ?_
    rintro e w' ⟨rfl, rfl⟩
    go_wp2
    go_ret
    exact ⟨rfl, Below.refl _ _⟩
  have hb := big_no a0 a1 len0 len1 cap0 cap1 w (by omega) (by omega)
  have hd := DrawCycleOf_any a0 len0 cap0 w (by omega) by0
  have Hb := Lib.hid hb; clear hb
  have Hd := Lib.hid hd; clear hd
  clear by0 by1 hl0 hbig
  have acc : Below w.heap.size w w := Below.refl _ _
  go_enter Try.func3, Try.ntmps3
  go_wp2_with fail
  with_reducible refine (Hb.out).mono ?_
  rintro e w' ⟨rfl, rfl⟩
  clear Hb
  go_wp2_with fail
  with_reducible refine (Hd.out).mono ?_
  rintro e v1 ⟨p1, n1, c1, xs, rfl, ho1, hnear, hb1⟩
  replace acc := belowTrans acc hb1 (Nat.le_refl _)
  clear hb1
  clear Hd hnear
  have hi := fun W h => impl_CycleOf p1 n1 c1 xs W h
  have hs := fun W h => spec_CycleOf p1 n1 c1 xs W h
  have ht := fun W h => impl_TailOf p1 n1 c1 xs W h
  have hu := fun W h => spec_TailOf p1 n1 c1 xs W h
  have hl := fun W h => impl_CycleLength p1 n1 c1 xs W h
  cases gx : goodB xs
  · simp only [mCycle_no gx] at hi hs
    simp only [mTail_no gx] at ht hu
    simp only [mCycleL_no gx] at hl
    have Hi := Lib.hid hi; clear hi
    have Hs := Lib.hid hs; clear hs
    have Ht := Lib.hid ht; clear ht
    have Hu := Lib.hid hu; clear hu
    have Hl := Lib.hid hl; clear hl
    go_wp2_with fail
    with_reducible refine (Hi.out _ ho1.at).mono ?_
    rintro e v2 ⟨px, nx, cx, rfl, hox, hb2⟩
    replace ho1 := ho1.keep hb2
    replace acc := belowTrans acc hb2 (Nat.le_refl _)
    clear hb2
    go_wp2_with fail
    with_reducible refine (Hs.out _ ho1.at).mono ?_
    rintro e v3 ⟨py, ny, cy, rfl, hoy, hb3⟩
    replace ho1 := ho1.keep hb3
    replace hox := hox.keep hb3
    replace acc := belowTrans acc hb3 (Nat.le_refl _)
    clear hb3
    go_wp2_with fail
    with_reducible refine (Ht.out _ ho1.at).mono ?_
    rintro e v4 ⟨rfl, hb4⟩
    replace ho1 := ho1.keep hb4
    replace hox := hox.keep hb4
    replace hoy := hoy.keep hb4
    replace acc := belowTrans acc hb4 (Nat.le_refl _)
    clear hb4
    go_wp2_with fail
    with_reducible refine (Hu.out _ ho1.at).mono ?_
    rintro e v5 ⟨rfl, hb5⟩
    replace ho1 := ho1.keep hb5
    replace hox := hox.keep hb5
    replace hoy := hoy.keep hb5
    replace acc := belowTrans acc hb5 (Nat.le_refl _)
    clear hb5
    go_wp2_with fail
    with_reducible refine (Hl.out _ ho1.at).mono ?_
    rintro e v6 ⟨rfl, hb6⟩
    replace ho1 := ho1.keep hb6
    replace hox := hox.keep hb6
    replace hoy := hoy.keep hb6
    replace acc := belowTrans acc hb6 (Nat.le_refl _)
    clear hb6
    have hlx := hox.length
    have hx8 := hox.at.lenInt
    have hc := pSameLists_any _ _ _ _ _ _ _ _ _ hox.at hoy.at
    rw [decide_eq_true rfl] at hc
    have Hc := Lib.hid hc; clear hc
    have hl0 : nx = 0 := hlx.symm
    subst hl0
    go_wp2_with fail
    with_reducible refine (Hc.out).mono ?_
    rintro e v7 ⟨rfl, hb7⟩
    replace ho1 := ho1.keep hb7
    replace hox := hox.keep hb7
    replace hoy := hoy.keep hb7
    replace acc := belowTrans acc hb7 (Nat.le_refl _)
    clear hb7
    go_wp2
    go_ret
    exact ⟨rfl, acc⟩
  have gX := good_iff.1 gx
  simp only [mCycle_yes gx] at hi hs
  simp only [mTail_yes gx] at ht hu
  simp only [mCycleL_yes gx] at hl
  have h42 := tail42 gX
  have hn0 := cycL_ne gX
  have h8 := cycL_length gX
  have hfirst := cycL_first gX
  have hgood := fun i hi => cycL_good_at (i := i) gX hi
  have hnext := fun i hi => cycL_next (i := i) gX hi
  have hnew := fun i hi => cycL_new (i := i) gX hi
  have hper := hgt_per gX
  have htz := tail_zero gX
  have hS := fun (k : Nat) (hk : k ≤ 42) => mSteps_yes (k := k) gx (by omega)
  have hbefore := fun (k : Nat) (h : k < tailL xs) => tail_before gX h
  have hst := fun (k : Nat) => stepsL_good gX k
  have hsum0 := good_sum0 gX
  have hsum1 := gX.2.2
  have hps := fun W h => pSum_any p1 n1 c1 xs W h gX
  have hcy := fun W h => pCyclic_any p1 n1 c1 xs W h
  rw [gx, Bool.true_and, htz] at hcy
  have he := fun W h => impl_StepsFrom p1 n1 c1 xs (tailL xs : Int) W h
  simp only [hS (tailL xs) h42] at he
  rw [← hfirst] at he
  obtain ⟨S, hSum⟩ : ∃ S : Nat, xs.sum = S := ⟨xs.sum.toNat, by omega⟩
  rw [hSum] at hps hsum1
  have hh := fun W => impl_HeightFor S W
  have hm : mHeightFor (S : Int) = ((hgt S : Int), (S : Int) - tri (hgt S), true) := by unfold mHeightFor; rw [if_pos (by omega)]; rfl
  simp only [hm] at hh
  rw [hSum, show ((S : Int)).toNat = S by omega] at hper
  have hH7 := hgt_le S
  generalize (S : Int) - tri (hgt S) = R at hh
  generalize hgt S = H at hh hper hH7
  generalize hC : cycL xs = C at hi hs hl hn0 h8 hfirst hgood hnext hnew hper he
  generalize htl : tailL xs = t at ht hu h42 htz hS hbefore hcy he hfirst
  have t1 : Int.tmod ((H : Int) + 1) (C.length : Int) = 0 := by
    have := tmod_nat (H + 1) C.length
    rw [hper] at this
    simpa using this
  generalize hL : C.length = L at hl hn0 h8 hgood hnext hnew hper t1
  have hL1 : (1 : Int) ≤ L := by omega
  have hL8 : (L : Int) ≤ 8 := by omega
  have ht8 : (t : Int) ≤ 42 := by omega
  clear hm htz hfirst hper
  cases t with
  | zero =>
    rw [show ((0 : Nat) : Int) = 0 from rfl] at ht hu he
    rw [decide_eq_true rfl] at hcy
    have Hi := Lib.hid hi; clear hi
    have Hs := Lib.hid hs; clear hs
    have Ht := Lib.hid ht; clear ht
    have Hu := Lib.hid hu; clear hu
    have Hl := Lib.hid hl; clear hl
    have Hgood := Lib.hid hgood; clear hgood
    have Hnext := Lib.hid hnext; clear hnext
    have Hnew := Lib.hid hnew; clear hnew
    have Hps := Lib.hid hps; clear hps
    have Hcy := Lib.hid hcy; clear hcy
    have He := Lib.hid he; clear he
    have Hh := Lib.hid hh; clear hh
    have HL := Lib.hid hL; clear hL
    have HS := Lib.hid hS; clear hS
    have Hbefore := Lib.hid hbefore; clear hbefore
    have Hst := Lib.hid hst; clear hst
    go_wp2_with fail
    with_reducible refine (Hi.out _ ho1.at).mono ?_
    rintro e v2 ⟨px, nx, cx, rfl, hox, hb2⟩
    replace ho1 := ho1.keep hb2
    replace acc := belowTrans acc hb2 (Nat.le_refl _)
    clear hb2
    go_wp2_with fail
    with_reducible refine (Hs.out _ ho1.at).mono ?_
    rintro e v3 ⟨py, ny, cy, rfl, hoy, hb3⟩
    replace ho1 := ho1.keep hb3
    replace hox := hox.keep hb3
    replace acc := belowTrans acc hb3 (Nat.le_refl _)
    clear hb3
    go_wp2_with fail
    with_reducible refine (Ht.out _ ho1.at).mono ?_
    rintro e v4 ⟨rfl, hb4⟩
    replace ho1 := ho1.keep hb4
    replace hox := hox.keep hb4
    replace hoy := hoy.keep hb4
    replace acc := belowTrans acc hb4 (Nat.le_refl _)
    clear hb4
    go_wp2_with fail
    with_reducible refine (Hu.out _ ho1.at).mono ?_
    rintro e v5 ⟨rfl, hb5⟩
    replace ho1 := ho1.keep hb5
    replace hox := hox.keep hb5
    replace hoy := hoy.keep hb5
    replace acc := belowTrans acc hb5 (Nat.le_refl _)
    clear hb5
    go_wp2_with fail
    with_reducible refine (Hl.out _ ho1.at).mono ?_
    rintro e v6 ⟨rfl, hb6⟩
    replace ho1 := ho1.keep hb6
    replace hox := hox.keep hb6
    replace hoy := hoy.keep hb6
    replace acc := belowTrans acc hb6 (Nat.le_refl _)
    clear hb6
    have hlx := hox.length
    have hx8 := hox.at.lenInt
    have hc := pSameLists_any _ _ _ _ _ _ _ _ _ hox.at hoy.at
    rw [decide_eq_true rfl] at hc
    have Hc := Lib.hid hc; clear hc
    obtain rfl : nx = L := by rw [← hlx]; exact HL.out
    go_wp2_with fail
    with_reducible refine (Hc.out).mono ?_
    rintro e v7 ⟨rfl, hb7⟩
    replace ho1 := ho1.keep hb7
    replace hox := hox.keep hb7
    replace hoy := hoy.keep hb7
    replace acc := belowTrans acc hb7 (Nat.le_refl _)
    clear hb7
    clear hoy
    go_wp2_with fail
    with_reducible refine (He.out _ ho1.at).mono ?_
    rintro e v8 ⟨pe, ne, ce, rfl, hoe, hb8⟩
    replace ho1 := ho1.keep hb8
    replace hox := hox.keep hb8
    replace acc := belowTrans acc hb8 (Nat.le_refl _)
    clear hb8
    obtain ⟨bx, ox, rfl, hblx, hcx⟩ := hox.at.cell 0 (by omega)
    obtain ⟨a0', m0, c0, hcell, hat⟩ := hcx 0 (by omega)
    rw [Nat.add_zero] at hcell
    clear hcx
    have hc := pSame_any _ _ _ _ _ _ _ _ _ hoe.at hat
    rw [decide_eq_true rfl] at hc
    have Hc := Lib.hid hc; clear hc
    go_wp2_with fail
    with_reducible refine (Hc.out).mono ?_
    rintro e v9 ⟨rfl, hb9⟩
    replace ho1 := ho1.keep hb9
    replace hox := hox.keep hb9
    replace hoe := hoe.keep hb9
    replace acc := belowTrans acc hb9 (Nat.le_refl _)
    clear hb9
    clear Hc
    clear hoe
    go_wp2_with fail
    with_reducible refine (Hcy.out _ ho1.at).mono ?_
    rintro e v10 ⟨rfl, hb10⟩
    replace ho1 := ho1.keep hb10
    replace hox := hox.keep hb10
    replace acc := belowTrans acc hb10 (Nat.le_refl _)
    clear hb10
    clear hcell hat Hi Hs Ht Hu Hl Hc He Hcy
    go_wp2_with fail
    with_reducible refine (Hps.out _ ho1.at).mono ?_
    rintro e w' ⟨rfl, rfl⟩
    go_wp2_with fail
    with_reducible refine (Hh.out _).mono ?_
    rintro e v11 ⟨rfl, hb11⟩
    replace ho1 := ho1.keep hb11
    replace hox := hox.keep hb11
    replace acc := belowTrans acc hb11 (Nat.le_refl _)
    clear hb11
    have h0L : (0 : Int) < nx := by omega
    obtain ⟨wo, hwo⟩ : ∃ wo : World, wo = v11 := ⟨_, rfl⟩
    subst hwo
    clear Hps Hh
    go_wp2_with fail
    go_loopw [154] (fun i wr => ∃ j : Nat, j ≤ nx ∧ i = .int .i64 j ∧ Below w.heap.size w wr ∧ Below wo.heap.size wo wr) (fun i _ => nx - (intOf i).toNat)
    case atStart => exact ⟨0, Nat.zero_le _, rfl, acc, Below.refl _ _⟩
    case round =>
      obtain ⟨j, hj, rfl, hbw, hbo⟩ := hrel
      by_cases hlt : j < nx
      · have hrows := hox.at.keep hbo
        obtain ⟨b, o, e, hbl, hc⟩ := hrows.cell j hlt
        cases e
        obtain ⟨a, m2, c2, hcell, hat⟩ := hc j hlt
        have hgj := Hgood.out j hlt
        have hnj := Hnext.out j hlt
        have hwj := Hnew.out j hlt
        have hsj := impl_StepPiles a m2 c2 (C.getD j []) wr hat
        simp only [mStep_yes (good_iff.2 hgj.1)] at hsj
        rw [hnj] at hsj
        have hJ : (j + 1) % nx < nx := Nat.mod_lt _ (by omega)
        have hrem : Int.tmod ((j : Int) + 1) (nx : Int) = (((j + 1) % nx : Nat) : Int) := by
          have := tmod_nat (j + 1) nx
          rwa [show ((j + 1 : Nat) : Int) = (j : Int) + 1 by omega] at this
        have hpc := fun W h => pCyclic_any a m2 c2 (C.getD j []) W h
        rw [good_iff.2 hgj.1, cyc_iff.2 hgj.2, Bool.and_self] at hpc
        obtain ⟨a3, hsl, hrt⟩ := rowsUpto wr C hrows j (by omega) .i64
        generalize (j + 1) % nx = J at hsj hJ hrem
        have hJ8 : (J : Int) < nx := by omega
        have HwJ := Lib.hid hwj; clear hwj
        have Hsj := Lib.hid hsj; clear hsj
        have Hpc := Lib.hid hpc; clear hpc
        clear hc hgj hnj
        go_wp2_with fail
        with_reducible refine (Hsj.out).mono ?_
        rintro e u1 ⟨p15, n15, c15, rfl, ho15, hb15⟩
        replace hat := hat.keep hb15
        replace hrt := hrt.keep hb15
        replace hrows := hrows.keep hb15
        replace hbw := belowTrans hbw hb15 (Nat.le_refl _)
        replace hbo := belowTrans hbo hb15 (Nat.le_refl _)
        clear hb15 hcell
        go_wp2_with fail
        with_reducible refine (Hpc.out _ hat).mono ?_
        rintro e u2 ⟨rfl, hb16⟩
        replace hat := hat.keep hb16
        replace hrt := hrt.keep hb16
        replace hrows := hrows.keep hb16
        replace ho15 := ho15.keep hb16
        replace hbw := belowTrans hbw hb16 (Nat.le_refl _)
        replace hbo := belowTrans hbo hb16 (Nat.le_refl _)
        clear hb16
        obtain ⟨b', o', e', hbl', hc'⟩ := hrows.cell J hJ
        cases e'
        obtain ⟨a4, m4, c4, hcell4, hat4⟩ := hc' J hJ
        have hp := pSame_any _ _ _ _ _ _ _ _ _ ho15.at hat4
        rw [decide_eq_true rfl] at hp
        have Hp := Lib.hid hp; clear hp
        clear hc' ho15
        go_wp2_with fail
        with_reducible refine (Hp.out).mono ?_
        rintro e u3 ⟨rfl, hb17⟩
        replace hat := hat.keep hb17
        replace hrt := hrt.keep hb17
        replace hbw := belowTrans hbw hb17 (Nat.le_refl _)
        replace hbo := belowTrans hbo hb17 (Nat.le_refl _)
        clear hb17 hcell4 hat4 Hp hrows
        have hq := pHasList_any _ _ _ _ _ _ _ _ _ hrt hat
        rw [decide_eq_false HwJ.out] at hq
        have Hq := Lib.hid hq; clear hq
        go_wp2_with fail
        with_reducible refine (Hq.out).mono ?_
        rintro e u4 ⟨rfl, hb18⟩
        replace hbw := belowTrans hbw hb18 (Nat.le_refl _)
        replace hbo := belowTrans hbo hb18 (Nat.le_refl _)
        clear hb18
        go_wp2
        go_roundw
        case rel => exact ⟨j + 1, by omega, by go_num, hbw, hbo⟩
        case measure => simp [intOf] <;> omega
      · go_wp2
        go_ret
        exact ⟨rfl, hbw⟩
  | succ k =>
    rw [decide_eq_false (Nat.succ_ne_zero k)] at hcy
    obtain ⟨K, hK⟩ : ∃ K : Int, ((k + 1 : Nat) : Int) = K := ⟨_, rfl⟩
    have hK1 : 1 ≤ K := by omega
    have hK2 : K ≤ 42 := by omega
    have hKn : ¬ K = 0 := by omega
    have hKd : (K == 0) = false := by simpa using hKn
    have hKe : decide (K = 0) = false := decide_eq_false hKn
    have hbf := fun W h => impl_StepsFrom p1 n1 c1 xs (K - 1) W h
    rw [show K - 1 = (k : Int) by omega] at hbf
    simp only [hS k (by omega)] at hbf
    rw [show (k : Int) = K - 1 by omega] at hbf
    have hbf2 := hbefore k (by omega)
    have Hbf2 := Lib.hid hbf2; clear hbf2
    rw [hK] at ht hu he ht8
    clear hK
    have Hi := Lib.hid hi; clear hi
    have Hs := Lib.hid hs; clear hs
    have Ht := Lib.hid ht; clear ht
    have Hu := Lib.hid hu; clear hu
    have Hl := Lib.hid hl; clear hl
    have Hgood := Lib.hid hgood; clear hgood
    have Hnext := Lib.hid hnext; clear hnext
    have Hnew := Lib.hid hnew; clear hnew
    have Hps := Lib.hid hps; clear hps
    have Hcy := Lib.hid hcy; clear hcy
    have He := Lib.hid he; clear he
    have Hh := Lib.hid hh; clear hh
    have HL := Lib.hid hL; clear hL
    have HS := Lib.hid hS; clear hS
    have Hbefore := Lib.hid hbefore; clear hbefore
    have Hst := Lib.hid hst; clear hst
    have Hbf := Lib.hid hbf; clear hbf
    go_wp2_with fail
    with_reducible refine (Hi.out _ ho1.at).mono ?_
    rintro e v2 ⟨px, nx, cx, rfl, hox, hb2⟩
    replace ho1 := ho1.keep hb2
    replace acc := belowTrans acc hb2 (Nat.le_refl _)
    clear hb2
    go_wp2_with fail
    with_reducible refine (Hs.out _ ho1.at).mono ?_
    rintro e v3 ⟨py, ny, cy, rfl, hoy, hb3⟩
    replace ho1 := ho1.keep hb3
    replace hox := hox.keep hb3
    replace acc := belowTrans acc hb3 (Nat.le_refl _)
    clear hb3
    go_wp2_with fail
    with_reducible refine (Ht.out _ ho1.at).mono ?_
    rintro e v4 ⟨rfl, hb4⟩
    replace ho1 := ho1.keep hb4
    replace hox := hox.keep hb4
    replace hoy := hoy.keep hb4
    replace acc := belowTrans acc hb4 (Nat.le_refl _)
    clear hb4
    go_wp2_with fail
    with_reducible refine (Hu.out _ ho1.at).mono ?_
    rintro e v5 ⟨rfl, hb5⟩
    replace ho1 := ho1.keep hb5
    replace hox := hox.keep hb5
    replace hoy := hoy.keep hb5
    replace acc := belowTrans acc hb5 (Nat.le_refl _)
    clear hb5
    go_wp2_with fail
    with_reducible refine (Hl.out _ ho1.at).mono ?_
    rintro e v6 ⟨rfl, hb6⟩
    replace ho1 := ho1.keep hb6
    replace hox := hox.keep hb6
    replace hoy := hoy.keep hb6
    replace acc := belowTrans acc hb6 (Nat.le_refl _)
    clear hb6
    have hlx := hox.length
    have hx8 := hox.at.lenInt
    have hc := pSameLists_any _ _ _ _ _ _ _ _ _ hox.at hoy.at
    rw [decide_eq_true rfl] at hc
    have Hc := Lib.hid hc; clear hc
    obtain rfl : nx = L := by rw [← hlx]; exact HL.out
    go_wp2_with fail
    with_reducible refine (Hc.out).mono ?_
    rintro e v7 ⟨rfl, hb7⟩
    replace ho1 := ho1.keep hb7
    replace hox := hox.keep hb7
    replace hoy := hoy.keep hb7
    replace acc := belowTrans acc hb7 (Nat.le_refl _)
    clear hb7
    clear hoy
    go_wp2_with fail
    with_reducible refine (He.out _ ho1.at).mono ?_
    rintro e v8 ⟨pe, ne, ce, rfl, hoe, hb8⟩
    replace ho1 := ho1.keep hb8
    replace hox := hox.keep hb8
    replace acc := belowTrans acc hb8 (Nat.le_refl _)
    clear hb8
    obtain ⟨bx, ox, rfl, hblx, hcx⟩ := hox.at.cell 0 (by omega)
    obtain ⟨a0', m0, c0, hcell, hat⟩ := hcx 0 (by omega)
    rw [Nat.add_zero] at hcell
    clear hcx
    have hc := pSame_any _ _ _ _ _ _ _ _ _ hoe.at hat
    rw [decide_eq_true rfl] at hc
    have Hc := Lib.hid hc; clear hc
    go_wp2_with fail
    with_reducible refine (Hc.out).mono ?_
    rintro e v9 ⟨rfl, hb9⟩
    replace ho1 := ho1.keep hb9
    replace hox := hox.keep hb9
    replace hoe := hoe.keep hb9
    replace acc := belowTrans acc hb9 (Nat.le_refl _)
    clear hb9
    clear Hc
    clear hoe
    go_wp2_with fail
    with_reducible refine (Hcy.out _ ho1.at).mono ?_
    rintro e v10 ⟨rfl, hb10⟩
    replace ho1 := ho1.keep hb10
    replace hox := hox.keep hb10
    replace acc := belowTrans acc hb10 (Nat.le_refl _)
    clear hb10
    clear hcell hat Hi Hs Ht Hu Hl Hc He Hcy
    go_wp2_with fail
    with_reducible refine (Hbf.out _ ho1.at).mono ?_
    rintro e v11 ⟨pb, nb, cb, rfl, hob, hb11⟩
    replace ho1 := ho1.keep hb11
    replace hox := hox.keep hb11
    replace acc := belowTrans acc hb11 (Nat.le_refl _)
    clear hb11
    have hcb := pCyclic_any _ _ _ _ _ hob.at
    rw [Hbf2.out, Bool.and_false] at hcb
    have Hcb := Lib.hid hcb; clear hcb
    go_wp2_with fail
    with_reducible refine (Hcb.out).mono ?_
    rintro e v12 ⟨rfl, hb12⟩
    replace ho1 := ho1.keep hb12
    replace hox := hox.keep hb12
    replace hob := hob.keep hb12
    replace acc := belowTrans acc hb12 (Nat.le_refl _)
    clear hb12
    clear hob
    go_wp2_with fail
    with_reducible refine (Hps.out _ ho1.at).mono ?_
    rintro e w' ⟨rfl, rfl⟩
    go_wp2_with fail
    with_reducible refine (Hh.out _).mono ?_
    rintro e v13 ⟨rfl, hb13⟩
    replace ho1 := ho1.keep hb13
    replace hox := hox.keep hb13
    replace acc := belowTrans acc hb13 (Nat.le_refl _)
    clear hb13
    have h0L : (0 : Int) < nx := by omega
    obtain ⟨wo, hwo⟩ : ∃ wo : World, wo = v13 := ⟨_, rfl⟩
    subst hwo
    clear Hps Hh
    go_wp2_with fail
    go_loopw [154] (fun i wr => ∃ j : Nat, j ≤ nx ∧ i = .int .i64 j ∧ Below w.heap.size w wr ∧ Below wo.heap.size wo wr) (fun i _ => nx - (intOf i).toNat)
    case atStart => exact ⟨0, Nat.zero_le _, rfl, acc, Below.refl _ _⟩
    case round =>
      obtain ⟨j, hj, rfl, hbw, hbo⟩ := hrel
      by_cases hlt : j < nx
      · have hrows := hox.at.keep hbo
        obtain ⟨b, o, e, hbl, hc⟩ := hrows.cell j hlt
        cases e
        obtain ⟨a, m2, c2, hcell, hat⟩ := hc j hlt
        have hgj := Hgood.out j hlt
        have hnj := Hnext.out j hlt
        have hwj := Hnew.out j hlt
        have hsj := impl_StepPiles a m2 c2 (C.getD j []) wr hat
        simp only [mStep_yes (good_iff.2 hgj.1)] at hsj
        rw [hnj] at hsj
        have hJ : (j + 1) % nx < nx := Nat.mod_lt _ (by omega)
        have hrem : Int.tmod ((j : Int) + 1) (nx : Int) = (((j + 1) % nx : Nat) : Int) := by
          have := tmod_nat (j + 1) nx
          rwa [show ((j + 1 : Nat) : Int) = (j : Int) + 1 by omega] at this
        have hpc := fun W h => pCyclic_any a m2 c2 (C.getD j []) W h
        rw [good_iff.2 hgj.1, cyc_iff.2 hgj.2, Bool.and_self] at hpc
        obtain ⟨a3, hsl, hrt⟩ := rowsUpto wr C hrows j (by omega) .i64
        generalize (j + 1) % nx = J at hsj hJ hrem
        have hJ8 : (J : Int) < nx := by omega
        have HwJ := Lib.hid hwj; clear hwj
        have Hsj := Lib.hid hsj; clear hsj
        have Hpc := Lib.hid hpc; clear hpc
        clear hc hgj hnj
        go_wp2_with fail
        with_reducible refine (Hsj.out).mono ?_
        rintro e u1 ⟨p15, n15, c15, rfl, ho15, hb15⟩
        replace hat := hat.keep hb15
        replace hrt := hrt.keep hb15
        replace hrows := hrows.keep hb15
        replace hbw := belowTrans hbw hb15 (Nat.le_refl _)
        replace hbo := belowTrans hbo hb15 (Nat.le_refl _)
        clear hb15 hcell
        go_wp2_with fail
        with_reducible refine (Hpc.out _ hat).mono ?_
        rintro e u2 ⟨rfl, hb16⟩
        replace hat := hat.keep hb16
        replace hrt := hrt.keep hb16
        replace hrows := hrows.keep hb16
        replace ho15 := ho15.keep hb16
        replace hbw := belowTrans hbw hb16 (Nat.le_refl _)
        replace hbo := belowTrans hbo hb16 (Nat.le_refl _)
        clear hb16
        obtain ⟨b', o', e', hbl', hc'⟩ := hrows.cell J hJ
        cases e'
        obtain ⟨a4, m4, c4, hcell4, hat4⟩ := hc' J hJ
        have hp := pSame_any _ _ _ _ _ _ _ _ _ ho15.at hat4
        rw [decide_eq_true rfl] at hp
        have Hp := Lib.hid hp; clear hp
        clear hc' ho15
        go_wp2_with fail
        with_reducible refine (Hp.out).mono ?_
        rintro e u3 ⟨rfl, hb17⟩
        replace hat := hat.keep hb17
        replace hrt := hrt.keep hb17
        replace hbw := belowTrans hbw hb17 (Nat.le_refl _)
        replace hbo := belowTrans hbo hb17 (Nat.le_refl _)
        clear hb17 hcell4 hat4 Hp hrows
        have hq := pHasList_any _ _ _ _ _ _ _ _ _ hrt hat
        rw [decide_eq_false HwJ.out] at hq
        have Hq := Lib.hid hq; clear hq
        go_wp2_with fail
        with_reducible refine (Hq.out).mono ?_
        rintro e u4 ⟨rfl, hb18⟩
        replace hbw := belowTrans hbw hb18 (Nat.le_refl _)
        replace hbo := belowTrans hbo hb18 (Nat.le_refl _)
        clear hb18
        go_wp2
        go_roundw
        case rel => exact ⟨j + 1, by omega, by go_num, hbw, hbo⟩
        case measure => simp [intOf] <;> omega
      · go_wp2
        go_ret
        exact ⟨rfl, hbw⟩

/-! ### THE ROW's STEP: WRITTEN OUT: LEAVE IT -/
set_option maxRecDepth 100000 in
theorem lifted (os : Os) (started : os.Started) (H : Type) (enc : TypeId × Value → H) :
    ReturnsInHanded {} Try.checked os 3 .any (Rows.fnPlaysEndInCyclesSpec.pre6 enc Try.prog Try.f3 Rows.fnPlaysEndInCyclesRow.domain false) (Rows.fnPlaysEndInCyclesSpec.post enc Try.prog Try.f3 false true false false) := by
  refine returnsInHanded_of_change (C := Try.checked) own started (by kernel_rfl) Try.func3
    (ChangeSpec.witness6 (enc := enc) (C := Try.checked) false ⟨#[], #[.slice none 0 0, .slice none 0 0], []⟩ 8 (by kernel_rfl) (by kernel_rfl) (by kernel_rfl) (by kernel_rfl)) ?_
  intro W base args ds gs before hval0 hW hcnd _
  have hval : ∀ (j : Nat) t v, Try.f3.params[j]? = some t → args[j]? = some v → Value.okWide Try.prog W .any base t v := hval0
  have hW' := hW
  obtain ⟨p, q, hA0, hV, rfl, hfz, hnd⟩ := hW
  have hA : DataW.TrodAll enc Try.prog W 0 (fun _ => true) true Try.f3.params.toList args.toList ds p := hA0
  rw [Try.params3] at hA hval
  obtain ⟨v0, vs0, d0, ds0, p0, q0, hargs, rfl, rfl, h0, r0⟩ := trodAll_cons hA
  obtain ⟨v1, vs1, d1, ds1, p1, q1, rfl, rfl, rfl, h1, r1⟩ := trodAll_cons r0
  obtain ⟨rfl, rfl, rfl⟩ := trodAll_nil r1
  obtain rfl : args = #[v0, v1] := by cases args; simp_all
  obtain ⟨rfl, rfl⟩ := trodVars_none hV
  obtain ⟨a0, len0, cap0, rfl⟩ := okWide_slice Try.underlying22 (hval 0 22 v0 rfl rfl)
  have k0 := h0
  have lt0 : ∀ x ∈ p0, x.block < W.heap.size := by obtain ⟨m, hm⟩ := k0; exact DataW.trod_lt m _ _ _ hm
  obtain ⟨z0, w0⟩ : ∃ zs, IsRow .u8 W a0 len0 cap0 zs := by
    obtain ⟨fuel, hf⟩ := h0
    rcases open_ints Try.underlying22 Try.underlying5 (by kernel_rfl) hf with ⟨hcs, _⟩ | ⟨x, l, c, zs, hcs, _, hl, hm, hz, _, hcell, hwz⟩
    · simp [Value.cells] at hcs
      obtain ⟨rfl, rfl, rfl⟩ := hcs
      exact ⟨[], .inl ⟨rfl, rfl, rfl, rfl⟩⟩
    · simp [Value.cells] at hcs
      obtain ⟨rfl, rfl, rfl⟩ := hcs
      exact ⟨zs, .inr ⟨_, rfl, hl, hm, by simpa using hz, hcell, hwz⟩⟩
  obtain ⟨a1, len1, cap1, rfl⟩ := okWide_slice Try.underlying22 (hval 1 22 v1 rfl rfl)
  have k1 := h1
  have lt1 : ∀ x ∈ p1, x.block < W.heap.size := by obtain ⟨m, hm⟩ := k1; exact DataW.trod_lt m _ _ _ hm
  obtain ⟨z1, w1⟩ : ∃ zs, IsRow .u8 W a1 len1 cap1 zs := by
    obtain ⟨fuel, hf⟩ := h1
    rcases open_ints Try.underlying22 Try.underlying5 (by kernel_rfl) hf with ⟨hcs, _⟩ | ⟨x, l, c, zs, hcs, _, hl, hm, hz, _, hcell, hwz⟩
    · simp [Value.cells] at hcs
      obtain ⟨rfl, rfl, rfl⟩ := hcs
      exact ⟨[], .inl ⟨rfl, rfl, rfl, rfl⟩⟩
    · simp [Value.cells] at hcs
      obtain ⟨rfl, rfl, rfl⟩ := hcs
      exact ⟨zs, .inr ⟨_, rfl, hl, hm, by simpa using hz, hcell, hwz⟩⟩
  clear hA0 hval0
  refine (walk a0 len0 cap0 z0 a1 len1 cap1 z1 W w0 w1).mono fun e W' ⟨he, bel⟩ => ?_
  subst he
  exact ⟨_, rfl, _, _, _, [], _, [], hW', trodAll_mk1 (shut_bool Try.underlying4 _), (trodAll_cons_mk (Below.trod laidOut (by kernel_rfl) (of_decide_eq_true (by kernel_rfl)) k0 bel lt0) (trodAll_cons_mk (Below.trod laidOut (by kernel_rfl) (of_decide_eq_true (by kernel_rfl)) k1 bel lt1) trodAll_mk0)), rfl, bel.frame _, fun h => by cases h⟩

theorem closedFacts : joinedFacts Try.prog 3 Try.f3 Rows.fnPlaysEndInCyclesSpec Rows.fnPlaysEndInCyclesRow = true := by
  unfold joinedFacts
  rw [head_enter, head_lifts, head_make]
  kernel_rfl
theorem closedHere : joinedFacts Try.pinned.checked.prog 3 Try.f3 Rows.fnPlaysEndInCyclesSpec Rows.fnPlaysEndInCyclesRow = true := by
  rw [progEq]
  exact closedFacts
theorem over : Rows.fnPlaysEndInCyclesRow.holds Try.pinned (OpenSpec.ofChange Rows.fnPlaysEndInCyclesSpec) :=
  OpenClaim.holds_of_wide 3 Try.f3 rfl rfl rfl rfl rfl rfl rfl ⟨rfl, rfl, rfl, rfl, rfl⟩ rfl rfl rfl rfl rfl (by kernel_rfl) Try.func3 closedHere
    (of_decide_eq_true (by kernel_rfl)) (by unfold Func.isWrapper; first | (rw [if_pos (by decide +kernel)]; kernel_rfl) | (rw [if_neg (by decide +kernel)]; exact ⟨rfl, rfl⟩))
    (fun os started H enc _ => lifted os started H enc)

/-- ████ THE STATEMENT ████ -/
theorem proved : Rows.FnPlaysEndInCyclesSaid := over
#print axioms proved
end Go.Proofs.Ythppkfhhidlpiaa.fnPlaysEndInCycles
