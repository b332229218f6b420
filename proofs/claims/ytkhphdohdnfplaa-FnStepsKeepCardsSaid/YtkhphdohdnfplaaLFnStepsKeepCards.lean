/- FnStepsKeepCards: for every input the law returns true and leaves its arguments as they were. No condition. -/
import Derived.Test.YtkhphdohdnfplaaRows
import Derived.WalkKit
import Derived.ProofKit
import Derived.OpenShut
import Derived.ShutString
import Derived.ChangeOld
import Derived.Below
import Derived.Test.YtkhphdohdnfplaaHead
import Derived.Test.YtkhphdohdnfplaaLawp
import Derived.Test.YtkhphdohdnfplaaLawq
import Derived.Test.YtkhphdohdnfplaaLawr
import Derived.Test.YtkhphdohdnfplaaLaws
import Derived.Test.YtkhphdohdnfplaaDrawM
import Derived.Test.YtkhphdohdnfplaaPlay
import Derived.Test.YtkhphdohdnfplaaSteps
import Derived.Test.YtkhphdohdnfplaaExA
namespace Go.Proofs.Ytkhphdohdnfplaa.fnStepsKeepCards
set_option linter.unusedSimpArgs false
open Go.ChangeShapes Go.WideShapes Go.ChangeAt Go.RowKit
open Go.ChangeMaps (open_string shut_string)
set_option linter.unusedVariables false

theorem own : ownKnob Try.prog.godebug = none := by kernel_rfl
theorem laidOut : laidOutB Try.prog = true := by kernel_rfl

/-- WHAT THE WALK IS TOLD OF A SLICE OF INTEGERS THAT CAME IN: it is nil; or it leads to a row of 'cap' cells, the numbers 'zs' (the first 'len' are its elements, the rest its spare room), each fitting its kind. -/
def IsRow (k : IntKind) (w : World) (a : Option Addr) (len cap : Nat) (zs : List Int) : Prop :=
  (a = none ∧ len = 0 ∧ cap = 0 ∧ zs = []) ∨
  ∃ x, a = some x ∧ len ≤ cap ∧ cap ≤ maxLen ∧ zs.length = cap ∧ (∀ i, i < zs.length → w.cell? (x.add i) = some (.int k (zs.getD i 0))) ∧ ∀ n ∈ zs, (Lit.int k n).wf = true

/-! ### THE WALK: the Go text returns true, AND WRITES NOTHING THAT WAS THERE: 'Below w.heap.size w w'' (Derived/Below.lean: '.refl', '.alloc', '.drew', '.setCell' at a new block, '.trans'). Open each 'IsRow' by 'rcases' AHEAD of 'go_enter'; part every test ahead of the walk. -/
set_option maxHeartbeats 4000000 in
set_option maxRecDepth 100000 in
theorem walk (a0 : Option Addr) (len0 cap0 : Nat) (z0 : List Int) (a1 : Option Addr) (len1 cap1 : Nat) (z1 : List Int) (w : World) (w0 : IsRow .u8 w a0 len0 cap0 z0) (w1 : IsRow .u8 w a1 len1 cap1 z1) :
    Calls Try.prog 3 #[.slice a0 len0 cap0, .slice a1 len1 cap1] w fun e w' => e = .returned (.bool true) ∧ Below w.heap.size w w' := by
  have by0 := byteIn_row w0
  have by1 := byteIn_row w1
  have hl0 : len0 ≤ maxLen := by
    rcases w0 with ⟨_, h, _⟩ | ⟨x, _, h, h', _⟩
    · rw [h]; exact Nat.zero_le _
    · exact Nat.le_trans h h'
  clear w0 w1
  by_cases hbig : 1048576 < len0 ∨ (1048576 : Int) - len0 < len1
  · have hb := big_yes a0 a1 len0 len1 cap0 cap1 w hbig hl0
    have Hb := Lib.hid hb; clear hb
    go_enter Try.func3, Try.ntmps3
    go_wp2_with fail
    with_reducible refine (Hb.out).mono ?_
    rintro e w' ⟨rfl, rfl⟩
    go_wp2
    go_ret
    exact ⟨rfl, Below.refl _ _⟩
  have hb := big_no a0 a1 len0 len1 cap0 cap1 w (by omega) (by omega)
  have hd := DrawPlayOf_any a0 len0 cap0 w (by omega) by0
  have hf := fun W (h : Below w.heap.size w W) => DrawStepsFrom_any a1 len1 cap1 W (by omega) (by1.up (Nat.le_refl _) h h.size)
  have Hb := Lib.hid hb; clear hb
  have Hd := Lib.hid hd; clear hd
  have Hf := Lib.hid hf; clear hf
  clear by0 by1 hl0 hbig
  have acc : Below w.heap.size w w := Below.refl _ _
  go_enter Try.func3, Try.ntmps3
  go_wp2_with fail
  with_reducible refine (Hb.out).mono ?_
  rintro e w' ⟨rfl, rfl⟩
  clear Hb
  go_wp2_with fail
  with_reducible refine (Hd.out).mono ?_
  rintro e v1 ⟨p1, n1, c1, xs, k, rfl, ho1, hnear, hk0, hk1, hb1⟩
  replace acc := belowTrans acc hb1 (Nat.le_refl _)
  clear hb1
  clear Hd hnear
  have hi := fun W h => impl_PlayOf p1 n1 c1 xs k W h
  have hs := fun W h => spec_PlayOf p1 n1 c1 xs k W h
  by_cases hk : goodB xs = true ∧ 0 ≤ k ∧ k ≤ 1000
  · skip
    have gX := good_iff.1 hk.1
    obtain ⟨K, hKK⟩ : ∃ K : Nat, k = K := ⟨k.toNat, by omega⟩
    have hK : K ≤ 1000 := by omega
    have hmk : mPlayOf xs k = (playL K xs, true) := by rw [hKK]; exact mPlay_yes hk.1 hK
    simp only [hmk] at hi hs
    clear hmk
    have hlen := playL_length K xs
    have hat : ∀ i, i < K + 1 → Good ((playL K xs).getD i []) ∧ ((playL K xs).getD i []).sum = xs.sum := fun i hi => by
      rw [playL_getD K i xs (by omega)]; exact ⟨stepsL_good gX i, stepsL_sum gX i⟩
    have hst : ∀ i, i + 1 < K + 1 → stepL ((playL K xs).getD i []) = (playL K xs).getD (i + 1) [] := fun i hi => by
      rw [playL_getD K i xs (by omega), playL_getD K (i + 1) xs (by omega)]
      exact (by rw [Nat.add_comm, stepsL_plus]; rfl : stepsL (i + 1) xs = stepL (stepsL i xs)).symm
    have h00 : (playL K xs).getD 0 [] = xs := by rw [playL_getD K 0 xs (by omega)]; exact steps_none xs
    have hcd := fun W h => impl_CardsOf p1 n1 c1 xs W h
    have hmc : mCardsOf xs = (xs.sum, true) := by unfold mCardsOf; rw [hk.1]; rfl
    simp only [hmc] at hcd
    have hsum0 := good_sum0 gX
    have hsum1 := gX.2.2
    generalize playL K xs = C at hi hs hlen hat hst h00
    generalize xs.sum = S at hcd hat hsum0 hsum1
    clear hmc hk gX
    rw [show K + 1 = C.length from hlen.symm] at hat hst
    have hlen2 : k + 1 = (C.length : Int) := by omega
    have hk00 : 0 ≤ k := by omega
    clear hlen hKK hK
    have Hi := Lib.hid hi; clear hi
    have Hs := Lib.hid hs; clear hs
    have Hat := Lib.hid hat; clear hat
    have Hst := Lib.hid hst; clear hst
    have H00 := Lib.hid h00; clear h00
    have Hlen2 := Lib.hid hlen2; clear hlen2
    have Hcd := Lib.hid hcd; clear hcd
    go_wp2_with fail
    with_reducible refine (Hi.out _ ho1.at).mono ?_
    rintro e v2 ⟨pi, ni, ci, rfl, hoi, hb2⟩
    replace ho1 := ho1.keep hb2
    replace acc := belowTrans acc hb2 (Nat.le_refl _)
    clear hb2
    go_wp2_with fail
    with_reducible refine (Hs.out _ ho1.at).mono ?_
    rintro e v3 ⟨ps, ns, cs, rfl, hos, hb3⟩
    replace ho1 := ho1.keep hb3
    replace hoi := hoi.keep hb3
    replace acc := belowTrans acc hb3 (Nat.le_refl _)
    clear hb3
    have hc := pSameLists_any _ _ _ _ _ _ _ _ _ hoi.at hos.at
    rw [decide_eq_true rfl] at hc
    have Hc := Lib.hid hc; clear hc
    go_wp2_with fail
    with_reducible refine (Hc.out).mono ?_
    rintro e v4 ⟨rfl, hb4⟩
    replace ho1 := ho1.keep hb4
    replace hoi := hoi.keep hb4
    replace hos := hos.keep hb4
    replace acc := belowTrans acc hb4 (Nat.le_refl _)
    clear hb4
    clear Hc
    clear hos
    clear Hi Hs
    go_wp2_with fail
    with_reducible refine (Hf.out _ acc).mono ?_
    rintro e v5 ⟨p2, n2, c2, ys, j, rfl, ho2, hnear, hj0, hj1, hb5⟩
    replace ho1 := ho1.keep hb5
    replace hoi := hoi.keep hb5
    replace acc := belowTrans acc hb5 (Nat.le_refl _)
    clear hb5
    clear Hf hnear
    have hi := fun W h => impl_StepsFrom p2 n2 c2 ys j W h
    have hs := fun W h => spec_StepsFrom p2 n2 c2 ys j W h
    by_cases hj : goodB ys = true ∧ 0 ≤ j ∧ j ≤ 1000
    · skip
      have gY := good_iff.1 hj.1
      obtain ⟨J, hJJ⟩ : ∃ J : Nat, j = J := ⟨j.toNat, by omega⟩
      have hJ : J ≤ 1000 := by omega
      have hmj : mStepsFrom ys j = (stepsL J ys, true) := by rw [hJJ]; exact mSteps_yes hj.1 hJ
      simp only [hmj] at hi hs
      clear hmj
      have hb := fun W h => impl_StepPiles p2 n2 c2 ys W h
      simp only [mStep_yes hj.1] at hb
      cases J with
      | zero =>
        obtain rfl : j = 0 := hJJ
        have Hi := Lib.hid hi; clear hi
        have Hs := Lib.hid hs; clear hs
        have Hb := Lib.hid hb; clear hb
        go_wp2_with fail
        with_reducible refine (Hi.out _ ho2.at).mono ?_
        rintro e v6 ⟨pe, ne, ce, rfl, hoe, hb6⟩
        replace ho1 := ho1.keep hb6
        replace hoi := hoi.keep hb6
        replace ho2 := ho2.keep hb6
        replace acc := belowTrans acc hb6 (Nat.le_refl _)
        clear hb6
        go_wp2_with fail
        with_reducible refine (Hs.out _ ho2.at).mono ?_
        rintro e v7 ⟨pg, ng, cg, rfl, hog, hb7⟩
        replace ho1 := ho1.keep hb7
        replace hoi := hoi.keep hb7
        replace ho2 := ho2.keep hb7
        replace hoe := hoe.keep hb7
        replace acc := belowTrans acc hb7 (Nat.le_refl _)
        clear hb7
        have hc := pSame_any _ _ _ _ _ _ _ _ _ hoe.at hog.at
        rw [decide_eq_true rfl] at hc
        have Hc := Lib.hid hc; clear hc
        go_wp2_with fail
        with_reducible refine (Hc.out).mono ?_
        rintro e v8 ⟨rfl, hb8⟩
        replace ho1 := ho1.keep hb8
        replace hoi := hoi.keep hb8
        replace ho2 := ho2.keep hb8
        replace hoe := hoe.keep hb8
        replace hog := hog.keep hb8
        replace acc := belowTrans acc hb8 (Nat.le_refl _)
        clear hb8
        clear Hc
        clear hog
        clear Hi Hs
        clear Hb
        have hl := hoi.length
        have hni8 := hoi.at.lenInt
        have hkk := Hlen2.out
        rw [hl] at hkk
        have hn1 : 0 < ni := by omega
        have HL := Lib.hid hl; clear hl Hlen2
        go_wp2_with fail
        with_reducible refine (Hcd.out _ ho1.at).mono ?_
        rintro e v9 ⟨rfl, hb9⟩
        replace ho1 := ho1.keep hb9
        replace hoi := hoi.keep hb9
        replace acc := belowTrans acc hb9 (Nat.le_refl _)
        clear hb9
        have hrows := hoi.at
        clear hoi
        obtain ⟨b0, o0, e_, _, hc_⟩ := hrows.cell 0 hn1
        cases e_
        obtain ⟨a0_, m0, c0, hcell, hat0⟩ := hc_ 0 hn1
        clear hc_
        rw [Nat.add_zero] at hcell
        rw [H00.out] at hat0
        have h01 : (0 : Int) < (ni : Int) := by omega
        have hc := pSame_any _ _ _ _ _ _ _ _ _ hat0 ho1.at
        rw [decide_eq_true rfl] at hc
        have Hc := Lib.hid hc; clear hc
        go_wp2_with fail
        with_reducible refine (Hc.out).mono ?_
        rintro e v10 ⟨rfl, hb10⟩
        replace ho1 := ho1.keep hb10
        replace hrows := hrows.keep hb10
        replace acc := belowTrans acc hb10 (Nat.le_refl _)
        clear hb10
        clear Hc
        clear hcell hat0 Hcd
        clear ho1
        clear hkk
        obtain ⟨wo, hwo⟩ : ∃ wo : World, wo = v10 := ⟨_, rfl⟩
        subst hwo
        go_wp2_with fail
        go_loopw [139] (fun i wr => ∃ j : Nat, j ≤ ni ∧ i = .int .i64 j ∧ Below w.heap.size w wr ∧ Below wo.heap.size wo wr) (fun i _ => ni - (intOf i).toNat)
        case atStart => exact ⟨0, Nat.zero_le _, rfl, acc, Below.refl _ _⟩
        case round =>
          obtain ⟨j, hj, rfl, hbw, hbo⟩ := hrel
          by_cases hlt : j < ni
          · skip
            replace hrows := hrows.keep hbo
            obtain ⟨b1, o1, e_, _, hc_⟩ := hrows.cell j hlt
            cases e_
            obtain ⟨a1_, m1, d1, hcell, hat⟩ := hc_ j hlt
            clear hc_
            have hg := Hat.out j (by rw [HL.out]; exact hlt)
            have hcj := fun W h => impl_CardsOf a1_ m1 d1 (C.getD j []) W h
            have hmj : mCardsOf (C.getD j []) = ((C.getD j []).sum, true) := by unfold mCardsOf; rw [good_iff.2 hg.1]; rfl
            simp only [hmj, hg.2] at hcj
            have hpj := fun W h => pSum_any a1_ m1 d1 (C.getD j []) W h hg.1
            rw [hg.2] at hpj
            clear hmj
            have Hcj := Lib.hid hcj; clear hcj
            have Hpj := Lib.hid hpj; clear hpj
            have Hg := Lib.hid hg; clear hg
            cases j with
            | zero =>
              rw [Nat.add_zero] at hcell
              go_wp2_with fail
              with_reducible refine (Hcj.out _ hat).mono ?_
              rintro e v11 ⟨rfl, hb11⟩
              replace hrows := hrows.keep hb11
              replace hat := hat.keep hb11
              replace hbw := belowTrans hbw hb11 (Nat.le_refl _)
              replace hbo := belowTrans hbo hb11 (Nat.le_refl _)
              clear hb11
              go_wp2_with fail
              with_reducible refine (Hpj.out _ hat).mono ?_
              rintro e w' ⟨rfl, rfl⟩
              go_wp2
              go_roundw
              case rel => exact ⟨1, by omega, by go_num, hbw, hbo⟩
              case measure => simp [intOf] <;> omega
            | succ j =>
              go_wp2_with fail
              with_reducible refine (Hcj.out _ hat).mono ?_
              rintro e v11 ⟨rfl, hb11⟩
              replace hrows := hrows.keep hb11
              replace hat := hat.keep hb11
              replace hbw := belowTrans hbw hb11 (Nat.le_refl _)
              replace hbo := belowTrans hbo hb11 (Nat.le_refl _)
              clear hb11
              go_wp2_with fail
              with_reducible refine (Hpj.out _ hat).mono ?_
              rintro e w' ⟨rfl, rfl⟩
              clear hcell
              obtain ⟨b2, o2, e_, _, hc_⟩ := hrows.cell j (by omega)
              cases e_
              obtain ⟨a2_, m2, d2, hcell, hat2⟩ := hc_ j (by omega)
              clear hc_
              have hstep := impl_StepPiles a2_ m2 d2 (C.getD j []) v11 hat2
              simp only [mStep_yes (good_iff.2 (Hat.out j (by rw [HL.out]; omega)).1)] at hstep
              rw [Hst.out j (by rw [HL.out]; omega)] at hstep
              have hjp : (0 : Int) < (j : Int) + 1 := by omega
              have hjw : IntKind.i64.wrap (j : Int) = (j : Int) := IntWalk.i64_in _ (by omega)
              have Hstep := Lib.hid hstep; clear hstep
              go_wp2_with fail
              with_reducible refine (Hstep.out).mono ?_
              rintro e v12 ⟨pz, nz, cz, rfl, hoz, hb12⟩
              replace hrows := hrows.keep hb12
              replace hat := hat.keep hb12
              replace hbw := belowTrans hbw hb12 (Nat.le_refl _)
              replace hbo := belowTrans hbo hb12 (Nat.le_refl _)
              clear hb12
              clear hcell hat2
              have hc := pSame_any _ _ _ _ _ _ _ _ _ hoz.at hat
              rw [decide_eq_true rfl] at hc
              have Hc := Lib.hid hc; clear hc
              go_wp2_with fail
              with_reducible refine (Hc.out).mono ?_
              rintro e v13 ⟨rfl, hb13⟩
              replace hrows := hrows.keep hb13
              replace hat := hat.keep hb13
              replace hoz := hoz.keep hb13
              replace hbw := belowTrans hbw hb13 (Nat.le_refl _)
              replace hbo := belowTrans hbo hb13 (Nat.le_refl _)
              clear hb13
              clear Hc
              go_wp2
              go_roundw
              case rel => exact ⟨j + 2, by omega, by go_num, hbw, hbo⟩
              case measure => simp [intOf] <;> omega
          · go_wp2
            go_ret
            exact ⟨rfl, hbw⟩
      | succ J =>
        have hr := fun a n c W h => impl_StepsFrom a n c (stepL ys) (J : Int) W h
        simp only [mSteps_yes (good_iff.2 (stepL_good gY)) (show J ≤ 1000 by omega)] at hr
        rw [← stepsL_front] at hr
        rw [show (J : Int) = j - 1 by omega] at hr
        have hj1 : 1 ≤ j := by omega
        have hj2 : j ≤ 1000 := by omega
        clear hj gY hJJ hj0 hJ
        generalize stepsL (J + 1) ys = zs at hi hs hr
        generalize stepL ys = ys1 at hb hr
        have Hi := Lib.hid hi; clear hi
        have Hs := Lib.hid hs; clear hs
        have Hb := Lib.hid hb; clear hb
        have Hr := Lib.hid hr; clear hr
        go_wp2_with fail
        with_reducible refine (Hi.out _ ho2.at).mono ?_
        rintro e v6 ⟨pe, ne, ce, rfl, hoe, hb6⟩
        replace ho1 := ho1.keep hb6
        replace hoi := hoi.keep hb6
        replace ho2 := ho2.keep hb6
        replace acc := belowTrans acc hb6 (Nat.le_refl _)
        clear hb6
        go_wp2_with fail
        with_reducible refine (Hs.out _ ho2.at).mono ?_
        rintro e v7 ⟨pg, ng, cg, rfl, hog, hb7⟩
        replace ho1 := ho1.keep hb7
        replace hoi := hoi.keep hb7
        replace ho2 := ho2.keep hb7
        replace hoe := hoe.keep hb7
        replace acc := belowTrans acc hb7 (Nat.le_refl _)
        clear hb7
        have hc := pSame_any _ _ _ _ _ _ _ _ _ hoe.at hog.at
        rw [decide_eq_true rfl] at hc
        have Hc := Lib.hid hc; clear hc
        go_wp2_with fail
        with_reducible refine (Hc.out).mono ?_
        rintro e v8 ⟨rfl, hb8⟩
        replace ho1 := ho1.keep hb8
        replace hoi := hoi.keep hb8
        replace ho2 := ho2.keep hb8
        replace hoe := hoe.keep hb8
        replace hog := hog.keep hb8
        replace acc := belowTrans acc hb8 (Nat.le_refl _)
        clear hb8
        clear Hc
        clear hog
        clear Hi Hs
        go_wp2_with fail
        with_reducible refine (Hb.out _ ho2.at).mono ?_
        rintro e v9 ⟨pf, nf, cf, rfl, hof, hb9⟩
        replace ho1 := ho1.keep hb9
        replace hoi := hoi.keep hb9
        replace ho2 := ho2.keep hb9
        replace hoe := hoe.keep hb9
        replace acc := belowTrans acc hb9 (Nat.le_refl _)
        clear hb9
        go_wp2_with fail
        with_reducible refine (Hr.out _ _ _ _ hof.at).mono ?_
        rintro e v10 ⟨ph, nh, ch, rfl, hoh, hb10⟩
        replace ho1 := ho1.keep hb10
        replace hoi := hoi.keep hb10
        replace ho2 := ho2.keep hb10
        replace hoe := hoe.keep hb10
        replace hof := hof.keep hb10
        replace acc := belowTrans acc hb10 (Nat.le_refl _)
        clear hb10
        have hc := pSame_any _ _ _ _ _ _ _ _ _ hoh.at hoe.at
        rw [decide_eq_true rfl] at hc
        have Hc := Lib.hid hc; clear hc
        go_wp2_with fail
        with_reducible refine (Hc.out).mono ?_
        rintro e v11 ⟨rfl, hb11⟩
        replace ho1 := ho1.keep hb11
        replace hoi := hoi.keep hb11
        replace ho2 := ho2.keep hb11
        replace hoe := hoe.keep hb11
        replace hof := hof.keep hb11
        replace hoh := hoh.keep hb11
        replace acc := belowTrans acc hb11 (Nat.le_refl _)
        clear hb11
        clear Hc
        clear hof
        clear hoh
        clear hoe
        clear ho2
        clear Hb Hr
        have hl := hoi.length
        have hni8 := hoi.at.lenInt
        have hkk := Hlen2.out
        rw [hl] at hkk
        have hn1 : 0 < ni := by omega
        have HL := Lib.hid hl; clear hl Hlen2
        go_wp2_with fail
        with_reducible refine (Hcd.out _ ho1.at).mono ?_
        rintro e v12 ⟨rfl, hb12⟩
        replace ho1 := ho1.keep hb12
        replace hoi := hoi.keep hb12
        replace acc := belowTrans acc hb12 (Nat.le_refl _)
        clear hb12
        have hrows := hoi.at
        clear hoi
        obtain ⟨b0, o0, e_, _, hc_⟩ := hrows.cell 0 hn1
        cases e_
        obtain ⟨a0_, m0, c0, hcell, hat0⟩ := hc_ 0 hn1
        clear hc_
        rw [Nat.add_zero] at hcell
        rw [H00.out] at hat0
        have h01 : (0 : Int) < (ni : Int) := by omega
        have hc := pSame_any _ _ _ _ _ _ _ _ _ hat0 ho1.at
        rw [decide_eq_true rfl] at hc
        have Hc := Lib.hid hc; clear hc
        go_wp2_with fail
        with_reducible refine (Hc.out).mono ?_
        rintro e v13 ⟨rfl, hb13⟩
        replace ho1 := ho1.keep hb13
        replace hrows := hrows.keep hb13
        replace acc := belowTrans acc hb13 (Nat.le_refl _)
        clear hb13
        clear Hc
        clear hcell hat0 Hcd
        clear ho1
        clear hkk
        obtain ⟨wo, hwo⟩ : ∃ wo : World, wo = v13 := ⟨_, rfl⟩
        subst hwo
        go_wp2_with fail
        go_loopw [139] (fun i wr => ∃ j : Nat, j ≤ ni ∧ i = .int .i64 j ∧ Below w.heap.size w wr ∧ Below wo.heap.size wo wr) (fun i _ => ni - (intOf i).toNat)
        case atStart => exact ⟨0, Nat.zero_le _, rfl, acc, Below.refl _ _⟩
        case round =>
          obtain ⟨j, hj, rfl, hbw, hbo⟩ := hrel
          by_cases hlt : j < ni
          · skip
            replace hrows := hrows.keep hbo
            obtain ⟨b1, o1, e_, _, hc_⟩ := hrows.cell j hlt
            cases e_
            obtain ⟨a1_, m1, d1, hcell, hat⟩ := hc_ j hlt
            clear hc_
            have hg := Hat.out j (by rw [HL.out]; exact hlt)
            have hcj := fun W h => impl_CardsOf a1_ m1 d1 (C.getD j []) W h
            have hmj : mCardsOf (C.getD j []) = ((C.getD j []).sum, true) := by unfold mCardsOf; rw [good_iff.2 hg.1]; rfl
            simp only [hmj, hg.2] at hcj
            have hpj := fun W h => pSum_any a1_ m1 d1 (C.getD j []) W h hg.1
            rw [hg.2] at hpj
            clear hmj
            have Hcj := Lib.hid hcj; clear hcj
            have Hpj := Lib.hid hpj; clear hpj
            have Hg := Lib.hid hg; clear hg
            cases j with
            | zero =>
              rw [Nat.add_zero] at hcell
              go_wp2_with fail
              with_reducible refine (Hcj.out _ hat).mono ?_
              rintro e v14 ⟨rfl, hb14⟩
              replace hrows := hrows.keep hb14
              replace hat := hat.keep hb14
              replace hbw := belowTrans hbw hb14 (Nat.le_refl _)
              replace hbo := belowTrans hbo hb14 (Nat.le_refl _)
              clear hb14
              go_wp2_with fail
              with_reducible refine (Hpj.out _ hat).mono ?_
              rintro e w' ⟨rfl, rfl⟩
              go_wp2
              go_roundw
              case rel => exact ⟨1, by omega, by go_num, hbw, hbo⟩
              case measure => simp [intOf] <;> omega
            | succ j =>
              go_wp2_with fail
              with_reducible refine (Hcj.out _ hat).mono ?_
              rintro e v14 ⟨rfl, hb14⟩
              replace hrows := hrows.keep hb14
              replace hat := hat.keep hb14
              replace hbw := belowTrans hbw hb14 (Nat.le_refl _)
              replace hbo := belowTrans hbo hb14 (Nat.le_refl _)
              clear hb14
              go_wp2_with fail
              with_reducible refine (Hpj.out _ hat).mono ?_
              rintro e w' ⟨rfl, rfl⟩
              clear hcell
              obtain ⟨b2, o2, e_, _, hc_⟩ := hrows.cell j (by omega)
              cases e_
              obtain ⟨a2_, m2, d2, hcell, hat2⟩ := hc_ j (by omega)
              clear hc_
              have hstep := impl_StepPiles a2_ m2 d2 (C.getD j []) v14 hat2
              simp only [mStep_yes (good_iff.2 (Hat.out j (by rw [HL.out]; omega)).1)] at hstep
              rw [Hst.out j (by rw [HL.out]; omega)] at hstep
              have hjp : (0 : Int) < (j : Int) + 1 := by omega
              have hjw : IntKind.i64.wrap (j : Int) = (j : Int) := IntWalk.i64_in _ (by omega)
              have Hstep := Lib.hid hstep; clear hstep
              go_wp2_with fail
              with_reducible refine (Hstep.out).mono ?_
              rintro e v15 ⟨pz, nz, cz, rfl, hoz, hb15⟩
              replace hrows := hrows.keep hb15
              replace hat := hat.keep hb15
              replace hbw := belowTrans hbw hb15 (Nat.le_refl _)
              replace hbo := belowTrans hbo hb15 (Nat.le_refl _)
              clear hb15
              clear hcell hat2
              have hc := pSame_any _ _ _ _ _ _ _ _ _ hoz.at hat
              rw [decide_eq_true rfl] at hc
              have Hc := Lib.hid hc; clear hc
              go_wp2_with fail
              with_reducible refine (Hc.out).mono ?_
              rintro e v16 ⟨rfl, hb16⟩
              replace hrows := hrows.keep hb16
              replace hat := hat.keep hb16
              replace hoz := hoz.keep hb16
              replace hbw := belowTrans hbw hb16 (Nat.le_refl _)
              replace hbo := belowTrans hbo hb16 (Nat.le_refl _)
              clear hb16
              clear Hc
              go_wp2
              go_roundw
              case rel => exact ⟨j + 2, by omega, by go_num, hbw, hbo⟩
              case measure => simp [intOf] <;> omega
          · go_wp2
            go_ret
            exact ⟨rfl, hbw⟩
    · skip
      have hm : mStepsFrom ys j = ([], false) := by unfold mStepsFrom; rw [if_neg hj]
      simp only [hm] at hi hs
      have Hi := Lib.hid hi; clear hi
      have Hs := Lib.hid hs; clear hs
      go_wp2_with fail
      with_reducible refine (Hi.out _ ho2.at).mono ?_
      rintro e v6 ⟨pe, ne, ce, rfl, hoe, hb6⟩
      replace ho1 := ho1.keep hb6
      replace hoi := hoi.keep hb6
      replace ho2 := ho2.keep hb6
      replace acc := belowTrans acc hb6 (Nat.le_refl _)
      clear hb6
      go_wp2_with fail
      with_reducible refine (Hs.out _ ho2.at).mono ?_
      rintro e v7 ⟨pg, ng, cg, rfl, hog, hb7⟩
      replace ho1 := ho1.keep hb7
      replace hoi := hoi.keep hb7
      replace ho2 := ho2.keep hb7
      replace hoe := hoe.keep hb7
      replace acc := belowTrans acc hb7 (Nat.le_refl _)
      clear hb7
      have hc := pSame_any _ _ _ _ _ _ _ _ _ hoe.at hog.at
      rw [decide_eq_true rfl] at hc
      have Hc := Lib.hid hc; clear hc
      go_wp2_with fail
      with_reducible refine (Hc.out).mono ?_
      rintro e v8 ⟨rfl, hb8⟩
      replace ho1 := ho1.keep hb8
      replace hoi := hoi.keep hb8
      replace ho2 := ho2.keep hb8
      replace hoe := hoe.keep hb8
      replace hog := hog.keep hb8
      replace acc := belowTrans acc hb8 (Nat.le_refl _)
      clear hb8
      clear Hc
      clear Hi Hs
      have hl := hoi.length
      have hni8 := hoi.at.lenInt
      have hkk := Hlen2.out
      rw [hl] at hkk
      have hn1 : 0 < ni := by omega
      have HL := Lib.hid hl; clear hl Hlen2
      go_wp2_with fail
      with_reducible refine (Hcd.out _ ho1.at).mono ?_
      rintro e v9 ⟨rfl, hb9⟩
      replace ho1 := ho1.keep hb9
      replace hoi := hoi.keep hb9
      replace acc := belowTrans acc hb9 (Nat.le_refl _)
      clear hb9
      have hrows := hoi.at
      clear hoi
      obtain ⟨b0, o0, e_, _, hc_⟩ := hrows.cell 0 hn1
      cases e_
      obtain ⟨a0_, m0, c0, hcell, hat0⟩ := hc_ 0 hn1
      clear hc_
      rw [Nat.add_zero] at hcell
      rw [H00.out] at hat0
      have h01 : (0 : Int) < (ni : Int) := by omega
      have hc := pSame_any _ _ _ _ _ _ _ _ _ hat0 ho1.at
      rw [decide_eq_true rfl] at hc
      have Hc := Lib.hid hc; clear hc
      go_wp2_with fail
      with_reducible refine (Hc.out).mono ?_
      rintro e v10 ⟨rfl, hb10⟩
      replace ho1 := ho1.keep hb10
      replace hrows := hrows.keep hb10
      replace acc := belowTrans acc hb10 (Nat.le_refl _)
      clear hb10
      clear Hc
      clear hcell hat0 Hcd
      clear ho1
      clear hkk
      obtain ⟨wo, hwo⟩ : ∃ wo : World, wo = v10 := ⟨_, rfl⟩
      subst hwo
      go_wp2_with fail
      go_loopw [139] (fun i wr => ∃ j : Nat, j ≤ ni ∧ i = .int .i64 j ∧ Below w.heap.size w wr ∧ Below wo.heap.size wo wr) (fun i _ => ni - (intOf i).toNat)
      case atStart => exact ⟨0, Nat.zero_le _, rfl, acc, Below.refl _ _⟩
      case round =>
        obtain ⟨j, hj, rfl, hbw, hbo⟩ := hrel
        by_cases hlt : j < ni
        · skip
          replace hrows := hrows.keep hbo
          obtain ⟨b1, o1, e_, _, hc_⟩ := hrows.cell j hlt
          cases e_
          obtain ⟨a1_, m1, d1, hcell, hat⟩ := hc_ j hlt
          clear hc_
          have hg := Hat.out j (by rw [HL.out]; exact hlt)
          have hcj := fun W h => impl_CardsOf a1_ m1 d1 (C.getD j []) W h
          have hmj : mCardsOf (C.getD j []) = ((C.getD j []).sum, true) := by unfold mCardsOf; rw [good_iff.2 hg.1]; rfl
          simp only [hmj, hg.2] at hcj
          have hpj := fun W h => pSum_any a1_ m1 d1 (C.getD j []) W h hg.1
          rw [hg.2] at hpj
          clear hmj
          have Hcj := Lib.hid hcj; clear hcj
          have Hpj := Lib.hid hpj; clear hpj
          have Hg := Lib.hid hg; clear hg
          cases j with
          | zero =>
            rw [Nat.add_zero] at hcell
            go_wp2_with fail
            with_reducible refine (Hcj.out _ hat).mono ?_
            rintro e v11 ⟨rfl, hb11⟩
            replace hrows := hrows.keep hb11
            replace hat := hat.keep hb11
            replace hbw := belowTrans hbw hb11 (Nat.le_refl _)
            replace hbo := belowTrans hbo hb11 (Nat.le_refl _)
            clear hb11
            go_wp2_with fail
            with_reducible refine (Hpj.out _ hat).mono ?_
            rintro e w' ⟨rfl, rfl⟩
            go_wp2
            go_roundw
            case rel => exact ⟨1, by omega, by go_num, hbw, hbo⟩
            case measure => simp [intOf] <;> omega
          | succ j =>
            go_wp2_with fail
            with_reducible refine (Hcj.out _ hat).mono ?_
            rintro e v11 ⟨rfl, hb11⟩
            replace hrows := hrows.keep hb11
            replace hat := hat.keep hb11
            replace hbw := belowTrans hbw hb11 (Nat.le_refl _)
            replace hbo := belowTrans hbo hb11 (Nat.le_refl _)
            clear hb11
            go_wp2_with fail
            with_reducible refine (Hpj.out _ hat).mono ?_
            rintro e w' ⟨rfl, rfl⟩
            clear hcell
            obtain ⟨b2, o2, e_, _, hc_⟩ := hrows.cell j (by omega)
            cases e_
            obtain ⟨a2_, m2, d2, hcell, hat2⟩ := hc_ j (by omega)
            clear hc_
            have hstep := impl_StepPiles a2_ m2 d2 (C.getD j []) v11 hat2
            simp only [mStep_yes (good_iff.2 (Hat.out j (by rw [HL.out]; omega)).1)] at hstep
            rw [Hst.out j (by rw [HL.out]; omega)] at hstep
            have hjp : (0 : Int) < (j : Int) + 1 := by omega
            have hjw : IntKind.i64.wrap (j : Int) = (j : Int) := IntWalk.i64_in _ (by omega)
            have Hstep := Lib.hid hstep; clear hstep
            go_wp2_with fail
            with_reducible refine (Hstep.out).mono ?_
            rintro e v12 ⟨pz, nz, cz, rfl, hoz, hb12⟩
            replace hrows := hrows.keep hb12
            replace hat := hat.keep hb12
            replace hbw := belowTrans hbw hb12 (Nat.le_refl _)
            replace hbo := belowTrans hbo hb12 (Nat.le_refl _)
            clear hb12
            clear hcell hat2
            have hc := pSame_any _ _ _ _ _ _ _ _ _ hoz.at hat
            rw [decide_eq_true rfl] at hc
            have Hc := Lib.hid hc; clear hc
            go_wp2_with fail
            with_reducible refine (Hc.out).mono ?_
            rintro e v13 ⟨rfl, hb13⟩
            replace hrows := hrows.keep hb13
            replace hat := hat.keep hb13
            replace hoz := hoz.keep hb13
            replace hbw := belowTrans hbw hb13 (Nat.le_refl _)
            replace hbo := belowTrans hbo hb13 (Nat.le_refl _)
            clear hb13
            clear Hc
            go_wp2
            go_roundw
            case rel => exact ⟨j + 2, by omega, by go_num, hbw, hbo⟩
            case measure => simp [intOf] <;> omega
        · go_wp2
          go_ret
          exact ⟨rfl, hbw⟩
  · skip
    have hm : mPlayOf xs k = ([], false) := by unfold mPlayOf; rw [if_neg hk]
    simp only [hm] at hi hs
    have Hi := Lib.hid hi; clear hi
    have Hs := Lib.hid hs; clear hs
    go_wp2_with fail
    with_reducible refine (Hi.out _ ho1.at).mono ?_
    rintro e v2 ⟨pi, ni, ci, rfl, hoi, hb2⟩
    replace ho1 := ho1.keep hb2
    replace acc := belowTrans acc hb2 (Nat.le_refl _)
    clear hb2
    go_wp2_with fail
    with_reducible refine (Hs.out _ ho1.at).mono ?_
    rintro e v3 ⟨ps, ns, cs, rfl, hos, hb3⟩
    replace ho1 := ho1.keep hb3
    replace hoi := hoi.keep hb3
    replace acc := belowTrans acc hb3 (Nat.le_refl _)
    clear hb3
    have hc := pSameLists_any _ _ _ _ _ _ _ _ _ hoi.at hos.at
    rw [decide_eq_true rfl] at hc
    have Hc := Lib.hid hc; clear hc
    go_wp2_with fail
    with_reducible refine (Hc.out).mono ?_
    rintro e v4 ⟨rfl, hb4⟩
    replace ho1 := ho1.keep hb4
    replace hoi := hoi.keep hb4
    replace hos := hos.keep hb4
    replace acc := belowTrans acc hb4 (Nat.le_refl _)
    clear hb4
    clear Hc
    clear hos
    clear Hi Hs
    go_wp2_with fail
    with_reducible refine (Hf.out _ acc).mono ?_
    rintro e v5 ⟨p2, n2, c2, ys, j, rfl, ho2, hnear, hj0, hj1, hb5⟩
    replace ho1 := ho1.keep hb5
    replace hoi := hoi.keep hb5
    replace acc := belowTrans acc hb5 (Nat.le_refl _)
    clear hb5
    clear Hf hnear
    have hi := fun W h => impl_StepsFrom p2 n2 c2 ys j W h
    have hs := fun W h => spec_StepsFrom p2 n2 c2 ys j W h
    by_cases hj : goodB ys = true ∧ 0 ≤ j ∧ j ≤ 1000
    · skip
      have gY := good_iff.1 hj.1
      obtain ⟨J, hJJ⟩ : ∃ J : Nat, j = J := ⟨j.toNat, by omega⟩
      have hJ : J ≤ 1000 := by omega
      have hmj : mStepsFrom ys j = (stepsL J ys, true) := by rw [hJJ]; exact mSteps_yes hj.1 hJ
      simp only [hmj] at hi hs
      clear hmj
      have hb := fun W h => impl_StepPiles p2 n2 c2 ys W h
      simp only [mStep_yes hj.1] at hb
      cases J with
      | zero =>
        obtain rfl : j = 0 := hJJ
        have Hi := Lib.hid hi; clear hi
        have Hs := Lib.hid hs; clear hs
        have Hb := Lib.hid hb; clear hb
        go_wp2_with fail
        with_reducible refine (Hi.out _ ho2.at).mono ?_
        rintro e v6 ⟨pe, ne, ce, rfl, hoe, hb6⟩
        replace ho1 := ho1.keep hb6
        replace hoi := hoi.keep hb6
        replace ho2 := ho2.keep hb6
        replace acc := belowTrans acc hb6 (Nat.le_refl _)
        clear hb6
        go_wp2_with fail
        with_reducible refine (Hs.out _ ho2.at).mono ?_
        rintro e v7 ⟨pg, ng, cg, rfl, hog, hb7⟩
        replace ho1 := ho1.keep hb7
        replace hoi := hoi.keep hb7
        replace ho2 := ho2.keep hb7
        replace hoe := hoe.keep hb7
        replace acc := belowTrans acc hb7 (Nat.le_refl _)
        clear hb7
        have hc := pSame_any _ _ _ _ _ _ _ _ _ hoe.at hog.at
        rw [decide_eq_true rfl] at hc
        have Hc := Lib.hid hc; clear hc
        go_wp2_with fail
        with_reducible refine (Hc.out).mono ?_
        rintro e v8 ⟨rfl, hb8⟩
        replace ho1 := ho1.keep hb8
        replace hoi := hoi.keep hb8
        replace ho2 := ho2.keep hb8
        replace hoe := hoe.keep hb8
        replace hog := hog.keep hb8
        replace acc := belowTrans acc hb8 (Nat.le_refl _)
        clear hb8
        clear Hc
        clear hog
        clear Hi Hs
        clear Hb
        go_wp2
        go_ret
        exact ⟨rfl, acc⟩
      | succ J =>
        have hr := fun a n c W h => impl_StepsFrom a n c (stepL ys) (J : Int) W h
        simp only [mSteps_yes (good_iff.2 (stepL_good gY)) (show J ≤ 1000 by omega)] at hr
        rw [← stepsL_front] at hr
        rw [show (J : Int) = j - 1 by omega] at hr
        have hj1 : 1 ≤ j := by omega
        have hj2 : j ≤ 1000 := by omega
        clear hj gY hJJ hj0 hJ
        generalize stepsL (J + 1) ys = zs at hi hs hr
        generalize stepL ys = ys1 at hb hr
        have Hi := Lib.hid hi; clear hi
        have Hs := Lib.hid hs; clear hs
        have Hb := Lib.hid hb; clear hb
        have Hr := Lib.hid hr; clear hr
        go_wp2_with fail
        with_reducible refine (Hi.out _ ho2.at).mono ?_
        rintro e v6 ⟨pe, ne, ce, rfl, hoe, hb6⟩
        replace ho1 := ho1.keep hb6
        replace hoi := hoi.keep hb6
        replace ho2 := ho2.keep hb6
        replace acc := belowTrans acc hb6 (Nat.le_refl _)
        clear hb6
        go_wp2_with fail
        with_reducible refine (Hs.out _ ho2.at).mono ?_
        rintro e v7 ⟨pg, ng, cg, rfl, hog, hb7⟩
        replace ho1 := ho1.keep hb7
        replace hoi := hoi.keep hb7
        replace ho2 := ho2.keep hb7
        replace hoe := hoe.keep hb7
        replace acc := belowTrans acc hb7 (Nat.le_refl _)
        clear hb7
        have hc := pSame_any _ _ _ _ _ _ _ _ _ hoe.at hog.at
        rw [decide_eq_true rfl] at hc
        have Hc := Lib.hid hc; clear hc
        go_wp2_with fail
        with_reducible refine (Hc.out).mono ?_
        rintro e v8 ⟨rfl, hb8⟩
        replace ho1 := ho1.keep hb8
        replace hoi := hoi.keep hb8
        replace ho2 := ho2.keep hb8
        replace hoe := hoe.keep hb8
        replace hog := hog.keep hb8
        replace acc := belowTrans acc hb8 (Nat.le_refl _)
        clear hb8
        clear Hc
        clear hog
        clear Hi Hs
        go_wp2_with fail
        with_reducible refine (Hb.out _ ho2.at).mono ?_
        rintro e v9 ⟨pf, nf, cf, rfl, hof, hb9⟩
        replace ho1 := ho1.keep hb9
        replace hoi := hoi.keep hb9
        replace ho2 := ho2.keep hb9
        replace hoe := hoe.keep hb9
        replace acc := belowTrans acc hb9 (Nat.le_refl _)
        clear hb9
        go_wp2_with fail
        with_reducible refine (Hr.out _ _ _ _ hof.at).mono ?_
        rintro e v10 ⟨ph, nh, ch, rfl, hoh, hb10⟩
        replace ho1 := ho1.keep hb10
        replace hoi := hoi.keep hb10
        replace ho2 := ho2.keep hb10
        replace hoe := hoe.keep hb10
        replace hof := hof.keep hb10
        replace acc := belowTrans acc hb10 (Nat.le_refl _)
        clear hb10
        have hc := pSame_any _ _ _ _ _ _ _ _ _ hoh.at hoe.at
        rw [decide_eq_true rfl] at hc
        have Hc := Lib.hid hc; clear hc
        go_wp2_with fail
        with_reducible refine (Hc.out).mono ?_
        rintro e v11 ⟨rfl, hb11⟩
        replace ho1 := ho1.keep hb11
        replace hoi := hoi.keep hb11
        replace ho2 := ho2.keep hb11
        replace hoe := hoe.keep hb11
        replace hof := hof.keep hb11
        replace hoh := hoh.keep hb11
        replace acc := belowTrans acc hb11 (Nat.le_refl _)
        clear hb11
        clear Hc
        clear hof
        clear hoh
        clear hoe
        clear ho2
        clear Hb Hr
        go_wp2
        go_ret
        exact ⟨rfl, acc⟩
    · skip
      have hm : mStepsFrom ys j = ([], false) := by unfold mStepsFrom; rw [if_neg hj]
      simp only [hm] at hi hs
      have Hi := Lib.hid hi; clear hi
      have Hs := Lib.hid hs; clear hs
      go_wp2_with fail
      with_reducible refine (Hi.out _ ho2.at).mono ?_
      rintro e v6 ⟨pe, ne, ce, rfl, hoe, hb6⟩
      replace ho1 := ho1.keep hb6
      replace hoi := hoi.keep hb6
      replace ho2 := ho2.keep hb6
      replace acc := belowTrans acc hb6 (Nat.le_refl _)
      clear hb6
      go_wp2_with fail
      with_reducible refine (Hs.out _ ho2.at).mono ?_
      rintro e v7 ⟨pg, ng, cg, rfl, hog, hb7⟩
      replace ho1 := ho1.keep hb7
      replace hoi := hoi.keep hb7
      replace ho2 := ho2.keep hb7
      replace hoe := hoe.keep hb7
      replace acc := belowTrans acc hb7 (Nat.le_refl _)
      clear hb7
      have hc := pSame_any _ _ _ _ _ _ _ _ _ hoe.at hog.at
      rw [decide_eq_true rfl] at hc
      have Hc := Lib.hid hc; clear hc
      go_wp2_with fail
      with_reducible refine (Hc.out).mono ?_
      rintro e v8 ⟨rfl, hb8⟩
      replace ho1 := ho1.keep hb8
      replace hoi := hoi.keep hb8
      replace ho2 := ho2.keep hb8
      replace hoe := hoe.keep hb8
      replace hog := hog.keep hb8
      replace acc := belowTrans acc hb8 (Nat.le_refl _)
      clear hb8
      clear Hc
      clear Hi Hs
      go_wp2
      go_ret
      exact ⟨rfl, acc⟩

/-! ### THE ROW's STEP: WRITTEN OUT: LEAVE IT -/
set_option maxRecDepth 100000 in
theorem lifted (os : Os) (started : os.Started) (H : Type) (enc : TypeId × Value → H) :
    ReturnsInHanded {} Try.checked os 3 .any (Rows.fnStepsKeepCardsSpec.pre6 enc Try.prog Try.f3 Rows.fnStepsKeepCardsRow.domain false) (Rows.fnStepsKeepCardsSpec.post enc Try.prog Try.f3 false true false false) := by
  refine returnsInHanded_of_change (C := Try.checked) own started (by kernel_rfl) Try.func3
    (ChangeSpec.witness6 (enc := enc) (C := Try.checked) false ⟨#[], #[.slice none 0 0, .slice none 0 0], []⟩ 8 (by kernel_rfl) (by kernel_rfl) (by kernel_rfl) (by kernel_rfl)) ?_
  intro W base args ds gs before hval0 hW hcnd _
  have hval : ∀ (j : Nat) t v, Try.f3.params[j]? = some t → args[j]? = some v → Value.okWide Try.prog W .any base t v := hval0
  have hW' := hW
  obtain ⟨p, q, hA0, hV, rfl, hfz, hnd⟩ := hW
  have hA : DataW.TrodAll enc Try.prog W 0 (fun _ => true) true Try.f3.params.toList args.toList ds p := hA0
  rw [Try.params3] at hA hval
  obtain ⟨v0, vs0, d0, ds0, p0, q0, hargs, rfl, rfl, h0, r0⟩ := trodAll_cons hA
  obtain ⟨v1, vs1, d1, ds1, p1, q1, rfl, rfl, rfl, h1, r1⟩ := trodAll_cons r0
  obtain ⟨rfl, rfl, rfl⟩ := trodAll_nil r1
  obtain rfl : args = #[v0, v1] := by cases args; simp_all
  obtain ⟨rfl, rfl⟩ := trodVars_none hV
  obtain ⟨a0, len0, cap0, rfl⟩ := okWide_slice Try.underlying22 (hval 0 22 v0 rfl rfl)
  have k0 := h0
  have lt0 : ∀ x ∈ p0, x.block < W.heap.size := by obtain ⟨m, hm⟩ := k0; exact DataW.trod_lt m _ _ _ hm
  obtain ⟨z0, w0⟩ : ∃ zs, IsRow .u8 W a0 len0 cap0 zs := by
    obtain ⟨fuel, hf⟩ := h0
    rcases open_ints Try.underlying22 Try.underlying5 (by kernel_rfl) hf with ⟨hcs, _⟩ | ⟨x, l, c, zs, hcs, _, hl, hm, hz, _, hcell, hwz⟩
    · simp [Value.cells] at hcs
      obtain ⟨rfl, rfl, rfl⟩ := hcs
      exact ⟨[], .inl ⟨rfl, rfl, rfl, rfl⟩⟩
    · simp [Value.cells] at hcs
      obtain ⟨rfl, rfl, rfl⟩ := hcs
      exact ⟨zs, .inr ⟨_, rfl, hl, hm, by simpa using hz, hcell, hwz⟩⟩
  obtain ⟨a1, len1, cap1, rfl⟩ := okWide_slice Try.underlying22 (hval 1 22 v1 rfl rfl)
  have k1 := h1
  have lt1 : ∀ x ∈ p1, x.block < W.heap.size := by obtain ⟨m, hm⟩ := k1; exact DataW.trod_lt m _ _ _ hm
  obtain ⟨z1, w1⟩ : ∃ zs, IsRow .u8 W a1 len1 cap1 zs := by
    obtain ⟨fuel, hf⟩ := h1
    rcases open_ints Try.underlying22 Try.underlying5 (by kernel_rfl) hf with ⟨hcs, _⟩ | ⟨x, l, c, zs, hcs, _, hl, hm, hz, _, hcell, hwz⟩
    · simp [Value.cells] at hcs
      obtain ⟨rfl, rfl, rfl⟩ := hcs
      exact ⟨[], .inl ⟨rfl, rfl, rfl, rfl⟩⟩
    · simp [Value.cells] at hcs
      obtain ⟨rfl, rfl, rfl⟩ := hcs
      exact ⟨zs, .inr ⟨_, rfl, hl, hm, by simpa using hz, hcell, hwz⟩⟩
  clear hA0 hval0
  refine (walk a0 len0 cap0 z0 a1 len1 cap1 z1 W w0 w1).mono fun e W' ⟨he, bel⟩ => ?_
  subst he
  exact ⟨_, rfl, _, _, _, [], _, [], hW', trodAll_mk1 (shut_bool Try.underlying4 _), (trodAll_cons_mk (Below.trod laidOut (by kernel_rfl) (of_decide_eq_true (by kernel_rfl)) k0 bel lt0) (trodAll_cons_mk (Below.trod laidOut (by kernel_rfl) (of_decide_eq_true (by kernel_rfl)) k1 bel lt1) trodAll_mk0)), rfl, bel.frame _, fun h => by cases h⟩

theorem closedFacts : joinedFacts Try.prog 3 Try.f3 Rows.fnStepsKeepCardsSpec Rows.fnStepsKeepCardsRow = true := by
  unfold joinedFacts
  rw [head_enter, head_lifts, head_make]
  kernel_rfl
theorem closedHere : joinedFacts Try.pinned.checked.prog 3 Try.f3 Rows.fnStepsKeepCardsSpec Rows.fnStepsKeepCardsRow = true := by
  rw [progEq]
  exact closedFacts
theorem over : Rows.fnStepsKeepCardsRow.holds Try.pinned (OpenSpec.ofChange Rows.fnStepsKeepCardsSpec) :=
  OpenClaim.holds_of_wide 3 Try.f3 rfl rfl rfl rfl rfl rfl rfl ⟨rfl, rfl, rfl, rfl, rfl⟩ rfl rfl rfl rfl rfl (by kernel_rfl) Try.func3 closedHere
    (of_decide_eq_true (by kernel_rfl)) (by unfold Func.isWrapper; first | (rw [if_pos (by decide +kernel)]; kernel_rfl) | (rw [if_neg (by decide +kernel)]; exact ⟨rfl, rfl⟩))
    (fun os started H enc _ => lifted os started H enc)

/-- ████ THE STATEMENT ████ -/
theorem proved : Rows.FnStepsKeepCardsSaid := over
#print axioms proved
end Go.Proofs.Ytkhphdohdnfplaa.fnStepsKeepCards
