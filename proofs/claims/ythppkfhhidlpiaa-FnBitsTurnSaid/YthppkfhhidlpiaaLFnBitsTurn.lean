/- FnBitsTurn: for every input the law returns true and leaves its arguments as they were. No condition. -/
import Derived.Test.YthppkfhhidlpiaaRows
import Derived.WalkKit
import Derived.ProofKit
import Derived.OpenShut
import Derived.ShutString
import Derived.ChangeOld
import Derived.Below
import Derived.Test.YthppkfhhidlpiaaHead
import Derived.Test.YthppkfhhidlpiaaGe
import Derived.Test.YthppkfhhidlpiaaGd
import Derived.Test.YthppkfhhidlpiaaRingF
import Derived.Test.YthppkfhhidlpiaaOrbC
import Derived.Test.YthppkfhhidlpiaaSteps
namespace Go.Proofs.Ythppkfhhidlpiaa.fnBitsTurn
set_option linter.unusedSimpArgs false
open Go.ChangeShapes Go.WideShapes Go.ChangeAt Go.RowKit
open Go.ChangeMaps (open_string shut_string)
set_option linter.unusedVariables false

theorem own : ownKnob Try.prog.godebug = none := by kernel_rfl
theorem laidOut : laidOutB Try.prog = true := by kernel_rfl

/-- WHAT THE WALK IS TOLD OF A SLICE OF INTEGERS THAT CAME IN: it is nil; or it leads to a row of 'cap' cells, the numbers 'zs' (the first 'len' are its elements, the rest its spare room), each fitting its kind. -/
def IsRow (k : IntKind) (w : World) (a : Option Addr) (len cap : Nat) (zs : List Int) : Prop :=
  (a = none ∧ len = 0 ∧ cap = 0 ∧ zs = []) ∨
  ∃ x, a = some x ∧ len ≤ cap ∧ cap ≤ maxLen ∧ zs.length = cap ∧ (∀ i, i < zs.length → w.cell? (x.add i) = some (.int k (zs.getD i 0))) ∧ ∀ n ∈ zs, (Lit.int k n).wf = true

/-! ### THE WALK: the Go text returns true, AND WRITES NOTHING THAT WAS THERE: 'Below w.heap.size w w'' (Derived/Below.lean: '.refl', '.alloc', '.drew', '.setCell' at a new block, '.trans'). Open each 'IsRow' by 'rcases' AHEAD of 'go_enter'; part every test ahead of the walk. -/
set_option maxHeartbeats 4000000 in
set_option maxRecDepth 100000 in
theorem walk (a0 : Option Addr) (len0 cap0 : Nat) (z0 : List Int) (a1 : Option Addr) (len1 cap1 : Nat) (z1 : List Int) (w : World) (w0 : IsRow .u8 w a0 len0 cap0 z0) (w1 : IsRow .u8 w a1 len1 cap1 z1) :
    Calls Try.prog 4 #[.slice a0 len0 cap0, .slice a1 len1 cap1] w fun e w' => e = .returned (.bool true) ∧ Below w.heap.size w w' := by
  have by0 := byteIn_row w0
  have by1 := byteIn_row w1
  have hl0 : len0 ≤ maxLen := by
    rcases w0 with ⟨_, h, _⟩ | ⟨x, _, h, h', _⟩
    · rw [h]; exact Nat.zero_le _
    · exact Nat.le_trans h h'
  clear w0 w1
  by_cases hbig : 1048576 < len0 ∨ (1048576 : Int) - len0 < len1
  · have hb := big_yes a0 a1 len0 len1 cap0 cap1 w hbig hl0
    have Hb := Lib.hid hb; clear hb
    go_enter Try.func4, Try.ntmps4
    go_wp2_with fail
    with_reducible refine (Hb.out).mono ?_
    rintro e w' ⟨rfl, rfl⟩
    go_wp2
    go_ret
    exact ⟨rfl, Below.refl _ _⟩
  have hb := big_no a0 a1 len0 len1 cap0 cap1 w (by omega) (by omega)
  have hd := DrawTurnBits_any a0 len0 cap0 w (by omega) by0
  have hf := fun W (h : Below w.heap.size w W) => DrawBitsOf_any a1 len1 cap1 W (by omega) (by1.up (Nat.le_refl _) h h.size)
  have Hb := Lib.hid hb; clear hb
  have Hd := Lib.hid hd; clear hd
  have Hf := Lib.hid hf; clear hf
  clear by0 by1 hl0 hbig
  have acc : Below w.heap.size w w := Below.refl _ _
  go_enter Try.func4, Try.ntmps4
  go_wp2_with fail
  with_reducible refine (Hb.out).mono ?_
  rintro e w' ⟨rfl, rfl⟩
  clear Hb
  go_wp2_with fail
  with_reducible refine (Hd.out).mono ?_
  rintro e v1 ⟨p1, n1, c1, bs, k, rfl, ho1, hn9, hk1, hk2, hb1⟩
  replace acc := belowTrans acc hb1 (Nat.le_refl _)
  clear hb1
  clear Hd
  have hi := fun W h => impl_TurnBits p1 n1 c1 bs k W h
  have hs := fun W h => spec_TurnBits p1 n1 c1 bs k W h
  have hj := fun W h => impl_FromBits p1 n1 c1 bs W h
  have hk := fun W h => spec_FromBits p1 n1 c1 bs W h
  obtain ⟨T, f, eT⟩ : ∃ T f, mTurnBits bs k = (T, f) := ⟨_, _, rfl⟩
  obtain ⟨P, g, eP⟩ : ∃ P g, mFromBits bs = (P, g) := ⟨_, _, rfl⟩
  by_cases hall : (bitsB bs = true ∧ 0 ≤ k ∧ k ≤ 1000) ∧ goodB (fromB bs) = true
  · skip
    obtain ⟨⟨hb, hk0, hk3⟩, hg⟩ := hall
    obtain ⟨K, rfl⟩ := Int.eq_ofNat_of_zero_le hk0
    have hK : K ≤ 1000 := by omega
    have htf := turn_from hb hg hK
    clear eT eP T f P g
    simp only [mTurn_yes hb hK] at hi hs
    simp only [mFrom_yes hb hg] at hj hk
    have hx := fun a n c W h => impl_BitsOf a n c (fromB bs) W h
    have hy := fun a n c W h => impl_StepsFrom a n c (fromB bs) (K : Int) W h
    have hz := fun a n c W h => impl_FromBits a n c (rotN K bs) W h
    simp only [htf.1] at hx
    simp only [htf.2.1] at hy
    simp only [htf.2.2] at hz
    generalize fromB (rotN K bs) = R at hy hz
    generalize fromB bs = P at hj hk hx hy
    generalize rotN K bs = T at hi hs hz
    clear htf hb hk0 hk3 hg
    have Hi := Lib.hid hi; clear hi
    have Hs := Lib.hid hs; clear hs
    have Hj := Lib.hid hj; clear hj
    have Hk := Lib.hid hk; clear hk
    have Hx := Lib.hid hx; clear hx
    have Hy := Lib.hid hy; clear hy
    have Hz := Lib.hid hz; clear hz
    go_wp2_with fail
    with_reducible refine (Hi.out _ ho1.at).mono ?_
    rintro e v2 ⟨pt, nt, ct, rfl, hot, hb2⟩
    replace ho1 := ho1.keep hb2
    replace acc := belowTrans acc hb2 (Nat.le_refl _)
    clear hb2
    go_wp2_with fail
    with_reducible refine (Hs.out _ ho1.at).mono ?_
    rintro e v3 ⟨ps, ns, cs, rfl, hos, hb3⟩
    replace ho1 := ho1.keep hb3
    replace hot := hot.keep hb3
    replace acc := belowTrans acc hb3 (Nat.le_refl _)
    clear hb3
    clear Hi Hs
    have hc := pSame_any _ _ _ _ _ _ _ _ _ hot.at hos.at
    rw [decide_eq_true rfl] at hc
    have Hc := Lib.hid hc; clear hc
    go_wp2_with fail
    with_reducible refine (Hc.out).mono ?_
    rintro e v4 ⟨rfl, hb4⟩
    replace ho1 := ho1.keep hb4
    replace hot := hot.keep hb4
    replace hos := hos.keep hb4
    replace acc := belowTrans acc hb4 (Nat.le_refl _)
    clear hb4
    clear Hc
    clear hos
    go_wp2_with fail
    with_reducible refine (Hj.out _ ho1.at).mono ?_
    rintro e v5 ⟨pp, np, cp, rfl, hop, hb5⟩
    replace ho1 := ho1.keep hb5
    replace hot := hot.keep hb5
    replace acc := belowTrans acc hb5 (Nat.le_refl _)
    clear hb5
    go_wp2_with fail
    with_reducible refine (Hk.out _ ho1.at).mono ?_
    rintro e v6 ⟨ps, ns, cs, rfl, hos, hb6⟩
    replace ho1 := ho1.keep hb6
    replace hot := hot.keep hb6
    replace hop := hop.keep hb6
    replace acc := belowTrans acc hb6 (Nat.le_refl _)
    clear hb6
    clear Hj Hk
    have hc := pSame_any _ _ _ _ _ _ _ _ _ hop.at hos.at
    rw [decide_eq_true rfl] at hc
    have Hc := Lib.hid hc; clear hc
    go_wp2_with fail
    with_reducible refine (Hc.out).mono ?_
    rintro e v7 ⟨rfl, hb7⟩
    replace ho1 := ho1.keep hb7
    replace hot := hot.keep hb7
    replace hop := hop.keep hb7
    replace hos := hos.keep hb7
    replace acc := belowTrans acc hb7 (Nat.le_refl _)
    clear hb7
    clear Hc
    clear hos
    go_wp2_with fail
    with_reducible refine (Hf.out _ acc).mono ?_
    rintro e v8 ⟨p2, n2, c2, ys, rfl, ho2, hb8⟩
    replace ho1 := ho1.keep hb8
    replace hot := hot.keep hb8
    replace hop := hop.keep hb8
    replace acc := belowTrans acc hb8 (Nat.le_refl _)
    clear hb8
    clear Hf
    have hi := fun W h => impl_BitsOf p2 n2 c2 ys W h
    have hs := fun W h => spec_BitsOf p2 n2 c2 ys W h
    have hcy := fun W h => pCyclic_any p2 n2 c2 ys W h
    by_cases hc : goodB ys = true ∧ cycB ys = true
    · skip
      simp only [mBits_yes hc.1 hc.2] at hi hs
      rw [hc.1, hc.2] at hcy
      simp only [Bool.and_self] at hcy
      have hbk := fun a n c W h => impl_FromBits a n c (bitsL ys) W h
      simp only [bits_back hc.1 hc.2] at hbk
      generalize bitsL ys = B at hi hs hbk
      clear hc
      have Hi := Lib.hid hi; clear hi
      have Hs := Lib.hid hs; clear hs
      have Hcy := Lib.hid hcy; clear hcy
      have Hbk := Lib.hid hbk; clear hbk
      go_wp2_with fail
      with_reducible refine (Hi.out _ ho2.at).mono ?_
      rintro e v9 ⟨pe, ne, ce, rfl, hoe, hb9⟩
      replace ho1 := ho1.keep hb9
      replace hot := hot.keep hb9
      replace hop := hop.keep hb9
      replace ho2 := ho2.keep hb9
      replace acc := belowTrans acc hb9 (Nat.le_refl _)
      clear hb9
      go_wp2_with fail
      with_reducible refine (Hs.out _ ho2.at).mono ?_
      rintro e v10 ⟨pg, ng, cg, rfl, hog, hb10⟩
      replace ho1 := ho1.keep hb10
      replace hot := hot.keep hb10
      replace hop := hop.keep hb10
      replace ho2 := ho2.keep hb10
      replace hoe := hoe.keep hb10
      replace acc := belowTrans acc hb10 (Nat.le_refl _)
      clear hb10
      have hc := pSame_any _ _ _ _ _ _ _ _ _ hoe.at hog.at
      rw [decide_eq_true rfl] at hc
      have Hc := Lib.hid hc; clear hc
      go_wp2_with fail
      with_reducible refine (Hc.out).mono ?_
      rintro e v11 ⟨rfl, hb11⟩
      replace ho1 := ho1.keep hb11
      replace hot := hot.keep hb11
      replace hop := hop.keep hb11
      replace ho2 := ho2.keep hb11
      replace hoe := hoe.keep hb11
      replace hog := hog.keep hb11
      replace acc := belowTrans acc hb11 (Nat.le_refl _)
      clear hb11
      clear Hc
      clear hog
      go_wp2_with fail
      with_reducible refine (Hcy.out _ ho2.at).mono ?_
      rintro e v12 ⟨rfl, hb12⟩
      replace ho1 := ho1.keep hb12
      replace hot := hot.keep hb12
      replace hop := hop.keep hb12
      replace ho2 := ho2.keep hb12
      replace hoe := hoe.keep hb12
      replace acc := belowTrans acc hb12 (Nat.le_refl _)
      clear hb12
      clear Hi Hs Hcy
      go_wp2_with fail
      with_reducible refine (Hbk.out _ _ _ _ hoe.at).mono ?_
      rintro e v13 ⟨pq, nq, cq, rfl, hoq, hb13⟩
      replace ho1 := ho1.keep hb13
      replace hot := hot.keep hb13
      replace hop := hop.keep hb13
      replace ho2 := ho2.keep hb13
      replace hoe := hoe.keep hb13
      replace acc := belowTrans acc hb13 (Nat.le_refl _)
      clear hb13
      clear Hbk
      have hc := pSame_any _ _ _ _ _ _ _ _ _ hoq.at ho2.at
      rw [decide_eq_true rfl] at hc
      have Hc := Lib.hid hc; clear hc
      go_wp2_with fail
      with_reducible refine (Hc.out).mono ?_
      rintro e v14 ⟨rfl, hb14⟩
      replace ho1 := ho1.keep hb14
      replace hot := hot.keep hb14
      replace hop := hop.keep hb14
      replace ho2 := ho2.keep hb14
      replace hoe := hoe.keep hb14
      replace hoq := hoq.keep hb14
      replace acc := belowTrans acc hb14 (Nat.le_refl _)
      clear hb14
      clear Hc
      clear hoq
      clear hoe
      clear ho2
      go_wp2_with fail
      with_reducible refine (Hx.out _ _ _ _ hop.at).mono ?_
      rintro e v15 ⟨pu, nu, cu, rfl, hou, hb15⟩
      replace ho1 := ho1.keep hb15
      replace hot := hot.keep hb15
      replace hop := hop.keep hb15
      replace acc := belowTrans acc hb15 (Nat.le_refl _)
      clear hb15
      go_wp2_with fail
      with_reducible refine (Hy.out _ _ _ _ hop.at).mono ?_
      rintro e v16 ⟨pv, nv, cv, rfl, hov, hb16⟩
      replace ho1 := ho1.keep hb16
      replace hot := hot.keep hb16
      replace hop := hop.keep hb16
      replace hou := hou.keep hb16
      replace acc := belowTrans acc hb16 (Nat.le_refl _)
      clear hb16
      go_wp2_with fail
      with_reducible refine (Hz.out _ _ _ _ hot.at).mono ?_
      rintro e v17 ⟨pw, nw, cw, rfl, how, hb17⟩
      replace ho1 := ho1.keep hb17
      replace hot := hot.keep hb17
      replace hop := hop.keep hb17
      replace hou := hou.keep hb17
      replace hov := hov.keep hb17
      replace acc := belowTrans acc hb17 (Nat.le_refl _)
      clear hb17
      clear Hx Hy Hz
      have hc := pSame_any _ _ _ _ _ _ _ _ _ hou.at ho1.at
      rw [decide_eq_true rfl] at hc
      have Hc := Lib.hid hc; clear hc
      go_wp2_with fail
      with_reducible refine (Hc.out).mono ?_
      rintro e v18 ⟨rfl, hb18⟩
      replace ho1 := ho1.keep hb18
      replace hot := hot.keep hb18
      replace hop := hop.keep hb18
      replace hou := hou.keep hb18
      replace hov := hov.keep hb18
      replace how := how.keep hb18
      replace acc := belowTrans acc hb18 (Nat.le_refl _)
      clear hb18
      clear Hc
      have hc := pSame_any _ _ _ _ _ _ _ _ _ hov.at how.at
      rw [decide_eq_true rfl] at hc
      have Hc := Lib.hid hc; clear hc
      go_wp2_with fail
      with_reducible refine (Hc.out).mono ?_
      rintro e v19 ⟨rfl, hb19⟩
      replace ho1 := ho1.keep hb19
      replace hot := hot.keep hb19
      replace hop := hop.keep hb19
      replace hou := hou.keep hb19
      replace hov := hov.keep hb19
      replace how := how.keep hb19
      replace acc := belowTrans acc hb19 (Nat.le_refl _)
      clear hb19
      clear Hc
      go_wp2
      go_ret
      exact ⟨rfl, acc⟩
    · skip
      have e1 : mBitsOf ys = ([], false) := by unfold mBitsOf; rw [if_neg hc]
      have e2 : (goodB ys && cycB ys) = false := by
        cases g1 : goodB ys
        · rfl
        · cases g2 : cycB ys
          · rfl
          · exact absurd ⟨g1, g2⟩ hc
      simp only [e1] at hi hs
      simp only [e2] at hcy
      clear e1 e2 hc
      have Hi := Lib.hid hi; clear hi
      have Hs := Lib.hid hs; clear hs
      have Hcy := Lib.hid hcy; clear hcy
      go_wp2_with fail
      with_reducible refine (Hi.out _ ho2.at).mono ?_
      rintro e v9 ⟨pe, ne, ce, rfl, hoe, hb9⟩
      replace ho1 := ho1.keep hb9
      replace hot := hot.keep hb9
      replace hop := hop.keep hb9
      replace ho2 := ho2.keep hb9
      replace acc := belowTrans acc hb9 (Nat.le_refl _)
      clear hb9
      go_wp2_with fail
      with_reducible refine (Hs.out _ ho2.at).mono ?_
      rintro e v10 ⟨pg, ng, cg, rfl, hog, hb10⟩
      replace ho1 := ho1.keep hb10
      replace hot := hot.keep hb10
      replace hop := hop.keep hb10
      replace ho2 := ho2.keep hb10
      replace hoe := hoe.keep hb10
      replace acc := belowTrans acc hb10 (Nat.le_refl _)
      clear hb10
      have hc := pSame_any _ _ _ _ _ _ _ _ _ hoe.at hog.at
      rw [decide_eq_true rfl] at hc
      have Hc := Lib.hid hc; clear hc
      go_wp2_with fail
      with_reducible refine (Hc.out).mono ?_
      rintro e v11 ⟨rfl, hb11⟩
      replace ho1 := ho1.keep hb11
      replace hot := hot.keep hb11
      replace hop := hop.keep hb11
      replace ho2 := ho2.keep hb11
      replace hoe := hoe.keep hb11
      replace hog := hog.keep hb11
      replace acc := belowTrans acc hb11 (Nat.le_refl _)
      clear hb11
      clear Hc
      clear hog
      go_wp2_with fail
      with_reducible refine (Hcy.out _ ho2.at).mono ?_
      rintro e v12 ⟨rfl, hb12⟩
      replace ho1 := ho1.keep hb12
      replace hot := hot.keep hb12
      replace hop := hop.keep hb12
      replace ho2 := ho2.keep hb12
      replace hoe := hoe.keep hb12
      replace acc := belowTrans acc hb12 (Nat.le_refl _)
      clear hb12
      clear Hi Hs Hcy
      clear hoe
      clear ho2
      go_wp2_with fail
      with_reducible refine (Hx.out _ _ _ _ hop.at).mono ?_
      rintro e v13 ⟨pu, nu, cu, rfl, hou, hb13⟩
      replace ho1 := ho1.keep hb13
      replace hot := hot.keep hb13
      replace hop := hop.keep hb13
      replace acc := belowTrans acc hb13 (Nat.le_refl _)
      clear hb13
      go_wp2_with fail
      with_reducible refine (Hy.out _ _ _ _ hop.at).mono ?_
      rintro e v14 ⟨pv, nv, cv, rfl, hov, hb14⟩
      replace ho1 := ho1.keep hb14
      replace hot := hot.keep hb14
      replace hop := hop.keep hb14
      replace hou := hou.keep hb14
      replace acc := belowTrans acc hb14 (Nat.le_refl _)
      clear hb14
      go_wp2_with fail
      with_reducible refine (Hz.out _ _ _ _ hot.at).mono ?_
      rintro e v15 ⟨pw, nw, cw, rfl, how, hb15⟩
      replace ho1 := ho1.keep hb15
      replace hot := hot.keep hb15
      replace hop := hop.keep hb15
      replace hou := hou.keep hb15
      replace hov := hov.keep hb15
      replace acc := belowTrans acc hb15 (Nat.le_refl _)
      clear hb15
      clear Hx Hy Hz
      have hc := pSame_any _ _ _ _ _ _ _ _ _ hou.at ho1.at
      rw [decide_eq_true rfl] at hc
      have Hc := Lib.hid hc; clear hc
      go_wp2_with fail
      with_reducible refine (Hc.out).mono ?_
      rintro e v16 ⟨rfl, hb16⟩
      replace ho1 := ho1.keep hb16
      replace hot := hot.keep hb16
      replace hop := hop.keep hb16
      replace hou := hou.keep hb16
      replace hov := hov.keep hb16
      replace how := how.keep hb16
      replace acc := belowTrans acc hb16 (Nat.le_refl _)
      clear hb16
      clear Hc
      have hc := pSame_any _ _ _ _ _ _ _ _ _ hov.at how.at
      rw [decide_eq_true rfl] at hc
      have Hc := Lib.hid hc; clear hc
      go_wp2_with fail
      with_reducible refine (Hc.out).mono ?_
      rintro e v17 ⟨rfl, hb17⟩
      replace ho1 := ho1.keep hb17
      replace hot := hot.keep hb17
      replace hop := hop.keep hb17
      replace hou := hou.keep hb17
      replace hov := hov.keep hb17
      replace how := how.keep hb17
      replace acc := belowTrans acc hb17 (Nat.le_refl _)
      clear hb17
      clear Hc
      go_wp2
      go_ret
      exact ⟨rfl, acc⟩
  · skip
    have hfg : ¬ (f = true ∧ g = true) := fun h => by
      have q1 : bitsB bs = true ∧ 0 ≤ k ∧ k ≤ 1000 := by
        have := congrArg Prod.snd eT
        unfold mTurnBits at this
        split at this
        · next hh => exact hh
        · rw [h.1] at this; cases this
      have q2 : goodB (fromB bs) = true := by
        have := congrArg Prod.snd eP
        unfold mFromBits at this
        split at this
        · next hh => exact hh.2
        · rw [h.2] at this; cases this
      exact hall ⟨q1, q2⟩
    simp only [eT] at hi hs
    simp only [eP] at hj hk
    clear eT eP hall
    cases f
    · skip
      clear hfg
      cases g
      · skip
        have Hi := Lib.hid hi; clear hi
        have Hs := Lib.hid hs; clear hs
        have Hj := Lib.hid hj; clear hj
        have Hk := Lib.hid hk; clear hk
        go_wp2_with fail
        with_reducible refine (Hi.out _ ho1.at).mono ?_
        rintro e v2 ⟨pt, nt, ct, rfl, hot, hb2⟩
        replace ho1 := ho1.keep hb2
        replace acc := belowTrans acc hb2 (Nat.le_refl _)
        clear hb2
        go_wp2_with fail
        with_reducible refine (Hs.out _ ho1.at).mono ?_
        rintro e v3 ⟨ps, ns, cs, rfl, hos, hb3⟩
        replace ho1 := ho1.keep hb3
        replace hot := hot.keep hb3
        replace acc := belowTrans acc hb3 (Nat.le_refl _)
        clear hb3
        clear Hi Hs
        have hc := pSame_any _ _ _ _ _ _ _ _ _ hot.at hos.at
        rw [decide_eq_true rfl] at hc
        have Hc := Lib.hid hc; clear hc
        go_wp2_with fail
        with_reducible refine (Hc.out).mono ?_
        rintro e v4 ⟨rfl, hb4⟩
        replace ho1 := ho1.keep hb4
        replace hot := hot.keep hb4
        replace hos := hos.keep hb4
        replace acc := belowTrans acc hb4 (Nat.le_refl _)
        clear hb4
        clear Hc
        clear hos
        go_wp2_with fail
        with_reducible refine (Hj.out _ ho1.at).mono ?_
        rintro e v5 ⟨pp, np, cp, rfl, hop, hb5⟩
        replace ho1 := ho1.keep hb5
        replace hot := hot.keep hb5
        replace acc := belowTrans acc hb5 (Nat.le_refl _)
        clear hb5
        go_wp2_with fail
        with_reducible refine (Hk.out _ ho1.at).mono ?_
        rintro e v6 ⟨ps, ns, cs, rfl, hos, hb6⟩
        replace ho1 := ho1.keep hb6
        replace hot := hot.keep hb6
        replace hop := hop.keep hb6
        replace acc := belowTrans acc hb6 (Nat.le_refl _)
        clear hb6
        clear Hj Hk
        have hc := pSame_any _ _ _ _ _ _ _ _ _ hop.at hos.at
        rw [decide_eq_true rfl] at hc
        have Hc := Lib.hid hc; clear hc
        go_wp2_with fail
        with_reducible refine (Hc.out).mono ?_
        rintro e v7 ⟨rfl, hb7⟩
        replace ho1 := ho1.keep hb7
        replace hot := hot.keep hb7
        replace hop := hop.keep hb7
        replace hos := hos.keep hb7
        replace acc := belowTrans acc hb7 (Nat.le_refl _)
        clear hb7
        clear Hc
        clear hos
        go_wp2_with fail
        with_reducible refine (Hf.out _ acc).mono ?_
        rintro e v8 ⟨p2, n2, c2, ys, rfl, ho2, hb8⟩
        replace ho1 := ho1.keep hb8
        replace hot := hot.keep hb8
        replace hop := hop.keep hb8
        replace acc := belowTrans acc hb8 (Nat.le_refl _)
        clear hb8
        clear Hf
        have hi := fun W h => impl_BitsOf p2 n2 c2 ys W h
        have hs := fun W h => spec_BitsOf p2 n2 c2 ys W h
        have hcy := fun W h => pCyclic_any p2 n2 c2 ys W h
        by_cases hc : goodB ys = true ∧ cycB ys = true
        · skip
          simp only [mBits_yes hc.1 hc.2] at hi hs
          rw [hc.1, hc.2] at hcy
          simp only [Bool.and_self] at hcy
          have hbk := fun a n c W h => impl_FromBits a n c (bitsL ys) W h
          simp only [bits_back hc.1 hc.2] at hbk
          generalize bitsL ys = B at hi hs hbk
          clear hc
          have Hi := Lib.hid hi; clear hi
          have Hs := Lib.hid hs; clear hs
          have Hcy := Lib.hid hcy; clear hcy
          have Hbk := Lib.hid hbk; clear hbk
          go_wp2_with fail
          with_reducible refine (Hi.out _ ho2.at).mono ?_
          rintro e v9 ⟨pe, ne, ce, rfl, hoe, hb9⟩
          replace ho1 := ho1.keep hb9
          replace hot := hot.keep hb9
          replace hop := hop.keep hb9
          replace ho2 := ho2.keep hb9
          replace acc := belowTrans acc hb9 (Nat.le_refl _)
          clear hb9
          go_wp2_with fail
          with_reducible refine (Hs.out _ ho2.at).mono ?_
          rintro e v10 ⟨pg, ng, cg, rfl, hog, hb10⟩
          replace ho1 := ho1.keep hb10
          replace hot := hot.keep hb10
          replace hop := hop.keep hb10
          replace ho2 := ho2.keep hb10
          replace hoe := hoe.keep hb10
          replace acc := belowTrans acc hb10 (Nat.le_refl _)
          clear hb10
          have hc := pSame_any _ _ _ _ _ _ _ _ _ hoe.at hog.at
          rw [decide_eq_true rfl] at hc
          have Hc := Lib.hid hc; clear hc
          go_wp2_with fail
          with_reducible refine (Hc.out).mono ?_
          rintro e v11 ⟨rfl, hb11⟩
          replace ho1 := ho1.keep hb11
          replace hot := hot.keep hb11
          replace hop := hop.keep hb11
          replace ho2 := ho2.keep hb11
          replace hoe := hoe.keep hb11
          replace hog := hog.keep hb11
          replace acc := belowTrans acc hb11 (Nat.le_refl _)
          clear hb11
          clear Hc
          clear hog
          go_wp2_with fail
          with_reducible refine (Hcy.out _ ho2.at).mono ?_
          rintro e v12 ⟨rfl, hb12⟩
          replace ho1 := ho1.keep hb12
          replace hot := hot.keep hb12
          replace hop := hop.keep hb12
          replace ho2 := ho2.keep hb12
          replace hoe := hoe.keep hb12
          replace acc := belowTrans acc hb12 (Nat.le_refl _)
          clear hb12
          clear Hi Hs Hcy
          go_wp2_with fail
          with_reducible refine (Hbk.out _ _ _ _ hoe.at).mono ?_
          rintro e v13 ⟨pq, nq, cq, rfl, hoq, hb13⟩
          replace ho1 := ho1.keep hb13
          replace hot := hot.keep hb13
          replace hop := hop.keep hb13
          replace ho2 := ho2.keep hb13
          replace hoe := hoe.keep hb13
          replace acc := belowTrans acc hb13 (Nat.le_refl _)
          clear hb13
          clear Hbk
          have hc := pSame_any _ _ _ _ _ _ _ _ _ hoq.at ho2.at
          rw [decide_eq_true rfl] at hc
          have Hc := Lib.hid hc; clear hc
          go_wp2_with fail
          with_reducible refine (Hc.out).mono ?_
          rintro e v14 ⟨rfl, hb14⟩
          replace ho1 := ho1.keep hb14
          replace hot := hot.keep hb14
          replace hop := hop.keep hb14
          replace ho2 := ho2.keep hb14
          replace hoe := hoe.keep hb14
          replace hoq := hoq.keep hb14
          replace acc := belowTrans acc hb14 (Nat.le_refl _)
          clear hb14
          clear Hc
          clear hoq
          clear hoe
          clear ho2
          go_wp2
          go_ret
          exact ⟨rfl, acc⟩
        · skip
          have e1 : mBitsOf ys = ([], false) := by unfold mBitsOf; rw [if_neg hc]
          have e2 : (goodB ys && cycB ys) = false := by
            cases g1 : goodB ys
            · rfl
            · cases g2 : cycB ys
              · rfl
              · exact absurd ⟨g1, g2⟩ hc
          simp only [e1] at hi hs
          simp only [e2] at hcy
          clear e1 e2 hc
          have Hi := Lib.hid hi; clear hi
          have Hs := Lib.hid hs; clear hs
          have Hcy := Lib.hid hcy; clear hcy
          go_wp2_with fail
          with_reducible refine (Hi.out _ ho2.at).mono ?_
          rintro e v9 ⟨pe, ne, ce, rfl, hoe, hb9⟩
          replace ho1 := ho1.keep hb9
          replace hot := hot.keep hb9
          replace hop := hop.keep hb9
          replace ho2 := ho2.keep hb9
          replace acc := belowTrans acc hb9 (Nat.le_refl _)
          clear hb9
          go_wp2_with fail
          with_reducible refine (Hs.out _ ho2.at).mono ?_
          rintro e v10 ⟨pg, ng, cg, rfl, hog, hb10⟩
          replace ho1 := ho1.keep hb10
          replace hot := hot.keep hb10
          replace hop := hop.keep hb10
          replace ho2 := ho2.keep hb10
          replace hoe := hoe.keep hb10
          replace acc := belowTrans acc hb10 (Nat.le_refl _)
          clear hb10
          have hc := pSame_any _ _ _ _ _ _ _ _ _ hoe.at hog.at
          rw [decide_eq_true rfl] at hc
          have Hc := Lib.hid hc; clear hc
          go_wp2_with fail
          with_reducible refine (Hc.out).mono ?_
          rintro e v11 ⟨rfl, hb11⟩
          replace ho1 := ho1.keep hb11
          replace hot := hot.keep hb11
          replace hop := hop.keep hb11
          replace ho2 := ho2.keep hb11
          replace hoe := hoe.keep hb11
          replace hog := hog.keep hb11
          replace acc := belowTrans acc hb11 (Nat.le_refl _)
          clear hb11
          clear Hc
          clear hog
          go_wp2_with fail
          with_reducible refine (Hcy.out _ ho2.at).mono ?_
          rintro e v12 ⟨rfl, hb12⟩
          replace ho1 := ho1.keep hb12
          replace hot := hot.keep hb12
          replace hop := hop.keep hb12
          replace ho2 := ho2.keep hb12
          replace hoe := hoe.keep hb12
          replace acc := belowTrans acc hb12 (Nat.le_refl _)
          clear hb12
          clear Hi Hs Hcy
          clear hoe
          clear ho2
          go_wp2
          go_ret
          exact ⟨rfl, acc⟩
      · skip
        have Hi := Lib.hid hi; clear hi
        have Hs := Lib.hid hs; clear hs
        have Hj := Lib.hid hj; clear hj
        have Hk := Lib.hid hk; clear hk
        go_wp2_with fail
        with_reducible refine (Hi.out _ ho1.at).mono ?_
        rintro e v2 ⟨pt, nt, ct, rfl, hot, hb2⟩
        replace ho1 := ho1.keep hb2
        replace acc := belowTrans acc hb2 (Nat.le_refl _)
        clear hb2
        go_wp2_with fail
        with_reducible refine (Hs.out _ ho1.at).mono ?_
        rintro e v3 ⟨ps, ns, cs, rfl, hos, hb3⟩
        replace ho1 := ho1.keep hb3
        replace hot := hot.keep hb3
        replace acc := belowTrans acc hb3 (Nat.le_refl _)
        clear hb3
        clear Hi Hs
        have hc := pSame_any _ _ _ _ _ _ _ _ _ hot.at hos.at
        rw [decide_eq_true rfl] at hc
        have Hc := Lib.hid hc; clear hc
        go_wp2_with fail
        with_reducible refine (Hc.out).mono ?_
        rintro e v4 ⟨rfl, hb4⟩
        replace ho1 := ho1.keep hb4
        replace hot := hot.keep hb4
        replace hos := hos.keep hb4
        replace acc := belowTrans acc hb4 (Nat.le_refl _)
        clear hb4
        clear Hc
        clear hos
        go_wp2_with fail
        with_reducible refine (Hj.out _ ho1.at).mono ?_
        rintro e v5 ⟨pp, np, cp, rfl, hop, hb5⟩
        replace ho1 := ho1.keep hb5
        replace hot := hot.keep hb5
        replace acc := belowTrans acc hb5 (Nat.le_refl _)
        clear hb5
        go_wp2_with fail
        with_reducible refine (Hk.out _ ho1.at).mono ?_
        rintro e v6 ⟨ps, ns, cs, rfl, hos, hb6⟩
        replace ho1 := ho1.keep hb6
        replace hot := hot.keep hb6
        replace hop := hop.keep hb6
        replace acc := belowTrans acc hb6 (Nat.le_refl _)
        clear hb6
        clear Hj Hk
        have hc := pSame_any _ _ _ _ _ _ _ _ _ hop.at hos.at
        rw [decide_eq_true rfl] at hc
        have Hc := Lib.hid hc; clear hc
        go_wp2_with fail
        with_reducible refine (Hc.out).mono ?_
        rintro e v7 ⟨rfl, hb7⟩
        replace ho1 := ho1.keep hb7
        replace hot := hot.keep hb7
        replace hop := hop.keep hb7
        replace hos := hos.keep hb7
        replace acc := belowTrans acc hb7 (Nat.le_refl _)
        clear hb7
        clear Hc
        clear hos
        go_wp2_with fail
        with_reducible refine (Hf.out _ acc).mono ?_
        rintro e v8 ⟨p2, n2, c2, ys, rfl, ho2, hb8⟩
        replace ho1 := ho1.keep hb8
        replace hot := hot.keep hb8
        replace hop := hop.keep hb8
        replace acc := belowTrans acc hb8 (Nat.le_refl _)
        clear hb8
        clear Hf
        have hi := fun W h => impl_BitsOf p2 n2 c2 ys W h
        have hs := fun W h => spec_BitsOf p2 n2 c2 ys W h
        have hcy := fun W h => pCyclic_any p2 n2 c2 ys W h
        by_cases hc : goodB ys = true ∧ cycB ys = true
        · skip
          simp only [mBits_yes hc.1 hc.2] at hi hs
          rw [hc.1, hc.2] at hcy
          simp only [Bool.and_self] at hcy
          have hbk := fun a n c W h => impl_FromBits a n c (bitsL ys) W h
          simp only [bits_back hc.1 hc.2] at hbk
          generalize bitsL ys = B at hi hs hbk
          clear hc
          have Hi := Lib.hid hi; clear hi
          have Hs := Lib.hid hs; clear hs
          have Hcy := Lib.hid hcy; clear hcy
          have Hbk := Lib.hid hbk; clear hbk
          go_wp2_with fail
          with_reducible refine (Hi.out _ ho2.at).mono ?_
          rintro e v9 ⟨pe, ne, ce, rfl, hoe, hb9⟩
          replace ho1 := ho1.keep hb9
          replace hot := hot.keep hb9
          replace hop := hop.keep hb9
          replace ho2 := ho2.keep hb9
          replace acc := belowTrans acc hb9 (Nat.le_refl _)
          clear hb9
          go_wp2_with fail
          with_reducible refine (Hs.out _ ho2.at).mono ?_
          rintro e v10 ⟨pg, ng, cg, rfl, hog, hb10⟩
          replace ho1 := ho1.keep hb10
          replace hot := hot.keep hb10
          replace hop := hop.keep hb10
          replace ho2 := ho2.keep hb10
          replace hoe := hoe.keep hb10
          replace acc := belowTrans acc hb10 (Nat.le_refl _)
          clear hb10
          have hc := pSame_any _ _ _ _ _ _ _ _ _ hoe.at hog.at
          rw [decide_eq_true rfl] at hc
          have Hc := Lib.hid hc; clear hc
          go_wp2_with fail
          with_reducible refine (Hc.out).mono ?_
          rintro e v11 ⟨rfl, hb11⟩
          replace ho1 := ho1.keep hb11
          replace hot := hot.keep hb11
          replace hop := hop.keep hb11
          replace ho2 := ho2.keep hb11
          replace hoe := hoe.keep hb11
          replace hog := hog.keep hb11
          replace acc := belowTrans acc hb11 (Nat.le_refl _)
          clear hb11
          clear Hc
          clear hog
          go_wp2_with fail
          with_reducible refine (Hcy.out _ ho2.at).mono ?_
          rintro e v12 ⟨rfl, hb12⟩
          replace ho1 := ho1.keep hb12
          replace hot := hot.keep hb12
          replace hop := hop.keep hb12
          replace ho2 := ho2.keep hb12
          replace hoe := hoe.keep hb12
          replace acc := belowTrans acc hb12 (Nat.le_refl _)
          clear hb12
          clear Hi Hs Hcy
          go_wp2_with fail
          with_reducible refine (Hbk.out _ _ _ _ hoe.at).mono ?_
          rintro e v13 ⟨pq, nq, cq, rfl, hoq, hb13⟩
          replace ho1 := ho1.keep hb13
          replace hot := hot.keep hb13
          replace hop := hop.keep hb13
          replace ho2 := ho2.keep hb13
          replace hoe := hoe.keep hb13
          replace acc := belowTrans acc hb13 (Nat.le_refl _)
          clear hb13
          clear Hbk
          have hc := pSame_any _ _ _ _ _ _ _ _ _ hoq.at ho2.at
          rw [decide_eq_true rfl] at hc
          have Hc := Lib.hid hc; clear hc
          go_wp2_with fail
          with_reducible refine (Hc.out).mono ?_
          rintro e v14 ⟨rfl, hb14⟩
          replace ho1 := ho1.keep hb14
          replace hot := hot.keep hb14
          replace hop := hop.keep hb14
          replace ho2 := ho2.keep hb14
          replace hoe := hoe.keep hb14
          replace hoq := hoq.keep hb14
          replace acc := belowTrans acc hb14 (Nat.le_refl _)
          clear hb14
          clear Hc
          clear hoq
          clear hoe
          clear ho2
          go_wp2
          go_ret
          exact ⟨rfl, acc⟩
        · skip
          have e1 : mBitsOf ys = ([], false) := by unfold mBitsOf; rw [if_neg hc]
          have e2 : (goodB ys && cycB ys) = false := by
            cases g1 : goodB ys
            · rfl
            · cases g2 : cycB ys
              · rfl
              · exact absurd ⟨g1, g2⟩ hc
          simp only [e1] at hi hs
          simp only [e2] at hcy
          clear e1 e2 hc
          have Hi := Lib.hid hi; clear hi
          have Hs := Lib.hid hs; clear hs
          have Hcy := Lib.hid hcy; clear hcy
          go_wp2_with fail
          with_reducible refine (Hi.out _ ho2.at).mono ?_
          rintro e v9 ⟨pe, ne, ce, rfl, hoe, hb9⟩
          replace ho1 := ho1.keep hb9
          replace hot := hot.keep hb9
          replace hop := hop.keep hb9
          replace ho2 := ho2.keep hb9
          replace acc := belowTrans acc hb9 (Nat.le_refl _)
          clear hb9
          go_wp2_with fail
          with_reducible refine (Hs.out _ ho2.at).mono ?_
          rintro e v10 ⟨pg, ng, cg, rfl, hog, hb10⟩
          replace ho1 := ho1.keep hb10
          replace hot := hot.keep hb10
          replace hop := hop.keep hb10
          replace ho2 := ho2.keep hb10
          replace hoe := hoe.keep hb10
          replace acc := belowTrans acc hb10 (Nat.le_refl _)
          clear hb10
          have hc := pSame_any _ _ _ _ _ _ _ _ _ hoe.at hog.at
          rw [decide_eq_true rfl] at hc
          have Hc := Lib.hid hc; clear hc
          go_wp2_with fail
          with_reducible refine (Hc.out).mono ?_
          rintro e v11 ⟨rfl, hb11⟩
          replace ho1 := ho1.keep hb11
          replace hot := hot.keep hb11
          replace hop := hop.keep hb11
          replace ho2 := ho2.keep hb11
          replace hoe := hoe.keep hb11
          replace hog := hog.keep hb11
          replace acc := belowTrans acc hb11 (Nat.le_refl _)
          clear hb11
          clear Hc
          clear hog
          go_wp2_with fail
          with_reducible refine (Hcy.out _ ho2.at).mono ?_
          rintro e v12 ⟨rfl, hb12⟩
          replace ho1 := ho1.keep hb12
          replace hot := hot.keep hb12
          replace hop := hop.keep hb12
          replace ho2 := ho2.keep hb12
          replace hoe := hoe.keep hb12
          replace acc := belowTrans acc hb12 (Nat.le_refl _)
          clear hb12
          clear Hi Hs Hcy
          clear hoe
          clear ho2
          go_wp2
          go_ret
          exact ⟨rfl, acc⟩
    · cases g
      · skip
        clear hfg
        have Hi := Lib.hid hi; clear hi
        have Hs := Lib.hid hs; clear hs
        have Hj := Lib.hid hj; clear hj
        have Hk := Lib.hid hk; clear hk
        go_wp2_with fail
        with_reducible refine (Hi.out _ ho1.at).mono ?_
        rintro e v2 ⟨pt, nt, ct, rfl, hot, hb2⟩
        replace ho1 := ho1.keep hb2
        replace acc := belowTrans acc hb2 (Nat.le_refl _)
        clear hb2
        go_wp2_with fail
        with_reducible refine (Hs.out _ ho1.at).mono ?_
        rintro e v3 ⟨ps, ns, cs, rfl, hos, hb3⟩
        replace ho1 := ho1.keep hb3
        replace hot := hot.keep hb3
        replace acc := belowTrans acc hb3 (Nat.le_refl _)
        clear hb3
        clear Hi Hs
        have hc := pSame_any _ _ _ _ _ _ _ _ _ hot.at hos.at
        rw [decide_eq_true rfl] at hc
        have Hc := Lib.hid hc; clear hc
        go_wp2_with fail
        with_reducible refine (Hc.out).mono ?_
        rintro e v4 ⟨rfl, hb4⟩
        replace ho1 := ho1.keep hb4
        replace hot := hot.keep hb4
        replace hos := hos.keep hb4
        replace acc := belowTrans acc hb4 (Nat.le_refl _)
        clear hb4
        clear Hc
        clear hos
        go_wp2_with fail
        with_reducible refine (Hj.out _ ho1.at).mono ?_
        rintro e v5 ⟨pp, np, cp, rfl, hop, hb5⟩
        replace ho1 := ho1.keep hb5
        replace hot := hot.keep hb5
        replace acc := belowTrans acc hb5 (Nat.le_refl _)
        clear hb5
        go_wp2_with fail
        with_reducible refine (Hk.out _ ho1.at).mono ?_
        rintro e v6 ⟨ps, ns, cs, rfl, hos, hb6⟩
        replace ho1 := ho1.keep hb6
        replace hot := hot.keep hb6
        replace hop := hop.keep hb6
        replace acc := belowTrans acc hb6 (Nat.le_refl _)
        clear hb6
        clear Hj Hk
        have hc := pSame_any _ _ _ _ _ _ _ _ _ hop.at hos.at
        rw [decide_eq_true rfl] at hc
        have Hc := Lib.hid hc; clear hc
        go_wp2_with fail
        with_reducible refine (Hc.out).mono ?_
        rintro e v7 ⟨rfl, hb7⟩
        replace ho1 := ho1.keep hb7
        replace hot := hot.keep hb7
        replace hop := hop.keep hb7
        replace hos := hos.keep hb7
        replace acc := belowTrans acc hb7 (Nat.le_refl _)
        clear hb7
        clear Hc
        clear hos
        go_wp2_with fail
        with_reducible refine (Hf.out _ acc).mono ?_
        rintro e v8 ⟨p2, n2, c2, ys, rfl, ho2, hb8⟩
        replace ho1 := ho1.keep hb8
        replace hot := hot.keep hb8
        replace hop := hop.keep hb8
        replace acc := belowTrans acc hb8 (Nat.le_refl _)
        clear hb8
        clear Hf
        have hi := fun W h => impl_BitsOf p2 n2 c2 ys W h
        have hs := fun W h => spec_BitsOf p2 n2 c2 ys W h
        have hcy := fun W h => pCyclic_any p2 n2 c2 ys W h
        by_cases hc : goodB ys = true ∧ cycB ys = true
        · skip
          simp only [mBits_yes hc.1 hc.2] at hi hs
          rw [hc.1, hc.2] at hcy
          simp only [Bool.and_self] at hcy
          have hbk := fun a n c W h => impl_FromBits a n c (bitsL ys) W h
          simp only [bits_back hc.1 hc.2] at hbk
          generalize bitsL ys = B at hi hs hbk
          clear hc
          have Hi := Lib.hid hi; clear hi
          have Hs := Lib.hid hs; clear hs
          have Hcy := Lib.hid hcy; clear hcy
          have Hbk := Lib.hid hbk; clear hbk
          go_wp2_with fail
          with_reducible refine (Hi.out _ ho2.at).mono ?_
          rintro e v9 ⟨pe, ne, ce, rfl, hoe, hb9⟩
          replace ho1 := ho1.keep hb9
          replace hot := hot.keep hb9
          replace hop := hop.keep hb9
          replace ho2 := ho2.keep hb9
          replace acc := belowTrans acc hb9 (Nat.le_refl _)
          clear hb9
          go_wp2_with fail
          with_reducible refine (Hs.out _ ho2.at).mono ?_
          rintro e v10 ⟨pg, ng, cg, rfl, hog, hb10⟩
          replace ho1 := ho1.keep hb10
          replace hot := hot.keep hb10
          replace hop := hop.keep hb10
          replace ho2 := ho2.keep hb10
          replace hoe := hoe.keep hb10
          replace acc := belowTrans acc hb10 (Nat.le_refl _)
          clear hb10
          have hc := pSame_any _ _ _ _ _ _ _ _ _ hoe.at hog.at
          rw [decide_eq_true rfl] at hc
          have Hc := Lib.hid hc; clear hc
          go_wp2_with fail
          with_reducible refine (Hc.out).mono ?_
          rintro e v11 ⟨rfl, hb11⟩
          replace ho1 := ho1.keep hb11
          replace hot := hot.keep hb11
          replace hop := hop.keep hb11
          replace ho2 := ho2.keep hb11
          replace hoe := hoe.keep hb11
          replace hog := hog.keep hb11
          replace acc := belowTrans acc hb11 (Nat.le_refl _)
          clear hb11
          clear Hc
          clear hog
          go_wp2_with fail
          with_reducible refine (Hcy.out _ ho2.at).mono ?_
          rintro e v12 ⟨rfl, hb12⟩
          replace ho1 := ho1.keep hb12
          replace hot := hot.keep hb12
          replace hop := hop.keep hb12
          replace ho2 := ho2.keep hb12
          replace hoe := hoe.keep hb12
          replace acc := belowTrans acc hb12 (Nat.le_refl _)
          clear hb12
          clear Hi Hs Hcy
          go_wp2_with fail
          with_reducible refine (Hbk.out _ _ _ _ hoe.at).mono ?_
          rintro e v13 ⟨pq, nq, cq, rfl, hoq, hb13⟩
          replace ho1 := ho1.keep hb13
          replace hot := hot.keep hb13
          replace hop := hop.keep hb13
          replace ho2 := ho2.keep hb13
          replace hoe := hoe.keep hb13
          replace acc := belowTrans acc hb13 (Nat.le_refl _)
          clear hb13
          clear Hbk
          have hc := pSame_any _ _ _ _ _ _ _ _ _ hoq.at ho2.at
          rw [decide_eq_true rfl] at hc
          have Hc := Lib.hid hc; clear hc
          go_wp2_with fail
          with_reducible refine (Hc.out).mono ?_
          rintro e v14 ⟨rfl, hb14⟩
          replace ho1 := ho1.keep hb14
          replace hot := hot.keep hb14
          replace hop := hop.keep hb14
          replace ho2 := ho2.keep hb14
          replace hoe := hoe.keep hb14
          replace hoq := hoq.keep hb14
          replace acc := belowTrans acc hb14 (Nat.le_refl _)
          clear hb14
          clear Hc
          clear hoq
          clear hoe
          clear ho2
          go_wp2
          go_ret
          exact ⟨rfl, acc⟩
        · skip
          have e1 : mBitsOf ys = ([], false) := by unfold mBitsOf; rw [if_neg hc]
          have e2 : (goodB ys && cycB ys) = false := by
            cases g1 : goodB ys
            · rfl
            · cases g2 : cycB ys
              · rfl
              · exact absurd ⟨g1, g2⟩ hc
          simp only [e1] at hi hs
          simp only [e2] at hcy
          clear e1 e2 hc
          have Hi := Lib.hid hi; clear hi
          have Hs := Lib.hid hs; clear hs
          have Hcy := Lib.hid hcy; clear hcy
          go_wp2_with fail
          with_reducible refine (Hi.out _ ho2.at).mono ?_
          rintro e v9 ⟨pe, ne, ce, rfl, hoe, hb9⟩
          replace ho1 := ho1.keep hb9
          replace hot := hot.keep hb9
          replace hop := hop.keep hb9
          replace ho2 := ho2.keep hb9
          replace acc := belowTrans acc hb9 (Nat.le_refl _)
          clear hb9
          go_wp2_with fail
          with_reducible refine (Hs.out _ ho2.at).mono ?_
          rintro e v10 ⟨pg, ng, cg, rfl, hog, hb10⟩
          replace ho1 := ho1.keep hb10
          replace hot := hot.keep hb10
          replace hop := hop.keep hb10
          replace ho2 := ho2.keep hb10
          replace hoe := hoe.keep hb10
          replace acc := belowTrans acc hb10 (Nat.le_refl _)
          clear hb10
          have hc := pSame_any _ _ _ _ _ _ _ _ _ hoe.at hog.at
          rw [decide_eq_true rfl] at hc
          have Hc := Lib.hid hc; clear hc
          go_wp2_with fail
          with_reducible refine (Hc.out).mono ?_
          rintro e v11 ⟨rfl, hb11⟩
          replace ho1 := ho1.keep hb11
          replace hot := hot.keep hb11
          replace hop := hop.keep hb11
          replace ho2 := ho2.keep hb11
          replace hoe := hoe.keep hb11
          replace hog := hog.keep hb11
          replace acc := belowTrans acc hb11 (Nat.le_refl _)
          clear hb11
          clear Hc
          clear hog
          go_wp2_with fail
          with_reducible refine (Hcy.out _ ho2.at).mono ?_
          rintro e v12 ⟨rfl, hb12⟩
          replace ho1 := ho1.keep hb12
          replace hot := hot.keep hb12
          replace hop := hop.keep hb12
          replace ho2 := ho2.keep hb12
          replace hoe := hoe.keep hb12
          replace acc := belowTrans acc hb12 (Nat.le_refl _)
          clear hb12
          clear Hi Hs Hcy
          clear hoe
          clear ho2
          go_wp2
          go_ret
          exact ⟨rfl, acc⟩
      · skip
        exact absurd ⟨rfl, rfl⟩ hfg

/-! ### THE ROW's STEP: WRITTEN OUT: LEAVE IT -/
set_option maxRecDepth 100000 in
theorem lifted (os : Os) (started : os.Started) (H : Type) (enc : TypeId × Value → H) :
    ReturnsInHanded {} Try.checked os 4 .any (Rows.fnBitsTurnSpec.pre6 enc Try.prog Try.f4 Rows.fnBitsTurnRow.domain false) (Rows.fnBitsTurnSpec.post enc Try.prog Try.f4 false true false false) := by
  refine returnsInHanded_of_change (C := Try.checked) own started (by kernel_rfl) Try.func4
    (ChangeSpec.witness6 (enc := enc) (C := Try.checked) false ⟨#[], #[.slice none 0 0, .slice none 0 0], []⟩ 8 (by kernel_rfl) (by kernel_rfl) (by kernel_rfl) (by kernel_rfl)) ?_
  intro W base args ds gs before hval0 hW hcnd _
  have hval : ∀ (j : Nat) t v, Try.f4.params[j]? = some t → args[j]? = some v → Value.okWide Try.prog W .any base t v := hval0
  have hW' := hW
  obtain ⟨p, q, hA0, hV, rfl, hfz, hnd⟩ := hW
  have hA : DataW.TrodAll enc Try.prog W 0 (fun _ => true) true Try.f4.params.toList args.toList ds p := hA0
  rw [Try.params4] at hA hval
  obtain ⟨v0, vs0, d0, ds0, p0, q0, hargs, rfl, rfl, h0, r0⟩ := trodAll_cons hA
  obtain ⟨v1, vs1, d1, ds1, p1, q1, rfl, rfl, rfl, h1, r1⟩ := trodAll_cons r0
  obtain ⟨rfl, rfl, rfl⟩ := trodAll_nil r1
  obtain rfl : args = #[v0, v1] := by cases args; simp_all
  obtain ⟨rfl, rfl⟩ := trodVars_none hV
  obtain ⟨a0, len0, cap0, rfl⟩ := okWide_slice Try.underlying22 (hval 0 22 v0 rfl rfl)
  have k0 := h0
  have lt0 : ∀ x ∈ p0, x.block < W.heap.size := by obtain ⟨m, hm⟩ := k0; exact DataW.trod_lt m _ _ _ hm
  obtain ⟨z0, w0⟩ : ∃ zs, IsRow .u8 W a0 len0 cap0 zs := by
    obtain ⟨fuel, hf⟩ := h0
    rcases open_ints Try.underlying22 Try.underlying5 (by kernel_rfl) hf with ⟨hcs, _⟩ | ⟨x, l, c, zs, hcs, _, hl, hm, hz, _, hcell, hwz⟩
    · simp [Value.cells] at hcs
      obtain ⟨rfl, rfl, rfl⟩ := hcs
      exact ⟨[], .inl ⟨rfl, rfl, rfl, rfl⟩⟩
    · simp [Value.cells] at hcs
      obtain ⟨rfl, rfl, rfl⟩ := hcs
      exact ⟨zs, .inr ⟨_, rfl, hl, hm, by simpa using hz, hcell, hwz⟩⟩
  obtain ⟨a1, len1, cap1, rfl⟩ := okWide_slice Try.underlying22 (hval 1 22 v1 rfl rfl)
  have k1 := h1
  have lt1 : ∀ x ∈ p1, x.block < W.heap.size := by obtain ⟨m, hm⟩ := k1; exact DataW.trod_lt m _ _ _ hm
  obtain ⟨z1, w1⟩ : ∃ zs, IsRow .u8 W a1 len1 cap1 zs := by
    obtain ⟨fuel, hf⟩ := h1
    rcases open_ints Try.underlying22 Try.underlying5 (by kernel_rfl) hf with ⟨hcs, _⟩ | ⟨x, l, c, zs, hcs, _, hl, hm, hz, _, hcell, hwz⟩
    · simp [Value.cells] at hcs
      obtain ⟨rfl, rfl, rfl⟩ := hcs
      exact ⟨[], .inl ⟨rfl, rfl, rfl, rfl⟩⟩
    · simp [Value.cells] at hcs
      obtain ⟨rfl, rfl, rfl⟩ := hcs
      exact ⟨zs, .inr ⟨_, rfl, hl, hm, by simpa using hz, hcell, hwz⟩⟩
  clear hA0 hval0
  refine (walk a0 len0 cap0 z0 a1 len1 cap1 z1 W w0 w1).mono fun e W' ⟨he, bel⟩ => ?_
  subst he
  exact ⟨_, rfl, _, _, _, [], _, [], hW', trodAll_mk1 (shut_bool Try.underlying4 _), (trodAll_cons_mk (Below.trod laidOut (by kernel_rfl) (of_decide_eq_true (by kernel_rfl)) k0 bel lt0) (trodAll_cons_mk (Below.trod laidOut (by kernel_rfl) (of_decide_eq_true (by kernel_rfl)) k1 bel lt1) trodAll_mk0)), rfl, bel.frame _, fun h => by cases h⟩

theorem closedFacts : joinedFacts Try.prog 4 Try.f4 Rows.fnBitsTurnSpec Rows.fnBitsTurnRow = true := by
  unfold joinedFacts
  rw [head_enter, head_lifts, head_make]
  kernel_rfl
theorem closedHere : joinedFacts Try.pinned.checked.prog 4 Try.f4 Rows.fnBitsTurnSpec Rows.fnBitsTurnRow = true := by
  rw [progEq]
  exact closedFacts
theorem over : Rows.fnBitsTurnRow.holds Try.pinned (OpenSpec.ofChange Rows.fnBitsTurnSpec) :=
  OpenClaim.holds_of_wide 4 Try.f4 rfl rfl rfl rfl rfl rfl rfl ⟨rfl, rfl, rfl, rfl, rfl⟩ rfl rfl rfl rfl rfl (by kernel_rfl) Try.func4 closedHere
    (of_decide_eq_true (by kernel_rfl)) (by unfold Func.isWrapper; first | (rw [if_pos (by decide +kernel)]; kernel_rfl) | (rw [if_neg (by decide +kernel)]; exact ⟨rfl, rfl⟩))
    (fun os started H enc _ => lifted os started H enc)

/-- ████ THE STATEMENT ████ -/
theorem proved : Rows.FnBitsTurnSaid := over
#print axioms proved
end Go.Proofs.Ythppkfhhidlpiaa.fnBitsTurn
