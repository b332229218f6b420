/- FnPastsAreExact: for every input the law returns true and leaves its arguments as they were. No condition. -/
import Derived.Test.YtkhphdohdnfplaaRows
import Derived.WalkKit
import Derived.ProofKit
import Derived.OpenShut
import Derived.ShutString
import Derived.ChangeOld
import Derived.Below
import Derived.Test.YtkhphdohdnfplaaHead
import Derived.Test.YtkhphdohdnfplaaLawp
import Derived.Test.YtkhphdohdnfplaaLawq
import Derived.Test.YtkhphdohdnfplaaLawr
import Derived.Test.YtkhphdohdnfplaaDrawM
import Derived.Test.YtkhphdohdnfplaaPastsB
import Derived.Test.YtkhphdohdnfplaaAllI
import Derived.Test.YtkhphdohdnfplaaSteps
import Derived.Test.YtkhphdohdnfplaaPast
namespace Go.Proofs.Ytkhphdohdnfplaa.fnPastsAreExact
set_option linter.unusedSimpArgs false
open Go.ChangeShapes Go.WideShapes Go.ChangeAt Go.RowKit
open Go.ChangeMaps (open_string shut_string)
set_option linter.unusedVariables false

theorem own : ownKnob Try.prog.godebug = none := by kernel_rfl
theorem laidOut : laidOutB Try.prog = true := by kernel_rfl

/-- WHAT THE WALK IS TOLD OF A SLICE OF INTEGERS THAT CAME IN: it is nil; or it leads to a row of 'cap' cells, the numbers 'zs' (the first 'len' are its elements, the rest its spare room), each fitting its kind. -/
def IsRow (k : IntKind) (w : World) (a : Option Addr) (len cap : Nat) (zs : List Int) : Prop :=
  (a = none ∧ len = 0 ∧ cap = 0 ∧ zs = []) ∨
  ∃ x, a = some x ∧ len ≤ cap ∧ cap ≤ maxLen ∧ zs.length = cap ∧ (∀ i, i < zs.length → w.cell? (x.add i) = some (.int k (zs.getD i 0))) ∧ ∀ n ∈ zs, (Lit.int k n).wf = true

/-! ### THE WALK: the Go text returns true, AND WRITES NOTHING THAT WAS THERE: 'Below w.heap.size w w'' (Derived/Below.lean: '.refl', '.alloc', '.drew', '.setCell' at a new block, '.trans'). Open each 'IsRow' by 'rcases' AHEAD of 'go_enter'; part every test ahead of the walk. -/
set_option maxHeartbeats 4000000 in
set_option maxRecDepth 100000 in
theorem walk (a0 : Option Addr) (len0 cap0 : Nat) (z0 : List Int) (a1 : Option Addr) (len1 cap1 : Nat) (z1 : List Int) (w : World) (w0 : IsRow .u8 w a0 len0 cap0 z0) (w1 : IsRow .u8 w a1 len1 cap1 z1) :
    Calls Try.prog 4 #[.slice a0 len0 cap0, .slice a1 len1 cap1] w fun e w' => e = .returned (.bool true) ∧ Below w.heap.size w w' := by
  have by0 := byteIn_row w0
  have by1 := byteIn_row w1
  have hl0 : len0 ≤ maxLen := by
    rcases w0 with ⟨_, h, _⟩ | ⟨x, _, h, h', _⟩
    · rw [h]; exact Nat.zero_le _
    · exact Nat.le_trans h h'
  clear w0 w1
  by_cases hbig : 1048576 < len0 ∨ (1048576 : Int) - len0 < len1
  · have hb := big_yes a0 a1 len0 len1 cap0 cap1 w hbig hl0
    have Hb := Lib.hid hb; clear hb
    go_enter Try.func4, Try.ntmps4
    go_wp2_with fail
    with_reducible refine (Hb.out).mono ?_
    rintro e w' ⟨rfl, rfl⟩
    go_wp2
    go_ret
    exact ⟨rfl, Below.refl _ _⟩
  have hb := big_no a0 a1 len0 len1 cap0 cap1 w (by omega) (by omega)
  have hd := DrawPastsOf_any a0 len0 cap0 w (by omega) by0
  have hf := fun W (h : Below w.heap.size w W) => DrawPastBy_any a1 len1 cap1 W (by omega) (by1.up (Nat.le_refl _) h h.size)
  have Hb := Lib.hid hb; clear hb
  have Hd := Lib.hid hd; clear hd
  have Hf := Lib.hid hf; clear hf
  clear by0 by1 hl0 hbig
  have acc : Below w.heap.size w w := Below.refl _ _
  go_enter Try.func4, Try.ntmps4
  go_wp2_with fail
  with_reducible refine (Hb.out).mono ?_
  rintro e w' ⟨rfl, rfl⟩
  clear Hb
  go_wp2_with fail
  with_reducible refine (Hd.out).mono ?_
  rintro e v1 ⟨p1, n1, c1, xs, rfl, ho1, hb1⟩
  replace acc := belowTrans acc hb1 (Nat.le_refl _)
  clear hb1
  clear Hd
  have hi := fun W h => impl_PastsOf p1 n1 c1 xs W h
  have hs := fun W h => spec_PastsOf p1 n1 c1 xs W h
  have hc := fun W h => impl_PastCount p1 n1 c1 xs W h
  by_cases gx : goodB xs = true
  · skip
    have gX := good_iff.1 gx
    simp only [mPasts_yes gx] at hi hs
    simp only [mPastCount_yes gx] at hc
    have hord := ordB_of (pasts_up gX)
    have hsnd : ∀ p ∈ pastsL xs, goodB p = true ∧ stepL p = xs := fun p hp => ⟨good_iff.2 (pasts_sound gX hp).2, (pasts_sound gX hp).1⟩
    have hcnt := pasts_count gX
    have hsm := fun W h => pSum_any p1 n1 c1 xs W h gX
    have h0 := good_sum0 gX
    have h1 := gX.2.2
    obtain ⟨S, hS⟩ : ∃ S : Nat, xs.sum = S := ⟨xs.sum.toNat, by omega⟩
    rw [hS] at hsm h1
    rw [hS, show ((S : Int)).toNat = S by omega] at hcnt
    have hS8 : S ≤ 28 := by omega
    have hal := fun W => impl_AllPiles S W
    simp only [mAll_yes S hS8] at hal
    have hag : ∀ p ∈ allL S, goodB p = true := fun p hp => good_iff.2 (allL_good hS8 hp).1
    have hcb := cnt_le S (by omega) S (by omega)
    rw [← allL_length hS8] at hcb
    generalize allL S = A at hal hag hcnt hcb
    generalize pastsL xs = C at hi hs hc hord hsnd hcnt
    clear h0 gX gx hS
    have Hi := Lib.hid hi; clear hi
    have Hs := Lib.hid hs; clear hs
    have Hc := Lib.hid hc; clear hc
    have Hord := Lib.hid hord; clear hord
    have Hsnd := Lib.hid hsnd; clear hsnd
    have Hcnt := Lib.hid hcnt; clear hcnt
    have Hsm := Lib.hid hsm; clear hsm
    have Hal := Lib.hid hal; clear hal
    have Hag := Lib.hid hag; clear hag
    have Hcb := Lib.hid hcb; clear hcb
    go_wp2_with fail
    with_reducible refine (Hi.out _ ho1.at).mono ?_
    rintro e v2 ⟨pi, ni, ci, rfl, hoi, hb2⟩
    replace ho1 := ho1.keep hb2
    replace acc := belowTrans acc hb2 (Nat.le_refl _)
    clear hb2
    go_wp2_with fail
    with_reducible refine (Hs.out _ ho1.at).mono ?_
    rintro e v3 ⟨ps, ns, cs, rfl, hos, hb3⟩
    replace ho1 := ho1.keep hb3
    replace hoi := hoi.keep hb3
    replace acc := belowTrans acc hb3 (Nat.le_refl _)
    clear hb3
    go_wp2_with fail
    with_reducible refine (Hc.out _ ho1.at).mono ?_
    rintro e v4 ⟨rfl, hb4⟩
    replace ho1 := ho1.keep hb4
    replace hoi := hoi.keep hb4
    replace hos := hos.keep hb4
    replace acc := belowTrans acc hb4 (Nat.le_refl _)
    clear hb4
    have hl := hoi.length
    have hni8 := hoi.at.lenInt
    clear Hi Hs Hc
    try rw [hl]
    try (have hl0 : ni = 0 := hl.symm; subst hl0)
    have Hl := Lib.hid hl; clear hl
    have hc := pSameLists_any _ _ _ _ _ _ _ _ _ hoi.at hos.at
    rw [decide_eq_true rfl] at hc
    have Hc := Lib.hid hc; clear hc
    go_wp2_with fail
    with_reducible refine (Hc.out).mono ?_
    rintro e v5 ⟨rfl, hb5⟩
    replace ho1 := ho1.keep hb5
    replace hoi := hoi.keep hb5
    replace hos := hos.keep hb5
    replace acc := belowTrans acc hb5 (Nat.le_refl _)
    clear hb5
    clear Hc
    clear hos
    go_wp2_with fail
    with_reducible refine (Hf.out _ acc).mono ?_
    rintro e v6 ⟨p2, n2, c2, ys, pile, rfl, ho2, hnear, hj0, hj1, hb6⟩
    replace ho1 := ho1.keep hb6
    replace hoi := hoi.keep hb6
    replace acc := belowTrans acc hb6 (Nat.le_refl _)
    clear hb6
    clear Hf hnear
    have hi := fun W h => impl_PastBy p2 n2 c2 ys pile W h
    have hs := fun W h => spec_PastBy p2 n2 c2 ys pile W h
    by_cases ht : goodB ys = true ∧ PastOk ys pile
    · skip
      have gY := good_iff.1 ht.1
      have e1 : mPastBy ys pile = (pastL ys pile, true) := by rw [mPastBy_yes ht.1, mPast_yes ht.2]
      have e2 : mPastsOf ys = (pastsL ys, true) := mPasts_yes ht.1
      simp only [e1] at hi hs
      have hmem := mem_pasts ht.2.1 ht.2.2
      have hso := pasts_sound gY hmem
      have hlen := past_length ht.2.1 ht.2.2 (gY.1 pile ht.2.1)
      have hst := fun a n c W h => impl_StepPiles a n c (pastL ys pile) W h
      simp only [mStep_yes (good_iff.2 hso.2), hso.1] at hst
      have hal := fun W h => impl_PastsOf p2 n2 c2 ys W h
      simp only [e2] at hal
      generalize pastL ys pile = P at hi hs hmem hlen hst
      generalize pastsL ys = L at hmem hal
      clear e1 e2 ht gY hso
      have Hi := Lib.hid hi; clear hi
      have Hs := Lib.hid hs; clear hs
      have Hmem := Lib.hid hmem; clear hmem
      have Hst := Lib.hid hst; clear hst
      have Hal := Lib.hid hal; clear hal
      go_wp2_with fail
      with_reducible refine (Hi.out _ ho2.at).mono ?_
      rintro e v7 ⟨pe, ne, ce, rfl, hoe, hb7⟩
      replace ho1 := ho1.keep hb7
      replace hoi := hoi.keep hb7
      replace ho2 := ho2.keep hb7
      replace acc := belowTrans acc hb7 (Nat.le_refl _)
      clear hb7
      go_wp2_with fail
      with_reducible refine (Hs.out _ ho2.at).mono ?_
      rintro e v8 ⟨pg, ng, cg, rfl, hog, hb8⟩
      replace ho1 := ho1.keep hb8
      replace hoi := hoi.keep hb8
      replace ho2 := ho2.keep hb8
      replace hoe := hoe.keep hb8
      replace acc := belowTrans acc hb8 (Nat.le_refl _)
      clear hb8
      have hc := pSame_any _ _ _ _ _ _ _ _ _ hoe.at hog.at
      rw [decide_eq_true rfl] at hc
      have Hc := Lib.hid hc; clear hc
      go_wp2_with fail
      with_reducible refine (Hc.out).mono ?_
      rintro e v9 ⟨rfl, hb9⟩
      replace ho1 := ho1.keep hb9
      replace hoi := hoi.keep hb9
      replace ho2 := ho2.keep hb9
      replace hoe := hoe.keep hb9
      replace hog := hog.keep hb9
      replace acc := belowTrans acc hb9 (Nat.le_refl _)
      clear hb9
      clear Hc
      clear hog
      clear Hi Hs
      rw [hoe.length] at hlen
      subst hlen
      go_wp2_with fail
      with_reducible refine (Hst.out _ _ _ _ hoe.at).mono ?_
      rintro e v10 ⟨pf, nf, cf, rfl, hof, hb10⟩
      replace ho1 := ho1.keep hb10
      replace hoi := hoi.keep hb10
      replace ho2 := ho2.keep hb10
      replace hoe := hoe.keep hb10
      replace acc := belowTrans acc hb10 (Nat.le_refl _)
      clear hb10
      go_wp2_with fail
      with_reducible refine (Hal.out _ ho2.at).mono ?_
      rintro e v11 ⟨pl, nl, cl, rfl, hol, hb11⟩
      replace ho1 := ho1.keep hb11
      replace hoi := hoi.keep hb11
      replace ho2 := ho2.keep hb11
      replace hoe := hoe.keep hb11
      replace hof := hof.keep hb11
      replace acc := belowTrans acc hb11 (Nat.le_refl _)
      clear hb11
      have hc := pSame_any _ _ _ _ _ _ _ _ _ hof.at ho2.at
      rw [decide_eq_true rfl] at hc
      have Hc := Lib.hid hc; clear hc
      go_wp2_with fail
      with_reducible refine (Hc.out).mono ?_
      rintro e v12 ⟨rfl, hb12⟩
      replace ho1 := ho1.keep hb12
      replace hoi := hoi.keep hb12
      replace ho2 := ho2.keep hb12
      replace hoe := hoe.keep hb12
      replace hof := hof.keep hb12
      replace hol := hol.keep hb12
      replace acc := belowTrans acc hb12 (Nat.le_refl _)
      clear hb12
      clear Hc
      clear hof
      have hh := pHasList_any _ _ _ _ _ _ _ _ _ hol.at hoe.at
      rw [decide_eq_true Hmem.out] at hh
      have Hh := Lib.hid hh; clear hh
      go_wp2_with fail
      with_reducible refine (Hh.out).mono ?_
      rintro e v13 ⟨rfl, hb13⟩
      replace ho1 := ho1.keep hb13
      replace hoi := hoi.keep hb13
      replace ho2 := ho2.keep hb13
      replace hoe := hoe.keep hb13
      replace hol := hol.keep hb13
      replace acc := belowTrans acc hb13 (Nat.le_refl _)
      clear hb13
      clear hoe
      clear hol
      clear ho2
      clear Hh Hst Hal Hmem
      have ho := pOrdered_any _ _ _ _ _ hoi.at
      rw [Hord.out] at ho
      have Ho := Lib.hid ho; clear ho
      go_wp2_with fail
      with_reducible refine (Ho.out).mono ?_
      rintro e v14 ⟨rfl, hb14⟩
      replace ho1 := ho1.keep hb14
      replace hoi := hoi.keep hb14
      replace acc := belowTrans acc hb14 (Nat.le_refl _)
      clear hb14
      have hrows := hoi.at
      clear hoi Ho
      obtain ⟨wo, hwo⟩ : ∃ wo : World, wo = v14 := ⟨_, rfl⟩
      subst hwo
      go_wp2_with fail
      go_loopw [142] (fun i wr => ∃ j : Nat, j ≤ ni ∧ i = .int .i64 j ∧ Below w.heap.size w wr ∧ Below wo.heap.size wo wr) (fun i _ => ni - (intOf i).toNat)
      case atStart => exact ⟨0, Nat.zero_le _, rfl, acc, Below.refl _ _⟩
      case round =>
        obtain ⟨j, hj, rfl, hbw, hbo⟩ := hrel
        by_cases hlt : j < ni
        · skip
          replace ho1 := ho1.keep hbo
          replace hrows := hrows.keep hbo
          obtain ⟨b1, o1, e_, _, hc_⟩ := hrows.cell j hlt
          cases e_
          obtain ⟨a1_, m1, d1, hcell, hat⟩ := hc_ j hlt
          clear hc_
          have hg := Hsnd.out (C.getD j []) (by rw [List.getD_eq_getElem?_getD, List.getElem?_eq_getElem (by rw [Hl.out]; exact hlt)]; exact List.getElem_mem _)
          have hsj := impl_StepPiles a1_ m1 d1 (C.getD j []) wr hat
          simp only [mStep_yes hg.1, hg.2] at hsj
          clear hg
          have Hsj := Lib.hid hsj; clear hsj
          go_wp2_with fail
          with_reducible refine (Hsj.out).mono ?_
          rintro e v15 ⟨pz, nz, cz, rfl, hoz, hb15⟩
          replace ho1 := ho1.keep hb15
          replace hrows := hrows.keep hb15
          replace hbw := belowTrans hbw hb15 (Nat.le_refl _)
          replace hbo := belowTrans hbo hb15 (Nat.le_refl _)
          clear hb15
          clear hcell hat
          have hc := pSame_any _ _ _ _ _ _ _ _ _ hoz.at ho1.at
          rw [decide_eq_true rfl] at hc
          have Hc := Lib.hid hc; clear hc
          go_wp2_with fail
          with_reducible refine (Hc.out).mono ?_
          rintro e v16 ⟨rfl, hb16⟩
          replace ho1 := ho1.keep hb16
          replace hrows := hrows.keep hb16
          replace hoz := hoz.keep hb16
          replace hbw := belowTrans hbw hb16 (Nat.le_refl _)
          replace hbo := belowTrans hbo hb16 (Nat.le_refl _)
          clear hb16
          clear Hc
          go_wp2
          go_roundw
          case rel => exact ⟨j + 1, by omega, by go_num, hbw, hbo⟩
          case measure => simp [intOf] <;> omega
        · skip
          replace ho1 := ho1.keep hbo
          replace hrows := hrows.keep hbo
          clear hbo
          go_wp2_with fail
          with_reducible refine (Hsm.out _ ho1.at).mono ?_
          rintro e w' ⟨rfl, rfl⟩
          by_cases h11 : (11 : Int) < S
          · skip
            go_wp2
            go_ret
            exact ⟨rfl, hbw⟩
          go_wp2_with fail
          with_reducible refine (Hal.out _).mono ?_
          rintro e v15 ⟨pa, na, ca, rfl, hoa, hb15⟩
          replace ho1 := ho1.keep hb15
          replace hrows := hrows.keep hb15
          replace hbw := belowTrans hbw hb15 (Nat.le_refl _)
          clear hb15
          have hla := hoa.length
          have hna8 := hoa.at.lenInt
          have hcb := Hcb.out
          rw [hla] at hcb
          have hra := hoa.at
          clear hoa hrows
          have Hla := Lib.hid hla; clear hla
          obtain ⟨wq, hwq⟩ : ∃ wq : World, wq = v15 := ⟨_, rfl⟩
          subst hwq
          go_wp2_with fail
          go_loopw [29, 171] (fun f i wr => ∃ j t : Nat, j ≤ na ∧ t ≤ j ∧ i = .int .i64 j ∧ f = .int .i64 t ∧ ((A.take j).filter (fun p => decide (stepL p = xs))).length = t ∧ Below w.heap.size w wr ∧ Below wq.heap.size wq wr) (fun _ i _ => na - (intOf i).toNat)
          case atStart => exact ⟨0, 0, Nat.zero_le _, Nat.le_refl _, rfl, rfl, by simp, hbw, Below.refl _ _⟩
          case round =>
            clear hbw
            obtain ⟨j, t, hj, htj, rfl, rfl, hct, hbw, hbo⟩ := hrel
            have Hct := Lib.hid hct; clear hct
            have ht8 : (t : Int) ≤ 3718 := by omega
            by_cases hlt : j < na
            · have hra2 := hra.keep hbo
              have ho2 := ho1.keep hbo
              obtain ⟨b1, o1, e_, _, hc_⟩ := hra2.cell j hlt
              cases e_
              obtain ⟨a1_, m1, d1, hcell, hat⟩ := hc_ j hlt
              clear hc_
              have hx : A.getD j [] ∈ A := by rw [List.getD_eq_getElem?_getD, List.getElem?_eq_getElem (by rw [Hla.out]; exact hlt)]; exact List.getElem_mem _
              have hsj := impl_StepPiles a1_ m1 d1 (A.getD j []) wr hat
              simp only [mStep_yes (Hag.out _ hx)] at hsj
              have htk := take_snocR (xs := A) (k := j) rfl hlt Hla.out
              have Hsj := Lib.hid hsj; clear hsj
              have Htk := Lib.hid htk; clear htk
              clear hx
              go_wp2_with fail
              with_reducible refine (Hsj.out).mono ?_
              rintro e u1 ⟨pz, nz, cz, rfl, hoz, hb⟩
              replace ho2 := ho2.keep hb
              replace hbw := belowTrans hbw hb (Nat.le_refl _)
              replace hbo := belowTrans hbo hb (Nat.le_refl _)
              clear hb hcell hat
              have hc := pSame_any _ _ _ _ _ _ _ _ _ hoz.at ho2.at
              by_cases heq : stepL (A.getD j []) = xs
              · rw [decide_eq_true heq] at hc
                have Hc := Lib.hid hc; clear hc
                have Heq := Lib.hid heq; clear heq
                go_wp2_with fail
                with_reducible refine (Hc.out).mono ?_
                rintro e u2 ⟨rfl, hb⟩
                replace hbw := belowTrans hbw hb (Nat.le_refl _)
                replace hbo := belowTrans hbo hb (Nat.le_refl _)
                clear hb
                go_wp2
                go_roundw
                case rel => exact ⟨j + 1, t + 1, by omega, by omega, by go_num, by go_num, by rw [Htk.out, List.filter_append, List.length_append, Hct.out, List.filter_cons, if_pos (decide_eq_true Heq.out)]; simp, hbw, hbo⟩
                case measure => simp [intOf] <;> omega
              · rw [decide_eq_false heq] at hc
                have Hc := Lib.hid hc; clear hc
                have Heq := Lib.hid heq; clear heq
                go_wp2_with fail
                with_reducible refine (Hc.out).mono ?_
                rintro e u2 ⟨rfl, hb⟩
                replace hbw := belowTrans hbw hb (Nat.le_refl _)
                replace hbo := belowTrans hbo hb (Nat.le_refl _)
                clear hb
                go_wp2
                go_roundw
                case rel => exact ⟨j + 1, t, by omega, by omega, by go_num, rfl, by rw [Htk.out, List.filter_append, List.length_append, Hct.out, List.filter_cons, if_neg (by rw [decide_eq_false Heq.out]; exact Bool.false_ne_true)]; simp, hbw, hbo⟩
                case measure => simp [intOf] <;> omega
            · have htn : t = ni := by
                have h1 := Hct.out
                rw [List.take_of_length_le (by rw [Hla.out]; omega), Hcnt.out, Hl.out] at h1
                exact h1.symm
              subst htn
              go_wp2
              go_ret
              exact ⟨rfl, hbw⟩
    · skip
      have e1 : mPastBy ys pile = ([], false) := by
        cases gy : goodB ys
        · exact mPastBy_no gy
        · rw [mPastBy_yes gy]; exact mPast_no (fun h => ht ⟨gy, h⟩)
      simp only [e1] at hi hs
      clear e1 ht
      have Hi := Lib.hid hi; clear hi
      have Hs := Lib.hid hs; clear hs
      go_wp2_with fail
      with_reducible refine (Hi.out _ ho2.at).mono ?_
      rintro e v7 ⟨pe, ne, ce, rfl, hoe, hb7⟩
      replace ho1 := ho1.keep hb7
      replace hoi := hoi.keep hb7
      replace ho2 := ho2.keep hb7
      replace acc := belowTrans acc hb7 (Nat.le_refl _)
      clear hb7
      go_wp2_with fail
      with_reducible refine (Hs.out _ ho2.at).mono ?_
      rintro e v8 ⟨pg, ng, cg, rfl, hog, hb8⟩
      replace ho1 := ho1.keep hb8
      replace hoi := hoi.keep hb8
      replace ho2 := ho2.keep hb8
      replace hoe := hoe.keep hb8
      replace acc := belowTrans acc hb8 (Nat.le_refl _)
      clear hb8
      have hc := pSame_any _ _ _ _ _ _ _ _ _ hoe.at hog.at
      rw [decide_eq_true rfl] at hc
      have Hc := Lib.hid hc; clear hc
      go_wp2_with fail
      with_reducible refine (Hc.out).mono ?_
      rintro e v9 ⟨rfl, hb9⟩
      replace ho1 := ho1.keep hb9
      replace hoi := hoi.keep hb9
      replace ho2 := ho2.keep hb9
      replace hoe := hoe.keep hb9
      replace hog := hog.keep hb9
      replace acc := belowTrans acc hb9 (Nat.le_refl _)
      clear hb9
      clear Hc
      clear hoe
      clear hog
      clear ho2
      clear Hi Hs
      have ho := pOrdered_any _ _ _ _ _ hoi.at
      rw [Hord.out] at ho
      have Ho := Lib.hid ho; clear ho
      go_wp2_with fail
      with_reducible refine (Ho.out).mono ?_
      rintro e v10 ⟨rfl, hb10⟩
      replace ho1 := ho1.keep hb10
      replace hoi := hoi.keep hb10
      replace acc := belowTrans acc hb10 (Nat.le_refl _)
      clear hb10
      have hrows := hoi.at
      clear hoi Ho
      obtain ⟨wo, hwo⟩ : ∃ wo : World, wo = v10 := ⟨_, rfl⟩
      subst hwo
      go_wp2_with fail
      go_loopw [142] (fun i wr => ∃ j : Nat, j ≤ ni ∧ i = .int .i64 j ∧ Below w.heap.size w wr ∧ Below wo.heap.size wo wr) (fun i _ => ni - (intOf i).toNat)
      case atStart => exact ⟨0, Nat.zero_le _, rfl, acc, Below.refl _ _⟩
      case round =>
        obtain ⟨j, hj, rfl, hbw, hbo⟩ := hrel
        by_cases hlt : j < ni
        · skip
          replace ho1 := ho1.keep hbo
          replace hrows := hrows.keep hbo
          obtain ⟨b1, o1, e_, _, hc_⟩ := hrows.cell j hlt
          cases e_
          obtain ⟨a1_, m1, d1, hcell, hat⟩ := hc_ j hlt
          clear hc_
          have hg := Hsnd.out (C.getD j []) (by rw [List.getD_eq_getElem?_getD, List.getElem?_eq_getElem (by rw [Hl.out]; exact hlt)]; exact List.getElem_mem _)
          have hsj := impl_StepPiles a1_ m1 d1 (C.getD j []) wr hat
          simp only [mStep_yes hg.1, hg.2] at hsj
          clear hg
          have Hsj := Lib.hid hsj; clear hsj
          go_wp2_with fail
          with_reducible refine (Hsj.out).mono ?_
          rintro e v11 ⟨pz, nz, cz, rfl, hoz, hb11⟩
          replace ho1 := ho1.keep hb11
          replace hrows := hrows.keep hb11
          replace hbw := belowTrans hbw hb11 (Nat.le_refl _)
          replace hbo := belowTrans hbo hb11 (Nat.le_refl _)
          clear hb11
          clear hcell hat
          have hc := pSame_any _ _ _ _ _ _ _ _ _ hoz.at ho1.at
          rw [decide_eq_true rfl] at hc
          have Hc := Lib.hid hc; clear hc
          go_wp2_with fail
          with_reducible refine (Hc.out).mono ?_
          rintro e v12 ⟨rfl, hb12⟩
          replace ho1 := ho1.keep hb12
          replace hrows := hrows.keep hb12
          replace hoz := hoz.keep hb12
          replace hbw := belowTrans hbw hb12 (Nat.le_refl _)
          replace hbo := belowTrans hbo hb12 (Nat.le_refl _)
          clear hb12
          clear Hc
          go_wp2
          go_roundw
          case rel => exact ⟨j + 1, by omega, by go_num, hbw, hbo⟩
          case measure => simp [intOf] <;> omega
        · skip
          replace ho1 := ho1.keep hbo
          replace hrows := hrows.keep hbo
          clear hbo
          go_wp2_with fail
          with_reducible refine (Hsm.out _ ho1.at).mono ?_
          rintro e w' ⟨rfl, rfl⟩
          by_cases h11 : (11 : Int) < S
          · skip
            go_wp2
            go_ret
            exact ⟨rfl, hbw⟩
          go_wp2_with fail
          with_reducible refine (Hal.out _).mono ?_
          rintro e v11 ⟨pa, na, ca, rfl, hoa, hb11⟩
          replace ho1 := ho1.keep hb11
          replace hrows := hrows.keep hb11
          replace hbw := belowTrans hbw hb11 (Nat.le_refl _)
          clear hb11
          have hla := hoa.length
          have hna8 := hoa.at.lenInt
          have hcb := Hcb.out
          rw [hla] at hcb
          have hra := hoa.at
          clear hoa hrows
          have Hla := Lib.hid hla; clear hla
          obtain ⟨wq, hwq⟩ : ∃ wq : World, wq = v11 := ⟨_, rfl⟩
          subst hwq
          go_wp2_with fail
          go_loopw [29, 171] (fun f i wr => ∃ j t : Nat, j ≤ na ∧ t ≤ j ∧ i = .int .i64 j ∧ f = .int .i64 t ∧ ((A.take j).filter (fun p => decide (stepL p = xs))).length = t ∧ Below w.heap.size w wr ∧ Below wq.heap.size wq wr) (fun _ i _ => na - (intOf i).toNat)
          case atStart => exact ⟨0, 0, Nat.zero_le _, Nat.le_refl _, rfl, rfl, by simp, hbw, Below.refl _ _⟩
          case round =>
            clear hbw
            obtain ⟨j, t, hj, htj, rfl, rfl, hct, hbw, hbo⟩ := hrel
            have Hct := Lib.hid hct; clear hct
            have ht8 : (t : Int) ≤ 3718 := by omega
            by_cases hlt : j < na
            · have hra2 := hra.keep hbo
              have ho2 := ho1.keep hbo
              obtain ⟨b1, o1, e_, _, hc_⟩ := hra2.cell j hlt
              cases e_
              obtain ⟨a1_, m1, d1, hcell, hat⟩ := hc_ j hlt
              clear hc_
              have hx : A.getD j [] ∈ A := by rw [List.getD_eq_getElem?_getD, List.getElem?_eq_getElem (by rw [Hla.out]; exact hlt)]; exact List.getElem_mem _
              have hsj := impl_StepPiles a1_ m1 d1 (A.getD j []) wr hat
              simp only [mStep_yes (Hag.out _ hx)] at hsj
              have htk := take_snocR (xs := A) (k := j) rfl hlt Hla.out
              have Hsj := Lib.hid hsj; clear hsj
              have Htk := Lib.hid htk; clear htk
              clear hx
              go_wp2_with fail
              with_reducible refine (Hsj.out).mono ?_
              rintro e u1 ⟨pz, nz, cz, rfl, hoz, hb⟩
              replace ho2 := ho2.keep hb
              replace hbw := belowTrans hbw hb (Nat.le_refl _)
              replace hbo := belowTrans hbo hb (Nat.le_refl _)
              clear hb hcell hat
              have hc := pSame_any _ _ _ _ _ _ _ _ _ hoz.at ho2.at
              by_cases heq : stepL (A.getD j []) = xs
              · rw [decide_eq_true heq] at hc
                have Hc := Lib.hid hc; clear hc
                have Heq := Lib.hid heq; clear heq
                go_wp2_with fail
                with_reducible refine (Hc.out).mono ?_
                rintro e u2 ⟨rfl, hb⟩
                replace hbw := belowTrans hbw hb (Nat.le_refl _)
                replace hbo := belowTrans hbo hb (Nat.le_refl _)
                clear hb
                go_wp2
                go_roundw
                case rel => exact ⟨j + 1, t + 1, by omega, by omega, by go_num, by go_num, by rw [Htk.out, List.filter_append, List.length_append, Hct.out, List.filter_cons, if_pos (decide_eq_true Heq.out)]; simp, hbw, hbo⟩
                case measure => simp [intOf] <;> omega
              · rw [decide_eq_false heq] at hc
                have Hc := Lib.hid hc; clear hc
                have Heq := Lib.hid heq; clear heq
                go_wp2_with fail
                with_reducible refine (Hc.out).mono ?_
                rintro e u2 ⟨rfl, hb⟩
                replace hbw := belowTrans hbw hb (Nat.le_refl _)
                replace hbo := belowTrans hbo hb (Nat.le_refl _)
                clear hb
                go_wp2
                go_roundw
                case rel => exact ⟨j + 1, t, by omega, by omega, by go_num, rfl, by rw [Htk.out, List.filter_append, List.length_append, Hct.out, List.filter_cons, if_neg (by rw [decide_eq_false Heq.out]; exact Bool.false_ne_true)]; simp, hbw, hbo⟩
                case measure => simp [intOf] <;> omega
            · have htn : t = ni := by
                have h1 := Hct.out
                rw [List.take_of_length_le (by rw [Hla.out]; omega), Hcnt.out, Hl.out] at h1
                exact h1.symm
              subst htn
              go_wp2
              go_ret
              exact ⟨rfl, hbw⟩
  · skip
    have gx2 : goodB xs = false := by simpa using gx
    simp only [mPasts_no gx2] at hi hs
    simp only [mPastCount_no gx2] at hc
    clear gx gx2
    have Hi := Lib.hid hi; clear hi
    have Hs := Lib.hid hs; clear hs
    have Hc := Lib.hid hc; clear hc
    go_wp2_with fail
    with_reducible refine (Hi.out _ ho1.at).mono ?_
    rintro e v2 ⟨pi, ni, ci, rfl, hoi, hb2⟩
    replace ho1 := ho1.keep hb2
    replace acc := belowTrans acc hb2 (Nat.le_refl _)
    clear hb2
    go_wp2_with fail
    with_reducible refine (Hs.out _ ho1.at).mono ?_
    rintro e v3 ⟨ps, ns, cs, rfl, hos, hb3⟩
    replace ho1 := ho1.keep hb3
    replace hoi := hoi.keep hb3
    replace acc := belowTrans acc hb3 (Nat.le_refl _)
    clear hb3
    go_wp2_with fail
    with_reducible refine (Hc.out _ ho1.at).mono ?_
    rintro e v4 ⟨rfl, hb4⟩
    replace ho1 := ho1.keep hb4
    replace hoi := hoi.keep hb4
    replace hos := hos.keep hb4
    replace acc := belowTrans acc hb4 (Nat.le_refl _)
    clear hb4
    have hl := hoi.length
    have hni8 := hoi.at.lenInt
    clear Hi Hs Hc
    try rw [hl]
    try (have hl0 : ni = 0 := hl.symm; subst hl0)
    have Hl := Lib.hid hl; clear hl
    have hc := pSameLists_any _ _ _ _ _ _ _ _ _ hoi.at hos.at
    rw [decide_eq_true rfl] at hc
    have Hc := Lib.hid hc; clear hc
    go_wp2_with fail
    with_reducible refine (Hc.out).mono ?_
    rintro e v5 ⟨rfl, hb5⟩
    replace ho1 := ho1.keep hb5
    replace hoi := hoi.keep hb5
    replace hos := hos.keep hb5
    replace acc := belowTrans acc hb5 (Nat.le_refl _)
    clear hb5
    clear Hc
    clear hos
    go_wp2_with fail
    with_reducible refine (Hf.out _ acc).mono ?_
    rintro e v6 ⟨p2, n2, c2, ys, pile, rfl, ho2, hnear, hj0, hj1, hb6⟩
    replace ho1 := ho1.keep hb6
    replace hoi := hoi.keep hb6
    replace acc := belowTrans acc hb6 (Nat.le_refl _)
    clear hb6
    clear Hf hnear
    have hi := fun W h => impl_PastBy p2 n2 c2 ys pile W h
    have hs := fun W h => spec_PastBy p2 n2 c2 ys pile W h
    by_cases ht : goodB ys = true ∧ PastOk ys pile
    · skip
      have gY := good_iff.1 ht.1
      have e1 : mPastBy ys pile = (pastL ys pile, true) := by rw [mPastBy_yes ht.1, mPast_yes ht.2]
      have e2 : mPastsOf ys = (pastsL ys, true) := mPasts_yes ht.1
      simp only [e1] at hi hs
      have hmem := mem_pasts ht.2.1 ht.2.2
      have hso := pasts_sound gY hmem
      have hlen := past_length ht.2.1 ht.2.2 (gY.1 pile ht.2.1)
      have hst := fun a n c W h => impl_StepPiles a n c (pastL ys pile) W h
      simp only [mStep_yes (good_iff.2 hso.2), hso.1] at hst
      have hal := fun W h => impl_PastsOf p2 n2 c2 ys W h
      simp only [e2] at hal
      generalize pastL ys pile = P at hi hs hmem hlen hst
      generalize pastsL ys = L at hmem hal
      clear e1 e2 ht gY hso
      have Hi := Lib.hid hi; clear hi
      have Hs := Lib.hid hs; clear hs
      have Hmem := Lib.hid hmem; clear hmem
      have Hst := Lib.hid hst; clear hst
      have Hal := Lib.hid hal; clear hal
      go_wp2_with fail
      with_reducible refine (Hi.out _ ho2.at).mono ?_
      rintro e v7 ⟨pe, ne, ce, rfl, hoe, hb7⟩
      replace ho1 := ho1.keep hb7
      replace hoi := hoi.keep hb7
      replace ho2 := ho2.keep hb7
      replace acc := belowTrans acc hb7 (Nat.le_refl _)
      clear hb7
      go_wp2_with fail
      with_reducible refine (Hs.out _ ho2.at).mono ?_
      rintro e v8 ⟨pg, ng, cg, rfl, hog, hb8⟩
      replace ho1 := ho1.keep hb8
      replace hoi := hoi.keep hb8
      replace ho2 := ho2.keep hb8
      replace hoe := hoe.keep hb8
      replace acc := belowTrans acc hb8 (Nat.le_refl _)
      clear hb8
      have hc := pSame_any _ _ _ _ _ _ _ _ _ hoe.at hog.at
      rw [decide_eq_true rfl] at hc
      have Hc := Lib.hid hc; clear hc
      go_wp2_with fail
      with_reducible refine (Hc.out).mono ?_
      rintro e v9 ⟨rfl, hb9⟩
      replace ho1 := ho1.keep hb9
      replace hoi := hoi.keep hb9
      replace ho2 := ho2.keep hb9
      replace hoe := hoe.keep hb9
      replace hog := hog.keep hb9
      replace acc := belowTrans acc hb9 (Nat.le_refl _)
      clear hb9
      clear Hc
      clear hog
      clear Hi Hs
      rw [hoe.length] at hlen
      subst hlen
      go_wp2_with fail
      with_reducible refine (Hst.out _ _ _ _ hoe.at).mono ?_
      rintro e v10 ⟨pf, nf, cf, rfl, hof, hb10⟩
      replace ho1 := ho1.keep hb10
      replace hoi := hoi.keep hb10
      replace ho2 := ho2.keep hb10
      replace hoe := hoe.keep hb10
      replace acc := belowTrans acc hb10 (Nat.le_refl _)
      clear hb10
      go_wp2_with fail
      with_reducible refine (Hal.out _ ho2.at).mono ?_
      rintro e v11 ⟨pl, nl, cl, rfl, hol, hb11⟩
      replace ho1 := ho1.keep hb11
      replace hoi := hoi.keep hb11
      replace ho2 := ho2.keep hb11
      replace hoe := hoe.keep hb11
      replace hof := hof.keep hb11
      replace acc := belowTrans acc hb11 (Nat.le_refl _)
      clear hb11
      have hc := pSame_any _ _ _ _ _ _ _ _ _ hof.at ho2.at
      rw [decide_eq_true rfl] at hc
      have Hc := Lib.hid hc; clear hc
      go_wp2_with fail
      with_reducible refine (Hc.out).mono ?_
      rintro e v12 ⟨rfl, hb12⟩
      replace ho1 := ho1.keep hb12
      replace hoi := hoi.keep hb12
      replace ho2 := ho2.keep hb12
      replace hoe := hoe.keep hb12
      replace hof := hof.keep hb12
      replace hol := hol.keep hb12
      replace acc := belowTrans acc hb12 (Nat.le_refl _)
      clear hb12
      clear Hc
      clear hof
      have hh := pHasList_any _ _ _ _ _ _ _ _ _ hol.at hoe.at
      rw [decide_eq_true Hmem.out] at hh
      have Hh := Lib.hid hh; clear hh
      go_wp2_with fail
      with_reducible refine (Hh.out).mono ?_
      rintro e v13 ⟨rfl, hb13⟩
      replace ho1 := ho1.keep hb13
      replace hoi := hoi.keep hb13
      replace ho2 := ho2.keep hb13
      replace hoe := hoe.keep hb13
      replace hol := hol.keep hb13
      replace acc := belowTrans acc hb13 (Nat.le_refl _)
      clear hb13
      clear hoe
      clear hol
      clear ho2
      clear Hh Hst Hal Hmem
      go_wp2
      go_ret
      exact ⟨rfl, acc⟩
    · skip
      have e1 : mPastBy ys pile = ([], false) := by
        cases gy : goodB ys
        · exact mPastBy_no gy
        · rw [mPastBy_yes gy]; exact mPast_no (fun h => ht ⟨gy, h⟩)
      simp only [e1] at hi hs
      clear e1 ht
      have Hi := Lib.hid hi; clear hi
      have Hs := Lib.hid hs; clear hs
      go_wp2_with fail
      with_reducible refine (Hi.out _ ho2.at).mono ?_
      rintro e v7 ⟨pe, ne, ce, rfl, hoe, hb7⟩
      replace ho1 := ho1.keep hb7
      replace hoi := hoi.keep hb7
      replace ho2 := ho2.keep hb7
      replace acc := belowTrans acc hb7 (Nat.le_refl _)
      clear hb7
      go_wp2_with fail
      with_reducible refine (Hs.out _ ho2.at).mono ?_
      rintro e v8 ⟨pg, ng, cg, rfl, hog, hb8⟩
      replace ho1 := ho1.keep hb8
      replace hoi := hoi.keep hb8
      replace ho2 := ho2.keep hb8
      replace hoe := hoe.keep hb8
      replace acc := belowTrans acc hb8 (Nat.le_refl _)
      clear hb8
      have hc := pSame_any _ _ _ _ _ _ _ _ _ hoe.at hog.at
      rw [decide_eq_true rfl] at hc
      have Hc := Lib.hid hc; clear hc
      go_wp2_with fail
      with_reducible refine (Hc.out).mono ?_
      rintro e v9 ⟨rfl, hb9⟩
      replace ho1 := ho1.keep hb9
      replace hoi := hoi.keep hb9
      replace ho2 := ho2.keep hb9
      replace hoe := hoe.keep hb9
      replace hog := hog.keep hb9
      replace acc := belowTrans acc hb9 (Nat.le_refl _)
      clear hb9
      clear Hc
      clear hoe
      clear hog
      clear ho2
      clear Hi Hs
      go_wp2
      go_ret
      exact ⟨rfl, acc⟩

/-! ### THE ROW's STEP: WRITTEN OUT: LEAVE IT -/
set_option maxRecDepth 100000 in
theorem lifted (os : Os) (started : os.Started) (H : Type) (enc : TypeId × Value → H) :
    ReturnsInHanded {} Try.checked os 4 .any (Rows.fnPastsAreExactSpec.pre6 enc Try.prog Try.f4 Rows.fnPastsAreExactRow.domain false) (Rows.fnPastsAreExactSpec.post enc Try.prog Try.f4 false true false false) := by
  refine returnsInHanded_of_change (C := Try.checked) own started (by kernel_rfl) Try.func4
    (ChangeSpec.witness6 (enc := enc) (C := Try.checked) false ⟨#[], #[.slice none 0 0, .slice none 0 0], []⟩ 8 (by kernel_rfl) (by kernel_rfl) (by kernel_rfl) (by kernel_rfl)) ?_
  intro W base args ds gs before hval0 hW hcnd _
  have hval : ∀ (j : Nat) t v, Try.f4.params[j]? = some t → args[j]? = some v → Value.okWide Try.prog W .any base t v := hval0
  have hW' := hW
  obtain ⟨p, q, hA0, hV, rfl, hfz, hnd⟩ := hW
  have hA : DataW.TrodAll enc Try.prog W 0 (fun _ => true) true Try.f4.params.toList args.toList ds p := hA0
  rw [Try.params4] at hA hval
  obtain ⟨v0, vs0, d0, ds0, p0, q0, hargs, rfl, rfl, h0, r0⟩ := trodAll_cons hA
  obtain ⟨v1, vs1, d1, ds1, p1, q1, rfl, rfl, rfl, h1, r1⟩ := trodAll_cons r0
  obtain ⟨rfl, rfl, rfl⟩ := trodAll_nil r1
  obtain rfl : args = #[v0, v1] := by cases args; simp_all
  obtain ⟨rfl, rfl⟩ := trodVars_none hV
  obtain ⟨a0, len0, cap0, rfl⟩ := okWide_slice Try.underlying22 (hval 0 22 v0 rfl rfl)
  have k0 := h0
  have lt0 : ∀ x ∈ p0, x.block < W.heap.size := by obtain ⟨m, hm⟩ := k0; exact DataW.trod_lt m _ _ _ hm
  obtain ⟨z0, w0⟩ : ∃ zs, IsRow .u8 W a0 len0 cap0 zs := by
    obtain ⟨fuel, hf⟩ := h0
    rcases open_ints Try.underlying22 Try.underlying5 (by kernel_rfl) hf with ⟨hcs, _⟩ | ⟨x, l, c, zs, hcs, _, hl, hm, hz, _, hcell, hwz⟩
    · simp [Value.cells] at hcs
      obtain ⟨rfl, rfl, rfl⟩ := hcs
      exact ⟨[], .inl ⟨rfl, rfl, rfl, rfl⟩⟩
    · simp [Value.cells] at hcs
      obtain ⟨rfl, rfl, rfl⟩ := hcs
      exact ⟨zs, .inr ⟨_, rfl, hl, hm, by simpa using hz, hcell, hwz⟩⟩
  obtain ⟨a1, len1, cap1, rfl⟩ := okWide_slice Try.underlying22 (hval 1 22 v1 rfl rfl)
  have k1 := h1
  have lt1 : ∀ x ∈ p1, x.block < W.heap.size := by obtain ⟨m, hm⟩ := k1; exact DataW.trod_lt m _ _ _ hm
  obtain ⟨z1, w1⟩ : ∃ zs, IsRow .u8 W a1 len1 cap1 zs := by
    obtain ⟨fuel, hf⟩ := h1
    rcases open_ints Try.underlying22 Try.underlying5 (by kernel_rfl) hf with ⟨hcs, _⟩ | ⟨x, l, c, zs, hcs, _, hl, hm, hz, _, hcell, hwz⟩
    · simp [Value.cells] at hcs
      obtain ⟨rfl, rfl, rfl⟩ := hcs
      exact ⟨[], .inl ⟨rfl, rfl, rfl, rfl⟩⟩
    · simp [Value.cells] at hcs
      obtain ⟨rfl, rfl, rfl⟩ := hcs
      exact ⟨zs, .inr ⟨_, rfl, hl, hm, by simpa using hz, hcell, hwz⟩⟩
  clear hA0 hval0
  refine (walk a0 len0 cap0 z0 a1 len1 cap1 z1 W w0 w1).mono fun e W' ⟨he, bel⟩ => ?_
  subst he
  exact ⟨_, rfl, _, _, _, [], _, [], hW', trodAll_mk1 (shut_bool Try.underlying4 _), (trodAll_cons_mk (Below.trod laidOut (by kernel_rfl) (of_decide_eq_true (by kernel_rfl)) k0 bel lt0) (trodAll_cons_mk (Below.trod laidOut (by kernel_rfl) (of_decide_eq_true (by kernel_rfl)) k1 bel lt1) trodAll_mk0)), rfl, bel.frame _, fun h => by cases h⟩

theorem closedFacts : joinedFacts Try.prog 4 Try.f4 Rows.fnPastsAreExactSpec Rows.fnPastsAreExactRow = true := by
  unfold joinedFacts
  rw [head_enter, head_lifts, head_make]
  kernel_rfl
theorem closedHere : joinedFacts Try.pinned.checked.prog 4 Try.f4 Rows.fnPastsAreExactSpec Rows.fnPastsAreExactRow = true := by
  rw [progEq]
  exact closedFacts
theorem over : Rows.fnPastsAreExactRow.holds Try.pinned (OpenSpec.ofChange Rows.fnPastsAreExactSpec) :=
  OpenClaim.holds_of_wide 4 Try.f4 rfl rfl rfl rfl rfl rfl rfl ⟨rfl, rfl, rfl, rfl, rfl⟩ rfl rfl rfl rfl rfl (by kernel_rfl) Try.func4 closedHere
    (of_decide_eq_true (by kernel_rfl)) (by unfold Func.isWrapper; first | (rw [if_pos (by decide +kernel)]; kernel_rfl) | (rw [if_neg (by decide +kernel)]; exact ⟨rfl, rfl⟩))
    (fun os started H enc _ => lifted os started H enc)

/-- ████ THE STATEMENT ████ -/
theorem proved : Rows.FnPastsAreExactSaid := over
#print axioms proved
end Go.Proofs.Ytkhphdohdnfplaa.fnPastsAreExact
