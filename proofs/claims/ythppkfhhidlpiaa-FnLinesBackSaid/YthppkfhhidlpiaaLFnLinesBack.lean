/- FnLinesBack: for every input the law returns true and leaves its arguments as they were. No condition. -/
import Derived.Test.YthppkfhhidlpiaaRows
import Derived.WalkKit
import Derived.ProofKit
import Derived.OpenShut
import Derived.ShutString
import Derived.ChangeOld
import Derived.Below
import Derived.Test.YthppkfhhidlpiaaHead
import Derived.Test.YthppkfhhidlpiaaGe
import Derived.Test.YthppkfhhidlpiaaGd
import Derived.Test.YthppkfhhidlpiaaGx
import Derived.Test.YthppkfhhidlpiaaGs
import Derived.Test.YthppkfhhidlpiaaGi
namespace Go.Proofs.Ythppkfhhidlpiaa.fnLinesBack
set_option linter.unusedSimpArgs false
open Go.ChangeShapes Go.WideShapes Go.ChangeAt Go.RowKit
open Go.ChangeMaps (open_string shut_string)
set_option linter.unusedVariables false

theorem own : ownKnob Try.prog.godebug = none := by kernel_rfl
theorem laidOut : laidOutB Try.prog = true := by kernel_rfl

/-- WHAT THE WALK IS TOLD OF A SLICE OF INTEGERS THAT CAME IN: it is nil; or it leads to a row of 'cap' cells, the numbers 'zs' (the first 'len' are its elements, the rest its spare room), each fitting its kind. -/
def IsRow (k : IntKind) (w : World) (a : Option Addr) (len cap : Nat) (zs : List Int) : Prop :=
  (a = none ∧ len = 0 ∧ cap = 0 ∧ zs = []) ∨
  ∃ x, a = some x ∧ len ≤ cap ∧ cap ≤ maxLen ∧ zs.length = cap ∧ (∀ i, i < zs.length → w.cell? (x.add i) = some (.int k (zs.getD i 0))) ∧ ∀ n ∈ zs, (Lit.int k n).wf = true

/-! ### THE WALK: the Go text returns true, AND WRITES NOTHING THAT WAS THERE: 'Below w.heap.size w w'' (Derived/Below.lean: '.refl', '.alloc', '.drew', '.setCell' at a new block, '.trans'). Open each 'IsRow' by 'rcases' AHEAD of 'go_enter'; part every test ahead of the walk. -/
set_option maxHeartbeats 4000000 in
set_option maxRecDepth 100000 in
theorem walk (a0 : Option Addr) (len0 cap0 : Nat) (z0 : List Int) (a1 : Option Addr) (len1 cap1 : Nat) (z1 : List Int) (w : World) (w0 : IsRow .u8 w a0 len0 cap0 z0) (w1 : IsRow .u8 w a1 len1 cap1 z1) :
    Calls Try.prog 23 #[.slice a0 len0 cap0, .slice a1 len1 cap1] w fun e w' => e = .returned (.bool true) ∧ Below w.heap.size w w' := by
  have by0 := byteIn_row w0
  have by1 := byteIn_row w1
  have hl0 : len0 ≤ maxLen := by
    rcases w0 with ⟨_, h, _⟩ | ⟨x, _, h, h', _⟩
    · rw [h]; exact Nat.zero_le _
    · exact Nat.le_trans h h'
  clear w0 w1
  by_cases hbig : 1048576 < len0 ∨ (1048576 : Int) - len0 < len1
  · have hb := big_yes a0 a1 len0 len1 cap0 cap1 w hbig hl0
    have Hb := Lib.hid hb; clear hb
    go_enter Try.func23, Try.ntmps23
    go_wp2_with fail
    with_reducible refine (Hb.out).mono ?_
    rintro e w' ⟨rfl, rfl⟩
    go_wp2
    go_ret
    exact ⟨rfl, Below.refl _ _⟩
  have hb := big_no a0 a1 len0 len1 cap0 cap1 w (by omega) (by omega)
  have hd := DrawLineBack_any a0 len0 cap0 w (by omega) by0
  have hf := fun W (h : Below w.heap.size w W) => DrawFirstPast_any a1 len1 cap1 W (by omega) (by1.up (Nat.le_refl _) h h.size)
  have Hb := Lib.hid hb; clear hb
  have Hd := Lib.hid hd; clear hd
  have Hf := Lib.hid hf; clear hf
  clear by0 by1 hl0 hbig
  have acc : Below w.heap.size w w := Below.refl _ _
  go_enter Try.func23, Try.ntmps23
  go_wp2_with fail
  with_reducible refine (Hb.out).mono ?_
  rintro e w' ⟨rfl, rfl⟩
  clear Hb
  go_wp2_with fail
  with_reducible refine (Hd.out).mono ?_
  rintro e v1 ⟨p1, n1, c1, xs, rfl, ho1, hnear, hb1⟩
  replace acc := belowTrans acc hb1 (Nat.le_refl _)
  clear hb1
  clear Hd hnear
  have hi := fun W h => impl_LineBack p1 n1 c1 xs W h
  have hs := fun W h => spec_LineBack p1 n1 c1 xs W h
  cases gx : goodB xs
  · simp only [mLine_no gx] at hi hs
    have Hi := Lib.hid hi; clear hi
    have Hs := Lib.hid hs; clear hs
    go_wp2_with fail
    with_reducible refine (Hi.out _ ho1.at).mono ?_
    rintro e v2 ⟨pi, ni, ci, rfl, hoi, hb2⟩
    replace ho1 := ho1.keep hb2
    replace acc := belowTrans acc hb2 (Nat.le_refl _)
    clear hb2
    go_wp2_with fail
    with_reducible refine (Hs.out _ ho1.at).mono ?_
    rintro e v3 ⟨ps, ns, cs, rfl, hos, hb3⟩
    replace ho1 := ho1.keep hb3
    replace hoi := hoi.keep hb3
    replace acc := belowTrans acc hb3 (Nat.le_refl _)
    clear hb3
    clear Hi Hs
    have hc := pSameLists_any _ _ _ _ _ _ _ _ _ hoi.at hos.at
    rw [decide_eq_true rfl] at hc
    have Hc := Lib.hid hc; clear hc
    go_wp2_with fail
    with_reducible refine (Hc.out).mono ?_
    rintro e v4 ⟨rfl, hb4⟩
    replace ho1 := ho1.keep hb4
    replace hoi := hoi.keep hb4
    replace hos := hos.keep hb4
    replace acc := belowTrans acc hb4 (Nat.le_refl _)
    clear hb4
    clear Hc
    clear hos
    go_wp2_with fail
    with_reducible refine (Hf.out _ acc).mono ?_
    rintro e v5 ⟨p2, n2, c2, ys, rfl, ho2, hnear, hb5⟩
    replace ho1 := ho1.keep hb5
    replace hoi := hoi.keep hb5
    replace acc := belowTrans acc hb5 (Nat.le_refl _)
    clear hb5
    clear Hf hnear
    have hi := fun W h => impl_FirstPast p2 n2 c2 ys W h
    have hs := fun W h => spec_FirstPast p2 n2 c2 ys W h
    generalize (mFirstPast ys).1 = F at hi hs
    generalize (mFirstPast ys).2 = B at hi hs
    have Hi := Lib.hid hi; clear hi
    have Hs := Lib.hid hs; clear hs
    go_wp2_with fail
    with_reducible refine (Hi.out _ ho2.at).mono ?_
    rintro e v6 ⟨pa, na, ca, rfl, hoa, hb6⟩
    replace ho1 := ho1.keep hb6
    replace hoi := hoi.keep hb6
    replace ho2 := ho2.keep hb6
    replace acc := belowTrans acc hb6 (Nat.le_refl _)
    clear hb6
    go_wp2_with fail
    with_reducible refine (Hs.out _ ho2.at).mono ?_
    rintro e v7 ⟨pb, nb, cb, rfl, hob, hb7⟩
    replace ho1 := ho1.keep hb7
    replace hoi := hoi.keep hb7
    replace ho2 := ho2.keep hb7
    replace hoa := hoa.keep hb7
    replace acc := belowTrans acc hb7 (Nat.le_refl _)
    clear hb7
    clear Hi Hs
    have hc := pSame_any _ _ _ _ _ _ _ _ _ hoa.at hob.at
    rw [decide_eq_true rfl] at hc
    have Hc := Lib.hid hc; clear hc
    go_wp2_with fail
    with_reducible refine (Hc.out).mono ?_
    rintro e v8 ⟨rfl, hb8⟩
    replace ho1 := ho1.keep hb8
    replace hoi := hoi.keep hb8
    replace ho2 := ho2.keep hb8
    replace hoa := hoa.keep hb8
    replace hob := hob.keep hb8
    replace acc := belowTrans acc hb8 (Nat.le_refl _)
    clear hb8
    clear Hc
    clear hoa
    clear hob
    clear ho2
    go_wp2
    go_ret
    exact ⟨rfl, acc⟩
  have gX := good_iff.1 gx
  simp only [mLine_yes gx] at hi hs
  obtain ⟨f1, f2, f3, f4⟩ := line_facts gX
  have hN := (lineN_spec gX).1
  have hD := (depN_spec gX).2.1
  have hdp := fun W h => impl_DepthOf p1 n1 c1 xs W h
  simp only [mDep_yes gx] at hdp
  generalize depN xs = D at hdp hN hD
  generalize lineN xs = N at f1 f3 f4 hN
  generalize lineL xs = L at hi hs f1 f2 f3 f4
  clear gX
  have Hi := Lib.hid hi; clear hi
  have Hs := Lib.hid hs; clear hs
  have Hdp := Lib.hid hdp; clear hdp
  have F1 := Lib.hid f1; clear f1
  have F2 := Lib.hid f2; clear f2
  have F3 := Lib.hid f3; clear f3
  have F4 := Lib.hid f4; clear f4
  go_wp2_with fail
  with_reducible refine (Hi.out _ ho1.at).mono ?_
  rintro e v2 ⟨pi, ni, ci, rfl, hoi, hb2⟩
  replace ho1 := ho1.keep hb2
  replace acc := belowTrans acc hb2 (Nat.le_refl _)
  clear hb2
  go_wp2_with fail
  with_reducible refine (Hs.out _ ho1.at).mono ?_
  rintro e v3 ⟨ps, ns, cs, rfl, hos, hb3⟩
  replace ho1 := ho1.keep hb3
  replace hoi := hoi.keep hb3
  replace acc := belowTrans acc hb3 (Nat.le_refl _)
  clear hb3
  clear Hi Hs
  have hc := pSameLists_any _ _ _ _ _ _ _ _ _ hoi.at hos.at
  rw [decide_eq_true rfl] at hc
  have Hc := Lib.hid hc; clear hc
  go_wp2_with fail
  with_reducible refine (Hc.out).mono ?_
  rintro e v4 ⟨rfl, hb4⟩
  replace ho1 := ho1.keep hb4
  replace hoi := hoi.keep hb4
  replace hos := hos.keep hb4
  replace acc := belowTrans acc hb4 (Nat.le_refl _)
  clear hb4
  clear Hc
  clear hos
  go_wp2_with fail
  with_reducible refine (Hf.out _ acc).mono ?_
  rintro e v5 ⟨p2, n2, c2, ys, rfl, ho2, hnear, hb5⟩
  replace ho1 := ho1.keep hb5
  replace hoi := hoi.keep hb5
  replace acc := belowTrans acc hb5 (Nat.le_refl _)
  clear hb5
  clear Hf hnear
  have hi := fun W h => impl_FirstPast p2 n2 c2 ys W h
  have hs := fun W h => spec_FirstPast p2 n2 c2 ys W h
  generalize (mFirstPast ys).1 = F at hi hs
  generalize (mFirstPast ys).2 = B at hi hs
  have Hi := Lib.hid hi; clear hi
  have Hs := Lib.hid hs; clear hs
  go_wp2_with fail
  with_reducible refine (Hi.out _ ho2.at).mono ?_
  rintro e v6 ⟨pa, na, ca, rfl, hoa, hb6⟩
  replace ho1 := ho1.keep hb6
  replace hoi := hoi.keep hb6
  replace ho2 := ho2.keep hb6
  replace acc := belowTrans acc hb6 (Nat.le_refl _)
  clear hb6
  go_wp2_with fail
  with_reducible refine (Hs.out _ ho2.at).mono ?_
  rintro e v7 ⟨pb, nb, cb, rfl, hob, hb7⟩
  replace ho1 := ho1.keep hb7
  replace hoi := hoi.keep hb7
  replace ho2 := ho2.keep hb7
  replace hoa := hoa.keep hb7
  replace acc := belowTrans acc hb7 (Nat.le_refl _)
  clear hb7
  clear Hi Hs
  have hc := pSame_any _ _ _ _ _ _ _ _ _ hoa.at hob.at
  rw [decide_eq_true rfl] at hc
  have Hc := Lib.hid hc; clear hc
  go_wp2_with fail
  with_reducible refine (Hc.out).mono ?_
  rintro e v8 ⟨rfl, hb8⟩
  replace ho1 := ho1.keep hb8
  replace hoi := hoi.keep hb8
  replace ho2 := ho2.keep hb8
  replace hoa := hoa.keep hb8
  replace hob := hob.keep hb8
  replace acc := belowTrans acc hb8 (Nat.le_refl _)
  clear hb8
  clear Hc
  clear hoa
  clear hob
  clear ho2
  go_wp2_with fail
  with_reducible refine (Hdp.out _ ho1.at).mono ?_
  rintro e v9 ⟨rfl, hb9⟩
  replace ho1 := ho1.keep hb9
  replace hoi := hoi.keep hb9
  replace acc := belowTrans acc hb9 (Nat.le_refl _)
  clear hb9
  clear Hdp
  have hl := hoi.length
  have hni : ni = N + 1 := by rw [← hl]; exact F1.out
  have hni1 : 1 ≤ ni := by omega
  have hni1i : (1 : Int) ≤ ni := by omega
  have hni2 : (ni : Int) ≤ D := by omega
  have hD8 : (D : Int) ≤ 3719 := by omega
  have hni8 : (ni : Int) ≤ 3719 := by omega
  have hd1 : decide ((D : Int) < ni) = false := decide_eq_false (by omega)
  have hd2 : decide (D < ni) = false := decide_eq_false (by omega)
  have Hni := Lib.hid hni; clear hni
  have Hl := Lib.hid hl; clear hl
  have hrows := hoi.at
  clear hoi
  obtain ⟨b1, o1, e_, _, hc_⟩ := hrows.cell 0 (by omega)
  cases e_
  obtain ⟨a1_, m1, d1, hcell, hat⟩ := hc_ 0 (by omega)
  clear hc_
  rw [Nat.add_zero] at hcell
  rw [F2.out] at hat
  have hc := pSame_any _ _ _ _ _ _ _ _ _ hat ho1.at
  rw [decide_eq_true rfl] at hc
  have Hc := Lib.hid hc; clear hc
  go_wp2_with fail
  with_reducible refine (Hc.out).mono ?_
  rintro e v10 ⟨rfl, hb10⟩
  replace ho1 := ho1.keep hb10
  replace hrows := hrows.keep hb10
  replace acc := belowTrans acc hb10 (Nat.le_refl _)
  clear hb10
  clear Hc
  clear hcell hat F2
  clear ho1
  obtain ⟨wo, hwo⟩ : ∃ wo : World, wo = v10 := ⟨_, rfl⟩
  subst hwo
  go_wp2_with fail
  go_loopw [17] (fun i wr => ∃ j : Nat, 1 ≤ j ∧ j ≤ ni ∧ i = .int .i64 j ∧ Below w.heap.size w wr ∧ Below wo.heap.size wo wr) (fun i _ => ni - (intOf i).toNat)
  case atStart => exact ⟨1, Nat.le_refl _, hni1, rfl, acc, Below.refl _ _⟩
  case round =>
    obtain ⟨j, hj1, hj, rfl, hbw, hbo⟩ := hrel
    by_cases hlt : j < ni
    · skip
      replace hrows := hrows.keep hbo
      obtain ⟨g1, g2, g3, g4⟩ := F3.out (j - 1) (by have := Hni.out; omega)
      rw [show j - 1 + 1 = j by omega] at g1 g2 g3 g4
      have hst := fun a n c W h => impl_StepPiles a n c (L.getD j []) W h
      simp only [mStep_yes g1, g2] at hst
      have hfp := fun a n c W h => impl_FirstPast a n c (L.getD (j - 1) []) W h
      simp only [g3] at hfp
      have hpc := fun a n c W h => pCyclic_any a n c (L.getD j []) W h
      rw [g4] at hpc
      clear g1 g2 g3 g4
      generalize hZ : L.getD j [] = Z at hst hfp hpc
      generalize hY : L.getD (j - 1) [] = Y at hst hfp
      have Hst := Lib.hid hst; clear hst
      have Hfp := Lib.hid hfp; clear hfp
      have Hpc := Lib.hid hpc; clear hpc
      have HZ := Lib.hid hZ; clear hZ
      have HY := Lib.hid hY; clear hY
      obtain ⟨b1, o1, e_, _, hc_⟩ := hrows.cell j (by omega)
      cases e_
      obtain ⟨x1a, x1m, x1c, x1hcell, x1at⟩ := hc_ j (by omega)
      clear hc_
      rw [HZ.out] at x1at
      go_wp2_with fail
      with_reducible refine (Hst.out _ _ _ _ x1at).mono ?_
      rintro e v11 ⟨pz, nz, cz, rfl, hoz, hb11⟩
      replace hrows := hrows.keep hb11
      replace x1at := x1at.keep hb11
      replace hbw := belowTrans hbw hb11 (Nat.le_refl _)
      replace hbo := belowTrans hbo hb11 (Nat.le_refl _)
      clear hb11
      clear x1hcell Hst
      clear x1at
      obtain ⟨b1, o1, e_, _, hc_⟩ := hrows.cell (j - 1) (by omega)
      cases e_
      obtain ⟨x2a, x2m, x2c, x2hcell, x2at⟩ := hc_ (j - 1) (by omega)
      clear hc_
      rw [HY.out] at x2at
      go_wp2_with fail
      with_reducible refine (Hfp.out _ _ _ _ x2at).mono ?_
      rintro e v12 ⟨pf, nf, cf, rfl, hof, hb12⟩
      replace hrows := hrows.keep hb12
      replace hoz := hoz.keep hb12
      replace x2at := x2at.keep hb12
      replace hbw := belowTrans hbw hb12 (Nat.le_refl _)
      replace hbo := belowTrans hbo hb12 (Nat.le_refl _)
      clear hb12
      clear x2hcell Hfp
      clear x2at
      obtain ⟨b1, o1, e_, _, hc_⟩ := hrows.cell (j - 1) (by omega)
      cases e_
      obtain ⟨x3a, x3m, x3c, x3hcell, x3at⟩ := hc_ (j - 1) (by omega)
      clear hc_
      rw [HY.out] at x3at
      have hc := pSame_any _ _ _ _ _ _ _ _ _ hoz.at x3at
      rw [decide_eq_true rfl] at hc
      have Hc := Lib.hid hc; clear hc
      go_wp2_with fail
      with_reducible refine (Hc.out).mono ?_
      rintro e v13 ⟨rfl, hb13⟩
      replace hrows := hrows.keep hb13
      replace hoz := hoz.keep hb13
      replace hof := hof.keep hb13
      replace hbw := belowTrans hbw hb13 (Nat.le_refl _)
      replace hbo := belowTrans hbo hb13 (Nat.le_refl _)
      clear hb13
      clear Hc
      clear x3hcell x3at
      clear hoz
      obtain ⟨b1, o1, e_, _, hc_⟩ := hrows.cell j (by omega)
      cases e_
      obtain ⟨x4a, x4m, x4c, x4hcell, x4at⟩ := hc_ j (by omega)
      clear hc_
      rw [HZ.out] at x4at
      have hc := pSame_any _ _ _ _ _ _ _ _ _ hof.at x4at
      rw [decide_eq_true rfl] at hc
      have Hc := Lib.hid hc; clear hc
      go_wp2_with fail
      with_reducible refine (Hc.out).mono ?_
      rintro e v14 ⟨rfl, hb14⟩
      replace hrows := hrows.keep hb14
      replace hof := hof.keep hb14
      replace hbw := belowTrans hbw hb14 (Nat.le_refl _)
      replace hbo := belowTrans hbo hb14 (Nat.le_refl _)
      clear hb14
      clear Hc
      clear x4hcell x4at
      clear hof
      obtain ⟨b1, o1, e_, _, hc_⟩ := hrows.cell j (by omega)
      cases e_
      obtain ⟨x5a, x5m, x5c, x5hcell, x5at⟩ := hc_ j (by omega)
      clear hc_
      rw [HZ.out] at x5at
      go_wp2_with fail
      with_reducible refine (Hpc.out _ _ _ _ x5at).mono ?_
      rintro e v15 ⟨rfl, hb15⟩
      replace hrows := hrows.keep hb15
      replace hbw := belowTrans hbw hb15 (Nat.le_refl _)
      replace hbo := belowTrans hbo hb15 (Nat.le_refl _)
      clear hb15
      clear x5hcell x5at Hpc
      go_wp2
      go_roundw
      case rel => exact ⟨j + 1, by omega, by omega, by go_num, hbw, hbo⟩
      case measure => simp [intOf] <;> omega
    · skip
      replace hrows := hrows.keep hbo
      clear hbo
      have f4 := F4.out
      rw [show N = ni - 1 by have := Hni.out; omega] at f4
      have hfp := fun a n c W h => impl_FirstPast a n c (L.getD (ni - 1) []) W h
      simp only [f4] at hfp
      clear f4
      have ej : ((ni - 1 : Nat) : Int) = (ni : Int) - 1 := by omega
      have Hfp := Lib.hid hfp; clear hfp
      obtain ⟨b1, o1, e_, _, hc_⟩ := hrows.cell (ni - 1) (by omega)
      cases e_
      obtain ⟨x6a, x6m, x6c, x6hcell, x6at⟩ := hc_ (ni - 1) (by omega)
      clear hc_
      go_wp2_with fail
      with_reducible refine (Hfp.out _ _ _ _ x6at).mono ?_
      rintro e v11 ⟨pq, nq, cq, rfl, hoq, hb11⟩
      replace hrows := hrows.keep hb11
      replace hbw := belowTrans hbw hb11 (Nat.le_refl _)
      clear hb11
      go_wp2
      go_ret
      exact ⟨rfl, hbw⟩

/-! ### THE ROW's STEP: WRITTEN OUT: LEAVE IT -/
set_option maxRecDepth 100000 in
theorem lifted (os : Os) (started : os.Started) (H : Type) (enc : TypeId × Value → H) :
    ReturnsInHanded {} Try.checked os 23 .any (Rows.fnLinesBackSpec.pre6 enc Try.prog Try.f23 Rows.fnLinesBackRow.domain false) (Rows.fnLinesBackSpec.post enc Try.prog Try.f23 false true false false) := by
  refine returnsInHanded_of_change (C := Try.checked) own started (by kernel_rfl) Try.func23
    (ChangeSpec.witness6 (enc := enc) (C := Try.checked) false ⟨#[], #[.slice none 0 0, .slice none 0 0], []⟩ 8 (by kernel_rfl) (by kernel_rfl) (by kernel_rfl) (by kernel_rfl)) ?_
  intro W base args ds gs before hval0 hW hcnd _
  have hval : ∀ (j : Nat) t v, Try.f23.params[j]? = some t → args[j]? = some v → Value.okWide Try.prog W .any base t v := hval0
  have hW' := hW
  obtain ⟨p, q, hA0, hV, rfl, hfz, hnd⟩ := hW
  have hA : DataW.TrodAll enc Try.prog W 0 (fun _ => true) true Try.f23.params.toList args.toList ds p := hA0
  rw [Try.params23] at hA hval
  obtain ⟨v0, vs0, d0, ds0, p0, q0, hargs, rfl, rfl, h0, r0⟩ := trodAll_cons hA
  obtain ⟨v1, vs1, d1, ds1, p1, q1, rfl, rfl, rfl, h1, r1⟩ := trodAll_cons r0
  obtain ⟨rfl, rfl, rfl⟩ := trodAll_nil r1
  obtain rfl : args = #[v0, v1] := by cases args; simp_all
  obtain ⟨rfl, rfl⟩ := trodVars_none hV
  obtain ⟨a0, len0, cap0, rfl⟩ := okWide_slice Try.underlying22 (hval 0 22 v0 rfl rfl)
  have k0 := h0
  have lt0 : ∀ x ∈ p0, x.block < W.heap.size := by obtain ⟨m, hm⟩ := k0; exact DataW.trod_lt m _ _ _ hm
  obtain ⟨z0, w0⟩ : ∃ zs, IsRow .u8 W a0 len0 cap0 zs := by
    obtain ⟨fuel, hf⟩ := h0
    rcases open_ints Try.underlying22 Try.underlying5 (by kernel_rfl) hf with ⟨hcs, _⟩ | ⟨x, l, c, zs, hcs, _, hl, hm, hz, _, hcell, hwz⟩
    · simp [Value.cells] at hcs
      obtain ⟨rfl, rfl, rfl⟩ := hcs
      exact ⟨[], .inl ⟨rfl, rfl, rfl, rfl⟩⟩
    · simp [Value.cells] at hcs
      obtain ⟨rfl, rfl, rfl⟩ := hcs
      exact ⟨zs, .inr ⟨_, rfl, hl, hm, by simpa using hz, hcell, hwz⟩⟩
  obtain ⟨a1, len1, cap1, rfl⟩ := okWide_slice Try.underlying22 (hval 1 22 v1 rfl rfl)
  have k1 := h1
  have lt1 : ∀ x ∈ p1, x.block < W.heap.size := by obtain ⟨m, hm⟩ := k1; exact DataW.trod_lt m _ _ _ hm
  obtain ⟨z1, w1⟩ : ∃ zs, IsRow .u8 W a1 len1 cap1 zs := by
    obtain ⟨fuel, hf⟩ := h1
    rcases open_ints Try.underlying22 Try.underlying5 (by kernel_rfl) hf with ⟨hcs, _⟩ | ⟨x, l, c, zs, hcs, _, hl, hm, hz, _, hcell, hwz⟩
    · simp [Value.cells] at hcs
      obtain ⟨rfl, rfl, rfl⟩ := hcs
      exact ⟨[], .inl ⟨rfl, rfl, rfl, rfl⟩⟩
    · simp [Value.cells] at hcs
      obtain ⟨rfl, rfl, rfl⟩ := hcs
      exact ⟨zs, .inr ⟨_, rfl, hl, hm, by simpa using hz, hcell, hwz⟩⟩
  clear hA0 hval0
  refine (walk a0 len0 cap0 z0 a1 len1 cap1 z1 W w0 w1).mono fun e W' ⟨he, bel⟩ => ?_
  subst he
  exact ⟨_, rfl, _, _, _, [], _, [], hW', trodAll_mk1 (shut_bool Try.underlying4 _), (trodAll_cons_mk (Below.trod laidOut (by kernel_rfl) (of_decide_eq_true (by kernel_rfl)) k0 bel lt0) (trodAll_cons_mk (Below.trod laidOut (by kernel_rfl) (of_decide_eq_true (by kernel_rfl)) k1 bel lt1) trodAll_mk0)), rfl, bel.frame _, fun h => by cases h⟩

theorem closedFacts : joinedFacts Try.prog 23 Try.f23 Rows.fnLinesBackSpec Rows.fnLinesBackRow = true := by
  unfold joinedFacts
  rw [head_enter, head_lifts, head_make]
  kernel_rfl
theorem closedHere : joinedFacts Try.pinned.checked.prog 23 Try.f23 Rows.fnLinesBackSpec Rows.fnLinesBackRow = true := by
  rw [progEq]
  exact closedFacts
theorem over : Rows.fnLinesBackRow.holds Try.pinned (OpenSpec.ofChange Rows.fnLinesBackSpec) :=
  OpenClaim.holds_of_wide 23 Try.f23 rfl rfl rfl rfl rfl rfl rfl ⟨rfl, rfl, rfl, rfl, rfl⟩ rfl rfl rfl rfl rfl (by kernel_rfl) Try.func23 closedHere
    (of_decide_eq_true (by kernel_rfl)) (by unfold Func.isWrapper; first | (rw [if_pos (by decide +kernel)]; kernel_rfl) | (rw [if_neg (by decide +kernel)]; exact ⟨rfl, rfl⟩))
    (fun os started H enc _ => lifted os started H enc)

/-- ████ THE STATEMENT ████ -/
theorem proved : Rows.FnLinesBackSaid := over
#print axioms proved
end Go.Proofs.Ythppkfhhidlpiaa.fnLinesBack
