/- FnRowPasts: for every input the law returns true and leaves its arguments as they were. No condition. -/
import Derived.Test.YtbneibpakopllaaRows
import Derived.WalkKit
import Derived.ProofKit
import Derived.OpenShut
import Derived.ShutString
import Derived.ChangeOld
import Derived.Below
import Derived.Test.YtbneibpakopllaaHead
import Derived.Test.YtbneibpakopllaaLawp
import Derived.Test.YtbneibpakopllaaGm
import Derived.Test.YtbneibpakopllaaGz
import Derived.Test.YtbneibpakopllaaRowO
import Derived.Test.YtbneibpakopllaaRowL
namespace Go.Proofs.Ytbneibpakopllaa.fnRowPasts
set_option linter.unusedSimpArgs false
open Go.ChangeShapes Go.WideShapes Go.ChangeAt Go.RowKit
open Go.ChangeMaps (open_string shut_string)
set_option linter.unusedVariables false

theorem own : ownKnob Try.prog.godebug = none := by kernel_rfl
theorem laidOut : laidOutB Try.prog = true := by kernel_rfl

/-- WHAT THE WALK IS TOLD OF A SLICE OF INTEGERS THAT CAME IN: it is nil; or it leads to a row of 'cap' cells, the numbers 'zs' (the first 'len' are its elements, the rest its spare room), each fitting its kind. -/
def IsRow (k : IntKind) (w : World) (a : Option Addr) (len cap : Nat) (zs : List Int) : Prop :=
  (a = none ∧ len = 0 ∧ cap = 0 ∧ zs = []) ∨
  ∃ x, a = some x ∧ len ≤ cap ∧ cap ≤ maxLen ∧ zs.length = cap ∧ (∀ i, i < zs.length → w.cell? (x.add i) = some (.int k (zs.getD i 0))) ∧ ∀ n ∈ zs, (Lit.int k n).wf = true

/-! ### THE WALK: the Go text returns true, AND WRITES NOTHING THAT WAS THERE: 'Below w.heap.size w w'' (Derived/Below.lean: '.refl', '.alloc', '.drew', '.setCell' at a new block, '.trans'). Open each 'IsRow' by 'rcases' AHEAD of 'go_enter'; part every test ahead of the walk. -/
set_option maxHeartbeats 4000000 in
set_option maxRecDepth 100000 in
theorem walk (a0 : Option Addr) (len0 cap0 : Nat) (z0 : List Int) (a1 : Option Addr) (len1 cap1 : Nat) (z1 : List Int) (w : World) (w0 : IsRow .u8 w a0 len0 cap0 z0) (w1 : IsRow .u8 w a1 len1 cap1 z1) :
    Calls Try.prog 10 #[.slice a0 len0 cap0, .slice a1 len1 cap1] w fun e w' => e = .returned (.bool true) ∧ Below w.heap.size w w' := by
  have by0 := byteIn_row w0
  have by1 := byteIn_row w1
  have hl0 : len0 ≤ maxLen := by
    rcases w0 with ⟨_, h, _⟩ | ⟨x, _, h, h', _⟩
    · rw [h]; exact Nat.zero_le _
    · exact Nat.le_trans h h'
  clear w0 w1
  by_cases hbig : 1048576 < len0 ∨ (1048576 : Int) - len0 < len1
  · have hb := big_yes a0 a1 len0 len1 cap0 cap1 w hbig hl0
    have Hb := Lib.hid hb; clear hb
    go_enter Try.func10, Try.ntmps10
    go_wp2_with fail
    with_reducible refine (Hb.out).mono ?_
    rintro e w' ⟨rfl, rfl⟩
    go_wp2
    go_ret
    exact ⟨rfl, Below.refl _ _⟩
  have hb := big_no a0 a1 len0 len1 cap0 cap1 w (by omega) (by omega)
  have hd := DrawRowPasts_any a0 len0 cap0 w (by omega) by0
  have hf := fun W (h : Below w.heap.size w W) => DrawStepRow_any a1 len1 cap1 W (by omega) (by1.up (Nat.le_refl _) h h.size)
  have Hb := Lib.hid hb; clear hb
  have Hd := Lib.hid hd; clear hd
  have Hf := Lib.hid hf; clear hf
  clear by0 by1 hl0 hbig
  have acc : Below w.heap.size w w := Below.refl _ _
  go_enter Try.func10, Try.ntmps10
  go_wp2_with fail
  with_reducible refine (Hb.out).mono ?_
  rintro e w' ⟨rfl, rfl⟩
  clear Hb
  go_wp2_with fail
  with_reducible refine (Hd.out).mono ?_
  rintro e v1 ⟨p1, n1, c1, xs, rfl, ho1, hb1⟩
  replace acc := belowTrans acc hb1 (Nat.le_refl _)
  clear hb1
  clear Hd
  have hi := fun W h => impl_RowPasts p1 n1 c1 xs W h
  have hs := fun W h => spec_RowPasts p1 n1 c1 xs W h
  have hc := fun W h => impl_RowPastCount p1 n1 c1 xs W h
  have he := fun W h => spec_RowPastCount p1 n1 c1 xs W h
  cases hb : rowB xs
  · skip
    simp only [mRP_no1 hb] at hi hs
    simp only [mRPC_no hb] at hc he
    clear hb
    have Hi := Lib.hid hi; clear hi
    have Hs := Lib.hid hs; clear hs
    go_wp2_with fail
    with_reducible refine (Hi.out _ ho1.at).mono ?_
    rintro e v2 ⟨pi, ni, ci, rfl, hoi, hb2⟩
    replace ho1 := ho1.keep hb2
    replace acc := belowTrans acc hb2 (Nat.le_refl _)
    clear hb2
    go_wp2_with fail
    with_reducible refine (Hs.out _ ho1.at).mono ?_
    rintro e v3 ⟨ps, ns, cs, rfl, hos, hb3⟩
    replace ho1 := ho1.keep hb3
    replace hoi := hoi.keep hb3
    replace acc := belowTrans acc hb3 (Nat.le_refl _)
    clear hb3
    have Hc := Lib.hid hc; clear hc
    have He := Lib.hid he; clear he
    go_wp2_with fail
    with_reducible refine (Hc.out _ ho1.at).mono ?_
    rintro e v4 ⟨rfl, hb4⟩
    replace ho1 := ho1.keep hb4
    replace hoi := hoi.keep hb4
    replace hos := hos.keep hb4
    replace acc := belowTrans acc hb4 (Nat.le_refl _)
    clear hb4
    go_wp2_with fail
    with_reducible refine (He.out _ ho1.at).mono ?_
    rintro e v5 ⟨rfl, hb5⟩
    replace ho1 := ho1.keep hb5
    replace hoi := hoi.keep hb5
    replace hos := hos.keep hb5
    replace acc := belowTrans acc hb5 (Nat.le_refl _)
    clear hb5
    have hc := xRows_any _ _ _ _ _ _ _ _ _ hoi.at hos.at
    rw [decide_eq_true rfl] at hc
    have Hc := Lib.hid hc; clear hc
    go_wp2_with fail
    with_reducible refine (Hc.out).mono ?_
    rintro e v6 ⟨rfl, hb6⟩
    replace ho1 := ho1.keep hb6
    replace hoi := hoi.keep hb6
    replace hos := hos.keep hb6
    replace acc := belowTrans acc hb6 (Nat.le_refl _)
    clear hb6
    clear Hc
    clear hos
    clear Hi Hs Hc He
    clear hoi
    clear ho1
    go_wp2_with fail
    with_reducible refine (Hf.out _ acc).mono ?_
    rintro e v7 ⟨p2, n2, c2, ys, rfl, ho2, hn2, hb7⟩
    replace acc := belowTrans acc hb7 (Nat.le_refl _)
    clear hb7
    clear Hf
    have hg := fun W h => impl_StepRow p2 n2 c2 ys W h
    cases hb2 : rowB ys
    · skip
      simp only [mStepRow_no hb2] at hg
      clear hb2
      have Hg := Lib.hid hg; clear hg
      go_wp2_with fail
      with_reducible refine (Hg.out _ ho2.at).mono ?_
      rintro e v8 ⟨pg, ng, cg, rfl, hog, hb8⟩
      replace ho2 := ho2.keep hb8
      replace acc := belowTrans acc hb8 (Nat.le_refl _)
      clear hb8
      go_wp2
      go_ret
      exact ⟨rfl, acc⟩
    have gY := row_iff.1 hb2
    have gS : RowOk (rowStepL ys) := rowsL_row gY 1
    simp only [mStepRow_yes hb2] at hg
    have hp := fun a n c W h => impl_RowPasts a n c (rowStepL ys) W h
    by_cases h3 : pastC (rowStepL ys) ≤ 300
    · skip
      simp only [mRP_yes (row_iff.2 gS) h3] at hp
      have hmem := pastsR_all gY
      clear gY gS h3 hb2
      generalize pastsR (rowStepL ys) = P at hp hmem
      generalize rowStepL ys = us at hg hp
      have Hg := Lib.hid hg; clear hg
      have Hp := Lib.hid hp; clear hp
      have Hmem := Lib.hid hmem; clear hmem
      go_wp2_with fail
      with_reducible refine (Hg.out _ ho2.at).mono ?_
      rintro e v8 ⟨pg, ng, cg, rfl, hog, hb8⟩
      replace ho2 := ho2.keep hb8
      replace acc := belowTrans acc hb8 (Nat.le_refl _)
      clear hb8
      go_wp2_with fail
      with_reducible refine (Hp.out _ _ _ _ hog.at).mono ?_
      rintro e v9 ⟨pq, nq, cq, rfl, hoq, hb9⟩
      replace ho2 := ho2.keep hb9
      replace hog := hog.keep hb9
      replace acc := belowTrans acc hb9 (Nat.le_refl _)
      clear hb9
      clear hog
      clear Hg Hp
      have hlq := hoq.length
      have hrows := hoq.at
      have hq8 := hrows.lenInt
      have HLq := Lib.hid hlq; clear hlq hoq
      obtain ⟨wo, hwo⟩ : ∃ wo : World, wo = v9 := ⟨_, rfl⟩
      subst hwo
      go_wp2_with fail
      go_loopw [136] (fun i wr => ∃ j : Nat, j ≤ nq ∧ i = .int .i64 j ∧ Hid (ys ∉ P.take j) ∧ Below w.heap.size w wr ∧ Below wo.heap.size wo wr) (fun i _ => nq - (intOf i).toNat)
      case atStart => exact ⟨0, Nat.zero_le _, rfl, Lib.hid (by simp), acc, Below.refl _ _⟩
      case round =>
        obtain ⟨j, hj, rfl, Hno, hbw, hbo⟩ := hrel
        by_cases hlt : j < nq
        · skip
          replace ho2 := ho2.keep hbo
          replace hrows := hrows.keep hbo
          obtain ⟨b1, o1, e_, _, hc_⟩ := hrows.cell j hlt
          cases e_
          obtain ⟨a1_, m1, d1, hcell, hat⟩ := hc_ j hlt
          clear hc_
          have hjl : j < P.length := by rw [HLq.out]; exact hlt
          have hc := xSame_any _ _ _ _ _ _ _ _ _ hat ho2.at
          by_cases hey : P.getD j [] = ys
          · rw [decide_eq_true hey] at hc
            have Hc := Lib.hid hc; clear hc
            have Hey := Lib.hid hey; clear hey
            go_wp2_with fail
            with_reducible refine (Hc.out).mono ?_
            rintro e v10 ⟨rfl, hb10⟩
            replace ho2 := ho2.keep hb10
            replace hrows := hrows.keep hb10
            replace hbw := belowTrans hbw hb10 (Nat.le_refl _)
            replace hbo := belowTrans hbo hb10 (Nat.le_refl _)
            clear hb10
            go_wp2
            go_ret
            exact ⟨rfl, hbw⟩
          · rw [decide_eq_false hey] at hc
            have hno2 : ys ∉ P.take (j + 1) := by
              rw [List.take_add_one, List.getElem?_eq_getElem hjl, List.mem_append]
              rintro (h | h)
              · exact Hno.out h
              · apply hey
                rw [List.getD_eq_getElem?_getD, List.getElem?_eq_getElem hjl]
                have h' : ys = P[j] := by simpa using h
                rw [h']; rfl
            have Hc := Lib.hid hc; clear hc
            have Hey := Lib.hid hey; clear hey
            have Hno2 := Lib.hid hno2; clear hno2
            go_wp2_with fail
            with_reducible refine (Hc.out).mono ?_
            rintro e v10 ⟨rfl, hb10⟩
            replace ho2 := ho2.keep hb10
            replace hrows := hrows.keep hb10
            replace hbw := belowTrans hbw hb10 (Nat.le_refl _)
            replace hbo := belowTrans hbo hb10 (Nat.le_refl _)
            clear hb10
            go_wp2
            go_roundw
            case rel => exact ⟨j + 1, by omega, by go_num, Hno2, hbw, hbo⟩
            case measure => simp [intOf] <;> omega
        · exfalso
          obtain rfl : j = nq := by omega
          have h := Hno.out
          rw [List.take_of_length_le (by rw [HLq.out]; exact Nat.le_refl _)] at h
          exact h Hmem.out
    · skip
      simp only [mRP_no2 h3] at hp
      clear gY gS h3 hb2
      generalize rowStepL ys = us at hg hp
      have Hg := Lib.hid hg; clear hg
      have Hp := Lib.hid hp; clear hp
      go_wp2_with fail
      with_reducible refine (Hg.out _ ho2.at).mono ?_
      rintro e v8 ⟨pg, ng, cg, rfl, hog, hb8⟩
      replace ho2 := ho2.keep hb8
      replace acc := belowTrans acc hb8 (Nat.le_refl _)
      clear hb8
      go_wp2_with fail
      with_reducible refine (Hp.out _ _ _ _ hog.at).mono ?_
      rintro e v9 ⟨pq, nq, cq, rfl, hoq, hb9⟩
      replace ho2 := ho2.keep hb9
      replace hog := hog.keep hb9
      replace acc := belowTrans acc hb9 (Nat.le_refl _)
      clear hb9
      go_wp2
      go_ret
      exact ⟨rfl, acc⟩
  have gX := row_iff.1 hb
  simp only [mRPC_yes hb] at hc he
  by_cases h3 : pastC xs ≤ 300
  · skip
    simp only [mRP_yes hb h3] at hi hs
    have hcount := pastsR_count gX
    have hstep : ∀ i, i < (pastsR xs).length → RowOk ((pastsR xs).getD i []) ∧ rowStepL ((pastsR xs).getD i []) = xs := fun i hi => pastsR_step gX _ (memR hi)
    have hnext := fun i hi => pastsR_next (i := i) gX hi
    rw [← hcount] at hc he h3
    clear gX hb hcount
    generalize pastsR xs = P at hi hs hc he h3 hstep hnext
    have Hi := Lib.hid hi; clear hi
    have Hs := Lib.hid hs; clear hs
    go_wp2_with fail
    with_reducible refine (Hi.out _ ho1.at).mono ?_
    rintro e v2 ⟨pi, ni, ci, rfl, hoi, hb2⟩
    replace ho1 := ho1.keep hb2
    replace acc := belowTrans acc hb2 (Nat.le_refl _)
    clear hb2
    go_wp2_with fail
    with_reducible refine (Hs.out _ ho1.at).mono ?_
    rintro e v3 ⟨ps, ns, cs, rfl, hos, hb3⟩
    replace ho1 := ho1.keep hb3
    replace hoi := hoi.keep hb3
    replace acc := belowTrans acc hb3 (Nat.le_refl _)
    clear hb3
    have hl := hoi.length
    rw [hl] at hc he h3 hstep hnext
    have hni8 := hoi.at.lenInt
    clear hl
    have Hc := Lib.hid hc; clear hc
    have He := Lib.hid he; clear he
    have Hstep := Lib.hid hstep; clear hstep
    have Hnext := Lib.hid hnext; clear hnext
    go_wp2_with fail
    with_reducible refine (Hc.out _ ho1.at).mono ?_
    rintro e v4 ⟨rfl, hb4⟩
    replace ho1 := ho1.keep hb4
    replace hoi := hoi.keep hb4
    replace hos := hos.keep hb4
    replace acc := belowTrans acc hb4 (Nat.le_refl _)
    clear hb4
    go_wp2_with fail
    with_reducible refine (He.out _ ho1.at).mono ?_
    rintro e v5 ⟨rfl, hb5⟩
    replace ho1 := ho1.keep hb5
    replace hoi := hoi.keep hb5
    replace hos := hos.keep hb5
    replace acc := belowTrans acc hb5 (Nat.le_refl _)
    clear hb5
    have hc := xRows_any _ _ _ _ _ _ _ _ _ hoi.at hos.at
    rw [decide_eq_true rfl] at hc
    have Hc := Lib.hid hc; clear hc
    go_wp2_with fail
    with_reducible refine (Hc.out).mono ?_
    rintro e v6 ⟨rfl, hb6⟩
    replace ho1 := ho1.keep hb6
    replace hoi := hoi.keep hb6
    replace hos := hos.keep hb6
    replace acc := belowTrans acc hb6 (Nat.le_refl _)
    clear hb6
    clear Hc
    clear hos
    clear Hi Hs Hc He
    have hrows := hoi.at
    clear hoi
    obtain ⟨wo, hwo⟩ : ∃ wo : World, wo = v6 := ⟨_, rfl⟩
    subst hwo
    go_wp2_with fail
    go_loopw [85] (fun i wr => ∃ j : Nat, j ≤ ni ∧ i = .int .i64 j ∧ Below w.heap.size w wr ∧ Below wo.heap.size wo wr) (fun i _ => ni - (intOf i).toNat)
    case atStart => exact ⟨0, Nat.zero_le _, rfl, acc, Below.refl _ _⟩
    case round =>
      obtain ⟨j, hj, rfl, hbw, hbo⟩ := hrel
      by_cases hlt : j < ni
      · skip
        replace ho1 := ho1.keep hbo
        replace hrows := hrows.keep hbo
        obtain ⟨b1, o1, e_, _, hc_⟩ := hrows.cell j hlt
        cases e_
        obtain ⟨a1_, m1, d1, hcell, hat⟩ := hc_ j hlt
        clear hc_
        obtain ⟨hg1, hg2⟩ := Hstep.out j hlt
        have hst := fun W h => impl_StepRow a1_ m1 d1 (P.getD j []) W h
        simp only [mStepRow_yes (row_iff.2 hg1), hg2] at hst
        clear hg1 hg2
        have Hst := Lib.hid hst; clear hst
        cases j with
        | zero =>
          rw [Nat.add_zero] at hcell
          go_wp2_with fail
          with_reducible refine (Hst.out _ hat).mono ?_
          rintro e v7 ⟨pz, nz, cz, rfl, hoz, hb7⟩
          replace ho1 := ho1.keep hb7
          replace hrows := hrows.keep hb7
          replace hat := hat.keep hb7
          replace hbw := belowTrans hbw hb7 (Nat.le_refl _)
          replace hbo := belowTrans hbo hb7 (Nat.le_refl _)
          clear hb7
          have hc := xSame_any _ _ _ _ _ _ _ _ _ hoz.at ho1.at
          rw [decide_eq_true rfl] at hc
          have Hc := Lib.hid hc; clear hc
          go_wp2_with fail
          with_reducible refine (Hc.out).mono ?_
          rintro e v8 ⟨rfl, hb8⟩
          replace ho1 := ho1.keep hb8
          replace hrows := hrows.keep hb8
          replace hat := hat.keep hb8
          replace hoz := hoz.keep hb8
          replace hbw := belowTrans hbw hb8 (Nat.le_refl _)
          replace hbo := belowTrans hbo hb8 (Nat.le_refl _)
          clear hb8
          clear Hc
          go_wp2
          go_roundw
          case rel => exact ⟨1, by omega, by go_num, hbw, hbo⟩
          case measure => simp [intOf] <;> omega
        | succ j =>
          go_wp2_with fail
          with_reducible refine (Hst.out _ hat).mono ?_
          rintro e v7 ⟨pz, nz, cz, rfl, hoz, hb7⟩
          replace ho1 := ho1.keep hb7
          replace hrows := hrows.keep hb7
          replace hat := hat.keep hb7
          replace hbw := belowTrans hbw hb7 (Nat.le_refl _)
          replace hbo := belowTrans hbo hb7 (Nat.le_refl _)
          clear hb7
          have hcs := xSame_any _ _ _ _ _ _ _ _ _ hoz.at ho1.at
          rw [decide_eq_true rfl] at hcs
          have Hcs := Lib.hid hcs; clear hcs
          clear hcell
          go_wp2_with fail
          with_reducible refine (Hcs.out).mono ?_
          rintro e v8 ⟨rfl, hb8⟩
          replace ho1 := ho1.keep hb8
          replace hrows := hrows.keep hb8
          replace hat := hat.keep hb8
          replace hoz := hoz.keep hb8
          replace hbw := belowTrans hbw hb8 (Nat.le_refl _)
          replace hbo := belowTrans hbo hb8 (Nat.le_refl _)
          clear hb8
          clear Hcs
          obtain ⟨b2, o2, e_, _, hc_⟩ := hrows.cell j (by omega)
          cases e_
          obtain ⟨a2_, m2, d2, hcell, hat2⟩ := hc_ j (by omega)
          clear hc_
          have hjp : (0 : Int) < (j : Int) + 1 := by omega
          have hjw : IntKind.i64.wrap (j : Int) = (j : Int) := IntWalk.i64_in _ (by omega)
          have hjb : (j : Int) < (ni : Int) := by omega
          have hbf := xBefore_any _ _ _ _ _ _ _ _ _ hat2 hat
          rw [Hnext.out j (by omega)] at hbf
          have Hbf := Lib.hid hbf; clear hbf
          go_wp2_with fail
          with_reducible refine (Hbf.out).mono ?_
          rintro e v9 ⟨rfl, hb9⟩
          replace ho1 := ho1.keep hb9
          replace hrows := hrows.keep hb9
          replace hat := hat.keep hb9
          replace hoz := hoz.keep hb9
          replace hbw := belowTrans hbw hb9 (Nat.le_refl _)
          replace hbo := belowTrans hbo hb9 (Nat.le_refl _)
          clear hb9
          clear hcell hat2
          go_wp2
          go_roundw
          case rel => exact ⟨j + 2, by omega, by go_num, hbw, hbo⟩
          case measure => simp [intOf] <;> omega
      · skip
        replace ho1 := ho1.keep hbo
        replace hrows := hrows.keep hbo
        clear hbo
        clear hrows
        clear ho1
        go_wp2_with fail
        with_reducible refine (Hf.out _ hbw).mono ?_
        rintro e v7 ⟨p2, n2, c2, ys, rfl, ho2, hn2, hb7⟩
        replace hbw := belowTrans hbw hb7 (Nat.le_refl _)
        clear hb7
        clear Hf
        have hg := fun W h => impl_StepRow p2 n2 c2 ys W h
        cases hb2 : rowB ys
        · skip
          simp only [mStepRow_no hb2] at hg
          clear hb2
          have Hg := Lib.hid hg; clear hg
          go_wp2_with fail
          with_reducible refine (Hg.out _ ho2.at).mono ?_
          rintro e v8 ⟨pg, ng, cg, rfl, hog, hb8⟩
          replace ho2 := ho2.keep hb8
          replace hbw := belowTrans hbw hb8 (Nat.le_refl _)
          clear hb8
          go_wp2
          go_ret
          exact ⟨rfl, hbw⟩
        have gY := row_iff.1 hb2
        have gS : RowOk (rowStepL ys) := rowsL_row gY 1
        simp only [mStepRow_yes hb2] at hg
        have hp := fun a n c W h => impl_RowPasts a n c (rowStepL ys) W h
        by_cases h3 : pastC (rowStepL ys) ≤ 300
        · skip
          simp only [mRP_yes (row_iff.2 gS) h3] at hp
          have hmem := pastsR_all gY
          clear gY gS h3 hb2
          generalize pastsR (rowStepL ys) = P at hp hmem
          generalize rowStepL ys = us at hg hp
          have Hg := Lib.hid hg; clear hg
          have Hp := Lib.hid hp; clear hp
          have Hmem := Lib.hid hmem; clear hmem
          go_wp2_with fail
          with_reducible refine (Hg.out _ ho2.at).mono ?_
          rintro e v8 ⟨pg, ng, cg, rfl, hog, hb8⟩
          replace ho2 := ho2.keep hb8
          replace hbw := belowTrans hbw hb8 (Nat.le_refl _)
          clear hb8
          go_wp2_with fail
          with_reducible refine (Hp.out _ _ _ _ hog.at).mono ?_
          rintro e v9 ⟨pq, nq, cq, rfl, hoq, hb9⟩
          replace ho2 := ho2.keep hb9
          replace hog := hog.keep hb9
          replace hbw := belowTrans hbw hb9 (Nat.le_refl _)
          clear hb9
          clear hog
          clear Hg Hp
          have hlq := hoq.length
          have hrows := hoq.at
          have hq8 := hrows.lenInt
          have HLq := Lib.hid hlq; clear hlq hoq
          obtain ⟨wo, hwo⟩ : ∃ wo : World, wo = v9 := ⟨_, rfl⟩
          subst hwo
          go_wp2_with fail
          go_loopw [136] (fun i wr => ∃ j : Nat, j ≤ nq ∧ i = .int .i64 j ∧ Hid (ys ∉ P.take j) ∧ Below w.heap.size w wr ∧ Below wo.heap.size wo wr) (fun i _ => nq - (intOf i).toNat)
          case atStart => exact ⟨0, Nat.zero_le _, rfl, Lib.hid (by simp), hbw, Below.refl _ _⟩
          case round =>
            obtain ⟨j, hj, rfl, Hno, hbw, hbo⟩ := hrel
            by_cases hlt : j < nq
            · skip
              replace ho2 := ho2.keep hbo
              replace hrows := hrows.keep hbo
              obtain ⟨b1, o1, e_, _, hc_⟩ := hrows.cell j hlt
              cases e_
              obtain ⟨a1_, m1, d1, hcell, hat⟩ := hc_ j hlt
              clear hc_
              have hjl : j < P.length := by rw [HLq.out]; exact hlt
              have hc := xSame_any _ _ _ _ _ _ _ _ _ hat ho2.at
              by_cases hey : P.getD j [] = ys
              · rw [decide_eq_true hey] at hc
                have Hc := Lib.hid hc; clear hc
                have Hey := Lib.hid hey; clear hey
                go_wp2_with fail
                with_reducible refine (Hc.out).mono ?_
                rintro e v10 ⟨rfl, hb10⟩
                replace ho2 := ho2.keep hb10
                replace hrows := hrows.keep hb10
                replace hbw := belowTrans hbw hb10 (Nat.le_refl _)
                replace hbo := belowTrans hbo hb10 (Nat.le_refl _)
                clear hb10
                go_wp2
                go_ret
                exact ⟨rfl, hbw⟩
              · rw [decide_eq_false hey] at hc
                have hno2 : ys ∉ P.take (j + 1) := by
                  rw [List.take_add_one, List.getElem?_eq_getElem hjl, List.mem_append]
                  rintro (h | h)
                  · exact Hno.out h
                  · apply hey
                    rw [List.getD_eq_getElem?_getD, List.getElem?_eq_getElem hjl]
                    have h' : ys = P[j] := by simpa using h
                    rw [h']; rfl
                have Hc := Lib.hid hc; clear hc
                have Hey := Lib.hid hey; clear hey
                have Hno2 := Lib.hid hno2; clear hno2
                go_wp2_with fail
                with_reducible refine (Hc.out).mono ?_
                rintro e v10 ⟨rfl, hb10⟩
                replace ho2 := ho2.keep hb10
                replace hrows := hrows.keep hb10
                replace hbw := belowTrans hbw hb10 (Nat.le_refl _)
                replace hbo := belowTrans hbo hb10 (Nat.le_refl _)
                clear hb10
                go_wp2
                go_roundw
                case rel => exact ⟨j + 1, by omega, by go_num, Hno2, hbw, hbo⟩
                case measure => simp [intOf] <;> omega
            · exfalso
              obtain rfl : j = nq := by omega
              have h := Hno.out
              rw [List.take_of_length_le (by rw [HLq.out]; exact Nat.le_refl _)] at h
              exact h Hmem.out
        · skip
          simp only [mRP_no2 h3] at hp
          clear gY gS h3 hb2
          generalize rowStepL ys = us at hg hp
          have Hg := Lib.hid hg; clear hg
          have Hp := Lib.hid hp; clear hp
          go_wp2_with fail
          with_reducible refine (Hg.out _ ho2.at).mono ?_
          rintro e v8 ⟨pg, ng, cg, rfl, hog, hb8⟩
          replace ho2 := ho2.keep hb8
          replace hbw := belowTrans hbw hb8 (Nat.le_refl _)
          clear hb8
          go_wp2_with fail
          with_reducible refine (Hp.out _ _ _ _ hog.at).mono ?_
          rintro e v9 ⟨pq, nq, cq, rfl, hoq, hb9⟩
          replace ho2 := ho2.keep hb9
          replace hog := hog.keep hb9
          replace hbw := belowTrans hbw hb9 (Nat.le_refl _)
          clear hb9
          go_wp2
          go_ret
          exact ⟨rfl, hbw⟩
  · skip
    simp only [mRP_no2 h3] at hi hs
    clear gX hb
    have h4 : ¬ (pastC xs ≤ 300) := h3
    generalize pastC xs = C at hc he h3 h4
    have Hi := Lib.hid hi; clear hi
    have Hs := Lib.hid hs; clear hs
    go_wp2_with fail
    with_reducible refine (Hi.out _ ho1.at).mono ?_
    rintro e v2 ⟨pi, ni, ci, rfl, hoi, hb2⟩
    replace ho1 := ho1.keep hb2
    replace acc := belowTrans acc hb2 (Nat.le_refl _)
    clear hb2
    go_wp2_with fail
    with_reducible refine (Hs.out _ ho1.at).mono ?_
    rintro e v3 ⟨ps, ns, cs, rfl, hos, hb3⟩
    replace ho1 := ho1.keep hb3
    replace hoi := hoi.keep hb3
    replace acc := belowTrans acc hb3 (Nat.le_refl _)
    clear hb3
    have Hc := Lib.hid hc; clear hc
    have He := Lib.hid he; clear he
    go_wp2_with fail
    with_reducible refine (Hc.out _ ho1.at).mono ?_
    rintro e v4 ⟨rfl, hb4⟩
    replace ho1 := ho1.keep hb4
    replace hoi := hoi.keep hb4
    replace hos := hos.keep hb4
    replace acc := belowTrans acc hb4 (Nat.le_refl _)
    clear hb4
    go_wp2_with fail
    with_reducible refine (He.out _ ho1.at).mono ?_
    rintro e v5 ⟨rfl, hb5⟩
    replace ho1 := ho1.keep hb5
    replace hoi := hoi.keep hb5
    replace hos := hos.keep hb5
    replace acc := belowTrans acc hb5 (Nat.le_refl _)
    clear hb5
    have hc := xRows_any _ _ _ _ _ _ _ _ _ hoi.at hos.at
    rw [decide_eq_true rfl] at hc
    have Hc := Lib.hid hc; clear hc
    go_wp2_with fail
    with_reducible refine (Hc.out).mono ?_
    rintro e v6 ⟨rfl, hb6⟩
    replace ho1 := ho1.keep hb6
    replace hoi := hoi.keep hb6
    replace hos := hos.keep hb6
    replace acc := belowTrans acc hb6 (Nat.le_refl _)
    clear hb6
    clear Hc
    clear hos
    clear Hi Hs Hc He
    clear hoi
    clear ho1
    go_wp2_with fail
    with_reducible refine (Hf.out _ acc).mono ?_
    rintro e v7 ⟨p2, n2, c2, ys, rfl, ho2, hn2, hb7⟩
    replace acc := belowTrans acc hb7 (Nat.le_refl _)
    clear hb7
    clear Hf
    have hg := fun W h => impl_StepRow p2 n2 c2 ys W h
    cases hb2 : rowB ys
    · skip
      simp only [mStepRow_no hb2] at hg
      clear hb2
      have Hg := Lib.hid hg; clear hg
      go_wp2_with fail
      with_reducible refine (Hg.out _ ho2.at).mono ?_
      rintro e v8 ⟨pg, ng, cg, rfl, hog, hb8⟩
      replace ho2 := ho2.keep hb8
      replace acc := belowTrans acc hb8 (Nat.le_refl _)
      clear hb8
      go_wp2
      go_ret
      exact ⟨rfl, acc⟩
    have gY := row_iff.1 hb2
    have gS : RowOk (rowStepL ys) := rowsL_row gY 1
    simp only [mStepRow_yes hb2] at hg
    have hp := fun a n c W h => impl_RowPasts a n c (rowStepL ys) W h
    by_cases h3 : pastC (rowStepL ys) ≤ 300
    · skip
      simp only [mRP_yes (row_iff.2 gS) h3] at hp
      have hmem := pastsR_all gY
      clear gY gS h3 hb2
      generalize pastsR (rowStepL ys) = P at hp hmem
      generalize rowStepL ys = us at hg hp
      have Hg := Lib.hid hg; clear hg
      have Hp := Lib.hid hp; clear hp
      have Hmem := Lib.hid hmem; clear hmem
      go_wp2_with fail
      with_reducible refine (Hg.out _ ho2.at).mono ?_
      rintro e v8 ⟨pg, ng, cg, rfl, hog, hb8⟩
      replace ho2 := ho2.keep hb8
      replace acc := belowTrans acc hb8 (Nat.le_refl _)
      clear hb8
      go_wp2_with fail
      with_reducible refine (Hp.out _ _ _ _ hog.at).mono ?_
      rintro e v9 ⟨pq, nq, cq, rfl, hoq, hb9⟩
      replace ho2 := ho2.keep hb9
      replace hog := hog.keep hb9
      replace acc := belowTrans acc hb9 (Nat.le_refl _)
      clear hb9
      clear hog
      clear Hg Hp
      have hlq := hoq.length
      have hrows := hoq.at
      have hq8 := hrows.lenInt
      have HLq := Lib.hid hlq; clear hlq hoq
      obtain ⟨wo, hwo⟩ : ∃ wo : World, wo = v9 := ⟨_, rfl⟩
      subst hwo
      go_wp2_with fail
      go_loopw [136] (fun i wr => ∃ j : Nat, j ≤ nq ∧ i = .int .i64 j ∧ Hid (ys ∉ P.take j) ∧ Below w.heap.size w wr ∧ Below wo.heap.size wo wr) (fun i _ => nq - (intOf i).toNat)
      case atStart => exact ⟨0, Nat.zero_le _, rfl, Lib.hid (by simp), acc, Below.refl _ _⟩
      case round =>
        obtain ⟨j, hj, rfl, Hno, hbw, hbo⟩ := hrel
        by_cases hlt : j < nq
        · skip
          replace ho2 := ho2.keep hbo
          replace hrows := hrows.keep hbo
          obtain ⟨b1, o1, e_, _, hc_⟩ := hrows.cell j hlt
          cases e_
          obtain ⟨a1_, m1, d1, hcell, hat⟩ := hc_ j hlt
          clear hc_
          have hjl : j < P.length := by rw [HLq.out]; exact hlt
          have hc := xSame_any _ _ _ _ _ _ _ _ _ hat ho2.at
          by_cases hey : P.getD j [] = ys
          · rw [decide_eq_true hey] at hc
            have Hc := Lib.hid hc; clear hc
            have Hey := Lib.hid hey; clear hey
            go_wp2_with fail
            with_reducible refine (Hc.out).mono ?_
            rintro e v10 ⟨rfl, hb10⟩
            replace ho2 := ho2.keep hb10
            replace hrows := hrows.keep hb10
            replace hbw := belowTrans hbw hb10 (Nat.le_refl _)
            replace hbo := belowTrans hbo hb10 (Nat.le_refl _)
            clear hb10
            go_wp2
            go_ret
            exact ⟨rfl, hbw⟩
          · rw [decide_eq_false hey] at hc
            have hno2 : ys ∉ P.take (j + 1) := by
              rw [List.take_add_one, List.getElem?_eq_getElem hjl, List.mem_append]
              rintro (h | h)
              · exact Hno.out h
              · apply hey
                rw [List.getD_eq_getElem?_getD, List.getElem?_eq_getElem hjl]
                have h' : ys = P[j] := by simpa using h
                rw [h']; rfl
            have Hc := Lib.hid hc; clear hc
            have Hey := Lib.hid hey; clear hey
            have Hno2 := Lib.hid hno2; clear hno2
            go_wp2_with fail
            with_reducible refine (Hc.out).mono ?_
            rintro e v10 ⟨rfl, hb10⟩
            replace ho2 := ho2.keep hb10
            replace hrows := hrows.keep hb10
            replace hbw := belowTrans hbw hb10 (Nat.le_refl _)
            replace hbo := belowTrans hbo hb10 (Nat.le_refl _)
            clear hb10
            go_wp2
            go_roundw
            case rel => exact ⟨j + 1, by omega, by go_num, Hno2, hbw, hbo⟩
            case measure => simp [intOf] <;> omega
        · exfalso
          obtain rfl : j = nq := by omega
          have h := Hno.out
          rw [List.take_of_length_le (by rw [HLq.out]; exact Nat.le_refl _)] at h
          exact h Hmem.out
    · skip
      simp only [mRP_no2 h3] at hp
      clear gY gS h3 hb2
      generalize rowStepL ys = us at hg hp
      have Hg := Lib.hid hg; clear hg
      have Hp := Lib.hid hp; clear hp
      go_wp2_with fail
      with_reducible refine (Hg.out _ ho2.at).mono ?_
      rintro e v8 ⟨pg, ng, cg, rfl, hog, hb8⟩
      replace ho2 := ho2.keep hb8
      replace acc := belowTrans acc hb8 (Nat.le_refl _)
      clear hb8
      go_wp2_with fail
      with_reducible refine (Hp.out _ _ _ _ hog.at).mono ?_
      rintro e v9 ⟨pq, nq, cq, rfl, hoq, hb9⟩
      replace ho2 := ho2.keep hb9
      replace hog := hog.keep hb9
      replace acc := belowTrans acc hb9 (Nat.le_refl _)
      clear hb9
      go_wp2
      go_ret
      exact ⟨rfl, acc⟩

/-! ### THE ROW's STEP: WRITTEN OUT: LEAVE IT -/
set_option maxRecDepth 100000 in
theorem lifted (os : Os) (started : os.Started) (H : Type) (enc : TypeId × Value → H) :
    ReturnsInHanded {} Try.checked os 10 .any (Rows.fnRowPastsSpec.pre6 enc Try.prog Try.f10 Rows.fnRowPastsRow.domain false) (Rows.fnRowPastsSpec.post enc Try.prog Try.f10 false true false false) := by
  refine returnsInHanded_of_change (C := Try.checked) own started (by kernel_rfl) Try.func10
    (ChangeSpec.witness6 (enc := enc) (C := Try.checked) false ⟨#[], #[.slice none 0 0, .slice none 0 0], []⟩ 8 (by kernel_rfl) (by kernel_rfl) (by kernel_rfl) (by kernel_rfl)) ?_
  intro W base args ds gs before hval0 hW hcnd _
  have hval : ∀ (j : Nat) t v, Try.f10.params[j]? = some t → args[j]? = some v → Value.okWide Try.prog W .any base t v := hval0
  have hW' := hW
  obtain ⟨p, q, hA0, hV, rfl, hfz, hnd⟩ := hW
  have hA : DataW.TrodAll enc Try.prog W 0 (fun _ => true) true Try.f10.params.toList args.toList ds p := hA0
  rw [Try.params10] at hA hval
  obtain ⟨v0, vs0, d0, ds0, p0, q0, hargs, rfl, rfl, h0, r0⟩ := trodAll_cons hA
  obtain ⟨v1, vs1, d1, ds1, p1, q1, rfl, rfl, rfl, h1, r1⟩ := trodAll_cons r0
  obtain ⟨rfl, rfl, rfl⟩ := trodAll_nil r1
  obtain rfl : args = #[v0, v1] := by cases args; simp_all
  obtain ⟨rfl, rfl⟩ := trodVars_none hV
  obtain ⟨a0, len0, cap0, rfl⟩ := okWide_slice Try.underlying44 (hval 0 44 v0 rfl rfl)
  have k0 := h0
  have lt0 : ∀ x ∈ p0, x.block < W.heap.size := by obtain ⟨m, hm⟩ := k0; exact DataW.trod_lt m _ _ _ hm
  obtain ⟨z0, w0⟩ : ∃ zs, IsRow .u8 W a0 len0 cap0 zs := by
    obtain ⟨fuel, hf⟩ := h0
    rcases open_ints Try.underlying44 Try.underlying5 (by kernel_rfl) hf with ⟨hcs, _⟩ | ⟨x, l, c, zs, hcs, _, hl, hm, hz, _, hcell, hwz⟩
    · simp [Value.cells] at hcs
      obtain ⟨rfl, rfl, rfl⟩ := hcs
      exact ⟨[], .inl ⟨rfl, rfl, rfl, rfl⟩⟩
    · simp [Value.cells] at hcs
      obtain ⟨rfl, rfl, rfl⟩ := hcs
      exact ⟨zs, .inr ⟨_, rfl, hl, hm, by simpa using hz, hcell, hwz⟩⟩
  obtain ⟨a1, len1, cap1, rfl⟩ := okWide_slice Try.underlying44 (hval 1 44 v1 rfl rfl)
  have k1 := h1
  have lt1 : ∀ x ∈ p1, x.block < W.heap.size := by obtain ⟨m, hm⟩ := k1; exact DataW.trod_lt m _ _ _ hm
  obtain ⟨z1, w1⟩ : ∃ zs, IsRow .u8 W a1 len1 cap1 zs := by
    obtain ⟨fuel, hf⟩ := h1
    rcases open_ints Try.underlying44 Try.underlying5 (by kernel_rfl) hf with ⟨hcs, _⟩ | ⟨x, l, c, zs, hcs, _, hl, hm, hz, _, hcell, hwz⟩
    · simp [Value.cells] at hcs
      obtain ⟨rfl, rfl, rfl⟩ := hcs
      exact ⟨[], .inl ⟨rfl, rfl, rfl, rfl⟩⟩
    · simp [Value.cells] at hcs
      obtain ⟨rfl, rfl, rfl⟩ := hcs
      exact ⟨zs, .inr ⟨_, rfl, hl, hm, by simpa using hz, hcell, hwz⟩⟩
  clear hA0 hval0
  refine (walk a0 len0 cap0 z0 a1 len1 cap1 z1 W w0 w1).mono fun e W' ⟨he, bel⟩ => ?_
  subst he
  exact ⟨_, rfl, _, _, _, [], _, [], hW', trodAll_mk1 (shut_bool Try.underlying4 _), (trodAll_cons_mk (Below.trod laidOut (by kernel_rfl) (of_decide_eq_true (by kernel_rfl)) k0 bel lt0) (trodAll_cons_mk (Below.trod laidOut (by kernel_rfl) (of_decide_eq_true (by kernel_rfl)) k1 bel lt1) trodAll_mk0)), rfl, bel.frame _, fun h => by cases h⟩

theorem closedFacts : joinedFacts Try.prog 10 Try.f10 Rows.fnRowPastsSpec Rows.fnRowPastsRow = true := by
  unfold joinedFacts
  rw [head_enter, head_lifts, head_make]
  kernel_rfl
theorem closedHere : joinedFacts Try.pinned.checked.prog 10 Try.f10 Rows.fnRowPastsSpec Rows.fnRowPastsRow = true := by
  rw [progEq]
  exact closedFacts
theorem over : Rows.fnRowPastsRow.holds Try.pinned (OpenSpec.ofChange Rows.fnRowPastsSpec) :=
  OpenClaim.holds_of_wide 10 Try.f10 rfl rfl rfl rfl rfl rfl rfl ⟨rfl, rfl, rfl, rfl, rfl⟩ rfl rfl rfl rfl rfl (by kernel_rfl) Try.func10 closedHere
    (of_decide_eq_true (by kernel_rfl)) (by unfold Func.isWrapper; first | (rw [if_pos (by decide +kernel)]; kernel_rfl) | (rw [if_neg (by decide +kernel)]; exact ⟨rfl, rfl⟩))
    (fun os started H enc _ => lifted os started H enc)

/-- ████ THE STATEMENT ████ -/
theorem proved : Rows.FnRowPastsSaid := over
#print axioms proved
end Go.Proofs.Ytbneibpakopllaa.fnRowPasts
