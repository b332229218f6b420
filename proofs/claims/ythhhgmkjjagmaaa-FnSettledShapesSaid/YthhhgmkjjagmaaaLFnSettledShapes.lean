/- FnSettledShapes: for every input the law returns true and leaves its arguments as they were. No condition. -/
import Derived.Test.YthhhgmkjjagmaaaRows
import Derived.WalkKit
import Derived.ProofKit
import Derived.OpenShut
import Derived.ShutString
import Derived.ChangeOld
import Derived.Below
import Derived.Test.YthhhgmkjjagmaaaHead
import Derived.Test.YthhhgmkjjagmaaaLawp
import Derived.Test.YthhhgmkjjagmaaaLawq
import Derived.Test.YthhhgmkjjagmaaaSaE
import Derived.Test.YthhhgmkjjagmaaaSaG
import Derived.Test.YthhhgmkjjagmaaaSaL
import Derived.Test.YthhhgmkjjagmaaaSaB
namespace Go.Proofs.Ythhhgmkjjagmaaa.fnSettledShapes
set_option linter.unusedSimpArgs false
open Go.ChangeShapes Go.WideShapes Go.ChangeAt Go.RowKit
open Go.ChangeMaps (open_string shut_string)
set_option linter.unusedVariables false

theorem own : ownKnob Try.prog.godebug = none := by kernel_rfl
theorem laidOut : laidOutB Try.prog = true := by kernel_rfl

/-- WHAT THE WALK IS TOLD OF A SLICE OF INTEGERS THAT CAME IN: it is nil; or it leads to a row of 'cap' cells, the numbers 'zs' (the first 'len' are its elements, the rest its spare room), each fitting its kind. -/
def IsRow (k : IntKind) (w : World) (a : Option Addr) (len cap : Nat) (zs : List Int) : Prop :=
  (a = none ∧ len = 0 ∧ cap = 0 ∧ zs = []) ∨
  ∃ x, a = some x ∧ len ≤ cap ∧ cap ≤ maxLen ∧ zs.length = cap ∧ (∀ i, i < zs.length → w.cell? (x.add i) = some (.int k (zs.getD i 0))) ∧ ∀ n ∈ zs, (Lit.int k n).wf = true

/-! ### THE WALK: the Go text returns true, AND WRITES NOTHING THAT WAS THERE: 'Below w.heap.size w w'' (Derived/Below.lean: '.refl', '.alloc', '.drew', '.setCell' at a new block, '.trans'). Open each 'IsRow' by 'rcases' AHEAD of 'go_enter'; part every test ahead of the walk. -/
set_option maxHeartbeats 4000000 in
set_option maxRecDepth 100000 in
theorem walk (a0 : Option Addr) (len0 cap0 : Nat) (z0 : List Int) (a1 : Option Addr) (len1 cap1 : Nat) (z1 : List Int) (w : World) (w0 : IsRow .u8 w a0 len0 cap0 z0) (w1 : IsRow .u8 w a1 len1 cap1 z1) :
    Calls Try.prog 4 #[.slice a0 len0 cap0, .slice a1 len1 cap1] w fun e w' => e = .returned (.bool true) ∧ Below w.heap.size w w' := by
  have by0 := byteIn_row w0
  have by1 := byteIn_row w1
  have hl0 : len0 ≤ maxLen := by
    rcases w0 with ⟨_, h, _⟩ | ⟨x, _, h, h', _⟩
    · rw [h]; exact Nat.zero_le _
    · exact Nat.le_trans h h'
  clear w0 w1
  by_cases hbig : 1048576 < len0 ∨ (1048576 : Int) - len0 < len1
  · have hb := big_yes a0 a1 len0 len1 cap0 cap1 w hbig hl0
    have Hb := Lib.hid hb; clear hb
    go_enter Try.func4, Try.ntmps4
    go_wp2_with fail
    with_reducible refine (Hb.out).mono ?_
    rintro e w' ⟨rfl, rfl⟩
    go_wp2
    go_ret
    exact ⟨rfl, Below.refl _ _⟩
  have hb := big_no a0 a1 len0 len1 cap0 cap1 w (by omega) (by omega)
  have hd := DrawSettledShape_any a0 len0 cap0 w (by omega) by0
  have hf := fun W (h : Below w.heap.size w W) => DrawFallGrain_any a1 len1 cap1 W (by omega) (by1.up (Nat.le_refl _) h h.size)
  have Hb := Lib.hid hb; clear hb
  have Hd := Lib.hid hd; clear hd
  have Hf := Lib.hid hf; clear hf
  clear by0 by1 hl0 hbig
  have acc : Below w.heap.size w w := Below.refl _ _
  go_enter Try.func4, Try.ntmps4
  go_wp2_with fail
  with_reducible refine (Hb.out).mono ?_
  rintro e w' ⟨rfl, rfl⟩
  clear Hb
  go_wp2_with fail
  with_reducible refine (Hd.out).mono ?_
  rintro e v1 ⟨n, hn0, hn1, rfl, hb1⟩
  replace acc := belowTrans acc hb1 (Nat.le_refl _)
  clear hb1
  clear Hd
  have hi := fun W => impl_SettledShape n W
  have hs := fun W => spec_SettledShape n W
  by_cases hn : 0 ≤ n ∧ n ≤ 24
  · skip
    by_cases hnz : n = 0
    · subst hnz
      simp only [shape_zero] at hi hs
      clear hn
      have Hi := Lib.hid hi; clear hi
      have Hs := Lib.hid hs; clear hs
      go_wp2_with fail
      with_reducible refine (Hi.out _).mono ?_
      rintro e v2 ⟨pi, ni, ci, rfl, hoi, hb2⟩
      replace acc := belowTrans acc hb2 (Nat.le_refl _)
      clear hb2
      go_wp2_with fail
      with_reducible refine (Hs.out _).mono ?_
      rintro e v3 ⟨ps, ns, cs, rfl, hos, hb3⟩
      replace hoi := hoi.keep hb3
      replace acc := belowTrans acc hb3 (Nat.le_refl _)
      clear hb3
      have hc := pSame_any _ _ _ _ _ _ _ _ _ hoi.at hos.at
      rw [decide_eq_true rfl] at hc
      have Hc := Lib.hid hc; clear hc
      go_wp2_with fail
      with_reducible refine (Hc.out).mono ?_
      rintro e v4 ⟨rfl, hb4⟩
      replace hoi := hoi.keep hb4
      replace hos := hos.keep hb4
      replace acc := belowTrans acc hb4 (Nat.le_refl _)
      clear hb4
      clear Hc
      clear hos
      clear Hi Hs
      have hli := hoi.length
      have hli2 : ni = 0 := hli.symm
      subst hli2
      clear hli
      go_wp2_with fail
      with_reducible refine (Hf.out _ acc).mono ?_
      rintro e v5 ⟨pa, na, ca, xs, k, rfl, hoa, hnear, hk0, hk1, hb5⟩
      replace hoi := hoi.keep hb5
      replace acc := belowTrans acc hb5 (Nat.le_refl _)
      clear hb5
      clear Hf hnear
      have hg := fun W h => impl_FallGrain pa na ca xs k W h
      have hg2 := fun W h => spec_FallGrain pa na ca xs k W h
      have hf := fun W h => impl_FallsOf pa na ca xs W h
      have hf2 := fun W h => spec_FallsOf pa na ca xs W h
      have hz := fun W h => impl_IsSettled pa na ca xs W h
      have hq := fun W h => impl_IsSand pa na ca xs W h
      simp only [mIsSand] at hq
      cases hb : sandB xs
      · skip
        have hm : mFallGrain xs k = ([], false) := mPlayF_no1 hb
        simp only [hm] at hg hg2
        simp only [mFallsOf_no hb] at hf hf2
        simp only [mIsSettled_no hb] at hz
        rw [hb] at hq
        clear hm hb
        have Hg := Lib.hid hg; clear hg
        have Hg2 := Lib.hid hg2; clear hg2
        have Hf := Lib.hid hf; clear hf
        have Hf2 := Lib.hid hf2; clear hf2
        have Hz := Lib.hid hz; clear hz
        have Hq := Lib.hid hq; clear hq
        go_wp2_with fail
        with_reducible refine (Hg.out _ hoa.at).mono ?_
        rintro e v6 ⟨pg, ng, cg, rfl, hog, hb6⟩
        replace hoi := hoi.keep hb6
        replace hoa := hoa.keep hb6
        replace acc := belowTrans acc hb6 (Nat.le_refl _)
        clear hb6
        go_wp2_with fail
        with_reducible refine (Hg2.out _ hoa.at).mono ?_
        rintro e v7 ⟨ph, nh, ch, rfl, hoh, hb7⟩
        replace hoi := hoi.keep hb7
        replace hoa := hoa.keep hb7
        replace hog := hog.keep hb7
        replace acc := belowTrans acc hb7 (Nat.le_refl _)
        clear hb7
        go_wp2_with fail
        with_reducible refine (Hf.out _ hoa.at).mono ?_
        rintro e v8 ⟨pf, nf, cf, rfl, hof, hb8⟩
        replace hoi := hoi.keep hb8
        replace hoa := hoa.keep hb8
        replace hog := hog.keep hb8
        replace hoh := hoh.keep hb8
        replace acc := belowTrans acc hb8 (Nat.le_refl _)
        clear hb8
        go_wp2_with fail
        with_reducible refine (Hf2.out _ hoa.at).mono ?_
        rintro e v9 ⟨pe, ne, ce, rfl, hoe, hb9⟩
        replace hoi := hoi.keep hb9
        replace hoa := hoa.keep hb9
        replace hog := hog.keep hb9
        replace hoh := hoh.keep hb9
        replace hof := hof.keep hb9
        replace acc := belowTrans acc hb9 (Nat.le_refl _)
        clear hb9
        go_wp2_with fail
        with_reducible refine (Hz.out _ hoa.at).mono ?_
        rintro e v10 ⟨rfl, hb10⟩
        replace hoi := hoi.keep hb10
        replace hoa := hoa.keep hb10
        replace hog := hog.keep hb10
        replace hoh := hoh.keep hb10
        replace hof := hof.keep hb10
        replace hoe := hoe.keep hb10
        replace acc := belowTrans acc hb10 (Nat.le_refl _)
        clear hb10
        have hc := pSame_any _ _ _ _ _ _ _ _ _ hog.at hoh.at
        rw [decide_eq_true rfl] at hc
        have Hc := Lib.hid hc; clear hc
        go_wp2_with fail
        with_reducible refine (Hc.out).mono ?_
        rintro e v11 ⟨rfl, hb11⟩
        replace hoi := hoi.keep hb11
        replace hoa := hoa.keep hb11
        replace hog := hog.keep hb11
        replace hoh := hoh.keep hb11
        replace hof := hof.keep hb11
        replace hoe := hoe.keep hb11
        replace acc := belowTrans acc hb11 (Nat.le_refl _)
        clear hb11
        clear Hc
        clear hoh
        have hc := pSame_any _ _ _ _ _ _ _ _ _ hof.at hoe.at
        rw [decide_eq_true rfl] at hc
        have Hc := Lib.hid hc; clear hc
        go_wp2_with fail
        with_reducible refine (Hc.out).mono ?_
        rintro e v12 ⟨rfl, hb12⟩
        replace hoi := hoi.keep hb12
        replace hoa := hoa.keep hb12
        replace hog := hog.keep hb12
        replace hof := hof.keep hb12
        replace hoe := hoe.keep hb12
        replace acc := belowTrans acc hb12 (Nat.le_refl _)
        clear hb12
        clear Hc
        clear hoe
        clear hof
        go_wp2_with fail
        with_reducible refine (Hq.out _ hoa.at).mono ?_
        rintro e v13 ⟨rfl, hb13⟩
        replace hoi := hoi.keep hb13
        replace hoa := hoa.keep hb13
        replace hog := hog.keep hb13
        replace acc := belowTrans acc hb13 (Nat.le_refl _)
        clear hb13
        clear Hg Hg2 Hf Hf2 Hz Hq
        clear hog
        clear hoa
        go_wp2
        go_ret
        exact ⟨rfl, acc⟩
      have gS := sand_iff.1 hb
      simp only [mFallsOf_yes hb] at hf hf2
      simp only [mIsSettled_yes hb] at hz
      rw [hb] at hq
      rcases grain_cases hb k with hm | ⟨ys, hm, gY, hw, hsm, hbf, hne⟩
      · simp only [hm] at hg hg2
        clear hm hb gS
        by_cases hF : fallsL xs = []
        · rw [decide_eq_true hF] at hz
          generalize fallsL xs = F at hf hf2 hF
          have Hg := Lib.hid hg; clear hg
          have Hg2 := Lib.hid hg2; clear hg2
          have Hf := Lib.hid hf; clear hf
          have Hf2 := Lib.hid hf2; clear hf2
          have Hz := Lib.hid hz; clear hz
          have Hq := Lib.hid hq; clear hq
          have HF := Lib.hid hF; clear hF
          go_wp2_with fail
          with_reducible refine (Hg.out _ hoa.at).mono ?_
          rintro e v6 ⟨pg, ng, cg, rfl, hog, hb6⟩
          replace hoi := hoi.keep hb6
          replace hoa := hoa.keep hb6
          replace acc := belowTrans acc hb6 (Nat.le_refl _)
          clear hb6
          go_wp2_with fail
          with_reducible refine (Hg2.out _ hoa.at).mono ?_
          rintro e v7 ⟨ph, nh, ch, rfl, hoh, hb7⟩
          replace hoi := hoi.keep hb7
          replace hoa := hoa.keep hb7
          replace hog := hog.keep hb7
          replace acc := belowTrans acc hb7 (Nat.le_refl _)
          clear hb7
          go_wp2_with fail
          with_reducible refine (Hf.out _ hoa.at).mono ?_
          rintro e v8 ⟨pf, nf, cf, rfl, hof, hb8⟩
          replace hoi := hoi.keep hb8
          replace hoa := hoa.keep hb8
          replace hog := hog.keep hb8
          replace hoh := hoh.keep hb8
          replace acc := belowTrans acc hb8 (Nat.le_refl _)
          clear hb8
          go_wp2_with fail
          with_reducible refine (Hf2.out _ hoa.at).mono ?_
          rintro e v9 ⟨pe, ne, ce, rfl, hoe, hb9⟩
          replace hoi := hoi.keep hb9
          replace hoa := hoa.keep hb9
          replace hog := hog.keep hb9
          replace hoh := hoh.keep hb9
          replace hof := hof.keep hb9
          replace acc := belowTrans acc hb9 (Nat.le_refl _)
          clear hb9
          go_wp2_with fail
          with_reducible refine (Hz.out _ hoa.at).mono ?_
          rintro e v10 ⟨rfl, hb10⟩
          replace hoi := hoi.keep hb10
          replace hoa := hoa.keep hb10
          replace hog := hog.keep hb10
          replace hoh := hoh.keep hb10
          replace hof := hof.keep hb10
          replace hoe := hoe.keep hb10
          replace acc := belowTrans acc hb10 (Nat.le_refl _)
          clear hb10
          have hlf := hof.length
          rw [HF.out] at hlf
          have hlf2 : nf = 0 := hlf.symm
          subst hlf2
          have hc := pSame_any _ _ _ _ _ _ _ _ _ hog.at hoh.at
          rw [decide_eq_true rfl] at hc
          have Hc := Lib.hid hc; clear hc
          go_wp2_with fail
          with_reducible refine (Hc.out).mono ?_
          rintro e v11 ⟨rfl, hb11⟩
          replace hoi := hoi.keep hb11
          replace hoa := hoa.keep hb11
          replace hog := hog.keep hb11
          replace hoh := hoh.keep hb11
          replace hof := hof.keep hb11
          replace hoe := hoe.keep hb11
          replace acc := belowTrans acc hb11 (Nat.le_refl _)
          clear hb11
          clear Hc
          clear hoh
          have hc := pSame_any _ _ _ _ _ _ _ _ _ hof.at hoe.at
          rw [decide_eq_true rfl] at hc
          have Hc := Lib.hid hc; clear hc
          go_wp2_with fail
          with_reducible refine (Hc.out).mono ?_
          rintro e v12 ⟨rfl, hb12⟩
          replace hoi := hoi.keep hb12
          replace hoa := hoa.keep hb12
          replace hog := hog.keep hb12
          replace hof := hof.keep hb12
          replace hoe := hoe.keep hb12
          replace acc := belowTrans acc hb12 (Nat.le_refl _)
          clear hb12
          clear Hc
          clear hoe
          clear hof
          go_wp2_with fail
          with_reducible refine (Hq.out _ hoa.at).mono ?_
          rintro e v13 ⟨rfl, hb13⟩
          replace hoi := hoi.keep hb13
          replace hoa := hoa.keep hb13
          replace hog := hog.keep hb13
          replace acc := belowTrans acc hb13 (Nat.le_refl _)
          clear hb13
          clear Hg Hg2 Hf Hf2 Hz Hq
          clear hog
          clear hoa
          go_wp2
          go_ret
          exact ⟨rfl, acc⟩
        · rw [decide_eq_false hF] at hz
          generalize fallsL xs = F at hf hf2 hF
          have Hg := Lib.hid hg; clear hg
          have Hg2 := Lib.hid hg2; clear hg2
          have Hf := Lib.hid hf; clear hf
          have Hf2 := Lib.hid hf2; clear hf2
          have Hz := Lib.hid hz; clear hz
          have Hq := Lib.hid hq; clear hq
          have HF := Lib.hid hF; clear hF
          go_wp2_with fail
          with_reducible refine (Hg.out _ hoa.at).mono ?_
          rintro e v6 ⟨pg, ng, cg, rfl, hog, hb6⟩
          replace hoi := hoi.keep hb6
          replace hoa := hoa.keep hb6
          replace acc := belowTrans acc hb6 (Nat.le_refl _)
          clear hb6
          go_wp2_with fail
          with_reducible refine (Hg2.out _ hoa.at).mono ?_
          rintro e v7 ⟨ph, nh, ch, rfl, hoh, hb7⟩
          replace hoi := hoi.keep hb7
          replace hoa := hoa.keep hb7
          replace hog := hog.keep hb7
          replace acc := belowTrans acc hb7 (Nat.le_refl _)
          clear hb7
          go_wp2_with fail
          with_reducible refine (Hf.out _ hoa.at).mono ?_
          rintro e v8 ⟨pf, nf, cf, rfl, hof, hb8⟩
          replace hoi := hoi.keep hb8
          replace hoa := hoa.keep hb8
          replace hog := hog.keep hb8
          replace hoh := hoh.keep hb8
          replace acc := belowTrans acc hb8 (Nat.le_refl _)
          clear hb8
          go_wp2_with fail
          with_reducible refine (Hf2.out _ hoa.at).mono ?_
          rintro e v9 ⟨pe, ne, ce, rfl, hoe, hb9⟩
          replace hoi := hoi.keep hb9
          replace hoa := hoa.keep hb9
          replace hog := hog.keep hb9
          replace hoh := hoh.keep hb9
          replace hof := hof.keep hb9
          replace acc := belowTrans acc hb9 (Nat.le_refl _)
          clear hb9
          go_wp2_with fail
          with_reducible refine (Hz.out _ hoa.at).mono ?_
          rintro e v10 ⟨rfl, hb10⟩
          replace hoi := hoi.keep hb10
          replace hoa := hoa.keep hb10
          replace hog := hog.keep hb10
          replace hoh := hoh.keep hb10
          replace hof := hof.keep hb10
          replace hoe := hoe.keep hb10
          replace acc := belowTrans acc hb10 (Nat.le_refl _)
          clear hb10
          have hlf := hof.length
          have hlf2 : ¬ nf = 0 := fun e => HF.out (List.eq_nil_of_length_eq_zero (by omega))
          have hlf3 : ¬ (nf : Int) = 0 := by omega
          have hlf4 : ((nf : Int) == 0) = false := by simpa using hlf2
          have hlf5 : decide ((nf : Int) = 0) = false := decide_eq_false hlf3
          clear hlf
          have hc := pSame_any _ _ _ _ _ _ _ _ _ hog.at hoh.at
          rw [decide_eq_true rfl] at hc
          have Hc := Lib.hid hc; clear hc
          go_wp2_with fail
          with_reducible refine (Hc.out).mono ?_
          rintro e v11 ⟨rfl, hb11⟩
          replace hoi := hoi.keep hb11
          replace hoa := hoa.keep hb11
          replace hog := hog.keep hb11
          replace hoh := hoh.keep hb11
          replace hof := hof.keep hb11
          replace hoe := hoe.keep hb11
          replace acc := belowTrans acc hb11 (Nat.le_refl _)
          clear hb11
          clear Hc
          clear hoh
          have hc := pSame_any _ _ _ _ _ _ _ _ _ hof.at hoe.at
          rw [decide_eq_true rfl] at hc
          have Hc := Lib.hid hc; clear hc
          go_wp2_with fail
          with_reducible refine (Hc.out).mono ?_
          rintro e v12 ⟨rfl, hb12⟩
          replace hoi := hoi.keep hb12
          replace hoa := hoa.keep hb12
          replace hog := hog.keep hb12
          replace hof := hof.keep hb12
          replace hoe := hoe.keep hb12
          replace acc := belowTrans acc hb12 (Nat.le_refl _)
          clear hb12
          clear Hc
          clear hoe
          clear hof
          go_wp2_with fail
          with_reducible refine (Hq.out _ hoa.at).mono ?_
          rintro e v13 ⟨rfl, hb13⟩
          replace hoi := hoi.keep hb13
          replace hoa := hoa.keep hb13
          replace hog := hog.keep hb13
          replace acc := belowTrans acc hb13 (Nat.le_refl _)
          clear hb13
          clear Hg Hg2 Hf Hf2 Hz Hq
          clear hog
          clear hoa
          go_wp2
          go_ret
          exact ⟨rfl, acc⟩
      · simp only [hm] at hg hg2
        rw [decide_eq_false hne] at hz
        have hF := hne
        have hwa := fun W h => impl_WeightOf pa na ca xs W h
        simp only [mWeight_yes hb] at hwa
        have hwb := fun a n c W h => impl_WeightOf a n c ys W h
        simp only [mWeight_yes (sand_iff.2 gY), hw] at hwb
        have hsa := fun W h => pSum_any pa na ca xs W h gS.good
        have hsb := fun a n c W h => pSum_any a n c ys W h gY.good
        rw [hsm] at hsb
        have hwt := sand_wt gS
        clear hm hb gS gY hw hsm hne
        generalize fallsL xs = F at hf hf2 hF
        generalize wt 0 xs = T at hwa hwb hwt
        generalize xs.sum = S at hsa hsb
        have Hg := Lib.hid hg; clear hg
        have Hg2 := Lib.hid hg2; clear hg2
        have Hf := Lib.hid hf; clear hf
        have Hf2 := Lib.hid hf2; clear hf2
        have Hz := Lib.hid hz; clear hz
        have Hq := Lib.hid hq; clear hq
        have HF := Lib.hid hF; clear hF
        have Hwa := Lib.hid hwa; clear hwa
        have Hwb := Lib.hid hwb; clear hwb
        have Hsa := Lib.hid hsa; clear hsa
        have Hsb := Lib.hid hsb; clear hsb
        have Hbf := Lib.hid hbf; clear hbf
        go_wp2_with fail
        with_reducible refine (Hg.out _ hoa.at).mono ?_
        rintro e v6 ⟨pg, ng, cg, rfl, hog, hb6⟩
        replace hoi := hoi.keep hb6
        replace hoa := hoa.keep hb6
        replace acc := belowTrans acc hb6 (Nat.le_refl _)
        clear hb6
        go_wp2_with fail
        with_reducible refine (Hg2.out _ hoa.at).mono ?_
        rintro e v7 ⟨ph, nh, ch, rfl, hoh, hb7⟩
        replace hoi := hoi.keep hb7
        replace hoa := hoa.keep hb7
        replace hog := hog.keep hb7
        replace acc := belowTrans acc hb7 (Nat.le_refl _)
        clear hb7
        go_wp2_with fail
        with_reducible refine (Hf.out _ hoa.at).mono ?_
        rintro e v8 ⟨pf, nf, cf, rfl, hof, hb8⟩
        replace hoi := hoi.keep hb8
        replace hoa := hoa.keep hb8
        replace hog := hog.keep hb8
        replace hoh := hoh.keep hb8
        replace acc := belowTrans acc hb8 (Nat.le_refl _)
        clear hb8
        go_wp2_with fail
        with_reducible refine (Hf2.out _ hoa.at).mono ?_
        rintro e v9 ⟨pe, ne, ce, rfl, hoe, hb9⟩
        replace hoi := hoi.keep hb9
        replace hoa := hoa.keep hb9
        replace hog := hog.keep hb9
        replace hoh := hoh.keep hb9
        replace hof := hof.keep hb9
        replace acc := belowTrans acc hb9 (Nat.le_refl _)
        clear hb9
        go_wp2_with fail
        with_reducible refine (Hz.out _ hoa.at).mono ?_
        rintro e v10 ⟨rfl, hb10⟩
        replace hoi := hoi.keep hb10
        replace hoa := hoa.keep hb10
        replace hog := hog.keep hb10
        replace hoh := hoh.keep hb10
        replace hof := hof.keep hb10
        replace hoe := hoe.keep hb10
        replace acc := belowTrans acc hb10 (Nat.le_refl _)
        clear hb10
        have hlf := hof.length
        have hlf2 : ¬ nf = 0 := fun e => HF.out (List.eq_nil_of_length_eq_zero (by omega))
        have hlf3 : ¬ (nf : Int) = 0 := by omega
        have hlf4 : ((nf : Int) == 0) = false := by simpa using hlf2
        have hlf5 : decide ((nf : Int) = 0) = false := decide_eq_false hlf3
        clear hlf
        have hc := pSame_any _ _ _ _ _ _ _ _ _ hog.at hoh.at
        rw [decide_eq_true rfl] at hc
        have Hc := Lib.hid hc; clear hc
        go_wp2_with fail
        with_reducible refine (Hc.out).mono ?_
        rintro e v11 ⟨rfl, hb11⟩
        replace hoi := hoi.keep hb11
        replace hoa := hoa.keep hb11
        replace hog := hog.keep hb11
        replace hoh := hoh.keep hb11
        replace hof := hof.keep hb11
        replace hoe := hoe.keep hb11
        replace acc := belowTrans acc hb11 (Nat.le_refl _)
        clear hb11
        clear Hc
        clear hoh
        have hc := pSame_any _ _ _ _ _ _ _ _ _ hof.at hoe.at
        rw [decide_eq_true rfl] at hc
        have Hc := Lib.hid hc; clear hc
        go_wp2_with fail
        with_reducible refine (Hc.out).mono ?_
        rintro e v12 ⟨rfl, hb12⟩
        replace hoi := hoi.keep hb12
        replace hoa := hoa.keep hb12
        replace hog := hog.keep hb12
        replace hof := hof.keep hb12
        replace hoe := hoe.keep hb12
        replace acc := belowTrans acc hb12 (Nat.le_refl _)
        clear hb12
        clear Hc
        clear hoe
        clear hof
        go_wp2_with fail
        with_reducible refine (Hq.out _ hoa.at).mono ?_
        rintro e v13 ⟨rfl, hb13⟩
        replace hoi := hoi.keep hb13
        replace hoa := hoa.keep hb13
        replace hog := hog.keep hb13
        replace acc := belowTrans acc hb13 (Nat.le_refl _)
        clear hb13
        clear Hg Hg2 Hf Hf2 Hz Hq
        go_wp2_with fail
        with_reducible refine (Hwa.out _ hoa.at).mono ?_
        rintro e v14 ⟨rfl, hb14⟩
        replace hoi := hoi.keep hb14
        replace hoa := hoa.keep hb14
        replace hog := hog.keep hb14
        replace acc := belowTrans acc hb14 (Nat.le_refl _)
        clear hb14
        go_wp2_with fail
        with_reducible refine (Hwb.out _ _ _ _ hog.at).mono ?_
        rintro e v15 ⟨rfl, hb15⟩
        replace hoi := hoi.keep hb15
        replace hoa := hoa.keep hb15
        replace hog := hog.keep hb15
        replace acc := belowTrans acc hb15 (Nat.le_refl _)
        clear hb15
        go_wp2_with fail
        with_reducible refine (Hsb.out _ _ _ _ hog.at).mono ?_
        rintro e w' ⟨rfl, rfl⟩
        go_wp2_with fail
        with_reducible refine (Hsa.out _ hoa.at).mono ?_
        rintro e w' ⟨rfl, rfl⟩
        have hbx := pBefore_any _ _ _ _ _ _ _ _ _ hoa.at hog.at
        rw [Hbf.out] at hbx
        have Hbx := Lib.hid hbx; clear hbx
        go_wp2_with fail
        with_reducible refine (Hbx.out).mono ?_
        rintro e v16 ⟨rfl, hb16⟩
        replace hoi := hoi.keep hb16
        replace hoa := hoa.keep hb16
        replace hog := hog.keep hb16
        replace acc := belowTrans acc hb16 (Nat.le_refl _)
        clear hb16
        clear Hbx Hbf Hwa Hwb Hsa Hsb
        clear hog
        clear hoa
        go_wp2
        go_ret
        exact ⟨rfl, acc⟩
    · skip
      obtain ⟨Z, hm1, hm2⟩ := shape_cases hn
      simp only [hm1] at hi hs
      rw [show oneCol n = [n] from if_neg hnz] at hm2
      have hend := fun a m c W h => impl_SettleSand a m c [n] W h
      simp only [hm2] at hend
      clear hm1 hm2
      have Hi := Lib.hid hi; clear hi
      have Hs := Lib.hid hs; clear hs
      have Hend := Lib.hid hend; clear hend
      go_wp2_with fail
      with_reducible refine (Hi.out _).mono ?_
      rintro e v2 ⟨pi, ni, ci, rfl, hoi, hb2⟩
      replace acc := belowTrans acc hb2 (Nat.le_refl _)
      clear hb2
      go_wp2_with fail
      with_reducible refine (Hs.out _).mono ?_
      rintro e v3 ⟨ps, ns, cs, rfl, hos, hb3⟩
      replace hoi := hoi.keep hb3
      replace acc := belowTrans acc hb3 (Nat.le_refl _)
      clear hb3
      have hc := pSame_any _ _ _ _ _ _ _ _ _ hoi.at hos.at
      rw [decide_eq_true rfl] at hc
      have Hc := Lib.hid hc; clear hc
      go_wp2_with fail
      with_reducible refine (Hc.out).mono ?_
      rintro e v4 ⟨rfl, hb4⟩
      replace hoi := hoi.keep hb4
      replace hos := hos.keep hb4
      replace acc := belowTrans acc hb4 (Nat.le_refl _)
      clear hb4
      clear Hc
      clear hos
      clear Hi Hs
      go_wp2_with fail
      with_reducible refine (Hf.out _ acc).mono ?_
      rintro e v5 ⟨pa, na, ca, xs, k, rfl, hoa, hnear, hk0, hk1, hb5⟩
      replace hoi := hoi.keep hb5
      replace acc := belowTrans acc hb5 (Nat.le_refl _)
      clear hb5
      clear Hf hnear
      have hg := fun W h => impl_FallGrain pa na ca xs k W h
      have hg2 := fun W h => spec_FallGrain pa na ca xs k W h
      have hf := fun W h => impl_FallsOf pa na ca xs W h
      have hf2 := fun W h => spec_FallsOf pa na ca xs W h
      have hz := fun W h => impl_IsSettled pa na ca xs W h
      have hq := fun W h => impl_IsSand pa na ca xs W h
      simp only [mIsSand] at hq
      cases hb : sandB xs
      · skip
        have hm : mFallGrain xs k = ([], false) := mPlayF_no1 hb
        simp only [hm] at hg hg2
        simp only [mFallsOf_no hb] at hf hf2
        simp only [mIsSettled_no hb] at hz
        rw [hb] at hq
        clear hm hb
        have Hg := Lib.hid hg; clear hg
        have Hg2 := Lib.hid hg2; clear hg2
        have Hf := Lib.hid hf; clear hf
        have Hf2 := Lib.hid hf2; clear hf2
        have Hz := Lib.hid hz; clear hz
        have Hq := Lib.hid hq; clear hq
        go_wp2_with fail
        with_reducible refine (Hg.out _ hoa.at).mono ?_
        rintro e v6 ⟨pg, ng, cg, rfl, hog, hb6⟩
        replace hoi := hoi.keep hb6
        replace hoa := hoa.keep hb6
        replace acc := belowTrans acc hb6 (Nat.le_refl _)
        clear hb6
        go_wp2_with fail
        with_reducible refine (Hg2.out _ hoa.at).mono ?_
        rintro e v7 ⟨ph, nh, ch, rfl, hoh, hb7⟩
        replace hoi := hoi.keep hb7
        replace hoa := hoa.keep hb7
        replace hog := hog.keep hb7
        replace acc := belowTrans acc hb7 (Nat.le_refl _)
        clear hb7
        go_wp2_with fail
        with_reducible refine (Hf.out _ hoa.at).mono ?_
        rintro e v8 ⟨pf, nf, cf, rfl, hof, hb8⟩
        replace hoi := hoi.keep hb8
        replace hoa := hoa.keep hb8
        replace hog := hog.keep hb8
        replace hoh := hoh.keep hb8
        replace acc := belowTrans acc hb8 (Nat.le_refl _)
        clear hb8
        go_wp2_with fail
        with_reducible refine (Hf2.out _ hoa.at).mono ?_
        rintro e v9 ⟨pe, ne, ce, rfl, hoe, hb9⟩
        replace hoi := hoi.keep hb9
        replace hoa := hoa.keep hb9
        replace hog := hog.keep hb9
        replace hoh := hoh.keep hb9
        replace hof := hof.keep hb9
        replace acc := belowTrans acc hb9 (Nat.le_refl _)
        clear hb9
        go_wp2_with fail
        with_reducible refine (Hz.out _ hoa.at).mono ?_
        rintro e v10 ⟨rfl, hb10⟩
        replace hoi := hoi.keep hb10
        replace hoa := hoa.keep hb10
        replace hog := hog.keep hb10
        replace hoh := hoh.keep hb10
        replace hof := hof.keep hb10
        replace hoe := hoe.keep hb10
        replace acc := belowTrans acc hb10 (Nat.le_refl _)
        clear hb10
        have hc := pSame_any _ _ _ _ _ _ _ _ _ hog.at hoh.at
        rw [decide_eq_true rfl] at hc
        have Hc := Lib.hid hc; clear hc
        go_wp2_with fail
        with_reducible refine (Hc.out).mono ?_
        rintro e v11 ⟨rfl, hb11⟩
        replace hoi := hoi.keep hb11
        replace hoa := hoa.keep hb11
        replace hog := hog.keep hb11
        replace hoh := hoh.keep hb11
        replace hof := hof.keep hb11
        replace hoe := hoe.keep hb11
        replace acc := belowTrans acc hb11 (Nat.le_refl _)
        clear hb11
        clear Hc
        clear hoh
        have hc := pSame_any _ _ _ _ _ _ _ _ _ hof.at hoe.at
        rw [decide_eq_true rfl] at hc
        have Hc := Lib.hid hc; clear hc
        go_wp2_with fail
        with_reducible refine (Hc.out).mono ?_
        rintro e v12 ⟨rfl, hb12⟩
        replace hoi := hoi.keep hb12
        replace hoa := hoa.keep hb12
        replace hog := hog.keep hb12
        replace hof := hof.keep hb12
        replace hoe := hoe.keep hb12
        replace acc := belowTrans acc hb12 (Nat.le_refl _)
        clear hb12
        clear Hc
        clear hoe
        clear hof
        go_wp2_with fail
        with_reducible refine (Hq.out _ hoa.at).mono ?_
        rintro e v13 ⟨rfl, hb13⟩
        replace hoi := hoi.keep hb13
        replace hoa := hoa.keep hb13
        replace hog := hog.keep hb13
        replace acc := belowTrans acc hb13 (Nat.le_refl _)
        clear hb13
        clear Hg Hg2 Hf Hf2 Hz Hq
        clear hog
        clear hoa
        have hal := belowAlloc v13 (.cells #[.int .i64 n] 3)
        have hcx := Hend.out _ _ _ _ (ownInt_one v13 n).at
        have hoi2 := hoi.keep hal
        have acc2 := belowTrans acc hal (Nat.le_refl _)
        clear hal hoi acc
        have Hcx := Lib.hid hcx; clear hcx
        go_wp2_with fail
        with_reducible refine (Hcx.out).mono ?_
        rintro e v14 ⟨pz, nz, cz, rfl, hoz, hb14⟩
        replace hoi2 := hoi2.keep hb14
        replace acc2 := belowTrans acc2 hb14 (Nat.le_refl _)
        clear hb14
        have hc := pSame_any _ _ _ _ _ _ _ _ _ hoz.at hoi2.at
        rw [decide_eq_true rfl] at hc
        have Hc := Lib.hid hc; clear hc
        go_wp2_with fail
        with_reducible refine (Hc.out).mono ?_
        rintro e v15 ⟨rfl, hb15⟩
        replace hoi2 := hoi2.keep hb15
        replace hoz := hoz.keep hb15
        replace acc2 := belowTrans acc2 hb15 (Nat.le_refl _)
        clear hb15
        clear Hc
        go_wp2
        go_ret
        exact ⟨rfl, acc2⟩
      have gS := sand_iff.1 hb
      simp only [mFallsOf_yes hb] at hf hf2
      simp only [mIsSettled_yes hb] at hz
      rw [hb] at hq
      rcases grain_cases hb k with hm | ⟨ys, hm, gY, hw, hsm, hbf, hne⟩
      · simp only [hm] at hg hg2
        clear hm hb gS
        by_cases hF : fallsL xs = []
        · rw [decide_eq_true hF] at hz
          generalize fallsL xs = F at hf hf2 hF
          have Hg := Lib.hid hg; clear hg
          have Hg2 := Lib.hid hg2; clear hg2
          have Hf := Lib.hid hf; clear hf
          have Hf2 := Lib.hid hf2; clear hf2
          have Hz := Lib.hid hz; clear hz
          have Hq := Lib.hid hq; clear hq
          have HF := Lib.hid hF; clear hF
          go_wp2_with fail
          with_reducible refine (Hg.out _ hoa.at).mono ?_
          rintro e v6 ⟨pg, ng, cg, rfl, hog, hb6⟩
          replace hoi := hoi.keep hb6
          replace hoa := hoa.keep hb6
          replace acc := belowTrans acc hb6 (Nat.le_refl _)
          clear hb6
          go_wp2_with fail
          with_reducible refine (Hg2.out _ hoa.at).mono ?_
          rintro e v7 ⟨ph, nh, ch, rfl, hoh, hb7⟩
          replace hoi := hoi.keep hb7
          replace hoa := hoa.keep hb7
          replace hog := hog.keep hb7
          replace acc := belowTrans acc hb7 (Nat.le_refl _)
          clear hb7
          go_wp2_with fail
          with_reducible refine (Hf.out _ hoa.at).mono ?_
          rintro e v8 ⟨pf, nf, cf, rfl, hof, hb8⟩
          replace hoi := hoi.keep hb8
          replace hoa := hoa.keep hb8
          replace hog := hog.keep hb8
          replace hoh := hoh.keep hb8
          replace acc := belowTrans acc hb8 (Nat.le_refl _)
          clear hb8
          go_wp2_with fail
          with_reducible refine (Hf2.out _ hoa.at).mono ?_
          rintro e v9 ⟨pe, ne, ce, rfl, hoe, hb9⟩
          replace hoi := hoi.keep hb9
          replace hoa := hoa.keep hb9
          replace hog := hog.keep hb9
          replace hoh := hoh.keep hb9
          replace hof := hof.keep hb9
          replace acc := belowTrans acc hb9 (Nat.le_refl _)
          clear hb9
          go_wp2_with fail
          with_reducible refine (Hz.out _ hoa.at).mono ?_
          rintro e v10 ⟨rfl, hb10⟩
          replace hoi := hoi.keep hb10
          replace hoa := hoa.keep hb10
          replace hog := hog.keep hb10
          replace hoh := hoh.keep hb10
          replace hof := hof.keep hb10
          replace hoe := hoe.keep hb10
          replace acc := belowTrans acc hb10 (Nat.le_refl _)
          clear hb10
          have hlf := hof.length
          rw [HF.out] at hlf
          have hlf2 : nf = 0 := hlf.symm
          subst hlf2
          have hc := pSame_any _ _ _ _ _ _ _ _ _ hog.at hoh.at
          rw [decide_eq_true rfl] at hc
          have Hc := Lib.hid hc; clear hc
          go_wp2_with fail
          with_reducible refine (Hc.out).mono ?_
          rintro e v11 ⟨rfl, hb11⟩
          replace hoi := hoi.keep hb11
          replace hoa := hoa.keep hb11
          replace hog := hog.keep hb11
          replace hoh := hoh.keep hb11
          replace hof := hof.keep hb11
          replace hoe := hoe.keep hb11
          replace acc := belowTrans acc hb11 (Nat.le_refl _)
          clear hb11
          clear Hc
          clear hoh
          have hc := pSame_any _ _ _ _ _ _ _ _ _ hof.at hoe.at
          rw [decide_eq_true rfl] at hc
          have Hc := Lib.hid hc; clear hc
          go_wp2_with fail
          with_reducible refine (Hc.out).mono ?_
          rintro e v12 ⟨rfl, hb12⟩
          replace hoi := hoi.keep hb12
          replace hoa := hoa.keep hb12
          replace hog := hog.keep hb12
          replace hof := hof.keep hb12
          replace hoe := hoe.keep hb12
          replace acc := belowTrans acc hb12 (Nat.le_refl _)
          clear hb12
          clear Hc
          clear hoe
          clear hof
          go_wp2_with fail
          with_reducible refine (Hq.out _ hoa.at).mono ?_
          rintro e v13 ⟨rfl, hb13⟩
          replace hoi := hoi.keep hb13
          replace hoa := hoa.keep hb13
          replace hog := hog.keep hb13
          replace acc := belowTrans acc hb13 (Nat.le_refl _)
          clear hb13
          clear Hg Hg2 Hf Hf2 Hz Hq
          clear hog
          clear hoa
          have hal := belowAlloc v13 (.cells #[.int .i64 n] 3)
          have hcx := Hend.out _ _ _ _ (ownInt_one v13 n).at
          have hoi2 := hoi.keep hal
          have acc2 := belowTrans acc hal (Nat.le_refl _)
          clear hal hoi acc
          have Hcx := Lib.hid hcx; clear hcx
          go_wp2_with fail
          with_reducible refine (Hcx.out).mono ?_
          rintro e v14 ⟨pz, nz, cz, rfl, hoz, hb14⟩
          replace hoi2 := hoi2.keep hb14
          replace acc2 := belowTrans acc2 hb14 (Nat.le_refl _)
          clear hb14
          have hc := pSame_any _ _ _ _ _ _ _ _ _ hoz.at hoi2.at
          rw [decide_eq_true rfl] at hc
          have Hc := Lib.hid hc; clear hc
          go_wp2_with fail
          with_reducible refine (Hc.out).mono ?_
          rintro e v15 ⟨rfl, hb15⟩
          replace hoi2 := hoi2.keep hb15
          replace hoz := hoz.keep hb15
          replace acc2 := belowTrans acc2 hb15 (Nat.le_refl _)
          clear hb15
          clear Hc
          go_wp2
          go_ret
          exact ⟨rfl, acc2⟩
        · rw [decide_eq_false hF] at hz
          generalize fallsL xs = F at hf hf2 hF
          have Hg := Lib.hid hg; clear hg
          have Hg2 := Lib.hid hg2; clear hg2
          have Hf := Lib.hid hf; clear hf
          have Hf2 := Lib.hid hf2; clear hf2
          have Hz := Lib.hid hz; clear hz
          have Hq := Lib.hid hq; clear hq
          have HF := Lib.hid hF; clear hF
          go_wp2_with fail
          with_reducible refine (Hg.out _ hoa.at).mono ?_
          rintro e v6 ⟨pg, ng, cg, rfl, hog, hb6⟩
          replace hoi := hoi.keep hb6
          replace hoa := hoa.keep hb6
          replace acc := belowTrans acc hb6 (Nat.le_refl _)
          clear hb6
          go_wp2_with fail
          with_reducible refine (Hg2.out _ hoa.at).mono ?_
          rintro e v7 ⟨ph, nh, ch, rfl, hoh, hb7⟩
          replace hoi := hoi.keep hb7
          replace hoa := hoa.keep hb7
          replace hog := hog.keep hb7
          replace acc := belowTrans acc hb7 (Nat.le_refl _)
          clear hb7
          go_wp2_with fail
          with_reducible refine (Hf.out _ hoa.at).mono ?_
          rintro e v8 ⟨pf, nf, cf, rfl, hof, hb8⟩
          replace hoi := hoi.keep hb8
          replace hoa := hoa.keep hb8
          replace hog := hog.keep hb8
          replace hoh := hoh.keep hb8
          replace acc := belowTrans acc hb8 (Nat.le_refl _)
          clear hb8
          go_wp2_with fail
          with_reducible refine (Hf2.out _ hoa.at).mono ?_
          rintro e v9 ⟨pe, ne, ce, rfl, hoe, hb9⟩
          replace hoi := hoi.keep hb9
          replace hoa := hoa.keep hb9
          replace hog := hog.keep hb9
          replace hoh := hoh.keep hb9
          replace hof := hof.keep hb9
          replace acc := belowTrans acc hb9 (Nat.le_refl _)
          clear hb9
          go_wp2_with fail
          with_reducible refine (Hz.out _ hoa.at).mono ?_
          rintro e v10 ⟨rfl, hb10⟩
          replace hoi := hoi.keep hb10
          replace hoa := hoa.keep hb10
          replace hog := hog.keep hb10
          replace hoh := hoh.keep hb10
          replace hof := hof.keep hb10
          replace hoe := hoe.keep hb10
          replace acc := belowTrans acc hb10 (Nat.le_refl _)
          clear hb10
          have hlf := hof.length
          have hlf2 : ¬ nf = 0 := fun e => HF.out (List.eq_nil_of_length_eq_zero (by omega))
          have hlf3 : ¬ (nf : Int) = 0 := by omega
          have hlf4 : ((nf : Int) == 0) = false := by simpa using hlf2
          have hlf5 : decide ((nf : Int) = 0) = false := decide_eq_false hlf3
          clear hlf
          have hc := pSame_any _ _ _ _ _ _ _ _ _ hog.at hoh.at
          rw [decide_eq_true rfl] at hc
          have Hc := Lib.hid hc; clear hc
          go_wp2_with fail
          with_reducible refine (Hc.out).mono ?_
          rintro e v11 ⟨rfl, hb11⟩
          replace hoi := hoi.keep hb11
          replace hoa := hoa.keep hb11
          replace hog := hog.keep hb11
          replace hoh := hoh.keep hb11
          replace hof := hof.keep hb11
          replace hoe := hoe.keep hb11
          replace acc := belowTrans acc hb11 (Nat.le_refl _)
          clear hb11
          clear Hc
          clear hoh
          have hc := pSame_any _ _ _ _ _ _ _ _ _ hof.at hoe.at
          rw [decide_eq_true rfl] at hc
          have Hc := Lib.hid hc; clear hc
          go_wp2_with fail
          with_reducible refine (Hc.out).mono ?_
          rintro e v12 ⟨rfl, hb12⟩
          replace hoi := hoi.keep hb12
          replace hoa := hoa.keep hb12
          replace hog := hog.keep hb12
          replace hof := hof.keep hb12
          replace hoe := hoe.keep hb12
          replace acc := belowTrans acc hb12 (Nat.le_refl _)
          clear hb12
          clear Hc
          clear hoe
          clear hof
          go_wp2_with fail
          with_reducible refine (Hq.out _ hoa.at).mono ?_
          rintro e v13 ⟨rfl, hb13⟩
          replace hoi := hoi.keep hb13
          replace hoa := hoa.keep hb13
          replace hog := hog.keep hb13
          replace acc := belowTrans acc hb13 (Nat.le_refl _)
          clear hb13
          clear Hg Hg2 Hf Hf2 Hz Hq
          clear hog
          clear hoa
          have hal := belowAlloc v13 (.cells #[.int .i64 n] 3)
          have hcx := Hend.out _ _ _ _ (ownInt_one v13 n).at
          have hoi2 := hoi.keep hal
          have acc2 := belowTrans acc hal (Nat.le_refl _)
          clear hal hoi acc
          have Hcx := Lib.hid hcx; clear hcx
          go_wp2_with fail
          with_reducible refine (Hcx.out).mono ?_
          rintro e v14 ⟨pz, nz, cz, rfl, hoz, hb14⟩
          replace hoi2 := hoi2.keep hb14
          replace acc2 := belowTrans acc2 hb14 (Nat.le_refl _)
          clear hb14
          have hc := pSame_any _ _ _ _ _ _ _ _ _ hoz.at hoi2.at
          rw [decide_eq_true rfl] at hc
          have Hc := Lib.hid hc; clear hc
          go_wp2_with fail
          with_reducible refine (Hc.out).mono ?_
          rintro e v15 ⟨rfl, hb15⟩
          replace hoi2 := hoi2.keep hb15
          replace hoz := hoz.keep hb15
          replace acc2 := belowTrans acc2 hb15 (Nat.le_refl _)
          clear hb15
          clear Hc
          go_wp2
          go_ret
          exact ⟨rfl, acc2⟩
      · simp only [hm] at hg hg2
        rw [decide_eq_false hne] at hz
        have hF := hne
        have hwa := fun W h => impl_WeightOf pa na ca xs W h
        simp only [mWeight_yes hb] at hwa
        have hwb := fun a n c W h => impl_WeightOf a n c ys W h
        simp only [mWeight_yes (sand_iff.2 gY), hw] at hwb
        have hsa := fun W h => pSum_any pa na ca xs W h gS.good
        have hsb := fun a n c W h => pSum_any a n c ys W h gY.good
        rw [hsm] at hsb
        have hwt := sand_wt gS
        clear hm hb gS gY hw hsm hne
        generalize fallsL xs = F at hf hf2 hF
        generalize wt 0 xs = T at hwa hwb hwt
        generalize xs.sum = S at hsa hsb
        have Hg := Lib.hid hg; clear hg
        have Hg2 := Lib.hid hg2; clear hg2
        have Hf := Lib.hid hf; clear hf
        have Hf2 := Lib.hid hf2; clear hf2
        have Hz := Lib.hid hz; clear hz
        have Hq := Lib.hid hq; clear hq
        have HF := Lib.hid hF; clear hF
        have Hwa := Lib.hid hwa; clear hwa
        have Hwb := Lib.hid hwb; clear hwb
        have Hsa := Lib.hid hsa; clear hsa
        have Hsb := Lib.hid hsb; clear hsb
        have Hbf := Lib.hid hbf; clear hbf
        go_wp2_with fail
        with_reducible refine (Hg.out _ hoa.at).mono ?_
        rintro e v6 ⟨pg, ng, cg, rfl, hog, hb6⟩
        replace hoi := hoi.keep hb6
        replace hoa := hoa.keep hb6
        replace acc := belowTrans acc hb6 (Nat.le_refl _)
        clear hb6
        go_wp2_with fail
        with_reducible refine (Hg2.out _ hoa.at).mono ?_
        rintro e v7 ⟨ph, nh, ch, rfl, hoh, hb7⟩
        replace hoi := hoi.keep hb7
        replace hoa := hoa.keep hb7
        replace hog := hog.keep hb7
        replace acc := belowTrans acc hb7 (Nat.le_refl _)
        clear hb7
        go_wp2_with fail
        with_reducible refine (Hf.out _ hoa.at).mono ?_
        rintro e v8 ⟨pf, nf, cf, rfl, hof, hb8⟩
        replace hoi := hoi.keep hb8
        replace hoa := hoa.keep hb8
        replace hog := hog.keep hb8
        replace hoh := hoh.keep hb8
        replace acc := belowTrans acc hb8 (Nat.le_refl _)
        clear hb8
        go_wp2_with fail
        with_reducible refine (Hf2.out _ hoa.at).mono ?_
        rintro e v9 ⟨pe, ne, ce, rfl, hoe, hb9⟩
        replace hoi := hoi.keep hb9
        replace hoa := hoa.keep hb9
        replace hog := hog.keep hb9
        replace hoh := hoh.keep hb9
        replace hof := hof.keep hb9
        replace acc := belowTrans acc hb9 (Nat.le_refl _)
        clear hb9
        go_wp2_with fail
        with_reducible refine (Hz.out _ hoa.at).mono ?_
        rintro e v10 ⟨rfl, hb10⟩
        replace hoi := hoi.keep hb10
        replace hoa := hoa.keep hb10
        replace hog := hog.keep hb10
        replace hoh := hoh.keep hb10
        replace hof := hof.keep hb10
        replace hoe := hoe.keep hb10
        replace acc := belowTrans acc hb10 (Nat.le_refl _)
        clear hb10
        have hlf := hof.length
        have hlf2 : ¬ nf = 0 := fun e => HF.out (List.eq_nil_of_length_eq_zero (by omega))
        have hlf3 : ¬ (nf : Int) = 0 := by omega
        have hlf4 : ((nf : Int) == 0) = false := by simpa using hlf2
        have hlf5 : decide ((nf : Int) = 0) = false := decide_eq_false hlf3
        clear hlf
        have hc := pSame_any _ _ _ _ _ _ _ _ _ hog.at hoh.at
        rw [decide_eq_true rfl] at hc
        have Hc := Lib.hid hc; clear hc
        go_wp2_with fail
        with_reducible refine (Hc.out).mono ?_
        rintro e v11 ⟨rfl, hb11⟩
        replace hoi := hoi.keep hb11
        replace hoa := hoa.keep hb11
        replace hog := hog.keep hb11
        replace hoh := hoh.keep hb11
        replace hof := hof.keep hb11
        replace hoe := hoe.keep hb11
        replace acc := belowTrans acc hb11 (Nat.le_refl _)
        clear hb11
        clear Hc
        clear hoh
        have hc := pSame_any _ _ _ _ _ _ _ _ _ hof.at hoe.at
        rw [decide_eq_true rfl] at hc
        have Hc := Lib.hid hc; clear hc
        go_wp2_with fail
        with_reducible refine (Hc.out).mono ?_
        rintro e v12 ⟨rfl, hb12⟩
        replace hoi := hoi.keep hb12
        replace hoa := hoa.keep hb12
        replace hog := hog.keep hb12
        replace hof := hof.keep hb12
        replace hoe := hoe.keep hb12
        replace acc := belowTrans acc hb12 (Nat.le_refl _)
        clear hb12
        clear Hc
        clear hoe
        clear hof
        go_wp2_with fail
        with_reducible refine (Hq.out _ hoa.at).mono ?_
        rintro e v13 ⟨rfl, hb13⟩
        replace hoi := hoi.keep hb13
        replace hoa := hoa.keep hb13
        replace hog := hog.keep hb13
        replace acc := belowTrans acc hb13 (Nat.le_refl _)
        clear hb13
        clear Hg Hg2 Hf Hf2 Hz Hq
        go_wp2_with fail
        with_reducible refine (Hwa.out _ hoa.at).mono ?_
        rintro e v14 ⟨rfl, hb14⟩
        replace hoi := hoi.keep hb14
        replace hoa := hoa.keep hb14
        replace hog := hog.keep hb14
        replace acc := belowTrans acc hb14 (Nat.le_refl _)
        clear hb14
        go_wp2_with fail
        with_reducible refine (Hwb.out _ _ _ _ hog.at).mono ?_
        rintro e v15 ⟨rfl, hb15⟩
        replace hoi := hoi.keep hb15
        replace hoa := hoa.keep hb15
        replace hog := hog.keep hb15
        replace acc := belowTrans acc hb15 (Nat.le_refl _)
        clear hb15
        go_wp2_with fail
        with_reducible refine (Hsb.out _ _ _ _ hog.at).mono ?_
        rintro e w' ⟨rfl, rfl⟩
        go_wp2_with fail
        with_reducible refine (Hsa.out _ hoa.at).mono ?_
        rintro e w' ⟨rfl, rfl⟩
        have hbx := pBefore_any _ _ _ _ _ _ _ _ _ hoa.at hog.at
        rw [Hbf.out] at hbx
        have Hbx := Lib.hid hbx; clear hbx
        go_wp2_with fail
        with_reducible refine (Hbx.out).mono ?_
        rintro e v16 ⟨rfl, hb16⟩
        replace hoi := hoi.keep hb16
        replace hoa := hoa.keep hb16
        replace hog := hog.keep hb16
        replace acc := belowTrans acc hb16 (Nat.le_refl _)
        clear hb16
        clear Hbx Hbf Hwa Hwb Hsa Hsb
        clear hog
        clear hoa
        have hal := belowAlloc v16 (.cells #[.int .i64 n] 3)
        have hcx := Hend.out _ _ _ _ (ownInt_one v16 n).at
        have hoi2 := hoi.keep hal
        have acc2 := belowTrans acc hal (Nat.le_refl _)
        clear hal hoi acc
        have Hcx := Lib.hid hcx; clear hcx
        go_wp2_with fail
        with_reducible refine (Hcx.out).mono ?_
        rintro e v17 ⟨pz, nz, cz, rfl, hoz, hb17⟩
        replace hoi2 := hoi2.keep hb17
        replace acc2 := belowTrans acc2 hb17 (Nat.le_refl _)
        clear hb17
        have hc := pSame_any _ _ _ _ _ _ _ _ _ hoz.at hoi2.at
        rw [decide_eq_true rfl] at hc
        have Hc := Lib.hid hc; clear hc
        go_wp2_with fail
        with_reducible refine (Hc.out).mono ?_
        rintro e v18 ⟨rfl, hb18⟩
        replace hoi2 := hoi2.keep hb18
        replace hoz := hoz.keep hb18
        replace acc2 := belowTrans acc2 hb18 (Nat.le_refl _)
        clear hb18
        clear Hc
        go_wp2
        go_ret
        exact ⟨rfl, acc2⟩
  · skip
    simp only [mShape_no hn] at hi hs
    clear hn
    have Hi := Lib.hid hi; clear hi
    have Hs := Lib.hid hs; clear hs
    go_wp2_with fail
    with_reducible refine (Hi.out _).mono ?_
    rintro e v2 ⟨pi, ni, ci, rfl, hoi, hb2⟩
    replace acc := belowTrans acc hb2 (Nat.le_refl _)
    clear hb2
    go_wp2_with fail
    with_reducible refine (Hs.out _).mono ?_
    rintro e v3 ⟨ps, ns, cs, rfl, hos, hb3⟩
    replace hoi := hoi.keep hb3
    replace acc := belowTrans acc hb3 (Nat.le_refl _)
    clear hb3
    have hc := pSame_any _ _ _ _ _ _ _ _ _ hoi.at hos.at
    rw [decide_eq_true rfl] at hc
    have Hc := Lib.hid hc; clear hc
    go_wp2_with fail
    with_reducible refine (Hc.out).mono ?_
    rintro e v4 ⟨rfl, hb4⟩
    replace hoi := hoi.keep hb4
    replace hos := hos.keep hb4
    replace acc := belowTrans acc hb4 (Nat.le_refl _)
    clear hb4
    clear Hc
    clear hos
    clear Hi Hs
    clear hoi
    go_wp2_with fail
    with_reducible refine (Hf.out _ acc).mono ?_
    rintro e v5 ⟨pa, na, ca, xs, k, rfl, hoa, hnear, hk0, hk1, hb5⟩
    replace acc := belowTrans acc hb5 (Nat.le_refl _)
    clear hb5
    clear Hf hnear
    have hg := fun W h => impl_FallGrain pa na ca xs k W h
    have hg2 := fun W h => spec_FallGrain pa na ca xs k W h
    have hf := fun W h => impl_FallsOf pa na ca xs W h
    have hf2 := fun W h => spec_FallsOf pa na ca xs W h
    have hz := fun W h => impl_IsSettled pa na ca xs W h
    have hq := fun W h => impl_IsSand pa na ca xs W h
    simp only [mIsSand] at hq
    cases hb : sandB xs
    · skip
      have hm : mFallGrain xs k = ([], false) := mPlayF_no1 hb
      simp only [hm] at hg hg2
      simp only [mFallsOf_no hb] at hf hf2
      simp only [mIsSettled_no hb] at hz
      rw [hb] at hq
      clear hm hb
      have Hg := Lib.hid hg; clear hg
      have Hg2 := Lib.hid hg2; clear hg2
      have Hf := Lib.hid hf; clear hf
      have Hf2 := Lib.hid hf2; clear hf2
      have Hz := Lib.hid hz; clear hz
      have Hq := Lib.hid hq; clear hq
      go_wp2_with fail
      with_reducible refine (Hg.out _ hoa.at).mono ?_
      rintro e v6 ⟨pg, ng, cg, rfl, hog, hb6⟩
      replace hoa := hoa.keep hb6
      replace acc := belowTrans acc hb6 (Nat.le_refl _)
      clear hb6
      go_wp2_with fail
      with_reducible refine (Hg2.out _ hoa.at).mono ?_
      rintro e v7 ⟨ph, nh, ch, rfl, hoh, hb7⟩
      replace hoa := hoa.keep hb7
      replace hog := hog.keep hb7
      replace acc := belowTrans acc hb7 (Nat.le_refl _)
      clear hb7
      go_wp2_with fail
      with_reducible refine (Hf.out _ hoa.at).mono ?_
      rintro e v8 ⟨pf, nf, cf, rfl, hof, hb8⟩
      replace hoa := hoa.keep hb8
      replace hog := hog.keep hb8
      replace hoh := hoh.keep hb8
      replace acc := belowTrans acc hb8 (Nat.le_refl _)
      clear hb8
      go_wp2_with fail
      with_reducible refine (Hf2.out _ hoa.at).mono ?_
      rintro e v9 ⟨pe, ne, ce, rfl, hoe, hb9⟩
      replace hoa := hoa.keep hb9
      replace hog := hog.keep hb9
      replace hoh := hoh.keep hb9
      replace hof := hof.keep hb9
      replace acc := belowTrans acc hb9 (Nat.le_refl _)
      clear hb9
      go_wp2_with fail
      with_reducible refine (Hz.out _ hoa.at).mono ?_
      rintro e v10 ⟨rfl, hb10⟩
      replace hoa := hoa.keep hb10
      replace hog := hog.keep hb10
      replace hoh := hoh.keep hb10
      replace hof := hof.keep hb10
      replace hoe := hoe.keep hb10
      replace acc := belowTrans acc hb10 (Nat.le_refl _)
      clear hb10
      have hc := pSame_any _ _ _ _ _ _ _ _ _ hog.at hoh.at
      rw [decide_eq_true rfl] at hc
      have Hc := Lib.hid hc; clear hc
      go_wp2_with fail
      with_reducible refine (Hc.out).mono ?_
      rintro e v11 ⟨rfl, hb11⟩
      replace hoa := hoa.keep hb11
      replace hog := hog.keep hb11
      replace hoh := hoh.keep hb11
      replace hof := hof.keep hb11
      replace hoe := hoe.keep hb11
      replace acc := belowTrans acc hb11 (Nat.le_refl _)
      clear hb11
      clear Hc
      clear hoh
      have hc := pSame_any _ _ _ _ _ _ _ _ _ hof.at hoe.at
      rw [decide_eq_true rfl] at hc
      have Hc := Lib.hid hc; clear hc
      go_wp2_with fail
      with_reducible refine (Hc.out).mono ?_
      rintro e v12 ⟨rfl, hb12⟩
      replace hoa := hoa.keep hb12
      replace hog := hog.keep hb12
      replace hof := hof.keep hb12
      replace hoe := hoe.keep hb12
      replace acc := belowTrans acc hb12 (Nat.le_refl _)
      clear hb12
      clear Hc
      clear hoe
      clear hof
      go_wp2_with fail
      with_reducible refine (Hq.out _ hoa.at).mono ?_
      rintro e v13 ⟨rfl, hb13⟩
      replace hoa := hoa.keep hb13
      replace hog := hog.keep hb13
      replace acc := belowTrans acc hb13 (Nat.le_refl _)
      clear hb13
      clear Hg Hg2 Hf Hf2 Hz Hq
      clear hog
      clear hoa
      go_wp2
      go_ret
      exact ⟨rfl, acc⟩
    have gS := sand_iff.1 hb
    simp only [mFallsOf_yes hb] at hf hf2
    simp only [mIsSettled_yes hb] at hz
    rw [hb] at hq
    rcases grain_cases hb k with hm | ⟨ys, hm, gY, hw, hsm, hbf, hne⟩
    · simp only [hm] at hg hg2
      clear hm hb gS
      by_cases hF : fallsL xs = []
      · rw [decide_eq_true hF] at hz
        generalize fallsL xs = F at hf hf2 hF
        have Hg := Lib.hid hg; clear hg
        have Hg2 := Lib.hid hg2; clear hg2
        have Hf := Lib.hid hf; clear hf
        have Hf2 := Lib.hid hf2; clear hf2
        have Hz := Lib.hid hz; clear hz
        have Hq := Lib.hid hq; clear hq
        have HF := Lib.hid hF; clear hF
        go_wp2_with fail
        with_reducible refine (Hg.out _ hoa.at).mono ?_
        rintro e v6 ⟨pg, ng, cg, rfl, hog, hb6⟩
        replace hoa := hoa.keep hb6
        replace acc := belowTrans acc hb6 (Nat.le_refl _)
        clear hb6
        go_wp2_with fail
        with_reducible refine (Hg2.out _ hoa.at).mono ?_
        rintro e v7 ⟨ph, nh, ch, rfl, hoh, hb7⟩
        replace hoa := hoa.keep hb7
        replace hog := hog.keep hb7
        replace acc := belowTrans acc hb7 (Nat.le_refl _)
        clear hb7
        go_wp2_with fail
        with_reducible refine (Hf.out _ hoa.at).mono ?_
        rintro e v8 ⟨pf, nf, cf, rfl, hof, hb8⟩
        replace hoa := hoa.keep hb8
        replace hog := hog.keep hb8
        replace hoh := hoh.keep hb8
        replace acc := belowTrans acc hb8 (Nat.le_refl _)
        clear hb8
        go_wp2_with fail
        with_reducible refine (Hf2.out _ hoa.at).mono ?_
        rintro e v9 ⟨pe, ne, ce, rfl, hoe, hb9⟩
        replace hoa := hoa.keep hb9
        replace hog := hog.keep hb9
        replace hoh := hoh.keep hb9
        replace hof := hof.keep hb9
        replace acc := belowTrans acc hb9 (Nat.le_refl _)
        clear hb9
        go_wp2_with fail
        with_reducible refine (Hz.out _ hoa.at).mono ?_
        rintro e v10 ⟨rfl, hb10⟩
        replace hoa := hoa.keep hb10
        replace hog := hog.keep hb10
        replace hoh := hoh.keep hb10
        replace hof := hof.keep hb10
        replace hoe := hoe.keep hb10
        replace acc := belowTrans acc hb10 (Nat.le_refl _)
        clear hb10
        have hlf := hof.length
        rw [HF.out] at hlf
        have hlf2 : nf = 0 := hlf.symm
        subst hlf2
        have hc := pSame_any _ _ _ _ _ _ _ _ _ hog.at hoh.at
        rw [decide_eq_true rfl] at hc
        have Hc := Lib.hid hc; clear hc
        go_wp2_with fail
        with_reducible refine (Hc.out).mono ?_
        rintro e v11 ⟨rfl, hb11⟩
        replace hoa := hoa.keep hb11
        replace hog := hog.keep hb11
        replace hoh := hoh.keep hb11
        replace hof := hof.keep hb11
        replace hoe := hoe.keep hb11
        replace acc := belowTrans acc hb11 (Nat.le_refl _)
        clear hb11
        clear Hc
        clear hoh
        have hc := pSame_any _ _ _ _ _ _ _ _ _ hof.at hoe.at
        rw [decide_eq_true rfl] at hc
        have Hc := Lib.hid hc; clear hc
        go_wp2_with fail
        with_reducible refine (Hc.out).mono ?_
        rintro e v12 ⟨rfl, hb12⟩
        replace hoa := hoa.keep hb12
        replace hog := hog.keep hb12
        replace hof := hof.keep hb12
        replace hoe := hoe.keep hb12
        replace acc := belowTrans acc hb12 (Nat.le_refl _)
        clear hb12
        clear Hc
        clear hoe
        clear hof
        go_wp2_with fail
        with_reducible refine (Hq.out _ hoa.at).mono ?_
        rintro e v13 ⟨rfl, hb13⟩
        replace hoa := hoa.keep hb13
        replace hog := hog.keep hb13
        replace acc := belowTrans acc hb13 (Nat.le_refl _)
        clear hb13
        clear Hg Hg2 Hf Hf2 Hz Hq
        clear hog
        clear hoa
        go_wp2
        go_ret
        exact ⟨rfl, acc⟩
      · rw [decide_eq_false hF] at hz
        generalize fallsL xs = F at hf hf2 hF
        have Hg := Lib.hid hg; clear hg
        have Hg2 := Lib.hid hg2; clear hg2
        have Hf := Lib.hid hf; clear hf
        have Hf2 := Lib.hid hf2; clear hf2
        have Hz := Lib.hid hz; clear hz
        have Hq := Lib.hid hq; clear hq
        have HF := Lib.hid hF; clear hF
        go_wp2_with fail
        with_reducible refine (Hg.out _ hoa.at).mono ?_
        rintro e v6 ⟨pg, ng, cg, rfl, hog, hb6⟩
        replace hoa := hoa.keep hb6
        replace acc := belowTrans acc hb6 (Nat.le_refl _)
        clear hb6
        go_wp2_with fail
        with_reducible refine (Hg2.out _ hoa.at).mono ?_
        rintro e v7 ⟨ph, nh, ch, rfl, hoh, hb7⟩
        replace hoa := hoa.keep hb7
        replace hog := hog.keep hb7
        replace acc := belowTrans acc hb7 (Nat.le_refl _)
        clear hb7
        go_wp2_with fail
        with_reducible refine (Hf.out _ hoa.at).mono ?_
        rintro e v8 ⟨pf, nf, cf, rfl, hof, hb8⟩
        replace hoa := hoa.keep hb8
        replace hog := hog.keep hb8
        replace hoh := hoh.keep hb8
        replace acc := belowTrans acc hb8 (Nat.le_refl _)
        clear hb8
        go_wp2_with fail
        with_reducible refine (Hf2.out _ hoa.at).mono ?_
        rintro e v9 ⟨pe, ne, ce, rfl, hoe, hb9⟩
        replace hoa := hoa.keep hb9
        replace hog := hog.keep hb9
        replace hoh := hoh.keep hb9
        replace hof := hof.keep hb9
        replace acc := belowTrans acc hb9 (Nat.le_refl _)
        clear hb9
        go_wp2_with fail
        with_reducible refine (Hz.out _ hoa.at).mono ?_
        rintro e v10 ⟨rfl, hb10⟩
        replace hoa := hoa.keep hb10
        replace hog := hog.keep hb10
        replace hoh := hoh.keep hb10
        replace hof := hof.keep hb10
        replace hoe := hoe.keep hb10
        replace acc := belowTrans acc hb10 (Nat.le_refl _)
        clear hb10
        have hlf := hof.length
        have hlf2 : ¬ nf = 0 := fun e => HF.out (List.eq_nil_of_length_eq_zero (by omega))
        have hlf3 : ¬ (nf : Int) = 0 := by omega
        have hlf4 : ((nf : Int) == 0) = false := by simpa using hlf2
        have hlf5 : decide ((nf : Int) = 0) = false := decide_eq_false hlf3
        clear hlf
        have hc := pSame_any _ _ _ _ _ _ _ _ _ hog.at hoh.at
        rw [decide_eq_true rfl] at hc
        have Hc := Lib.hid hc; clear hc
        go_wp2_with fail
        with_reducible refine (Hc.out).mono ?_
        rintro e v11 ⟨rfl, hb11⟩
        replace hoa := hoa.keep hb11
        replace hog := hog.keep hb11
        replace hoh := hoh.keep hb11
        replace hof := hof.keep hb11
        replace hoe := hoe.keep hb11
        replace acc := belowTrans acc hb11 (Nat.le_refl _)
        clear hb11
        clear Hc
        clear hoh
        have hc := pSame_any _ _ _ _ _ _ _ _ _ hof.at hoe.at
        rw [decide_eq_true rfl] at hc
        have Hc := Lib.hid hc; clear hc
        go_wp2_with fail
        with_reducible refine (Hc.out).mono ?_
        rintro e v12 ⟨rfl, hb12⟩
        replace hoa := hoa.keep hb12
        replace hog := hog.keep hb12
        replace hof := hof.keep hb12
        replace hoe := hoe.keep hb12
        replace acc := belowTrans acc hb12 (Nat.le_refl _)
        clear hb12
        clear Hc
        clear hoe
        clear hof
        go_wp2_with fail
        with_reducible refine (Hq.out _ hoa.at).mono ?_
        rintro e v13 ⟨rfl, hb13⟩
        replace hoa := hoa.keep hb13
        replace hog := hog.keep hb13
        replace acc := belowTrans acc hb13 (Nat.le_refl _)
        clear hb13
        clear Hg Hg2 Hf Hf2 Hz Hq
        clear hog
        clear hoa
        go_wp2
        go_ret
        exact ⟨rfl, acc⟩
    · simp only [hm] at hg hg2
      rw [decide_eq_false hne] at hz
      have hF := hne
      have hwa := fun W h => impl_WeightOf pa na ca xs W h
      simp only [mWeight_yes hb] at hwa
      have hwb := fun a n c W h => impl_WeightOf a n c ys W h
      simp only [mWeight_yes (sand_iff.2 gY), hw] at hwb
      have hsa := fun W h => pSum_any pa na ca xs W h gS.good
      have hsb := fun a n c W h => pSum_any a n c ys W h gY.good
      rw [hsm] at hsb
      have hwt := sand_wt gS
      clear hm hb gS gY hw hsm hne
      generalize fallsL xs = F at hf hf2 hF
      generalize wt 0 xs = T at hwa hwb hwt
      generalize xs.sum = S at hsa hsb
      have Hg := Lib.hid hg; clear hg
      have Hg2 := Lib.hid hg2; clear hg2
      have Hf := Lib.hid hf; clear hf
      have Hf2 := Lib.hid hf2; clear hf2
      have Hz := Lib.hid hz; clear hz
      have Hq := Lib.hid hq; clear hq
      have HF := Lib.hid hF; clear hF
      have Hwa := Lib.hid hwa; clear hwa
      have Hwb := Lib.hid hwb; clear hwb
      have Hsa := Lib.hid hsa; clear hsa
      have Hsb := Lib.hid hsb; clear hsb
      have Hbf := Lib.hid hbf; clear hbf
      go_wp2_with fail
      with_reducible refine (Hg.out _ hoa.at).mono ?_
      rintro e v6 ⟨pg, ng, cg, rfl, hog, hb6⟩
      replace hoa := hoa.keep hb6
      replace acc := belowTrans acc hb6 (Nat.le_refl _)
      clear hb6
      go_wp2_with fail
      with_reducible refine (Hg2.out _ hoa.at).mono ?_
      rintro e v7 ⟨ph, nh, ch, rfl, hoh, hb7⟩
      replace hoa := hoa.keep hb7
      replace hog := hog.keep hb7
      replace acc := belowTrans acc hb7 (Nat.le_refl _)
      clear hb7
      go_wp2_with fail
      with_reducible refine (Hf.out _ hoa.at).mono ?_
      rintro e v8 ⟨pf, nf, cf, rfl, hof, hb8⟩
      replace hoa := hoa.keep hb8
      replace hog := hog.keep hb8
      replace hoh := hoh.keep hb8
      replace acc := belowTrans acc hb8 (Nat.le_refl _)
      clear hb8
      go_wp2_with fail
      with_reducible refine (Hf2.out _ hoa.at).mono ?_
      rintro e v9 ⟨pe, ne, ce, rfl, hoe, hb9⟩
      replace hoa := hoa.keep hb9
      replace hog := hog.keep hb9
      replace hoh := hoh.keep hb9
      replace hof := hof.keep hb9
      replace acc := belowTrans acc hb9 (Nat.le_refl _)
      clear hb9
      go_wp2_with fail
      with_reducible refine (Hz.out _ hoa.at).mono ?_
      rintro e v10 ⟨rfl, hb10⟩
      replace hoa := hoa.keep hb10
      replace hog := hog.keep hb10
      replace hoh := hoh.keep hb10
      replace hof := hof.keep hb10
      replace hoe := hoe.keep hb10
      replace acc := belowTrans acc hb10 (Nat.le_refl _)
      clear hb10
      have hlf := hof.length
      have hlf2 : ¬ nf = 0 := fun e => HF.out (List.eq_nil_of_length_eq_zero (by omega))
      have hlf3 : ¬ (nf : Int) = 0 := by omega
      have hlf4 : ((nf : Int) == 0) = false := by simpa using hlf2
      have hlf5 : decide ((nf : Int) = 0) = false := decide_eq_false hlf3
      clear hlf
      have hc := pSame_any _ _ _ _ _ _ _ _ _ hog.at hoh.at
      rw [decide_eq_true rfl] at hc
      have Hc := Lib.hid hc; clear hc
      go_wp2_with fail
      with_reducible refine (Hc.out).mono ?_
      rintro e v11 ⟨rfl, hb11⟩
      replace hoa := hoa.keep hb11
      replace hog := hog.keep hb11
      replace hoh := hoh.keep hb11
      replace hof := hof.keep hb11
      replace hoe := hoe.keep hb11
      replace acc := belowTrans acc hb11 (Nat.le_refl _)
      clear hb11
      clear Hc
      clear hoh
      have hc := pSame_any _ _ _ _ _ _ _ _ _ hof.at hoe.at
      rw [decide_eq_true rfl] at hc
      have Hc := Lib.hid hc; clear hc
      go_wp2_with fail
      with_reducible refine (Hc.out).mono ?_
      rintro e v12 ⟨rfl, hb12⟩
      replace hoa := hoa.keep hb12
      replace hog := hog.keep hb12
      replace hof := hof.keep hb12
      replace hoe := hoe.keep hb12
      replace acc := belowTrans acc hb12 (Nat.le_refl _)
      clear hb12
      clear Hc
      clear hoe
      clear hof
      go_wp2_with fail
      with_reducible refine (Hq.out _ hoa.at).mono ?_
      rintro e v13 ⟨rfl, hb13⟩
      replace hoa := hoa.keep hb13
      replace hog := hog.keep hb13
      replace acc := belowTrans acc hb13 (Nat.le_refl _)
      clear hb13
      clear Hg Hg2 Hf Hf2 Hz Hq
      go_wp2_with fail
      with_reducible refine (Hwa.out _ hoa.at).mono ?_
      rintro e v14 ⟨rfl, hb14⟩
      replace hoa := hoa.keep hb14
      replace hog := hog.keep hb14
      replace acc := belowTrans acc hb14 (Nat.le_refl _)
      clear hb14
      go_wp2_with fail
      with_reducible refine (Hwb.out _ _ _ _ hog.at).mono ?_
      rintro e v15 ⟨rfl, hb15⟩
      replace hoa := hoa.keep hb15
      replace hog := hog.keep hb15
      replace acc := belowTrans acc hb15 (Nat.le_refl _)
      clear hb15
      go_wp2_with fail
      with_reducible refine (Hsb.out _ _ _ _ hog.at).mono ?_
      rintro e w' ⟨rfl, rfl⟩
      go_wp2_with fail
      with_reducible refine (Hsa.out _ hoa.at).mono ?_
      rintro e w' ⟨rfl, rfl⟩
      have hbx := pBefore_any _ _ _ _ _ _ _ _ _ hoa.at hog.at
      rw [Hbf.out] at hbx
      have Hbx := Lib.hid hbx; clear hbx
      go_wp2_with fail
      with_reducible refine (Hbx.out).mono ?_
      rintro e v16 ⟨rfl, hb16⟩
      replace hoa := hoa.keep hb16
      replace hog := hog.keep hb16
      replace acc := belowTrans acc hb16 (Nat.le_refl _)
      clear hb16
      clear Hbx Hbf Hwa Hwb Hsa Hsb
      clear hog
      clear hoa
      go_wp2
      go_ret
      exact ⟨rfl, acc⟩

/-! ### THE ROW's STEP: WRITTEN OUT: LEAVE IT -/
set_option maxRecDepth 100000 in
theorem lifted (os : Os) (started : os.Started) (H : Type) (enc : TypeId × Value → H) :
    ReturnsInHanded {} Try.checked os 4 .any (Rows.fnSettledShapesSpec.pre6 enc Try.prog Try.f4 Rows.fnSettledShapesRow.domain false) (Rows.fnSettledShapesSpec.post enc Try.prog Try.f4 false true false false) := by
  refine returnsInHanded_of_change (C := Try.checked) own started (by kernel_rfl) Try.func4
    (ChangeSpec.witness6 (enc := enc) (C := Try.checked) false ⟨#[], #[.slice none 0 0, .slice none 0 0], []⟩ 8 (by kernel_rfl) (by kernel_rfl) (by kernel_rfl) (by kernel_rfl)) ?_
  intro W base args ds gs before hval0 hW hcnd _
  have hval : ∀ (j : Nat) t v, Try.f4.params[j]? = some t → args[j]? = some v → Value.okWide Try.prog W .any base t v := hval0
  have hW' := hW
  obtain ⟨p, q, hA0, hV, rfl, hfz, hnd⟩ := hW
  have hA : DataW.TrodAll enc Try.prog W 0 (fun _ => true) true Try.f4.params.toList args.toList ds p := hA0
  rw [Try.params4] at hA hval
  obtain ⟨v0, vs0, d0, ds0, p0, q0, hargs, rfl, rfl, h0, r0⟩ := trodAll_cons hA
  obtain ⟨v1, vs1, d1, ds1, p1, q1, rfl, rfl, rfl, h1, r1⟩ := trodAll_cons r0
  obtain ⟨rfl, rfl, rfl⟩ := trodAll_nil r1
  obtain rfl : args = #[v0, v1] := by cases args; simp_all
  obtain ⟨rfl, rfl⟩ := trodVars_none hV
  obtain ⟨a0, len0, cap0, rfl⟩ := okWide_slice Try.underlying22 (hval 0 22 v0 rfl rfl)
  have k0 := h0
  have lt0 : ∀ x ∈ p0, x.block < W.heap.size := by obtain ⟨m, hm⟩ := k0; exact DataW.trod_lt m _ _ _ hm
  obtain ⟨z0, w0⟩ : ∃ zs, IsRow .u8 W a0 len0 cap0 zs := by
    obtain ⟨fuel, hf⟩ := h0
    rcases open_ints Try.underlying22 Try.underlying5 (by kernel_rfl) hf with ⟨hcs, _⟩ | ⟨x, l, c, zs, hcs, _, hl, hm, hz, _, hcell, hwz⟩
    · simp [Value.cells] at hcs
      obtain ⟨rfl, rfl, rfl⟩ := hcs
      exact ⟨[], .inl ⟨rfl, rfl, rfl, rfl⟩⟩
    · simp [Value.cells] at hcs
      obtain ⟨rfl, rfl, rfl⟩ := hcs
      exact ⟨zs, .inr ⟨_, rfl, hl, hm, by simpa using hz, hcell, hwz⟩⟩
  obtain ⟨a1, len1, cap1, rfl⟩ := okWide_slice Try.underlying22 (hval 1 22 v1 rfl rfl)
  have k1 := h1
  have lt1 : ∀ x ∈ p1, x.block < W.heap.size := by obtain ⟨m, hm⟩ := k1; exact DataW.trod_lt m _ _ _ hm
  obtain ⟨z1, w1⟩ : ∃ zs, IsRow .u8 W a1 len1 cap1 zs := by
    obtain ⟨fuel, hf⟩ := h1
    rcases open_ints Try.underlying22 Try.underlying5 (by kernel_rfl) hf with ⟨hcs, _⟩ | ⟨x, l, c, zs, hcs, _, hl, hm, hz, _, hcell, hwz⟩
    · simp [Value.cells] at hcs
      obtain ⟨rfl, rfl, rfl⟩ := hcs
      exact ⟨[], .inl ⟨rfl, rfl, rfl, rfl⟩⟩
    · simp [Value.cells] at hcs
      obtain ⟨rfl, rfl, rfl⟩ := hcs
      exact ⟨zs, .inr ⟨_, rfl, hl, hm, by simpa using hz, hcell, hwz⟩⟩
  clear hA0 hval0
  refine (walk a0 len0 cap0 z0 a1 len1 cap1 z1 W w0 w1).mono fun e W' ⟨he, bel⟩ => ?_
  subst he
  exact ⟨_, rfl, _, _, _, [], _, [], hW', trodAll_mk1 (shut_bool Try.underlying4 _), (trodAll_cons_mk (Below.trod laidOut (by kernel_rfl) (of_decide_eq_true (by kernel_rfl)) k0 bel lt0) (trodAll_cons_mk (Below.trod laidOut (by kernel_rfl) (of_decide_eq_true (by kernel_rfl)) k1 bel lt1) trodAll_mk0)), rfl, bel.frame _, fun h => by cases h⟩

theorem closedFacts : joinedFacts Try.prog 4 Try.f4 Rows.fnSettledShapesSpec Rows.fnSettledShapesRow = true := by
  unfold joinedFacts
  rw [head_enter, head_lifts, head_make]
  kernel_rfl
theorem closedHere : joinedFacts Try.pinned.checked.prog 4 Try.f4 Rows.fnSettledShapesSpec Rows.fnSettledShapesRow = true := by
  rw [progEq]
  exact closedFacts
theorem over : Rows.fnSettledShapesRow.holds Try.pinned (OpenSpec.ofChange Rows.fnSettledShapesSpec) :=
  OpenClaim.holds_of_wide 4 Try.f4 rfl rfl rfl rfl rfl rfl rfl ⟨rfl, rfl, rfl, rfl, rfl⟩ rfl rfl rfl rfl rfl (by kernel_rfl) Try.func4 closedHere
    (of_decide_eq_true (by kernel_rfl)) (by unfold Func.isWrapper; first | (rw [if_pos (by decide +kernel)]; kernel_rfl) | (rw [if_neg (by decide +kernel)]; exact ⟨rfl, rfl⟩))
    (fun os started H enc _ => lifted os started H enc)

/-- ████ THE STATEMENT ████ -/
theorem proved : Rows.FnSettledShapesSaid := over
#print axioms proved
end Go.Proofs.Ythhhgmkjjagmaaa.fnSettledShapes
