/- FnFallsEndAlike: for every input the law returns true and leaves its arguments as they were. No condition. -/
import Derived.Test.YthhhgmkjjagmaaaRows
import Derived.WalkKit
import Derived.ProofKit
import Derived.OpenShut
import Derived.ShutString
import Derived.ChangeOld
import Derived.Below
import Derived.Test.YthhhgmkjjagmaaaHead
import Derived.Test.YthhhgmkjjagmaaaLawp
import Derived.Test.YthhhgmkjjagmaaaLawq
import Derived.Test.YthhhgmkjjagmaaaSaQ
import Derived.Test.YthhhgmkjjagmaaaSaN
import Derived.Test.YthhhgmkjjagmaaaSaL
import Derived.Test.YthhhgmkjjagmaaaSaB
namespace Go.Proofs.Ythhhgmkjjagmaaa.fnFallsEndAlike
set_option linter.unusedSimpArgs false
open Go.ChangeShapes Go.WideShapes Go.ChangeAt Go.RowKit
open Go.ChangeMaps (open_string shut_string)
set_option linter.unusedVariables false

theorem own : ownKnob Try.prog.godebug = none := by kernel_rfl
theorem laidOut : laidOutB Try.prog = true := by kernel_rfl

/-- WHAT THE WALK IS TOLD OF A SLICE OF INTEGERS THAT CAME IN: it is nil; or it leads to a row of 'cap' cells, the numbers 'zs' (the first 'len' are its elements, the rest its spare room), each fitting its kind. -/
def IsRow (k : IntKind) (w : World) (a : Option Addr) (len cap : Nat) (zs : List Int) : Prop :=
  (a = none ∧ len = 0 ∧ cap = 0 ∧ zs = []) ∨
  ∃ x, a = some x ∧ len ≤ cap ∧ cap ≤ maxLen ∧ zs.length = cap ∧ (∀ i, i < zs.length → w.cell? (x.add i) = some (.int k (zs.getD i 0))) ∧ ∀ n ∈ zs, (Lit.int k n).wf = true

/-! ### THE WALK: the Go text returns true, AND WRITES NOTHING THAT WAS THERE: 'Below w.heap.size w w'' (Derived/Below.lean: '.refl', '.alloc', '.drew', '.setCell' at a new block, '.trans'). Open each 'IsRow' by 'rcases' AHEAD of 'go_enter'; part every test ahead of the walk. -/
set_option maxHeartbeats 4000000 in
set_option maxRecDepth 100000 in
theorem walk (a0 : Option Addr) (len0 cap0 : Nat) (z0 : List Int) (a1 : Option Addr) (len1 cap1 : Nat) (z1 : List Int) (w : World) (w0 : IsRow .u8 w a0 len0 cap0 z0) (w1 : IsRow .u8 w a1 len1 cap1 z1) :
    Calls Try.prog 3 #[.slice a0 len0 cap0, .slice a1 len1 cap1] w fun e w' => e = .returned (.bool true) ∧ Below w.heap.size w w' := by
  have by0 := byteIn_row w0
  have by1 := byteIn_row w1
  have hl0 : len0 ≤ maxLen := by
    rcases w0 with ⟨_, h, _⟩ | ⟨x, _, h, h', _⟩
    · rw [h]; exact Nat.zero_le _
    · exact Nat.le_trans h h'
  clear w0 w1
  by_cases hbig : 1048576 < len0 ∨ (1048576 : Int) - len0 < len1
  · have hb := big_yes a0 a1 len0 len1 cap0 cap1 w hbig hl0
    have Hb := Lib.hid hb; clear hb
    go_enter Try.func3, Try.ntmps3
    go_wp2_with fail
    with_reducible refine (Hb.out).mono ?_
    rintro e w' ⟨rfl, rfl⟩
    go_wp2
    go_ret
    exact ⟨rfl, Below.refl _ _⟩
  have hb := big_no a0 a1 len0 len1 cap0 cap1 w (by omega) (by omega)
  have hd := DrawPlayFalls_any a0 len0 cap0 w (by omega) by0
  have hf := fun W (h : Below w.heap.size w W) => DrawSettleSand_any a1 len1 cap1 W (by omega) (by1.up (Nat.le_refl _) h h.size)
  have Hb := Lib.hid hb; clear hb
  have Hd := Lib.hid hd; clear hd
  have Hf := Lib.hid hf; clear hf
  clear by0 by1 hl0 hbig
  have acc : Below w.heap.size w w := Below.refl _ _
  go_enter Try.func3, Try.ntmps3
  go_wp2_with fail
  with_reducible refine (Hb.out).mono ?_
  rintro e w' ⟨rfl, rfl⟩
  clear Hb
  go_wp2_with fail
  with_reducible refine (Hd.out).mono ?_
  rintro e v1 ⟨pa, na, ca, xs, pf, nf, cf, fs, rfl, hoa, hnear, hof, hnf, hb1⟩
  replace acc := belowTrans acc hb1 (Nat.le_refl _)
  clear hb1
  clear Hd hnear
  have hi := fun W h h' => impl_PlayFalls pa na ca xs pf nf cf fs W h h'
  have hs := fun W h h' => spec_PlayFalls pa na ca xs pf nf cf fs W h h'
  rcases play_law xs fs with hm | ⟨ys, hm, hbx, hby, hset, hcnt, hsum⟩
  · simp only [hm] at hi hs
    clear hm
    have Hi := Lib.hid hi; clear hi
    have Hs := Lib.hid hs; clear hs
    go_wp2_with fail
    with_reducible refine (Hi.out _ hoa.at hof.at).mono ?_
    rintro e v2 ⟨pi, ni, ci, rfl, hoi, hb2⟩
    replace hoa := hoa.keep hb2
    replace hof := hof.keep hb2
    replace acc := belowTrans acc hb2 (Nat.le_refl _)
    clear hb2
    go_wp2_with fail
    with_reducible refine (Hs.out _ hoa.at hof.at).mono ?_
    rintro e v3 ⟨ps, ns, cs, rfl, hos, hb3⟩
    replace hoa := hoa.keep hb3
    replace hof := hof.keep hb3
    replace hoi := hoi.keep hb3
    replace acc := belowTrans acc hb3 (Nat.le_refl _)
    clear hb3
    have hc := pSame_any _ _ _ _ _ _ _ _ _ hoi.at hos.at
    rw [decide_eq_true rfl] at hc
    have Hc := Lib.hid hc; clear hc
    go_wp2_with fail
    with_reducible refine (Hc.out).mono ?_
    rintro e v4 ⟨rfl, hb4⟩
    replace hoa := hoa.keep hb4
    replace hof := hof.keep hb4
    replace hoi := hoi.keep hb4
    replace hos := hos.keep hb4
    replace acc := belowTrans acc hb4 (Nat.le_refl _)
    clear hb4
    clear Hc
    clear hos
    clear Hi Hs
    clear hoi
    clear hoa
    clear hof
    go_wp2_with fail
    with_reducible refine (Hf.out _ acc).mono ?_
    rintro e v5 ⟨pc, nc, cc, cs_, rfl, hoc, hnear, hb5⟩
    replace acc := belowTrans acc hb5 (Nat.le_refl _)
    clear hb5
    clear Hf hnear
    have hg := fun W h => impl_SettleSand pc nc cc cs_ W h
    have hg2 := fun W h => spec_SettleSand pc nc cc cs_ W h
    have hk := fun W h => impl_FallCounts pc nc cc cs_ W h
    have hk2 := fun W h => spec_FallCounts pc nc cc cs_ W h
    cases hb : sandB cs_
    · skip
      simp only [mSettle_no hb] at hg hg2
      simp only [mCounts_no hb] at hk hk2
      clear hb
      have Hg := Lib.hid hg; clear hg
      have Hg2 := Lib.hid hg2; clear hg2
      have Hk := Lib.hid hk; clear hk
      have Hk2 := Lib.hid hk2; clear hk2
      go_wp2_with fail
      with_reducible refine (Hg.out _ hoc.at).mono ?_
      rintro e v6 ⟨pg, ng, cg, rfl, hog, hb6⟩
      replace hoc := hoc.keep hb6
      replace acc := belowTrans acc hb6 (Nat.le_refl _)
      clear hb6
      go_wp2_with fail
      with_reducible refine (Hg2.out _ hoc.at).mono ?_
      rintro e v7 ⟨ph, nh, ch, rfl, hoh, hb7⟩
      replace hoc := hoc.keep hb7
      replace hog := hog.keep hb7
      replace acc := belowTrans acc hb7 (Nat.le_refl _)
      clear hb7
      go_wp2_with fail
      with_reducible refine (Hk.out _ hoc.at).mono ?_
      rintro e v8 ⟨pk, nk, ck, rfl, hok, hb8⟩
      replace hoc := hoc.keep hb8
      replace hog := hog.keep hb8
      replace hoh := hoh.keep hb8
      replace acc := belowTrans acc hb8 (Nat.le_refl _)
      clear hb8
      go_wp2_with fail
      with_reducible refine (Hk2.out _ hoc.at).mono ?_
      rintro e v9 ⟨pl, nl, cl, rfl, hol, hb9⟩
      replace hoc := hoc.keep hb9
      replace hog := hog.keep hb9
      replace hoh := hoh.keep hb9
      replace hok := hok.keep hb9
      replace acc := belowTrans acc hb9 (Nat.le_refl _)
      clear hb9
      have hc := pSame_any _ _ _ _ _ _ _ _ _ hog.at hoh.at
      rw [decide_eq_true rfl] at hc
      have Hc := Lib.hid hc; clear hc
      go_wp2_with fail
      with_reducible refine (Hc.out).mono ?_
      rintro e v10 ⟨rfl, hb10⟩
      replace hoc := hoc.keep hb10
      replace hog := hog.keep hb10
      replace hoh := hoh.keep hb10
      replace hok := hok.keep hb10
      replace hol := hol.keep hb10
      replace acc := belowTrans acc hb10 (Nat.le_refl _)
      clear hb10
      clear Hc
      clear hoh
      have hc := pSame_any _ _ _ _ _ _ _ _ _ hok.at hol.at
      rw [decide_eq_true rfl] at hc
      have Hc := Lib.hid hc; clear hc
      go_wp2_with fail
      with_reducible refine (Hc.out).mono ?_
      rintro e v11 ⟨rfl, hb11⟩
      replace hoc := hoc.keep hb11
      replace hog := hog.keep hb11
      replace hok := hok.keep hb11
      replace hol := hol.keep hb11
      replace acc := belowTrans acc hb11 (Nat.le_refl _)
      clear hb11
      clear Hc
      clear hol
      clear Hg Hg2 Hk Hk2
      clear hog
      clear hok
      clear hoc
      go_wp2
      go_ret
      exact ⟨rfl, acc⟩
    simp only [mCounts_yes hb] at hk hk2
    rcases settle_law hb with hms | ⟨z, hms, gZ, hfz, hwz, hsz⟩
    · simp only [hms] at hg hg2
      clear hms hb
      generalize countsL cs_ = cnts at hk hk2
      have Hg := Lib.hid hg; clear hg
      have Hg2 := Lib.hid hg2; clear hg2
      have Hk := Lib.hid hk; clear hk
      have Hk2 := Lib.hid hk2; clear hk2
      go_wp2_with fail
      with_reducible refine (Hg.out _ hoc.at).mono ?_
      rintro e v6 ⟨pg, ng, cg, rfl, hog, hb6⟩
      replace hoc := hoc.keep hb6
      replace acc := belowTrans acc hb6 (Nat.le_refl _)
      clear hb6
      go_wp2_with fail
      with_reducible refine (Hg2.out _ hoc.at).mono ?_
      rintro e v7 ⟨ph, nh, ch, rfl, hoh, hb7⟩
      replace hoc := hoc.keep hb7
      replace hog := hog.keep hb7
      replace acc := belowTrans acc hb7 (Nat.le_refl _)
      clear hb7
      go_wp2_with fail
      with_reducible refine (Hk.out _ hoc.at).mono ?_
      rintro e v8 ⟨pk, nk, ck, rfl, hok, hb8⟩
      replace hoc := hoc.keep hb8
      replace hog := hog.keep hb8
      replace hoh := hoh.keep hb8
      replace acc := belowTrans acc hb8 (Nat.le_refl _)
      clear hb8
      go_wp2_with fail
      with_reducible refine (Hk2.out _ hoc.at).mono ?_
      rintro e v9 ⟨pl, nl, cl, rfl, hol, hb9⟩
      replace hoc := hoc.keep hb9
      replace hog := hog.keep hb9
      replace hoh := hoh.keep hb9
      replace hok := hok.keep hb9
      replace acc := belowTrans acc hb9 (Nat.le_refl _)
      clear hb9
      have hc := pSame_any _ _ _ _ _ _ _ _ _ hog.at hoh.at
      rw [decide_eq_true rfl] at hc
      have Hc := Lib.hid hc; clear hc
      go_wp2_with fail
      with_reducible refine (Hc.out).mono ?_
      rintro e v10 ⟨rfl, hb10⟩
      replace hoc := hoc.keep hb10
      replace hog := hog.keep hb10
      replace hoh := hoh.keep hb10
      replace hok := hok.keep hb10
      replace hol := hol.keep hb10
      replace acc := belowTrans acc hb10 (Nat.le_refl _)
      clear hb10
      clear Hc
      clear hoh
      have hc := pSame_any _ _ _ _ _ _ _ _ _ hok.at hol.at
      rw [decide_eq_true rfl] at hc
      have Hc := Lib.hid hc; clear hc
      go_wp2_with fail
      with_reducible refine (Hc.out).mono ?_
      rintro e v11 ⟨rfl, hb11⟩
      replace hoc := hoc.keep hb11
      replace hog := hog.keep hb11
      replace hok := hok.keep hb11
      replace hol := hol.keep hb11
      replace acc := belowTrans acc hb11 (Nat.le_refl _)
      clear hb11
      clear Hc
      clear hol
      clear Hg Hg2 Hk Hk2
      clear hog
      clear hok
      clear hoc
      go_wp2
      go_ret
      exact ⟨rfl, acc⟩
    · simp only [hms] at hg hg2
      have hz := fun a n c W h => impl_IsSettled a n c z W h
      simp only [mIsSettled_yes (sand_iff.2 gZ), hfz, decide_true] at hz
      have hwa := fun W h => impl_WeightOf pc nc cc cs_ W h
      simp only [mWeight_yes hb] at hwa
      have hwb := fun a n c W h => impl_WeightOf a n c z W h
      simp only [mWeight_yes (sand_iff.2 gZ)] at hwb
      have hsa := fun W h => pSum_any pc nc cc cs_ W h (sand_iff.1 hb).good
      have hsb := fun a n c W h => pSum_any a n c z W h gZ.good
      rw [hsz] at hsb
      obtain ⟨hcb, hcl⟩ := counts_bd hb
      have hsc := fun a n c W h (hn : n ≤ 1000) => pSumN_any a n c (countsL cs_) W h (fun x hx => by have := hcb x hx; omega) hn
      have hwt := sand_wt (sand_iff.1 hb)
      have hwt2 := sand_wt gZ
      rw [← hwz] at hsc
      clear hms hb hfz hsz hcb hwz gZ
      generalize countsL cs_ = cnts at hk hk2 hsc hcl
      generalize wt 0 cs_ = T at hwa hwt hsc
      generalize wt 0 z = T2 at hwb hwt2 hsc
      generalize cs_.sum = S at hsa hsb
      have hTT : ((T2 - T) != (T2 - T)) = false := by simp
      have hSS : (S != S) = false := by simp
      have Hg := Lib.hid hg; clear hg
      have Hg2 := Lib.hid hg2; clear hg2
      have Hk := Lib.hid hk; clear hk
      have Hk2 := Lib.hid hk2; clear hk2
      have Hz := Lib.hid hz; clear hz
      have Hwa := Lib.hid hwa; clear hwa
      have Hwb := Lib.hid hwb; clear hwb
      have Hsa := Lib.hid hsa; clear hsa
      have Hsb := Lib.hid hsb; clear hsb
      have Hsc := Lib.hid hsc; clear hsc
      have Hcl := Lib.hid hcl; clear hcl
      go_wp2_with fail
      with_reducible refine (Hg.out _ hoc.at).mono ?_
      rintro e v6 ⟨pg, ng, cg, rfl, hog, hb6⟩
      replace hoc := hoc.keep hb6
      replace acc := belowTrans acc hb6 (Nat.le_refl _)
      clear hb6
      go_wp2_with fail
      with_reducible refine (Hg2.out _ hoc.at).mono ?_
      rintro e v7 ⟨ph, nh, ch, rfl, hoh, hb7⟩
      replace hoc := hoc.keep hb7
      replace hog := hog.keep hb7
      replace acc := belowTrans acc hb7 (Nat.le_refl _)
      clear hb7
      go_wp2_with fail
      with_reducible refine (Hk.out _ hoc.at).mono ?_
      rintro e v8 ⟨pk, nk, ck, rfl, hok, hb8⟩
      replace hoc := hoc.keep hb8
      replace hog := hog.keep hb8
      replace hoh := hoh.keep hb8
      replace acc := belowTrans acc hb8 (Nat.le_refl _)
      clear hb8
      go_wp2_with fail
      with_reducible refine (Hk2.out _ hoc.at).mono ?_
      rintro e v9 ⟨pl, nl, cl, rfl, hol, hb9⟩
      replace hoc := hoc.keep hb9
      replace hog := hog.keep hb9
      replace hoh := hoh.keep hb9
      replace hok := hok.keep hb9
      replace acc := belowTrans acc hb9 (Nat.le_refl _)
      clear hb9
      have hc := pSame_any _ _ _ _ _ _ _ _ _ hog.at hoh.at
      rw [decide_eq_true rfl] at hc
      have Hc := Lib.hid hc; clear hc
      go_wp2_with fail
      with_reducible refine (Hc.out).mono ?_
      rintro e v10 ⟨rfl, hb10⟩
      replace hoc := hoc.keep hb10
      replace hog := hog.keep hb10
      replace hoh := hoh.keep hb10
      replace hok := hok.keep hb10
      replace hol := hol.keep hb10
      replace acc := belowTrans acc hb10 (Nat.le_refl _)
      clear hb10
      clear Hc
      clear hoh
      have hc := pSame_any _ _ _ _ _ _ _ _ _ hok.at hol.at
      rw [decide_eq_true rfl] at hc
      have Hc := Lib.hid hc; clear hc
      go_wp2_with fail
      with_reducible refine (Hc.out).mono ?_
      rintro e v11 ⟨rfl, hb11⟩
      replace hoc := hoc.keep hb11
      replace hog := hog.keep hb11
      replace hok := hok.keep hb11
      replace hol := hol.keep hb11
      replace acc := belowTrans acc hb11 (Nat.le_refl _)
      clear hb11
      clear Hc
      clear hol
      clear Hg Hg2 Hk Hk2
      have hlk := hok.length
      have hnk : nk ≤ 1000 := by have := Hcl.out; omega
      clear hlk
      go_wp2_with fail
      with_reducible refine (Hz.out _ _ _ _ hog.at).mono ?_
      rintro e v12 ⟨rfl, hb12⟩
      replace hoc := hoc.keep hb12
      replace hog := hog.keep hb12
      replace hok := hok.keep hb12
      replace acc := belowTrans acc hb12 (Nat.le_refl _)
      clear hb12
      go_wp2_with fail
      with_reducible refine (Hwa.out _ hoc.at).mono ?_
      rintro e v13 ⟨rfl, hb13⟩
      replace hoc := hoc.keep hb13
      replace hog := hog.keep hb13
      replace hok := hok.keep hb13
      replace acc := belowTrans acc hb13 (Nat.le_refl _)
      clear hb13
      go_wp2_with fail
      with_reducible refine (Hwb.out _ _ _ _ hog.at).mono ?_
      rintro e v14 ⟨rfl, hb14⟩
      replace hoc := hoc.keep hb14
      replace hog := hog.keep hb14
      replace hok := hok.keep hb14
      replace acc := belowTrans acc hb14 (Nat.le_refl _)
      clear hb14
      go_wp2_with fail
      with_reducible refine (Hsc.out _ _ _ _ hok.at hnk).mono ?_
      rintro e w' ⟨rfl, rfl⟩
      go_wp2_with fail
      with_reducible refine (Hsb.out _ _ _ _ hog.at).mono ?_
      rintro e w' ⟨rfl, rfl⟩
      go_wp2_with fail
      with_reducible refine (Hsa.out _ hoc.at).mono ?_
      rintro e w' ⟨rfl, rfl⟩
      clear Hz Hwa Hwb Hsc Hsb Hsa Hcl hwt hwt2 hTT hSS
      clear hog
      clear hok
      clear hoc
      go_wp2
      go_ret
      exact ⟨rfl, acc⟩
  · simp only [hm] at hi hs
    have ha1 := fun W h => impl_FallCounts pa na ca xs W h
    simp only [mCounts_yes hbx] at ha1
    have ha2 := fun a n c W h => impl_FallCounts a n c ys W h
    simp only [mCounts_yes hby] at ha2
    have ha3 := fun W h => impl_SettleSand pa na ca xs W h
    have ha4 := fun a n c W h => impl_SettleSand a n c ys W h
    rw [hset] at ha4
    obtain ⟨hb1, hl1⟩ := counts_bd hbx
    obtain ⟨hb2, hl2⟩ := counts_bd hby
    have hsm1 := fun a n c W h (hn : n ≤ 1000) => pSumN_any a n c (countsL xs) W h (fun x hx => by have := hb1 x hx; omega) hn
    have hsm2 := fun a n c W h (hn : n ≤ 1000) => pSumN_any a n c (countsL ys) W h (fun x hx => by have := hb2 x hx; omega) hn
    rw [hsum] at hsm1
    obtain ⟨hS0, hS1⟩ := counts_sum_bd hby
    have hlf := hof.length
    rw [hlf] at hsm1
    clear hm hbx hby hset hsum
    generalize (mSettleSand xs).1 = R at ha3 ha4
    generalize (mSettleSand xs).2 = t at ha3 ha4
    have htt : (t != t) = false := by simp
    generalize (countsL ys).sum = SY at hsm1 hsm2 hS0 hS1
    generalize countsL xs = CX at ha1 hcnt hb1 hl1 hsm1
    generalize countsL ys = CY at ha2 hcnt hb2 hl2 hsm2
    have Ha1 := Lib.hid ha1; clear ha1
    have Ha2 := Lib.hid ha2; clear ha2
    have Ha3 := Lib.hid ha3; clear ha3
    have Ha4 := Lib.hid ha4; clear ha4
    have Hcnt := Lib.hid hcnt; clear hcnt
    have Hb1 := Lib.hid hb1; clear hb1
    have Hb2 := Lib.hid hb2; clear hb2
    have Hl1 := Lib.hid hl1; clear hl1
    have Hl2 := Lib.hid hl2; clear hl2
    have Hsm1 := Lib.hid hsm1; clear hsm1
    have Hsm2 := Lib.hid hsm2; clear hsm2
    have Hlf := Lib.hid hlf; clear hlf
    have Hi := Lib.hid hi; clear hi
    have Hs := Lib.hid hs; clear hs
    go_wp2_with fail
    with_reducible refine (Hi.out _ hoa.at hof.at).mono ?_
    rintro e v2 ⟨pi, ni, ci, rfl, hoi, hb2⟩
    replace hoa := hoa.keep hb2
    replace hof := hof.keep hb2
    replace acc := belowTrans acc hb2 (Nat.le_refl _)
    clear hb2
    go_wp2_with fail
    with_reducible refine (Hs.out _ hoa.at hof.at).mono ?_
    rintro e v3 ⟨ps, ns, cs, rfl, hos, hb3⟩
    replace hoa := hoa.keep hb3
    replace hof := hof.keep hb3
    replace hoi := hoi.keep hb3
    replace acc := belowTrans acc hb3 (Nat.le_refl _)
    clear hb3
    have hc := pSame_any _ _ _ _ _ _ _ _ _ hoi.at hos.at
    rw [decide_eq_true rfl] at hc
    have Hc := Lib.hid hc; clear hc
    go_wp2_with fail
    with_reducible refine (Hc.out).mono ?_
    rintro e v4 ⟨rfl, hb4⟩
    replace hoa := hoa.keep hb4
    replace hof := hof.keep hb4
    replace hoi := hoi.keep hb4
    replace hos := hos.keep hb4
    replace acc := belowTrans acc hb4 (Nat.le_refl _)
    clear hb4
    clear Hc
    clear hos
    clear Hi Hs
    go_wp2_with fail
    with_reducible refine (Hf.out _ acc).mono ?_
    rintro e v5 ⟨pc, nc, cc, cs_, rfl, hoc, hnear, hb5⟩
    replace hoa := hoa.keep hb5
    replace hof := hof.keep hb5
    replace hoi := hoi.keep hb5
    replace acc := belowTrans acc hb5 (Nat.le_refl _)
    clear hb5
    clear Hf hnear
    have hg := fun W h => impl_SettleSand pc nc cc cs_ W h
    have hg2 := fun W h => spec_SettleSand pc nc cc cs_ W h
    have hk := fun W h => impl_FallCounts pc nc cc cs_ W h
    have hk2 := fun W h => spec_FallCounts pc nc cc cs_ W h
    cases hb : sandB cs_
    · skip
      simp only [mSettle_no hb] at hg hg2
      simp only [mCounts_no hb] at hk hk2
      clear hb
      have Hg := Lib.hid hg; clear hg
      have Hg2 := Lib.hid hg2; clear hg2
      have Hk := Lib.hid hk; clear hk
      have Hk2 := Lib.hid hk2; clear hk2
      go_wp2_with fail
      with_reducible refine (Hg.out _ hoc.at).mono ?_
      rintro e v6 ⟨pg, ng, cg, rfl, hog, hb6⟩
      replace hoa := hoa.keep hb6
      replace hof := hof.keep hb6
      replace hoi := hoi.keep hb6
      replace hoc := hoc.keep hb6
      replace acc := belowTrans acc hb6 (Nat.le_refl _)
      clear hb6
      go_wp2_with fail
      with_reducible refine (Hg2.out _ hoc.at).mono ?_
      rintro e v7 ⟨ph, nh, ch, rfl, hoh, hb7⟩
      replace hoa := hoa.keep hb7
      replace hof := hof.keep hb7
      replace hoi := hoi.keep hb7
      replace hoc := hoc.keep hb7
      replace hog := hog.keep hb7
      replace acc := belowTrans acc hb7 (Nat.le_refl _)
      clear hb7
      go_wp2_with fail
      with_reducible refine (Hk.out _ hoc.at).mono ?_
      rintro e v8 ⟨pk, nk, ck, rfl, hok, hb8⟩
      replace hoa := hoa.keep hb8
      replace hof := hof.keep hb8
      replace hoi := hoi.keep hb8
      replace hoc := hoc.keep hb8
      replace hog := hog.keep hb8
      replace hoh := hoh.keep hb8
      replace acc := belowTrans acc hb8 (Nat.le_refl _)
      clear hb8
      go_wp2_with fail
      with_reducible refine (Hk2.out _ hoc.at).mono ?_
      rintro e v9 ⟨pl, nl, cl, rfl, hol, hb9⟩
      replace hoa := hoa.keep hb9
      replace hof := hof.keep hb9
      replace hoi := hoi.keep hb9
      replace hoc := hoc.keep hb9
      replace hog := hog.keep hb9
      replace hoh := hoh.keep hb9
      replace hok := hok.keep hb9
      replace acc := belowTrans acc hb9 (Nat.le_refl _)
      clear hb9
      have hc := pSame_any _ _ _ _ _ _ _ _ _ hog.at hoh.at
      rw [decide_eq_true rfl] at hc
      have Hc := Lib.hid hc; clear hc
      go_wp2_with fail
      with_reducible refine (Hc.out).mono ?_
      rintro e v10 ⟨rfl, hb10⟩
      replace hoa := hoa.keep hb10
      replace hof := hof.keep hb10
      replace hoi := hoi.keep hb10
      replace hoc := hoc.keep hb10
      replace hog := hog.keep hb10
      replace hoh := hoh.keep hb10
      replace hok := hok.keep hb10
      replace hol := hol.keep hb10
      replace acc := belowTrans acc hb10 (Nat.le_refl _)
      clear hb10
      clear Hc
      clear hoh
      have hc := pSame_any _ _ _ _ _ _ _ _ _ hok.at hol.at
      rw [decide_eq_true rfl] at hc
      have Hc := Lib.hid hc; clear hc
      go_wp2_with fail
      with_reducible refine (Hc.out).mono ?_
      rintro e v11 ⟨rfl, hb11⟩
      replace hoa := hoa.keep hb11
      replace hof := hof.keep hb11
      replace hoi := hoi.keep hb11
      replace hoc := hoc.keep hb11
      replace hog := hog.keep hb11
      replace hok := hok.keep hb11
      replace hol := hol.keep hb11
      replace acc := belowTrans acc hb11 (Nat.le_refl _)
      clear hb11
      clear Hc
      clear hol
      clear Hg Hg2 Hk Hk2
      clear hog
      clear hok
      clear hoc
      go_wp2_with fail
      with_reducible refine (Ha1.out _ hoa.at).mono ?_
      rintro e v12 ⟨p1, n1, c1, rfl, ho1, hb12⟩
      replace hoa := hoa.keep hb12
      replace hof := hof.keep hb12
      replace hoi := hoi.keep hb12
      replace acc := belowTrans acc hb12 (Nat.le_refl _)
      clear hb12
      go_wp2_with fail
      with_reducible refine (Ha2.out _ _ _ _ hoi.at).mono ?_
      rintro e v13 ⟨p2, n2, c2, rfl, ho2, hb13⟩
      replace hoa := hoa.keep hb13
      replace hof := hof.keep hb13
      replace hoi := hoi.keep hb13
      replace ho1 := ho1.keep hb13
      replace acc := belowTrans acc hb13 (Nat.le_refl _)
      clear hb13
      go_wp2_with fail
      with_reducible refine (Ha3.out _ hoa.at).mono ?_
      rintro e v14 ⟨p3, n3, c3, rfl, ho3, hb14⟩
      replace hoa := hoa.keep hb14
      replace hof := hof.keep hb14
      replace hoi := hoi.keep hb14
      replace ho1 := ho1.keep hb14
      replace ho2 := ho2.keep hb14
      replace acc := belowTrans acc hb14 (Nat.le_refl _)
      clear hb14
      go_wp2_with fail
      with_reducible refine (Ha4.out _ _ _ _ hoi.at).mono ?_
      rintro e v15 ⟨p4, n4, c4, rfl, ho4, hb15⟩
      replace hoa := hoa.keep hb15
      replace hof := hof.keep hb15
      replace hoi := hoi.keep hb15
      replace ho1 := ho1.keep hb15
      replace ho2 := ho2.keep hb15
      replace ho3 := ho3.keep hb15
      replace acc := belowTrans acc hb15 (Nat.le_refl _)
      clear hb15
      have hc := pSame_any _ _ _ _ _ _ _ _ _ ho3.at ho4.at
      rw [decide_eq_true rfl] at hc
      have Hc := Lib.hid hc; clear hc
      go_wp2_with fail
      with_reducible refine (Hc.out).mono ?_
      rintro e v16 ⟨rfl, hb16⟩
      replace hoa := hoa.keep hb16
      replace hof := hof.keep hb16
      replace hoi := hoi.keep hb16
      replace ho1 := ho1.keep hb16
      replace ho2 := ho2.keep hb16
      replace ho3 := ho3.keep hb16
      replace ho4 := ho4.keep hb16
      replace acc := belowTrans acc hb16 (Nat.le_refl _)
      clear hb16
      clear Hc
      clear ho3
      clear ho4
      clear hoa
      clear hoi
      clear Ha1 Ha2 Ha3 Ha4
      have e1 := ho1.length
      have e2 := ho2.length
      have hn1 : n1 ≤ 24 := by have := Hl1.out; omega
      have hn2 : n2 ≤ 24 := by have := Hl2.out; omega
      have HE1 := Lib.hid e1; clear e1
      have HE2 := Lib.hid e2; clear e2
      have hn18 : (n1 : Int) ≤ 24 := by omega
      have hn28 : (n2 : Int) ≤ 24 := by omega
      have hnf8 : (nf : Int) ≤ 301 := by omega
      obtain ⟨wo, hwo⟩ : ∃ wo : World, wo = v16 := ⟨_, rfl⟩
      subst hwo
      go_wp2_with fail
      go_loopw [200] (fun i wr => ∃ j : Nat, j ≤ n1 ∧ i = .int .i64 j ∧ Below w.heap.size w wr ∧ Below wo.heap.size wo wr) (fun i _ => n1 - (intOf i).toNat)
      case atStart => exact ⟨0, Nat.zero_le _, rfl, acc, Below.refl _ _⟩
      case round =>
        obtain ⟨j, hj, rfl, hbw, hbo⟩ := hrel
        by_cases hlt : j < n1
        · skip
          replace hof := hof.keep hbo
          replace ho1 := ho1.keep hbo
          replace ho2 := ho2.keep hbo
          obtain ⟨b1, o1, rfl, hbl1, hc1⟩ := ho1.at.cell j hlt
          have hck1 := hc1 j hlt
          have hcj := Hcnt.out j
          have hbj := Hb1.out _ (mem_of_getD (xs := CX) (i := j) (by rw [HE1.out]; exact hlt))
          generalize CX.getD j 0 = NJ at hck1 hcj hbj
          clear hc1 hbl1
          obtain ⟨wi, hwi⟩ : ∃ wi : World, wi = wr := ⟨_, rfl⟩
          subst hwi
          have hj24 : (j : Int) < 24 := by omega
          have Hcj := Lib.hid hcj; clear hcj
          go_wp2_with fail
          go_loopw [36, 207] (fun mv i wr => ∃ q : Nat, q ≤ nf ∧ i = .int .i64 q ∧ mv = .int .i64 (((fs.take q).count (j : Int) : Nat) : Int) ∧ wr = wi) (fun _ i _ => nf - (intOf i).toNat)
          case atStart => exact ⟨0, Nat.zero_le _, rfl, by simp, rfl⟩
          case round =>
            obtain ⟨q, hq, rfl, rfl, rfl⟩ := hrel
            clear hck1
            by_cases hqf : q < nf
            · obtain ⟨b2, o2, rfl, hbl2, hc2⟩ := hof.at.cell q hqf
              have hck2 := hc2 q hqf
              have hsn := take_snoc (xs := fs) (k := q) rfl hqf Hlf.out
              clear hc2 hbl2
              generalize fs.getD q 0 = X at hck2 hsn
              have hcl2 : (fs.take q).count (j : Int) ≤ q := Nat.le_trans List.count_le_length (by rw [List.length_take]; omega)
              by_cases hX : X = (j : Int)
              · subst hX
                have hcs : (fs.take (q + 1)).count (j : Int) = (fs.take q).count (j : Int) + 1 := by rw [hsn, List.count_append, List.count_singleton]; simp
                have hxx : ((j : Int) == (j : Int)) = true := by simp
                generalize (fs.take q).count (j : Int) = CQ at hcs hcl2
                have Hsn := Lib.hid hsn; clear hsn
                have Hcs := Lib.hid hcs; clear hcs
                have hCQ : (CQ : Int) ≤ 301 := by omega
                go_wp2
                go_roundw
                case rel => exact ⟨q + 1, by omega, by go_num, by rw [Hcs.out]; go_num, by first | rfl | trivial⟩
                case measure => simp [intOf] <;> omega
              · have hcs : (fs.take (q + 1)).count (j : Int) = (fs.take q).count (j : Int) := by rw [hsn, List.count_append, List.count_singleton]; simp [hX]
                have hxx : (X == (j : Int)) = false := by simpa using hX
                have hdd : decide (X = (j : Int)) = false := decide_eq_false hX
                generalize (fs.take q).count (j : Int) = CQ at hcs hcl2
                have Hsn := Lib.hid hsn; clear hsn
                have Hcs := Lib.hid hcs; clear hcs
                go_wp2
                go_roundw
                case rel => exact ⟨q + 1, by omega, by go_num, by rw [Hcs.out], by first | rfl | trivial⟩
                case measure => simp [intOf] <;> omega
            · obtain rfl : q = nf := by omega
              have hcj := Hcj.out
              rw [List.take_of_length_le (by rw [Hlf.out]; exact Nat.le_refl _)]
              have hcl2 : fs.count (j : Int) ≤ q := Nat.le_trans List.count_le_length (by rw [Hlf.out]; exact Nat.le_refl _)
              generalize fs.count (j : Int) = CQ at hcj hcl2
              have hCQ : (CQ : Int) ≤ 301 := by omega
              by_cases hj2 : j < n2
              · obtain ⟨b2, o2, rfl, hbl2, hc2⟩ := ho2.at.cell j hj2
                have hck2 := hc2 j hj2
                have hbj2 := Hb2.out _ (mem_of_getD (xs := CY) (i := j) (by rw [HE2.out]; exact hj2))
                clear hc2 hbl2
                generalize CY.getD j 0 = X at hck2 hcj hbj2
                subst hcj
                have hj28 : (j : Int) < (n2 : Int) := by omega
                have hne : (((CQ : Int) + X) != ((CQ : Int) + X)) = false := by simp
                go_wp2
                go_roundw
                case rel => exact ⟨j + 1, by omega, by go_num, hbw, hbo⟩
                case measure => simp [intOf] <;> omega
              · have e0 : CY.getD j 0 = 0 := getD_past (by rw [HE2.out]; omega)
                rw [e0, Int.add_zero] at hcj
                subst hcj
                have hj28 : ¬ (j : Int) < (n2 : Int) := by omega
                go_wp2
                go_roundw
                case rel => exact ⟨j + 1, by omega, by go_num, hbw, hbo⟩
                case measure => simp [intOf] <;> omega
        · skip
          replace hof := hof.keep hbo
          replace ho1 := ho1.keep hbo
          replace ho2 := ho2.keep hbo
          clear hbo
          have hn1k : n1 ≤ 1000 := by omega
          have hn2k : n2 ≤ 1000 := by omega
          go_wp2_with fail
          with_reducible refine (Hsm1.out _ _ _ _ ho1.at hn1k).mono ?_
          rintro e w' ⟨rfl, rfl⟩
          go_wp2_with fail
          with_reducible refine (Hsm2.out _ _ _ _ ho2.at hn2k).mono ?_
          rintro e w' ⟨rfl, rfl⟩
          go_wp2
          go_ret
          exact ⟨rfl, hbw⟩
    simp only [mCounts_yes hb] at hk hk2
    rcases settle_law hb with hms | ⟨z, hms, gZ, hfz, hwz, hsz⟩
    · simp only [hms] at hg hg2
      clear hms hb
      generalize countsL cs_ = cnts at hk hk2
      have Hg := Lib.hid hg; clear hg
      have Hg2 := Lib.hid hg2; clear hg2
      have Hk := Lib.hid hk; clear hk
      have Hk2 := Lib.hid hk2; clear hk2
      go_wp2_with fail
      with_reducible refine (Hg.out _ hoc.at).mono ?_
      rintro e v6 ⟨pg, ng, cg, rfl, hog, hb6⟩
      replace hoa := hoa.keep hb6
      replace hof := hof.keep hb6
      replace hoi := hoi.keep hb6
      replace hoc := hoc.keep hb6
      replace acc := belowTrans acc hb6 (Nat.le_refl _)
      clear hb6
      go_wp2_with fail
      with_reducible refine (Hg2.out _ hoc.at).mono ?_
      rintro e v7 ⟨ph, nh, ch, rfl, hoh, hb7⟩
      replace hoa := hoa.keep hb7
      replace hof := hof.keep hb7
      replace hoi := hoi.keep hb7
      replace hoc := hoc.keep hb7
      replace hog := hog.keep hb7
      replace acc := belowTrans acc hb7 (Nat.le_refl _)
      clear hb7
      go_wp2_with fail
      with_reducible refine (Hk.out _ hoc.at).mono ?_
      rintro e v8 ⟨pk, nk, ck, rfl, hok, hb8⟩
      replace hoa := hoa.keep hb8
      replace hof := hof.keep hb8
      replace hoi := hoi.keep hb8
      replace hoc := hoc.keep hb8
      replace hog := hog.keep hb8
      replace hoh := hoh.keep hb8
      replace acc := belowTrans acc hb8 (Nat.le_refl _)
      clear hb8
      go_wp2_with fail
      with_reducible refine (Hk2.out _ hoc.at).mono ?_
      rintro e v9 ⟨pl, nl, cl, rfl, hol, hb9⟩
      replace hoa := hoa.keep hb9
      replace hof := hof.keep hb9
      replace hoi := hoi.keep hb9
      replace hoc := hoc.keep hb9
      replace hog := hog.keep hb9
      replace hoh := hoh.keep hb9
      replace hok := hok.keep hb9
      replace acc := belowTrans acc hb9 (Nat.le_refl _)
      clear hb9
      have hc := pSame_any _ _ _ _ _ _ _ _ _ hog.at hoh.at
      rw [decide_eq_true rfl] at hc
      have Hc := Lib.hid hc; clear hc
      go_wp2_with fail
      with_reducible refine (Hc.out).mono ?_
      rintro e v10 ⟨rfl, hb10⟩
      replace hoa := hoa.keep hb10
      replace hof := hof.keep hb10
      replace hoi := hoi.keep hb10
      replace hoc := hoc.keep hb10
      replace hog := hog.keep hb10
      replace hoh := hoh.keep hb10
      replace hok := hok.keep hb10
      replace hol := hol.keep hb10
      replace acc := belowTrans acc hb10 (Nat.le_refl _)
      clear hb10
      clear Hc
      clear hoh
      have hc := pSame_any _ _ _ _ _ _ _ _ _ hok.at hol.at
      rw [decide_eq_true rfl] at hc
      have Hc := Lib.hid hc; clear hc
      go_wp2_with fail
      with_reducible refine (Hc.out).mono ?_
      rintro e v11 ⟨rfl, hb11⟩
      replace hoa := hoa.keep hb11
      replace hof := hof.keep hb11
      replace hoi := hoi.keep hb11
      replace hoc := hoc.keep hb11
      replace hog := hog.keep hb11
      replace hok := hok.keep hb11
      replace hol := hol.keep hb11
      replace acc := belowTrans acc hb11 (Nat.le_refl _)
      clear hb11
      clear Hc
      clear hol
      clear Hg Hg2 Hk Hk2
      clear hog
      clear hok
      clear hoc
      go_wp2_with fail
      with_reducible refine (Ha1.out _ hoa.at).mono ?_
      rintro e v12 ⟨p1, n1, c1, rfl, ho1, hb12⟩
      replace hoa := hoa.keep hb12
      replace hof := hof.keep hb12
      replace hoi := hoi.keep hb12
      replace acc := belowTrans acc hb12 (Nat.le_refl _)
      clear hb12
      go_wp2_with fail
      with_reducible refine (Ha2.out _ _ _ _ hoi.at).mono ?_
      rintro e v13 ⟨p2, n2, c2, rfl, ho2, hb13⟩
      replace hoa := hoa.keep hb13
      replace hof := hof.keep hb13
      replace hoi := hoi.keep hb13
      replace ho1 := ho1.keep hb13
      replace acc := belowTrans acc hb13 (Nat.le_refl _)
      clear hb13
      go_wp2_with fail
      with_reducible refine (Ha3.out _ hoa.at).mono ?_
      rintro e v14 ⟨p3, n3, c3, rfl, ho3, hb14⟩
      replace hoa := hoa.keep hb14
      replace hof := hof.keep hb14
      replace hoi := hoi.keep hb14
      replace ho1 := ho1.keep hb14
      replace ho2 := ho2.keep hb14
      replace acc := belowTrans acc hb14 (Nat.le_refl _)
      clear hb14
      go_wp2_with fail
      with_reducible refine (Ha4.out _ _ _ _ hoi.at).mono ?_
      rintro e v15 ⟨p4, n4, c4, rfl, ho4, hb15⟩
      replace hoa := hoa.keep hb15
      replace hof := hof.keep hb15
      replace hoi := hoi.keep hb15
      replace ho1 := ho1.keep hb15
      replace ho2 := ho2.keep hb15
      replace ho3 := ho3.keep hb15
      replace acc := belowTrans acc hb15 (Nat.le_refl _)
      clear hb15
      have hc := pSame_any _ _ _ _ _ _ _ _ _ ho3.at ho4.at
      rw [decide_eq_true rfl] at hc
      have Hc := Lib.hid hc; clear hc
      go_wp2_with fail
      with_reducible refine (Hc.out).mono ?_
      rintro e v16 ⟨rfl, hb16⟩
      replace hoa := hoa.keep hb16
      replace hof := hof.keep hb16
      replace hoi := hoi.keep hb16
      replace ho1 := ho1.keep hb16
      replace ho2 := ho2.keep hb16
      replace ho3 := ho3.keep hb16
      replace ho4 := ho4.keep hb16
      replace acc := belowTrans acc hb16 (Nat.le_refl _)
      clear hb16
      clear Hc
      clear ho3
      clear ho4
      clear hoa
      clear hoi
      clear Ha1 Ha2 Ha3 Ha4
      have e1 := ho1.length
      have e2 := ho2.length
      have hn1 : n1 ≤ 24 := by have := Hl1.out; omega
      have hn2 : n2 ≤ 24 := by have := Hl2.out; omega
      have HE1 := Lib.hid e1; clear e1
      have HE2 := Lib.hid e2; clear e2
      have hn18 : (n1 : Int) ≤ 24 := by omega
      have hn28 : (n2 : Int) ≤ 24 := by omega
      have hnf8 : (nf : Int) ≤ 301 := by omega
      obtain ⟨wo, hwo⟩ : ∃ wo : World, wo = v16 := ⟨_, rfl⟩
      subst hwo
      go_wp2_with fail
      go_loopw [200] (fun i wr => ∃ j : Nat, j ≤ n1 ∧ i = .int .i64 j ∧ Below w.heap.size w wr ∧ Below wo.heap.size wo wr) (fun i _ => n1 - (intOf i).toNat)
      case atStart => exact ⟨0, Nat.zero_le _, rfl, acc, Below.refl _ _⟩
      case round =>
        obtain ⟨j, hj, rfl, hbw, hbo⟩ := hrel
        by_cases hlt : j < n1
        · skip
          replace hof := hof.keep hbo
          replace ho1 := ho1.keep hbo
          replace ho2 := ho2.keep hbo
          obtain ⟨b1, o1, rfl, hbl1, hc1⟩ := ho1.at.cell j hlt
          have hck1 := hc1 j hlt
          have hcj := Hcnt.out j
          have hbj := Hb1.out _ (mem_of_getD (xs := CX) (i := j) (by rw [HE1.out]; exact hlt))
          generalize CX.getD j 0 = NJ at hck1 hcj hbj
          clear hc1 hbl1
          obtain ⟨wi, hwi⟩ : ∃ wi : World, wi = wr := ⟨_, rfl⟩
          subst hwi
          have hj24 : (j : Int) < 24 := by omega
          have Hcj := Lib.hid hcj; clear hcj
          go_wp2_with fail
          go_loopw [36, 207] (fun mv i wr => ∃ q : Nat, q ≤ nf ∧ i = .int .i64 q ∧ mv = .int .i64 (((fs.take q).count (j : Int) : Nat) : Int) ∧ wr = wi) (fun _ i _ => nf - (intOf i).toNat)
          case atStart => exact ⟨0, Nat.zero_le _, rfl, by simp, rfl⟩
          case round =>
            obtain ⟨q, hq, rfl, rfl, rfl⟩ := hrel
            clear hck1
            by_cases hqf : q < nf
            · obtain ⟨b2, o2, rfl, hbl2, hc2⟩ := hof.at.cell q hqf
              have hck2 := hc2 q hqf
              have hsn := take_snoc (xs := fs) (k := q) rfl hqf Hlf.out
              clear hc2 hbl2
              generalize fs.getD q 0 = X at hck2 hsn
              have hcl2 : (fs.take q).count (j : Int) ≤ q := Nat.le_trans List.count_le_length (by rw [List.length_take]; omega)
              by_cases hX : X = (j : Int)
              · subst hX
                have hcs : (fs.take (q + 1)).count (j : Int) = (fs.take q).count (j : Int) + 1 := by rw [hsn, List.count_append, List.count_singleton]; simp
                have hxx : ((j : Int) == (j : Int)) = true := by simp
                generalize (fs.take q).count (j : Int) = CQ at hcs hcl2
                have Hsn := Lib.hid hsn; clear hsn
                have Hcs := Lib.hid hcs; clear hcs
                have hCQ : (CQ : Int) ≤ 301 := by omega
                go_wp2
                go_roundw
                case rel => exact ⟨q + 1, by omega, by go_num, by rw [Hcs.out]; go_num, by first | rfl | trivial⟩
                case measure => simp [intOf] <;> omega
              · have hcs : (fs.take (q + 1)).count (j : Int) = (fs.take q).count (j : Int) := by rw [hsn, List.count_append, List.count_singleton]; simp [hX]
                have hxx : (X == (j : Int)) = false := by simpa using hX
                have hdd : decide (X = (j : Int)) = false := decide_eq_false hX
                generalize (fs.take q).count (j : Int) = CQ at hcs hcl2
                have Hsn := Lib.hid hsn; clear hsn
                have Hcs := Lib.hid hcs; clear hcs
                go_wp2
                go_roundw
                case rel => exact ⟨q + 1, by omega, by go_num, by rw [Hcs.out], by first | rfl | trivial⟩
                case measure => simp [intOf] <;> omega
            · obtain rfl : q = nf := by omega
              have hcj := Hcj.out
              rw [List.take_of_length_le (by rw [Hlf.out]; exact Nat.le_refl _)]
              have hcl2 : fs.count (j : Int) ≤ q := Nat.le_trans List.count_le_length (by rw [Hlf.out]; exact Nat.le_refl _)
              generalize fs.count (j : Int) = CQ at hcj hcl2
              have hCQ : (CQ : Int) ≤ 301 := by omega
              by_cases hj2 : j < n2
              · obtain ⟨b2, o2, rfl, hbl2, hc2⟩ := ho2.at.cell j hj2
                have hck2 := hc2 j hj2
                have hbj2 := Hb2.out _ (mem_of_getD (xs := CY) (i := j) (by rw [HE2.out]; exact hj2))
                clear hc2 hbl2
                generalize CY.getD j 0 = X at hck2 hcj hbj2
                subst hcj
                have hj28 : (j : Int) < (n2 : Int) := by omega
                have hne : (((CQ : Int) + X) != ((CQ : Int) + X)) = false := by simp
                go_wp2
                go_roundw
                case rel => exact ⟨j + 1, by omega, by go_num, hbw, hbo⟩
                case measure => simp [intOf] <;> omega
              · have e0 : CY.getD j 0 = 0 := getD_past (by rw [HE2.out]; omega)
                rw [e0, Int.add_zero] at hcj
                subst hcj
                have hj28 : ¬ (j : Int) < (n2 : Int) := by omega
                go_wp2
                go_roundw
                case rel => exact ⟨j + 1, by omega, by go_num, hbw, hbo⟩
                case measure => simp [intOf] <;> omega
        · skip
          replace hof := hof.keep hbo
          replace ho1 := ho1.keep hbo
          replace ho2 := ho2.keep hbo
          clear hbo
          have hn1k : n1 ≤ 1000 := by omega
          have hn2k : n2 ≤ 1000 := by omega
          go_wp2_with fail
          with_reducible refine (Hsm1.out _ _ _ _ ho1.at hn1k).mono ?_
          rintro e w' ⟨rfl, rfl⟩
          go_wp2_with fail
          with_reducible refine (Hsm2.out _ _ _ _ ho2.at hn2k).mono ?_
          rintro e w' ⟨rfl, rfl⟩
          go_wp2
          go_ret
          exact ⟨rfl, hbw⟩
    · simp only [hms] at hg hg2
      have hz := fun a n c W h => impl_IsSettled a n c z W h
      simp only [mIsSettled_yes (sand_iff.2 gZ), hfz, decide_true] at hz
      have hwa := fun W h => impl_WeightOf pc nc cc cs_ W h
      simp only [mWeight_yes hb] at hwa
      have hwb := fun a n c W h => impl_WeightOf a n c z W h
      simp only [mWeight_yes (sand_iff.2 gZ)] at hwb
      have hsa := fun W h => pSum_any pc nc cc cs_ W h (sand_iff.1 hb).good
      have hsb := fun a n c W h => pSum_any a n c z W h gZ.good
      rw [hsz] at hsb
      obtain ⟨hcb, hcl⟩ := counts_bd hb
      have hsc := fun a n c W h (hn : n ≤ 1000) => pSumN_any a n c (countsL cs_) W h (fun x hx => by have := hcb x hx; omega) hn
      have hwt := sand_wt (sand_iff.1 hb)
      have hwt2 := sand_wt gZ
      rw [← hwz] at hsc
      clear hms hb hfz hsz hcb hwz gZ
      generalize countsL cs_ = cnts at hk hk2 hsc hcl
      generalize wt 0 cs_ = T at hwa hwt hsc
      generalize wt 0 z = T2 at hwb hwt2 hsc
      generalize cs_.sum = S at hsa hsb
      have hTT : ((T2 - T) != (T2 - T)) = false := by simp
      have hSS : (S != S) = false := by simp
      have Hg := Lib.hid hg; clear hg
      have Hg2 := Lib.hid hg2; clear hg2
      have Hk := Lib.hid hk; clear hk
      have Hk2 := Lib.hid hk2; clear hk2
      have Hz := Lib.hid hz; clear hz
      have Hwa := Lib.hid hwa; clear hwa
      have Hwb := Lib.hid hwb; clear hwb
      have Hsa := Lib.hid hsa; clear hsa
      have Hsb := Lib.hid hsb; clear hsb
      have Hsc := Lib.hid hsc; clear hsc
      have Hcl := Lib.hid hcl; clear hcl
      go_wp2_with fail
      with_reducible refine (Hg.out _ hoc.at).mono ?_
      rintro e v6 ⟨pg, ng, cg, rfl, hog, hb6⟩
      replace hoa := hoa.keep hb6
      replace hof := hof.keep hb6
      replace hoi := hoi.keep hb6
      replace hoc := hoc.keep hb6
      replace acc := belowTrans acc hb6 (Nat.le_refl _)
      clear hb6
      go_wp2_with fail
      with_reducible refine (Hg2.out _ hoc.at).mono ?_
      rintro e v7 ⟨ph, nh, ch, rfl, hoh, hb7⟩
      replace hoa := hoa.keep hb7
      replace hof := hof.keep hb7
      replace hoi := hoi.keep hb7
      replace hoc := hoc.keep hb7
      replace hog := hog.keep hb7
      replace acc := belowTrans acc hb7 (Nat.le_refl _)
      clear hb7
      go_wp2_with fail
      with_reducible refine (Hk.out _ hoc.at).mono ?_
      rintro e v8 ⟨pk, nk, ck, rfl, hok, hb8⟩
      replace hoa := hoa.keep hb8
      replace hof := hof.keep hb8
      replace hoi := hoi.keep hb8
      replace hoc := hoc.keep hb8
      replace hog := hog.keep hb8
      replace hoh := hoh.keep hb8
      replace acc := belowTrans acc hb8 (Nat.le_refl _)
      clear hb8
      go_wp2_with fail
      with_reducible refine (Hk2.out _ hoc.at).mono ?_
      rintro e v9 ⟨pl, nl, cl, rfl, hol, hb9⟩
      replace hoa := hoa.keep hb9
      replace hof := hof.keep hb9
      replace hoi := hoi.keep hb9
      replace hoc := hoc.keep hb9
      replace hog := hog.keep hb9
      replace hoh := hoh.keep hb9
      replace hok := hok.keep hb9
      replace acc := belowTrans acc hb9 (Nat.le_refl _)
      clear hb9
      have hc := pSame_any _ _ _ _ _ _ _ _ _ hog.at hoh.at
      rw [decide_eq_true rfl] at hc
      have Hc := Lib.hid hc; clear hc
      go_wp2_with fail
      with_reducible refine (Hc.out).mono ?_
      rintro e v10 ⟨rfl, hb10⟩
      replace hoa := hoa.keep hb10
      replace hof := hof.keep hb10
      replace hoi := hoi.keep hb10
      replace hoc := hoc.keep hb10
      replace hog := hog.keep hb10
      replace hoh := hoh.keep hb10
      replace hok := hok.keep hb10
      replace hol := hol.keep hb10
      replace acc := belowTrans acc hb10 (Nat.le_refl _)
      clear hb10
      clear Hc
      clear hoh
      have hc := pSame_any _ _ _ _ _ _ _ _ _ hok.at hol.at
      rw [decide_eq_true rfl] at hc
      have Hc := Lib.hid hc; clear hc
      go_wp2_with fail
      with_reducible refine (Hc.out).mono ?_
      rintro e v11 ⟨rfl, hb11⟩
      replace hoa := hoa.keep hb11
      replace hof := hof.keep hb11
      replace hoi := hoi.keep hb11
      replace hoc := hoc.keep hb11
      replace hog := hog.keep hb11
      replace hok := hok.keep hb11
      replace hol := hol.keep hb11
      replace acc := belowTrans acc hb11 (Nat.le_refl _)
      clear hb11
      clear Hc
      clear hol
      clear Hg Hg2 Hk Hk2
      have hlk := hok.length
      have hnk : nk ≤ 1000 := by have := Hcl.out; omega
      clear hlk
      go_wp2_with fail
      with_reducible refine (Hz.out _ _ _ _ hog.at).mono ?_
      rintro e v12 ⟨rfl, hb12⟩
      replace hoa := hoa.keep hb12
      replace hof := hof.keep hb12
      replace hoi := hoi.keep hb12
      replace hoc := hoc.keep hb12
      replace hog := hog.keep hb12
      replace hok := hok.keep hb12
      replace acc := belowTrans acc hb12 (Nat.le_refl _)
      clear hb12
      go_wp2_with fail
      with_reducible refine (Hwa.out _ hoc.at).mono ?_
      rintro e v13 ⟨rfl, hb13⟩
      replace hoa := hoa.keep hb13
      replace hof := hof.keep hb13
      replace hoi := hoi.keep hb13
      replace hoc := hoc.keep hb13
      replace hog := hog.keep hb13
      replace hok := hok.keep hb13
      replace acc := belowTrans acc hb13 (Nat.le_refl _)
      clear hb13
      go_wp2_with fail
      with_reducible refine (Hwb.out _ _ _ _ hog.at).mono ?_
      rintro e v14 ⟨rfl, hb14⟩
      replace hoa := hoa.keep hb14
      replace hof := hof.keep hb14
      replace hoi := hoi.keep hb14
      replace hoc := hoc.keep hb14
      replace hog := hog.keep hb14
      replace hok := hok.keep hb14
      replace acc := belowTrans acc hb14 (Nat.le_refl _)
      clear hb14
      go_wp2_with fail
      with_reducible refine (Hsc.out _ _ _ _ hok.at hnk).mono ?_
      rintro e w' ⟨rfl, rfl⟩
      go_wp2_with fail
      with_reducible refine (Hsb.out _ _ _ _ hog.at).mono ?_
      rintro e w' ⟨rfl, rfl⟩
      go_wp2_with fail
      with_reducible refine (Hsa.out _ hoc.at).mono ?_
      rintro e w' ⟨rfl, rfl⟩
      clear Hz Hwa Hwb Hsc Hsb Hsa Hcl hwt hwt2 hTT hSS
      clear hog
      clear hok
      clear hoc
      go_wp2_with fail
      with_reducible refine (Ha1.out _ hoa.at).mono ?_
      rintro e v15 ⟨p1, n1, c1, rfl, ho1, hb15⟩
      replace hoa := hoa.keep hb15
      replace hof := hof.keep hb15
      replace hoi := hoi.keep hb15
      replace acc := belowTrans acc hb15 (Nat.le_refl _)
      clear hb15
      go_wp2_with fail
      with_reducible refine (Ha2.out _ _ _ _ hoi.at).mono ?_
      rintro e v16 ⟨p2, n2, c2, rfl, ho2, hb16⟩
      replace hoa := hoa.keep hb16
      replace hof := hof.keep hb16
      replace hoi := hoi.keep hb16
      replace ho1 := ho1.keep hb16
      replace acc := belowTrans acc hb16 (Nat.le_refl _)
      clear hb16
      go_wp2_with fail
      with_reducible refine (Ha3.out _ hoa.at).mono ?_
      rintro e v17 ⟨p3, n3, c3, rfl, ho3, hb17⟩
      replace hoa := hoa.keep hb17
      replace hof := hof.keep hb17
      replace hoi := hoi.keep hb17
      replace ho1 := ho1.keep hb17
      replace ho2 := ho2.keep hb17
      replace acc := belowTrans acc hb17 (Nat.le_refl _)
      clear hb17
      go_wp2_with fail
      with_reducible refine (Ha4.out _ _ _ _ hoi.at).mono ?_
      rintro e v18 ⟨p4, n4, c4, rfl, ho4, hb18⟩
      replace hoa := hoa.keep hb18
      replace hof := hof.keep hb18
      replace hoi := hoi.keep hb18
      replace ho1 := ho1.keep hb18
      replace ho2 := ho2.keep hb18
      replace ho3 := ho3.keep hb18
      replace acc := belowTrans acc hb18 (Nat.le_refl _)
      clear hb18
      have hc := pSame_any _ _ _ _ _ _ _ _ _ ho3.at ho4.at
      rw [decide_eq_true rfl] at hc
      have Hc := Lib.hid hc; clear hc
      go_wp2_with fail
      with_reducible refine (Hc.out).mono ?_
      rintro e v19 ⟨rfl, hb19⟩
      replace hoa := hoa.keep hb19
      replace hof := hof.keep hb19
      replace hoi := hoi.keep hb19
      replace ho1 := ho1.keep hb19
      replace ho2 := ho2.keep hb19
      replace ho3 := ho3.keep hb19
      replace ho4 := ho4.keep hb19
      replace acc := belowTrans acc hb19 (Nat.le_refl _)
      clear hb19
      clear Hc
      clear ho3
      clear ho4
      clear hoa
      clear hoi
      clear Ha1 Ha2 Ha3 Ha4
      have e1 := ho1.length
      have e2 := ho2.length
      have hn1 : n1 ≤ 24 := by have := Hl1.out; omega
      have hn2 : n2 ≤ 24 := by have := Hl2.out; omega
      have HE1 := Lib.hid e1; clear e1
      have HE2 := Lib.hid e2; clear e2
      have hn18 : (n1 : Int) ≤ 24 := by omega
      have hn28 : (n2 : Int) ≤ 24 := by omega
      have hnf8 : (nf : Int) ≤ 301 := by omega
      obtain ⟨wo, hwo⟩ : ∃ wo : World, wo = v19 := ⟨_, rfl⟩
      subst hwo
      go_wp2_with fail
      go_loopw [200] (fun i wr => ∃ j : Nat, j ≤ n1 ∧ i = .int .i64 j ∧ Below w.heap.size w wr ∧ Below wo.heap.size wo wr) (fun i _ => n1 - (intOf i).toNat)
      case atStart => exact ⟨0, Nat.zero_le _, rfl, acc, Below.refl _ _⟩
      case round =>
        obtain ⟨j, hj, rfl, hbw, hbo⟩ := hrel
        by_cases hlt : j < n1
        · skip
          replace hof := hof.keep hbo
          replace ho1 := ho1.keep hbo
          replace ho2 := ho2.keep hbo
          obtain ⟨b1, o1, rfl, hbl1, hc1⟩ := ho1.at.cell j hlt
          have hck1 := hc1 j hlt
          have hcj := Hcnt.out j
          have hbj := Hb1.out _ (mem_of_getD (xs := CX) (i := j) (by rw [HE1.out]; exact hlt))
          generalize CX.getD j 0 = NJ at hck1 hcj hbj
          clear hc1 hbl1
          obtain ⟨wi, hwi⟩ : ∃ wi : World, wi = wr := ⟨_, rfl⟩
          subst hwi
          have hj24 : (j : Int) < 24 := by omega
          have Hcj := Lib.hid hcj; clear hcj
          go_wp2_with fail
          go_loopw [36, 207] (fun mv i wr => ∃ q : Nat, q ≤ nf ∧ i = .int .i64 q ∧ mv = .int .i64 (((fs.take q).count (j : Int) : Nat) : Int) ∧ wr = wi) (fun _ i _ => nf - (intOf i).toNat)
          case atStart => exact ⟨0, Nat.zero_le _, rfl, by simp, rfl⟩
          case round =>
            obtain ⟨q, hq, rfl, rfl, rfl⟩ := hrel
            clear hck1
            by_cases hqf : q < nf
            · obtain ⟨b2, o2, rfl, hbl2, hc2⟩ := hof.at.cell q hqf
              have hck2 := hc2 q hqf
              have hsn := take_snoc (xs := fs) (k := q) rfl hqf Hlf.out
              clear hc2 hbl2
              generalize fs.getD q 0 = X at hck2 hsn
              have hcl2 : (fs.take q).count (j : Int) ≤ q := Nat.le_trans List.count_le_length (by rw [List.length_take]; omega)
              by_cases hX : X = (j : Int)
              · subst hX
                have hcs : (fs.take (q + 1)).count (j : Int) = (fs.take q).count (j : Int) + 1 := by rw [hsn, List.count_append, List.count_singleton]; simp
                have hxx : ((j : Int) == (j : Int)) = true := by simp
                generalize (fs.take q).count (j : Int) = CQ at hcs hcl2
                have Hsn := Lib.hid hsn; clear hsn
                have Hcs := Lib.hid hcs; clear hcs
                have hCQ : (CQ : Int) ≤ 301 := by omega
                go_wp2
                go_roundw
                case rel => exact ⟨q + 1, by omega, by go_num, by rw [Hcs.out]; go_num, by first | rfl | trivial⟩
                case measure => simp [intOf] <;> omega
              · have hcs : (fs.take (q + 1)).count (j : Int) = (fs.take q).count (j : Int) := by rw [hsn, List.count_append, List.count_singleton]; simp [hX]
                have hxx : (X == (j : Int)) = false := by simpa using hX
                have hdd : decide (X = (j : Int)) = false := decide_eq_false hX
                generalize (fs.take q).count (j : Int) = CQ at hcs hcl2
                have Hsn := Lib.hid hsn; clear hsn
                have Hcs := Lib.hid hcs; clear hcs
                go_wp2
                go_roundw
                case rel => exact ⟨q + 1, by omega, by go_num, by rw [Hcs.out], by first | rfl | trivial⟩
                case measure => simp [intOf] <;> omega
            · obtain rfl : q = nf := by omega
              have hcj := Hcj.out
              rw [List.take_of_length_le (by rw [Hlf.out]; exact Nat.le_refl _)]
              have hcl2 : fs.count (j : Int) ≤ q := Nat.le_trans List.count_le_length (by rw [Hlf.out]; exact Nat.le_refl _)
              generalize fs.count (j : Int) = CQ at hcj hcl2
              have hCQ : (CQ : Int) ≤ 301 := by omega
              by_cases hj2 : j < n2
              · obtain ⟨b2, o2, rfl, hbl2, hc2⟩ := ho2.at.cell j hj2
                have hck2 := hc2 j hj2
                have hbj2 := Hb2.out _ (mem_of_getD (xs := CY) (i := j) (by rw [HE2.out]; exact hj2))
                clear hc2 hbl2
                generalize CY.getD j 0 = X at hck2 hcj hbj2
                subst hcj
                have hj28 : (j : Int) < (n2 : Int) := by omega
                have hne : (((CQ : Int) + X) != ((CQ : Int) + X)) = false := by simp
                go_wp2
                go_roundw
                case rel => exact ⟨j + 1, by omega, by go_num, hbw, hbo⟩
                case measure => simp [intOf] <;> omega
              · have e0 : CY.getD j 0 = 0 := getD_past (by rw [HE2.out]; omega)
                rw [e0, Int.add_zero] at hcj
                subst hcj
                have hj28 : ¬ (j : Int) < (n2 : Int) := by omega
                go_wp2
                go_roundw
                case rel => exact ⟨j + 1, by omega, by go_num, hbw, hbo⟩
                case measure => simp [intOf] <;> omega
        · skip
          replace hof := hof.keep hbo
          replace ho1 := ho1.keep hbo
          replace ho2 := ho2.keep hbo
          clear hbo
          have hn1k : n1 ≤ 1000 := by omega
          have hn2k : n2 ≤ 1000 := by omega
          go_wp2_with fail
          with_reducible refine (Hsm1.out _ _ _ _ ho1.at hn1k).mono ?_
          rintro e w' ⟨rfl, rfl⟩
          go_wp2_with fail
          with_reducible refine (Hsm2.out _ _ _ _ ho2.at hn2k).mono ?_
          rintro e w' ⟨rfl, rfl⟩
          go_wp2
          go_ret
          exact ⟨rfl, hbw⟩

/-! ### THE ROW's STEP: WRITTEN OUT: LEAVE IT -/
set_option maxRecDepth 100000 in
theorem lifted (os : Os) (started : os.Started) (H : Type) (enc : TypeId × Value → H) :
    ReturnsInHanded {} Try.checked os 3 .any (Rows.fnFallsEndAlikeSpec.pre6 enc Try.prog Try.f3 Rows.fnFallsEndAlikeRow.domain false) (Rows.fnFallsEndAlikeSpec.post enc Try.prog Try.f3 false true false false) := by
  refine returnsInHanded_of_change (C := Try.checked) own started (by kernel_rfl) Try.func3
    (ChangeSpec.witness6 (enc := enc) (C := Try.checked) false ⟨#[], #[.slice none 0 0, .slice none 0 0], []⟩ 8 (by kernel_rfl) (by kernel_rfl) (by kernel_rfl) (by kernel_rfl)) ?_
  intro W base args ds gs before hval0 hW hcnd _
  have hval : ∀ (j : Nat) t v, Try.f3.params[j]? = some t → args[j]? = some v → Value.okWide Try.prog W .any base t v := hval0
  have hW' := hW
  obtain ⟨p, q, hA0, hV, rfl, hfz, hnd⟩ := hW
  have hA : DataW.TrodAll enc Try.prog W 0 (fun _ => true) true Try.f3.params.toList args.toList ds p := hA0
  rw [Try.params3] at hA hval
  obtain ⟨v0, vs0, d0, ds0, p0, q0, hargs, rfl, rfl, h0, r0⟩ := trodAll_cons hA
  obtain ⟨v1, vs1, d1, ds1, p1, q1, rfl, rfl, rfl, h1, r1⟩ := trodAll_cons r0
  obtain ⟨rfl, rfl, rfl⟩ := trodAll_nil r1
  obtain rfl : args = #[v0, v1] := by cases args; simp_all
  obtain ⟨rfl, rfl⟩ := trodVars_none hV
  obtain ⟨a0, len0, cap0, rfl⟩ := okWide_slice Try.underlying22 (hval 0 22 v0 rfl rfl)
  have k0 := h0
  have lt0 : ∀ x ∈ p0, x.block < W.heap.size := by obtain ⟨m, hm⟩ := k0; exact DataW.trod_lt m _ _ _ hm
  obtain ⟨z0, w0⟩ : ∃ zs, IsRow .u8 W a0 len0 cap0 zs := by
    obtain ⟨fuel, hf⟩ := h0
    rcases open_ints Try.underlying22 Try.underlying5 (by kernel_rfl) hf with ⟨hcs, _⟩ | ⟨x, l, c, zs, hcs, _, hl, hm, hz, _, hcell, hwz⟩
    · simp [Value.cells] at hcs
      obtain ⟨rfl, rfl, rfl⟩ := hcs
      exact ⟨[], .inl ⟨rfl, rfl, rfl, rfl⟩⟩
    · simp [Value.cells] at hcs
      obtain ⟨rfl, rfl, rfl⟩ := hcs
      exact ⟨zs, .inr ⟨_, rfl, hl, hm, by simpa using hz, hcell, hwz⟩⟩
  obtain ⟨a1, len1, cap1, rfl⟩ := okWide_slice Try.underlying22 (hval 1 22 v1 rfl rfl)
  have k1 := h1
  have lt1 : ∀ x ∈ p1, x.block < W.heap.size := by obtain ⟨m, hm⟩ := k1; exact DataW.trod_lt m _ _ _ hm
  obtain ⟨z1, w1⟩ : ∃ zs, IsRow .u8 W a1 len1 cap1 zs := by
    obtain ⟨fuel, hf⟩ := h1
    rcases open_ints Try.underlying22 Try.underlying5 (by kernel_rfl) hf with ⟨hcs, _⟩ | ⟨x, l, c, zs, hcs, _, hl, hm, hz, _, hcell, hwz⟩
    · simp [Value.cells] at hcs
      obtain ⟨rfl, rfl, rfl⟩ := hcs
      exact ⟨[], .inl ⟨rfl, rfl, rfl, rfl⟩⟩
    · simp [Value.cells] at hcs
      obtain ⟨rfl, rfl, rfl⟩ := hcs
      exact ⟨zs, .inr ⟨_, rfl, hl, hm, by simpa using hz, hcell, hwz⟩⟩
  clear hA0 hval0
  refine (walk a0 len0 cap0 z0 a1 len1 cap1 z1 W w0 w1).mono fun e W' ⟨he, bel⟩ => ?_
  subst he
  exact ⟨_, rfl, _, _, _, [], _, [], hW', trodAll_mk1 (shut_bool Try.underlying4 _), (trodAll_cons_mk (Below.trod laidOut (by kernel_rfl) (of_decide_eq_true (by kernel_rfl)) k0 bel lt0) (trodAll_cons_mk (Below.trod laidOut (by kernel_rfl) (of_decide_eq_true (by kernel_rfl)) k1 bel lt1) trodAll_mk0)), rfl, bel.frame _, fun h => by cases h⟩

theorem closedFacts : joinedFacts Try.prog 3 Try.f3 Rows.fnFallsEndAlikeSpec Rows.fnFallsEndAlikeRow = true := by
  unfold joinedFacts
  rw [head_enter, head_lifts, head_make]
  kernel_rfl
theorem closedHere : joinedFacts Try.pinned.checked.prog 3 Try.f3 Rows.fnFallsEndAlikeSpec Rows.fnFallsEndAlikeRow = true := by
  rw [progEq]
  exact closedFacts
theorem over : Rows.fnFallsEndAlikeRow.holds Try.pinned (OpenSpec.ofChange Rows.fnFallsEndAlikeSpec) :=
  OpenClaim.holds_of_wide 3 Try.f3 rfl rfl rfl rfl rfl rfl rfl ⟨rfl, rfl, rfl, rfl, rfl⟩ rfl rfl rfl rfl rfl (by kernel_rfl) Try.func3 closedHere
    (of_decide_eq_true (by kernel_rfl)) (by unfold Func.isWrapper; first | (rw [if_pos (by decide +kernel)]; kernel_rfl) | (rw [if_neg (by decide +kernel)]; exact ⟨rfl, rfl⟩))
    (fun os started H enc _ => lifted os started H enc)

/-- ████ THE STATEMENT ████ -/
theorem proved : Rows.FnFallsEndAlikeSaid := over
#print axioms proved
end Go.Proofs.Ythhhgmkjjagmaaa.fnFallsEndAlike
