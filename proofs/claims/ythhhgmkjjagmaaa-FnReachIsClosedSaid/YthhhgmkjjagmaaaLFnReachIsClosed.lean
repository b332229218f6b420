/- FnReachIsClosed: for every input the law returns true and leaves its arguments as they were. No condition. -/
import Derived.Test.YthhhgmkjjagmaaaRows
import Derived.WalkKit
import Derived.ProofKit
import Derived.OpenShut
import Derived.ShutString
import Derived.ChangeOld
import Derived.Below
import Derived.Test.YthhhgmkjjagmaaaHead
import Derived.Test.YthhhgmkjjagmaaaLawp
import Derived.Test.YthhhgmkjjagmaaaLawq
import Derived.Test.YthhhgmkjjagmaaaGg
import Derived.Test.YthhhgmkjjagmaaaGj
import Derived.Test.YthhhgmkjjagmaaaSaL
import Derived.Test.YthhhgmkjjagmaaaSaB
import Derived.Test.YthhhgmkjjagmaaaSaU
import Derived.Test.YthhhgmkjjagmaaaSaV
import Derived.Test.YthhhgmkjjagmaaaSaW
import Derived.Test.YthhhgmkjjagmaaaSaY
namespace Go.Proofs.Ythhhgmkjjagmaaa.fnReachIsClosed
set_option linter.unusedSimpArgs false
open Go.ChangeShapes Go.WideShapes Go.ChangeAt Go.RowKit
open Go.ChangeMaps (open_string shut_string)
set_option linter.unusedVariables false

theorem own : ownKnob Try.prog.godebug = none := by kernel_rfl
theorem laidOut : laidOutB Try.prog = true := by kernel_rfl

/-- WHAT THE WALK IS TOLD OF A SLICE OF INTEGERS THAT CAME IN: it is nil; or it leads to a row of 'cap' cells, the numbers 'zs' (the first 'len' are its elements, the rest its spare room), each fitting its kind. -/
def IsRow (k : IntKind) (w : World) (a : Option Addr) (len cap : Nat) (zs : List Int) : Prop :=
  (a = none ∧ len = 0 ∧ cap = 0 ∧ zs = []) ∨
  ∃ x, a = some x ∧ len ≤ cap ∧ cap ≤ maxLen ∧ zs.length = cap ∧ (∀ i, i < zs.length → w.cell? (x.add i) = some (.int k (zs.getD i 0))) ∧ ∀ n ∈ zs, (Lit.int k n).wf = true

/-! ### THE WALK: the Go text returns true, AND WRITES NOTHING THAT WAS THERE: 'Below w.heap.size w w'' (Derived/Below.lean: '.refl', '.alloc', '.drew', '.setCell' at a new block, '.trans'). Open each 'IsRow' by 'rcases' AHEAD of 'go_enter'; part every test ahead of the walk. -/
set_option maxHeartbeats 4000000 in
set_option maxRecDepth 100000 in
theorem walk (a0 : Option Addr) (len0 cap0 : Nat) (z0 : List Int) (a1 : Option Addr) (len1 cap1 : Nat) (z1 : List Int) (w : World) (w0 : IsRow .u8 w a0 len0 cap0 z0) (w1 : IsRow .u8 w a1 len1 cap1 z1) :
    Calls Try.prog 5 #[.slice a0 len0 cap0, .slice a1 len1 cap1] w fun e w' => e = .returned (.bool true) ∧ Below w.heap.size w w' := by
  have by0 := byteIn_row w0
  have by1 := byteIn_row w1
  have hl0 : len0 ≤ maxLen := by
    rcases w0 with ⟨_, h, _⟩ | ⟨x, _, h, h', _⟩
    · rw [h]; exact Nat.zero_le _
    · exact Nat.le_trans h h'
  clear w0 w1
  by_cases hbig : 1048576 < len0 ∨ (1048576 : Int) - len0 < len1
  · have hb := big_yes a0 a1 len0 len1 cap0 cap1 w hbig hl0
    have Hb := Lib.hid hb; clear hb
    go_enter Try.func5, Try.ntmps5
    go_wp2_with fail
    with_reducible refine (Hb.out).mono ?_
    rintro e w' ⟨rfl, rfl⟩
    go_wp2
    go_ret
    exact ⟨rfl, Below.refl _ _⟩
  have hb := big_no a0 a1 len0 len1 cap0 cap1 w (by omega) (by omega)
  have hd := DrawReachSand_any a0 len0 cap0 w (by omega) by0
  have hf := fun W (h : Below w.heap.size w W) => DrawCanReach_any a1 len1 cap1 W (by omega) (by1.up (Nat.le_refl _) h h.size)
  have Hb := Lib.hid hb; clear hb
  have Hd := Lib.hid hd; clear hd
  have Hf := Lib.hid hf; clear hf
  clear by0 by1 hl0 hbig
  have acc : Below w.heap.size w w := Below.refl _ _
  go_enter Try.func5, Try.ntmps5
  go_wp2_with fail
  with_reducible refine (Hb.out).mono ?_
  rintro e w' ⟨rfl, rfl⟩
  clear Hb
  go_wp2_with fail
  with_reducible refine (Hd.out).mono ?_
  rintro e v1 ⟨pa, na, ca, xs, rfl, hoa, hnear, hb1⟩
  replace acc := belowTrans acc hb1 (Nat.le_refl _)
  clear hb1
  clear Hd hnear
  have hi := fun W h => impl_ReachSand pa na ca xs W h
  have hs := fun W h => spec_ReachSand pa na ca xs W h
  have hc := fun W h => impl_CountReach pa na ca xs W h
  have hc2 := fun W h => spec_CountReach pa na ca xs W h
  simp only [mCountReach] at hc hc2
  rcases reach_cases xs with hm | ⟨hm, hbx, hok⟩
  · simp only [hm] at hi hs hc hc2
    clear hm
    have Hi := Lib.hid hi; clear hi
    have Hs := Lib.hid hs; clear hs
    have Hc := Lib.hid hc; clear hc
    have Hc2 := Lib.hid hc2; clear hc2
    go_wp2_with fail
    with_reducible refine (Hi.out _ hoa.at).mono ?_
    rintro e v2 ⟨pi, ni, ci, rfl, hoi, hb2⟩
    replace hoa := hoa.keep hb2
    replace acc := belowTrans acc hb2 (Nat.le_refl _)
    clear hb2
    go_wp2_with fail
    with_reducible refine (Hs.out _ hoa.at).mono ?_
    rintro e v3 ⟨ps, ns, cs, rfl, hos, hb3⟩
    replace hoa := hoa.keep hb3
    replace hoi := hoi.keep hb3
    replace acc := belowTrans acc hb3 (Nat.le_refl _)
    clear hb3
    go_wp2_with fail
    with_reducible refine (Hc.out _ hoa.at).mono ?_
    rintro e v4 ⟨rfl, hb4⟩
    replace hoa := hoa.keep hb4
    replace hoi := hoi.keep hb4
    replace hos := hos.keep hb4
    replace acc := belowTrans acc hb4 (Nat.le_refl _)
    clear hb4
    go_wp2_with fail
    with_reducible refine (Hc2.out _ hoa.at).mono ?_
    rintro e v5 ⟨rfl, hb5⟩
    replace hoa := hoa.keep hb5
    replace hoi := hoi.keep hb5
    replace hos := hos.keep hb5
    replace acc := belowTrans acc hb5 (Nat.le_refl _)
    clear hb5
    have hc := pSameLists_any _ _ _ _ _ _ _ _ _ hoi.at hos.at
    rw [decide_eq_true rfl] at hc
    have Hc := Lib.hid hc; clear hc
    go_wp2_with fail
    with_reducible refine (Hc.out).mono ?_
    rintro e v6 ⟨rfl, hb6⟩
    replace hoa := hoa.keep hb6
    replace hoi := hoi.keep hb6
    replace hos := hos.keep hb6
    replace acc := belowTrans acc hb6 (Nat.le_refl _)
    clear hb6
    clear Hc
    clear hos
    clear hoi
    clear hoa
    clear Hi Hs Hc Hc2
    go_wp2_with fail
    with_reducible refine (Hf.out _ acc).mono ?_
    rintro e v7 ⟨pb, nb, cb, bs, pc, nc, cc, cs_, rfl, hob, hnear1, hoc, hnear2, hb7⟩
    replace acc := belowTrans acc hb7 (Nat.le_refl _)
    clear hb7
    clear Hf hnear1 hnear2
    have hg := fun W h h' => impl_CanReach pb nb cb bs pc nc cc cs_ W h h'
    have hg2 := fun W h h' => spec_CanReach pb nb cb bs pc nc cc cs_ W h h'
    rcases can_law bs cs_ with ⟨t, hmc⟩ | ⟨t, V, hmc, hbb, hbc, hfv, hfb, hws, hvb, hvl⟩
    · simp only [hmc] at hg hg2
      clear hmc
      have htt : (t != t) = false := by simp
      have Hg := Lib.hid hg; clear hg
      have Hg2 := Lib.hid hg2; clear hg2
      go_wp2_with fail
      with_reducible refine (Hg.out _ hob.at hoc.at).mono ?_
      rintro e v8 ⟨rfl, hb8⟩
      replace hob := hob.keep hb8
      replace hoc := hoc.keep hb8
      replace acc := belowTrans acc hb8 (Nat.le_refl _)
      clear hb8
      go_wp2_with fail
      with_reducible refine (Hg2.out _ hob.at hoc.at).mono ?_
      rintro e v9 ⟨rfl, hb9⟩
      replace hob := hob.keep hb9
      replace hoc := hoc.keep hb9
      replace acc := belowTrans acc hb9 (Nat.le_refl _)
      clear hb9
      clear Hg Hg2
      clear hob
      clear hoc
      go_wp2
      go_ret
      exact ⟨rfl, acc⟩
    · simp only [hmc] at hg hg2
      have htt : (t != t) = false := by simp
      have hk := fun W h h' => impl_FallVector pb nb cb bs pc nc cc cs_ W h h'
      simp only [hfv] at hk
      have hk2 := fun W h h' => impl_FallsBetween pb nb cb bs pc nc cc cs_ W h h'
      simp only [hfb] at hk2
      have hwa := fun W h => impl_WeightOf pb nb cb bs W h
      simp only [mWeight_yes hbb] at hwa
      have hwb := fun W h => impl_WeightOf pc nc cc cs_ W h
      simp only [mWeight_yes hbc] at hwb
      have hsv := fun a n c W h (hn : n ≤ 1000) => pSumN_any a n c V W h (fun x hx => by have := hvb x hx; omega) hn
      have hwt := sand_wt (sand_iff.1 hbb)
      have hwt2 := sand_wt (sand_iff.1 hbc)
      rw [← hws] at hk2 hsv
      clear hmc hbb hbc hfv hfb hws
      generalize wt 0 bs = T at hwa hwt hk2 hsv
      generalize wt 0 cs_ = T2 at hwb hwt2 hk2 hsv
      have hTT : ((T2 - T) != (T2 - T)) = false := by simp
      have Hg := Lib.hid hg; clear hg
      have Hg2 := Lib.hid hg2; clear hg2
      have Hk := Lib.hid hk; clear hk
      have Hk2 := Lib.hid hk2; clear hk2
      have Hwa := Lib.hid hwa; clear hwa
      have Hwb := Lib.hid hwb; clear hwb
      have Hsv := Lib.hid hsv; clear hsv
      have Hvb := Lib.hid hvb; clear hvb
      have Hvl := Lib.hid hvl; clear hvl
      go_wp2_with fail
      with_reducible refine (Hg.out _ hob.at hoc.at).mono ?_
      rintro e v8 ⟨rfl, hb8⟩
      replace hob := hob.keep hb8
      replace hoc := hoc.keep hb8
      replace acc := belowTrans acc hb8 (Nat.le_refl _)
      clear hb8
      go_wp2_with fail
      with_reducible refine (Hg2.out _ hob.at hoc.at).mono ?_
      rintro e v9 ⟨rfl, hb9⟩
      replace hob := hob.keep hb9
      replace hoc := hoc.keep hb9
      replace acc := belowTrans acc hb9 (Nat.le_refl _)
      clear hb9
      go_wp2_with fail
      with_reducible refine (Hk.out _ hob.at hoc.at).mono ?_
      rintro e v10 ⟨pv, nv, cv, rfl, hov, hb10⟩
      replace hob := hob.keep hb10
      replace hoc := hoc.keep hb10
      replace acc := belowTrans acc hb10 (Nat.le_refl _)
      clear hb10
      go_wp2_with fail
      with_reducible refine (Hk2.out _ hob.at hoc.at).mono ?_
      rintro e v11 ⟨rfl, hb11⟩
      replace hob := hob.keep hb11
      replace hoc := hoc.keep hb11
      replace hov := hov.keep hb11
      replace acc := belowTrans acc hb11 (Nat.le_refl _)
      clear hb11
      go_wp2_with fail
      with_reducible refine (Hwa.out _ hob.at).mono ?_
      rintro e v12 ⟨rfl, hb12⟩
      replace hob := hob.keep hb12
      replace hoc := hoc.keep hb12
      replace hov := hov.keep hb12
      replace acc := belowTrans acc hb12 (Nat.le_refl _)
      clear hb12
      go_wp2_with fail
      with_reducible refine (Hwb.out _ hoc.at).mono ?_
      rintro e v13 ⟨rfl, hb13⟩
      replace hob := hob.keep hb13
      replace hoc := hoc.keep hb13
      replace hov := hov.keep hb13
      replace acc := belowTrans acc hb13 (Nat.le_refl _)
      clear hb13
      have hlv := hov.length
      have hnv : nv ≤ 24 := by have := Hvl.out; omega
      have hnv1 : nv ≤ 1000 := by omega
      have hnv8 : (nv : Int) ≤ 24 := by omega
      have HLV := Lib.hid hlv; clear hlv
      go_wp2_with fail
      with_reducible refine (Hsv.out _ _ _ _ hov.at hnv1).mono ?_
      rintro e w' ⟨rfl, rfl⟩
      clear Hg Hg2 Hk Hk2 Hwa Hwb Hsv
      clear hob
      clear hoc
      obtain ⟨wo, hwo⟩ : ∃ wo : World, wo = v13 := ⟨_, rfl⟩
      subst hwo
      go_wp2_with fail
      go_loopw [175] (fun i wr => ∃ j : Nat, j ≤ nv ∧ i = .int .i64 j ∧ Below w.heap.size w wr ∧ Below wo.heap.size wo wr) (fun i _ => nv - (intOf i).toNat)
      case atStart => exact ⟨0, Nat.zero_le _, rfl, acc, Below.refl _ _⟩
      case round =>
        obtain ⟨j, hj, rfl, hbw, hbo⟩ := hrel
        by_cases hlt : j < nv
        · skip
          replace hov := hov.keep hbo
          obtain ⟨b2, o2, rfl, hbl2, hc2⟩ := hov.at.cell j hlt
          have hck2 := hc2 j hlt
          have hbj2 := Hvb.out _ (mem_of_getD (xs := V) (i := j) (by rw [HLV.out]; exact hlt))
          clear hc2 hbl2
          generalize V.getD j 0 = X at hck2 hbj2
          have hX0 : ¬ X < 0 := by omega
          go_wp2
          go_roundw
          case rel => exact ⟨j + 1, by omega, by go_num, hbw, hbo⟩
          case measure => simp [intOf] <;> omega
        · skip
          replace hov := hov.keep hbo
          clear hbo
          have acc := hbw
          clear hbw hwt hwt2 hTT
          clear hov
          go_wp2
          go_ret
          exact ⟨rfl, acc⟩
  · simp only [hm] at hi hs hc hc2
    obtain ⟨hf0, hset, hord, hpos, h400, hcl⟩ := rch_law hbx hok
    have hse := fun W h => impl_SettleSand pa na ca xs W h
    simp only [hset] at hse
    clear hm hbx hok hset
    generalize rchL xs = P at hi hs hc hc2 hf0 hord hpos h400 hcl hse
    have Hi := Lib.hid hi; clear hi
    have Hs := Lib.hid hs; clear hs
    have Hf0 := Lib.hid hf0; clear hf0
    have Hord := Lib.hid hord; clear hord
    have Hcl := Lib.hid hcl; clear hcl
    have Hse := Lib.hid hse; clear hse
    go_wp2_with fail
    with_reducible refine (Hi.out _ hoa.at).mono ?_
    rintro e v2 ⟨pi, ni, ci, rfl, hoi, hb2⟩
    replace hoa := hoa.keep hb2
    replace acc := belowTrans acc hb2 (Nat.le_refl _)
    clear hb2
    go_wp2_with fail
    with_reducible refine (Hs.out _ hoa.at).mono ?_
    rintro e v3 ⟨ps, ns, cs, rfl, hos, hb3⟩
    replace hoa := hoa.keep hb3
    replace hoi := hoi.keep hb3
    replace acc := belowTrans acc hb3 (Nat.le_refl _)
    clear hb3
    have hl := hoi.length
    rw [hl] at hc hc2 hpos h400
    have hni8 : (ni : Int) ≤ 400 := by omega
    have HL := Lib.hid hl; clear hl
    have Hc := Lib.hid hc; clear hc
    have Hc2 := Lib.hid hc2; clear hc2
    go_wp2_with fail
    with_reducible refine (Hc.out _ hoa.at).mono ?_
    rintro e v4 ⟨rfl, hb4⟩
    replace hoa := hoa.keep hb4
    replace hoi := hoi.keep hb4
    replace hos := hos.keep hb4
    replace acc := belowTrans acc hb4 (Nat.le_refl _)
    clear hb4
    go_wp2_with fail
    with_reducible refine (Hc2.out _ hoa.at).mono ?_
    rintro e v5 ⟨rfl, hb5⟩
    replace hoa := hoa.keep hb5
    replace hoi := hoi.keep hb5
    replace hos := hos.keep hb5
    replace acc := belowTrans acc hb5 (Nat.le_refl _)
    clear hb5
    have hc := pSameLists_any _ _ _ _ _ _ _ _ _ hoi.at hos.at
    rw [decide_eq_true rfl] at hc
    have Hc := Lib.hid hc; clear hc
    go_wp2_with fail
    with_reducible refine (Hc.out).mono ?_
    rintro e v6 ⟨rfl, hb6⟩
    replace hoa := hoa.keep hb6
    replace hoi := hoi.keep hb6
    replace hos := hos.keep hb6
    replace acc := belowTrans acc hb6 (Nat.le_refl _)
    clear hb6
    clear Hc
    clear hos
    clear Hi Hs Hc Hc2
    have hrows := hoi.at
    clear hoi
    go_wp2_with fail
    with_reducible refine (Hf.out _ acc).mono ?_
    rintro e v7 ⟨pb, nb, cb, bs, pc, nc, cc, cs_, rfl, hob, hnear1, hoc, hnear2, hb7⟩
    replace hoa := hoa.keep hb7
    replace hrows := hrows.keep hb7
    replace acc := belowTrans acc hb7 (Nat.le_refl _)
    clear hb7
    clear Hf hnear1 hnear2
    have hg := fun W h h' => impl_CanReach pb nb cb bs pc nc cc cs_ W h h'
    have hg2 := fun W h h' => spec_CanReach pb nb cb bs pc nc cc cs_ W h h'
    rcases can_law bs cs_ with ⟨t, hmc⟩ | ⟨t, V, hmc, hbb, hbc, hfv, hfb, hws, hvb, hvl⟩
    · simp only [hmc] at hg hg2
      clear hmc
      have htt : (t != t) = false := by simp
      have Hg := Lib.hid hg; clear hg
      have Hg2 := Lib.hid hg2; clear hg2
      go_wp2_with fail
      with_reducible refine (Hg.out _ hob.at hoc.at).mono ?_
      rintro e v8 ⟨rfl, hb8⟩
      replace hoa := hoa.keep hb8
      replace hrows := hrows.keep hb8
      replace hob := hob.keep hb8
      replace hoc := hoc.keep hb8
      replace acc := belowTrans acc hb8 (Nat.le_refl _)
      clear hb8
      go_wp2_with fail
      with_reducible refine (Hg2.out _ hob.at hoc.at).mono ?_
      rintro e v9 ⟨rfl, hb9⟩
      replace hoa := hoa.keep hb9
      replace hrows := hrows.keep hb9
      replace hob := hob.keep hb9
      replace hoc := hoc.keep hb9
      replace acc := belowTrans acc hb9 (Nat.le_refl _)
      clear hb9
      clear Hg Hg2
      clear hob
      clear hoc
      go_wp2_with fail
      with_reducible refine (Hse.out _ hoa.at).mono ?_
      rintro e v10 ⟨pe, ne, ce, rfl, hoe, hb10⟩
      replace hoa := hoa.keep hb10
      replace hrows := hrows.keep hb10
      replace acc := belowTrans acc hb10 (Nat.le_refl _)
      clear hb10
      clear Hse
      have hor := pOrdered_any _ _ _ _ _ hrows
      rw [Hord.out] at hor
      have Hor := Lib.hid hor; clear hor
      go_wp2_with fail
      with_reducible refine (Hor.out).mono ?_
      rintro e v11 ⟨rfl, hb11⟩
      replace hoa := hoa.keep hb11
      replace hrows := hrows.keep hb11
      replace hoe := hoe.keep hb11
      replace acc := belowTrans acc hb11 (Nat.le_refl _)
      clear hb11
      clear Hor Hord
      obtain ⟨b0, o0, e_, _, hc_⟩ := hrows.cell 0 hpos
      cases e_
      obtain ⟨a0_, m0, c0, hcell, hat0⟩ := hc_ 0 hpos
      clear hc_
      rw [Nat.add_zero] at hcell
      rw [Hf0.out] at hat0
      have h01 : (0 : Int) < (ni : Int) := by omega
      have hc := pSame_any _ _ _ _ _ _ _ _ _ hat0 hoa.at
      rw [decide_eq_true rfl] at hc
      have Hc := Lib.hid hc; clear hc
      go_wp2_with fail
      with_reducible refine (Hc.out).mono ?_
      rintro e v12 ⟨rfl, hb12⟩
      replace hoa := hoa.keep hb12
      replace hrows := hrows.keep hb12
      replace hoe := hoe.keep hb12
      replace acc := belowTrans acc hb12 (Nat.le_refl _)
      clear hb12
      clear Hc
      clear hcell hat0 Hf0
      obtain ⟨b1, o1, e_, _, hc_⟩ := hrows.cell (ni - 1) (by omega)
      cases e_
      obtain ⟨a1_, m1, d1, hcell, hat1⟩ := hc_ (ni - 1) (by omega)
      clear hc_
      rw [HL.out] at hoe
      have et : ((ni : Int) - 1).toNat = ni - 1 := by omega
      have h02 : ¬ (ni : Int) - 1 < 0 := by omega
      have h03 : (ni : Int) - 1 < (ni : Int) := by omega
      have h04 : (0 : Int) ≤ (ni : Int) - 1 := by omega
      have hc := pSame_any _ _ _ _ _ _ _ _ _ hat1 hoe.at
      rw [decide_eq_true rfl] at hc
      have Hc := Lib.hid hc; clear hc
      go_wp2_with fail
      with_reducible refine (Hc.out).mono ?_
      rintro e v13 ⟨rfl, hb13⟩
      replace hoa := hoa.keep hb13
      replace hrows := hrows.keep hb13
      replace hoe := hoe.keep hb13
      replace acc := belowTrans acc hb13 (Nat.le_refl _)
      clear hb13
      clear Hc
      clear hcell hat1 et h02 h03 h04
      clear hoe
      clear hoa
      by_cases h60 : (60 : Int) < (ni : Int)
      · skip
        go_wp2
        go_ret
        exact ⟨rfl, acc⟩
      · skip
        obtain ⟨wo, hwo⟩ : ∃ wo : World, wo = v13 := ⟨_, rfl⟩
        subst hwo
        go_wp2_with fail
        go_loopw [220] (fun i wr => ∃ j : Nat, j ≤ ni ∧ i = .int .i64 j ∧ Below w.heap.size w wr ∧ Below wo.heap.size wo wr) (fun i _ => ni - (intOf i).toNat)
        case atStart => exact ⟨0, Nat.zero_le _, rfl, acc, Below.refl _ _⟩
        case round =>
          obtain ⟨j, hj, rfl, hbw, hbo⟩ := hrel
          by_cases hlt : j < ni
          · skip
            replace hrows := hrows.keep hbo
            obtain ⟨b2, o2, e_, _, hc_⟩ := hrows.cell j hlt
            cases e_
            obtain ⟨a2_, m2, d2, hcell, hat⟩ := hc_ j hlt
            clear hc_
            obtain ⟨hfo, hf24, hfg⟩ := Hcl.out j (by rw [HL.out]; exact hlt)
            have hfl := fun W h => impl_FallsOf a2_ m2 d2 (P.getD j []) W h
            simp only [hfo] at hfl
            have hgr := fun k W h => impl_FallGrain a2_ m2 d2 (P.getD j []) k W h
            generalize fallsL (P.getD j []) = F at hfl hf24 hfg
            clear hfo
            have Hfl := Lib.hid hfl; clear hfl
            have Hgr := Lib.hid hgr; clear hgr
            have Hf24 := Lib.hid hf24; clear hf24
            have Hfg := Lib.hid hfg; clear hfg
            go_wp2_with fail
            with_reducible refine (Hfl.out _ hat).mono ?_
            rintro e v14 ⟨pf, nf, cf, rfl, hof, hb14⟩
            replace hrows := hrows.keep hb14
            replace hat := hat.keep hb14
            replace hbw := belowTrans hbw hb14 (Nat.le_refl _)
            replace hbo := belowTrans hbo hb14 (Nat.le_refl _)
            clear hb14
            clear hcell
            have hlf := hof.length
            have hnf8 : (nf : Int) ≤ 24 := by have := Hf24.out; omega
            have HLF := Lib.hid hlf; clear hlf
            obtain ⟨wi, hwi⟩ : ∃ wi : World, wi = v14 := ⟨_, rfl⟩
            subst hwi
            go_wp2_with fail
            go_loopw [233] (fun i wr => ∃ q : Nat, q ≤ nf ∧ i = .int .i64 q ∧ Below w.heap.size w wr ∧ Below wo.heap.size wo wr ∧ Below wi.heap.size wi wr) (fun i _ => nf - (intOf i).toNat)
            case atStart => exact ⟨0, Nat.zero_le _, rfl, hbw, hbo, Below.refl _ _⟩
            case round =>
              clear hbw hbo
              obtain ⟨q, hq, rfl, hbw, hbo, hbi⟩ := hrel
              by_cases hqf : q < nf
              · skip
                replace hrows := hrows.keep hbi
                replace hat := hat.keep hbi
                replace hof := hof.keep hbi
                obtain ⟨b3, o3, rfl, hbl3, hc3⟩ := hof.at.cell q hqf
                have hck3 := hc3 q hqf
                obtain ⟨kk, hk1, hk2, yy, hk3, hk4⟩ := Hfg.out q (by rw [HLF.out]; exact hqf)
                rw [hk1] at hck3
                have hgk := Hgr.out (kk : Int)
                simp only [hk3] at hgk
                have hkk8 : (kk : Int) ≤ 24 := by omega
                clear hc3 hbl3 hk1 hk3
                have Hgk := Lib.hid hgk; clear hgk
                have Hk4 := Lib.hid hk4; clear hk4
                go_wp2_with fail
                with_reducible refine (Hgk.out _ hat).mono ?_
                rintro e v15 ⟨py, ny, cy, rfl, hoy, hb15⟩
                replace hrows := hrows.keep hb15
                replace hat := hat.keep hb15
                replace hof := hof.keep hb15
                replace hbw := belowTrans hbw hb15 (Nat.le_refl _)
                replace hbo := belowTrans hbo hb15 (Nat.le_refl _)
                replace hbi := belowTrans hbi hb15 (Nat.le_refl _)
                clear hb15
                have hh := pHasList_any _ _ _ _ _ _ _ _ _ hrows hoy.at
                rw [decide_eq_true Hk4.out] at hh
                have Hh := Lib.hid hh; clear hh
                go_wp2_with fail
                with_reducible refine (Hh.out).mono ?_
                rintro e v16 ⟨rfl, hb16⟩
                replace hrows := hrows.keep hb16
                replace hat := hat.keep hb16
                replace hof := hof.keep hb16
                replace hoy := hoy.keep hb16
                replace hbw := belowTrans hbw hb16 (Nat.le_refl _)
                replace hbo := belowTrans hbo hb16 (Nat.le_refl _)
                replace hbi := belowTrans hbi hb16 (Nat.le_refl _)
                clear hb16
                go_wp2
                go_roundw
                case rel => exact ⟨q + 1, by omega, by go_num, hbw, hbo, hbi⟩
                case measure => simp [intOf] <;> omega
              · go_wp2
                go_roundw
                case rel => exact ⟨j + 1, by omega, by go_num, hbw, hbo⟩
                case measure => simp [intOf] <;> omega
          · go_wp2
            go_ret
            exact ⟨rfl, hbw⟩
    · simp only [hmc] at hg hg2
      have htt : (t != t) = false := by simp
      have hk := fun W h h' => impl_FallVector pb nb cb bs pc nc cc cs_ W h h'
      simp only [hfv] at hk
      have hk2 := fun W h h' => impl_FallsBetween pb nb cb bs pc nc cc cs_ W h h'
      simp only [hfb] at hk2
      have hwa := fun W h => impl_WeightOf pb nb cb bs W h
      simp only [mWeight_yes hbb] at hwa
      have hwb := fun W h => impl_WeightOf pc nc cc cs_ W h
      simp only [mWeight_yes hbc] at hwb
      have hsv := fun a n c W h (hn : n ≤ 1000) => pSumN_any a n c V W h (fun x hx => by have := hvb x hx; omega) hn
      have hwt := sand_wt (sand_iff.1 hbb)
      have hwt2 := sand_wt (sand_iff.1 hbc)
      rw [← hws] at hk2 hsv
      clear hmc hbb hbc hfv hfb hws
      generalize wt 0 bs = T at hwa hwt hk2 hsv
      generalize wt 0 cs_ = T2 at hwb hwt2 hk2 hsv
      have hTT : ((T2 - T) != (T2 - T)) = false := by simp
      have Hg := Lib.hid hg; clear hg
      have Hg2 := Lib.hid hg2; clear hg2
      have Hk := Lib.hid hk; clear hk
      have Hk2 := Lib.hid hk2; clear hk2
      have Hwa := Lib.hid hwa; clear hwa
      have Hwb := Lib.hid hwb; clear hwb
      have Hsv := Lib.hid hsv; clear hsv
      have Hvb := Lib.hid hvb; clear hvb
      have Hvl := Lib.hid hvl; clear hvl
      go_wp2_with fail
      with_reducible refine (Hg.out _ hob.at hoc.at).mono ?_
      rintro e v8 ⟨rfl, hb8⟩
      replace hoa := hoa.keep hb8
      replace hrows := hrows.keep hb8
      replace hob := hob.keep hb8
      replace hoc := hoc.keep hb8
      replace acc := belowTrans acc hb8 (Nat.le_refl _)
      clear hb8
      go_wp2_with fail
      with_reducible refine (Hg2.out _ hob.at hoc.at).mono ?_
      rintro e v9 ⟨rfl, hb9⟩
      replace hoa := hoa.keep hb9
      replace hrows := hrows.keep hb9
      replace hob := hob.keep hb9
      replace hoc := hoc.keep hb9
      replace acc := belowTrans acc hb9 (Nat.le_refl _)
      clear hb9
      go_wp2_with fail
      with_reducible refine (Hk.out _ hob.at hoc.at).mono ?_
      rintro e v10 ⟨pv, nv, cv, rfl, hov, hb10⟩
      replace hoa := hoa.keep hb10
      replace hrows := hrows.keep hb10
      replace hob := hob.keep hb10
      replace hoc := hoc.keep hb10
      replace acc := belowTrans acc hb10 (Nat.le_refl _)
      clear hb10
      go_wp2_with fail
      with_reducible refine (Hk2.out _ hob.at hoc.at).mono ?_
      rintro e v11 ⟨rfl, hb11⟩
      replace hoa := hoa.keep hb11
      replace hrows := hrows.keep hb11
      replace hob := hob.keep hb11
      replace hoc := hoc.keep hb11
      replace hov := hov.keep hb11
      replace acc := belowTrans acc hb11 (Nat.le_refl _)
      clear hb11
      go_wp2_with fail
      with_reducible refine (Hwa.out _ hob.at).mono ?_
      rintro e v12 ⟨rfl, hb12⟩
      replace hoa := hoa.keep hb12
      replace hrows := hrows.keep hb12
      replace hob := hob.keep hb12
      replace hoc := hoc.keep hb12
      replace hov := hov.keep hb12
      replace acc := belowTrans acc hb12 (Nat.le_refl _)
      clear hb12
      go_wp2_with fail
      with_reducible refine (Hwb.out _ hoc.at).mono ?_
      rintro e v13 ⟨rfl, hb13⟩
      replace hoa := hoa.keep hb13
      replace hrows := hrows.keep hb13
      replace hob := hob.keep hb13
      replace hoc := hoc.keep hb13
      replace hov := hov.keep hb13
      replace acc := belowTrans acc hb13 (Nat.le_refl _)
      clear hb13
      have hlv := hov.length
      have hnv : nv ≤ 24 := by have := Hvl.out; omega
      have hnv1 : nv ≤ 1000 := by omega
      have hnv8 : (nv : Int) ≤ 24 := by omega
      have HLV := Lib.hid hlv; clear hlv
      go_wp2_with fail
      with_reducible refine (Hsv.out _ _ _ _ hov.at hnv1).mono ?_
      rintro e w' ⟨rfl, rfl⟩
      clear Hg Hg2 Hk Hk2 Hwa Hwb Hsv
      clear hob
      clear hoc
      obtain ⟨wo, hwo⟩ : ∃ wo : World, wo = v13 := ⟨_, rfl⟩
      subst hwo
      go_wp2_with fail
      go_loopw [175] (fun i wr => ∃ j : Nat, j ≤ nv ∧ i = .int .i64 j ∧ Below w.heap.size w wr ∧ Below wo.heap.size wo wr) (fun i _ => nv - (intOf i).toNat)
      case atStart => exact ⟨0, Nat.zero_le _, rfl, acc, Below.refl _ _⟩
      case round =>
        obtain ⟨j, hj, rfl, hbw, hbo⟩ := hrel
        by_cases hlt : j < nv
        · skip
          replace hoa := hoa.keep hbo
          replace hrows := hrows.keep hbo
          replace hov := hov.keep hbo
          obtain ⟨b2, o2, rfl, hbl2, hc2⟩ := hov.at.cell j hlt
          have hck2 := hc2 j hlt
          have hbj2 := Hvb.out _ (mem_of_getD (xs := V) (i := j) (by rw [HLV.out]; exact hlt))
          clear hc2 hbl2
          generalize V.getD j 0 = X at hck2 hbj2
          have hX0 : ¬ X < 0 := by omega
          go_wp2
          go_roundw
          case rel => exact ⟨j + 1, by omega, by go_num, hbw, hbo⟩
          case measure => simp [intOf] <;> omega
        · skip
          replace hoa := hoa.keep hbo
          replace hrows := hrows.keep hbo
          replace hov := hov.keep hbo
          clear hbo
          have acc := hbw
          clear hbw hwt hwt2 hTT
          clear hov
          go_wp2_with fail
          with_reducible refine (Hse.out _ hoa.at).mono ?_
          rintro e v14 ⟨pe, ne, ce, rfl, hoe, hb14⟩
          replace hoa := hoa.keep hb14
          replace hrows := hrows.keep hb14
          replace acc := belowTrans acc hb14 (Nat.le_refl _)
          clear hb14
          clear Hse
          have hor := pOrdered_any _ _ _ _ _ hrows
          rw [Hord.out] at hor
          have Hor := Lib.hid hor; clear hor
          go_wp2_with fail
          with_reducible refine (Hor.out).mono ?_
          rintro e v15 ⟨rfl, hb15⟩
          replace hoa := hoa.keep hb15
          replace hrows := hrows.keep hb15
          replace hoe := hoe.keep hb15
          replace acc := belowTrans acc hb15 (Nat.le_refl _)
          clear hb15
          clear Hor Hord
          obtain ⟨b0, o0, e_, _, hc_⟩ := hrows.cell 0 hpos
          cases e_
          obtain ⟨a0_, m0, c0, hcell, hat0⟩ := hc_ 0 hpos
          clear hc_
          rw [Nat.add_zero] at hcell
          rw [Hf0.out] at hat0
          have h01 : (0 : Int) < (ni : Int) := by omega
          have hc := pSame_any _ _ _ _ _ _ _ _ _ hat0 hoa.at
          rw [decide_eq_true rfl] at hc
          have Hc := Lib.hid hc; clear hc
          go_wp2_with fail
          with_reducible refine (Hc.out).mono ?_
          rintro e v16 ⟨rfl, hb16⟩
          replace hoa := hoa.keep hb16
          replace hrows := hrows.keep hb16
          replace hoe := hoe.keep hb16
          replace acc := belowTrans acc hb16 (Nat.le_refl _)
          clear hb16
          clear Hc
          clear hcell hat0 Hf0
          obtain ⟨b1, o1, e_, _, hc_⟩ := hrows.cell (ni - 1) (by omega)
          cases e_
          obtain ⟨a1_, m1, d1, hcell, hat1⟩ := hc_ (ni - 1) (by omega)
          clear hc_
          rw [HL.out] at hoe
          have et : ((ni : Int) - 1).toNat = ni - 1 := by omega
          have h02 : ¬ (ni : Int) - 1 < 0 := by omega
          have h03 : (ni : Int) - 1 < (ni : Int) := by omega
          have h04 : (0 : Int) ≤ (ni : Int) - 1 := by omega
          have hc := pSame_any _ _ _ _ _ _ _ _ _ hat1 hoe.at
          rw [decide_eq_true rfl] at hc
          have Hc := Lib.hid hc; clear hc
          go_wp2_with fail
          with_reducible refine (Hc.out).mono ?_
          rintro e v17 ⟨rfl, hb17⟩
          replace hoa := hoa.keep hb17
          replace hrows := hrows.keep hb17
          replace hoe := hoe.keep hb17
          replace acc := belowTrans acc hb17 (Nat.le_refl _)
          clear hb17
          clear Hc
          clear hcell hat1 et h02 h03 h04
          clear hoe
          clear hoa
          by_cases h60 : (60 : Int) < (ni : Int)
          · skip
            go_wp2
            go_ret
            exact ⟨rfl, acc⟩
          · skip
            obtain ⟨wo, hwo⟩ : ∃ wo : World, wo = v17 := ⟨_, rfl⟩
            subst hwo
            go_wp2_with fail
            go_loopw [220] (fun i wr => ∃ j : Nat, j ≤ ni ∧ i = .int .i64 j ∧ Below w.heap.size w wr ∧ Below wo.heap.size wo wr) (fun i _ => ni - (intOf i).toNat)
            case atStart => exact ⟨0, Nat.zero_le _, rfl, acc, Below.refl _ _⟩
            case round =>
              obtain ⟨j, hj, rfl, hbw, hbo⟩ := hrel
              by_cases hlt : j < ni
              · skip
                replace hrows := hrows.keep hbo
                obtain ⟨b2, o2, e_, _, hc_⟩ := hrows.cell j hlt
                cases e_
                obtain ⟨a2_, m2, d2, hcell, hat⟩ := hc_ j hlt
                clear hc_
                obtain ⟨hfo, hf24, hfg⟩ := Hcl.out j (by rw [HL.out]; exact hlt)
                have hfl := fun W h => impl_FallsOf a2_ m2 d2 (P.getD j []) W h
                simp only [hfo] at hfl
                have hgr := fun k W h => impl_FallGrain a2_ m2 d2 (P.getD j []) k W h
                generalize fallsL (P.getD j []) = F at hfl hf24 hfg
                clear hfo
                have Hfl := Lib.hid hfl; clear hfl
                have Hgr := Lib.hid hgr; clear hgr
                have Hf24 := Lib.hid hf24; clear hf24
                have Hfg := Lib.hid hfg; clear hfg
                go_wp2_with fail
                with_reducible refine (Hfl.out _ hat).mono ?_
                rintro e v18 ⟨pf, nf, cf, rfl, hof, hb18⟩
                replace hrows := hrows.keep hb18
                replace hat := hat.keep hb18
                replace hbw := belowTrans hbw hb18 (Nat.le_refl _)
                replace hbo := belowTrans hbo hb18 (Nat.le_refl _)
                clear hb18
                clear hcell
                have hlf := hof.length
                have hnf8 : (nf : Int) ≤ 24 := by have := Hf24.out; omega
                have HLF := Lib.hid hlf; clear hlf
                obtain ⟨wi, hwi⟩ : ∃ wi : World, wi = v18 := ⟨_, rfl⟩
                subst hwi
                go_wp2_with fail
                go_loopw [233] (fun i wr => ∃ q : Nat, q ≤ nf ∧ i = .int .i64 q ∧ Below w.heap.size w wr ∧ Below wo.heap.size wo wr ∧ Below wi.heap.size wi wr) (fun i _ => nf - (intOf i).toNat)
                case atStart => exact ⟨0, Nat.zero_le _, rfl, hbw, hbo, Below.refl _ _⟩
                case round =>
                  clear hbw hbo
                  obtain ⟨q, hq, rfl, hbw, hbo, hbi⟩ := hrel
                  by_cases hqf : q < nf
                  · skip
                    replace hrows := hrows.keep hbi
                    replace hat := hat.keep hbi
                    replace hof := hof.keep hbi
                    obtain ⟨b3, o3, rfl, hbl3, hc3⟩ := hof.at.cell q hqf
                    have hck3 := hc3 q hqf
                    obtain ⟨kk, hk1, hk2, yy, hk3, hk4⟩ := Hfg.out q (by rw [HLF.out]; exact hqf)
                    rw [hk1] at hck3
                    have hgk := Hgr.out (kk : Int)
                    simp only [hk3] at hgk
                    have hkk8 : (kk : Int) ≤ 24 := by omega
                    clear hc3 hbl3 hk1 hk3
                    have Hgk := Lib.hid hgk; clear hgk
                    have Hk4 := Lib.hid hk4; clear hk4
                    go_wp2_with fail
                    with_reducible refine (Hgk.out _ hat).mono ?_
                    rintro e v19 ⟨py, ny, cy, rfl, hoy, hb19⟩
                    replace hrows := hrows.keep hb19
                    replace hat := hat.keep hb19
                    replace hof := hof.keep hb19
                    replace hbw := belowTrans hbw hb19 (Nat.le_refl _)
                    replace hbo := belowTrans hbo hb19 (Nat.le_refl _)
                    replace hbi := belowTrans hbi hb19 (Nat.le_refl _)
                    clear hb19
                    have hh := pHasList_any _ _ _ _ _ _ _ _ _ hrows hoy.at
                    rw [decide_eq_true Hk4.out] at hh
                    have Hh := Lib.hid hh; clear hh
                    go_wp2_with fail
                    with_reducible refine (Hh.out).mono ?_
                    rintro e v20 ⟨rfl, hb20⟩
                    replace hrows := hrows.keep hb20
                    replace hat := hat.keep hb20
                    replace hof := hof.keep hb20
                    replace hoy := hoy.keep hb20
                    replace hbw := belowTrans hbw hb20 (Nat.le_refl _)
                    replace hbo := belowTrans hbo hb20 (Nat.le_refl _)
                    replace hbi := belowTrans hbi hb20 (Nat.le_refl _)
                    clear hb20
                    go_wp2
                    go_roundw
                    case rel => exact ⟨q + 1, by omega, by go_num, hbw, hbo, hbi⟩
                    case measure => simp [intOf] <;> omega
                  · go_wp2
                    go_roundw
                    case rel => exact ⟨j + 1, by omega, by go_num, hbw, hbo⟩
                    case measure => simp [intOf] <;> omega
              · go_wp2
                go_ret
                exact ⟨rfl, hbw⟩

/-! ### THE ROW's STEP: WRITTEN OUT: LEAVE IT -/
set_option maxRecDepth 100000 in
theorem lifted (os : Os) (started : os.Started) (H : Type) (enc : TypeId × Value → H) :
    ReturnsInHanded {} Try.checked os 5 .any (Rows.fnReachIsClosedSpec.pre6 enc Try.prog Try.f5 Rows.fnReachIsClosedRow.domain false) (Rows.fnReachIsClosedSpec.post enc Try.prog Try.f5 false true false false) := by
  refine returnsInHanded_of_change (C := Try.checked) own started (by kernel_rfl) Try.func5
    (ChangeSpec.witness6 (enc := enc) (C := Try.checked) false ⟨#[], #[.slice none 0 0, .slice none 0 0], []⟩ 8 (by kernel_rfl) (by kernel_rfl) (by kernel_rfl) (by kernel_rfl)) ?_
  intro W base args ds gs before hval0 hW hcnd _
  have hval : ∀ (j : Nat) t v, Try.f5.params[j]? = some t → args[j]? = some v → Value.okWide Try.prog W .any base t v := hval0
  have hW' := hW
  obtain ⟨p, q, hA0, hV, rfl, hfz, hnd⟩ := hW
  have hA : DataW.TrodAll enc Try.prog W 0 (fun _ => true) true Try.f5.params.toList args.toList ds p := hA0
  rw [Try.params5] at hA hval
  obtain ⟨v0, vs0, d0, ds0, p0, q0, hargs, rfl, rfl, h0, r0⟩ := trodAll_cons hA
  obtain ⟨v1, vs1, d1, ds1, p1, q1, rfl, rfl, rfl, h1, r1⟩ := trodAll_cons r0
  obtain ⟨rfl, rfl, rfl⟩ := trodAll_nil r1
  obtain rfl : args = #[v0, v1] := by cases args; simp_all
  obtain ⟨rfl, rfl⟩ := trodVars_none hV
  obtain ⟨a0, len0, cap0, rfl⟩ := okWide_slice Try.underlying22 (hval 0 22 v0 rfl rfl)
  have k0 := h0
  have lt0 : ∀ x ∈ p0, x.block < W.heap.size := by obtain ⟨m, hm⟩ := k0; exact DataW.trod_lt m _ _ _ hm
  obtain ⟨z0, w0⟩ : ∃ zs, IsRow .u8 W a0 len0 cap0 zs := by
    obtain ⟨fuel, hf⟩ := h0
    rcases open_ints Try.underlying22 Try.underlying5 (by kernel_rfl) hf with ⟨hcs, _⟩ | ⟨x, l, c, zs, hcs, _, hl, hm, hz, _, hcell, hwz⟩
    · simp [Value.cells] at hcs
      obtain ⟨rfl, rfl, rfl⟩ := hcs
      exact ⟨[], .inl ⟨rfl, rfl, rfl, rfl⟩⟩
    · simp [Value.cells] at hcs
      obtain ⟨rfl, rfl, rfl⟩ := hcs
      exact ⟨zs, .inr ⟨_, rfl, hl, hm, by simpa using hz, hcell, hwz⟩⟩
  obtain ⟨a1, len1, cap1, rfl⟩ := okWide_slice Try.underlying22 (hval 1 22 v1 rfl rfl)
  have k1 := h1
  have lt1 : ∀ x ∈ p1, x.block < W.heap.size := by obtain ⟨m, hm⟩ := k1; exact DataW.trod_lt m _ _ _ hm
  obtain ⟨z1, w1⟩ : ∃ zs, IsRow .u8 W a1 len1 cap1 zs := by
    obtain ⟨fuel, hf⟩ := h1
    rcases open_ints Try.underlying22 Try.underlying5 (by kernel_rfl) hf with ⟨hcs, _⟩ | ⟨x, l, c, zs, hcs, _, hl, hm, hz, _, hcell, hwz⟩
    · simp [Value.cells] at hcs
      obtain ⟨rfl, rfl, rfl⟩ := hcs
      exact ⟨[], .inl ⟨rfl, rfl, rfl, rfl⟩⟩
    · simp [Value.cells] at hcs
      obtain ⟨rfl, rfl, rfl⟩ := hcs
      exact ⟨zs, .inr ⟨_, rfl, hl, hm, by simpa using hz, hcell, hwz⟩⟩
  clear hA0 hval0
  refine (walk a0 len0 cap0 z0 a1 len1 cap1 z1 W w0 w1).mono fun e W' ⟨he, bel⟩ => ?_
  subst he
  exact ⟨_, rfl, _, _, _, [], _, [], hW', trodAll_mk1 (shut_bool Try.underlying4 _), (trodAll_cons_mk (Below.trod laidOut (by kernel_rfl) (of_decide_eq_true (by kernel_rfl)) k0 bel lt0) (trodAll_cons_mk (Below.trod laidOut (by kernel_rfl) (of_decide_eq_true (by kernel_rfl)) k1 bel lt1) trodAll_mk0)), rfl, bel.frame _, fun h => by cases h⟩

theorem closedFacts : joinedFacts Try.prog 5 Try.f5 Rows.fnReachIsClosedSpec Rows.fnReachIsClosedRow = true := by
  unfold joinedFacts
  rw [head_enter, head_lifts, head_make]
  kernel_rfl
theorem closedHere : joinedFacts Try.pinned.checked.prog 5 Try.f5 Rows.fnReachIsClosedSpec Rows.fnReachIsClosedRow = true := by
  rw [progEq]
  exact closedFacts
theorem over : Rows.fnReachIsClosedRow.holds Try.pinned (OpenSpec.ofChange Rows.fnReachIsClosedSpec) :=
  OpenClaim.holds_of_wide 5 Try.f5 rfl rfl rfl rfl rfl rfl rfl ⟨rfl, rfl, rfl, rfl, rfl⟩ rfl rfl rfl rfl rfl (by kernel_rfl) Try.func5 closedHere
    (of_decide_eq_true (by kernel_rfl)) (by unfold Func.isWrapper; first | (rw [if_pos (by decide +kernel)]; kernel_rfl) | (rw [if_neg (by decide +kernel)]; exact ⟨rfl, rfl⟩))
    (fun os started H enc _ => lifted os started H enc)

/-- ████ THE STATEMENT ████ -/
theorem proved : Rows.FnReachIsClosedSaid := over
#print axioms proved
end Go.Proofs.Ythhhgmkjjagmaaa.fnReachIsClosed
