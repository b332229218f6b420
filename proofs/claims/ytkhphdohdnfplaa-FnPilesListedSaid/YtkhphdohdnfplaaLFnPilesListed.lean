/- FnPilesListed: for every input the law returns true and leaves its arguments as they were. No condition. -/
import Derived.Test.YtkhphdohdnfplaaRows
import Derived.WalkKit
import Derived.ProofKit
import Derived.OpenShut
import Derived.ShutString
import Derived.ChangeOld
import Derived.Below
import Derived.Test.YtkhphdohdnfplaaHead
import Derived.Test.YtkhphdohdnfplaaLawp
import Derived.Test.YtkhphdohdnfplaaLawq
import Derived.Test.YtkhphdohdnfplaaLawr
import Derived.Test.YtkhphdohdnfplaaDrawC
import Derived.Test.YtkhphdohdnfplaaWith
import Derived.Test.YtkhphdohdnfplaaRank
import Derived.Test.YtkhphdohdnfplaaAllI
import Derived.Test.YtkhphdohdnfplaaExA
import Derived.Test.YtkhphdohdnfplaaOrbB
import Derived.Test.YtkhphdohdnfplaaPileC
namespace Go.Proofs.Ytkhphdohdnfplaa.fnPilesListed
set_option linter.unusedSimpArgs false
open Go.ChangeShapes Go.WideShapes Go.ChangeAt Go.RowKit
open Go.ChangeMaps (open_string shut_string)
set_option linter.unusedVariables false

theorem own : ownKnob Try.prog.godebug = none := by kernel_rfl
theorem laidOut : laidOutB Try.prog = true := by kernel_rfl

/-- WHAT THE WALK IS TOLD OF A SLICE OF INTEGERS THAT CAME IN: it is nil; or it leads to a row of 'cap' cells, the numbers 'zs' (the first 'len' are its elements, the rest its spare room), each fitting its kind. -/
def IsRow (k : IntKind) (w : World) (a : Option Addr) (len cap : Nat) (zs : List Int) : Prop :=
  (a = none ∧ len = 0 ∧ cap = 0 ∧ zs = []) ∨
  ∃ x, a = some x ∧ len ≤ cap ∧ cap ≤ maxLen ∧ zs.length = cap ∧ (∀ i, i < zs.length → w.cell? (x.add i) = some (.int k (zs.getD i 0))) ∧ ∀ n ∈ zs, (Lit.int k n).wf = true

/-! ### THE WALK: the Go text returns true, AND WRITES NOTHING THAT WAS THERE: 'Below w.heap.size w w'' (Derived/Below.lean: '.refl', '.alloc', '.drew', '.setCell' at a new block, '.trans'). Open each 'IsRow' by 'rcases' AHEAD of 'go_enter'; part every test ahead of the walk. -/
set_option maxHeartbeats 4000000 in
set_option maxRecDepth 100000 in
theorem walk (a0 : Option Addr) (len0 cap0 : Nat) (z0 : List Int) (a1 : Option Addr) (len1 cap1 : Nat) (z1 : List Int) (w : World) (w0 : IsRow .u8 w a0 len0 cap0 z0) (w1 : IsRow .u8 w a1 len1 cap1 z1) :
    Calls Try.prog 6 #[.slice a0 len0 cap0, .slice a1 len1 cap1] w fun e w' => e = .returned (.bool true) ∧ Below w.heap.size w w' := by
  have by0 := byteIn_row w0
  have by1 := byteIn_row w1
  have hl0 : len0 ≤ maxLen := by
    rcases w0 with ⟨_, h, _⟩ | ⟨x, _, h, h', _⟩
    · rw [h]; exact Nat.zero_le _
    · exact Nat.le_trans h h'
  clear w0 w1
  by_cases hbig : 1048576 < len0 ∨ (1048576 : Int) - len0 < len1
  · have hb := big_yes a0 a1 len0 len1 cap0 cap1 w hbig hl0
    have Hb := Lib.hid hb; clear hb
    go_enter Try.func6, Try.ntmps6
    go_wp2_with fail
    with_reducible refine (Hb.out).mono ?_
    rintro e w' ⟨rfl, rfl⟩
    go_wp2
    go_ret
    exact ⟨rfl, Below.refl _ _⟩
  have hb := big_no a0 a1 len0 len1 cap0 cap1 w (by omega) (by omega)
  have hd := DrawPilesWith_any a0 len0 cap0 w (by omega) by0
  have hf := fun W (h : Below w.heap.size w W) => DrawAllPiles_any a1 len1 cap1 W (by omega) (by1.up (Nat.le_refl _) h h.size)
  have Hb := Lib.hid hb; clear hb
  have Hd := Lib.hid hd; clear hd
  have Hf := Lib.hid hf; clear hf
  clear by0 by1 hl0 hbig
  have acc : Below w.heap.size w w := Below.refl _ _
  go_enter Try.func6, Try.ntmps6
  go_wp2_with fail
  with_reducible refine (Hb.out).mono ?_
  rintro e w' ⟨rfl, rfl⟩
  clear Hb
  go_wp2_with fail
  with_reducible refine (Hd.out).mono ?_
  rintro e v1 ⟨n, rank, rfl, hn0, hn1, hr0, hr1, hb1⟩
  replace acc := belowTrans acc hb1 (Nat.le_refl _)
  clear hb1
  clear Hd
  have hi := fun W => impl_PilesWith n rank W
  have hs := fun W => spec_PilesWith n rank W
  have hc := fun W => impl_CountPiles n W
  have hq := fun W => spec_CountPiles n W
  by_cases hn : 0 ≤ n ∧ n ≤ 28
  · skip
    obtain ⟨N, hNN⟩ : ∃ N : Nat, n = N := ⟨n.toNat, by omega⟩
    have hN : N ≤ 28 := by omega
    have e2 : mCountPiles n = ((cnt N N : Int), true) := by unfold mCountPiles; rw [if_pos hn, hNN]; rfl
    simp only [e2] at hc hq
    have hcl := cnt_le N (by omega) N (by omega)
    obtain ⟨c, hcc⟩ : ∃ c : Int, (cnt N N : Int) = c := ⟨_, rfl⟩
    rw [hcc] at hc hq
    have hc8 : c ≤ 3718 := by omega
    have hmw : ∀ r : Int, mPilesWith n r = if 0 ≤ r ∧ r < c then (withL N r.toNat, true) else ([], false) := fun r => by
      unfold mPilesWith
      rw [hNN]
      by_cases h : 0 ≤ r ∧ r < c
      · rw [if_pos h, if_pos ⟨by omega, by omega, h.1, by rw [show ((N : Int)).toNat = N by omega, hcc]; exact h.2⟩]; rfl
      · rw [if_neg h, if_neg (fun hh => h ⟨hh.2.2.1, by have := hh.2.2.2; rw [show ((N : Int)).toNat = N by omega, hcc] at this; exact this⟩)]
    clear e2
    by_cases hlo : rank < 0
    · have e1 := hmw rank
      rw [if_neg (by omega)] at e1
      simp only [e1] at hi hs
      have hlo2 : ¬ (0 ≤ rank) := by omega
      clear hmw e1 hcc hcl hNN hn
      have Hi := Lib.hid hi; clear hi
      have Hs := Lib.hid hs; clear hs
      have Hc := Lib.hid hc; clear hc
      have Hq := Lib.hid hq; clear hq
      go_wp2_with fail
      with_reducible refine (Hi.out _).mono ?_
      rintro e v2 ⟨pi, ni, ci, rfl, hoi, hb2⟩
      replace acc := belowTrans acc hb2 (Nat.le_refl _)
      clear hb2
      go_wp2_with fail
      with_reducible refine (Hs.out _).mono ?_
      rintro e v3 ⟨ps, ns, cs, rfl, hos, hb3⟩
      replace hoi := hoi.keep hb3
      replace acc := belowTrans acc hb3 (Nat.le_refl _)
      clear hb3
      go_wp2_with fail
      with_reducible refine (Hc.out _).mono ?_
      rintro e v4 ⟨rfl, hb4⟩
      replace hoi := hoi.keep hb4
      replace hos := hos.keep hb4
      replace acc := belowTrans acc hb4 (Nat.le_refl _)
      clear hb4
      go_wp2_with fail
      with_reducible refine (Hq.out _).mono ?_
      rintro e v5 ⟨rfl, hb5⟩
      replace hoi := hoi.keep hb5
      replace hos := hos.keep hb5
      replace acc := belowTrans acc hb5 (Nat.le_refl _)
      clear hb5
      clear Hi Hs Hc Hq
      have hc := pSame_any _ _ _ _ _ _ _ _ _ hoi.at hos.at
      rw [decide_eq_true rfl] at hc
      have Hc := Lib.hid hc; clear hc
      go_wp2_with fail
      with_reducible refine (Hc.out).mono ?_
      rintro e v6 ⟨rfl, hb6⟩
      replace hoi := hoi.keep hb6
      replace hos := hos.keep hb6
      replace acc := belowTrans acc hb6 (Nat.le_refl _)
      clear hb6
      clear Hc
      clear hos
      go_wp2_with fail
      with_reducible refine (Hf.out _ acc).mono ?_
      rintro e v7 ⟨m, rfl, hm0, hm1, hb7⟩
      replace hoi := hoi.keep hb7
      replace acc := belowTrans acc hb7 (Nat.le_refl _)
      clear hb7
      clear Hf
      have hi := fun W => impl_AllPiles m W
      have hs := fun W => spec_AllPiles m W
      have hc := fun W => impl_CountPiles m W
      by_cases hm : 0 ≤ m ∧ m ≤ 28
      · skip
        obtain ⟨M, hMM⟩ : ∃ M : Nat, m = M := ⟨m.toNat, by omega⟩
        have hM : M ≤ 28 := by omega
        have e1 : mAllPiles m = (allL M, true) := by rw [hMM]; exact mAll_yes M hM
        have e2 : mCountPiles m = ((cnt M M : Int), true) := by unfold mCountPiles; rw [if_pos hm, hMM]; rfl
        simp only [e1] at hi hs
        simp only [e2] at hc
        have hlen := allL_length hM
        have hord := ordB_of (allL_up M)
        have hat : ∀ j, j < cnt M M → (allL M).getD j [] = withL M j ∧ goodB (withL M j) = true ∧ rankL (withL M j) = (j : Int) := fun j hj => by
          refine ⟨?_, good_iff.2 (allL_good hM (withL_mem hM hj)).1, rankL_with hM hj⟩
          rw [List.getD_eq_getElem?_getD, allL_at hM hj]; rfl
        rw [← hlen] at hat hc
        generalize allL M = C at hi hs hc hord hat
        clear e1 e2 hlen hm hMM
        have Hi := Lib.hid hi; clear hi
        have Hs := Lib.hid hs; clear hs
        have Hc := Lib.hid hc; clear hc
        have Hord := Lib.hid hord; clear hord
        have Hat := Lib.hid hat; clear hat
        go_wp2_with fail
        with_reducible refine (Hi.out _).mono ?_
        rintro e v8 ⟨pa, na, ca, rfl, hoa, hb8⟩
        replace hoi := hoi.keep hb8
        replace acc := belowTrans acc hb8 (Nat.le_refl _)
        clear hb8
        go_wp2_with fail
        with_reducible refine (Hs.out _).mono ?_
        rintro e v9 ⟨pb, nb, cb, rfl, hob, hb9⟩
        replace hoi := hoi.keep hb9
        replace hoa := hoa.keep hb9
        replace acc := belowTrans acc hb9 (Nat.le_refl _)
        clear hb9
        clear Hi Hs
        have hc := pSameLists_any _ _ _ _ _ _ _ _ _ hoa.at hob.at
        rw [decide_eq_true rfl] at hc
        have Hc := Lib.hid hc; clear hc
        go_wp2_with fail
        with_reducible refine (Hc.out).mono ?_
        rintro e v10 ⟨rfl, hb10⟩
        replace hoi := hoi.keep hb10
        replace hoa := hoa.keep hb10
        replace hob := hob.keep hb10
        replace acc := belowTrans acc hb10 (Nat.le_refl _)
        clear hb10
        clear Hc
        clear hob
        go_wp2_with fail
        with_reducible refine (Hc.out _).mono ?_
        rintro e v11 ⟨rfl, hb11⟩
        replace hoi := hoi.keep hb11
        replace hoa := hoa.keep hb11
        replace acc := belowTrans acc hb11 (Nat.le_refl _)
        clear hb11
        have hl := hoa.length
        have hna8 := hoa.at.lenInt
        rw [hl]
        have ho := pOrdered_any _ _ _ _ _ hoa.at
        rw [Hord.out] at ho
        have Ho := Lib.hid ho; clear ho
        have Hl := Lib.hid hl; clear hl
        go_wp2_with fail
        with_reducible refine (Ho.out).mono ?_
        rintro e v12 ⟨rfl, hb12⟩
        replace hoi := hoi.keep hb12
        replace hoa := hoa.keep hb12
        replace acc := belowTrans acc hb12 (Nat.le_refl _)
        clear hb12
        clear Hc Ho Hord
        have hrows := hoa.at
        clear hoa
        obtain ⟨wo, hwo⟩ : ∃ wo : World, wo = v12 := ⟨_, rfl⟩
        subst hwo
        go_wp2_with fail
        go_loopw [135] (fun i wr => ∃ j : Nat, j ≤ na ∧ i = .int .i64 j ∧ Below w.heap.size w wr ∧ Below wo.heap.size wo wr) (fun i _ => na - (intOf i).toNat)
        case atStart => exact ⟨0, Nat.zero_le _, rfl, acc, Below.refl _ _⟩
        case round =>
          obtain ⟨j, hj, rfl, hbw, hbo⟩ := hrel
          by_cases hlt : j < na
          · skip
            replace hoi := hoi.keep hbo
            replace hrows := hrows.keep hbo
            have t1 : Int.tmod (j : Int) 7 = ((j % 7 : Nat) : Int) := tmod_nat j 7
            obtain ⟨b1, o1, e_, _, hc_⟩ := hrows.cell j hlt
            cases e_
            obtain ⟨a1_, m1, d1, hcell, hat1⟩ := hc_ j hlt
            clear hc_
            obtain ⟨hg1, hg2, hg3⟩ := Hat.out j (by rw [Hl.out]; exact hlt)
            rw [hg1] at hat1
            have hrk := fun W h => impl_RankPiles a1_ m1 d1 (withL M j) W h
            simp only [mRank_yes hg2, hg3] at hrk
            have his := fun W h => impl_IsPiles a1_ m1 d1 (withL M j) W h
            rw [show mIsPiles (withL M j) = true from hg2] at his
            generalize withL M j = X at hrk his hat1
            clear hg1 hg2 hg3
            have Hrk := Lib.hid hrk; clear hrk
            have His := Lib.hid his; clear his
            by_cases h7 : j % 7 = 0
            · rw [h7] at t1
              rw [show ((0 : Nat) : Int) = 0 from rfl] at t1
              go_wp2_with fail
              with_reducible refine (Hrk.out _ hat1).mono ?_
              rintro e v13 ⟨rfl, hb13⟩
              replace hat1 := hat1.keep hb13
              replace hbw := belowTrans hbw hb13 (Nat.le_refl _)
              replace hbo := belowTrans hbo hb13 (Nat.le_refl _)
              clear hb13
              go_wp2_with fail
              with_reducible refine (His.out _ hat1).mono ?_
              rintro e v14 ⟨rfl, hb14⟩
              replace hat1 := hat1.keep hb14
              replace hbw := belowTrans hbw hb14 (Nat.le_refl _)
              replace hbo := belowTrans hbo hb14 (Nat.le_refl _)
              clear hb14
              go_wp2
              go_roundw
              case rel => exact ⟨j + 1, by omega, by go_num, hbw, hbo⟩
              case measure => simp [intOf] <;> omega
            · generalize j % 7 = z at t1 h7
              have h7i : ¬ ((z : Int) = 0) := by omega
              go_wp2
              go_roundw
              case rel => exact ⟨j + 1, by omega, by go_num, hbw, hbo⟩
              case measure => simp [intOf] <;> omega
          · skip
            replace hoi := hoi.keep hbo
            replace hrows := hrows.keep hbo
            clear hbo
            clear hrows
            go_wp2
            go_ret
            exact ⟨rfl, hbw⟩
      · skip
        have e1 : mAllPiles m = ([], false) := mAll_no m hm
        simp only [e1] at hi hs
        clear hc
        have Hi := Lib.hid hi; clear hi
        have Hs := Lib.hid hs; clear hs
        go_wp2_with fail
        with_reducible refine (Hi.out _).mono ?_
        rintro e v8 ⟨pa, na, ca, rfl, hoa, hb8⟩
        replace hoi := hoi.keep hb8
        replace acc := belowTrans acc hb8 (Nat.le_refl _)
        clear hb8
        go_wp2_with fail
        with_reducible refine (Hs.out _).mono ?_
        rintro e v9 ⟨pb, nb, cb, rfl, hob, hb9⟩
        replace hoi := hoi.keep hb9
        replace hoa := hoa.keep hb9
        replace acc := belowTrans acc hb9 (Nat.le_refl _)
        clear hb9
        clear Hi Hs
        have hc := pSameLists_any _ _ _ _ _ _ _ _ _ hoa.at hob.at
        rw [decide_eq_true rfl] at hc
        have Hc := Lib.hid hc; clear hc
        go_wp2_with fail
        with_reducible refine (Hc.out).mono ?_
        rintro e v10 ⟨rfl, hb10⟩
        replace hoi := hoi.keep hb10
        replace hoa := hoa.keep hb10
        replace hob := hob.keep hb10
        replace acc := belowTrans acc hb10 (Nat.le_refl _)
        clear hb10
        clear Hc
        clear hob
        clear hoa
        go_wp2
        go_ret
        exact ⟨rfl, acc⟩
    by_cases hhi : c ≤ rank
    · have e1 := hmw rank
      rw [if_neg (by omega)] at e1
      simp only [e1] at hi hs
      have hlo2 : 0 ≤ rank := by omega
      have hhi2 : ¬ (rank < c) := by omega
      clear hmw e1 hcc hcl hNN hn
      have Hi := Lib.hid hi; clear hi
      have Hs := Lib.hid hs; clear hs
      have Hc := Lib.hid hc; clear hc
      have Hq := Lib.hid hq; clear hq
      go_wp2_with fail
      with_reducible refine (Hi.out _).mono ?_
      rintro e v2 ⟨pi, ni, ci, rfl, hoi, hb2⟩
      replace acc := belowTrans acc hb2 (Nat.le_refl _)
      clear hb2
      go_wp2_with fail
      with_reducible refine (Hs.out _).mono ?_
      rintro e v3 ⟨ps, ns, cs, rfl, hos, hb3⟩
      replace hoi := hoi.keep hb3
      replace acc := belowTrans acc hb3 (Nat.le_refl _)
      clear hb3
      go_wp2_with fail
      with_reducible refine (Hc.out _).mono ?_
      rintro e v4 ⟨rfl, hb4⟩
      replace hoi := hoi.keep hb4
      replace hos := hos.keep hb4
      replace acc := belowTrans acc hb4 (Nat.le_refl _)
      clear hb4
      go_wp2_with fail
      with_reducible refine (Hq.out _).mono ?_
      rintro e v5 ⟨rfl, hb5⟩
      replace hoi := hoi.keep hb5
      replace hos := hos.keep hb5
      replace acc := belowTrans acc hb5 (Nat.le_refl _)
      clear hb5
      clear Hi Hs Hc Hq
      have hc := pSame_any _ _ _ _ _ _ _ _ _ hoi.at hos.at
      rw [decide_eq_true rfl] at hc
      have Hc := Lib.hid hc; clear hc
      go_wp2_with fail
      with_reducible refine (Hc.out).mono ?_
      rintro e v6 ⟨rfl, hb6⟩
      replace hoi := hoi.keep hb6
      replace hos := hos.keep hb6
      replace acc := belowTrans acc hb6 (Nat.le_refl _)
      clear hb6
      clear Hc
      clear hos
      go_wp2_with fail
      with_reducible refine (Hf.out _ acc).mono ?_
      rintro e v7 ⟨m, rfl, hm0, hm1, hb7⟩
      replace hoi := hoi.keep hb7
      replace acc := belowTrans acc hb7 (Nat.le_refl _)
      clear hb7
      clear Hf
      have hi := fun W => impl_AllPiles m W
      have hs := fun W => spec_AllPiles m W
      have hc := fun W => impl_CountPiles m W
      by_cases hm : 0 ≤ m ∧ m ≤ 28
      · skip
        obtain ⟨M, hMM⟩ : ∃ M : Nat, m = M := ⟨m.toNat, by omega⟩
        have hM : M ≤ 28 := by omega
        have e1 : mAllPiles m = (allL M, true) := by rw [hMM]; exact mAll_yes M hM
        have e2 : mCountPiles m = ((cnt M M : Int), true) := by unfold mCountPiles; rw [if_pos hm, hMM]; rfl
        simp only [e1] at hi hs
        simp only [e2] at hc
        have hlen := allL_length hM
        have hord := ordB_of (allL_up M)
        have hat : ∀ j, j < cnt M M → (allL M).getD j [] = withL M j ∧ goodB (withL M j) = true ∧ rankL (withL M j) = (j : Int) := fun j hj => by
          refine ⟨?_, good_iff.2 (allL_good hM (withL_mem hM hj)).1, rankL_with hM hj⟩
          rw [List.getD_eq_getElem?_getD, allL_at hM hj]; rfl
        rw [← hlen] at hat hc
        generalize allL M = C at hi hs hc hord hat
        clear e1 e2 hlen hm hMM
        have Hi := Lib.hid hi; clear hi
        have Hs := Lib.hid hs; clear hs
        have Hc := Lib.hid hc; clear hc
        have Hord := Lib.hid hord; clear hord
        have Hat := Lib.hid hat; clear hat
        go_wp2_with fail
        with_reducible refine (Hi.out _).mono ?_
        rintro e v8 ⟨pa, na, ca, rfl, hoa, hb8⟩
        replace hoi := hoi.keep hb8
        replace acc := belowTrans acc hb8 (Nat.le_refl _)
        clear hb8
        go_wp2_with fail
        with_reducible refine (Hs.out _).mono ?_
        rintro e v9 ⟨pb, nb, cb, rfl, hob, hb9⟩
        replace hoi := hoi.keep hb9
        replace hoa := hoa.keep hb9
        replace acc := belowTrans acc hb9 (Nat.le_refl _)
        clear hb9
        clear Hi Hs
        have hc := pSameLists_any _ _ _ _ _ _ _ _ _ hoa.at hob.at
        rw [decide_eq_true rfl] at hc
        have Hc := Lib.hid hc; clear hc
        go_wp2_with fail
        with_reducible refine (Hc.out).mono ?_
        rintro e v10 ⟨rfl, hb10⟩
        replace hoi := hoi.keep hb10
        replace hoa := hoa.keep hb10
        replace hob := hob.keep hb10
        replace acc := belowTrans acc hb10 (Nat.le_refl _)
        clear hb10
        clear Hc
        clear hob
        go_wp2_with fail
        with_reducible refine (Hc.out _).mono ?_
        rintro e v11 ⟨rfl, hb11⟩
        replace hoi := hoi.keep hb11
        replace hoa := hoa.keep hb11
        replace acc := belowTrans acc hb11 (Nat.le_refl _)
        clear hb11
        have hl := hoa.length
        have hna8 := hoa.at.lenInt
        rw [hl]
        have ho := pOrdered_any _ _ _ _ _ hoa.at
        rw [Hord.out] at ho
        have Ho := Lib.hid ho; clear ho
        have Hl := Lib.hid hl; clear hl
        go_wp2_with fail
        with_reducible refine (Ho.out).mono ?_
        rintro e v12 ⟨rfl, hb12⟩
        replace hoi := hoi.keep hb12
        replace hoa := hoa.keep hb12
        replace acc := belowTrans acc hb12 (Nat.le_refl _)
        clear hb12
        clear Hc Ho Hord
        have hrows := hoa.at
        clear hoa
        obtain ⟨wo, hwo⟩ : ∃ wo : World, wo = v12 := ⟨_, rfl⟩
        subst hwo
        go_wp2_with fail
        go_loopw [135] (fun i wr => ∃ j : Nat, j ≤ na ∧ i = .int .i64 j ∧ Below w.heap.size w wr ∧ Below wo.heap.size wo wr) (fun i _ => na - (intOf i).toNat)
        case atStart => exact ⟨0, Nat.zero_le _, rfl, acc, Below.refl _ _⟩
        case round =>
          obtain ⟨j, hj, rfl, hbw, hbo⟩ := hrel
          by_cases hlt : j < na
          · skip
            replace hoi := hoi.keep hbo
            replace hrows := hrows.keep hbo
            have t1 : Int.tmod (j : Int) 7 = ((j % 7 : Nat) : Int) := tmod_nat j 7
            obtain ⟨b1, o1, e_, _, hc_⟩ := hrows.cell j hlt
            cases e_
            obtain ⟨a1_, m1, d1, hcell, hat1⟩ := hc_ j hlt
            clear hc_
            obtain ⟨hg1, hg2, hg3⟩ := Hat.out j (by rw [Hl.out]; exact hlt)
            rw [hg1] at hat1
            have hrk := fun W h => impl_RankPiles a1_ m1 d1 (withL M j) W h
            simp only [mRank_yes hg2, hg3] at hrk
            have his := fun W h => impl_IsPiles a1_ m1 d1 (withL M j) W h
            rw [show mIsPiles (withL M j) = true from hg2] at his
            generalize withL M j = X at hrk his hat1
            clear hg1 hg2 hg3
            have Hrk := Lib.hid hrk; clear hrk
            have His := Lib.hid his; clear his
            by_cases h7 : j % 7 = 0
            · rw [h7] at t1
              rw [show ((0 : Nat) : Int) = 0 from rfl] at t1
              go_wp2_with fail
              with_reducible refine (Hrk.out _ hat1).mono ?_
              rintro e v13 ⟨rfl, hb13⟩
              replace hat1 := hat1.keep hb13
              replace hbw := belowTrans hbw hb13 (Nat.le_refl _)
              replace hbo := belowTrans hbo hb13 (Nat.le_refl _)
              clear hb13
              go_wp2_with fail
              with_reducible refine (His.out _ hat1).mono ?_
              rintro e v14 ⟨rfl, hb14⟩
              replace hat1 := hat1.keep hb14
              replace hbw := belowTrans hbw hb14 (Nat.le_refl _)
              replace hbo := belowTrans hbo hb14 (Nat.le_refl _)
              clear hb14
              go_wp2
              go_roundw
              case rel => exact ⟨j + 1, by omega, by go_num, hbw, hbo⟩
              case measure => simp [intOf] <;> omega
            · generalize j % 7 = z at t1 h7
              have h7i : ¬ ((z : Int) = 0) := by omega
              go_wp2
              go_roundw
              case rel => exact ⟨j + 1, by omega, by go_num, hbw, hbo⟩
              case measure => simp [intOf] <;> omega
          · skip
            replace hoi := hoi.keep hbo
            replace hrows := hrows.keep hbo
            clear hbo
            clear hrows
            go_wp2
            go_ret
            exact ⟨rfl, hbw⟩
      · skip
        have e1 : mAllPiles m = ([], false) := mAll_no m hm
        simp only [e1] at hi hs
        clear hc
        have Hi := Lib.hid hi; clear hi
        have Hs := Lib.hid hs; clear hs
        go_wp2_with fail
        with_reducible refine (Hi.out _).mono ?_
        rintro e v8 ⟨pa, na, ca, rfl, hoa, hb8⟩
        replace hoi := hoi.keep hb8
        replace acc := belowTrans acc hb8 (Nat.le_refl _)
        clear hb8
        go_wp2_with fail
        with_reducible refine (Hs.out _).mono ?_
        rintro e v9 ⟨pb, nb, cb, rfl, hob, hb9⟩
        replace hoi := hoi.keep hb9
        replace hoa := hoa.keep hb9
        replace acc := belowTrans acc hb9 (Nat.le_refl _)
        clear hb9
        clear Hi Hs
        have hc := pSameLists_any _ _ _ _ _ _ _ _ _ hoa.at hob.at
        rw [decide_eq_true rfl] at hc
        have Hc := Lib.hid hc; clear hc
        go_wp2_with fail
        with_reducible refine (Hc.out).mono ?_
        rintro e v10 ⟨rfl, hb10⟩
        replace hoi := hoi.keep hb10
        replace hoa := hoa.keep hb10
        replace hob := hob.keep hb10
        replace acc := belowTrans acc hb10 (Nat.le_refl _)
        clear hb10
        clear Hc
        clear hob
        clear hoa
        go_wp2
        go_ret
        exact ⟨rfl, acc⟩
    have e1 := hmw rank
    rw [if_pos (by omega)] at e1
    simp only [e1] at hi hs
    have hlo2 : 0 ≤ rank := by omega
    have hhi2 : rank < c := by omega
    obtain ⟨R, hRR⟩ : ∃ R : Nat, rank = R := ⟨rank.toNat, by omega⟩
    have hRc : R < cnt N N := by omega
    have hgw := allL_good hN (withL_mem hN hRc)
    have hrw := rankL_with hN hRc
    rw [← hRR] at hrw
    rw [show rank.toNat = R by omega] at hi hs
    have hrkA := fun a k q W h => impl_RankPiles a k q (withL N R) W h
    simp only [mRank_yes (good_iff.2 hgw.1), hrw] at hrkA
    have hsA := fun a k q W h => pSum_any a k q (withL N R) W h hgw.1
    rw [hgw.2, ← hNN] at hsA
    have hnx := fun W => impl_PilesWith n (rank + 1) W
    have e3 := hmw (rank + 1)
    clear hmw e1
    by_cases hup : rank + 1 < c
    · skip
      rw [if_pos (by omega), show (rank + 1).toNat = R + 1 by omega] at e3
      simp only [e3] at hnx
      have hbef := withL_next hN (show R + 1 < cnt N N by omega)
      generalize withL N (R + 1) = Y at hnx hbef
      generalize withL N R = X at hi hs hrkA hsA hbef
      clear e3 hgw hrw hRR hRc hcl hcc hN hNN
      have Hi := Lib.hid hi; clear hi
      have Hs := Lib.hid hs; clear hs
      have Hc := Lib.hid hc; clear hc
      have Hq := Lib.hid hq; clear hq
      have HrkA := Lib.hid hrkA; clear hrkA
      have HsA := Lib.hid hsA; clear hsA
      have Hnx := Lib.hid hnx; clear hnx
      have Hbef := Lib.hid hbef; clear hbef
      go_wp2_with fail
      with_reducible refine (Hi.out _).mono ?_
      rintro e v2 ⟨pi, ni, ci, rfl, hoi, hb2⟩
      replace acc := belowTrans acc hb2 (Nat.le_refl _)
      clear hb2
      go_wp2_with fail
      with_reducible refine (Hs.out _).mono ?_
      rintro e v3 ⟨ps, ns, cs, rfl, hos, hb3⟩
      replace hoi := hoi.keep hb3
      replace acc := belowTrans acc hb3 (Nat.le_refl _)
      clear hb3
      go_wp2_with fail
      with_reducible refine (Hc.out _).mono ?_
      rintro e v4 ⟨rfl, hb4⟩
      replace hoi := hoi.keep hb4
      replace hos := hos.keep hb4
      replace acc := belowTrans acc hb4 (Nat.le_refl _)
      clear hb4
      go_wp2_with fail
      with_reducible refine (Hq.out _).mono ?_
      rintro e v5 ⟨rfl, hb5⟩
      replace hoi := hoi.keep hb5
      replace hos := hos.keep hb5
      replace acc := belowTrans acc hb5 (Nat.le_refl _)
      clear hb5
      clear Hi Hs Hc Hq
      have hc := pSame_any _ _ _ _ _ _ _ _ _ hoi.at hos.at
      rw [decide_eq_true rfl] at hc
      have Hc := Lib.hid hc; clear hc
      go_wp2_with fail
      with_reducible refine (Hc.out).mono ?_
      rintro e v6 ⟨rfl, hb6⟩
      replace hoi := hoi.keep hb6
      replace hos := hos.keep hb6
      replace acc := belowTrans acc hb6 (Nat.le_refl _)
      clear hb6
      clear Hc
      clear hos
      go_wp2_with fail
      with_reducible refine (Hf.out _ acc).mono ?_
      rintro e v7 ⟨m, rfl, hm0, hm1, hb7⟩
      replace hoi := hoi.keep hb7
      replace acc := belowTrans acc hb7 (Nat.le_refl _)
      clear hb7
      clear Hf
      have hi := fun W => impl_AllPiles m W
      have hs := fun W => spec_AllPiles m W
      have hc := fun W => impl_CountPiles m W
      by_cases hm : 0 ≤ m ∧ m ≤ 28
      · skip
        obtain ⟨M, hMM⟩ : ∃ M : Nat, m = M := ⟨m.toNat, by omega⟩
        have hM : M ≤ 28 := by omega
        have e1 : mAllPiles m = (allL M, true) := by rw [hMM]; exact mAll_yes M hM
        have e2 : mCountPiles m = ((cnt M M : Int), true) := by unfold mCountPiles; rw [if_pos hm, hMM]; rfl
        simp only [e1] at hi hs
        simp only [e2] at hc
        have hlen := allL_length hM
        have hord := ordB_of (allL_up M)
        have hat : ∀ j, j < cnt M M → (allL M).getD j [] = withL M j ∧ goodB (withL M j) = true ∧ rankL (withL M j) = (j : Int) := fun j hj => by
          refine ⟨?_, good_iff.2 (allL_good hM (withL_mem hM hj)).1, rankL_with hM hj⟩
          rw [List.getD_eq_getElem?_getD, allL_at hM hj]; rfl
        rw [← hlen] at hat hc
        generalize allL M = C at hi hs hc hord hat
        clear e1 e2 hlen hm hMM
        have Hi := Lib.hid hi; clear hi
        have Hs := Lib.hid hs; clear hs
        have Hc := Lib.hid hc; clear hc
        have Hord := Lib.hid hord; clear hord
        have Hat := Lib.hid hat; clear hat
        go_wp2_with fail
        with_reducible refine (Hi.out _).mono ?_
        rintro e v8 ⟨pa, na, ca, rfl, hoa, hb8⟩
        replace hoi := hoi.keep hb8
        replace acc := belowTrans acc hb8 (Nat.le_refl _)
        clear hb8
        go_wp2_with fail
        with_reducible refine (Hs.out _).mono ?_
        rintro e v9 ⟨pb, nb, cb, rfl, hob, hb9⟩
        replace hoi := hoi.keep hb9
        replace hoa := hoa.keep hb9
        replace acc := belowTrans acc hb9 (Nat.le_refl _)
        clear hb9
        clear Hi Hs
        have hc := pSameLists_any _ _ _ _ _ _ _ _ _ hoa.at hob.at
        rw [decide_eq_true rfl] at hc
        have Hc := Lib.hid hc; clear hc
        go_wp2_with fail
        with_reducible refine (Hc.out).mono ?_
        rintro e v10 ⟨rfl, hb10⟩
        replace hoi := hoi.keep hb10
        replace hoa := hoa.keep hb10
        replace hob := hob.keep hb10
        replace acc := belowTrans acc hb10 (Nat.le_refl _)
        clear hb10
        clear Hc
        clear hob
        go_wp2_with fail
        with_reducible refine (Hc.out _).mono ?_
        rintro e v11 ⟨rfl, hb11⟩
        replace hoi := hoi.keep hb11
        replace hoa := hoa.keep hb11
        replace acc := belowTrans acc hb11 (Nat.le_refl _)
        clear hb11
        have hl := hoa.length
        have hna8 := hoa.at.lenInt
        rw [hl]
        have ho := pOrdered_any _ _ _ _ _ hoa.at
        rw [Hord.out] at ho
        have Ho := Lib.hid ho; clear ho
        have Hl := Lib.hid hl; clear hl
        go_wp2_with fail
        with_reducible refine (Ho.out).mono ?_
        rintro e v12 ⟨rfl, hb12⟩
        replace hoi := hoi.keep hb12
        replace hoa := hoa.keep hb12
        replace acc := belowTrans acc hb12 (Nat.le_refl _)
        clear hb12
        clear Hc Ho Hord
        have hrows := hoa.at
        clear hoa
        obtain ⟨wo, hwo⟩ : ∃ wo : World, wo = v12 := ⟨_, rfl⟩
        subst hwo
        go_wp2_with fail
        go_loopw [135] (fun i wr => ∃ j : Nat, j ≤ na ∧ i = .int .i64 j ∧ Below w.heap.size w wr ∧ Below wo.heap.size wo wr) (fun i _ => na - (intOf i).toNat)
        case atStart => exact ⟨0, Nat.zero_le _, rfl, acc, Below.refl _ _⟩
        case round =>
          obtain ⟨j, hj, rfl, hbw, hbo⟩ := hrel
          by_cases hlt : j < na
          · skip
            replace hoi := hoi.keep hbo
            replace hrows := hrows.keep hbo
            have t1 : Int.tmod (j : Int) 7 = ((j % 7 : Nat) : Int) := tmod_nat j 7
            obtain ⟨b1, o1, e_, _, hc_⟩ := hrows.cell j hlt
            cases e_
            obtain ⟨a1_, m1, d1, hcell, hat1⟩ := hc_ j hlt
            clear hc_
            obtain ⟨hg1, hg2, hg3⟩ := Hat.out j (by rw [Hl.out]; exact hlt)
            rw [hg1] at hat1
            have hrk := fun W h => impl_RankPiles a1_ m1 d1 (withL M j) W h
            simp only [mRank_yes hg2, hg3] at hrk
            have his := fun W h => impl_IsPiles a1_ m1 d1 (withL M j) W h
            rw [show mIsPiles (withL M j) = true from hg2] at his
            generalize withL M j = X at hrk his hat1
            clear hg1 hg2 hg3
            have Hrk := Lib.hid hrk; clear hrk
            have His := Lib.hid his; clear his
            by_cases h7 : j % 7 = 0
            · rw [h7] at t1
              rw [show ((0 : Nat) : Int) = 0 from rfl] at t1
              go_wp2_with fail
              with_reducible refine (Hrk.out _ hat1).mono ?_
              rintro e v13 ⟨rfl, hb13⟩
              replace hat1 := hat1.keep hb13
              replace hbw := belowTrans hbw hb13 (Nat.le_refl _)
              replace hbo := belowTrans hbo hb13 (Nat.le_refl _)
              clear hb13
              go_wp2_with fail
              with_reducible refine (His.out _ hat1).mono ?_
              rintro e v14 ⟨rfl, hb14⟩
              replace hat1 := hat1.keep hb14
              replace hbw := belowTrans hbw hb14 (Nat.le_refl _)
              replace hbo := belowTrans hbo hb14 (Nat.le_refl _)
              clear hb14
              go_wp2
              go_roundw
              case rel => exact ⟨j + 1, by omega, by go_num, hbw, hbo⟩
              case measure => simp [intOf] <;> omega
            · generalize j % 7 = z at t1 h7
              have h7i : ¬ ((z : Int) = 0) := by omega
              go_wp2
              go_roundw
              case rel => exact ⟨j + 1, by omega, by go_num, hbw, hbo⟩
              case measure => simp [intOf] <;> omega
          · skip
            replace hoi := hoi.keep hbo
            replace hrows := hrows.keep hbo
            clear hbo
            clear hrows
            go_wp2_with fail
            with_reducible refine (HrkA.out _ _ _ _ hoi.at).mono ?_
            rintro e v13 ⟨rfl, hb13⟩
            replace hoi := hoi.keep hb13
            replace hbw := belowTrans hbw hb13 (Nat.le_refl _)
            clear hb13
            go_wp2_with fail
            with_reducible refine (Hnx.out _).mono ?_
            rintro e v14 ⟨pn, nn, cn, rfl, hon, hb14⟩
            replace hoi := hoi.keep hb14
            replace hbw := belowTrans hbw hb14 (Nat.le_refl _)
            clear hb14
            go_wp2_with fail
            with_reducible refine (HsA.out _ _ _ _ hoi.at).mono ?_
            rintro e w' ⟨rfl, rfl⟩
            have hpb := pBefore_any _ _ _ _ _ _ _ _ _ hoi.at hon.at
            rw [Hbef.out] at hpb
            have Hpb := Lib.hid hpb; clear hpb
            go_wp2_with fail
            with_reducible refine (Hpb.out).mono ?_
            rintro e v15 ⟨rfl, hb15⟩
            replace hoi := hoi.keep hb15
            replace hon := hon.keep hb15
            replace hbw := belowTrans hbw hb15 (Nat.le_refl _)
            clear hb15
            go_wp2
            go_ret
            exact ⟨rfl, hbw⟩
      · skip
        have e1 : mAllPiles m = ([], false) := mAll_no m hm
        simp only [e1] at hi hs
        clear hc
        have Hi := Lib.hid hi; clear hi
        have Hs := Lib.hid hs; clear hs
        go_wp2_with fail
        with_reducible refine (Hi.out _).mono ?_
        rintro e v8 ⟨pa, na, ca, rfl, hoa, hb8⟩
        replace hoi := hoi.keep hb8
        replace acc := belowTrans acc hb8 (Nat.le_refl _)
        clear hb8
        go_wp2_with fail
        with_reducible refine (Hs.out _).mono ?_
        rintro e v9 ⟨pb, nb, cb, rfl, hob, hb9⟩
        replace hoi := hoi.keep hb9
        replace hoa := hoa.keep hb9
        replace acc := belowTrans acc hb9 (Nat.le_refl _)
        clear hb9
        clear Hi Hs
        have hc := pSameLists_any _ _ _ _ _ _ _ _ _ hoa.at hob.at
        rw [decide_eq_true rfl] at hc
        have Hc := Lib.hid hc; clear hc
        go_wp2_with fail
        with_reducible refine (Hc.out).mono ?_
        rintro e v10 ⟨rfl, hb10⟩
        replace hoi := hoi.keep hb10
        replace hoa := hoa.keep hb10
        replace hob := hob.keep hb10
        replace acc := belowTrans acc hb10 (Nat.le_refl _)
        clear hb10
        clear Hc
        clear hob
        clear hoa
        go_wp2_with fail
        with_reducible refine (HrkA.out _ _ _ _ hoi.at).mono ?_
        rintro e v11 ⟨rfl, hb11⟩
        replace hoi := hoi.keep hb11
        replace acc := belowTrans acc hb11 (Nat.le_refl _)
        clear hb11
        go_wp2_with fail
        with_reducible refine (Hnx.out _).mono ?_
        rintro e v12 ⟨pn, nn, cn, rfl, hon, hb12⟩
        replace hoi := hoi.keep hb12
        replace acc := belowTrans acc hb12 (Nat.le_refl _)
        clear hb12
        go_wp2_with fail
        with_reducible refine (HsA.out _ _ _ _ hoi.at).mono ?_
        rintro e w' ⟨rfl, rfl⟩
        have hpb := pBefore_any _ _ _ _ _ _ _ _ _ hoi.at hon.at
        rw [Hbef.out] at hpb
        have Hpb := Lib.hid hpb; clear hpb
        go_wp2_with fail
        with_reducible refine (Hpb.out).mono ?_
        rintro e v13 ⟨rfl, hb13⟩
        replace hoi := hoi.keep hb13
        replace hon := hon.keep hb13
        replace acc := belowTrans acc hb13 (Nat.le_refl _)
        clear hb13
        go_wp2
        go_ret
        exact ⟨rfl, acc⟩
    · skip
      have hupd : decide (rank + 1 < c) = false := decide_eq_false hup
      rw [if_neg (by omega)] at e3
      simp only [e3] at hnx
      generalize withL N R = X at hi hs hrkA hsA
      clear e3 hgw hrw hRR hRc hcl hcc hN hNN
      have Hi := Lib.hid hi; clear hi
      have Hs := Lib.hid hs; clear hs
      have Hc := Lib.hid hc; clear hc
      have Hq := Lib.hid hq; clear hq
      have HrkA := Lib.hid hrkA; clear hrkA
      have HsA := Lib.hid hsA; clear hsA
      have Hnx := Lib.hid hnx; clear hnx
      go_wp2_with fail
      with_reducible refine (Hi.out _).mono ?_
      rintro e v2 ⟨pi, ni, ci, rfl, hoi, hb2⟩
      replace acc := belowTrans acc hb2 (Nat.le_refl _)
      clear hb2
      go_wp2_with fail
      with_reducible refine (Hs.out _).mono ?_
      rintro e v3 ⟨ps, ns, cs, rfl, hos, hb3⟩
      replace hoi := hoi.keep hb3
      replace acc := belowTrans acc hb3 (Nat.le_refl _)
      clear hb3
      go_wp2_with fail
      with_reducible refine (Hc.out _).mono ?_
      rintro e v4 ⟨rfl, hb4⟩
      replace hoi := hoi.keep hb4
      replace hos := hos.keep hb4
      replace acc := belowTrans acc hb4 (Nat.le_refl _)
      clear hb4
      go_wp2_with fail
      with_reducible refine (Hq.out _).mono ?_
      rintro e v5 ⟨rfl, hb5⟩
      replace hoi := hoi.keep hb5
      replace hos := hos.keep hb5
      replace acc := belowTrans acc hb5 (Nat.le_refl _)
      clear hb5
      clear Hi Hs Hc Hq
      have hc := pSame_any _ _ _ _ _ _ _ _ _ hoi.at hos.at
      rw [decide_eq_true rfl] at hc
      have Hc := Lib.hid hc; clear hc
      go_wp2_with fail
      with_reducible refine (Hc.out).mono ?_
      rintro e v6 ⟨rfl, hb6⟩
      replace hoi := hoi.keep hb6
      replace hos := hos.keep hb6
      replace acc := belowTrans acc hb6 (Nat.le_refl _)
      clear hb6
      clear Hc
      clear hos
      go_wp2_with fail
      with_reducible refine (Hf.out _ acc).mono ?_
      rintro e v7 ⟨m, rfl, hm0, hm1, hb7⟩
      replace hoi := hoi.keep hb7
      replace acc := belowTrans acc hb7 (Nat.le_refl _)
      clear hb7
      clear Hf
      have hi := fun W => impl_AllPiles m W
      have hs := fun W => spec_AllPiles m W
      have hc := fun W => impl_CountPiles m W
      by_cases hm : 0 ≤ m ∧ m ≤ 28
      · skip
        obtain ⟨M, hMM⟩ : ∃ M : Nat, m = M := ⟨m.toNat, by omega⟩
        have hM : M ≤ 28 := by omega
        have e1 : mAllPiles m = (allL M, true) := by rw [hMM]; exact mAll_yes M hM
        have e2 : mCountPiles m = ((cnt M M : Int), true) := by unfold mCountPiles; rw [if_pos hm, hMM]; rfl
        simp only [e1] at hi hs
        simp only [e2] at hc
        have hlen := allL_length hM
        have hord := ordB_of (allL_up M)
        have hat : ∀ j, j < cnt M M → (allL M).getD j [] = withL M j ∧ goodB (withL M j) = true ∧ rankL (withL M j) = (j : Int) := fun j hj => by
          refine ⟨?_, good_iff.2 (allL_good hM (withL_mem hM hj)).1, rankL_with hM hj⟩
          rw [List.getD_eq_getElem?_getD, allL_at hM hj]; rfl
        rw [← hlen] at hat hc
        generalize allL M = C at hi hs hc hord hat
        clear e1 e2 hlen hm hMM
        have Hi := Lib.hid hi; clear hi
        have Hs := Lib.hid hs; clear hs
        have Hc := Lib.hid hc; clear hc
        have Hord := Lib.hid hord; clear hord
        have Hat := Lib.hid hat; clear hat
        go_wp2_with fail
        with_reducible refine (Hi.out _).mono ?_
        rintro e v8 ⟨pa, na, ca, rfl, hoa, hb8⟩
        replace hoi := hoi.keep hb8
        replace acc := belowTrans acc hb8 (Nat.le_refl _)
        clear hb8
        go_wp2_with fail
        with_reducible refine (Hs.out _).mono ?_
        rintro e v9 ⟨pb, nb, cb, rfl, hob, hb9⟩
        replace hoi := hoi.keep hb9
        replace hoa := hoa.keep hb9
        replace acc := belowTrans acc hb9 (Nat.le_refl _)
        clear hb9
        clear Hi Hs
        have hc := pSameLists_any _ _ _ _ _ _ _ _ _ hoa.at hob.at
        rw [decide_eq_true rfl] at hc
        have Hc := Lib.hid hc; clear hc
        go_wp2_with fail
        with_reducible refine (Hc.out).mono ?_
        rintro e v10 ⟨rfl, hb10⟩
        replace hoi := hoi.keep hb10
        replace hoa := hoa.keep hb10
        replace hob := hob.keep hb10
        replace acc := belowTrans acc hb10 (Nat.le_refl _)
        clear hb10
        clear Hc
        clear hob
        go_wp2_with fail
        with_reducible refine (Hc.out _).mono ?_
        rintro e v11 ⟨rfl, hb11⟩
        replace hoi := hoi.keep hb11
        replace hoa := hoa.keep hb11
        replace acc := belowTrans acc hb11 (Nat.le_refl _)
        clear hb11
        have hl := hoa.length
        have hna8 := hoa.at.lenInt
        rw [hl]
        have ho := pOrdered_any _ _ _ _ _ hoa.at
        rw [Hord.out] at ho
        have Ho := Lib.hid ho; clear ho
        have Hl := Lib.hid hl; clear hl
        go_wp2_with fail
        with_reducible refine (Ho.out).mono ?_
        rintro e v12 ⟨rfl, hb12⟩
        replace hoi := hoi.keep hb12
        replace hoa := hoa.keep hb12
        replace acc := belowTrans acc hb12 (Nat.le_refl _)
        clear hb12
        clear Hc Ho Hord
        have hrows := hoa.at
        clear hoa
        obtain ⟨wo, hwo⟩ : ∃ wo : World, wo = v12 := ⟨_, rfl⟩
        subst hwo
        go_wp2_with fail
        go_loopw [135] (fun i wr => ∃ j : Nat, j ≤ na ∧ i = .int .i64 j ∧ Below w.heap.size w wr ∧ Below wo.heap.size wo wr) (fun i _ => na - (intOf i).toNat)
        case atStart => exact ⟨0, Nat.zero_le _, rfl, acc, Below.refl _ _⟩
        case round =>
          obtain ⟨j, hj, rfl, hbw, hbo⟩ := hrel
          by_cases hlt : j < na
          · skip
            replace hoi := hoi.keep hbo
            replace hrows := hrows.keep hbo
            have t1 : Int.tmod (j : Int) 7 = ((j % 7 : Nat) : Int) := tmod_nat j 7
            obtain ⟨b1, o1, e_, _, hc_⟩ := hrows.cell j hlt
            cases e_
            obtain ⟨a1_, m1, d1, hcell, hat1⟩ := hc_ j hlt
            clear hc_
            obtain ⟨hg1, hg2, hg3⟩ := Hat.out j (by rw [Hl.out]; exact hlt)
            rw [hg1] at hat1
            have hrk := fun W h => impl_RankPiles a1_ m1 d1 (withL M j) W h
            simp only [mRank_yes hg2, hg3] at hrk
            have his := fun W h => impl_IsPiles a1_ m1 d1 (withL M j) W h
            rw [show mIsPiles (withL M j) = true from hg2] at his
            generalize withL M j = X at hrk his hat1
            clear hg1 hg2 hg3
            have Hrk := Lib.hid hrk; clear hrk
            have His := Lib.hid his; clear his
            by_cases h7 : j % 7 = 0
            · rw [h7] at t1
              rw [show ((0 : Nat) : Int) = 0 from rfl] at t1
              go_wp2_with fail
              with_reducible refine (Hrk.out _ hat1).mono ?_
              rintro e v13 ⟨rfl, hb13⟩
              replace hat1 := hat1.keep hb13
              replace hbw := belowTrans hbw hb13 (Nat.le_refl _)
              replace hbo := belowTrans hbo hb13 (Nat.le_refl _)
              clear hb13
              go_wp2_with fail
              with_reducible refine (His.out _ hat1).mono ?_
              rintro e v14 ⟨rfl, hb14⟩
              replace hat1 := hat1.keep hb14
              replace hbw := belowTrans hbw hb14 (Nat.le_refl _)
              replace hbo := belowTrans hbo hb14 (Nat.le_refl _)
              clear hb14
              go_wp2
              go_roundw
              case rel => exact ⟨j + 1, by omega, by go_num, hbw, hbo⟩
              case measure => simp [intOf] <;> omega
            · generalize j % 7 = z at t1 h7
              have h7i : ¬ ((z : Int) = 0) := by omega
              go_wp2
              go_roundw
              case rel => exact ⟨j + 1, by omega, by go_num, hbw, hbo⟩
              case measure => simp [intOf] <;> omega
          · skip
            replace hoi := hoi.keep hbo
            replace hrows := hrows.keep hbo
            clear hbo
            clear hrows
            go_wp2_with fail
            with_reducible refine (HrkA.out _ _ _ _ hoi.at).mono ?_
            rintro e v13 ⟨rfl, hb13⟩
            replace hoi := hoi.keep hb13
            replace hbw := belowTrans hbw hb13 (Nat.le_refl _)
            clear hb13
            go_wp2_with fail
            with_reducible refine (Hnx.out _).mono ?_
            rintro e v14 ⟨pn, nn, cn, rfl, hon, hb14⟩
            replace hoi := hoi.keep hb14
            replace hbw := belowTrans hbw hb14 (Nat.le_refl _)
            clear hb14
            go_wp2_with fail
            with_reducible refine (HsA.out _ _ _ _ hoi.at).mono ?_
            rintro e w' ⟨rfl, rfl⟩
            go_wp2
            go_ret
            exact ⟨rfl, hbw⟩
      · skip
        have e1 : mAllPiles m = ([], false) := mAll_no m hm
        simp only [e1] at hi hs
        clear hc
        have Hi := Lib.hid hi; clear hi
        have Hs := Lib.hid hs; clear hs
        go_wp2_with fail
        with_reducible refine (Hi.out _).mono ?_
        rintro e v8 ⟨pa, na, ca, rfl, hoa, hb8⟩
        replace hoi := hoi.keep hb8
        replace acc := belowTrans acc hb8 (Nat.le_refl _)
        clear hb8
        go_wp2_with fail
        with_reducible refine (Hs.out _).mono ?_
        rintro e v9 ⟨pb, nb, cb, rfl, hob, hb9⟩
        replace hoi := hoi.keep hb9
        replace hoa := hoa.keep hb9
        replace acc := belowTrans acc hb9 (Nat.le_refl _)
        clear hb9
        clear Hi Hs
        have hc := pSameLists_any _ _ _ _ _ _ _ _ _ hoa.at hob.at
        rw [decide_eq_true rfl] at hc
        have Hc := Lib.hid hc; clear hc
        go_wp2_with fail
        with_reducible refine (Hc.out).mono ?_
        rintro e v10 ⟨rfl, hb10⟩
        replace hoi := hoi.keep hb10
        replace hoa := hoa.keep hb10
        replace hob := hob.keep hb10
        replace acc := belowTrans acc hb10 (Nat.le_refl _)
        clear hb10
        clear Hc
        clear hob
        clear hoa
        go_wp2_with fail
        with_reducible refine (HrkA.out _ _ _ _ hoi.at).mono ?_
        rintro e v11 ⟨rfl, hb11⟩
        replace hoi := hoi.keep hb11
        replace acc := belowTrans acc hb11 (Nat.le_refl _)
        clear hb11
        go_wp2_with fail
        with_reducible refine (Hnx.out _).mono ?_
        rintro e v12 ⟨pn, nn, cn, rfl, hon, hb12⟩
        replace hoi := hoi.keep hb12
        replace acc := belowTrans acc hb12 (Nat.le_refl _)
        clear hb12
        go_wp2_with fail
        with_reducible refine (HsA.out _ _ _ _ hoi.at).mono ?_
        rintro e w' ⟨rfl, rfl⟩
        go_wp2
        go_ret
        exact ⟨rfl, acc⟩
  · skip
    have e1 : mPilesWith n rank = ([], false) := by unfold mPilesWith; rw [if_neg (fun h => hn ⟨h.1, h.2.1⟩)]
    have e2 : mCountPiles n = (0, false) := by unfold mCountPiles; rw [if_neg hn]
    simp only [e1] at hi hs
    simp only [e2] at hc hq
    clear e1 e2
    have Hi := Lib.hid hi; clear hi
    have Hs := Lib.hid hs; clear hs
    have Hc := Lib.hid hc; clear hc
    have Hq := Lib.hid hq; clear hq
    go_wp2_with fail
    with_reducible refine (Hi.out _).mono ?_
    rintro e v2 ⟨pi, ni, ci, rfl, hoi, hb2⟩
    replace acc := belowTrans acc hb2 (Nat.le_refl _)
    clear hb2
    go_wp2_with fail
    with_reducible refine (Hs.out _).mono ?_
    rintro e v3 ⟨ps, ns, cs, rfl, hos, hb3⟩
    replace hoi := hoi.keep hb3
    replace acc := belowTrans acc hb3 (Nat.le_refl _)
    clear hb3
    go_wp2_with fail
    with_reducible refine (Hc.out _).mono ?_
    rintro e v4 ⟨rfl, hb4⟩
    replace hoi := hoi.keep hb4
    replace hos := hos.keep hb4
    replace acc := belowTrans acc hb4 (Nat.le_refl _)
    clear hb4
    go_wp2_with fail
    with_reducible refine (Hq.out _).mono ?_
    rintro e v5 ⟨rfl, hb5⟩
    replace hoi := hoi.keep hb5
    replace hos := hos.keep hb5
    replace acc := belowTrans acc hb5 (Nat.le_refl _)
    clear hb5
    clear Hi Hs Hc Hq
    have hc := pSame_any _ _ _ _ _ _ _ _ _ hoi.at hos.at
    rw [decide_eq_true rfl] at hc
    have Hc := Lib.hid hc; clear hc
    go_wp2_with fail
    with_reducible refine (Hc.out).mono ?_
    rintro e v6 ⟨rfl, hb6⟩
    replace hoi := hoi.keep hb6
    replace hos := hos.keep hb6
    replace acc := belowTrans acc hb6 (Nat.le_refl _)
    clear hb6
    clear Hc
    clear hos
    go_wp2_with fail
    with_reducible refine (Hf.out _ acc).mono ?_
    rintro e v7 ⟨m, rfl, hm0, hm1, hb7⟩
    replace hoi := hoi.keep hb7
    replace acc := belowTrans acc hb7 (Nat.le_refl _)
    clear hb7
    clear Hf
    have hi := fun W => impl_AllPiles m W
    have hs := fun W => spec_AllPiles m W
    have hc := fun W => impl_CountPiles m W
    by_cases hm : 0 ≤ m ∧ m ≤ 28
    · skip
      obtain ⟨M, hMM⟩ : ∃ M : Nat, m = M := ⟨m.toNat, by omega⟩
      have hM : M ≤ 28 := by omega
      have e1 : mAllPiles m = (allL M, true) := by rw [hMM]; exact mAll_yes M hM
      have e2 : mCountPiles m = ((cnt M M : Int), true) := by unfold mCountPiles; rw [if_pos hm, hMM]; rfl
      simp only [e1] at hi hs
      simp only [e2] at hc
      have hlen := allL_length hM
      have hord := ordB_of (allL_up M)
      have hat : ∀ j, j < cnt M M → (allL M).getD j [] = withL M j ∧ goodB (withL M j) = true ∧ rankL (withL M j) = (j : Int) := fun j hj => by
        refine ⟨?_, good_iff.2 (allL_good hM (withL_mem hM hj)).1, rankL_with hM hj⟩
        rw [List.getD_eq_getElem?_getD, allL_at hM hj]; rfl
      rw [← hlen] at hat hc
      generalize allL M = C at hi hs hc hord hat
      clear e1 e2 hlen hm hMM
      have Hi := Lib.hid hi; clear hi
      have Hs := Lib.hid hs; clear hs
      have Hc := Lib.hid hc; clear hc
      have Hord := Lib.hid hord; clear hord
      have Hat := Lib.hid hat; clear hat
      go_wp2_with fail
      with_reducible refine (Hi.out _).mono ?_
      rintro e v8 ⟨pa, na, ca, rfl, hoa, hb8⟩
      replace hoi := hoi.keep hb8
      replace acc := belowTrans acc hb8 (Nat.le_refl _)
      clear hb8
      go_wp2_with fail
      with_reducible refine (Hs.out _).mono ?_
      rintro e v9 ⟨pb, nb, cb, rfl, hob, hb9⟩
      replace hoi := hoi.keep hb9
      replace hoa := hoa.keep hb9
      replace acc := belowTrans acc hb9 (Nat.le_refl _)
      clear hb9
      clear Hi Hs
      have hc := pSameLists_any _ _ _ _ _ _ _ _ _ hoa.at hob.at
      rw [decide_eq_true rfl] at hc
      have Hc := Lib.hid hc; clear hc
      go_wp2_with fail
      with_reducible refine (Hc.out).mono ?_
      rintro e v10 ⟨rfl, hb10⟩
      replace hoi := hoi.keep hb10
      replace hoa := hoa.keep hb10
      replace hob := hob.keep hb10
      replace acc := belowTrans acc hb10 (Nat.le_refl _)
      clear hb10
      clear Hc
      clear hob
      go_wp2_with fail
      with_reducible refine (Hc.out _).mono ?_
      rintro e v11 ⟨rfl, hb11⟩
      replace hoi := hoi.keep hb11
      replace hoa := hoa.keep hb11
      replace acc := belowTrans acc hb11 (Nat.le_refl _)
      clear hb11
      have hl := hoa.length
      have hna8 := hoa.at.lenInt
      rw [hl]
      have ho := pOrdered_any _ _ _ _ _ hoa.at
      rw [Hord.out] at ho
      have Ho := Lib.hid ho; clear ho
      have Hl := Lib.hid hl; clear hl
      go_wp2_with fail
      with_reducible refine (Ho.out).mono ?_
      rintro e v12 ⟨rfl, hb12⟩
      replace hoi := hoi.keep hb12
      replace hoa := hoa.keep hb12
      replace acc := belowTrans acc hb12 (Nat.le_refl _)
      clear hb12
      clear Hc Ho Hord
      have hrows := hoa.at
      clear hoa
      obtain ⟨wo, hwo⟩ : ∃ wo : World, wo = v12 := ⟨_, rfl⟩
      subst hwo
      go_wp2_with fail
      go_loopw [135] (fun i wr => ∃ j : Nat, j ≤ na ∧ i = .int .i64 j ∧ Below w.heap.size w wr ∧ Below wo.heap.size wo wr) (fun i _ => na - (intOf i).toNat)
      case atStart => exact ⟨0, Nat.zero_le _, rfl, acc, Below.refl _ _⟩
      case round =>
        obtain ⟨j, hj, rfl, hbw, hbo⟩ := hrel
        by_cases hlt : j < na
        · skip
          replace hoi := hoi.keep hbo
          replace hrows := hrows.keep hbo
          have t1 : Int.tmod (j : Int) 7 = ((j % 7 : Nat) : Int) := tmod_nat j 7
          obtain ⟨b1, o1, e_, _, hc_⟩ := hrows.cell j hlt
          cases e_
          obtain ⟨a1_, m1, d1, hcell, hat1⟩ := hc_ j hlt
          clear hc_
          obtain ⟨hg1, hg2, hg3⟩ := Hat.out j (by rw [Hl.out]; exact hlt)
          rw [hg1] at hat1
          have hrk := fun W h => impl_RankPiles a1_ m1 d1 (withL M j) W h
          simp only [mRank_yes hg2, hg3] at hrk
          have his := fun W h => impl_IsPiles a1_ m1 d1 (withL M j) W h
          rw [show mIsPiles (withL M j) = true from hg2] at his
          generalize withL M j = X at hrk his hat1
          clear hg1 hg2 hg3
          have Hrk := Lib.hid hrk; clear hrk
          have His := Lib.hid his; clear his
          by_cases h7 : j % 7 = 0
          · rw [h7] at t1
            rw [show ((0 : Nat) : Int) = 0 from rfl] at t1
            go_wp2_with fail
            with_reducible refine (Hrk.out _ hat1).mono ?_
            rintro e v13 ⟨rfl, hb13⟩
            replace hat1 := hat1.keep hb13
            replace hbw := belowTrans hbw hb13 (Nat.le_refl _)
            replace hbo := belowTrans hbo hb13 (Nat.le_refl _)
            clear hb13
            go_wp2_with fail
            with_reducible refine (His.out _ hat1).mono ?_
            rintro e v14 ⟨rfl, hb14⟩
            replace hat1 := hat1.keep hb14
            replace hbw := belowTrans hbw hb14 (Nat.le_refl _)
            replace hbo := belowTrans hbo hb14 (Nat.le_refl _)
            clear hb14
            go_wp2
            go_roundw
            case rel => exact ⟨j + 1, by omega, by go_num, hbw, hbo⟩
            case measure => simp [intOf] <;> omega
          · generalize j % 7 = z at t1 h7
            have h7i : ¬ ((z : Int) = 0) := by omega
            go_wp2
            go_roundw
            case rel => exact ⟨j + 1, by omega, by go_num, hbw, hbo⟩
            case measure => simp [intOf] <;> omega
        · skip
          replace hoi := hoi.keep hbo
          replace hrows := hrows.keep hbo
          clear hbo
          clear hrows
          go_wp2
          go_ret
          exact ⟨rfl, hbw⟩
    · skip
      have e1 : mAllPiles m = ([], false) := mAll_no m hm
      simp only [e1] at hi hs
      clear hc
      have Hi := Lib.hid hi; clear hi
      have Hs := Lib.hid hs; clear hs
      go_wp2_with fail
      with_reducible refine (Hi.out _).mono ?_
      rintro e v8 ⟨pa, na, ca, rfl, hoa, hb8⟩
      replace hoi := hoi.keep hb8
      replace acc := belowTrans acc hb8 (Nat.le_refl _)
      clear hb8
      go_wp2_with fail
      with_reducible refine (Hs.out _).mono ?_
      rintro e v9 ⟨pb, nb, cb, rfl, hob, hb9⟩
      replace hoi := hoi.keep hb9
      replace hoa := hoa.keep hb9
      replace acc := belowTrans acc hb9 (Nat.le_refl _)
      clear hb9
      clear Hi Hs
      have hc := pSameLists_any _ _ _ _ _ _ _ _ _ hoa.at hob.at
      rw [decide_eq_true rfl] at hc
      have Hc := Lib.hid hc; clear hc
      go_wp2_with fail
      with_reducible refine (Hc.out).mono ?_
      rintro e v10 ⟨rfl, hb10⟩
      replace hoi := hoi.keep hb10
      replace hoa := hoa.keep hb10
      replace hob := hob.keep hb10
      replace acc := belowTrans acc hb10 (Nat.le_refl _)
      clear hb10
      clear Hc
      clear hob
      clear hoa
      go_wp2
      go_ret
      exact ⟨rfl, acc⟩

/-! ### THE ROW's STEP: WRITTEN OUT: LEAVE IT -/
set_option maxRecDepth 100000 in
theorem lifted (os : Os) (started : os.Started) (H : Type) (enc : TypeId × Value → H) :
    ReturnsInHanded {} Try.checked os 6 .any (Rows.fnPilesListedSpec.pre6 enc Try.prog Try.f6 Rows.fnPilesListedRow.domain false) (Rows.fnPilesListedSpec.post enc Try.prog Try.f6 false true false false) := by
  refine returnsInHanded_of_change (C := Try.checked) own started (by kernel_rfl) Try.func6
    (ChangeSpec.witness6 (enc := enc) (C := Try.checked) false ⟨#[], #[.slice none 0 0, .slice none 0 0], []⟩ 8 (by kernel_rfl) (by kernel_rfl) (by kernel_rfl) (by kernel_rfl)) ?_
  intro W base args ds gs before hval0 hW hcnd _
  have hval : ∀ (j : Nat) t v, Try.f6.params[j]? = some t → args[j]? = some v → Value.okWide Try.prog W .any base t v := hval0
  have hW' := hW
  obtain ⟨p, q, hA0, hV, rfl, hfz, hnd⟩ := hW
  have hA : DataW.TrodAll enc Try.prog W 0 (fun _ => true) true Try.f6.params.toList args.toList ds p := hA0
  rw [Try.params6] at hA hval
  obtain ⟨v0, vs0, d0, ds0, p0, q0, hargs, rfl, rfl, h0, r0⟩ := trodAll_cons hA
  obtain ⟨v1, vs1, d1, ds1, p1, q1, rfl, rfl, rfl, h1, r1⟩ := trodAll_cons r0
  obtain ⟨rfl, rfl, rfl⟩ := trodAll_nil r1
  obtain rfl : args = #[v0, v1] := by cases args; simp_all
  obtain ⟨rfl, rfl⟩ := trodVars_none hV
  obtain ⟨a0, len0, cap0, rfl⟩ := okWide_slice Try.underlying22 (hval 0 22 v0 rfl rfl)
  have k0 := h0
  have lt0 : ∀ x ∈ p0, x.block < W.heap.size := by obtain ⟨m, hm⟩ := k0; exact DataW.trod_lt m _ _ _ hm
  obtain ⟨z0, w0⟩ : ∃ zs, IsRow .u8 W a0 len0 cap0 zs := by
    obtain ⟨fuel, hf⟩ := h0
    rcases open_ints Try.underlying22 Try.underlying5 (by kernel_rfl) hf with ⟨hcs, _⟩ | ⟨x, l, c, zs, hcs, _, hl, hm, hz, _, hcell, hwz⟩
    · simp [Value.cells] at hcs
      obtain ⟨rfl, rfl, rfl⟩ := hcs
      exact ⟨[], .inl ⟨rfl, rfl, rfl, rfl⟩⟩
    · simp [Value.cells] at hcs
      obtain ⟨rfl, rfl, rfl⟩ := hcs
      exact ⟨zs, .inr ⟨_, rfl, hl, hm, by simpa using hz, hcell, hwz⟩⟩
  obtain ⟨a1, len1, cap1, rfl⟩ := okWide_slice Try.underlying22 (hval 1 22 v1 rfl rfl)
  have k1 := h1
  have lt1 : ∀ x ∈ p1, x.block < W.heap.size := by obtain ⟨m, hm⟩ := k1; exact DataW.trod_lt m _ _ _ hm
  obtain ⟨z1, w1⟩ : ∃ zs, IsRow .u8 W a1 len1 cap1 zs := by
    obtain ⟨fuel, hf⟩ := h1
    rcases open_ints Try.underlying22 Try.underlying5 (by kernel_rfl) hf with ⟨hcs, _⟩ | ⟨x, l, c, zs, hcs, _, hl, hm, hz, _, hcell, hwz⟩
    · simp [Value.cells] at hcs
      obtain ⟨rfl, rfl, rfl⟩ := hcs
      exact ⟨[], .inl ⟨rfl, rfl, rfl, rfl⟩⟩
    · simp [Value.cells] at hcs
      obtain ⟨rfl, rfl, rfl⟩ := hcs
      exact ⟨zs, .inr ⟨_, rfl, hl, hm, by simpa using hz, hcell, hwz⟩⟩
  clear hA0 hval0
  refine (walk a0 len0 cap0 z0 a1 len1 cap1 z1 W w0 w1).mono fun e W' ⟨he, bel⟩ => ?_
  subst he
  exact ⟨_, rfl, _, _, _, [], _, [], hW', trodAll_mk1 (shut_bool Try.underlying4 _), (trodAll_cons_mk (Below.trod laidOut (by kernel_rfl) (of_decide_eq_true (by kernel_rfl)) k0 bel lt0) (trodAll_cons_mk (Below.trod laidOut (by kernel_rfl) (of_decide_eq_true (by kernel_rfl)) k1 bel lt1) trodAll_mk0)), rfl, bel.frame _, fun h => by cases h⟩

theorem closedFacts : joinedFacts Try.prog 6 Try.f6 Rows.fnPilesListedSpec Rows.fnPilesListedRow = true := by
  unfold joinedFacts
  rw [head_enter, head_lifts, head_make]
  kernel_rfl
theorem closedHere : joinedFacts Try.pinned.checked.prog 6 Try.f6 Rows.fnPilesListedSpec Rows.fnPilesListedRow = true := by
  rw [progEq]
  exact closedFacts
theorem over : Rows.fnPilesListedRow.holds Try.pinned (OpenSpec.ofChange Rows.fnPilesListedSpec) :=
  OpenClaim.holds_of_wide 6 Try.f6 rfl rfl rfl rfl rfl rfl rfl ⟨rfl, rfl, rfl, rfl, rfl⟩ rfl rfl rfl rfl rfl (by kernel_rfl) Try.func6 closedHere
    (of_decide_eq_true (by kernel_rfl)) (by unfold Func.isWrapper; first | (rw [if_pos (by decide +kernel)]; kernel_rfl) | (rw [if_neg (by decide +kernel)]; exact ⟨rfl, rfl⟩))
    (fun os started H enc _ => lifted os started H enc)

/-- ████ THE STATEMENT ████ -/
theorem proved : Rows.FnPilesListedSaid := over
#print axioms proved
end Go.Proofs.Ytkhphdohdnfplaa.fnPilesListed
