/- FnDepthTables: for every input the law returns true and leaves its arguments as they were. No condition. -/
import Derived.Test.YthppkfhhidlpiaaGreatRows
import Derived.WalkKit
import Derived.ProofKit
import Derived.OpenShut
import Derived.ShutString
import Derived.ChangeOld
import Derived.Below
import Derived.Test.YthppkfhhidlpiaaGreatHead
import Derived.Test.YthppkfhhidlpiaaGreatGe
import Derived.Test.YthppkfhhidlpiaaGreatGd
import Derived.Test.YthppkfhhidlpiaaGreatGx
import Derived.Test.YthppkfhhidlpiaaGreatLongP
import Derived.Test.YthppkfhhidlpiaaGreatGs
import Derived.Test.YthppkfhhidlpiaaGreatGi
import Derived.Test.YthppkfhhidlpiaaGreatTail42
namespace Go.Proofs.YthppkfhhidlpiaaGreat.fnDepthTables
set_option linter.unusedSimpArgs false
open Go.ChangeShapes Go.WideShapes Go.ChangeAt Go.RowKit
open Go.ChangeMaps (open_string shut_string)
set_option linter.unusedVariables false

theorem own : ownKnob Tryz.prog.godebug = none := by kernel_rfl
theorem laidOut : laidOutB Tryz.prog = true := by kernel_rfl

/-- WHAT THE WALK IS TOLD OF A SLICE OF INTEGERS THAT CAME IN: it is nil; or it leads to a row of 'cap' cells, the numbers 'zs' (the first 'len' are its elements, the rest its spare room), each fitting its kind. -/
def IsRow (k : IntKind) (w : World) (a : Option Addr) (len cap : Nat) (zs : List Int) : Prop :=
  (a = none ∧ len = 0 ∧ cap = 0 ∧ zs = []) ∨
  ∃ x, a = some x ∧ len ≤ cap ∧ cap ≤ maxLen ∧ zs.length = cap ∧ (∀ i, i < zs.length → w.cell? (x.add i) = some (.int k (zs.getD i 0))) ∧ ∀ n ∈ zs, (Lit.int k n).wf = true

/-! ### THE WALK: the Go text returns true, AND WRITES NOTHING THAT WAS THERE: 'Below w.heap.size w w'' (Derived/Below.lean: '.refl', '.alloc', '.drew', '.setCell' at a new block, '.trans'). Open each 'IsRow' by 'rcases' AHEAD of 'go_enter'; part every test ahead of the walk. -/
set_option maxHeartbeats 4000000 in
set_option maxRecDepth 100000 in
theorem walk (a0 : Option Addr) (len0 cap0 : Nat) (z0 : List Int) (a1 : Option Addr) (len1 cap1 : Nat) (z1 : List Int) (w : World) (w0 : IsRow .u8 w a0 len0 cap0 z0) (w1 : IsRow .u8 w a1 len1 cap1 z1) :
    Calls Tryz.prog 6 #[.slice a0 len0 cap0, .slice a1 len1 cap1] w fun e w' => e = .returned (.bool true) ∧ Below w.heap.size w w' := by
  have by0 := byteIn_row w0
  have by1 := byteIn_row w1
  have hl0 : len0 ≤ maxLen := by
    rcases w0 with ⟨_, h, _⟩ | ⟨x, _, h, h', _⟩
    · rw [h]; exact Nat.zero_le _
    · exact Nat.le_trans h h'
  clear w0 w1
  by_cases hbig : 1048576 < len0 ∨ (1048576 : Int) - len0 < len1
  · have hb := big_yes a0 a1 len0 len1 cap0 cap1 w hbig hl0
    have Hb := Lib.hid hb; clear hb
    go_enter Tryz.func6, Tryz.ntmps6
    go_wp2_with fail
    with_reducible refine (Hb.out).mono ?_
    rintro e w' ⟨rfl, rfl⟩
    go_wp2
    go_ret
    exact ⟨rfl, Below.refl _ _⟩
  have hb := big_no a0 a1 len0 len1 cap0 cap1 w (by omega) (by omega)
  have hd := DrawDepthTable_any a0 len0 cap0 w (by omega) by0
  have hf := fun W (h : Below w.heap.size w W) => DrawIsPastOf_any a1 len1 cap1 W (by omega) (by1.up (Nat.le_refl _) h h.size)
  have Hb := Lib.hid hb; clear hb
  have Hd := Lib.hid hd; clear hd
  have Hf := Lib.hid hf; clear hf
  clear by0 by1 hl0 hbig
  have acc : Below w.heap.size w w := Below.refl _ _
  go_enter Tryz.func6, Tryz.ntmps6
  go_wp2_with fail
  with_reducible refine (Hb.out).mono ?_
  rintro e w' ⟨rfl, rfl⟩
  clear Hb
  go_wp2_with fail
  with_reducible refine (Hd.out).mono ?_
  rintro e v1 ⟨n, hn0, hn1, rfl, hb1⟩
  replace acc := belowTrans acc hb1 (Nat.le_refl _)
  clear hb1
  clear Hd
  have hi := fun W => impl_DepthTable n W
  have hs := fun W => spec_DepthTable n W
  by_cases hn : 0 ≤ n ∧ n ≤ 28
  · skip
    obtain ⟨N, hNN⟩ : ∃ N : Nat, n = N := ⟨n.toNat, by omega⟩
    have hN : N ≤ 28 := by omega
    have e1 : mDepthTable n = (depT N, true) := by rw [hNN]; exact mDT_yes N hN
    have e2 : mCountPiles n = ((cnt N N : Int), true) := by unfold mCountPiles; rw [if_pos hn, hNN]; rfl
    have e3 : mLongestTail n = ((longF (allL N)).1, true) := by rw [hNN]; exact mLong_yes N hN
    have e4 : mCyclicPiles n = (allC N, true) := by rw [hNN]; exact mCyc_yes N hN
    have hcp := fun W => impl_CountPiles n W
    have hlo := fun W => impl_LongestTail n W
    have hcy := fun W => impl_CyclicPiles n W
    simp only [e1] at hi hs
    simp only [e2] at hcp
    simp only [e3] at hlo
    simp only [e4] at hcy
    obtain ⟨t1, t2, t3, t4, t5, t6, t7⟩ := depT_facts (allC_all N hN) (allC_ne N (by omega))
    have hcb := allL_le hN
    have hall : ((cnt N N : Nat) : Int) = ((allL N).length : Int) := by rw [allL_length hN]
    rw [hall] at hcp
    obtain ⟨c, hcc⟩ : ∃ c : Int, (((allL N).length : Nat) : Int) = c := ⟨_, rfl⟩
    rw [hcc] at hcp t1
    have hsum := fun a k q W h hn5 => pSumV_any a k q (depT N) W h hn5 (fun d => by have := t7 d; omega)
    rw [t1] at hsum
    generalize depT N = T at hi hs t2 t3 t4 t5 t6 t7 hsum
    generalize (longF (allL N)).1 = l at hlo t3
    generalize allC N = A at hcy t5
    clear e1 e2 e3 e4 hn hNN hN hall hcb hcc t1 t7
    have Hi := Lib.hid hi; clear hi
    have Hs := Lib.hid hs; clear hs
    have Hcp := Lib.hid hcp; clear hcp
    have Hlo := Lib.hid hlo; clear hlo
    have Hcy := Lib.hid hcy; clear hcy
    have Hsum := Lib.hid hsum; clear hsum
    have T2 := Lib.hid t2; clear t2
    have T3 := Lib.hid t3; clear t3
    have T4 := Lib.hid t4; clear t4
    have T5 := Lib.hid t5; clear t5
    have T6 := Lib.hid t6; clear t6
    go_wp2_with fail
    with_reducible refine (Hi.out _).mono ?_
    rintro e v2 ⟨pt, nt, ct, rfl, hot, hb2⟩
    replace acc := belowTrans acc hb2 (Nat.le_refl _)
    clear hb2
    go_wp2_with fail
    with_reducible refine (Hs.out _).mono ?_
    rintro e v3 ⟨pu, nu, cu, rfl, hou, hb3⟩
    replace hot := hot.keep hb3
    replace acc := belowTrans acc hb3 (Nat.le_refl _)
    clear hb3
    clear Hi Hs
    have hc := pSame_any _ _ _ _ _ _ _ _ _ hot.at hou.at
    rw [decide_eq_true rfl] at hc
    have Hc := Lib.hid hc; clear hc
    go_wp2_with fail
    with_reducible refine (Hc.out).mono ?_
    rintro e v4 ⟨rfl, hb4⟩
    replace hot := hot.keep hb4
    replace hou := hou.keep hb4
    replace acc := belowTrans acc hb4 (Nat.le_refl _)
    clear hb4
    clear Hc
    clear hou
    go_wp2_with fail
    with_reducible refine (Hf.out _ acc).mono ?_
    rintro e v5 ⟨p1, n1, c1, xs, q1, m1, d1, ys, rfl, ho1, ho2, hb5⟩
    replace hot := hot.keep hb5
    replace acc := belowTrans acc hb5 (Nat.le_refl _)
    clear hb5
    clear Hf
    have hi := fun W h h' => impl_IsPastOf p1 n1 c1 xs q1 m1 d1 ys W h h'
    have hs := fun W h h' => spec_IsPastOf p1 n1 c1 xs q1 m1 d1 ys W h h'
    have hall : mIsPastOf xs ys = (0, false) ∨ ∃ k : Nat, mIsPastOf xs ys = ((k : Int), true) ∧ k ≤ 50 ∧ goodB xs = true ∧ stepsL k xs = ys ∧ ∀ i, i < k → stepsL i xs ≠ ys := by
      cases gx : goodB xs
      · exact .inl (mIPO_no1 gx)
      · cases gy : goodB ys
        · exact .inl (mIPO_no2 gy)
        · rcases past_of gx gy with ⟨k, e1, e2, e3, e4⟩ | e
          · exact .inr ⟨k, e1, by have := tail42 (good_iff.1 gx); omega, rfl, e3, e4⟩
          · exact .inl e
    rcases hall with e | ⟨k, e1, hk, gx, e3, e4⟩
    · simp only [e] at hi hs
      clear e
      have Hi := Lib.hid hi; clear hi
      have Hs := Lib.hid hs; clear hs
      go_wp2_with fail
      with_reducible refine (Hi.out _ ho1.at ho2.at).mono ?_
      rintro e v6 ⟨rfl, hb6⟩
      replace hot := hot.keep hb6
      replace ho1 := ho1.keep hb6
      replace ho2 := ho2.keep hb6
      replace acc := belowTrans acc hb6 (Nat.le_refl _)
      clear hb6
      go_wp2_with fail
      with_reducible refine (Hs.out _ ho1.at ho2.at).mono ?_
      rintro e v7 ⟨rfl, hb7⟩
      replace hot := hot.keep hb7
      replace ho1 := ho1.keep hb7
      replace ho2 := ho2.keep hb7
      replace acc := belowTrans acc hb7 (Nat.le_refl _)
      clear hb7
      clear Hi Hs
      clear ho1
      clear ho2
      go_wp2_with fail
      with_reducible refine (Hcp.out _).mono ?_
      rintro e v8 ⟨rfl, hb8⟩
      replace hot := hot.keep hb8
      replace acc := belowTrans acc hb8 (Nat.le_refl _)
      clear hb8
      go_wp2_with fail
      with_reducible refine (Hlo.out _).mono ?_
      rintro e v9 ⟨rfl, hb9⟩
      replace hot := hot.keep hb9
      replace acc := belowTrans acc hb9 (Nat.le_refl _)
      clear hb9
      go_wp2_with fail
      with_reducible refine (Hcy.out _).mono ?_
      rintro e v10 ⟨py, ny, cy, rfl, hoy, hb10⟩
      replace hot := hot.keep hb10
      replace acc := belowTrans acc hb10 (Nat.le_refl _)
      clear hb10
      have hly := hoy.length
      have hny8 := hoy.at.lenInt
      clear hoy
      have hlt8 := hot.length
      have hnt1 : 1 ≤ nt := by have := T2.out; omega
      have hnt2 : nt ≤ 3719 := by have := T4.out; omega
      have hnt3 : (nt : Int) ≤ 3719 := by omega
      have hnt4 : l = (nt : Int) - 1 := by have := T3.out; omega
      subst hnt4
      have hnt0 : (0 : Int) < nt := by omega
      have Hlt8 := Lib.hid hlt8; clear hlt8
      have Hly := Lib.hid hly; clear hly
      have hs3 := Hsum.out _ _ _ _ hot.at (by omega)
      have Hs3 := Lib.hid hs3; clear hs3
      go_wp2_with fail
      with_reducible refine (Hs3.out).mono ?_
      rintro e w' ⟨rfl, rfl⟩
      obtain ⟨bt, ot, e_, hb_, hc_⟩ := hot.at.cell 0 (by omega)
      cases e_
      have hck := hc_ 0 (by omega)
      rw [Nat.add_zero, T5.out, Hly.out] at hck
      clear hc_ hb_ Hcp Hlo Hcy Hsum Hs3
      obtain ⟨wq, hwq⟩ : ∃ wq : World, wq = v10 := ⟨_, rfl⟩
      subst hwq
      go_wp2_with fail
      go_loop [161] (fun i => ∃ j : Nat, j ≤ nt ∧ i = .int .i64 j) (fun i => nt - (intOf i).toNat)
      case atStart => exact ⟨0, Nat.zero_le _, rfl⟩
      case round =>
        clear hck
        obtain ⟨j, hj, rfl⟩ := hrel
        by_cases hlt : j < nt
        · have hx := T6.out j (by rw [Hlt8.out]; exact hlt)
          obtain ⟨bt2, ot2, e_, hb_, hc_⟩ := hot.at.cell j hlt
          cases e_
          have hcj := hc_ j hlt
          clear hc_ hb_
          generalize T.getD j 0 = x at hx hcj
          have hx1 : ¬ (x < 1) := by omega
          go_wp2
          go_round
          case rel => exact ⟨j + 1, by omega, by go_num⟩
          case measure => simp [intOf] <;> omega
        · go_wp2
          go_ret
          exact ⟨rfl, acc⟩
    simp only [e1] at hi hs
    have hst := fun (j : Nat) (hj : j ≤ 1000) W h => impl_StepsFrom p1 n1 c1 xs j W h
    have hm := fun (j : Nat) (hj : j ≤ 1000) => mSteps_yes (k := j) gx hj
    clear e1 gx
    have hki : (k : Int) ≤ 50 := by omega
    have Hi := Lib.hid hi; clear hi
    have Hs := Lib.hid hs; clear hs
    have Hst := Lib.hid hst; clear hst
    have Hm := Lib.hid hm; clear hm
    have E3 := Lib.hid e3; clear e3
    have E4 := Lib.hid e4; clear e4
    go_wp2_with fail
    with_reducible refine (Hi.out _ ho1.at ho2.at).mono ?_
    rintro e v6 ⟨rfl, hb6⟩
    replace hot := hot.keep hb6
    replace ho1 := ho1.keep hb6
    replace ho2 := ho2.keep hb6
    replace acc := belowTrans acc hb6 (Nat.le_refl _)
    clear hb6
    go_wp2_with fail
    with_reducible refine (Hs.out _ ho1.at ho2.at).mono ?_
    rintro e v7 ⟨rfl, hb7⟩
    replace hot := hot.keep hb7
    replace ho1 := ho1.keep hb7
    replace ho2 := ho2.keep hb7
    replace acc := belowTrans acc hb7 (Nat.le_refl _)
    clear hb7
    clear Hi Hs
    have hc := Hst.out k (by omega) v7 ho1.at
    simp only [Hm.out k (by omega)] at hc
    rw [E3.out] at hc
    have Hc := Lib.hid hc; clear hc
    go_wp2_with fail
    with_reducible refine (Hc.out).mono ?_
    rintro e v8 ⟨pe, ne, ce, rfl, hoe, hb8⟩
    replace hot := hot.keep hb8
    replace ho1 := ho1.keep hb8
    replace ho2 := ho2.keep hb8
    replace acc := belowTrans acc hb8 (Nat.le_refl _)
    clear hb8
    clear Hc
    have hc := pSame_any _ _ _ _ _ _ _ _ _ hoe.at ho2.at
    rw [decide_eq_true rfl] at hc
    have Hc := Lib.hid hc; clear hc
    go_wp2_with fail
    with_reducible refine (Hc.out).mono ?_
    rintro e v9 ⟨rfl, hb9⟩
    replace hot := hot.keep hb9
    replace ho1 := ho1.keep hb9
    replace ho2 := ho2.keep hb9
    replace hoe := hoe.keep hb9
    replace acc := belowTrans acc hb9 (Nat.le_refl _)
    clear hb9
    clear Hc
    clear hoe
    obtain ⟨wo, hwo⟩ : ∃ wo : World, wo = v9 := ⟨_, rfl⟩
    subst hwo
    go_wp2_with fail
    go_loopw [18] (fun i wr => ∃ j : Nat, j ≤ k ∧ i = .int .i64 j ∧ Below w.heap.size w wr ∧ Below wo.heap.size wo wr) (fun i _ => k - (intOf i).toNat)
    case atStart => exact ⟨0, Nat.zero_le _, rfl, acc, Below.refl _ _⟩
    case round =>
      obtain ⟨j, hj, rfl, hbw, hbo⟩ := hrel
      by_cases hlt : j < k
      · skip
        replace hot := hot.keep hbo
        replace ho1 := ho1.keep hbo
        replace ho2 := ho2.keep hbo
        have hc := Hst.out j (by omega) wr ho1.at
        simp only [Hm.out j (by omega)] at hc
        have hne := E4.out j hlt
        generalize stepsL j xs = zs at hc hne
        have Hc := Lib.hid hc; clear hc
        have Hne := Lib.hid hne; clear hne
        go_wp2_with fail
        with_reducible refine (Hc.out).mono ?_
        rintro e v10 ⟨pe, ne, ce, rfl, hoe, hb10⟩
        replace hot := hot.keep hb10
        replace ho1 := ho1.keep hb10
        replace ho2 := ho2.keep hb10
        replace hbw := belowTrans hbw hb10 (Nat.le_refl _)
        replace hbo := belowTrans hbo hb10 (Nat.le_refl _)
        clear hb10
        clear Hc
        have hc := pSame_any _ _ _ _ _ _ _ _ _ hoe.at ho2.at
        rw [decide_eq_false Hne.out] at hc
        have Hc := Lib.hid hc; clear hc
        go_wp2_with fail
        with_reducible refine (Hc.out).mono ?_
        rintro e v11 ⟨rfl, hb11⟩
        replace hot := hot.keep hb11
        replace ho1 := ho1.keep hb11
        replace ho2 := ho2.keep hb11
        replace hoe := hoe.keep hb11
        replace hbw := belowTrans hbw hb11 (Nat.le_refl _)
        replace hbo := belowTrans hbo hb11 (Nat.le_refl _)
        clear hb11
        clear Hc
        go_wp2
        go_roundw
        case rel => exact ⟨j + 1, by omega, by go_num, hbw, hbo⟩
        case measure => simp [intOf] <;> omega
      · skip
        replace hot := hot.keep hbo
        replace ho1 := ho1.keep hbo
        replace ho2 := ho2.keep hbo
        clear hbo
        clear ho1
        clear ho2
        go_wp2_with fail
        with_reducible refine (Hcp.out _).mono ?_
        rintro e v10 ⟨rfl, hb10⟩
        replace hot := hot.keep hb10
        replace hbw := belowTrans hbw hb10 (Nat.le_refl _)
        clear hb10
        go_wp2_with fail
        with_reducible refine (Hlo.out _).mono ?_
        rintro e v11 ⟨rfl, hb11⟩
        replace hot := hot.keep hb11
        replace hbw := belowTrans hbw hb11 (Nat.le_refl _)
        clear hb11
        go_wp2_with fail
        with_reducible refine (Hcy.out _).mono ?_
        rintro e v12 ⟨py, ny, cy, rfl, hoy, hb12⟩
        replace hot := hot.keep hb12
        replace hbw := belowTrans hbw hb12 (Nat.le_refl _)
        clear hb12
        have hly := hoy.length
        have hny8 := hoy.at.lenInt
        clear hoy
        have hlt8 := hot.length
        have hnt1 : 1 ≤ nt := by have := T2.out; omega
        have hnt2 : nt ≤ 3719 := by have := T4.out; omega
        have hnt3 : (nt : Int) ≤ 3719 := by omega
        have hnt4 : l = (nt : Int) - 1 := by have := T3.out; omega
        subst hnt4
        have hnt0 : (0 : Int) < nt := by omega
        have Hlt8 := Lib.hid hlt8; clear hlt8
        have Hly := Lib.hid hly; clear hly
        have hs3 := Hsum.out _ _ _ _ hot.at (by omega)
        have Hs3 := Lib.hid hs3; clear hs3
        go_wp2_with fail
        with_reducible refine (Hs3.out).mono ?_
        rintro e w' ⟨rfl, rfl⟩
        obtain ⟨bt, ot, e_, hb_, hc_⟩ := hot.at.cell 0 (by omega)
        cases e_
        have hck := hc_ 0 (by omega)
        rw [Nat.add_zero, T5.out, Hly.out] at hck
        clear hc_ hb_ Hcp Hlo Hcy Hsum Hs3
        obtain ⟨wq, hwq⟩ : ∃ wq : World, wq = v12 := ⟨_, rfl⟩
        subst hwq
        go_wp2_with fail
        go_loop [161] (fun i => ∃ j : Nat, j ≤ nt ∧ i = .int .i64 j) (fun i => nt - (intOf i).toNat)
        case atStart => exact ⟨0, Nat.zero_le _, rfl⟩
        case round =>
          clear hck
          obtain ⟨j, hj, rfl⟩ := hrel
          by_cases hlt : j < nt
          · have hx := T6.out j (by rw [Hlt8.out]; exact hlt)
            obtain ⟨bt2, ot2, e_, hb_, hc_⟩ := hot.at.cell j hlt
            cases e_
            have hcj := hc_ j hlt
            clear hc_ hb_
            generalize T.getD j 0 = x at hx hcj
            have hx1 : ¬ (x < 1) := by omega
            go_wp2
            go_round
            case rel => exact ⟨j + 1, by omega, by go_num⟩
            case measure => simp [intOf] <;> omega
          · go_wp2
            go_ret
            exact ⟨rfl, hbw⟩
  have e1 : mDepthTable n = ([], false) := mDT_no n hn
  simp only [e1] at hi hs
  clear e1
  have Hi := Lib.hid hi; clear hi
  have Hs := Lib.hid hs; clear hs
  go_wp2_with fail
  with_reducible refine (Hi.out _).mono ?_
  rintro e v2 ⟨pt, nt, ct, rfl, hot, hb2⟩
  replace acc := belowTrans acc hb2 (Nat.le_refl _)
  clear hb2
  go_wp2_with fail
  with_reducible refine (Hs.out _).mono ?_
  rintro e v3 ⟨pu, nu, cu, rfl, hou, hb3⟩
  replace hot := hot.keep hb3
  replace acc := belowTrans acc hb3 (Nat.le_refl _)
  clear hb3
  clear Hi Hs
  have hc := pSame_any _ _ _ _ _ _ _ _ _ hot.at hou.at
  rw [decide_eq_true rfl] at hc
  have Hc := Lib.hid hc; clear hc
  go_wp2_with fail
  with_reducible refine (Hc.out).mono ?_
  rintro e v4 ⟨rfl, hb4⟩
  replace hot := hot.keep hb4
  replace hou := hou.keep hb4
  replace acc := belowTrans acc hb4 (Nat.le_refl _)
  clear hb4
  clear Hc
  clear hou
  go_wp2_with fail
  with_reducible refine (Hf.out _ acc).mono ?_
  rintro e v5 ⟨p1, n1, c1, xs, q1, m1, d1, ys, rfl, ho1, ho2, hb5⟩
  replace hot := hot.keep hb5
  replace acc := belowTrans acc hb5 (Nat.le_refl _)
  clear hb5
  clear Hf
  have hi := fun W h h' => impl_IsPastOf p1 n1 c1 xs q1 m1 d1 ys W h h'
  have hs := fun W h h' => spec_IsPastOf p1 n1 c1 xs q1 m1 d1 ys W h h'
  clear hot
  have hall : mIsPastOf xs ys = (0, false) ∨ ∃ k : Nat, mIsPastOf xs ys = ((k : Int), true) ∧ k ≤ 50 ∧ goodB xs = true ∧ stepsL k xs = ys ∧ ∀ i, i < k → stepsL i xs ≠ ys := by
    cases gx : goodB xs
    · exact .inl (mIPO_no1 gx)
    · cases gy : goodB ys
      · exact .inl (mIPO_no2 gy)
      · rcases past_of gx gy with ⟨k, e1, e2, e3, e4⟩ | e
        · exact .inr ⟨k, e1, by have := tail42 (good_iff.1 gx); omega, rfl, e3, e4⟩
        · exact .inl e
  rcases hall with e | ⟨k, e1, hk, gx, e3, e4⟩
  · simp only [e] at hi hs
    clear e
    have Hi := Lib.hid hi; clear hi
    have Hs := Lib.hid hs; clear hs
    go_wp2_with fail
    with_reducible refine (Hi.out _ ho1.at ho2.at).mono ?_
    rintro e v6 ⟨rfl, hb6⟩
    replace ho1 := ho1.keep hb6
    replace ho2 := ho2.keep hb6
    replace acc := belowTrans acc hb6 (Nat.le_refl _)
    clear hb6
    go_wp2_with fail
    with_reducible refine (Hs.out _ ho1.at ho2.at).mono ?_
    rintro e v7 ⟨rfl, hb7⟩
    replace ho1 := ho1.keep hb7
    replace ho2 := ho2.keep hb7
    replace acc := belowTrans acc hb7 (Nat.le_refl _)
    clear hb7
    clear Hi Hs
    clear ho1
    clear ho2
    go_wp2
    go_ret
    exact ⟨rfl, acc⟩
  simp only [e1] at hi hs
  have hst := fun (j : Nat) (hj : j ≤ 1000) W h => impl_StepsFrom p1 n1 c1 xs j W h
  have hm := fun (j : Nat) (hj : j ≤ 1000) => mSteps_yes (k := j) gx hj
  clear e1 gx
  have hki : (k : Int) ≤ 50 := by omega
  have Hi := Lib.hid hi; clear hi
  have Hs := Lib.hid hs; clear hs
  have Hst := Lib.hid hst; clear hst
  have Hm := Lib.hid hm; clear hm
  have E3 := Lib.hid e3; clear e3
  have E4 := Lib.hid e4; clear e4
  go_wp2_with fail
  with_reducible refine (Hi.out _ ho1.at ho2.at).mono ?_
  rintro e v6 ⟨rfl, hb6⟩
  replace ho1 := ho1.keep hb6
  replace ho2 := ho2.keep hb6
  replace acc := belowTrans acc hb6 (Nat.le_refl _)
  clear hb6
  go_wp2_with fail
  with_reducible refine (Hs.out _ ho1.at ho2.at).mono ?_
  rintro e v7 ⟨rfl, hb7⟩
  replace ho1 := ho1.keep hb7
  replace ho2 := ho2.keep hb7
  replace acc := belowTrans acc hb7 (Nat.le_refl _)
  clear hb7
  clear Hi Hs
  have hc := Hst.out k (by omega) v7 ho1.at
  simp only [Hm.out k (by omega)] at hc
  rw [E3.out] at hc
  have Hc := Lib.hid hc; clear hc
  go_wp2_with fail
  with_reducible refine (Hc.out).mono ?_
  rintro e v8 ⟨pe, ne, ce, rfl, hoe, hb8⟩
  replace ho1 := ho1.keep hb8
  replace ho2 := ho2.keep hb8
  replace acc := belowTrans acc hb8 (Nat.le_refl _)
  clear hb8
  clear Hc
  have hc := pSame_any _ _ _ _ _ _ _ _ _ hoe.at ho2.at
  rw [decide_eq_true rfl] at hc
  have Hc := Lib.hid hc; clear hc
  go_wp2_with fail
  with_reducible refine (Hc.out).mono ?_
  rintro e v9 ⟨rfl, hb9⟩
  replace ho1 := ho1.keep hb9
  replace ho2 := ho2.keep hb9
  replace hoe := hoe.keep hb9
  replace acc := belowTrans acc hb9 (Nat.le_refl _)
  clear hb9
  clear Hc
  clear hoe
  obtain ⟨wo, hwo⟩ : ∃ wo : World, wo = v9 := ⟨_, rfl⟩
  subst hwo
  go_wp2_with fail
  go_loopw [18] (fun i wr => ∃ j : Nat, j ≤ k ∧ i = .int .i64 j ∧ Below w.heap.size w wr ∧ Below wo.heap.size wo wr) (fun i _ => k - (intOf i).toNat)
  case atStart => exact ⟨0, Nat.zero_le _, rfl, acc, Below.refl _ _⟩
  case round =>
    obtain ⟨j, hj, rfl, hbw, hbo⟩ := hrel
    by_cases hlt : j < k
    · skip
      replace ho1 := ho1.keep hbo
      replace ho2 := ho2.keep hbo
      have hc := Hst.out j (by omega) wr ho1.at
      simp only [Hm.out j (by omega)] at hc
      have hne := E4.out j hlt
      generalize stepsL j xs = zs at hc hne
      have Hc := Lib.hid hc; clear hc
      have Hne := Lib.hid hne; clear hne
      go_wp2_with fail
      with_reducible refine (Hc.out).mono ?_
      rintro e v10 ⟨pe, ne, ce, rfl, hoe, hb10⟩
      replace ho1 := ho1.keep hb10
      replace ho2 := ho2.keep hb10
      replace hbw := belowTrans hbw hb10 (Nat.le_refl _)
      replace hbo := belowTrans hbo hb10 (Nat.le_refl _)
      clear hb10
      clear Hc
      have hc := pSame_any _ _ _ _ _ _ _ _ _ hoe.at ho2.at
      rw [decide_eq_false Hne.out] at hc
      have Hc := Lib.hid hc; clear hc
      go_wp2_with fail
      with_reducible refine (Hc.out).mono ?_
      rintro e v11 ⟨rfl, hb11⟩
      replace ho1 := ho1.keep hb11
      replace ho2 := ho2.keep hb11
      replace hoe := hoe.keep hb11
      replace hbw := belowTrans hbw hb11 (Nat.le_refl _)
      replace hbo := belowTrans hbo hb11 (Nat.le_refl _)
      clear hb11
      clear Hc
      go_wp2
      go_roundw
      case rel => exact ⟨j + 1, by omega, by go_num, hbw, hbo⟩
      case measure => simp [intOf] <;> omega
    · skip
      replace ho1 := ho1.keep hbo
      replace ho2 := ho2.keep hbo
      clear hbo
      clear ho1
      clear ho2
      go_wp2
      go_ret
      exact ⟨rfl, hbw⟩

/-! ### THE ROW's STEP: WRITTEN OUT: LEAVE IT -/
set_option maxRecDepth 100000 in
theorem lifted (os : Os) (started : os.Started) (H : Type) (enc : TypeId × Value → H) :
    ReturnsInHanded {} Tryz.checked os 6 .any (Rows.fnDepthTablesSpec.pre6 enc Tryz.prog Tryz.f6 Rows.fnDepthTablesRow.domain false) (Rows.fnDepthTablesSpec.post enc Tryz.prog Tryz.f6 false true false false) := by
  refine returnsInHanded_of_change (C := Tryz.checked) own started (by kernel_rfl) Tryz.func6
    (ChangeSpec.witness6 (enc := enc) (C := Tryz.checked) false ⟨#[], #[.slice none 0 0, .slice none 0 0], []⟩ 8 (by kernel_rfl) (by kernel_rfl) (by kernel_rfl) (by kernel_rfl)) ?_
  intro W base args ds gs before hval0 hW hcnd _
  have hval : ∀ (j : Nat) t v, Tryz.f6.params[j]? = some t → args[j]? = some v → Value.okWide Tryz.prog W .any base t v := hval0
  have hW' := hW
  obtain ⟨p, q, hA0, hV, rfl, hfz, hnd⟩ := hW
  have hA : DataW.TrodAll enc Tryz.prog W 0 (fun _ => true) true Tryz.f6.params.toList args.toList ds p := hA0
  rw [Tryz.params6] at hA hval
  obtain ⟨v0, vs0, d0, ds0, p0, q0, hargs, rfl, rfl, h0, r0⟩ := trodAll_cons hA
  obtain ⟨v1, vs1, d1, ds1, p1, q1, rfl, rfl, rfl, h1, r1⟩ := trodAll_cons r0
  obtain ⟨rfl, rfl, rfl⟩ := trodAll_nil r1
  obtain rfl : args = #[v0, v1] := by cases args; simp_all
  obtain ⟨rfl, rfl⟩ := trodVars_none hV
  obtain ⟨a0, len0, cap0, rfl⟩ := okWide_slice Tryz.underlying22 (hval 0 22 v0 rfl rfl)
  have k0 := h0
  have lt0 : ∀ x ∈ p0, x.block < W.heap.size := by obtain ⟨m, hm⟩ := k0; exact DataW.trod_lt m _ _ _ hm
  obtain ⟨z0, w0⟩ : ∃ zs, IsRow .u8 W a0 len0 cap0 zs := by
    obtain ⟨fuel, hf⟩ := h0
    rcases open_ints Tryz.underlying22 Tryz.underlying5 (by kernel_rfl) hf with ⟨hcs, _⟩ | ⟨x, l, c, zs, hcs, _, hl, hm, hz, _, hcell, hwz⟩
    · simp [Value.cells] at hcs
      obtain ⟨rfl, rfl, rfl⟩ := hcs
      exact ⟨[], .inl ⟨rfl, rfl, rfl, rfl⟩⟩
    · simp [Value.cells] at hcs
      obtain ⟨rfl, rfl, rfl⟩ := hcs
      exact ⟨zs, .inr ⟨_, rfl, hl, hm, by simpa using hz, hcell, hwz⟩⟩
  obtain ⟨a1, len1, cap1, rfl⟩ := okWide_slice Tryz.underlying22 (hval 1 22 v1 rfl rfl)
  have k1 := h1
  have lt1 : ∀ x ∈ p1, x.block < W.heap.size := by obtain ⟨m, hm⟩ := k1; exact DataW.trod_lt m _ _ _ hm
  obtain ⟨z1, w1⟩ : ∃ zs, IsRow .u8 W a1 len1 cap1 zs := by
    obtain ⟨fuel, hf⟩ := h1
    rcases open_ints Tryz.underlying22 Tryz.underlying5 (by kernel_rfl) hf with ⟨hcs, _⟩ | ⟨x, l, c, zs, hcs, _, hl, hm, hz, _, hcell, hwz⟩
    · simp [Value.cells] at hcs
      obtain ⟨rfl, rfl, rfl⟩ := hcs
      exact ⟨[], .inl ⟨rfl, rfl, rfl, rfl⟩⟩
    · simp [Value.cells] at hcs
      obtain ⟨rfl, rfl, rfl⟩ := hcs
      exact ⟨zs, .inr ⟨_, rfl, hl, hm, by simpa using hz, hcell, hwz⟩⟩
  clear hA0 hval0
  refine (walk a0 len0 cap0 z0 a1 len1 cap1 z1 W w0 w1).mono fun e W' ⟨he, bel⟩ => ?_
  subst he
  exact ⟨_, rfl, _, _, _, [], _, [], hW', trodAll_mk1 (shut_bool Tryz.underlying4 _), (trodAll_cons_mk (Below.trod laidOut (by kernel_rfl) (of_decide_eq_true (by kernel_rfl)) k0 bel lt0) (trodAll_cons_mk (Below.trod laidOut (by kernel_rfl) (of_decide_eq_true (by kernel_rfl)) k1 bel lt1) trodAll_mk0)), rfl, bel.frame _, fun h => by cases h⟩

theorem closedFacts : joinedFacts Tryz.prog 6 Tryz.f6 Rows.fnDepthTablesSpec Rows.fnDepthTablesRow = true := by
  unfold joinedFacts
  rw [head_enter, head_lifts, head_make]
  kernel_rfl
theorem closedHere : joinedFacts Tryz.pinned.checked.prog 6 Tryz.f6 Rows.fnDepthTablesSpec Rows.fnDepthTablesRow = true := by
  rw [progEq]
  exact closedFacts
theorem over : Rows.fnDepthTablesRow.holds Tryz.pinned (OpenSpec.ofChange Rows.fnDepthTablesSpec) :=
  OpenClaim.holds_of_wide 6 Tryz.f6 rfl rfl rfl rfl rfl rfl rfl ⟨rfl, rfl, rfl, rfl, rfl⟩ rfl rfl rfl rfl rfl (by kernel_rfl) Tryz.func6 closedHere
    (of_decide_eq_true (by kernel_rfl)) (by unfold Func.isWrapper; first | (rw [if_pos (by decide +kernel)]; kernel_rfl) | (rw [if_neg (by decide +kernel)]; exact ⟨rfl, rfl⟩))
    (fun os started H enc _ => lifted os started H enc)

/-- ████ THE STATEMENT ████ -/
theorem proved : Rows.FnDepthTablesSaid := over
#print axioms proved
end Go.Proofs.YthppkfhhidlpiaaGreat.fnDepthTables
