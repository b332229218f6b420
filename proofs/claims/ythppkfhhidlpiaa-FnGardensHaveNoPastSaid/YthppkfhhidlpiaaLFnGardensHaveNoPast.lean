/- FnGardensHaveNoPast: for every input the law returns true and leaves its arguments as they were. No condition. -/
import Derived.Test.YthppkfhhidlpiaaRows
import Derived.WalkKit
import Derived.ProofKit
import Derived.OpenShut
import Derived.ShutString
import Derived.ChangeOld
import Derived.Below
import Derived.Test.YthppkfhhidlpiaaHead
import Derived.Test.YthppkfhhidlpiaaGe
import Derived.Test.YthppkfhhidlpiaaGd
import Derived.Test.YthppkfhhidlpiaaGx
import Derived.Test.YthppkfhhidlpiaaGs
import Derived.Test.YthppkfhhidlpiaaGi
namespace Go.Proofs.Ythppkfhhidlpiaa.fnGardensHaveNoPast
set_option linter.unusedSimpArgs false
open Go.ChangeShapes Go.WideShapes Go.ChangeAt Go.RowKit
open Go.ChangeMaps (open_string shut_string)
set_option linter.unusedVariables false

theorem own : ownKnob Try.prog.godebug = none := by kernel_rfl
theorem laidOut : laidOutB Try.prog = true := by kernel_rfl

/-- WHAT THE WALK IS TOLD OF A SLICE OF INTEGERS THAT CAME IN: it is nil; or it leads to a row of 'cap' cells, the numbers 'zs' (the first 'len' are its elements, the rest its spare room), each fitting its kind. -/
def IsRow (k : IntKind) (w : World) (a : Option Addr) (len cap : Nat) (zs : List Int) : Prop :=
  (a = none ∧ len = 0 ∧ cap = 0 ∧ zs = []) ∨
  ∃ x, a = some x ∧ len ≤ cap ∧ cap ≤ maxLen ∧ zs.length = cap ∧ (∀ i, i < zs.length → w.cell? (x.add i) = some (.int k (zs.getD i 0))) ∧ ∀ n ∈ zs, (Lit.int k n).wf = true

/-! ### THE WALK: the Go text returns true, AND WRITES NOTHING THAT WAS THERE: 'Below w.heap.size w w'' (Derived/Below.lean: '.refl', '.alloc', '.drew', '.setCell' at a new block, '.trans'). Open each 'IsRow' by 'rcases' AHEAD of 'go_enter'; part every test ahead of the walk. -/
set_option maxHeartbeats 4000000 in
set_option maxRecDepth 100000 in
theorem walk (a0 : Option Addr) (len0 cap0 : Nat) (z0 : List Int) (a1 : Option Addr) (len1 cap1 : Nat) (z1 : List Int) (w : World) (w0 : IsRow .u8 w a0 len0 cap0 z0) (w1 : IsRow .u8 w a1 len1 cap1 z1) :
    Calls Try.prog 22 #[.slice a0 len0 cap0, .slice a1 len1 cap1] w fun e w' => e = .returned (.bool true) ∧ Below w.heap.size w w' := by
  have by0 := byteIn_row w0
  have by1 := byteIn_row w1
  have hl0 : len0 ≤ maxLen := by
    rcases w0 with ⟨_, h, _⟩ | ⟨x, _, h, h', _⟩
    · rw [h]; exact Nat.zero_le _
    · exact Nat.le_trans h h'
  clear w0 w1
  by_cases hbig : 1048576 < len0 ∨ (1048576 : Int) - len0 < len1
  · have hb := big_yes a0 a1 len0 len1 cap0 cap1 w hbig hl0
    have Hb := Lib.hid hb; clear hb
    go_enter Try.func22, Try.ntmps22
    go_wp2_with fail
    with_reducible refine (Hb.out).mono ?_
    rintro e w' ⟨rfl, rfl⟩
    go_wp2
    go_ret
    exact ⟨rfl, Below.refl _ _⟩
  have hb := big_no a0 a1 len0 len1 cap0 cap1 w (by omega) (by omega)
  have hd := DrawGardensOf_any a0 len0 cap0 w (by omega) by0
  have hf := fun W (h : Below w.heap.size w W) => DrawIsGarden_any a1 len1 cap1 W (by omega) (by1.up (Nat.le_refl _) h h.size)
  have hg := fun W (h : Below w.heap.size w W) => DrawPastTable_any a1 len1 cap1 W (by omega) (by1.up (Nat.le_refl _) h h.size)
  have Hb := Lib.hid hb; clear hb
  have Hd := Lib.hid hd; clear hd
  have Hf := Lib.hid hf; clear hf
  have Hg := Lib.hid hg; clear hg
  clear by0 by1 hl0 hbig
  have acc : Below w.heap.size w w := Below.refl _ _
  go_enter Try.func22, Try.ntmps22
  go_wp2_with fail
  with_reducible refine (Hb.out).mono ?_
  rintro e w' ⟨rfl, rfl⟩
  clear Hb
  go_wp2_with fail
  with_reducible refine (Hd.out).mono ?_
  rintro e v1 ⟨n, hn0, hn1, rfl, hb1⟩
  replace acc := belowTrans acc hb1 (Nat.le_refl _)
  clear hb1
  clear Hd
  have hi := fun W => impl_GardensOf n W
  have hs := fun W => spec_GardensOf n W
  have hc := fun W => impl_CountGardens n W
  by_cases hn : 0 ≤ n ∧ n ≤ 28
  · skip
    obtain ⟨N, hNN⟩ : ∃ N : Nat, n = N := ⟨n.toNat, by omega⟩
    have hN : N ≤ 28 := by omega
    have e1 : mGardensOf n = (gardL N, true) := by rw [hNN]; exact mGards_yes N hN
    have e2 : mCountGardens n = ((((gardL N).length : Nat) : Int), true) := by rw [hNN]; exact mCGard_yes N hN
    simp only [e1] at hi hs
    simp only [e2] at hc
    obtain ⟨g1, g2⟩ := garden_facts hN
    rw [← hNN] at g2
    have hgb := gardL_le hN
    generalize gardL N = L at hi hs hc g1 g2 hgb
    clear e1 e2 hn hNN hN
    have Hi := Lib.hid hi; clear hi
    have Hs := Lib.hid hs; clear hs
    have Hc := Lib.hid hc; clear hc
    have G1 := Lib.hid g1; clear g1
    have G2 := Lib.hid g2; clear g2
    go_wp2_with fail
    with_reducible refine (Hi.out _).mono ?_
    rintro e v2 ⟨pi, ni, ci, rfl, hoi, hb2⟩
    replace acc := belowTrans acc hb2 (Nat.le_refl _)
    clear hb2
    go_wp2_with fail
    with_reducible refine (Hs.out _).mono ?_
    rintro e v3 ⟨ps, ns, cs, rfl, hos, hb3⟩
    replace hoi := hoi.keep hb3
    replace acc := belowTrans acc hb3 (Nat.le_refl _)
    clear hb3
    go_wp2_with fail
    with_reducible refine (Hc.out _).mono ?_
    rintro e v4 ⟨rfl, hb4⟩
    replace hoi := hoi.keep hb4
    replace hos := hos.keep hb4
    replace acc := belowTrans acc hb4 (Nat.le_refl _)
    clear hb4
    clear Hi Hs Hc
    have hl := hoi.length
    have hni8 := hoi.at.lenInt
    try rw [hl]
    try (have hl0 : ni = 0 := hl.symm; subst hl0)
    have Hl := Lib.hid hl; clear hl
    have hc := pSameLists_any _ _ _ _ _ _ _ _ _ hoi.at hos.at
    rw [decide_eq_true rfl] at hc
    have Hc := Lib.hid hc; clear hc
    go_wp2_with fail
    with_reducible refine (Hc.out).mono ?_
    rintro e v5 ⟨rfl, hb5⟩
    replace hoi := hoi.keep hb5
    replace hos := hos.keep hb5
    replace acc := belowTrans acc hb5 (Nat.le_refl _)
    clear hb5
    clear Hc
    clear hos
    go_wp2_with fail
    with_reducible refine (Hf.out _ acc).mono ?_
    rintro e v6 ⟨p2, n2, c2, ys, rfl, ho2, hnear, hb6⟩
    replace hoi := hoi.keep hb6
    replace acc := belowTrans acc hb6 (Nat.le_refl _)
    clear hb6
    clear Hf hnear
    have hi := fun W h => impl_IsGarden p2 n2 c2 ys W h
    have hs := fun W h => spec_IsGarden p2 n2 c2 ys W h
    have hc := fun W h => impl_PastCount p2 n2 c2 ys W h
    cases gy : goodB ys
    · simp only [mGard_no gy] at hi hs
      simp only [mPastCount_no gy] at hc
      have Hi := Lib.hid hi; clear hi
      have Hs := Lib.hid hs; clear hs
      have Hc := Lib.hid hc; clear hc
      go_wp2_with fail
      with_reducible refine (Hi.out _ ho2.at).mono ?_
      rintro e v7 ⟨rfl, hb7⟩
      replace hoi := hoi.keep hb7
      replace ho2 := ho2.keep hb7
      replace acc := belowTrans acc hb7 (Nat.le_refl _)
      clear hb7
      go_wp2_with fail
      with_reducible refine (Hs.out _ ho2.at).mono ?_
      rintro e v8 ⟨rfl, hb8⟩
      replace hoi := hoi.keep hb8
      replace ho2 := ho2.keep hb8
      replace acc := belowTrans acc hb8 (Nat.le_refl _)
      clear hb8
      go_wp2_with fail
      with_reducible refine (Hc.out _ ho2.at).mono ?_
      rintro e v9 ⟨rfl, hb9⟩
      replace hoi := hoi.keep hb9
      replace ho2 := ho2.keep hb9
      replace acc := belowTrans acc hb9 (Nat.le_refl _)
      clear hb9
      clear Hi Hs Hc
      clear ho2
      go_wp2_with fail
      with_reducible refine (Hg.out _ acc).mono ?_
      rintro e v10 ⟨m, hm0, hm1, rfl, hb10⟩
      replace hoi := hoi.keep hb10
      replace acc := belowTrans acc hb10 (Nat.le_refl _)
      clear hb10
      clear Hg
      have hi := fun W => impl_PastTable m W
      have hs := fun W => spec_PastTable m W
      by_cases hm : 0 ≤ m ∧ m ≤ 28
      · skip
        obtain ⟨M, hMM⟩ : ∃ M : Nat, m = M := ⟨m.toNat, by omega⟩
        have hM : M ≤ 28 := by omega
        have e1 : mPastTable m = (pasT M, true) := by rw [hMM]; exact mPT_yes M hM
        simp only [e1] at hi hs
        obtain ⟨t1, t2, t3, t4, t5, t6⟩ := pasT_facts hM
        have hcp := fun W => impl_CountPiles m W
        have e2 : mCountPiles m = ((cnt M M : Int), true) := by unfold mCountPiles; rw [if_pos hm, hMM]; rfl
        have hcg := fun W => impl_CountGardens m W
        have e3 : mCountGardens m = ((((gardL M).length : Nat) : Int), true) := by rw [hMM]; exact mCGard_yes M hM
        simp only [e2] at hcp
        simp only [e3, ← gard_count hM] at hcg
        have hall : ((cnt M M : Nat) : Int) = ((allL M).length : Int) := by rw [allL_length hM]
        rw [hall] at hcp
        have hcb := allL_le hM
        obtain ⟨c, hcc⟩ : ∃ c : Int, (((allL M).length : Nat) : Int) = c := ⟨_, rfl⟩
        rw [hcc] at hcp t1 t2
        have hc8 : c ≤ 3718 := by omega
        have hsum := fun a k q W h hn5 => pSumV_any a k q (pasT M) W h hn5 (fun d => by have := t5 d; omega)
        rw [t1] at hsum
        generalize hT : pasT M = T at hi hs hcg hsum t2 t3 t4 t5 t6
        clear e1 e2 e3 hm hMM hM hall hcb hcc t1 hT
        have Hi := Lib.hid hi; clear hi
        have Hs := Lib.hid hs; clear hs
        have Hcp := Lib.hid hcp; clear hcp
        have Hcg := Lib.hid hcg; clear hcg
        have Hsum := Lib.hid hsum; clear hsum
        have T2 := Lib.hid t2; clear t2
        have T5 := Lib.hid t5; clear t5
        have T6 := Lib.hid t6; clear t6
        go_wp2_with fail
        with_reducible refine (Hi.out _).mono ?_
        rintro e v11 ⟨pt, nt, ct, rfl, hot, hb11⟩
        replace hoi := hoi.keep hb11
        replace acc := belowTrans acc hb11 (Nat.le_refl _)
        clear hb11
        go_wp2_with fail
        with_reducible refine (Hs.out _).mono ?_
        rintro e v12 ⟨pu, nu, cu, rfl, hou, hb12⟩
        replace hoi := hoi.keep hb12
        replace hot := hot.keep hb12
        replace acc := belowTrans acc hb12 (Nat.le_refl _)
        clear hb12
        clear Hi Hs
        have hc := pSame_any _ _ _ _ _ _ _ _ _ hot.at hou.at
        rw [decide_eq_true rfl] at hc
        have Hc := Lib.hid hc; clear hc
        go_wp2_with fail
        with_reducible refine (Hc.out).mono ?_
        rintro e v13 ⟨rfl, hb13⟩
        replace hoi := hoi.keep hb13
        replace hot := hot.keep hb13
        replace hou := hou.keep hb13
        replace acc := belowTrans acc hb13 (Nat.le_refl _)
        clear hb13
        clear Hc
        clear hou
        go_wp2_with fail
        with_reducible refine (Hcp.out _).mono ?_
        rintro e v14 ⟨rfl, hb14⟩
        replace hoi := hoi.keep hb14
        replace hot := hot.keep hb14
        replace acc := belowTrans acc hb14 (Nat.le_refl _)
        clear hb14
        go_wp2_with fail
        with_reducible refine (Hcg.out _).mono ?_
        rintro e v15 ⟨rfl, hb15⟩
        replace hoi := hoi.keep hb15
        replace hot := hot.keep hb15
        replace acc := belowTrans acc hb15 (Nat.le_refl _)
        clear hb15
        clear Hcp Hcg
        have hlt8 := hot.length
        have hnt1 : 1 ≤ nt := by omega
        have hnt2 : nt ≤ 30 := by omega
        have hnt3 : (nt : Int) ≤ 30 := by omega
        have ht2 := T2.out
        rw [hlt8] at ht2
        clear t3 t4 T2
        have Hlt8 := Lib.hid hlt8; clear hlt8
        have Ht2 := Lib.hid ht2; clear ht2
        obtain ⟨wo, hwo⟩ : ∃ wo : World, wo = v15 := ⟨_, rfl⟩
        subst hwo
        go_wp2_with fail
        go_loopw [28, 146] (fun s i wr => ∃ j : Nat, j ≤ nt ∧ i = .int .i64 j ∧ s = .int .i64 (wsT T j) ∧ Below w.heap.size w wr ∧ Below wo.heap.size wo wr) (fun _ i _ => nt - (intOf i).toNat)
        case atStart => exact ⟨0, Nat.zero_le _, rfl, rfl, acc, Below.refl _ _⟩
        case round =>
          obtain ⟨j, hj, rfl, rfl, hbw, hbo⟩ := hrel
          have hb1 := T6.out j (by rw [Hlt8.out]; exact hj)
          by_cases hlt : j < nt
          · skip
            replace hoi := hoi.keep hbo
            replace hot := hot.keep hbo
            have hb2 := T6.out (j + 1) (by rw [Hlt8.out]; omega)
            have hs1 := wsT_succ T j
            have hv := T5.out j
            rw [hs1] at hb2
            obtain ⟨bt, ot, e_, _, hc_⟩ := hot.at.cell j hlt
            cases e_
            have hck := hc_ j hlt
            clear hc_
            generalize T.getD j 0 = x at hb2 hs1 hv hck
            have hpr : 0 ≤ (j : Int) * x := Int.mul_nonneg (by omega) hv.1
            generalize wsT T j = s at hb1 hb2 hs1
            have hj3 : (j : Int) ≤ 30 := by omega
            have Hs1 := Lib.hid hs1; clear hs1
            go_wp2
            go_roundw
            case rel => exact ⟨j + 1, by omega, by go_num, by rw [Hs1.out], hbw, hbo⟩
            case measure => simp [intOf] <;> omega
          · skip
            replace hoi := hoi.keep hbo
            replace hot := hot.keep hbo
            clear hbo
            obtain rfl : nt = j := by omega
            rw [Ht2.out] at hb1 ⊢
            have hs3 := Hsum.out _ _ _ _ hot.at (by omega)
            have Hs3 := Lib.hid hs3; clear hs3
            go_wp2_with fail
            with_reducible refine (Hs3.out).mono ?_
            rintro e w' ⟨rfl, rfl⟩
            obtain ⟨bt, ot, e_, _, hc_⟩ := hot.at.cell 0 (by omega)
            cases e_
            have hck := hc_ 0 (by omega)
            rw [Nat.add_zero] at hck
            clear hc_
            have hnt0 : (0 : Int) < nt := by omega
            clear hot
            obtain ⟨v16, hv_⟩ : ∃ v : World, v = wr := ⟨_, rfl⟩
            subst hv_
            replace acc := hbw
            clear hbw
            have hrows := hoi.at
            clear hoi
            have hni9 : (ni : Int) ≤ 3718 := by have := Hl.out; omega
            obtain ⟨wo, hwo⟩ : ∃ wo : World, wo = v16 := ⟨_, rfl⟩
            subst hwo
            go_wp2_with fail
            go_loopw [185] (fun i wr => ∃ j : Nat, j ≤ ni ∧ i = .int .i64 j ∧ Below w.heap.size w wr ∧ Below wo.heap.size wo wr) (fun i _ => ni - (intOf i).toNat)
            case atStart => exact ⟨0, Nat.zero_le _, rfl, acc, Below.refl _ _⟩
            case round =>
              obtain ⟨j, hj, rfl, hbw, hbo⟩ := hrel
              by_cases hlt : j < ni
              · skip
                replace hrows := hrows.keep hbo
                obtain ⟨g3, g4, g5, g6⟩ := G2.out j (by rw [Hl.out]; exact hlt)
                obtain ⟨b1, o1, e_, _, hc_⟩ := hrows.cell j hlt
                cases e_
                obtain ⟨a1_, m1, d1, hcell, hat⟩ := hc_ j hlt
                clear hc_
                have hps := pSum_any a1_ m1 d1 (L.getD j []) wr hat g3
                rw [g6] at hps
                have hm1 := hat.length
                have hm28 := g3.len
                generalize L.getD j [] = X at hat g3 g4 g5 g6 hps hm1 hm28
                rw [hm1] at g4 g5 hm28
                have g4i : (0 : Int) < m1 := by omega
                have hm28i : (m1 : Int) ≤ 28 := by omega
                have g4b : ((m1 : Int) == 0) = false := by rw [beq_eq_false_iff_ne]; omega
                obtain ⟨b2, o2, e_, _, hc_⟩ := hat.cell 0 (by omega)
                cases e_
                have hx0 := hc_ 0 (by omega)
                rw [Nat.add_zero] at hx0
                clear hc_ hat g3 g6 hm28
                generalize X.getD 0 0 = x0 at g5 hx0
                have Hps := Lib.hid hps; clear hps
                have Hm1 := Lib.hid hm1; clear hm1
                go_wp2_with fail
                with_reducible refine (Hps.out).mono ?_
                rintro e w' ⟨rfl, rfl⟩
                go_wp2
                go_roundw
                case rel => exact ⟨j + 1, by omega, by go_num, hbw, hbo⟩
                case measure => simp [intOf] <;> omega
              · skip
                replace hrows := hrows.keep hbo
                clear hbo
                have ho := pOrdered_any _ _ _ _ _ hrows
                rw [G1.out] at ho
                have Ho := Lib.hid ho; clear ho
                go_wp2_with fail
                with_reducible refine (Ho.out).mono ?_
                rintro e v17 ⟨rfl, hb17⟩
                replace hrows := hrows.keep hb17
                replace hbw := belowTrans hbw hb17 (Nat.le_refl _)
                clear hb17
                go_wp2
                go_ret
                exact ⟨rfl, hbw⟩
      · skip
        have e1 : mPastTable m = ([], false) := mPT_no m hm
        simp only [e1] at hi hs
        clear e1
        have Hi := Lib.hid hi; clear hi
        have Hs := Lib.hid hs; clear hs
        go_wp2_with fail
        with_reducible refine (Hi.out _).mono ?_
        rintro e v11 ⟨pt, nt, ct, rfl, hot, hb11⟩
        replace hoi := hoi.keep hb11
        replace acc := belowTrans acc hb11 (Nat.le_refl _)
        clear hb11
        go_wp2_with fail
        with_reducible refine (Hs.out _).mono ?_
        rintro e v12 ⟨pu, nu, cu, rfl, hou, hb12⟩
        replace hoi := hoi.keep hb12
        replace hot := hot.keep hb12
        replace acc := belowTrans acc hb12 (Nat.le_refl _)
        clear hb12
        clear Hi Hs
        have hc := pSame_any _ _ _ _ _ _ _ _ _ hot.at hou.at
        rw [decide_eq_true rfl] at hc
        have Hc := Lib.hid hc; clear hc
        go_wp2_with fail
        with_reducible refine (Hc.out).mono ?_
        rintro e v13 ⟨rfl, hb13⟩
        replace hoi := hoi.keep hb13
        replace hot := hot.keep hb13
        replace hou := hou.keep hb13
        replace acc := belowTrans acc hb13 (Nat.le_refl _)
        clear hb13
        clear Hc
        clear hou
        clear hot
        have hrows := hoi.at
        clear hoi
        have hni9 : (ni : Int) ≤ 3718 := by have := Hl.out; omega
        obtain ⟨wo, hwo⟩ : ∃ wo : World, wo = v13 := ⟨_, rfl⟩
        subst hwo
        go_wp2_with fail
        go_loopw [185] (fun i wr => ∃ j : Nat, j ≤ ni ∧ i = .int .i64 j ∧ Below w.heap.size w wr ∧ Below wo.heap.size wo wr) (fun i _ => ni - (intOf i).toNat)
        case atStart => exact ⟨0, Nat.zero_le _, rfl, acc, Below.refl _ _⟩
        case round =>
          obtain ⟨j, hj, rfl, hbw, hbo⟩ := hrel
          by_cases hlt : j < ni
          · skip
            replace hrows := hrows.keep hbo
            obtain ⟨g3, g4, g5, g6⟩ := G2.out j (by rw [Hl.out]; exact hlt)
            obtain ⟨b1, o1, e_, _, hc_⟩ := hrows.cell j hlt
            cases e_
            obtain ⟨a1_, m1, d1, hcell, hat⟩ := hc_ j hlt
            clear hc_
            have hps := pSum_any a1_ m1 d1 (L.getD j []) wr hat g3
            rw [g6] at hps
            have hm1 := hat.length
            have hm28 := g3.len
            generalize L.getD j [] = X at hat g3 g4 g5 g6 hps hm1 hm28
            rw [hm1] at g4 g5 hm28
            have g4i : (0 : Int) < m1 := by omega
            have hm28i : (m1 : Int) ≤ 28 := by omega
            have g4b : ((m1 : Int) == 0) = false := by rw [beq_eq_false_iff_ne]; omega
            obtain ⟨b2, o2, e_, _, hc_⟩ := hat.cell 0 (by omega)
            cases e_
            have hx0 := hc_ 0 (by omega)
            rw [Nat.add_zero] at hx0
            clear hc_ hat g3 g6 hm28
            generalize X.getD 0 0 = x0 at g5 hx0
            have Hps := Lib.hid hps; clear hps
            have Hm1 := Lib.hid hm1; clear hm1
            go_wp2_with fail
            with_reducible refine (Hps.out).mono ?_
            rintro e w' ⟨rfl, rfl⟩
            go_wp2
            go_roundw
            case rel => exact ⟨j + 1, by omega, by go_num, hbw, hbo⟩
            case measure => simp [intOf] <;> omega
          · skip
            replace hrows := hrows.keep hbo
            clear hbo
            have ho := pOrdered_any _ _ _ _ _ hrows
            rw [G1.out] at ho
            have Ho := Lib.hid ho; clear ho
            go_wp2_with fail
            with_reducible refine (Ho.out).mono ?_
            rintro e v14 ⟨rfl, hb14⟩
            replace hrows := hrows.keep hb14
            replace hbw := belowTrans hbw hb14 (Nat.le_refl _)
            clear hb14
            go_wp2
            go_ret
            exact ⟨rfl, hbw⟩
    have hgi := gard_iff (good_iff.1 gy)
    have hpl := pasN_le (good_iff.1 gy)
    simp only [mGard_yes gy, hgi] at hi hs
    simp only [mPastCount_yes gy] at hc
    have hpn : (pastsL ys).length = pasN ys := rfl
    rw [hpn] at hc
    clear hpn hgi
    generalize pasN ys = q at hi hs hc hpl
    have hQ2 : (q : Int) ≤ 29 := by omega
    have hQ3 : ((q : Int) == 0) = decide (q = 0) := by
      by_cases h : q = 0
      · rw [decide_eq_true h, h]; rfl
      · rw [decide_eq_false h, beq_eq_false_iff_ne]; omega
    generalize decide (q = 0) = Z at hi hs hQ3
    clear hpl
    have Hi := Lib.hid hi; clear hi
    have Hs := Lib.hid hs; clear hs
    have Hc := Lib.hid hc; clear hc
    go_wp2_with fail
    with_reducible refine (Hi.out _ ho2.at).mono ?_
    rintro e v7 ⟨rfl, hb7⟩
    replace hoi := hoi.keep hb7
    replace ho2 := ho2.keep hb7
    replace acc := belowTrans acc hb7 (Nat.le_refl _)
    clear hb7
    go_wp2_with fail
    with_reducible refine (Hs.out _ ho2.at).mono ?_
    rintro e v8 ⟨rfl, hb8⟩
    replace hoi := hoi.keep hb8
    replace ho2 := ho2.keep hb8
    replace acc := belowTrans acc hb8 (Nat.le_refl _)
    clear hb8
    go_wp2_with fail
    with_reducible refine (Hc.out _ ho2.at).mono ?_
    rintro e v9 ⟨rfl, hb9⟩
    replace hoi := hoi.keep hb9
    replace ho2 := ho2.keep hb9
    replace acc := belowTrans acc hb9 (Nat.le_refl _)
    clear hb9
    clear Hi Hs Hc
    clear ho2
    go_wp2_with fail
    with_reducible refine (Hg.out _ acc).mono ?_
    rintro e v10 ⟨m, hm0, hm1, rfl, hb10⟩
    replace hoi := hoi.keep hb10
    replace acc := belowTrans acc hb10 (Nat.le_refl _)
    clear hb10
    clear Hg
    have hi := fun W => impl_PastTable m W
    have hs := fun W => spec_PastTable m W
    by_cases hm : 0 ≤ m ∧ m ≤ 28
    · skip
      obtain ⟨M, hMM⟩ : ∃ M : Nat, m = M := ⟨m.toNat, by omega⟩
      have hM : M ≤ 28 := by omega
      have e1 : mPastTable m = (pasT M, true) := by rw [hMM]; exact mPT_yes M hM
      simp only [e1] at hi hs
      obtain ⟨t1, t2, t3, t4, t5, t6⟩ := pasT_facts hM
      have hcp := fun W => impl_CountPiles m W
      have e2 : mCountPiles m = ((cnt M M : Int), true) := by unfold mCountPiles; rw [if_pos hm, hMM]; rfl
      have hcg := fun W => impl_CountGardens m W
      have e3 : mCountGardens m = ((((gardL M).length : Nat) : Int), true) := by rw [hMM]; exact mCGard_yes M hM
      simp only [e2] at hcp
      simp only [e3, ← gard_count hM] at hcg
      have hall : ((cnt M M : Nat) : Int) = ((allL M).length : Int) := by rw [allL_length hM]
      rw [hall] at hcp
      have hcb := allL_le hM
      obtain ⟨c, hcc⟩ : ∃ c : Int, (((allL M).length : Nat) : Int) = c := ⟨_, rfl⟩
      rw [hcc] at hcp t1 t2
      have hc8 : c ≤ 3718 := by omega
      have hsum := fun a k q W h hn5 => pSumV_any a k q (pasT M) W h hn5 (fun d => by have := t5 d; omega)
      rw [t1] at hsum
      generalize hT : pasT M = T at hi hs hcg hsum t2 t3 t4 t5 t6
      clear e1 e2 e3 hm hMM hM hall hcb hcc t1 hT
      have Hi := Lib.hid hi; clear hi
      have Hs := Lib.hid hs; clear hs
      have Hcp := Lib.hid hcp; clear hcp
      have Hcg := Lib.hid hcg; clear hcg
      have Hsum := Lib.hid hsum; clear hsum
      have T2 := Lib.hid t2; clear t2
      have T5 := Lib.hid t5; clear t5
      have T6 := Lib.hid t6; clear t6
      go_wp2_with fail
      with_reducible refine (Hi.out _).mono ?_
      rintro e v11 ⟨pt, nt, ct, rfl, hot, hb11⟩
      replace hoi := hoi.keep hb11
      replace acc := belowTrans acc hb11 (Nat.le_refl _)
      clear hb11
      go_wp2_with fail
      with_reducible refine (Hs.out _).mono ?_
      rintro e v12 ⟨pu, nu, cu, rfl, hou, hb12⟩
      replace hoi := hoi.keep hb12
      replace hot := hot.keep hb12
      replace acc := belowTrans acc hb12 (Nat.le_refl _)
      clear hb12
      clear Hi Hs
      have hc := pSame_any _ _ _ _ _ _ _ _ _ hot.at hou.at
      rw [decide_eq_true rfl] at hc
      have Hc := Lib.hid hc; clear hc
      go_wp2_with fail
      with_reducible refine (Hc.out).mono ?_
      rintro e v13 ⟨rfl, hb13⟩
      replace hoi := hoi.keep hb13
      replace hot := hot.keep hb13
      replace hou := hou.keep hb13
      replace acc := belowTrans acc hb13 (Nat.le_refl _)
      clear hb13
      clear Hc
      clear hou
      go_wp2_with fail
      with_reducible refine (Hcp.out _).mono ?_
      rintro e v14 ⟨rfl, hb14⟩
      replace hoi := hoi.keep hb14
      replace hot := hot.keep hb14
      replace acc := belowTrans acc hb14 (Nat.le_refl _)
      clear hb14
      go_wp2_with fail
      with_reducible refine (Hcg.out _).mono ?_
      rintro e v15 ⟨rfl, hb15⟩
      replace hoi := hoi.keep hb15
      replace hot := hot.keep hb15
      replace acc := belowTrans acc hb15 (Nat.le_refl _)
      clear hb15
      clear Hcp Hcg
      have hlt8 := hot.length
      have hnt1 : 1 ≤ nt := by omega
      have hnt2 : nt ≤ 30 := by omega
      have hnt3 : (nt : Int) ≤ 30 := by omega
      have ht2 := T2.out
      rw [hlt8] at ht2
      clear t3 t4 T2
      have Hlt8 := Lib.hid hlt8; clear hlt8
      have Ht2 := Lib.hid ht2; clear ht2
      obtain ⟨wo, hwo⟩ : ∃ wo : World, wo = v15 := ⟨_, rfl⟩
      subst hwo
      go_wp2_with fail
      go_loopw [28, 146] (fun s i wr => ∃ j : Nat, j ≤ nt ∧ i = .int .i64 j ∧ s = .int .i64 (wsT T j) ∧ Below w.heap.size w wr ∧ Below wo.heap.size wo wr) (fun _ i _ => nt - (intOf i).toNat)
      case atStart => exact ⟨0, Nat.zero_le _, rfl, rfl, acc, Below.refl _ _⟩
      case round =>
        obtain ⟨j, hj, rfl, rfl, hbw, hbo⟩ := hrel
        have hb1 := T6.out j (by rw [Hlt8.out]; exact hj)
        by_cases hlt : j < nt
        · skip
          replace hoi := hoi.keep hbo
          replace hot := hot.keep hbo
          have hb2 := T6.out (j + 1) (by rw [Hlt8.out]; omega)
          have hs1 := wsT_succ T j
          have hv := T5.out j
          rw [hs1] at hb2
          obtain ⟨bt, ot, e_, _, hc_⟩ := hot.at.cell j hlt
          cases e_
          have hck := hc_ j hlt
          clear hc_
          generalize T.getD j 0 = x at hb2 hs1 hv hck
          have hpr : 0 ≤ (j : Int) * x := Int.mul_nonneg (by omega) hv.1
          generalize wsT T j = s at hb1 hb2 hs1
          have hj3 : (j : Int) ≤ 30 := by omega
          have Hs1 := Lib.hid hs1; clear hs1
          go_wp2
          go_roundw
          case rel => exact ⟨j + 1, by omega, by go_num, by rw [Hs1.out], hbw, hbo⟩
          case measure => simp [intOf] <;> omega
        · skip
          replace hoi := hoi.keep hbo
          replace hot := hot.keep hbo
          clear hbo
          obtain rfl : nt = j := by omega
          rw [Ht2.out] at hb1 ⊢
          have hs3 := Hsum.out _ _ _ _ hot.at (by omega)
          have Hs3 := Lib.hid hs3; clear hs3
          go_wp2_with fail
          with_reducible refine (Hs3.out).mono ?_
          rintro e w' ⟨rfl, rfl⟩
          obtain ⟨bt, ot, e_, _, hc_⟩ := hot.at.cell 0 (by omega)
          cases e_
          have hck := hc_ 0 (by omega)
          rw [Nat.add_zero] at hck
          clear hc_
          have hnt0 : (0 : Int) < nt := by omega
          clear hot
          obtain ⟨v16, hv_⟩ : ∃ v : World, v = wr := ⟨_, rfl⟩
          subst hv_
          replace acc := hbw
          clear hbw
          have hrows := hoi.at
          clear hoi
          have hni9 : (ni : Int) ≤ 3718 := by have := Hl.out; omega
          obtain ⟨wo, hwo⟩ : ∃ wo : World, wo = v16 := ⟨_, rfl⟩
          subst hwo
          go_wp2_with fail
          go_loopw [185] (fun i wr => ∃ j : Nat, j ≤ ni ∧ i = .int .i64 j ∧ Below w.heap.size w wr ∧ Below wo.heap.size wo wr) (fun i _ => ni - (intOf i).toNat)
          case atStart => exact ⟨0, Nat.zero_le _, rfl, acc, Below.refl _ _⟩
          case round =>
            obtain ⟨j, hj, rfl, hbw, hbo⟩ := hrel
            by_cases hlt : j < ni
            · skip
              replace hrows := hrows.keep hbo
              obtain ⟨g3, g4, g5, g6⟩ := G2.out j (by rw [Hl.out]; exact hlt)
              obtain ⟨b1, o1, e_, _, hc_⟩ := hrows.cell j hlt
              cases e_
              obtain ⟨a1_, m1, d1, hcell, hat⟩ := hc_ j hlt
              clear hc_
              have hps := pSum_any a1_ m1 d1 (L.getD j []) wr hat g3
              rw [g6] at hps
              have hm1 := hat.length
              have hm28 := g3.len
              generalize L.getD j [] = X at hat g3 g4 g5 g6 hps hm1 hm28
              rw [hm1] at g4 g5 hm28
              have g4i : (0 : Int) < m1 := by omega
              have hm28i : (m1 : Int) ≤ 28 := by omega
              have g4b : ((m1 : Int) == 0) = false := by rw [beq_eq_false_iff_ne]; omega
              obtain ⟨b2, o2, e_, _, hc_⟩ := hat.cell 0 (by omega)
              cases e_
              have hx0 := hc_ 0 (by omega)
              rw [Nat.add_zero] at hx0
              clear hc_ hat g3 g6 hm28
              generalize X.getD 0 0 = x0 at g5 hx0
              have Hps := Lib.hid hps; clear hps
              have Hm1 := Lib.hid hm1; clear hm1
              go_wp2_with fail
              with_reducible refine (Hps.out).mono ?_
              rintro e w' ⟨rfl, rfl⟩
              go_wp2
              go_roundw
              case rel => exact ⟨j + 1, by omega, by go_num, hbw, hbo⟩
              case measure => simp [intOf] <;> omega
            · skip
              replace hrows := hrows.keep hbo
              clear hbo
              have ho := pOrdered_any _ _ _ _ _ hrows
              rw [G1.out] at ho
              have Ho := Lib.hid ho; clear ho
              go_wp2_with fail
              with_reducible refine (Ho.out).mono ?_
              rintro e v17 ⟨rfl, hb17⟩
              replace hrows := hrows.keep hb17
              replace hbw := belowTrans hbw hb17 (Nat.le_refl _)
              clear hb17
              go_wp2
              go_ret
              exact ⟨rfl, hbw⟩
    · skip
      have e1 : mPastTable m = ([], false) := mPT_no m hm
      simp only [e1] at hi hs
      clear e1
      have Hi := Lib.hid hi; clear hi
      have Hs := Lib.hid hs; clear hs
      go_wp2_with fail
      with_reducible refine (Hi.out _).mono ?_
      rintro e v11 ⟨pt, nt, ct, rfl, hot, hb11⟩
      replace hoi := hoi.keep hb11
      replace acc := belowTrans acc hb11 (Nat.le_refl _)
      clear hb11
      go_wp2_with fail
      with_reducible refine (Hs.out _).mono ?_
      rintro e v12 ⟨pu, nu, cu, rfl, hou, hb12⟩
      replace hoi := hoi.keep hb12
      replace hot := hot.keep hb12
      replace acc := belowTrans acc hb12 (Nat.le_refl _)
      clear hb12
      clear Hi Hs
      have hc := pSame_any _ _ _ _ _ _ _ _ _ hot.at hou.at
      rw [decide_eq_true rfl] at hc
      have Hc := Lib.hid hc; clear hc
      go_wp2_with fail
      with_reducible refine (Hc.out).mono ?_
      rintro e v13 ⟨rfl, hb13⟩
      replace hoi := hoi.keep hb13
      replace hot := hot.keep hb13
      replace hou := hou.keep hb13
      replace acc := belowTrans acc hb13 (Nat.le_refl _)
      clear hb13
      clear Hc
      clear hou
      clear hot
      have hrows := hoi.at
      clear hoi
      have hni9 : (ni : Int) ≤ 3718 := by have := Hl.out; omega
      obtain ⟨wo, hwo⟩ : ∃ wo : World, wo = v13 := ⟨_, rfl⟩
      subst hwo
      go_wp2_with fail
      go_loopw [185] (fun i wr => ∃ j : Nat, j ≤ ni ∧ i = .int .i64 j ∧ Below w.heap.size w wr ∧ Below wo.heap.size wo wr) (fun i _ => ni - (intOf i).toNat)
      case atStart => exact ⟨0, Nat.zero_le _, rfl, acc, Below.refl _ _⟩
      case round =>
        obtain ⟨j, hj, rfl, hbw, hbo⟩ := hrel
        by_cases hlt : j < ni
        · skip
          replace hrows := hrows.keep hbo
          obtain ⟨g3, g4, g5, g6⟩ := G2.out j (by rw [Hl.out]; exact hlt)
          obtain ⟨b1, o1, e_, _, hc_⟩ := hrows.cell j hlt
          cases e_
          obtain ⟨a1_, m1, d1, hcell, hat⟩ := hc_ j hlt
          clear hc_
          have hps := pSum_any a1_ m1 d1 (L.getD j []) wr hat g3
          rw [g6] at hps
          have hm1 := hat.length
          have hm28 := g3.len
          generalize L.getD j [] = X at hat g3 g4 g5 g6 hps hm1 hm28
          rw [hm1] at g4 g5 hm28
          have g4i : (0 : Int) < m1 := by omega
          have hm28i : (m1 : Int) ≤ 28 := by omega
          have g4b : ((m1 : Int) == 0) = false := by rw [beq_eq_false_iff_ne]; omega
          obtain ⟨b2, o2, e_, _, hc_⟩ := hat.cell 0 (by omega)
          cases e_
          have hx0 := hc_ 0 (by omega)
          rw [Nat.add_zero] at hx0
          clear hc_ hat g3 g6 hm28
          generalize X.getD 0 0 = x0 at g5 hx0
          have Hps := Lib.hid hps; clear hps
          have Hm1 := Lib.hid hm1; clear hm1
          go_wp2_with fail
          with_reducible refine (Hps.out).mono ?_
          rintro e w' ⟨rfl, rfl⟩
          go_wp2
          go_roundw
          case rel => exact ⟨j + 1, by omega, by go_num, hbw, hbo⟩
          case measure => simp [intOf] <;> omega
        · skip
          replace hrows := hrows.keep hbo
          clear hbo
          have ho := pOrdered_any _ _ _ _ _ hrows
          rw [G1.out] at ho
          have Ho := Lib.hid ho; clear ho
          go_wp2_with fail
          with_reducible refine (Ho.out).mono ?_
          rintro e v14 ⟨rfl, hb14⟩
          replace hrows := hrows.keep hb14
          replace hbw := belowTrans hbw hb14 (Nat.le_refl _)
          clear hb14
          go_wp2
          go_ret
          exact ⟨rfl, hbw⟩
  have e1 : mGardensOf n = ([], false) := mGards_no n hn
  have e2 : mCountGardens n = (0, false) := mCGard_no n hn
  simp only [e1] at hi hs
  simp only [e2] at hc
  clear e1 e2
  have Hi := Lib.hid hi; clear hi
  have Hs := Lib.hid hs; clear hs
  have Hc := Lib.hid hc; clear hc
  go_wp2_with fail
  with_reducible refine (Hi.out _).mono ?_
  rintro e v2 ⟨pi, ni, ci, rfl, hoi, hb2⟩
  replace acc := belowTrans acc hb2 (Nat.le_refl _)
  clear hb2
  go_wp2_with fail
  with_reducible refine (Hs.out _).mono ?_
  rintro e v3 ⟨ps, ns, cs, rfl, hos, hb3⟩
  replace hoi := hoi.keep hb3
  replace acc := belowTrans acc hb3 (Nat.le_refl _)
  clear hb3
  go_wp2_with fail
  with_reducible refine (Hc.out _).mono ?_
  rintro e v4 ⟨rfl, hb4⟩
  replace hoi := hoi.keep hb4
  replace hos := hos.keep hb4
  replace acc := belowTrans acc hb4 (Nat.le_refl _)
  clear hb4
  clear Hi Hs Hc
  have hl := hoi.length
  have hni8 := hoi.at.lenInt
  try rw [hl]
  try (have hl0 : ni = 0 := hl.symm; subst hl0)
  have Hl := Lib.hid hl; clear hl
  have hc := pSameLists_any _ _ _ _ _ _ _ _ _ hoi.at hos.at
  rw [decide_eq_true rfl] at hc
  have Hc := Lib.hid hc; clear hc
  go_wp2_with fail
  with_reducible refine (Hc.out).mono ?_
  rintro e v5 ⟨rfl, hb5⟩
  replace hoi := hoi.keep hb5
  replace hos := hos.keep hb5
  replace acc := belowTrans acc hb5 (Nat.le_refl _)
  clear hb5
  clear Hc
  clear hos
  go_wp2_with fail
  with_reducible refine (Hf.out _ acc).mono ?_
  rintro e v6 ⟨p2, n2, c2, ys, rfl, ho2, hnear, hb6⟩
  replace hoi := hoi.keep hb6
  replace acc := belowTrans acc hb6 (Nat.le_refl _)
  clear hb6
  clear Hf hnear
  have hi := fun W h => impl_IsGarden p2 n2 c2 ys W h
  have hs := fun W h => spec_IsGarden p2 n2 c2 ys W h
  have hc := fun W h => impl_PastCount p2 n2 c2 ys W h
  clear hoi
  cases gy : goodB ys
  · simp only [mGard_no gy] at hi hs
    simp only [mPastCount_no gy] at hc
    have Hi := Lib.hid hi; clear hi
    have Hs := Lib.hid hs; clear hs
    have Hc := Lib.hid hc; clear hc
    go_wp2_with fail
    with_reducible refine (Hi.out _ ho2.at).mono ?_
    rintro e v7 ⟨rfl, hb7⟩
    replace ho2 := ho2.keep hb7
    replace acc := belowTrans acc hb7 (Nat.le_refl _)
    clear hb7
    go_wp2_with fail
    with_reducible refine (Hs.out _ ho2.at).mono ?_
    rintro e v8 ⟨rfl, hb8⟩
    replace ho2 := ho2.keep hb8
    replace acc := belowTrans acc hb8 (Nat.le_refl _)
    clear hb8
    go_wp2_with fail
    with_reducible refine (Hc.out _ ho2.at).mono ?_
    rintro e v9 ⟨rfl, hb9⟩
    replace ho2 := ho2.keep hb9
    replace acc := belowTrans acc hb9 (Nat.le_refl _)
    clear hb9
    clear Hi Hs Hc
    clear ho2
    go_wp2_with fail
    with_reducible refine (Hg.out _ acc).mono ?_
    rintro e v10 ⟨m, hm0, hm1, rfl, hb10⟩
    replace acc := belowTrans acc hb10 (Nat.le_refl _)
    clear hb10
    clear Hg
    have hi := fun W => impl_PastTable m W
    have hs := fun W => spec_PastTable m W
    by_cases hm : 0 ≤ m ∧ m ≤ 28
    · skip
      obtain ⟨M, hMM⟩ : ∃ M : Nat, m = M := ⟨m.toNat, by omega⟩
      have hM : M ≤ 28 := by omega
      have e1 : mPastTable m = (pasT M, true) := by rw [hMM]; exact mPT_yes M hM
      simp only [e1] at hi hs
      obtain ⟨t1, t2, t3, t4, t5, t6⟩ := pasT_facts hM
      have hcp := fun W => impl_CountPiles m W
      have e2 : mCountPiles m = ((cnt M M : Int), true) := by unfold mCountPiles; rw [if_pos hm, hMM]; rfl
      have hcg := fun W => impl_CountGardens m W
      have e3 : mCountGardens m = ((((gardL M).length : Nat) : Int), true) := by rw [hMM]; exact mCGard_yes M hM
      simp only [e2] at hcp
      simp only [e3, ← gard_count hM] at hcg
      have hall : ((cnt M M : Nat) : Int) = ((allL M).length : Int) := by rw [allL_length hM]
      rw [hall] at hcp
      have hcb := allL_le hM
      obtain ⟨c, hcc⟩ : ∃ c : Int, (((allL M).length : Nat) : Int) = c := ⟨_, rfl⟩
      rw [hcc] at hcp t1 t2
      have hc8 : c ≤ 3718 := by omega
      have hsum := fun a k q W h hn5 => pSumV_any a k q (pasT M) W h hn5 (fun d => by have := t5 d; omega)
      rw [t1] at hsum
      generalize hT : pasT M = T at hi hs hcg hsum t2 t3 t4 t5 t6
      clear e1 e2 e3 hm hMM hM hall hcb hcc t1 hT
      have Hi := Lib.hid hi; clear hi
      have Hs := Lib.hid hs; clear hs
      have Hcp := Lib.hid hcp; clear hcp
      have Hcg := Lib.hid hcg; clear hcg
      have Hsum := Lib.hid hsum; clear hsum
      have T2 := Lib.hid t2; clear t2
      have T5 := Lib.hid t5; clear t5
      have T6 := Lib.hid t6; clear t6
      go_wp2_with fail
      with_reducible refine (Hi.out _).mono ?_
      rintro e v11 ⟨pt, nt, ct, rfl, hot, hb11⟩
      replace acc := belowTrans acc hb11 (Nat.le_refl _)
      clear hb11
      go_wp2_with fail
      with_reducible refine (Hs.out _).mono ?_
      rintro e v12 ⟨pu, nu, cu, rfl, hou, hb12⟩
      replace hot := hot.keep hb12
      replace acc := belowTrans acc hb12 (Nat.le_refl _)
      clear hb12
      clear Hi Hs
      have hc := pSame_any _ _ _ _ _ _ _ _ _ hot.at hou.at
      rw [decide_eq_true rfl] at hc
      have Hc := Lib.hid hc; clear hc
      go_wp2_with fail
      with_reducible refine (Hc.out).mono ?_
      rintro e v13 ⟨rfl, hb13⟩
      replace hot := hot.keep hb13
      replace hou := hou.keep hb13
      replace acc := belowTrans acc hb13 (Nat.le_refl _)
      clear hb13
      clear Hc
      clear hou
      go_wp2_with fail
      with_reducible refine (Hcp.out _).mono ?_
      rintro e v14 ⟨rfl, hb14⟩
      replace hot := hot.keep hb14
      replace acc := belowTrans acc hb14 (Nat.le_refl _)
      clear hb14
      go_wp2_with fail
      with_reducible refine (Hcg.out _).mono ?_
      rintro e v15 ⟨rfl, hb15⟩
      replace hot := hot.keep hb15
      replace acc := belowTrans acc hb15 (Nat.le_refl _)
      clear hb15
      clear Hcp Hcg
      have hlt8 := hot.length
      have hnt1 : 1 ≤ nt := by omega
      have hnt2 : nt ≤ 30 := by omega
      have hnt3 : (nt : Int) ≤ 30 := by omega
      have ht2 := T2.out
      rw [hlt8] at ht2
      clear t3 t4 T2
      have Hlt8 := Lib.hid hlt8; clear hlt8
      have Ht2 := Lib.hid ht2; clear ht2
      obtain ⟨wo, hwo⟩ : ∃ wo : World, wo = v15 := ⟨_, rfl⟩
      subst hwo
      go_wp2_with fail
      go_loopw [28, 146] (fun s i wr => ∃ j : Nat, j ≤ nt ∧ i = .int .i64 j ∧ s = .int .i64 (wsT T j) ∧ Below w.heap.size w wr ∧ Below wo.heap.size wo wr) (fun _ i _ => nt - (intOf i).toNat)
      case atStart => exact ⟨0, Nat.zero_le _, rfl, rfl, acc, Below.refl _ _⟩
      case round =>
        obtain ⟨j, hj, rfl, rfl, hbw, hbo⟩ := hrel
        have hb1 := T6.out j (by rw [Hlt8.out]; exact hj)
        by_cases hlt : j < nt
        · skip
          replace hot := hot.keep hbo
          have hb2 := T6.out (j + 1) (by rw [Hlt8.out]; omega)
          have hs1 := wsT_succ T j
          have hv := T5.out j
          rw [hs1] at hb2
          obtain ⟨bt, ot, e_, _, hc_⟩ := hot.at.cell j hlt
          cases e_
          have hck := hc_ j hlt
          clear hc_
          generalize T.getD j 0 = x at hb2 hs1 hv hck
          have hpr : 0 ≤ (j : Int) * x := Int.mul_nonneg (by omega) hv.1
          generalize wsT T j = s at hb1 hb2 hs1
          have hj3 : (j : Int) ≤ 30 := by omega
          have Hs1 := Lib.hid hs1; clear hs1
          go_wp2
          go_roundw
          case rel => exact ⟨j + 1, by omega, by go_num, by rw [Hs1.out], hbw, hbo⟩
          case measure => simp [intOf] <;> omega
        · skip
          replace hot := hot.keep hbo
          clear hbo
          obtain rfl : nt = j := by omega
          rw [Ht2.out] at hb1 ⊢
          have hs3 := Hsum.out _ _ _ _ hot.at (by omega)
          have Hs3 := Lib.hid hs3; clear hs3
          go_wp2_with fail
          with_reducible refine (Hs3.out).mono ?_
          rintro e w' ⟨rfl, rfl⟩
          obtain ⟨bt, ot, e_, _, hc_⟩ := hot.at.cell 0 (by omega)
          cases e_
          have hck := hc_ 0 (by omega)
          rw [Nat.add_zero] at hck
          clear hc_
          have hnt0 : (0 : Int) < nt := by omega
          clear hot
          obtain ⟨v16, hv_⟩ : ∃ v : World, v = wr := ⟨_, rfl⟩
          subst hv_
          replace acc := hbw
          clear hbw
          go_wp2
          go_ret
          exact ⟨rfl, acc⟩
    · skip
      have e1 : mPastTable m = ([], false) := mPT_no m hm
      simp only [e1] at hi hs
      clear e1
      have Hi := Lib.hid hi; clear hi
      have Hs := Lib.hid hs; clear hs
      go_wp2_with fail
      with_reducible refine (Hi.out _).mono ?_
      rintro e v11 ⟨pt, nt, ct, rfl, hot, hb11⟩
      replace acc := belowTrans acc hb11 (Nat.le_refl _)
      clear hb11
      go_wp2_with fail
      with_reducible refine (Hs.out _).mono ?_
      rintro e v12 ⟨pu, nu, cu, rfl, hou, hb12⟩
      replace hot := hot.keep hb12
      replace acc := belowTrans acc hb12 (Nat.le_refl _)
      clear hb12
      clear Hi Hs
      have hc := pSame_any _ _ _ _ _ _ _ _ _ hot.at hou.at
      rw [decide_eq_true rfl] at hc
      have Hc := Lib.hid hc; clear hc
      go_wp2_with fail
      with_reducible refine (Hc.out).mono ?_
      rintro e v13 ⟨rfl, hb13⟩
      replace hot := hot.keep hb13
      replace hou := hou.keep hb13
      replace acc := belowTrans acc hb13 (Nat.le_refl _)
      clear hb13
      clear Hc
      clear hou
      clear hot
      go_wp2
      go_ret
      exact ⟨rfl, acc⟩
  have hgi := gard_iff (good_iff.1 gy)
  have hpl := pasN_le (good_iff.1 gy)
  simp only [mGard_yes gy, hgi] at hi hs
  simp only [mPastCount_yes gy] at hc
  have hpn : (pastsL ys).length = pasN ys := rfl
  rw [hpn] at hc
  clear hpn hgi
  generalize pasN ys = q at hi hs hc hpl
  have hQ2 : (q : Int) ≤ 29 := by omega
  have hQ3 : ((q : Int) == 0) = decide (q = 0) := by
    by_cases h : q = 0
    · rw [decide_eq_true h, h]; rfl
    · rw [decide_eq_false h, beq_eq_false_iff_ne]; omega
  generalize decide (q = 0) = Z at hi hs hQ3
  clear hpl
  have Hi := Lib.hid hi; clear hi
  have Hs := Lib.hid hs; clear hs
  have Hc := Lib.hid hc; clear hc
  go_wp2_with fail
  with_reducible refine (Hi.out _ ho2.at).mono ?_
  rintro e v7 ⟨rfl, hb7⟩
  replace ho2 := ho2.keep hb7
  replace acc := belowTrans acc hb7 (Nat.le_refl _)
  clear hb7
  go_wp2_with fail
  with_reducible refine (Hs.out _ ho2.at).mono ?_
  rintro e v8 ⟨rfl, hb8⟩
  replace ho2 := ho2.keep hb8
  replace acc := belowTrans acc hb8 (Nat.le_refl _)
  clear hb8
  go_wp2_with fail
  with_reducible refine (Hc.out _ ho2.at).mono ?_
  rintro e v9 ⟨rfl, hb9⟩
  replace ho2 := ho2.keep hb9
  replace acc := belowTrans acc hb9 (Nat.le_refl _)
  clear hb9
  clear Hi Hs Hc
  clear ho2
  go_wp2_with fail
  with_reducible refine (Hg.out _ acc).mono ?_
  rintro e v10 ⟨m, hm0, hm1, rfl, hb10⟩
  replace acc := belowTrans acc hb10 (Nat.le_refl _)
  clear hb10
  clear Hg
  have hi := fun W => impl_PastTable m W
  have hs := fun W => spec_PastTable m W
  by_cases hm : 0 ≤ m ∧ m ≤ 28
  · skip
    obtain ⟨M, hMM⟩ : ∃ M : Nat, m = M := ⟨m.toNat, by omega⟩
    have hM : M ≤ 28 := by omega
    have e1 : mPastTable m = (pasT M, true) := by rw [hMM]; exact mPT_yes M hM
    simp only [e1] at hi hs
    obtain ⟨t1, t2, t3, t4, t5, t6⟩ := pasT_facts hM
    have hcp := fun W => impl_CountPiles m W
    have e2 : mCountPiles m = ((cnt M M : Int), true) := by unfold mCountPiles; rw [if_pos hm, hMM]; rfl
    have hcg := fun W => impl_CountGardens m W
    have e3 : mCountGardens m = ((((gardL M).length : Nat) : Int), true) := by rw [hMM]; exact mCGard_yes M hM
    simp only [e2] at hcp
    simp only [e3, ← gard_count hM] at hcg
    have hall : ((cnt M M : Nat) : Int) = ((allL M).length : Int) := by rw [allL_length hM]
    rw [hall] at hcp
    have hcb := allL_le hM
    obtain ⟨c, hcc⟩ : ∃ c : Int, (((allL M).length : Nat) : Int) = c := ⟨_, rfl⟩
    rw [hcc] at hcp t1 t2
    have hc8 : c ≤ 3718 := by omega
    have hsum := fun a k q W h hn5 => pSumV_any a k q (pasT M) W h hn5 (fun d => by have := t5 d; omega)
    rw [t1] at hsum
    generalize hT : pasT M = T at hi hs hcg hsum t2 t3 t4 t5 t6
    clear e1 e2 e3 hm hMM hM hall hcb hcc t1 hT
    have Hi := Lib.hid hi; clear hi
    have Hs := Lib.hid hs; clear hs
    have Hcp := Lib.hid hcp; clear hcp
    have Hcg := Lib.hid hcg; clear hcg
    have Hsum := Lib.hid hsum; clear hsum
    have T2 := Lib.hid t2; clear t2
    have T5 := Lib.hid t5; clear t5
    have T6 := Lib.hid t6; clear t6
    go_wp2_with fail
    with_reducible refine (Hi.out _).mono ?_
    rintro e v11 ⟨pt, nt, ct, rfl, hot, hb11⟩
    replace acc := belowTrans acc hb11 (Nat.le_refl _)
    clear hb11
    go_wp2_with fail
    with_reducible refine (Hs.out _).mono ?_
    rintro e v12 ⟨pu, nu, cu, rfl, hou, hb12⟩
    replace hot := hot.keep hb12
    replace acc := belowTrans acc hb12 (Nat.le_refl _)
    clear hb12
    clear Hi Hs
    have hc := pSame_any _ _ _ _ _ _ _ _ _ hot.at hou.at
    rw [decide_eq_true rfl] at hc
    have Hc := Lib.hid hc; clear hc
    go_wp2_with fail
    with_reducible refine (Hc.out).mono ?_
    rintro e v13 ⟨rfl, hb13⟩
    replace hot := hot.keep hb13
    replace hou := hou.keep hb13
    replace acc := belowTrans acc hb13 (Nat.le_refl _)
    clear hb13
    clear Hc
    clear hou
    go_wp2_with fail
    with_reducible refine (Hcp.out _).mono ?_
    rintro e v14 ⟨rfl, hb14⟩
    replace hot := hot.keep hb14
    replace acc := belowTrans acc hb14 (Nat.le_refl _)
    clear hb14
    go_wp2_with fail
    with_reducible refine (Hcg.out _).mono ?_
    rintro e v15 ⟨rfl, hb15⟩
    replace hot := hot.keep hb15
    replace acc := belowTrans acc hb15 (Nat.le_refl _)
    clear hb15
    clear Hcp Hcg
    have hlt8 := hot.length
    have hnt1 : 1 ≤ nt := by omega
    have hnt2 : nt ≤ 30 := by omega
    have hnt3 : (nt : Int) ≤ 30 := by omega
    have ht2 := T2.out
    rw [hlt8] at ht2
    clear t3 t4 T2
    have Hlt8 := Lib.hid hlt8; clear hlt8
    have Ht2 := Lib.hid ht2; clear ht2
    obtain ⟨wo, hwo⟩ : ∃ wo : World, wo = v15 := ⟨_, rfl⟩
    subst hwo
    go_wp2_with fail
    go_loopw [28, 146] (fun s i wr => ∃ j : Nat, j ≤ nt ∧ i = .int .i64 j ∧ s = .int .i64 (wsT T j) ∧ Below w.heap.size w wr ∧ Below wo.heap.size wo wr) (fun _ i _ => nt - (intOf i).toNat)
    case atStart => exact ⟨0, Nat.zero_le _, rfl, rfl, acc, Below.refl _ _⟩
    case round =>
      obtain ⟨j, hj, rfl, rfl, hbw, hbo⟩ := hrel
      have hb1 := T6.out j (by rw [Hlt8.out]; exact hj)
      by_cases hlt : j < nt
      · skip
        replace hot := hot.keep hbo
        have hb2 := T6.out (j + 1) (by rw [Hlt8.out]; omega)
        have hs1 := wsT_succ T j
        have hv := T5.out j
        rw [hs1] at hb2
        obtain ⟨bt, ot, e_, _, hc_⟩ := hot.at.cell j hlt
        cases e_
        have hck := hc_ j hlt
        clear hc_
        generalize T.getD j 0 = x at hb2 hs1 hv hck
        have hpr : 0 ≤ (j : Int) * x := Int.mul_nonneg (by omega) hv.1
        generalize wsT T j = s at hb1 hb2 hs1
        have hj3 : (j : Int) ≤ 30 := by omega
        have Hs1 := Lib.hid hs1; clear hs1
        go_wp2
        go_roundw
        case rel => exact ⟨j + 1, by omega, by go_num, by rw [Hs1.out], hbw, hbo⟩
        case measure => simp [intOf] <;> omega
      · skip
        replace hot := hot.keep hbo
        clear hbo
        obtain rfl : nt = j := by omega
        rw [Ht2.out] at hb1 ⊢
        have hs3 := Hsum.out _ _ _ _ hot.at (by omega)
        have Hs3 := Lib.hid hs3; clear hs3
        go_wp2_with fail
        with_reducible refine (Hs3.out).mono ?_
        rintro e w' ⟨rfl, rfl⟩
        obtain ⟨bt, ot, e_, _, hc_⟩ := hot.at.cell 0 (by omega)
        cases e_
        have hck := hc_ 0 (by omega)
        rw [Nat.add_zero] at hck
        clear hc_
        have hnt0 : (0 : Int) < nt := by omega
        clear hot
        obtain ⟨v16, hv_⟩ : ∃ v : World, v = wr := ⟨_, rfl⟩
        subst hv_
        replace acc := hbw
        clear hbw
        go_wp2
        go_ret
        exact ⟨rfl, acc⟩
  · skip
    have e1 : mPastTable m = ([], false) := mPT_no m hm
    simp only [e1] at hi hs
    clear e1
    have Hi := Lib.hid hi; clear hi
    have Hs := Lib.hid hs; clear hs
    go_wp2_with fail
    with_reducible refine (Hi.out _).mono ?_
    rintro e v11 ⟨pt, nt, ct, rfl, hot, hb11⟩
    replace acc := belowTrans acc hb11 (Nat.le_refl _)
    clear hb11
    go_wp2_with fail
    with_reducible refine (Hs.out _).mono ?_
    rintro e v12 ⟨pu, nu, cu, rfl, hou, hb12⟩
    replace hot := hot.keep hb12
    replace acc := belowTrans acc hb12 (Nat.le_refl _)
    clear hb12
    clear Hi Hs
    have hc := pSame_any _ _ _ _ _ _ _ _ _ hot.at hou.at
    rw [decide_eq_true rfl] at hc
    have Hc := Lib.hid hc; clear hc
    go_wp2_with fail
    with_reducible refine (Hc.out).mono ?_
    rintro e v13 ⟨rfl, hb13⟩
    replace hot := hot.keep hb13
    replace hou := hou.keep hb13
    replace acc := belowTrans acc hb13 (Nat.le_refl _)
    clear hb13
    clear Hc
    clear hou
    clear hot
    go_wp2
    go_ret
    exact ⟨rfl, acc⟩

/-! ### THE ROW's STEP: WRITTEN OUT: LEAVE IT -/
set_option maxRecDepth 100000 in
theorem lifted (os : Os) (started : os.Started) (H : Type) (enc : TypeId × Value → H) :
    ReturnsInHanded {} Try.checked os 22 .any (Rows.fnGardensHaveNoPastSpec.pre6 enc Try.prog Try.f22 Rows.fnGardensHaveNoPastRow.domain false) (Rows.fnGardensHaveNoPastSpec.post enc Try.prog Try.f22 false true false false) := by
  refine returnsInHanded_of_change (C := Try.checked) own started (by kernel_rfl) Try.func22
    (ChangeSpec.witness6 (enc := enc) (C := Try.checked) false ⟨#[], #[.slice none 0 0, .slice none 0 0], []⟩ 8 (by kernel_rfl) (by kernel_rfl) (by kernel_rfl) (by kernel_rfl)) ?_
  intro W base args ds gs before hval0 hW hcnd _
  have hval : ∀ (j : Nat) t v, Try.f22.params[j]? = some t → args[j]? = some v → Value.okWide Try.prog W .any base t v := hval0
  have hW' := hW
  obtain ⟨p, q, hA0, hV, rfl, hfz, hnd⟩ := hW
  have hA : DataW.TrodAll enc Try.prog W 0 (fun _ => true) true Try.f22.params.toList args.toList ds p := hA0
  rw [Try.params22] at hA hval
  obtain ⟨v0, vs0, d0, ds0, p0, q0, hargs, rfl, rfl, h0, r0⟩ := trodAll_cons hA
  obtain ⟨v1, vs1, d1, ds1, p1, q1, rfl, rfl, rfl, h1, r1⟩ := trodAll_cons r0
  obtain ⟨rfl, rfl, rfl⟩ := trodAll_nil r1
  obtain rfl : args = #[v0, v1] := by cases args; simp_all
  obtain ⟨rfl, rfl⟩ := trodVars_none hV
  obtain ⟨a0, len0, cap0, rfl⟩ := okWide_slice Try.underlying22 (hval 0 22 v0 rfl rfl)
  have k0 := h0
  have lt0 : ∀ x ∈ p0, x.block < W.heap.size := by obtain ⟨m, hm⟩ := k0; exact DataW.trod_lt m _ _ _ hm
  obtain ⟨z0, w0⟩ : ∃ zs, IsRow .u8 W a0 len0 cap0 zs := by
    obtain ⟨fuel, hf⟩ := h0
    rcases open_ints Try.underlying22 Try.underlying5 (by kernel_rfl) hf with ⟨hcs, _⟩ | ⟨x, l, c, zs, hcs, _, hl, hm, hz, _, hcell, hwz⟩
    · simp [Value.cells] at hcs
      obtain ⟨rfl, rfl, rfl⟩ := hcs
      exact ⟨[], .inl ⟨rfl, rfl, rfl, rfl⟩⟩
    · simp [Value.cells] at hcs
      obtain ⟨rfl, rfl, rfl⟩ := hcs
      exact ⟨zs, .inr ⟨_, rfl, hl, hm, by simpa using hz, hcell, hwz⟩⟩
  obtain ⟨a1, len1, cap1, rfl⟩ := okWide_slice Try.underlying22 (hval 1 22 v1 rfl rfl)
  have k1 := h1
  have lt1 : ∀ x ∈ p1, x.block < W.heap.size := by obtain ⟨m, hm⟩ := k1; exact DataW.trod_lt m _ _ _ hm
  obtain ⟨z1, w1⟩ : ∃ zs, IsRow .u8 W a1 len1 cap1 zs := by
    obtain ⟨fuel, hf⟩ := h1
    rcases open_ints Try.underlying22 Try.underlying5 (by kernel_rfl) hf with ⟨hcs, _⟩ | ⟨x, l, c, zs, hcs, _, hl, hm, hz, _, hcell, hwz⟩
    · simp [Value.cells] at hcs
      obtain ⟨rfl, rfl, rfl⟩ := hcs
      exact ⟨[], .inl ⟨rfl, rfl, rfl, rfl⟩⟩
    · simp [Value.cells] at hcs
      obtain ⟨rfl, rfl, rfl⟩ := hcs
      exact ⟨zs, .inr ⟨_, rfl, hl, hm, by simpa using hz, hcell, hwz⟩⟩
  clear hA0 hval0
  refine (walk a0 len0 cap0 z0 a1 len1 cap1 z1 W w0 w1).mono fun e W' ⟨he, bel⟩ => ?_
  subst he
  exact ⟨_, rfl, _, _, _, [], _, [], hW', trodAll_mk1 (shut_bool Try.underlying4 _), (trodAll_cons_mk (Below.trod laidOut (by kernel_rfl) (of_decide_eq_true (by kernel_rfl)) k0 bel lt0) (trodAll_cons_mk (Below.trod laidOut (by kernel_rfl) (of_decide_eq_true (by kernel_rfl)) k1 bel lt1) trodAll_mk0)), rfl, bel.frame _, fun h => by cases h⟩

theorem closedFacts : joinedFacts Try.prog 22 Try.f22 Rows.fnGardensHaveNoPastSpec Rows.fnGardensHaveNoPastRow = true := by
  unfold joinedFacts
  rw [head_enter, head_lifts, head_make]
  kernel_rfl
theorem closedHere : joinedFacts Try.pinned.checked.prog 22 Try.f22 Rows.fnGardensHaveNoPastSpec Rows.fnGardensHaveNoPastRow = true := by
  rw [progEq]
  exact closedFacts
theorem over : Rows.fnGardensHaveNoPastRow.holds Try.pinned (OpenSpec.ofChange Rows.fnGardensHaveNoPastSpec) :=
  OpenClaim.holds_of_wide 22 Try.f22 rfl rfl rfl rfl rfl rfl rfl ⟨rfl, rfl, rfl, rfl, rfl⟩ rfl rfl rfl rfl rfl (by kernel_rfl) Try.func22 closedHere
    (of_decide_eq_true (by kernel_rfl)) (by unfold Func.isWrapper; first | (rw [if_pos (by decide +kernel)]; kernel_rfl) | (rw [if_neg (by decide +kernel)]; exact ⟨rfl, rfl⟩))
    (fun os started H enc _ => lifted os started H enc)

/-- ████ THE STATEMENT ████ -/
theorem proved : Rows.FnGardensHaveNoPastSaid := over
#print axioms proved
end Go.Proofs.Ythppkfhhidlpiaa.fnGardensHaveNoPast
