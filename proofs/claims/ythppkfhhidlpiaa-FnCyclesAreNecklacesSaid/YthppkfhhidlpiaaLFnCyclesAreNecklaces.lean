/- FnCyclesAreNecklaces: for every input the law returns true and leaves its arguments as they were. No condition. -/
import Derived.Test.YthppkfhhidlpiaaRows
import Derived.WalkKit
import Derived.ProofKit
import Derived.OpenShut
import Derived.ShutString
import Derived.ChangeOld
import Derived.Below
import Derived.Test.YthppkfhhidlpiaaHead
import Derived.Test.YthppkfhhidlpiaaGe
import Derived.Test.YthppkfhhidlpiaaGd
import Derived.Test.YthppkfhhidlpiaaLawc
import Derived.Test.YthppkfhhidlpiaaFirstI
import Derived.Test.YthppkfhhidlpiaaFirstS
import Derived.Test.YthppkfhhidlpiaaGr
namespace Go.Proofs.Ythppkfhhidlpiaa.fnCyclesAreNecklaces
set_option linter.unusedSimpArgs false
open Go.ChangeShapes Go.WideShapes Go.ChangeAt Go.RowKit
open Go.ChangeMaps (open_string shut_string)
set_option linter.unusedVariables false

theorem own : ownKnob Try.prog.godebug = none := by kernel_rfl
theorem laidOut : laidOutB Try.prog = true := by kernel_rfl

/-- WHAT THE WALK IS TOLD OF A SLICE OF INTEGERS THAT CAME IN: it is nil; or it leads to a row of 'cap' cells, the numbers 'zs' (the first 'len' are its elements, the rest its spare room), each fitting its kind. -/
def IsRow (k : IntKind) (w : World) (a : Option Addr) (len cap : Nat) (zs : List Int) : Prop :=
  (a = none ∧ len = 0 ∧ cap = 0 ∧ zs = []) ∨
  ∃ x, a = some x ∧ len ≤ cap ∧ cap ≤ maxLen ∧ zs.length = cap ∧ (∀ i, i < zs.length → w.cell? (x.add i) = some (.int k (zs.getD i 0))) ∧ ∀ n ∈ zs, (Lit.int k n).wf = true

/-! ### THE WALK: the Go text returns true, AND WRITES NOTHING THAT WAS THERE: 'Below w.heap.size w w'' (Derived/Below.lean: '.refl', '.alloc', '.drew', '.setCell' at a new block, '.trans'). Open each 'IsRow' by 'rcases' AHEAD of 'go_enter'; part every test ahead of the walk. -/
set_option maxHeartbeats 4000000 in
set_option maxRecDepth 100000 in
theorem walk (a0 : Option Addr) (len0 cap0 : Nat) (z0 : List Int) (a1 : Option Addr) (len1 cap1 : Nat) (z1 : List Int) (w : World) (w0 : IsRow .u8 w a0 len0 cap0 z0) (w1 : IsRow .u8 w a1 len1 cap1 z1) :
    Calls Try.prog 5 #[.slice a0 len0 cap0, .slice a1 len1 cap1] w fun e w' => e = .returned (.bool true) ∧ Below w.heap.size w w' := by
  have by0 := byteIn_row w0
  have by1 := byteIn_row w1
  have hl0 : len0 ≤ maxLen := by
    rcases w0 with ⟨_, h, _⟩ | ⟨x, _, h, h', _⟩
    · rw [h]; exact Nat.zero_le _
    · exact Nat.le_trans h h'
  clear w0 w1
  by_cases hbig : 1048576 < len0 ∨ (1048576 : Int) - len0 < len1
  · have hb := big_yes a0 a1 len0 len1 cap0 cap1 w hbig hl0
    have Hb := Lib.hid hb; clear hb
    go_enter Try.func5, Try.ntmps5
    go_wp2_with fail
    with_reducible refine (Hb.out).mono ?_
    rintro e w' ⟨rfl, rfl⟩
    go_wp2
    go_ret
    exact ⟨rfl, Below.refl _ _⟩
  have hb := big_no a0 a1 len0 len1 cap0 cap1 w (by omega) (by omega)
  have hd := DrawCountCycles_any a0 len0 cap0 w (by omega) by0
  have Hb := Lib.hid hb; clear hb
  have Hd := Lib.hid hd; clear hd
  clear by0 by1 hl0 hbig
  have acc : Below w.heap.size w w := Below.refl _ _
  go_enter Try.func5, Try.ntmps5
  go_wp2_with fail
  with_reducible refine (Hb.out).mono ?_
  rintro e w' ⟨rfl, rfl⟩
  clear Hb
  go_wp2_with fail
  with_reducible refine (Hd.out).mono ?_
  rintro e v1 ⟨n, hn0, hn1, rfl, hb1⟩
  replace acc := belowTrans acc hb1 (Nat.le_refl _)
  clear hb1
  clear Hd
  have hi := fun W => impl_CountCycles n W
  have hs := fun W => spec_CountCycles n W
  have hj := fun W => impl_FirstOfCycles n W
  have ht := fun W => spec_FirstOfCycles n W
  have hk := fun W => impl_CyclicPiles n W
  have hu := fun W => spec_CyclicPiles n W
  by_cases hn : 0 ≤ n ∧ n ≤ 28
  · skip
    obtain ⟨N, hNN⟩ : ∃ N : Nat, n = N := ⟨n.toNat, by omega⟩
    have hN : N ≤ 28 := by omega
    have e1 : mCountCycles n = (((firstsL N).length : Int), true) := by rw [hNN]; exact mCountC_yes N hN
    have e2 : mFirstOfCycles n = (firstsL N, true) := by rw [hNN]; exact mFirst_yes N hN
    have e3 : mCyclicPiles n = (allC N, true) := by rw [hNN]; exact mCyc_yes N hN
    have e4 : mHeightFor n = (((hgt N : Nat) : Int), ((N - tri (hgt N) : Nat) : Int), true) := by
      have := tri_hgt N (by omega)
      unfold mHeightFor
      rw [if_pos hn, hNN, show ((N : Int)).toNat = N by omega, show (N : Int) - (tri (hgt N) : Int) = ((N - tri (hgt N) : Nat) : Int) by omega]
    simp only [e1] at hi hs
    simp only [e2] at hj ht
    simp only [e3] at hk hu
    have hh := fun W => impl_HeightFor n W
    simp only [e4] at hh
    obtain ⟨f1, f2, f3, f4⟩ := neck_fin N (by omega)
    obtain ⟨o1, o2⟩ := neck_ord N (by omega)
    have hfl : firstsN N = (firstsL N).length := by unfold firstsN firstsL; rw [List.length_map]
    rw [hfl] at f4
    have hal : (choiceL (hgt N + 1) (N - tri (hgt N))).length = (allC N).length := by unfold allC; rw [List.length_map]
    rw [hal] at f3
    have hflen := firsts_length hN
    have hin : ∀ a ∈ firstsL N, goodB a = true ∧ (cycL a).length ≤ 8 ∧ ∀ b ∈ cycL a, b ∈ allC N ∧ befB b a = false := fun a ha => ⟨good_iff.2 (firsts_good hN ha).1, cycL_length (firsts_good hN ha).1, cyc_in_all hN ha⟩
    have hadd := cycles_add hN
    have hac : (allC N).length ≤ 256 := by rw [← hal]; exact choice_count N (by omega)
    rw [show ((choiceL (hgt N + 1) (N - tri (hgt N))).filter isFirstB).map fromB = firstsL N from rfl] at o2
    have hrf := ringS_fin (hgt N) (by omega) (N - tri (hgt N)) f2
    have hrp := ring_parts (hgt N) (by omega) (N - tri (hgt N)) f2
    generalize hgt N = K at hh f1 f2 f3 f4 hrf hrp
    generalize N - tri K = R at hh f2 f3 f4 hrf hrp
    generalize firstsL N = F at hi hs hj ht hflen hin hadd o2 f4
    generalize allC N = A at hk hu hin hadd hac o1 f3
    have hpc := fun W => pChoose_any (K + 1) R W (by omega) (by omega)
    simp only [show (((K + 1 : Nat)) : Int) = (K : Int) + 1 from rfl] at hpc
    rw [← f3] at hpc
    have hK8 : (K : Int) ≤ 7 := by omega
    have hR8 : (R : Int) ≤ 7 := by omega
    have hK1 : ((K : Int) + 1 == 0) = false := by rw [beq_eq_false_iff_ne]; omega
    clear e1 e2 e3 e4 hn hNN hN hfl hal f3
    have Hi := Lib.hid hi; clear hi
    have Hs := Lib.hid hs; clear hs
    have Hj := Lib.hid hj; clear hj
    have Ht := Lib.hid ht; clear ht
    have Hk := Lib.hid hk; clear hk
    have Hu := Lib.hid hu; clear hu
    have Hh := Lib.hid hh; clear hh
    have Hpc := Lib.hid hpc; clear hpc
    have O1 := Lib.hid o1; clear o1
    have O2 := Lib.hid o2; clear o2
    have Hin := Lib.hid hin; clear hin
    have Hadd := Lib.hid hadd; clear hadd
    have Hrf := Lib.hid hrf; clear hrf
    have Hrp := Lib.hid hrp; clear hrp
    have F4 := Lib.hid f4; clear f4
    go_wp2_with fail
    with_reducible refine (Hi.out _).mono ?_
    rintro e v2 ⟨rfl, hb2⟩
    replace acc := belowTrans acc hb2 (Nat.le_refl _)
    clear hb2
    go_wp2_with fail
    with_reducible refine (Hs.out _).mono ?_
    rintro e v3 ⟨rfl, hb3⟩
    replace acc := belowTrans acc hb3 (Nat.le_refl _)
    clear hb3
    go_wp2_with fail
    with_reducible refine (Hj.out _).mono ?_
    rintro e v4 ⟨pf, nf, cf, rfl, hof, hb4⟩
    replace acc := belowTrans acc hb4 (Nat.le_refl _)
    clear hb4
    go_wp2_with fail
    with_reducible refine (Ht.out _).mono ?_
    rintro e v5 ⟨pg, ng, cg, rfl, hog, hb5⟩
    replace hof := hof.keep hb5
    replace acc := belowTrans acc hb5 (Nat.le_refl _)
    clear hb5
    go_wp2_with fail
    with_reducible refine (Hk.out _).mono ?_
    rintro e v6 ⟨pa, na, ca, rfl, hoa, hb6⟩
    replace hof := hof.keep hb6
    replace hog := hog.keep hb6
    replace acc := belowTrans acc hb6 (Nat.le_refl _)
    clear hb6
    go_wp2_with fail
    with_reducible refine (Hu.out _).mono ?_
    rintro e v7 ⟨pb, nb, cb, rfl, hob, hb7⟩
    replace hof := hof.keep hb7
    replace hog := hog.keep hb7
    replace hoa := hoa.keep hb7
    replace acc := belowTrans acc hb7 (Nat.le_refl _)
    clear hb7
    clear Hi Hs Hj Ht Hk Hu
    have hlf := hof.length
    have hla := hoa.length
    rw [hlf]
    have hc := pSameLists_any _ _ _ _ _ _ _ _ _ hof.at hog.at
    rw [decide_eq_true rfl] at hc
    have Hc := Lib.hid hc; clear hc
    go_wp2_with fail
    with_reducible refine (Hc.out).mono ?_
    rintro e v8 ⟨rfl, hb8⟩
    replace hof := hof.keep hb8
    replace hog := hog.keep hb8
    replace hoa := hoa.keep hb8
    replace hob := hob.keep hb8
    replace acc := belowTrans acc hb8 (Nat.le_refl _)
    clear hb8
    clear Hc
    clear hog
    have hc := pSameLists_any _ _ _ _ _ _ _ _ _ hoa.at hob.at
    rw [decide_eq_true rfl] at hc
    have Hc := Lib.hid hc; clear hc
    go_wp2_with fail
    with_reducible refine (Hc.out).mono ?_
    rintro e v9 ⟨rfl, hb9⟩
    replace hof := hof.keep hb9
    replace hoa := hoa.keep hb9
    replace hob := hob.keep hb9
    replace acc := belowTrans acc hb9 (Nat.le_refl _)
    clear hb9
    clear Hc
    clear hob
    go_wp2_with fail
    with_reducible refine (Hh.out _).mono ?_
    rintro e v10 ⟨rfl, hb10⟩
    replace hof := hof.keep hb10
    replace hoa := hoa.keep hb10
    replace acc := belowTrans acc hb10 (Nat.le_refl _)
    clear hb10
    try rw [hla] at Hpc
    have hpc2 := Hpc.out
    try rw [hla] at hpc2
    clear Hpc
    have Hpc2 := Lib.hid hpc2; clear hpc2
    go_wp2_with fail
    with_reducible refine (Hpc2.out _).mono ?_
    rintro e w' ⟨rfl, rfl⟩
    have hoo := pOrdered_any _ _ _ _ _ hoa.at
    rw [O1.out] at hoo
    have Hoo := Lib.hid hoo; clear hoo
    go_wp2_with fail
    with_reducible refine (Hoo.out).mono ?_
    rintro e v11 ⟨rfl, hb11⟩
    replace hof := hof.keep hb11
    replace hoa := hoa.keep hb11
    replace acc := belowTrans acc hb11 (Nat.le_refl _)
    clear hb11
    have hoo := pOrdered_any _ _ _ _ _ hof.at
    rw [O2.out] at hoo
    clear Hoo
    have Hoo := Lib.hid hoo; clear hoo
    go_wp2_with fail
    with_reducible refine (Hoo.out).mono ?_
    rintro e v12 ⟨rfl, hb12⟩
    replace hof := hof.keep hb12
    replace hoa := hoa.keep hb12
    replace acc := belowTrans acc hb12 (Nat.le_refl _)
    clear hb12
    clear Hoo Hh Hpc2 O1 O2
    have hnf8 : nf ≤ 256 := by omega
    have hnfi : (nf : Int) ≤ 256 := by omega
    have hna8 : (na : Int) ≤ 256 := by omega
    have f4 := F4.out
    rw [hlf] at f4
    have f5 := Hrf.out (K + 1) (Nat.le_refl _)
    rw [f4] at f5
    have f6 : (((nf * (K + 1) : Nat)) : Int) = (nf : Int) * ((K : Int) + 1) := by rw [Int.natCast_mul]; rfl
    have f7 : 0 ≤ (nf : Int) * ((K : Int) + 1) ∧ (nf : Int) * ((K : Int) + 1) ≤ 2000 := by rw [← f6]; omega
    have hfr := hof.at
    have har := hoa.at
    clear hof hoa F4 f5
    have F4 := Lib.hid f4; clear f4
    have F6 := Lib.hid f6; clear f6
    have Hlf := Lib.hid hlf; clear hlf
    have Hla := Lib.hid hla; clear hla
    obtain ⟨wo, hwo⟩ : ∃ wo : World, wo = v12 := ⟨_, rfl⟩
    subst hwo
    go_wp2_with fail
    go_loopw [21, 22] (fun s i wr => ∃ j : Nat, j ≤ K + 1 ∧ i = .int .i64 j ∧ s = .int .i64 (ringS K R j : Nat) ∧ Below w.heap.size w wr ∧ Below wo.heap.size wo wr) (fun _ i _ => K + 1 - (intOf i).toNat)
    case atStart => exact ⟨0, Nat.zero_le _, rfl, rfl, acc, Below.refl _ _⟩
    case round =>
      obtain ⟨j, hj, rfl, rfl, hbw, hbo⟩ := hrel
      have hs0 := Hrf.out j hj
      by_cases hlt : j ≤ K
      · skip
        replace hfr := hfr.keep hbo
        replace har := har.keep hbo
        obtain ⟨g1, g2, g3, g4⟩ := Hrp.out j hlt
        have hs1 : ringS K R (j + 1) = ringS K R j + ringT K R j := rfl
        have hs2 := Hrf.out (j + 1) (by omega)
        have hgc := pGcd_any j (K + 1) wr (by omega) (by omega)
        rw [show (((K + 1 : Nat)) : Int) = (K : Int) + 1 from rfl] at hgc
        unfold ringT at hs1
        generalize Nat.gcd j (K + 1) = G at *
        have hP0 : (R : Int) * (G : Int) = ((R * G : Nat) : Int) := (Int.natCast_mul R G).symm
        have hP1 : 0 ≤ (R : Int) * (G : Int) ∧ (R : Int) * (G : Int) ≤ 64 := by rw [hP0]; omega
        have t1 : Int.tmod ((R : Int) * (G : Int)) ((K : Int) + 1) = ((R * G % (K + 1) : Nat) : Int) := by rw [hP0]; exact tmod_nat _ _
        have t2 : Int.tdiv ((R : Int) * (G : Int)) ((K : Int) + 1) = ((R * G / (K + 1) : Nat) : Int) := by rw [hP0]; exact (Int.ofNat_tdiv _ _).symm
        have hpc := fun W => pChoose_any G (R * G / (K + 1)) W (by omega) (by omega)
        generalize R * G / (K + 1) = Q at t2 hpc hs1 g4
        have hG8 : (G : Int) ≤ 8 := by omega
        have hQ8 : (Q : Int) ≤ 8 := by omega
        have hj8 : (j : Int) ≤ 7 := by omega
        by_cases hz : R * G % (K + 1) = 0
        · rw [if_pos hz] at hs1
          rw [hz, show ((0 : Nat) : Int) = 0 from rfl] at t1
          generalize pchN G Q = c at hpc hs1
          generalize ringS K R j = s at *
          rw [hs1] at hs2
          clear hP0 hz g3
          have Hgc := Lib.hid hgc; clear hgc
          have Hpc := Lib.hid hpc; clear hpc
          have Hs1 := Lib.hid hs1; clear hs1
          go_wp2_with fail
          with_reducible refine (Hgc.out).mono ?_
          rintro e v13 ⟨rfl, hb13⟩
          replace hfr := hfr.keep hb13
          replace har := har.keep hb13
          replace hbw := belowTrans hbw hb13 (Nat.le_refl _)
          replace hbo := belowTrans hbo hb13 (Nat.le_refl _)
          clear hb13
          go_wp2_with fail
          with_reducible refine (Hpc.out _).mono ?_
          rintro e w' ⟨rfl, rfl⟩
          go_wp2
          go_roundw
          case rel => exact ⟨j + 1, by omega, by go_num, by rw [Hs1.out]; rfl, hbw, hbo⟩
          case measure => simp [intOf] <;> omega
        rw [if_neg hz, Nat.add_zero] at hs1
        generalize R * G % (K + 1) = z at t1 hz
        have hzi : ¬ ((z : Int) = 0) := by omega
        have hzb : ((z : Int) == 0) = false := by rw [beq_eq_false_iff_ne]; omega
        generalize ringS K R j = s at *
        clear hP0 g3 hpc
        have Hgc := Lib.hid hgc; clear hgc
        have Hs1 := Lib.hid hs1; clear hs1
        go_wp2_with fail
        with_reducible refine (Hgc.out).mono ?_
        rintro e v13 ⟨rfl, hb13⟩
        replace hfr := hfr.keep hb13
        replace har := har.keep hb13
        replace hbw := belowTrans hbw hb13 (Nat.le_refl _)
        replace hbo := belowTrans hbo hb13 (Nat.le_refl _)
        clear hb13
        go_wp2
        go_roundw
        case rel => exact ⟨j + 1, by omega, by go_num, by rw [Hs1.out]; rfl, hbw, hbo⟩
        case measure => simp [intOf] <;> omega
      · skip
        replace hfr := hfr.keep hbo
        replace har := har.keep hbo
        obtain rfl : j = K + 1 := by omega
        rw [F4.out, F6.out]
        rw [show (((K + 1 : Nat)) : Int) = (K : Int) + 1 from rfl]
        clear hbo hj hlt hs0
        obtain ⟨wp, hwp⟩ : ∃ wp : World, wp = wr := ⟨_, rfl⟩
        subst hwp
        go_wp2_with fail
        go_loopw [24, 175] (fun s i wr => ∃ j : Nat, j ≤ nf ∧ i = .int .i64 j ∧ s = .int .i64 (cycS F j) ∧ Below w.heap.size w wr ∧ Below wp.heap.size wp wr) (fun _ i _ => nf - (intOf i).toNat)
        case atStart => exact ⟨0, Nat.zero_le _, rfl, rfl, hbw, Below.refl _ _⟩
        case round =>
          obtain ⟨j, hj, rfl, rfl, hbw, hbo⟩ := hrel
          have hs0 := cycS_le F j
          rw [Hadd.out, Hla.out] at hs0
          by_cases hlt : j < nf
          · skip
            replace hfr := hfr.keep hbo
            replace har := har.keep hbo
            have hs2 := cycS_le F (j + 1)
            have hs3 := cycS_succ (l := F) (k := j) (by rw [Hlf.out]; exact hlt)
            rw [Hadd.out, Hla.out, hs3] at hs2
            obtain ⟨q1, q2, q3⟩ := Hin.out (F.getD j []) (by rw [List.getD_eq_getElem?_getD, List.getElem?_eq_getElem (by rw [Hlf.out]; exact hlt)]; exact List.getElem_mem _)
            obtain ⟨b1, o1, e_, _, hc_⟩ := hfr.cell j hlt
            cases e_
            obtain ⟨a1_, m1, d1, hcell, hat⟩ := hc_ j hlt
            clear hc_
            have hcy := impl_CycleOf a1_ m1 d1 (F.getD j []) wr hat
            simp only [mCycle_yes q1] at hcy
            generalize F.getD j [] = X at hat hcy hs2 hs3 q2 q3
            generalize cycL X = C at hcy hs2 hs3 q2 q3
            generalize cycS F j = s at hs0 hs2 hs3
            clear q1
            have Hcy := Lib.hid hcy; clear hcy
            have Hs3 := Lib.hid hs3; clear hs3
            have Q3 := Lib.hid q3; clear q3
            go_wp2_with fail
            with_reducible refine (Hcy.out).mono ?_
            rintro e v13 ⟨py, ny, cy, rfl, hoy, hb13⟩
            replace hfr := hfr.keep hb13
            replace har := har.keep hb13
            replace hat := hat.keep hb13
            replace hbw := belowTrans hbw hb13 (Nat.le_refl _)
            replace hbo := belowTrans hbo hb13 (Nat.le_refl _)
            clear hb13
            have hly := hoy.length
            rw [hly] at q2 hs2
            have hny8 : (ny : Int) ≤ 8 := by omega
            have hyr := hoy.at
            have hs4 : cycS F (j + 1) = s + (ny : Int) := by rw [Hs3.out, hly]
            clear hoy Hcy Hs3
            have Hly := Lib.hid hly; clear hly
            have Hs4 := Lib.hid hs4; clear hs4
            obtain ⟨wi, hwi⟩ : ∃ wi : World, wi = v13 := ⟨_, rfl⟩
            subst hwi
            go_wp2_with fail
            go_loopw [188] (fun i wr => ∃ k : Nat, k ≤ ny ∧ i = .int .i64 k ∧ Below wi.heap.size wi wr) (fun i _ => ny - (intOf i).toNat)
            case atStart => exact ⟨0, Nat.zero_le _, rfl, Below.refl _ _⟩
            case round =>
              obtain ⟨k, hk, rfl, hbi⟩ := hrel
              by_cases hkt : k < ny
              · skip
                replace hfr := hfr.keep hbi
                replace har := har.keep hbi
                replace hat := hat.keep hbi
                replace hyr := hyr.keep hbi
                obtain ⟨y1, y2⟩ := Q3.out (C.getD k []) (by rw [List.getD_eq_getElem?_getD, List.getElem?_eq_getElem (by rw [Hly.out]; exact hkt)]; exact List.getElem_mem _)
                obtain ⟨b2, o2, e_, _, hc_⟩ := hyr.cell k hkt
                cases e_
                obtain ⟨a2_, m2, d2, hcell2, hat2⟩ := hc_ k hkt
                clear hc_
                have hbf := pBefore_any _ _ _ _ _ _ _ _ _ hat2 hat
                rw [y2] at hbf
                generalize C.getD k [] = Y at hat2 hbf y1
                clear y2
                have Hbf := Lib.hid hbf; clear hbf
                have Y1 := Lib.hid y1; clear y1
                go_wp2_with fail
                with_reducible refine (Hbf.out).mono ?_
                rintro e v14 ⟨rfl, hb14⟩
                replace hfr := hfr.keep hb14
                replace har := har.keep hb14
                replace hat := hat.keep hb14
                replace hyr := hyr.keep hb14
                replace hat2 := hat2.keep hb14
                replace hbi := belowTrans hbi hb14 (Nat.le_refl _)
                clear hb14
                have hhl := pHasList_any _ _ _ _ _ _ _ _ _ har hat2
                rw [decide_eq_true Y1.out] at hhl
                have Hhl := Lib.hid hhl; clear hhl
                go_wp2_with fail
                with_reducible refine (Hhl.out).mono ?_
                rintro e v15 ⟨rfl, hb15⟩
                replace hfr := hfr.keep hb15
                replace har := har.keep hb15
                replace hat := hat.keep hb15
                replace hyr := hyr.keep hb15
                replace hat2 := hat2.keep hb15
                replace hbi := belowTrans hbi hb15 (Nat.le_refl _)
                clear hb15
                go_wp2
                go_roundw
                case rel => exact ⟨k + 1, by omega, by go_num, hbi⟩
                case measure => simp [intOf] <;> omega
              · skip
                obtain rfl : ny = k := by omega
                have hbw2 := belowTrans hbw hbi (Nat.le_refl _)
                have hbo2 := belowTrans hbo hbi (Nat.le_refl _)
                clear hbw hbo hbi
                go_wp2
                go_roundw
                case rel => exact ⟨j + 1, by omega, by go_num, by rw [Hs4.out], hbw2, hbo2⟩
                case measure => simp [intOf] <;> omega
          · skip
            obtain rfl : nf = j := by omega
            have hfin : cycS F nf = (na : Int) := by
              rw [← Hla.out, ← Hadd.out]; unfold cycS; rw [List.take_of_length_le (by rw [Hlf.out]; exact Nat.le_refl _)]
            rw [hfin]
            clear hfin hs0
            go_wp2
            go_ret
            exact ⟨rfl, hbw⟩
  have e1 : mCountCycles n = (0, false) := mCountC_no n hn
  have e2 : mFirstOfCycles n = ([], false) := mFirst_no n hn
  have e3 : mCyclicPiles n = ([], false) := by unfold mCyclicPiles; rw [if_neg hn]
  simp only [e1] at hi hs
  simp only [e2] at hj ht
  simp only [e3] at hk hu
  clear e1 e2 e3
  have Hi := Lib.hid hi; clear hi
  have Hs := Lib.hid hs; clear hs
  have Hj := Lib.hid hj; clear hj
  have Ht := Lib.hid ht; clear ht
  have Hk := Lib.hid hk; clear hk
  have Hu := Lib.hid hu; clear hu
  go_wp2_with fail
  with_reducible refine (Hi.out _).mono ?_
  rintro e v2 ⟨rfl, hb2⟩
  replace acc := belowTrans acc hb2 (Nat.le_refl _)
  clear hb2
  go_wp2_with fail
  with_reducible refine (Hs.out _).mono ?_
  rintro e v3 ⟨rfl, hb3⟩
  replace acc := belowTrans acc hb3 (Nat.le_refl _)
  clear hb3
  go_wp2_with fail
  with_reducible refine (Hj.out _).mono ?_
  rintro e v4 ⟨pf, nf, cf, rfl, hof, hb4⟩
  replace acc := belowTrans acc hb4 (Nat.le_refl _)
  clear hb4
  go_wp2_with fail
  with_reducible refine (Ht.out _).mono ?_
  rintro e v5 ⟨pg, ng, cg, rfl, hog, hb5⟩
  replace hof := hof.keep hb5
  replace acc := belowTrans acc hb5 (Nat.le_refl _)
  clear hb5
  go_wp2_with fail
  with_reducible refine (Hk.out _).mono ?_
  rintro e v6 ⟨pa, na, ca, rfl, hoa, hb6⟩
  replace hof := hof.keep hb6
  replace hog := hog.keep hb6
  replace acc := belowTrans acc hb6 (Nat.le_refl _)
  clear hb6
  go_wp2_with fail
  with_reducible refine (Hu.out _).mono ?_
  rintro e v7 ⟨pb, nb, cb, rfl, hob, hb7⟩
  replace hof := hof.keep hb7
  replace hog := hog.keep hb7
  replace hoa := hoa.keep hb7
  replace acc := belowTrans acc hb7 (Nat.le_refl _)
  clear hb7
  clear Hi Hs Hj Ht Hk Hu
  have hc := pSameLists_any _ _ _ _ _ _ _ _ _ hof.at hog.at
  rw [decide_eq_true rfl] at hc
  have Hc := Lib.hid hc; clear hc
  go_wp2_with fail
  with_reducible refine (Hc.out).mono ?_
  rintro e v8 ⟨rfl, hb8⟩
  replace hof := hof.keep hb8
  replace hog := hog.keep hb8
  replace hoa := hoa.keep hb8
  replace hob := hob.keep hb8
  replace acc := belowTrans acc hb8 (Nat.le_refl _)
  clear hb8
  clear Hc
  clear hog
  have hc := pSameLists_any _ _ _ _ _ _ _ _ _ hoa.at hob.at
  rw [decide_eq_true rfl] at hc
  have Hc := Lib.hid hc; clear hc
  go_wp2_with fail
  with_reducible refine (Hc.out).mono ?_
  rintro e v9 ⟨rfl, hb9⟩
  replace hof := hof.keep hb9
  replace hoa := hoa.keep hb9
  replace hob := hob.keep hb9
  replace acc := belowTrans acc hb9 (Nat.le_refl _)
  clear hb9
  clear Hc
  clear hob
  go_wp2
  go_ret
  exact ⟨rfl, acc⟩

/-! ### THE ROW's STEP: WRITTEN OUT: LEAVE IT -/
set_option maxRecDepth 100000 in
theorem lifted (os : Os) (started : os.Started) (H : Type) (enc : TypeId × Value → H) :
    ReturnsInHanded {} Try.checked os 5 .any (Rows.fnCyclesAreNecklacesSpec.pre6 enc Try.prog Try.f5 Rows.fnCyclesAreNecklacesRow.domain false) (Rows.fnCyclesAreNecklacesSpec.post enc Try.prog Try.f5 false true false false) := by
  refine returnsInHanded_of_change (C := Try.checked) own started (by kernel_rfl) Try.func5
    (ChangeSpec.witness6 (enc := enc) (C := Try.checked) false ⟨#[], #[.slice none 0 0, .slice none 0 0], []⟩ 8 (by kernel_rfl) (by kernel_rfl) (by kernel_rfl) (by kernel_rfl)) ?_
  intro W base args ds gs before hval0 hW hcnd _
  have hval : ∀ (j : Nat) t v, Try.f5.params[j]? = some t → args[j]? = some v → Value.okWide Try.prog W .any base t v := hval0
  have hW' := hW
  obtain ⟨p, q, hA0, hV, rfl, hfz, hnd⟩ := hW
  have hA : DataW.TrodAll enc Try.prog W 0 (fun _ => true) true Try.f5.params.toList args.toList ds p := hA0
  rw [Try.params5] at hA hval
  obtain ⟨v0, vs0, d0, ds0, p0, q0, hargs, rfl, rfl, h0, r0⟩ := trodAll_cons hA
  obtain ⟨v1, vs1, d1, ds1, p1, q1, rfl, rfl, rfl, h1, r1⟩ := trodAll_cons r0
  obtain ⟨rfl, rfl, rfl⟩ := trodAll_nil r1
  obtain rfl : args = #[v0, v1] := by cases args; simp_all
  obtain ⟨rfl, rfl⟩ := trodVars_none hV
  obtain ⟨a0, len0, cap0, rfl⟩ := okWide_slice Try.underlying22 (hval 0 22 v0 rfl rfl)
  have k0 := h0
  have lt0 : ∀ x ∈ p0, x.block < W.heap.size := by obtain ⟨m, hm⟩ := k0; exact DataW.trod_lt m _ _ _ hm
  obtain ⟨z0, w0⟩ : ∃ zs, IsRow .u8 W a0 len0 cap0 zs := by
    obtain ⟨fuel, hf⟩ := h0
    rcases open_ints Try.underlying22 Try.underlying5 (by kernel_rfl) hf with ⟨hcs, _⟩ | ⟨x, l, c, zs, hcs, _, hl, hm, hz, _, hcell, hwz⟩
    · simp [Value.cells] at hcs
      obtain ⟨rfl, rfl, rfl⟩ := hcs
      exact ⟨[], .inl ⟨rfl, rfl, rfl, rfl⟩⟩
    · simp [Value.cells] at hcs
      obtain ⟨rfl, rfl, rfl⟩ := hcs
      exact ⟨zs, .inr ⟨_, rfl, hl, hm, by simpa using hz, hcell, hwz⟩⟩
  obtain ⟨a1, len1, cap1, rfl⟩ := okWide_slice Try.underlying22 (hval 1 22 v1 rfl rfl)
  have k1 := h1
  have lt1 : ∀ x ∈ p1, x.block < W.heap.size := by obtain ⟨m, hm⟩ := k1; exact DataW.trod_lt m _ _ _ hm
  obtain ⟨z1, w1⟩ : ∃ zs, IsRow .u8 W a1 len1 cap1 zs := by
    obtain ⟨fuel, hf⟩ := h1
    rcases open_ints Try.underlying22 Try.underlying5 (by kernel_rfl) hf with ⟨hcs, _⟩ | ⟨x, l, c, zs, hcs, _, hl, hm, hz, _, hcell, hwz⟩
    · simp [Value.cells] at hcs
      obtain ⟨rfl, rfl, rfl⟩ := hcs
      exact ⟨[], .inl ⟨rfl, rfl, rfl, rfl⟩⟩
    · simp [Value.cells] at hcs
      obtain ⟨rfl, rfl, rfl⟩ := hcs
      exact ⟨zs, .inr ⟨_, rfl, hl, hm, by simpa using hz, hcell, hwz⟩⟩
  clear hA0 hval0
  refine (walk a0 len0 cap0 z0 a1 len1 cap1 z1 W w0 w1).mono fun e W' ⟨he, bel⟩ => ?_
  subst he
  exact ⟨_, rfl, _, _, _, [], _, [], hW', trodAll_mk1 (shut_bool Try.underlying4 _), (trodAll_cons_mk (Below.trod laidOut (by kernel_rfl) (of_decide_eq_true (by kernel_rfl)) k0 bel lt0) (trodAll_cons_mk (Below.trod laidOut (by kernel_rfl) (of_decide_eq_true (by kernel_rfl)) k1 bel lt1) trodAll_mk0)), rfl, bel.frame _, fun h => by cases h⟩

theorem closedFacts : joinedFacts Try.prog 5 Try.f5 Rows.fnCyclesAreNecklacesSpec Rows.fnCyclesAreNecklacesRow = true := by
  unfold joinedFacts
  rw [head_enter, head_lifts, head_make]
  kernel_rfl
theorem closedHere : joinedFacts Try.pinned.checked.prog 5 Try.f5 Rows.fnCyclesAreNecklacesSpec Rows.fnCyclesAreNecklacesRow = true := by
  rw [progEq]
  exact closedFacts
theorem over : Rows.fnCyclesAreNecklacesRow.holds Try.pinned (OpenSpec.ofChange Rows.fnCyclesAreNecklacesSpec) :=
  OpenClaim.holds_of_wide 5 Try.f5 rfl rfl rfl rfl rfl rfl rfl ⟨rfl, rfl, rfl, rfl, rfl⟩ rfl rfl rfl rfl rfl (by kernel_rfl) Try.func5 closedHere
    (of_decide_eq_true (by kernel_rfl)) (by unfold Func.isWrapper; first | (rw [if_pos (by decide +kernel)]; kernel_rfl) | (rw [if_neg (by decide +kernel)]; exact ⟨rfl, rfl⟩))
    (fun os started H enc _ => lifted os started H enc)

/-- ████ THE STATEMENT ████ -/
theorem proved : Rows.FnCyclesAreNecklacesSaid := over
#print axioms proved
end Go.Proofs.Ythppkfhhidlpiaa.fnCyclesAreNecklaces
