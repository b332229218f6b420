/- FnRowRanks: for every input the law returns true and leaves its arguments as they were. No condition. -/
import Derived.Test.YtbneibpakopllaaRows
import Derived.WalkKit
import Derived.ProofKit
import Derived.OpenShut
import Derived.ShutString
import Derived.ChangeOld
import Derived.Below
import Derived.Test.YtbneibpakopllaaHead
import Derived.Test.YtbneibpakopllaaLawp
import Derived.Test.YtbneibpakopllaaGm
import Derived.Test.YtbneibpakopllaaGz
import Derived.Test.YtbneibpakopllaaRwR
import Derived.Test.YtbneibpakopllaaRowO
import Derived.Test.YtbneibpakopllaaRowP
import Derived.Test.YtbneibpakopllaaRowI
import Derived.Test.YtbneibpakopllaaGq
import Derived.Test.YtbneibpakopllaaTailI
namespace Go.Proofs.Ytbneibpakopllaa.fnRowRanks
set_option linter.unusedSimpArgs false
open Go.ChangeShapes Go.WideShapes Go.ChangeAt Go.RowKit
open Go.ChangeMaps (open_string shut_string)
set_option linter.unusedVariables false

theorem own : ownKnob Try.prog.godebug = none := by kernel_rfl
theorem laidOut : laidOutB Try.prog = true := by kernel_rfl

/-- WHAT THE WALK IS TOLD OF A SLICE OF INTEGERS THAT CAME IN: it is nil; or it leads to a row of 'cap' cells, the numbers 'zs' (the first 'len' are its elements, the rest its spare room), each fitting its kind. -/
def IsRow (k : IntKind) (w : World) (a : Option Addr) (len cap : Nat) (zs : List Int) : Prop :=
  (a = none ∧ len = 0 ∧ cap = 0 ∧ zs = []) ∨
  ∃ x, a = some x ∧ len ≤ cap ∧ cap ≤ maxLen ∧ zs.length = cap ∧ (∀ i, i < zs.length → w.cell? (x.add i) = some (.int k (zs.getD i 0))) ∧ ∀ n ∈ zs, (Lit.int k n).wf = true

/-! ### THE WALK: the Go text returns true, AND WRITES NOTHING THAT WAS THERE: 'Below w.heap.size w w'' (Derived/Below.lean: '.refl', '.alloc', '.drew', '.setCell' at a new block, '.trans'). Open each 'IsRow' by 'rcases' AHEAD of 'go_enter'; part every test ahead of the walk. -/
set_option maxHeartbeats 4000000 in
set_option maxRecDepth 100000 in
theorem walk (a0 : Option Addr) (len0 cap0 : Nat) (z0 : List Int) (a1 : Option Addr) (len1 cap1 : Nat) (z1 : List Int) (w : World) (w0 : IsRow .u8 w a0 len0 cap0 z0) (w1 : IsRow .u8 w a1 len1 cap1 z1) :
    Calls Try.prog 11 #[.slice a0 len0 cap0, .slice a1 len1 cap1] w fun e w' => e = .returned (.bool true) ∧ Below w.heap.size w w' := by
  have by0 := byteIn_row w0
  have by1 := byteIn_row w1
  have hl0 : len0 ≤ maxLen := by
    rcases w0 with ⟨_, h, _⟩ | ⟨x, _, h, h', _⟩
    · rw [h]; exact Nat.zero_le _
    · exact Nat.le_trans h h'
  clear w0 w1
  by_cases hbig : 1048576 < len0 ∨ (1048576 : Int) - len0 < len1
  · have hb := big_yes a0 a1 len0 len1 cap0 cap1 w hbig hl0
    have Hb := Lib.hid hb; clear hb
    go_enter Try.func11, Try.ntmps11
    go_wp2_with fail
    with_reducible refine (Hb.out).mono ?_
    rintro e w' ⟨rfl, rfl⟩
    go_wp2
    go_ret
    exact ⟨rfl, Below.refl _ _⟩
  have hb := big_no a0 a1 len0 len1 cap0 cap1 w (by omega) (by omega)
  have hd := DrawRowWith_any a0 len0 cap0 w (by omega) by0
  have hf := fun W (h : Below w.heap.size w W) => DrawCountRowGardens_any a1 len1 cap1 W (by omega) (by1.up (Nat.le_refl _) h h.size)
  have hg := fun W (h : Below w.heap.size w W) => DrawLongestRow_any a1 len1 cap1 W (by omega) (by1.up (Nat.le_refl _) h h.size)
  have Hb := Lib.hid hb; clear hb
  have Hd := Lib.hid hd; clear hd
  have Hf := Lib.hid hf; clear hf
  have Hg := Lib.hid hg; clear hg
  clear by0 by1 hl0 hbig
  have acc : Below w.heap.size w w := Below.refl _ _
  go_enter Try.func11, Try.ntmps11
  go_wp2_with fail
  with_reducible refine (Hb.out).mono ?_
  rintro e w' ⟨rfl, rfl⟩
  clear Hb
  go_wp2_with fail
  with_reducible refine (Hd.out).mono ?_
  rintro e v1 ⟨n, k, rfl, hn0, hn1, hk0, hk1, hb1⟩
  replace acc := belowTrans acc hb1 (Nat.le_refl _)
  clear hb1
  clear Hd
  have hi := fun W => impl_RowWith n k W
  have hs := fun W => spec_RowWith n k W
  have hc := fun W => impl_CountRows n W
  have he := fun W => spec_CountRows n W
  by_cases hn : 0 ≤ n ∧ n ≤ 28
  · skip
    obtain ⟨N, rfl⟩ := Int.eq_ofNat_of_zero_le hn.1
    have hN : N ≤ 28 := by omega
    have hcl := cntR_le N (by omega)
    simp only [mCR_yes N hN] at hc he
    by_cases hk : 0 ≤ k ∧ k < cntR N
    · skip
      obtain ⟨R, rfl⟩ := Int.eq_ofNat_of_zero_le hk.1
      have hR : R < cntR N := by omega
      have hw : ∀ r, r < cntR N → mRowWith (N : Int) (r : Int) = (rowAt N r, true) := fun r hr => mRW_yes hN hr
      simp only [hw R hR] at hi hs
      have hro := rowAt_row (n := N) (r := R) hN
      have hrk := fun a n c W h => impl_RankRow a n c (rowAt N R) W h
      simp only [mRank_yesR (row_iff.2 hro.1), rank_rowAt hN hR] at hrk
      have hsm := fun a n c W h (hl : n ≤ 28) => xSum_any a n c (rowAt N R) W h hl (fun x hx => hro.1.mem hx)
      rw [hro.2] at hsm
      have hlen := hro.1.len
      have hnx := fun W => impl_RowWith (N : Int) ((R : Int) + 1) W
      have hC8 : (cntR N : Int) ≤ 134217728 := by omega
      have hRC : (R : Int) < (cntR N : Int) := by omega
      by_cases hR1 : R + 1 < cntR N
      · skip
        rw [show (R : Int) + 1 = ((R + 1 : Nat) : Int) by omega] at hnx
        simp only [hw (R + 1) hR1] at hnx
        rw [show ((R + 1 : Nat) : Int) = (R : Int) + 1 by omega] at hnx
        have hro2 := rowAt_row (n := N) (r := R + 1) hN
        have hbf := bef_rank (rowAt N R) (rowAt N (R + 1)) hro.1.1 hro2.1.1 (by rw [hro.2, hro2.2]) (by rw [rank_rowAt hN hR, rank_rowAt hN hR1]; omega)
        have hR3 : (R : Int) + 1 < (cntR N : Int) := by omega
        clear hro2 hro hw hR1 hR hk hcl hn hN hn0 hn1 hk0 hk1
        generalize rowAt N (R + 1) = vs at hnx hbf
        generalize rowAt N R = us at hi hs hrk hsm hlen hbf
        generalize cntR N = C at hc he hC8 hRC hR3
        have Hi := Lib.hid hi; clear hi
        have Hs := Lib.hid hs; clear hs
        have Hc := Lib.hid hc; clear hc
        have He := Lib.hid he; clear he
        have Hrk := Lib.hid hrk; clear hrk
        have Hsm := Lib.hid hsm; clear hsm
        have Hlen := Lib.hid hlen; clear hlen
        have Hnx := Lib.hid hnx; clear hnx
        have Hbf := Lib.hid hbf; clear hbf
        go_wp2_with fail
        with_reducible refine (Hi.out _).mono ?_
        rintro e v2 ⟨pi, ni, ci, rfl, hoi, hb2⟩
        replace acc := belowTrans acc hb2 (Nat.le_refl _)
        clear hb2
        go_wp2_with fail
        with_reducible refine (Hs.out _).mono ?_
        rintro e v3 ⟨ps, ns, cs, rfl, hos, hb3⟩
        replace hoi := hoi.keep hb3
        replace acc := belowTrans acc hb3 (Nat.le_refl _)
        clear hb3
        go_wp2_with fail
        with_reducible refine (Hc.out _).mono ?_
        rintro e v4 ⟨rfl, hb4⟩
        replace hoi := hoi.keep hb4
        replace hos := hos.keep hb4
        replace acc := belowTrans acc hb4 (Nat.le_refl _)
        clear hb4
        go_wp2_with fail
        with_reducible refine (He.out _).mono ?_
        rintro e v5 ⟨rfl, hb5⟩
        replace hoi := hoi.keep hb5
        replace hos := hos.keep hb5
        replace acc := belowTrans acc hb5 (Nat.le_refl _)
        clear hb5
        have hc := xSame_any _ _ _ _ _ _ _ _ _ hoi.at hos.at
        rw [decide_eq_true rfl] at hc
        have Hc := Lib.hid hc; clear hc
        go_wp2_with fail
        with_reducible refine (Hc.out).mono ?_
        rintro e v6 ⟨rfl, hb6⟩
        replace hoi := hoi.keep hb6
        replace hos := hos.keep hb6
        replace acc := belowTrans acc hb6 (Nat.le_refl _)
        clear hb6
        clear Hc
        clear hos
        clear Hi Hs Hc He
        have hl1 := hoi.length
        have hn8i : ni ≤ 28 := by have := Hlen.out; omega
        clear hl1
        go_wp2_with fail
        with_reducible refine (Hrk.out _ _ _ _ hoi.at).mono ?_
        rintro e v7 ⟨rfl, hb7⟩
        replace hoi := hoi.keep hb7
        replace acc := belowTrans acc hb7 (Nat.le_refl _)
        clear hb7
        go_wp2_with fail
        with_reducible refine (Hnx.out _).mono ?_
        rintro e v8 ⟨px, nx, cx, rfl, hox, hb8⟩
        replace hoi := hoi.keep hb8
        replace acc := belowTrans acc hb8 (Nat.le_refl _)
        clear hb8
        go_wp2_with fail
        with_reducible refine (Hsm.out _ _ _ _ hoi.at hn8i).mono ?_
        rintro e w' ⟨rfl, rfl⟩
        have hbx := xBefore_any _ _ _ _ _ _ _ _ _ hoi.at hox.at
        rw [Hbf.out] at hbx
        have Hbx := Lib.hid hbx; clear hbx
        go_wp2_with fail
        with_reducible refine (Hbx.out).mono ?_
        rintro e v9 ⟨rfl, hb9⟩
        replace hoi := hoi.keep hb9
        replace hox := hox.keep hb9
        replace acc := belowTrans acc hb9 (Nat.le_refl _)
        clear hb9
        clear Hbx Hbf
        clear Hrk Hnx Hsm Hlen
        clear hox
        clear hoi
        go_wp2_with fail
        with_reducible refine (Hf.out _ acc).mono ?_
        rintro e v10 ⟨m, rfl, hm0, hm1, hb10⟩
        replace acc := belowTrans acc hb10 (Nat.le_refl _)
        clear hb10
        clear Hf
        have hp := fun W => impl_CountRowGardens m W
        have hq := fun W => spec_CountRowGardens m W
        generalize (mCountRowGardens m).1 = G at hp hq
        generalize (mCountRowGardens m).2 = t at hp hq
        have htt : (t != t) = false := by simp
        have hGG : (G != G) = false := by simp
        have Hp := Lib.hid hp; clear hp
        have Hq := Lib.hid hq; clear hq
        go_wp2_with fail
        with_reducible refine (Hp.out _).mono ?_
        rintro e v11 ⟨rfl, hb11⟩
        replace acc := belowTrans acc hb11 (Nat.le_refl _)
        clear hb11
        go_wp2_with fail
        with_reducible refine (Hq.out _).mono ?_
        rintro e v12 ⟨rfl, hb12⟩
        replace acc := belowTrans acc hb12 (Nat.le_refl _)
        clear hb12
        clear Hp Hq
        go_wp2_with fail
        with_reducible refine (Hg.out _ acc).mono ?_
        rintro e v13 ⟨q, rfl, hq0, hq1, hb13⟩
        replace acc := belowTrans acc hb13 (Nat.le_refl _)
        clear hb13
        clear Hg
        have hp := fun W => impl_LongestRow q W
        have hq := fun W => spec_LongestRow q W
        by_cases hq10 : 1 ≤ q ∧ q ≤ 10
        · skip
          obtain ⟨Q, rfl⟩ := Int.eq_ofNat_of_zero_le (show 0 ≤ q by omega)
          obtain ⟨row, hr1, hr2, hr3, hr4, hr5⟩ := long_found (m := Q) (by omega) (by omega)
          simp only [mLR_yes (show 1 ≤ Q ∧ Q ≤ 10 by omega), hr2] at hp hq
          have hbr := row_iff.2 hr1
          have ho := fun a n c W h => impl_RowOrbit a n c row W h
          rw [mRO_yes hbr, hr3] at ho
          have hsr := fun a n c W h => impl_SortRow a n c row W h
          simp only [mSortR_yes hbr] at hsr
          have htl := fun a n c W h => impl_TailOf a n c (sortD row) W h
          simp only [mTail_yes (good_iff.2 (sort_good hr1))] at htl
          clear hbr hr1 hr2 hr3 hq10
          generalize (orbR row).2.1 = Z at ho
          generalize tailL (sortD row) = U at htl hr4
          generalize (orbR row).1 = V at hp hq ho hr4 hr5
          generalize sortD row = zs at hsr htl
          have hVV : (V != V) = false := by simp
          have hdd : decide ((U : Int) ≤ V) = true := decide_eq_true hr4
          have Hp := Lib.hid hp; clear hp
          have Hq := Lib.hid hq; clear hq
          have Ho := Lib.hid ho; clear ho
          have Hsr := Lib.hid hsr; clear hsr
          have Htl := Lib.hid htl; clear htl
          go_wp2_with fail
          with_reducible refine (Hp.out _).mono ?_
          rintro e v14 ⟨pp, np, cp, rfl, hop, hb14⟩
          replace acc := belowTrans acc hb14 (Nat.le_refl _)
          clear hb14
          go_wp2_with fail
          with_reducible refine (Hq.out _).mono ?_
          rintro e v15 ⟨pq, nq, cq, rfl, hoq, hb15⟩
          replace hop := hop.keep hb15
          replace acc := belowTrans acc hb15 (Nat.le_refl _)
          clear hb15
          have hc := xSame_any _ _ _ _ _ _ _ _ _ hop.at hoq.at
          rw [decide_eq_true rfl] at hc
          have Hc := Lib.hid hc; clear hc
          go_wp2_with fail
          with_reducible refine (Hc.out).mono ?_
          rintro e v16 ⟨rfl, hb16⟩
          replace hop := hop.keep hb16
          replace hoq := hoq.keep hb16
          replace acc := belowTrans acc hb16 (Nat.le_refl _)
          clear hb16
          clear Hc
          clear hoq
          go_wp2_with fail
          with_reducible refine (Ho.out _ _ _ _ hop.at).mono ?_
          rintro e v17 ⟨rfl, hb17⟩
          replace hop := hop.keep hb17
          replace acc := belowTrans acc hb17 (Nat.le_refl _)
          clear hb17
          go_wp2_with fail
          with_reducible refine (Hsr.out _ _ _ _ hop.at).mono ?_
          rintro e v18 ⟨pr, nr, cr, rfl, hor, hb18⟩
          replace hop := hop.keep hb18
          replace acc := belowTrans acc hb18 (Nat.le_refl _)
          clear hb18
          go_wp2_with fail
          with_reducible refine (Htl.out _ _ _ _ hor.at).mono ?_
          rintro e v19 ⟨rfl, hb19⟩
          replace hop := hop.keep hb19
          replace hor := hor.keep hb19
          replace acc := belowTrans acc hb19 (Nat.le_refl _)
          clear hb19
          go_wp2
          go_ret
          exact ⟨rfl, acc⟩
        · skip
          simp only [mLR_no hq10] at hp hq
          clear hq10
          have Hp := Lib.hid hp; clear hp
          have Hq := Lib.hid hq; clear hq
          go_wp2_with fail
          with_reducible refine (Hp.out _).mono ?_
          rintro e v14 ⟨pp, np, cp, rfl, hop, hb14⟩
          replace acc := belowTrans acc hb14 (Nat.le_refl _)
          clear hb14
          go_wp2_with fail
          with_reducible refine (Hq.out _).mono ?_
          rintro e v15 ⟨pq, nq, cq, rfl, hoq, hb15⟩
          replace hop := hop.keep hb15
          replace acc := belowTrans acc hb15 (Nat.le_refl _)
          clear hb15
          have hc := xSame_any _ _ _ _ _ _ _ _ _ hop.at hoq.at
          rw [decide_eq_true rfl] at hc
          have Hc := Lib.hid hc; clear hc
          go_wp2_with fail
          with_reducible refine (Hc.out).mono ?_
          rintro e v16 ⟨rfl, hb16⟩
          replace hop := hop.keep hb16
          replace hoq := hoq.keep hb16
          replace acc := belowTrans acc hb16 (Nat.le_refl _)
          clear hb16
          clear Hc
          go_wp2
          go_ret
          exact ⟨rfl, acc⟩
      · skip
        simp only [mRW_no2 (show ¬ (0 ≤ (R : Int) + 1 ∧ (R : Int) + 1 < cntR N) by omega)] at hnx
        have hR3 : ¬ ((R : Int) + 1 < (cntR N : Int)) := by omega
        clear hro hw hR1 hR hk hcl hn hN hn0 hn1 hk0 hk1
        generalize rowAt N R = us at hi hs hrk hsm hlen
        generalize cntR N = C at hc he hC8 hRC hR3
        have Hi := Lib.hid hi; clear hi
        have Hs := Lib.hid hs; clear hs
        have Hc := Lib.hid hc; clear hc
        have He := Lib.hid he; clear he
        have Hrk := Lib.hid hrk; clear hrk
        have Hsm := Lib.hid hsm; clear hsm
        have Hlen := Lib.hid hlen; clear hlen
        have Hnx := Lib.hid hnx; clear hnx
        go_wp2_with fail
        with_reducible refine (Hi.out _).mono ?_
        rintro e v2 ⟨pi, ni, ci, rfl, hoi, hb2⟩
        replace acc := belowTrans acc hb2 (Nat.le_refl _)
        clear hb2
        go_wp2_with fail
        with_reducible refine (Hs.out _).mono ?_
        rintro e v3 ⟨ps, ns, cs, rfl, hos, hb3⟩
        replace hoi := hoi.keep hb3
        replace acc := belowTrans acc hb3 (Nat.le_refl _)
        clear hb3
        go_wp2_with fail
        with_reducible refine (Hc.out _).mono ?_
        rintro e v4 ⟨rfl, hb4⟩
        replace hoi := hoi.keep hb4
        replace hos := hos.keep hb4
        replace acc := belowTrans acc hb4 (Nat.le_refl _)
        clear hb4
        go_wp2_with fail
        with_reducible refine (He.out _).mono ?_
        rintro e v5 ⟨rfl, hb5⟩
        replace hoi := hoi.keep hb5
        replace hos := hos.keep hb5
        replace acc := belowTrans acc hb5 (Nat.le_refl _)
        clear hb5
        have hc := xSame_any _ _ _ _ _ _ _ _ _ hoi.at hos.at
        rw [decide_eq_true rfl] at hc
        have Hc := Lib.hid hc; clear hc
        go_wp2_with fail
        with_reducible refine (Hc.out).mono ?_
        rintro e v6 ⟨rfl, hb6⟩
        replace hoi := hoi.keep hb6
        replace hos := hos.keep hb6
        replace acc := belowTrans acc hb6 (Nat.le_refl _)
        clear hb6
        clear Hc
        clear hos
        clear Hi Hs Hc He
        have hl1 := hoi.length
        have hn8i : ni ≤ 28 := by have := Hlen.out; omega
        clear hl1
        go_wp2_with fail
        with_reducible refine (Hrk.out _ _ _ _ hoi.at).mono ?_
        rintro e v7 ⟨rfl, hb7⟩
        replace hoi := hoi.keep hb7
        replace acc := belowTrans acc hb7 (Nat.le_refl _)
        clear hb7
        go_wp2_with fail
        with_reducible refine (Hnx.out _).mono ?_
        rintro e v8 ⟨px, nx, cx, rfl, hox, hb8⟩
        replace hoi := hoi.keep hb8
        replace acc := belowTrans acc hb8 (Nat.le_refl _)
        clear hb8
        go_wp2_with fail
        with_reducible refine (Hsm.out _ _ _ _ hoi.at hn8i).mono ?_
        rintro e w' ⟨rfl, rfl⟩
        clear Hrk Hnx Hsm Hlen
        clear hox
        clear hoi
        go_wp2_with fail
        with_reducible refine (Hf.out _ acc).mono ?_
        rintro e v9 ⟨m, rfl, hm0, hm1, hb9⟩
        replace acc := belowTrans acc hb9 (Nat.le_refl _)
        clear hb9
        clear Hf
        have hp := fun W => impl_CountRowGardens m W
        have hq := fun W => spec_CountRowGardens m W
        generalize (mCountRowGardens m).1 = G at hp hq
        generalize (mCountRowGardens m).2 = t at hp hq
        have htt : (t != t) = false := by simp
        have hGG : (G != G) = false := by simp
        have Hp := Lib.hid hp; clear hp
        have Hq := Lib.hid hq; clear hq
        go_wp2_with fail
        with_reducible refine (Hp.out _).mono ?_
        rintro e v10 ⟨rfl, hb10⟩
        replace acc := belowTrans acc hb10 (Nat.le_refl _)
        clear hb10
        go_wp2_with fail
        with_reducible refine (Hq.out _).mono ?_
        rintro e v11 ⟨rfl, hb11⟩
        replace acc := belowTrans acc hb11 (Nat.le_refl _)
        clear hb11
        clear Hp Hq
        go_wp2_with fail
        with_reducible refine (Hg.out _ acc).mono ?_
        rintro e v12 ⟨q, rfl, hq0, hq1, hb12⟩
        replace acc := belowTrans acc hb12 (Nat.le_refl _)
        clear hb12
        clear Hg
        have hp := fun W => impl_LongestRow q W
        have hq := fun W => spec_LongestRow q W
        by_cases hq10 : 1 ≤ q ∧ q ≤ 10
        · skip
          obtain ⟨Q, rfl⟩ := Int.eq_ofNat_of_zero_le (show 0 ≤ q by omega)
          obtain ⟨row, hr1, hr2, hr3, hr4, hr5⟩ := long_found (m := Q) (by omega) (by omega)
          simp only [mLR_yes (show 1 ≤ Q ∧ Q ≤ 10 by omega), hr2] at hp hq
          have hbr := row_iff.2 hr1
          have ho := fun a n c W h => impl_RowOrbit a n c row W h
          rw [mRO_yes hbr, hr3] at ho
          have hsr := fun a n c W h => impl_SortRow a n c row W h
          simp only [mSortR_yes hbr] at hsr
          have htl := fun a n c W h => impl_TailOf a n c (sortD row) W h
          simp only [mTail_yes (good_iff.2 (sort_good hr1))] at htl
          clear hbr hr1 hr2 hr3 hq10
          generalize (orbR row).2.1 = Z at ho
          generalize tailL (sortD row) = U at htl hr4
          generalize (orbR row).1 = V at hp hq ho hr4 hr5
          generalize sortD row = zs at hsr htl
          have hVV : (V != V) = false := by simp
          have hdd : decide ((U : Int) ≤ V) = true := decide_eq_true hr4
          have Hp := Lib.hid hp; clear hp
          have Hq := Lib.hid hq; clear hq
          have Ho := Lib.hid ho; clear ho
          have Hsr := Lib.hid hsr; clear hsr
          have Htl := Lib.hid htl; clear htl
          go_wp2_with fail
          with_reducible refine (Hp.out _).mono ?_
          rintro e v13 ⟨pp, np, cp, rfl, hop, hb13⟩
          replace acc := belowTrans acc hb13 (Nat.le_refl _)
          clear hb13
          go_wp2_with fail
          with_reducible refine (Hq.out _).mono ?_
          rintro e v14 ⟨pq, nq, cq, rfl, hoq, hb14⟩
          replace hop := hop.keep hb14
          replace acc := belowTrans acc hb14 (Nat.le_refl _)
          clear hb14
          have hc := xSame_any _ _ _ _ _ _ _ _ _ hop.at hoq.at
          rw [decide_eq_true rfl] at hc
          have Hc := Lib.hid hc; clear hc
          go_wp2_with fail
          with_reducible refine (Hc.out).mono ?_
          rintro e v15 ⟨rfl, hb15⟩
          replace hop := hop.keep hb15
          replace hoq := hoq.keep hb15
          replace acc := belowTrans acc hb15 (Nat.le_refl _)
          clear hb15
          clear Hc
          clear hoq
          go_wp2_with fail
          with_reducible refine (Ho.out _ _ _ _ hop.at).mono ?_
          rintro e v16 ⟨rfl, hb16⟩
          replace hop := hop.keep hb16
          replace acc := belowTrans acc hb16 (Nat.le_refl _)
          clear hb16
          go_wp2_with fail
          with_reducible refine (Hsr.out _ _ _ _ hop.at).mono ?_
          rintro e v17 ⟨pr, nr, cr, rfl, hor, hb17⟩
          replace hop := hop.keep hb17
          replace acc := belowTrans acc hb17 (Nat.le_refl _)
          clear hb17
          go_wp2_with fail
          with_reducible refine (Htl.out _ _ _ _ hor.at).mono ?_
          rintro e v18 ⟨rfl, hb18⟩
          replace hop := hop.keep hb18
          replace hor := hor.keep hb18
          replace acc := belowTrans acc hb18 (Nat.le_refl _)
          clear hb18
          go_wp2
          go_ret
          exact ⟨rfl, acc⟩
        · skip
          simp only [mLR_no hq10] at hp hq
          clear hq10
          have Hp := Lib.hid hp; clear hp
          have Hq := Lib.hid hq; clear hq
          go_wp2_with fail
          with_reducible refine (Hp.out _).mono ?_
          rintro e v13 ⟨pp, np, cp, rfl, hop, hb13⟩
          replace acc := belowTrans acc hb13 (Nat.le_refl _)
          clear hb13
          go_wp2_with fail
          with_reducible refine (Hq.out _).mono ?_
          rintro e v14 ⟨pq, nq, cq, rfl, hoq, hb14⟩
          replace hop := hop.keep hb14
          replace acc := belowTrans acc hb14 (Nat.le_refl _)
          clear hb14
          have hc := xSame_any _ _ _ _ _ _ _ _ _ hop.at hoq.at
          rw [decide_eq_true rfl] at hc
          have Hc := Lib.hid hc; clear hc
          go_wp2_with fail
          with_reducible refine (Hc.out).mono ?_
          rintro e v15 ⟨rfl, hb15⟩
          replace hop := hop.keep hb15
          replace hoq := hoq.keep hb15
          replace acc := belowTrans acc hb15 (Nat.le_refl _)
          clear hb15
          clear Hc
          go_wp2
          go_ret
          exact ⟨rfl, acc⟩
    · skip
      simp only [mRW_no2 hk] at hi hs
      have hC8 : (cntR N : Int) ≤ 134217728 := by omega
      have hC1 : 1 ≤ (cntR N : Int) := by omega
      by_cases hkn : 0 ≤ k
      · skip
        have hkC : ¬ k < (cntR N : Int) := by omega
        clear hk hcl hN hn
        generalize cntR N = C at hc he hC8 hC1 hkC
        have Hi := Lib.hid hi; clear hi
        have Hs := Lib.hid hs; clear hs
        have Hc := Lib.hid hc; clear hc
        have He := Lib.hid he; clear he
        go_wp2_with fail
        with_reducible refine (Hi.out _).mono ?_
        rintro e v2 ⟨pi, ni, ci, rfl, hoi, hb2⟩
        replace acc := belowTrans acc hb2 (Nat.le_refl _)
        clear hb2
        go_wp2_with fail
        with_reducible refine (Hs.out _).mono ?_
        rintro e v3 ⟨ps, ns, cs, rfl, hos, hb3⟩
        replace hoi := hoi.keep hb3
        replace acc := belowTrans acc hb3 (Nat.le_refl _)
        clear hb3
        go_wp2_with fail
        with_reducible refine (Hc.out _).mono ?_
        rintro e v4 ⟨rfl, hb4⟩
        replace hoi := hoi.keep hb4
        replace hos := hos.keep hb4
        replace acc := belowTrans acc hb4 (Nat.le_refl _)
        clear hb4
        go_wp2_with fail
        with_reducible refine (He.out _).mono ?_
        rintro e v5 ⟨rfl, hb5⟩
        replace hoi := hoi.keep hb5
        replace hos := hos.keep hb5
        replace acc := belowTrans acc hb5 (Nat.le_refl _)
        clear hb5
        have hc := xSame_any _ _ _ _ _ _ _ _ _ hoi.at hos.at
        rw [decide_eq_true rfl] at hc
        have Hc := Lib.hid hc; clear hc
        go_wp2_with fail
        with_reducible refine (Hc.out).mono ?_
        rintro e v6 ⟨rfl, hb6⟩
        replace hoi := hoi.keep hb6
        replace hos := hos.keep hb6
        replace acc := belowTrans acc hb6 (Nat.le_refl _)
        clear hb6
        clear Hc
        clear hos
        clear Hi Hs Hc He
        clear hoi
        go_wp2_with fail
        with_reducible refine (Hf.out _ acc).mono ?_
        rintro e v7 ⟨m, rfl, hm0, hm1, hb7⟩
        replace acc := belowTrans acc hb7 (Nat.le_refl _)
        clear hb7
        clear Hf
        have hp := fun W => impl_CountRowGardens m W
        have hq := fun W => spec_CountRowGardens m W
        generalize (mCountRowGardens m).1 = G at hp hq
        generalize (mCountRowGardens m).2 = t at hp hq
        have htt : (t != t) = false := by simp
        have hGG : (G != G) = false := by simp
        have Hp := Lib.hid hp; clear hp
        have Hq := Lib.hid hq; clear hq
        go_wp2_with fail
        with_reducible refine (Hp.out _).mono ?_
        rintro e v8 ⟨rfl, hb8⟩
        replace acc := belowTrans acc hb8 (Nat.le_refl _)
        clear hb8
        go_wp2_with fail
        with_reducible refine (Hq.out _).mono ?_
        rintro e v9 ⟨rfl, hb9⟩
        replace acc := belowTrans acc hb9 (Nat.le_refl _)
        clear hb9
        clear Hp Hq
        go_wp2_with fail
        with_reducible refine (Hg.out _ acc).mono ?_
        rintro e v10 ⟨q, rfl, hq0, hq1, hb10⟩
        replace acc := belowTrans acc hb10 (Nat.le_refl _)
        clear hb10
        clear Hg
        have hp := fun W => impl_LongestRow q W
        have hq := fun W => spec_LongestRow q W
        by_cases hq10 : 1 ≤ q ∧ q ≤ 10
        · skip
          obtain ⟨Q, rfl⟩ := Int.eq_ofNat_of_zero_le (show 0 ≤ q by omega)
          obtain ⟨row, hr1, hr2, hr3, hr4, hr5⟩ := long_found (m := Q) (by omega) (by omega)
          simp only [mLR_yes (show 1 ≤ Q ∧ Q ≤ 10 by omega), hr2] at hp hq
          have hbr := row_iff.2 hr1
          have ho := fun a n c W h => impl_RowOrbit a n c row W h
          rw [mRO_yes hbr, hr3] at ho
          have hsr := fun a n c W h => impl_SortRow a n c row W h
          simp only [mSortR_yes hbr] at hsr
          have htl := fun a n c W h => impl_TailOf a n c (sortD row) W h
          simp only [mTail_yes (good_iff.2 (sort_good hr1))] at htl
          clear hbr hr1 hr2 hr3 hq10
          generalize (orbR row).2.1 = Z at ho
          generalize tailL (sortD row) = U at htl hr4
          generalize (orbR row).1 = V at hp hq ho hr4 hr5
          generalize sortD row = zs at hsr htl
          have hVV : (V != V) = false := by simp
          have hdd : decide ((U : Int) ≤ V) = true := decide_eq_true hr4
          have Hp := Lib.hid hp; clear hp
          have Hq := Lib.hid hq; clear hq
          have Ho := Lib.hid ho; clear ho
          have Hsr := Lib.hid hsr; clear hsr
          have Htl := Lib.hid htl; clear htl
          go_wp2_with fail
          with_reducible refine (Hp.out _).mono ?_
          rintro e v11 ⟨pp, np, cp, rfl, hop, hb11⟩
          replace acc := belowTrans acc hb11 (Nat.le_refl _)
          clear hb11
          go_wp2_with fail
          with_reducible refine (Hq.out _).mono ?_
          rintro e v12 ⟨pq, nq, cq, rfl, hoq, hb12⟩
          replace hop := hop.keep hb12
          replace acc := belowTrans acc hb12 (Nat.le_refl _)
          clear hb12
          have hc := xSame_any _ _ _ _ _ _ _ _ _ hop.at hoq.at
          rw [decide_eq_true rfl] at hc
          have Hc := Lib.hid hc; clear hc
          go_wp2_with fail
          with_reducible refine (Hc.out).mono ?_
          rintro e v13 ⟨rfl, hb13⟩
          replace hop := hop.keep hb13
          replace hoq := hoq.keep hb13
          replace acc := belowTrans acc hb13 (Nat.le_refl _)
          clear hb13
          clear Hc
          clear hoq
          go_wp2_with fail
          with_reducible refine (Ho.out _ _ _ _ hop.at).mono ?_
          rintro e v14 ⟨rfl, hb14⟩
          replace hop := hop.keep hb14
          replace acc := belowTrans acc hb14 (Nat.le_refl _)
          clear hb14
          go_wp2_with fail
          with_reducible refine (Hsr.out _ _ _ _ hop.at).mono ?_
          rintro e v15 ⟨pr, nr, cr, rfl, hor, hb15⟩
          replace hop := hop.keep hb15
          replace acc := belowTrans acc hb15 (Nat.le_refl _)
          clear hb15
          go_wp2_with fail
          with_reducible refine (Htl.out _ _ _ _ hor.at).mono ?_
          rintro e v16 ⟨rfl, hb16⟩
          replace hop := hop.keep hb16
          replace hor := hor.keep hb16
          replace acc := belowTrans acc hb16 (Nat.le_refl _)
          clear hb16
          go_wp2
          go_ret
          exact ⟨rfl, acc⟩
        · skip
          simp only [mLR_no hq10] at hp hq
          clear hq10
          have Hp := Lib.hid hp; clear hp
          have Hq := Lib.hid hq; clear hq
          go_wp2_with fail
          with_reducible refine (Hp.out _).mono ?_
          rintro e v11 ⟨pp, np, cp, rfl, hop, hb11⟩
          replace acc := belowTrans acc hb11 (Nat.le_refl _)
          clear hb11
          go_wp2_with fail
          with_reducible refine (Hq.out _).mono ?_
          rintro e v12 ⟨pq, nq, cq, rfl, hoq, hb12⟩
          replace hop := hop.keep hb12
          replace acc := belowTrans acc hb12 (Nat.le_refl _)
          clear hb12
          have hc := xSame_any _ _ _ _ _ _ _ _ _ hop.at hoq.at
          rw [decide_eq_true rfl] at hc
          have Hc := Lib.hid hc; clear hc
          go_wp2_with fail
          with_reducible refine (Hc.out).mono ?_
          rintro e v13 ⟨rfl, hb13⟩
          replace hop := hop.keep hb13
          replace hoq := hoq.keep hb13
          replace acc := belowTrans acc hb13 (Nat.le_refl _)
          clear hb13
          clear Hc
          go_wp2
          go_ret
          exact ⟨rfl, acc⟩
      · skip
        clear hk hcl hN hn
        generalize cntR N = C at hc he hC8 hC1
        have Hi := Lib.hid hi; clear hi
        have Hs := Lib.hid hs; clear hs
        have Hc := Lib.hid hc; clear hc
        have He := Lib.hid he; clear he
        go_wp2_with fail
        with_reducible refine (Hi.out _).mono ?_
        rintro e v2 ⟨pi, ni, ci, rfl, hoi, hb2⟩
        replace acc := belowTrans acc hb2 (Nat.le_refl _)
        clear hb2
        go_wp2_with fail
        with_reducible refine (Hs.out _).mono ?_
        rintro e v3 ⟨ps, ns, cs, rfl, hos, hb3⟩
        replace hoi := hoi.keep hb3
        replace acc := belowTrans acc hb3 (Nat.le_refl _)
        clear hb3
        go_wp2_with fail
        with_reducible refine (Hc.out _).mono ?_
        rintro e v4 ⟨rfl, hb4⟩
        replace hoi := hoi.keep hb4
        replace hos := hos.keep hb4
        replace acc := belowTrans acc hb4 (Nat.le_refl _)
        clear hb4
        go_wp2_with fail
        with_reducible refine (He.out _).mono ?_
        rintro e v5 ⟨rfl, hb5⟩
        replace hoi := hoi.keep hb5
        replace hos := hos.keep hb5
        replace acc := belowTrans acc hb5 (Nat.le_refl _)
        clear hb5
        have hc := xSame_any _ _ _ _ _ _ _ _ _ hoi.at hos.at
        rw [decide_eq_true rfl] at hc
        have Hc := Lib.hid hc; clear hc
        go_wp2_with fail
        with_reducible refine (Hc.out).mono ?_
        rintro e v6 ⟨rfl, hb6⟩
        replace hoi := hoi.keep hb6
        replace hos := hos.keep hb6
        replace acc := belowTrans acc hb6 (Nat.le_refl _)
        clear hb6
        clear Hc
        clear hos
        clear Hi Hs Hc He
        clear hoi
        go_wp2_with fail
        with_reducible refine (Hf.out _ acc).mono ?_
        rintro e v7 ⟨m, rfl, hm0, hm1, hb7⟩
        replace acc := belowTrans acc hb7 (Nat.le_refl _)
        clear hb7
        clear Hf
        have hp := fun W => impl_CountRowGardens m W
        have hq := fun W => spec_CountRowGardens m W
        generalize (mCountRowGardens m).1 = G at hp hq
        generalize (mCountRowGardens m).2 = t at hp hq
        have htt : (t != t) = false := by simp
        have hGG : (G != G) = false := by simp
        have Hp := Lib.hid hp; clear hp
        have Hq := Lib.hid hq; clear hq
        go_wp2_with fail
        with_reducible refine (Hp.out _).mono ?_
        rintro e v8 ⟨rfl, hb8⟩
        replace acc := belowTrans acc hb8 (Nat.le_refl _)
        clear hb8
        go_wp2_with fail
        with_reducible refine (Hq.out _).mono ?_
        rintro e v9 ⟨rfl, hb9⟩
        replace acc := belowTrans acc hb9 (Nat.le_refl _)
        clear hb9
        clear Hp Hq
        go_wp2_with fail
        with_reducible refine (Hg.out _ acc).mono ?_
        rintro e v10 ⟨q, rfl, hq0, hq1, hb10⟩
        replace acc := belowTrans acc hb10 (Nat.le_refl _)
        clear hb10
        clear Hg
        have hp := fun W => impl_LongestRow q W
        have hq := fun W => spec_LongestRow q W
        by_cases hq10 : 1 ≤ q ∧ q ≤ 10
        · skip
          obtain ⟨Q, rfl⟩ := Int.eq_ofNat_of_zero_le (show 0 ≤ q by omega)
          obtain ⟨row, hr1, hr2, hr3, hr4, hr5⟩ := long_found (m := Q) (by omega) (by omega)
          simp only [mLR_yes (show 1 ≤ Q ∧ Q ≤ 10 by omega), hr2] at hp hq
          have hbr := row_iff.2 hr1
          have ho := fun a n c W h => impl_RowOrbit a n c row W h
          rw [mRO_yes hbr, hr3] at ho
          have hsr := fun a n c W h => impl_SortRow a n c row W h
          simp only [mSortR_yes hbr] at hsr
          have htl := fun a n c W h => impl_TailOf a n c (sortD row) W h
          simp only [mTail_yes (good_iff.2 (sort_good hr1))] at htl
          clear hbr hr1 hr2 hr3 hq10
          generalize (orbR row).2.1 = Z at ho
          generalize tailL (sortD row) = U at htl hr4
          generalize (orbR row).1 = V at hp hq ho hr4 hr5
          generalize sortD row = zs at hsr htl
          have hVV : (V != V) = false := by simp
          have hdd : decide ((U : Int) ≤ V) = true := decide_eq_true hr4
          have Hp := Lib.hid hp; clear hp
          have Hq := Lib.hid hq; clear hq
          have Ho := Lib.hid ho; clear ho
          have Hsr := Lib.hid hsr; clear hsr
          have Htl := Lib.hid htl; clear htl
          go_wp2_with fail
          with_reducible refine (Hp.out _).mono ?_
          rintro e v11 ⟨pp, np, cp, rfl, hop, hb11⟩
          replace acc := belowTrans acc hb11 (Nat.le_refl _)
          clear hb11
          go_wp2_with fail
          with_reducible refine (Hq.out _).mono ?_
          rintro e v12 ⟨pq, nq, cq, rfl, hoq, hb12⟩
          replace hop := hop.keep hb12
          replace acc := belowTrans acc hb12 (Nat.le_refl _)
          clear hb12
          have hc := xSame_any _ _ _ _ _ _ _ _ _ hop.at hoq.at
          rw [decide_eq_true rfl] at hc
          have Hc := Lib.hid hc; clear hc
          go_wp2_with fail
          with_reducible refine (Hc.out).mono ?_
          rintro e v13 ⟨rfl, hb13⟩
          replace hop := hop.keep hb13
          replace hoq := hoq.keep hb13
          replace acc := belowTrans acc hb13 (Nat.le_refl _)
          clear hb13
          clear Hc
          clear hoq
          go_wp2_with fail
          with_reducible refine (Ho.out _ _ _ _ hop.at).mono ?_
          rintro e v14 ⟨rfl, hb14⟩
          replace hop := hop.keep hb14
          replace acc := belowTrans acc hb14 (Nat.le_refl _)
          clear hb14
          go_wp2_with fail
          with_reducible refine (Hsr.out _ _ _ _ hop.at).mono ?_
          rintro e v15 ⟨pr, nr, cr, rfl, hor, hb15⟩
          replace hop := hop.keep hb15
          replace acc := belowTrans acc hb15 (Nat.le_refl _)
          clear hb15
          go_wp2_with fail
          with_reducible refine (Htl.out _ _ _ _ hor.at).mono ?_
          rintro e v16 ⟨rfl, hb16⟩
          replace hop := hop.keep hb16
          replace hor := hor.keep hb16
          replace acc := belowTrans acc hb16 (Nat.le_refl _)
          clear hb16
          go_wp2
          go_ret
          exact ⟨rfl, acc⟩
        · skip
          simp only [mLR_no hq10] at hp hq
          clear hq10
          have Hp := Lib.hid hp; clear hp
          have Hq := Lib.hid hq; clear hq
          go_wp2_with fail
          with_reducible refine (Hp.out _).mono ?_
          rintro e v11 ⟨pp, np, cp, rfl, hop, hb11⟩
          replace acc := belowTrans acc hb11 (Nat.le_refl _)
          clear hb11
          go_wp2_with fail
          with_reducible refine (Hq.out _).mono ?_
          rintro e v12 ⟨pq, nq, cq, rfl, hoq, hb12⟩
          replace hop := hop.keep hb12
          replace acc := belowTrans acc hb12 (Nat.le_refl _)
          clear hb12
          have hc := xSame_any _ _ _ _ _ _ _ _ _ hop.at hoq.at
          rw [decide_eq_true rfl] at hc
          have Hc := Lib.hid hc; clear hc
          go_wp2_with fail
          with_reducible refine (Hc.out).mono ?_
          rintro e v13 ⟨rfl, hb13⟩
          replace hop := hop.keep hb13
          replace hoq := hoq.keep hb13
          replace acc := belowTrans acc hb13 (Nat.le_refl _)
          clear hb13
          clear Hc
          go_wp2
          go_ret
          exact ⟨rfl, acc⟩
  · skip
    simp only [mRW_no1 hn] at hi hs
    simp only [mCR_no n hn] at hc he
    clear hn
    have Hi := Lib.hid hi; clear hi
    have Hs := Lib.hid hs; clear hs
    have Hc := Lib.hid hc; clear hc
    have He := Lib.hid he; clear he
    go_wp2_with fail
    with_reducible refine (Hi.out _).mono ?_
    rintro e v2 ⟨pi, ni, ci, rfl, hoi, hb2⟩
    replace acc := belowTrans acc hb2 (Nat.le_refl _)
    clear hb2
    go_wp2_with fail
    with_reducible refine (Hs.out _).mono ?_
    rintro e v3 ⟨ps, ns, cs, rfl, hos, hb3⟩
    replace hoi := hoi.keep hb3
    replace acc := belowTrans acc hb3 (Nat.le_refl _)
    clear hb3
    go_wp2_with fail
    with_reducible refine (Hc.out _).mono ?_
    rintro e v4 ⟨rfl, hb4⟩
    replace hoi := hoi.keep hb4
    replace hos := hos.keep hb4
    replace acc := belowTrans acc hb4 (Nat.le_refl _)
    clear hb4
    go_wp2_with fail
    with_reducible refine (He.out _).mono ?_
    rintro e v5 ⟨rfl, hb5⟩
    replace hoi := hoi.keep hb5
    replace hos := hos.keep hb5
    replace acc := belowTrans acc hb5 (Nat.le_refl _)
    clear hb5
    have hc := xSame_any _ _ _ _ _ _ _ _ _ hoi.at hos.at
    rw [decide_eq_true rfl] at hc
    have Hc := Lib.hid hc; clear hc
    go_wp2_with fail
    with_reducible refine (Hc.out).mono ?_
    rintro e v6 ⟨rfl, hb6⟩
    replace hoi := hoi.keep hb6
    replace hos := hos.keep hb6
    replace acc := belowTrans acc hb6 (Nat.le_refl _)
    clear hb6
    clear Hc
    clear hos
    clear Hi Hs Hc He
    clear hoi
    go_wp2_with fail
    with_reducible refine (Hf.out _ acc).mono ?_
    rintro e v7 ⟨m, rfl, hm0, hm1, hb7⟩
    replace acc := belowTrans acc hb7 (Nat.le_refl _)
    clear hb7
    clear Hf
    have hp := fun W => impl_CountRowGardens m W
    have hq := fun W => spec_CountRowGardens m W
    generalize (mCountRowGardens m).1 = G at hp hq
    generalize (mCountRowGardens m).2 = t at hp hq
    have htt : (t != t) = false := by simp
    have hGG : (G != G) = false := by simp
    have Hp := Lib.hid hp; clear hp
    have Hq := Lib.hid hq; clear hq
    go_wp2_with fail
    with_reducible refine (Hp.out _).mono ?_
    rintro e v8 ⟨rfl, hb8⟩
    replace acc := belowTrans acc hb8 (Nat.le_refl _)
    clear hb8
    go_wp2_with fail
    with_reducible refine (Hq.out _).mono ?_
    rintro e v9 ⟨rfl, hb9⟩
    replace acc := belowTrans acc hb9 (Nat.le_refl _)
    clear hb9
    clear Hp Hq
    go_wp2_with fail
    with_reducible refine (Hg.out _ acc).mono ?_
    rintro e v10 ⟨q, rfl, hq0, hq1, hb10⟩
    replace acc := belowTrans acc hb10 (Nat.le_refl _)
    clear hb10
    clear Hg
    have hp := fun W => impl_LongestRow q W
    have hq := fun W => spec_LongestRow q W
    by_cases hq10 : 1 ≤ q ∧ q ≤ 10
    · skip
      obtain ⟨Q, rfl⟩ := Int.eq_ofNat_of_zero_le (show 0 ≤ q by omega)
      obtain ⟨row, hr1, hr2, hr3, hr4, hr5⟩ := long_found (m := Q) (by omega) (by omega)
      simp only [mLR_yes (show 1 ≤ Q ∧ Q ≤ 10 by omega), hr2] at hp hq
      have hbr := row_iff.2 hr1
      have ho := fun a n c W h => impl_RowOrbit a n c row W h
      rw [mRO_yes hbr, hr3] at ho
      have hsr := fun a n c W h => impl_SortRow a n c row W h
      simp only [mSortR_yes hbr] at hsr
      have htl := fun a n c W h => impl_TailOf a n c (sortD row) W h
      simp only [mTail_yes (good_iff.2 (sort_good hr1))] at htl
      clear hbr hr1 hr2 hr3 hq10
      generalize (orbR row).2.1 = Z at ho
      generalize tailL (sortD row) = U at htl hr4
      generalize (orbR row).1 = V at hp hq ho hr4 hr5
      generalize sortD row = zs at hsr htl
      have hVV : (V != V) = false := by simp
      have hdd : decide ((U : Int) ≤ V) = true := decide_eq_true hr4
      have Hp := Lib.hid hp; clear hp
      have Hq := Lib.hid hq; clear hq
      have Ho := Lib.hid ho; clear ho
      have Hsr := Lib.hid hsr; clear hsr
      have Htl := Lib.hid htl; clear htl
      go_wp2_with fail
      with_reducible refine (Hp.out _).mono ?_
      rintro e v11 ⟨pp, np, cp, rfl, hop, hb11⟩
      replace acc := belowTrans acc hb11 (Nat.le_refl _)
      clear hb11
      go_wp2_with fail
      with_reducible refine (Hq.out _).mono ?_
      rintro e v12 ⟨pq, nq, cq, rfl, hoq, hb12⟩
      replace hop := hop.keep hb12
      replace acc := belowTrans acc hb12 (Nat.le_refl _)
      clear hb12
      have hc := xSame_any _ _ _ _ _ _ _ _ _ hop.at hoq.at
      rw [decide_eq_true rfl] at hc
      have Hc := Lib.hid hc; clear hc
      go_wp2_with fail
      with_reducible refine (Hc.out).mono ?_
      rintro e v13 ⟨rfl, hb13⟩
      replace hop := hop.keep hb13
      replace hoq := hoq.keep hb13
      replace acc := belowTrans acc hb13 (Nat.le_refl _)
      clear hb13
      clear Hc
      clear hoq
      go_wp2_with fail
      with_reducible refine (Ho.out _ _ _ _ hop.at).mono ?_
      rintro e v14 ⟨rfl, hb14⟩
      replace hop := hop.keep hb14
      replace acc := belowTrans acc hb14 (Nat.le_refl _)
      clear hb14
      go_wp2_with fail
      with_reducible refine (Hsr.out _ _ _ _ hop.at).mono ?_
      rintro e v15 ⟨pr, nr, cr, rfl, hor, hb15⟩
      replace hop := hop.keep hb15
      replace acc := belowTrans acc hb15 (Nat.le_refl _)
      clear hb15
      go_wp2_with fail
      with_reducible refine (Htl.out _ _ _ _ hor.at).mono ?_
      rintro e v16 ⟨rfl, hb16⟩
      replace hop := hop.keep hb16
      replace hor := hor.keep hb16
      replace acc := belowTrans acc hb16 (Nat.le_refl _)
      clear hb16
      go_wp2
      go_ret
      exact ⟨rfl, acc⟩
    · skip
      simp only [mLR_no hq10] at hp hq
      clear hq10
      have Hp := Lib.hid hp; clear hp
      have Hq := Lib.hid hq; clear hq
      go_wp2_with fail
      with_reducible refine (Hp.out _).mono ?_
      rintro e v11 ⟨pp, np, cp, rfl, hop, hb11⟩
      replace acc := belowTrans acc hb11 (Nat.le_refl _)
      clear hb11
      go_wp2_with fail
      with_reducible refine (Hq.out _).mono ?_
      rintro e v12 ⟨pq, nq, cq, rfl, hoq, hb12⟩
      replace hop := hop.keep hb12
      replace acc := belowTrans acc hb12 (Nat.le_refl _)
      clear hb12
      have hc := xSame_any _ _ _ _ _ _ _ _ _ hop.at hoq.at
      rw [decide_eq_true rfl] at hc
      have Hc := Lib.hid hc; clear hc
      go_wp2_with fail
      with_reducible refine (Hc.out).mono ?_
      rintro e v13 ⟨rfl, hb13⟩
      replace hop := hop.keep hb13
      replace hoq := hoq.keep hb13
      replace acc := belowTrans acc hb13 (Nat.le_refl _)
      clear hb13
      clear Hc
      go_wp2
      go_ret
      exact ⟨rfl, acc⟩

/-! ### THE ROW's STEP: WRITTEN OUT: LEAVE IT -/
set_option maxRecDepth 100000 in
theorem lifted (os : Os) (started : os.Started) (H : Type) (enc : TypeId × Value → H) :
    ReturnsInHanded {} Try.checked os 11 .any (Rows.fnRowRanksSpec.pre6 enc Try.prog Try.f11 Rows.fnRowRanksRow.domain false) (Rows.fnRowRanksSpec.post enc Try.prog Try.f11 false true false false) := by
  refine returnsInHanded_of_change (C := Try.checked) own started (by kernel_rfl) Try.func11
    (ChangeSpec.witness6 (enc := enc) (C := Try.checked) false ⟨#[], #[.slice none 0 0, .slice none 0 0], []⟩ 8 (by kernel_rfl) (by kernel_rfl) (by kernel_rfl) (by kernel_rfl)) ?_
  intro W base args ds gs before hval0 hW hcnd _
  have hval : ∀ (j : Nat) t v, Try.f11.params[j]? = some t → args[j]? = some v → Value.okWide Try.prog W .any base t v := hval0
  have hW' := hW
  obtain ⟨p, q, hA0, hV, rfl, hfz, hnd⟩ := hW
  have hA : DataW.TrodAll enc Try.prog W 0 (fun _ => true) true Try.f11.params.toList args.toList ds p := hA0
  rw [Try.params11] at hA hval
  obtain ⟨v0, vs0, d0, ds0, p0, q0, hargs, rfl, rfl, h0, r0⟩ := trodAll_cons hA
  obtain ⟨v1, vs1, d1, ds1, p1, q1, rfl, rfl, rfl, h1, r1⟩ := trodAll_cons r0
  obtain ⟨rfl, rfl, rfl⟩ := trodAll_nil r1
  obtain rfl : args = #[v0, v1] := by cases args; simp_all
  obtain ⟨rfl, rfl⟩ := trodVars_none hV
  obtain ⟨a0, len0, cap0, rfl⟩ := okWide_slice Try.underlying44 (hval 0 44 v0 rfl rfl)
  have k0 := h0
  have lt0 : ∀ x ∈ p0, x.block < W.heap.size := by obtain ⟨m, hm⟩ := k0; exact DataW.trod_lt m _ _ _ hm
  obtain ⟨z0, w0⟩ : ∃ zs, IsRow .u8 W a0 len0 cap0 zs := by
    obtain ⟨fuel, hf⟩ := h0
    rcases open_ints Try.underlying44 Try.underlying5 (by kernel_rfl) hf with ⟨hcs, _⟩ | ⟨x, l, c, zs, hcs, _, hl, hm, hz, _, hcell, hwz⟩
    · simp [Value.cells] at hcs
      obtain ⟨rfl, rfl, rfl⟩ := hcs
      exact ⟨[], .inl ⟨rfl, rfl, rfl, rfl⟩⟩
    · simp [Value.cells] at hcs
      obtain ⟨rfl, rfl, rfl⟩ := hcs
      exact ⟨zs, .inr ⟨_, rfl, hl, hm, by simpa using hz, hcell, hwz⟩⟩
  obtain ⟨a1, len1, cap1, rfl⟩ := okWide_slice Try.underlying44 (hval 1 44 v1 rfl rfl)
  have k1 := h1
  have lt1 : ∀ x ∈ p1, x.block < W.heap.size := by obtain ⟨m, hm⟩ := k1; exact DataW.trod_lt m _ _ _ hm
  obtain ⟨z1, w1⟩ : ∃ zs, IsRow .u8 W a1 len1 cap1 zs := by
    obtain ⟨fuel, hf⟩ := h1
    rcases open_ints Try.underlying44 Try.underlying5 (by kernel_rfl) hf with ⟨hcs, _⟩ | ⟨x, l, c, zs, hcs, _, hl, hm, hz, _, hcell, hwz⟩
    · simp [Value.cells] at hcs
      obtain ⟨rfl, rfl, rfl⟩ := hcs
      exact ⟨[], .inl ⟨rfl, rfl, rfl, rfl⟩⟩
    · simp [Value.cells] at hcs
      obtain ⟨rfl, rfl, rfl⟩ := hcs
      exact ⟨zs, .inr ⟨_, rfl, hl, hm, by simpa using hz, hcell, hwz⟩⟩
  clear hA0 hval0
  refine (walk a0 len0 cap0 z0 a1 len1 cap1 z1 W w0 w1).mono fun e W' ⟨he, bel⟩ => ?_
  subst he
  exact ⟨_, rfl, _, _, _, [], _, [], hW', trodAll_mk1 (shut_bool Try.underlying4 _), (trodAll_cons_mk (Below.trod laidOut (by kernel_rfl) (of_decide_eq_true (by kernel_rfl)) k0 bel lt0) (trodAll_cons_mk (Below.trod laidOut (by kernel_rfl) (of_decide_eq_true (by kernel_rfl)) k1 bel lt1) trodAll_mk0)), rfl, bel.frame _, fun h => by cases h⟩

theorem closedFacts : joinedFacts Try.prog 11 Try.f11 Rows.fnRowRanksSpec Rows.fnRowRanksRow = true := by
  unfold joinedFacts
  rw [head_enter, head_lifts, head_make]
  kernel_rfl
theorem closedHere : joinedFacts Try.pinned.checked.prog 11 Try.f11 Rows.fnRowRanksSpec Rows.fnRowRanksRow = true := by
  rw [progEq]
  exact closedFacts
theorem over : Rows.fnRowRanksRow.holds Try.pinned (OpenSpec.ofChange Rows.fnRowRanksSpec) :=
  OpenClaim.holds_of_wide 11 Try.f11 rfl rfl rfl rfl rfl rfl rfl ⟨rfl, rfl, rfl, rfl, rfl⟩ rfl rfl rfl rfl rfl (by kernel_rfl) Try.func11 closedHere
    (of_decide_eq_true (by kernel_rfl)) (by unfold Func.isWrapper; first | (rw [if_pos (by decide +kernel)]; kernel_rfl) | (rw [if_neg (by decide +kernel)]; exact ⟨rfl, rfl⟩))
    (fun os started H enc _ => lifted os started H enc)

/-- ████ THE STATEMENT ████ -/
theorem proved : Rows.FnRowRanksSaid := over
#print axioms proved
end Go.Proofs.Ytbneibpakopllaa.fnRowRanks
