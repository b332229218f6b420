/- FnLongestTails: for every input the law returns true and leaves its arguments as they were. No condition. -/
import Derived.Test.YthppkfhhidlpiaaGreatRows
import Derived.WalkKit
import Derived.ProofKit
import Derived.OpenShut
import Derived.ShutString
import Derived.ChangeOld
import Derived.Below
import Derived.Test.YthppkfhhidlpiaaGreatHead
import Derived.Test.YthppkfhhidlpiaaGreatGe
import Derived.Test.YthppkfhhidlpiaaGreatGd
import Derived.Test.YthppkfhhidlpiaaGreatStairT
import Derived.Test.YthppkfhhidlpiaaGreatLongP
import Derived.Test.YthppkfhhidlpiaaGreatTailI
import Derived.Test.YthppkfhhidlpiaaGreatGk
import Derived.Test.YthppkfhhidlpiaaGreatPileB
namespace Go.Proofs.YthppkfhhidlpiaaGreat.fnLongestTails
set_option linter.unusedSimpArgs false
open Go.ChangeShapes Go.WideShapes Go.ChangeAt Go.RowKit
open Go.ChangeMaps (open_string shut_string)
set_option linter.unusedVariables false

theorem own : ownKnob Tryz.prog.godebug = none := by kernel_rfl
theorem laidOut : laidOutB Tryz.prog = true := by kernel_rfl

/-- WHAT THE WALK IS TOLD OF A SLICE OF INTEGERS THAT CAME IN: it is nil; or it leads to a row of 'cap' cells, the numbers 'zs' (the first 'len' are its elements, the rest its spare room), each fitting its kind. -/
def IsRow (k : IntKind) (w : World) (a : Option Addr) (len cap : Nat) (zs : List Int) : Prop :=
  (a = none ∧ len = 0 ∧ cap = 0 ∧ zs = []) ∨
  ∃ x, a = some x ∧ len ≤ cap ∧ cap ≤ maxLen ∧ zs.length = cap ∧ (∀ i, i < zs.length → w.cell? (x.add i) = some (.int k (zs.getD i 0))) ∧ ∀ n ∈ zs, (Lit.int k n).wf = true

/-! ### THE WALK: the Go text returns true, AND WRITES NOTHING THAT WAS THERE: 'Below w.heap.size w w'' (Derived/Below.lean: '.refl', '.alloc', '.drew', '.setCell' at a new block, '.trans'). Open each 'IsRow' by 'rcases' AHEAD of 'go_enter'; part every test ahead of the walk. -/
set_option maxHeartbeats 4000000 in
set_option maxRecDepth 100000 in
theorem walk (a0 : Option Addr) (len0 cap0 : Nat) (z0 : List Int) (a1 : Option Addr) (len1 cap1 : Nat) (z1 : List Int) (w : World) (w0 : IsRow .u8 w a0 len0 cap0 z0) (w1 : IsRow .u8 w a1 len1 cap1 z1) :
    Calls Tryz.prog 3 #[.slice a0 len0 cap0, .slice a1 len1 cap1] w fun e w' => e = .returned (.bool true) ∧ Below w.heap.size w w' := by
  have by0 := byteIn_row w0
  have by1 := byteIn_row w1
  have hl0 : len0 ≤ maxLen := by
    rcases w0 with ⟨_, h, _⟩ | ⟨x, _, h, h', _⟩
    · rw [h]; exact Nat.zero_le _
    · exact Nat.le_trans h h'
  clear w0 w1
  by_cases hbig : 1048576 < len0 ∨ (1048576 : Int) - len0 < len1
  · have hb := big_yes a0 a1 len0 len1 cap0 cap1 w hbig hl0
    have Hb := Lib.hid hb; clear hb
    go_enter Tryz.func3, Tryz.ntmps3
    go_wp2_with fail
    with_reducible refine (Hb.out).mono ?_
    rintro e w' ⟨rfl, rfl⟩
    go_wp2
    go_ret
    exact ⟨rfl, Below.refl _ _⟩
  have hb := big_no a0 a1 len0 len1 cap0 cap1 w (by omega) (by omega)
  have hd := DrawLongestTail_any a0 len0 cap0 w (by omega) by0
  have Hb := Lib.hid hb; clear hb
  have Hd := Lib.hid hd; clear hd
  clear by0 by1 hl0 hbig
  have acc : Below w.heap.size w w := Below.refl _ _
  go_enter Tryz.func3, Tryz.ntmps3
  go_wp2_with fail
  with_reducible refine (Hb.out).mono ?_
  rintro e w' ⟨rfl, rfl⟩
  clear Hb
  go_wp2_with fail
  with_reducible refine (Hd.out).mono ?_
  rintro e v1 ⟨n, hn0, hn1, rfl, hb1⟩
  replace acc := belowTrans acc hb1 (Nat.le_refl _)
  clear hb1
  clear Hd
  have hi := fun W => impl_LongestTail n W
  have hs := fun W => spec_LongestTail n W
  have hj := fun W => impl_FarthestStart n W
  have hk := fun W => spec_FarthestStart n W
  by_cases hn : 0 ≤ n ∧ n ≤ 28
  · skip
    obtain ⟨N, hNN⟩ : ∃ N : Nat, n = N := ⟨n.toNat, by omega⟩
    have hN : N ≤ 28 := by omega
    have e1 : mLongestTail n = ((longF (allL N)).1, true) := by rw [hNN]; exact mLong_yes N hN
    have e2 : mFarthestStart n = ((longF (allL N)).2, true) := by rw [hNN]; exact mFar_yes N hN
    simp only [e1] at hi hs
    simp only [e2] at hj hk
    have hl := longF_spec (allL N) (allL_up N)
    have hne : allL N ≠ [] := by
      intro e
      have := allL_length hN
      rw [e] at this
      have h1 : ∀ m, m < 29 → 1 ≤ cnt m m := by decide +kernel
      have := h1 N (by omega)
      simp at *; omega
    rcases hl with ⟨h, _⟩ | ⟨hl1, hl2, hl3, hl4⟩
    · exact absurd h hne
    have hgs := allL_good hN hl1
    have h42 := tail42 hgs.1
    have hH7 := hgt_le N
    have hst : N = tri (hgt N) → (longF (allL N)).1 = (hgt N : Int) * (hgt N : Int) - (hgt N : Int) := fun h => by
      have := stair_long (k := hgt N) hH7
      rwa [← h] at this
    have htl := fun a c q W h => impl_TailOf a c q (longF (allL N)).2 W h
    simp only [mTail_yes (good_iff.2 hgs.1), ← hl2] at htl
    have hsm := fun a c q W h => pSum_any a c q (longF (allL N)).2 W h hgs.1
    rw [hgs.2, ← hNN] at hsm
    have hh := fun W => impl_HeightFor n W
    have hm : mHeightFor n = ((hgt N : Int), (N : Int) - tri (hgt N), true) := by unfold mHeightFor; rw [if_pos hn, hNN]; rfl
    simp only [hm] at hh
    have hal := fun W => impl_AllPiles n W
    have e3 : mAllPiles n = (allL N, true) := by rw [hNN]; exact mAll_yes N hN
    simp only [e3] at hal
    have hT0 : (longF (allL N)).1 = (tailL (longF (allL N)).2 : Int) := hl2
    have hT1 : 0 ≤ (longF (allL N)).1 := by omega
    have hT2 : (longF (allL N)).1 ≤ 42 := by omega
    have hat : ∀ p ∈ allL N, goodB p = true ∧ (tailL p : Int) ≤ (longF (allL N)).1 ∧ ((tailL p : Int) = (longF (allL N)).1 → befB p (longF (allL N)).2 = false) := fun p hp => by
      have hgp := (allL_good hN hp).1
      refine ⟨good_iff.2 hgp, hl3 p hp, fun e => ?_⟩
      rcases hl4 p hp e with rfl | hb
      · exact befB_irrefl _
      · cases hh : befB p (longF (allL N)).2
        · rfl
        · exact absurd (bef_trans hh hb) (by rw [befB_irrefl]; exact Bool.false_ne_true)
    have hR : (N : Int) - tri (hgt N) = 0 → (longF (allL N)).1 = (hgt N : Int) * (hgt N : Int) - (hgt N : Int) := fun h => hst (by omega)
    have hla := allL_length hN
    clear hl1 hl2 hl3 hl4 hgs h42 hm e1 e2 e3 hne hst hT0 hla
    generalize (longF (allL N)).1 = T at *
    generalize (longF (allL N)).2 = X at *
    generalize allL N = A at *
    obtain ⟨H, hHH⟩ : ∃ H : Int, (hgt N : Int) = H := ⟨_, rfl⟩
    rw [hHH] at hh hR
    have hH0 : 0 ≤ H := by omega
    have hH8 : H ≤ 7 := by omega
    generalize (N : Int) - tri (hgt N) = R at hh hR
    clear hNN hN hH7 hHH hn
    have hq0 : 0 ≤ H * H := Int.mul_nonneg hH0 hH0
    have hq1 : H * H ≤ 49 := by
      have := Int.mul_le_mul hH8 hH8 hH0 (by omega)
      omega
    by_cases hr0 : R = 0
    · have hTT := hR hr0
      subst hr0
      subst hTT
      clear hR
      have Hi := Lib.hid hi; clear hi
      have Hs := Lib.hid hs; clear hs
      have Hj := Lib.hid hj; clear hj
      have Hk := Lib.hid hk; clear hk
      have Htl := Lib.hid htl; clear htl
      have Hsm := Lib.hid hsm; clear hsm
      have Hh := Lib.hid hh; clear hh
      have Hal := Lib.hid hal; clear hal
      have Hat := Lib.hid hat; clear hat
      go_wp2_with fail
      with_reducible refine (Hi.out _).mono ?_
      rintro e v2 ⟨rfl, hb2⟩
      replace acc := belowTrans acc hb2 (Nat.le_refl _)
      clear hb2
      go_wp2_with fail
      with_reducible refine (Hs.out _).mono ?_
      rintro e v3 ⟨rfl, hb3⟩
      replace acc := belowTrans acc hb3 (Nat.le_refl _)
      clear hb3
      go_wp2_with fail
      with_reducible refine (Hj.out _).mono ?_
      rintro e v4 ⟨pj, nj, cj, rfl, hoj, hb4⟩
      replace acc := belowTrans acc hb4 (Nat.le_refl _)
      clear hb4
      go_wp2_with fail
      with_reducible refine (Hk.out _).mono ?_
      rintro e v5 ⟨pk, nk, ck, rfl, hok, hb5⟩
      replace hoj := hoj.keep hb5
      replace acc := belowTrans acc hb5 (Nat.le_refl _)
      clear hb5
      clear Hi Hs Hj Hk
      have hc := pSame_any _ _ _ _ _ _ _ _ _ hoj.at hok.at
      rw [decide_eq_true rfl] at hc
      have Hc := Lib.hid hc; clear hc
      go_wp2_with fail
      with_reducible refine (Hc.out).mono ?_
      rintro e v6 ⟨rfl, hb6⟩
      replace hoj := hoj.keep hb6
      replace hok := hok.keep hb6
      replace acc := belowTrans acc hb6 (Nat.le_refl _)
      clear hb6
      clear Hc
      clear hok
      go_wp2_with fail
      with_reducible refine (Htl.out _ _ _ _ hoj.at).mono ?_
      rintro e v7 ⟨rfl, hb7⟩
      replace hoj := hoj.keep hb7
      replace acc := belowTrans acc hb7 (Nat.le_refl _)
      clear hb7
      go_wp2_with fail
      with_reducible refine (Hh.out _).mono ?_
      rintro e v8 ⟨rfl, hb8⟩
      replace hoj := hoj.keep hb8
      replace acc := belowTrans acc hb8 (Nat.le_refl _)
      clear hb8
      go_wp2_with fail
      with_reducible refine (Hsm.out _ _ _ _ hoj.at).mono ?_
      rintro e w' ⟨rfl, rfl⟩
      by_cases h11 : (11 : Int) < n
      · skip
        go_wp2
        go_ret
        exact ⟨rfl, acc⟩
      go_wp2_with fail
      with_reducible refine (Hal.out _).mono ?_
      rintro e v9 ⟨pa, na, ca, rfl, hoa, hb9⟩
      replace hoj := hoj.keep hb9
      replace acc := belowTrans acc hb9 (Nat.le_refl _)
      clear hb9
      have hla := hoa.length
      have hna8 := hoa.at.lenInt
      have hra := hoa.at
      clear hoa Htl Hh Hsm Hal
      have Hla := Lib.hid hla; clear hla
      obtain ⟨wo, hwo⟩ : ∃ wo : World, wo = v9 := ⟨_, rfl⟩
      subst hwo
      go_wp2_with fail
      go_loopw [128] (fun i wr => ∃ j : Nat, j ≤ na ∧ i = .int .i64 j ∧ Below w.heap.size w wr ∧ Below wo.heap.size wo wr) (fun i _ => na - (intOf i).toNat)
      case atStart => exact ⟨0, Nat.zero_le _, rfl, acc, Below.refl _ _⟩
      case round =>
        obtain ⟨j, hj, rfl, hbw, hbo⟩ := hrel
        by_cases hlt : j < na
        · skip
          replace hoj := hoj.keep hbo
          replace hra := hra.keep hbo
          obtain ⟨b1, o1, e_, _, hc_⟩ := hra.cell j hlt
          cases e_
          obtain ⟨a1_, m1, d1, hcell, hat1⟩ := hc_ j hlt
          clear hc_
          have hx : A.getD j [] ∈ A := by rw [List.getD_eq_getElem?_getD, List.getElem?_eq_getElem (by rw [Hla.out]; exact hlt)]; exact List.getElem_mem _
          obtain ⟨hg1, hg2, hg3⟩ := Hat.out _ hx
          have htj := impl_TailOf a1_ m1 d1 (A.getD j []) wr hat1
          simp only [mTail_yes hg1] at htj
          have hbj := fun W h1 h2 => pBefore_any a1_ pj m1 nj d1 cj (A.getD j []) X W h1 h2
          obtain ⟨t, ht⟩ : ∃ t : Int, (tailL (A.getD j []) : Int) = t := ⟨_, rfl⟩
          have ht0 : 0 ≤ t := by omega
          rw [ht] at htj hg2 hg3
          generalize befB (A.getD j []) X = bf at hbj hg3
          have Htj := Lib.hid htj; clear htj
          clear hx hg1 ht
          go_wp2_with fail
          with_reducible refine (Htj.out).mono ?_
          rintro e v10 ⟨rfl, hb10⟩
          replace hoj := hoj.keep hb10
          replace hat1 := hat1.keep hb10
          replace hbw := belowTrans hbw hb10 (Nat.le_refl _)
          replace hbo := belowTrans hbo hb10 (Nat.le_refl _)
          clear hb10
          clear hcell Htj
          by_cases heq : t = H * H - H
          · have hbf := hg3 heq
            subst hbf
            subst heq
            clear hg2 hg3
            have Hbj := Lib.hid hbj; clear hbj
            go_wp2_with fail
            with_reducible refine (Hbj.out _ hat1 hoj.at).mono ?_
            rintro e v11 ⟨rfl, hb11⟩
            replace hoj := hoj.keep hb11
            replace hat1 := hat1.keep hb11
            replace hbw := belowTrans hbw hb11 (Nat.le_refl _)
            replace hbo := belowTrans hbo hb11 (Nat.le_refl _)
            clear hb11
            go_wp2
            go_roundw
            case rel => exact ⟨j + 1, by omega, by go_num, hbw, hbo⟩
            case measure => simp [intOf] <;> omega
          · clear hg3 hbj
            go_wp2
            go_roundw
            case rel => exact ⟨j + 1, by omega, by go_num, hbw, hbo⟩
            case measure => simp [intOf] <;> omega
        · go_wp2
          go_ret
          exact ⟨rfl, hbw⟩
    · clear hR
      have Hi := Lib.hid hi; clear hi
      have Hs := Lib.hid hs; clear hs
      have Hj := Lib.hid hj; clear hj
      have Hk := Lib.hid hk; clear hk
      have Htl := Lib.hid htl; clear htl
      have Hsm := Lib.hid hsm; clear hsm
      have Hh := Lib.hid hh; clear hh
      have Hal := Lib.hid hal; clear hal
      have Hat := Lib.hid hat; clear hat
      go_wp2_with fail
      with_reducible refine (Hi.out _).mono ?_
      rintro e v2 ⟨rfl, hb2⟩
      replace acc := belowTrans acc hb2 (Nat.le_refl _)
      clear hb2
      go_wp2_with fail
      with_reducible refine (Hs.out _).mono ?_
      rintro e v3 ⟨rfl, hb3⟩
      replace acc := belowTrans acc hb3 (Nat.le_refl _)
      clear hb3
      go_wp2_with fail
      with_reducible refine (Hj.out _).mono ?_
      rintro e v4 ⟨pj, nj, cj, rfl, hoj, hb4⟩
      replace acc := belowTrans acc hb4 (Nat.le_refl _)
      clear hb4
      go_wp2_with fail
      with_reducible refine (Hk.out _).mono ?_
      rintro e v5 ⟨pk, nk, ck, rfl, hok, hb5⟩
      replace hoj := hoj.keep hb5
      replace acc := belowTrans acc hb5 (Nat.le_refl _)
      clear hb5
      clear Hi Hs Hj Hk
      have hc := pSame_any _ _ _ _ _ _ _ _ _ hoj.at hok.at
      rw [decide_eq_true rfl] at hc
      have Hc := Lib.hid hc; clear hc
      go_wp2_with fail
      with_reducible refine (Hc.out).mono ?_
      rintro e v6 ⟨rfl, hb6⟩
      replace hoj := hoj.keep hb6
      replace hok := hok.keep hb6
      replace acc := belowTrans acc hb6 (Nat.le_refl _)
      clear hb6
      clear Hc
      clear hok
      go_wp2_with fail
      with_reducible refine (Htl.out _ _ _ _ hoj.at).mono ?_
      rintro e v7 ⟨rfl, hb7⟩
      replace hoj := hoj.keep hb7
      replace acc := belowTrans acc hb7 (Nat.le_refl _)
      clear hb7
      go_wp2_with fail
      with_reducible refine (Hh.out _).mono ?_
      rintro e v8 ⟨rfl, hb8⟩
      replace hoj := hoj.keep hb8
      replace acc := belowTrans acc hb8 (Nat.le_refl _)
      clear hb8
      go_wp2_with fail
      with_reducible refine (Hsm.out _ _ _ _ hoj.at).mono ?_
      rintro e w' ⟨rfl, rfl⟩
      by_cases h11 : (11 : Int) < n
      · skip
        go_wp2
        go_ret
        exact ⟨rfl, acc⟩
      go_wp2_with fail
      with_reducible refine (Hal.out _).mono ?_
      rintro e v9 ⟨pa, na, ca, rfl, hoa, hb9⟩
      replace hoj := hoj.keep hb9
      replace acc := belowTrans acc hb9 (Nat.le_refl _)
      clear hb9
      have hla := hoa.length
      have hna8 := hoa.at.lenInt
      have hra := hoa.at
      clear hoa Htl Hh Hsm Hal
      have Hla := Lib.hid hla; clear hla
      obtain ⟨wo, hwo⟩ : ∃ wo : World, wo = v9 := ⟨_, rfl⟩
      subst hwo
      go_wp2_with fail
      go_loopw [128] (fun i wr => ∃ j : Nat, j ≤ na ∧ i = .int .i64 j ∧ Below w.heap.size w wr ∧ Below wo.heap.size wo wr) (fun i _ => na - (intOf i).toNat)
      case atStart => exact ⟨0, Nat.zero_le _, rfl, acc, Below.refl _ _⟩
      case round =>
        obtain ⟨j, hj, rfl, hbw, hbo⟩ := hrel
        by_cases hlt : j < na
        · skip
          replace hoj := hoj.keep hbo
          replace hra := hra.keep hbo
          obtain ⟨b1, o1, e_, _, hc_⟩ := hra.cell j hlt
          cases e_
          obtain ⟨a1_, m1, d1, hcell, hat1⟩ := hc_ j hlt
          clear hc_
          have hx : A.getD j [] ∈ A := by rw [List.getD_eq_getElem?_getD, List.getElem?_eq_getElem (by rw [Hla.out]; exact hlt)]; exact List.getElem_mem _
          obtain ⟨hg1, hg2, hg3⟩ := Hat.out _ hx
          have htj := impl_TailOf a1_ m1 d1 (A.getD j []) wr hat1
          simp only [mTail_yes hg1] at htj
          have hbj := fun W h1 h2 => pBefore_any a1_ pj m1 nj d1 cj (A.getD j []) X W h1 h2
          obtain ⟨t, ht⟩ : ∃ t : Int, (tailL (A.getD j []) : Int) = t := ⟨_, rfl⟩
          have ht0 : 0 ≤ t := by omega
          rw [ht] at htj hg2 hg3
          generalize befB (A.getD j []) X = bf at hbj hg3
          have Htj := Lib.hid htj; clear htj
          clear hx hg1 ht
          go_wp2_with fail
          with_reducible refine (Htj.out).mono ?_
          rintro e v10 ⟨rfl, hb10⟩
          replace hoj := hoj.keep hb10
          replace hat1 := hat1.keep hb10
          replace hbw := belowTrans hbw hb10 (Nat.le_refl _)
          replace hbo := belowTrans hbo hb10 (Nat.le_refl _)
          clear hb10
          clear hcell Htj
          by_cases heq : t = T
          · have hbf := hg3 heq
            subst hbf
            subst heq
            clear hg2 hg3
            have Hbj := Lib.hid hbj; clear hbj
            go_wp2_with fail
            with_reducible refine (Hbj.out _ hat1 hoj.at).mono ?_
            rintro e v11 ⟨rfl, hb11⟩
            replace hoj := hoj.keep hb11
            replace hat1 := hat1.keep hb11
            replace hbw := belowTrans hbw hb11 (Nat.le_refl _)
            replace hbo := belowTrans hbo hb11 (Nat.le_refl _)
            clear hb11
            go_wp2
            go_roundw
            case rel => exact ⟨j + 1, by omega, by go_num, hbw, hbo⟩
            case measure => simp [intOf] <;> omega
          · clear hg3 hbj
            go_wp2
            go_roundw
            case rel => exact ⟨j + 1, by omega, by go_num, hbw, hbo⟩
            case measure => simp [intOf] <;> omega
        · go_wp2
          go_ret
          exact ⟨rfl, hbw⟩
  · skip
    have e1 : mLongestTail n = (0, false) := mLong_no n hn
    have e2 : mFarthestStart n = ([], false) := mFar_no n hn
    simp only [e1] at hi hs
    simp only [e2] at hj hk
    clear e1 e2 hn
    have Hi := Lib.hid hi; clear hi
    have Hs := Lib.hid hs; clear hs
    have Hj := Lib.hid hj; clear hj
    have Hk := Lib.hid hk; clear hk
    go_wp2_with fail
    with_reducible refine (Hi.out _).mono ?_
    rintro e v2 ⟨rfl, hb2⟩
    replace acc := belowTrans acc hb2 (Nat.le_refl _)
    clear hb2
    go_wp2_with fail
    with_reducible refine (Hs.out _).mono ?_
    rintro e v3 ⟨rfl, hb3⟩
    replace acc := belowTrans acc hb3 (Nat.le_refl _)
    clear hb3
    go_wp2_with fail
    with_reducible refine (Hj.out _).mono ?_
    rintro e v4 ⟨pj, nj, cj, rfl, hoj, hb4⟩
    replace acc := belowTrans acc hb4 (Nat.le_refl _)
    clear hb4
    go_wp2_with fail
    with_reducible refine (Hk.out _).mono ?_
    rintro e v5 ⟨pk, nk, ck, rfl, hok, hb5⟩
    replace hoj := hoj.keep hb5
    replace acc := belowTrans acc hb5 (Nat.le_refl _)
    clear hb5
    clear Hi Hs Hj Hk
    have hc := pSame_any _ _ _ _ _ _ _ _ _ hoj.at hok.at
    rw [decide_eq_true rfl] at hc
    have Hc := Lib.hid hc; clear hc
    go_wp2_with fail
    with_reducible refine (Hc.out).mono ?_
    rintro e v6 ⟨rfl, hb6⟩
    replace hoj := hoj.keep hb6
    replace hok := hok.keep hb6
    replace acc := belowTrans acc hb6 (Nat.le_refl _)
    clear hb6
    clear Hc
    clear hok
    go_wp2
    go_ret
    exact ⟨rfl, acc⟩

/-! ### THE ROW's STEP: WRITTEN OUT: LEAVE IT -/
set_option maxRecDepth 100000 in
theorem lifted (os : Os) (started : os.Started) (H : Type) (enc : TypeId × Value → H) :
    ReturnsInHanded {} Tryz.checked os 3 .any (Rows.fnLongestTailsSpec.pre6 enc Tryz.prog Tryz.f3 Rows.fnLongestTailsRow.domain false) (Rows.fnLongestTailsSpec.post enc Tryz.prog Tryz.f3 false true false false) := by
  refine returnsInHanded_of_change (C := Tryz.checked) own started (by kernel_rfl) Tryz.func3
    (ChangeSpec.witness6 (enc := enc) (C := Tryz.checked) false ⟨#[], #[.slice none 0 0, .slice none 0 0], []⟩ 8 (by kernel_rfl) (by kernel_rfl) (by kernel_rfl) (by kernel_rfl)) ?_
  intro W base args ds gs before hval0 hW hcnd _
  have hval : ∀ (j : Nat) t v, Tryz.f3.params[j]? = some t → args[j]? = some v → Value.okWide Tryz.prog W .any base t v := hval0
  have hW' := hW
  obtain ⟨p, q, hA0, hV, rfl, hfz, hnd⟩ := hW
  have hA : DataW.TrodAll enc Tryz.prog W 0 (fun _ => true) true Tryz.f3.params.toList args.toList ds p := hA0
  rw [Tryz.params3] at hA hval
  obtain ⟨v0, vs0, d0, ds0, p0, q0, hargs, rfl, rfl, h0, r0⟩ := trodAll_cons hA
  obtain ⟨v1, vs1, d1, ds1, p1, q1, rfl, rfl, rfl, h1, r1⟩ := trodAll_cons r0
  obtain ⟨rfl, rfl, rfl⟩ := trodAll_nil r1
  obtain rfl : args = #[v0, v1] := by cases args; simp_all
  obtain ⟨rfl, rfl⟩ := trodVars_none hV
  obtain ⟨a0, len0, cap0, rfl⟩ := okWide_slice Tryz.underlying22 (hval 0 22 v0 rfl rfl)
  have k0 := h0
  have lt0 : ∀ x ∈ p0, x.block < W.heap.size := by obtain ⟨m, hm⟩ := k0; exact DataW.trod_lt m _ _ _ hm
  obtain ⟨z0, w0⟩ : ∃ zs, IsRow .u8 W a0 len0 cap0 zs := by
    obtain ⟨fuel, hf⟩ := h0
    rcases open_ints Tryz.underlying22 Tryz.underlying5 (by kernel_rfl) hf with ⟨hcs, _⟩ | ⟨x, l, c, zs, hcs, _, hl, hm, hz, _, hcell, hwz⟩
    · simp [Value.cells] at hcs
      obtain ⟨rfl, rfl, rfl⟩ := hcs
      exact ⟨[], .inl ⟨rfl, rfl, rfl, rfl⟩⟩
    · simp [Value.cells] at hcs
      obtain ⟨rfl, rfl, rfl⟩ := hcs
      exact ⟨zs, .inr ⟨_, rfl, hl, hm, by simpa using hz, hcell, hwz⟩⟩
  obtain ⟨a1, len1, cap1, rfl⟩ := okWide_slice Tryz.underlying22 (hval 1 22 v1 rfl rfl)
  have k1 := h1
  have lt1 : ∀ x ∈ p1, x.block < W.heap.size := by obtain ⟨m, hm⟩ := k1; exact DataW.trod_lt m _ _ _ hm
  obtain ⟨z1, w1⟩ : ∃ zs, IsRow .u8 W a1 len1 cap1 zs := by
    obtain ⟨fuel, hf⟩ := h1
    rcases open_ints Tryz.underlying22 Tryz.underlying5 (by kernel_rfl) hf with ⟨hcs, _⟩ | ⟨x, l, c, zs, hcs, _, hl, hm, hz, _, hcell, hwz⟩
    · simp [Value.cells] at hcs
      obtain ⟨rfl, rfl, rfl⟩ := hcs
      exact ⟨[], .inl ⟨rfl, rfl, rfl, rfl⟩⟩
    · simp [Value.cells] at hcs
      obtain ⟨rfl, rfl, rfl⟩ := hcs
      exact ⟨zs, .inr ⟨_, rfl, hl, hm, by simpa using hz, hcell, hwz⟩⟩
  clear hA0 hval0
  refine (walk a0 len0 cap0 z0 a1 len1 cap1 z1 W w0 w1).mono fun e W' ⟨he, bel⟩ => ?_
  subst he
  exact ⟨_, rfl, _, _, _, [], _, [], hW', trodAll_mk1 (shut_bool Tryz.underlying4 _), (trodAll_cons_mk (Below.trod laidOut (by kernel_rfl) (of_decide_eq_true (by kernel_rfl)) k0 bel lt0) (trodAll_cons_mk (Below.trod laidOut (by kernel_rfl) (of_decide_eq_true (by kernel_rfl)) k1 bel lt1) trodAll_mk0)), rfl, bel.frame _, fun h => by cases h⟩

theorem closedFacts : joinedFacts Tryz.prog 3 Tryz.f3 Rows.fnLongestTailsSpec Rows.fnLongestTailsRow = true := by
  unfold joinedFacts
  rw [head_enter, head_lifts, head_make]
  kernel_rfl
theorem closedHere : joinedFacts Tryz.pinned.checked.prog 3 Tryz.f3 Rows.fnLongestTailsSpec Rows.fnLongestTailsRow = true := by
  rw [progEq]
  exact closedFacts
theorem over : Rows.fnLongestTailsRow.holds Tryz.pinned (OpenSpec.ofChange Rows.fnLongestTailsSpec) :=
  OpenClaim.holds_of_wide 3 Tryz.f3 rfl rfl rfl rfl rfl rfl rfl ⟨rfl, rfl, rfl, rfl, rfl⟩ rfl rfl rfl rfl rfl (by kernel_rfl) Tryz.func3 closedHere
    (of_decide_eq_true (by kernel_rfl)) (by unfold Func.isWrapper; first | (rw [if_pos (by decide +kernel)]; kernel_rfl) | (rw [if_neg (by decide +kernel)]; exact ⟨rfl, rfl⟩))
    (fun os started H enc _ => lifted os started H enc)

/-- ████ THE STATEMENT ████ -/
theorem proved : Rows.FnLongestTailsSaid := over
#print axioms proved
end Go.Proofs.YthppkfhhidlpiaaGreat.fnLongestTails
