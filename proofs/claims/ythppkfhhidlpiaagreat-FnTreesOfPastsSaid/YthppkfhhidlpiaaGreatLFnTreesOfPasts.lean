/- FnTreesOfPasts: for every input the law returns true and leaves its arguments as they were. No condition. -/
import Derived.Test.YthppkfhhidlpiaaGreatRows
import Derived.WalkKit
import Derived.ProofKit
import Derived.OpenShut
import Derived.ShutString
import Derived.ChangeOld
import Derived.Below
import Derived.Test.YthppkfhhidlpiaaGreatHead
import Derived.Test.YthppkfhhidlpiaaGreatGe
import Derived.Test.YthppkfhhidlpiaaGreatGd
import Derived.Test.YthppkfhhidlpiaaGreatLongP
import Derived.Test.YthppkfhhidlpiaaGreatGs
import Derived.Test.YthppkfhhidlpiaaGreatGi
import Derived.Test.YthppkfhhidlpiaaGreatTail42
import Derived.Test.YthppkfhhidlpiaaGreatLawf
namespace Go.Proofs.YthppkfhhidlpiaaGreat.fnTreesOfPasts
set_option linter.unusedSimpArgs false
open Go.ChangeShapes Go.WideShapes Go.ChangeAt Go.RowKit
open Go.ChangeMaps (open_string shut_string)
set_option linter.unusedVariables false

theorem own : ownKnob Tryz.prog.godebug = none := by kernel_rfl
theorem laidOut : laidOutB Tryz.prog = true := by kernel_rfl

/-- WHAT THE WALK IS TOLD OF A SLICE OF INTEGERS THAT CAME IN: it is nil; or it leads to a row of 'cap' cells, the numbers 'zs' (the first 'len' are its elements, the rest its spare room), each fitting its kind. -/
def IsRow (k : IntKind) (w : World) (a : Option Addr) (len cap : Nat) (zs : List Int) : Prop :=
  (a = none ∧ len = 0 ∧ cap = 0 ∧ zs = []) ∨
  ∃ x, a = some x ∧ len ≤ cap ∧ cap ≤ maxLen ∧ zs.length = cap ∧ (∀ i, i < zs.length → w.cell? (x.add i) = some (.int k (zs.getD i 0))) ∧ ∀ n ∈ zs, (Lit.int k n).wf = true

/-! ### THE WALK: the Go text returns true, AND WRITES NOTHING THAT WAS THERE: 'Below w.heap.size w w'' (Derived/Below.lean: '.refl', '.alloc', '.drew', '.setCell' at a new block, '.trans'). Open each 'IsRow' by 'rcases' AHEAD of 'go_enter'; part every test ahead of the walk. -/
set_option maxHeartbeats 4000000 in
set_option maxRecDepth 100000 in
theorem walk (a0 : Option Addr) (len0 cap0 : Nat) (z0 : List Int) (a1 : Option Addr) (len1 cap1 : Nat) (z1 : List Int) (w : World) (w0 : IsRow .u8 w a0 len0 cap0 z0) (w1 : IsRow .u8 w a1 len1 cap1 z1) :
    Calls Tryz.prog 5 #[.slice a0 len0 cap0, .slice a1 len1 cap1] w fun e w' => e = .returned (.bool true) ∧ Below w.heap.size w w' := by
  have by0 := byteIn_row w0
  have by1 := byteIn_row w1
  have hl0 : len0 ≤ maxLen := by
    rcases w0 with ⟨_, h, _⟩ | ⟨x, _, h, h', _⟩
    · rw [h]; exact Nat.zero_le _
    · exact Nat.le_trans h h'
  clear w0 w1
  by_cases hbig : 1048576 < len0 ∨ (1048576 : Int) - len0 < len1
  · have hb := big_yes a0 a1 len0 len1 cap0 cap1 w hbig hl0
    have Hb := Lib.hid hb; clear hb
    go_enter Tryz.func5, Tryz.ntmps5
    go_wp2_with fail
    with_reducible refine (Hb.out).mono ?_
    rintro e w' ⟨rfl, rfl⟩
    go_wp2
    go_ret
    exact ⟨rfl, Below.refl _ _⟩
  have hb := big_no a0 a1 len0 len1 cap0 cap1 w (by omega) (by omega)
  have hd := DrawTreeOf_any a0 len0 cap0 w (by omega) by0
  have Hb := Lib.hid hb; clear hb
  have Hd := Lib.hid hd; clear hd
  clear by0 by1 hl0 hbig
  have acc : Below w.heap.size w w := Below.refl _ _
  go_enter Tryz.func5, Tryz.ntmps5
  go_wp2_with fail
  with_reducible refine (Hb.out).mono ?_
  rintro e w' ⟨rfl, rfl⟩
  clear Hb
  go_wp2_with fail
  with_reducible refine (Hd.out).mono ?_
  rintro e v1 ⟨p1, n1, c1, xs, rfl, ho1, hnear, hb1⟩
  replace acc := belowTrans acc hb1 (Nat.le_refl _)
  clear hb1
  clear Hd hnear
  have hi := fun W h => impl_TreeOf p1 n1 c1 xs W h
  have hs := fun W h => spec_TreeOf p1 n1 c1 xs W h
  have hz := fun W h => impl_TreeSize p1 n1 c1 xs W h
  have hd := fun W h => impl_DepthOf p1 n1 c1 xs W h
  have he := fun W h => spec_DepthOf p1 n1 c1 xs W h
  have hf := fun W h => impl_FarthestPast p1 n1 c1 xs W h
  have hg := fun W h => spec_FarthestPast p1 n1 c1 xs W h
  cases gx : goodB xs
  · simp only [mTree_no gx] at hi hs
    simp only [mTSize_no gx] at hz
    simp only [mDep_no gx] at hd he
    simp only [mFarP_no gx] at hf hg
    have Hi := Lib.hid hi; clear hi
    have Hs := Lib.hid hs; clear hs
    have Hd := Lib.hid hd; clear hd
    have He := Lib.hid he; clear he
    have Hf := Lib.hid hf; clear hf
    have Hg := Lib.hid hg; clear hg
    go_wp2_with fail
    with_reducible refine (Hi.out _ ho1.at).mono ?_
    rintro e v2 ⟨pi, ni, ci, rfl, hoi, hb2⟩
    replace ho1 := ho1.keep hb2
    replace acc := belowTrans acc hb2 (Nat.le_refl _)
    clear hb2
    go_wp2_with fail
    with_reducible refine (Hs.out _ ho1.at).mono ?_
    rintro e v3 ⟨ps, ns, cs, rfl, hos, hb3⟩
    replace ho1 := ho1.keep hb3
    replace hoi := hoi.keep hb3
    replace acc := belowTrans acc hb3 (Nat.le_refl _)
    clear hb3
    have hl := hoi.length
    have hni8 := hoi.at.lenInt
    try rw [hl] at hz
    try (have hl0 : ni = 0 := hl.symm; subst hl0)
    have Hz := Lib.hid hz; clear hz
    have Hl := Lib.hid hl; clear hl
    go_wp2_with fail
    with_reducible refine (Hz.out _ ho1.at).mono ?_
    rintro e v4 ⟨rfl, hb4⟩
    replace ho1 := ho1.keep hb4
    replace hoi := hoi.keep hb4
    replace hos := hos.keep hb4
    replace acc := belowTrans acc hb4 (Nat.le_refl _)
    clear hb4
    go_wp2_with fail
    with_reducible refine (Hd.out _ ho1.at).mono ?_
    rintro e v5 ⟨rfl, hb5⟩
    replace ho1 := ho1.keep hb5
    replace hoi := hoi.keep hb5
    replace hos := hos.keep hb5
    replace acc := belowTrans acc hb5 (Nat.le_refl _)
    clear hb5
    go_wp2_with fail
    with_reducible refine (He.out _ ho1.at).mono ?_
    rintro e v6 ⟨rfl, hb6⟩
    replace ho1 := ho1.keep hb6
    replace hoi := hoi.keep hb6
    replace hos := hos.keep hb6
    replace acc := belowTrans acc hb6 (Nat.le_refl _)
    clear hb6
    go_wp2_with fail
    with_reducible refine (Hf.out _ ho1.at).mono ?_
    rintro e v7 ⟨pf, nf, cf, rfl, hof, hb7⟩
    replace ho1 := ho1.keep hb7
    replace hoi := hoi.keep hb7
    replace hos := hos.keep hb7
    replace acc := belowTrans acc hb7 (Nat.le_refl _)
    clear hb7
    go_wp2_with fail
    with_reducible refine (Hg.out _ ho1.at).mono ?_
    rintro e v8 ⟨pg, ng, cg, rfl, hog, hb8⟩
    replace ho1 := ho1.keep hb8
    replace hoi := hoi.keep hb8
    replace hos := hos.keep hb8
    replace hof := hof.keep hb8
    replace acc := belowTrans acc hb8 (Nat.le_refl _)
    clear hb8
    clear Hi Hs Hz Hd He Hf Hg
    have hc := pSameLists_any _ _ _ _ _ _ _ _ _ hoi.at hos.at
    rw [decide_eq_true rfl] at hc
    have Hc := Lib.hid hc; clear hc
    go_wp2_with fail
    with_reducible refine (Hc.out).mono ?_
    rintro e v9 ⟨rfl, hb9⟩
    replace ho1 := ho1.keep hb9
    replace hoi := hoi.keep hb9
    replace hos := hos.keep hb9
    replace hof := hof.keep hb9
    replace hog := hog.keep hb9
    replace acc := belowTrans acc hb9 (Nat.le_refl _)
    clear hb9
    clear Hc
    clear hos
    have hc := pSame_any _ _ _ _ _ _ _ _ _ hof.at hog.at
    rw [decide_eq_true rfl] at hc
    have Hc := Lib.hid hc; clear hc
    go_wp2_with fail
    with_reducible refine (Hc.out).mono ?_
    rintro e v10 ⟨rfl, hb10⟩
    replace ho1 := ho1.keep hb10
    replace hoi := hoi.keep hb10
    replace hof := hof.keep hb10
    replace hog := hog.keep hb10
    replace acc := belowTrans acc hb10 (Nat.le_refl _)
    clear hb10
    clear Hc
    clear hog
    go_wp2
    go_ret
    exact ⟨rfl, acc⟩
  have gX := good_iff.1 gx
  simp only [mTree_yes gx] at hi hs
  simp only [mTSize_yes gx] at hz
  simp only [mDep_yes gx] at hd he
  simp only [mFarP_yes gx] at hf hg
  obtain ⟨d1, d2, _, _⟩ := depN_spec gX
  have hord := tree_ord gX
  obtain ⟨hm1, hm2⟩ := tree_has gX
  have hta := fun b hb => tree_at gX (b := b) hb
  have hall := dpT_all gX
  have htl8 := treeL_le gX
  have hdup := dpT_le (a := xs) (l := treeL xs) (d := (depN xs : Int) - 1) (by omega) (fun b hb => by
    obtain ⟨t, ht, _, e, _⟩ := tree_at gX hb
    rw [e]; show (t : Int) ≤ _; omega)
  have hsm := fun W h => pSum_any p1 n1 c1 xs W h gX
  have h0 := good_sum0 gX
  have h1 := gX.2.2
  obtain ⟨S, hS⟩ : ∃ S : Nat, xs.sum = S := ⟨xs.sum.toNat, by omega⟩
  have hS8 : S ≤ 28 := by omega
  rw [hS] at hsm
  have hcc := fun W => impl_CyclicPiles S W
  simp only [mCyc_yes S hS8] at hcc
  have hcp := fun W => impl_CountPiles S W
  have e2 : mCountPiles S = ((cnt S S : Int), true) := by unfold mCountPiles; rw [if_pos (by omega)]; rfl
  simp only [e2] at hcp
  have hadd := trees_add (allC_all S hS8)
  rw [allL_length hS8] at hadd
  have hcg : ∀ b ∈ allC S, goodB b = true := fun b hb => good_iff.2 (allC_good hS8 hb).1
  have hcl := levR_length (allC_all S hS8).toCyclics.roots 0
  have hcb := cnt_le S (by omega) S (by omega)
  have hcl2 : (allC S).length ≤ 3718 := hcl
  generalize cnt S S = N at hcp hadd hcb
  generalize allC S = C at hcc hadd hcg hcl2
  obtain ⟨d, hdd⟩ : ∃ d : Int, (depN xs : Int) - 1 = d := ⟨_, rfl⟩
  rw [hdd] at hall
  simp only [hdd] at hd he hdup
  have hd0 : 0 ≤ d := by omega
  have hd8 : d ≤ 3718 := by omega
  generalize farL xs = F at hf hg hm2 hta
  generalize treeL xs = T at hi hs hz hord hm1 hm2 hta hall htl8 hdup
  have hpx := fun W h => pCyclic_any p1 n1 c1 xs W h
  rw [gx, Bool.true_and] at hpx
  clear e2 h0 h1 hS hcl gX
  have Hi := Lib.hid hi; clear hi
  have Hs := Lib.hid hs; clear hs
  have Hd := Lib.hid hd; clear hd
  have He := Lib.hid he; clear he
  have Hf := Lib.hid hf; clear hf
  have Hg := Lib.hid hg; clear hg
  have Hord := Lib.hid hord; clear hord
  have Hm1 := Lib.hid hm1; clear hm1
  have Hm2 := Lib.hid hm2; clear hm2
  have Hta := Lib.hid hta; clear hta
  have Hall := Lib.hid hall; clear hall
  have Hdup := Lib.hid hdup; clear hdup
  have Hsm := Lib.hid hsm; clear hsm
  have Hcc := Lib.hid hcc; clear hcc
  have Hcp := Lib.hid hcp; clear hcp
  have Hadd := Lib.hid hadd; clear hadd
  have Hcg := Lib.hid hcg; clear hcg
  have Hdd := Lib.hid hdd; clear hdd
  have Hpx := Lib.hid hpx; clear hpx
  go_wp2_with fail
  with_reducible refine (Hi.out _ ho1.at).mono ?_
  rintro e v2 ⟨pi, ni, ci, rfl, hoi, hb2⟩
  replace ho1 := ho1.keep hb2
  replace acc := belowTrans acc hb2 (Nat.le_refl _)
  clear hb2
  go_wp2_with fail
  with_reducible refine (Hs.out _ ho1.at).mono ?_
  rintro e v3 ⟨ps, ns, cs, rfl, hos, hb3⟩
  replace ho1 := ho1.keep hb3
  replace hoi := hoi.keep hb3
  replace acc := belowTrans acc hb3 (Nat.le_refl _)
  clear hb3
  have hl := hoi.length
  have hni8 := hoi.at.lenInt
  try rw [hl] at hz
  try (have hl0 : ni = 0 := hl.symm; subst hl0)
  have Hz := Lib.hid hz; clear hz
  have Hl := Lib.hid hl; clear hl
  go_wp2_with fail
  with_reducible refine (Hz.out _ ho1.at).mono ?_
  rintro e v4 ⟨rfl, hb4⟩
  replace ho1 := ho1.keep hb4
  replace hoi := hoi.keep hb4
  replace hos := hos.keep hb4
  replace acc := belowTrans acc hb4 (Nat.le_refl _)
  clear hb4
  go_wp2_with fail
  with_reducible refine (Hd.out _ ho1.at).mono ?_
  rintro e v5 ⟨rfl, hb5⟩
  replace ho1 := ho1.keep hb5
  replace hoi := hoi.keep hb5
  replace hos := hos.keep hb5
  replace acc := belowTrans acc hb5 (Nat.le_refl _)
  clear hb5
  go_wp2_with fail
  with_reducible refine (He.out _ ho1.at).mono ?_
  rintro e v6 ⟨rfl, hb6⟩
  replace ho1 := ho1.keep hb6
  replace hoi := hoi.keep hb6
  replace hos := hos.keep hb6
  replace acc := belowTrans acc hb6 (Nat.le_refl _)
  clear hb6
  go_wp2_with fail
  with_reducible refine (Hf.out _ ho1.at).mono ?_
  rintro e v7 ⟨pf, nf, cf, rfl, hof, hb7⟩
  replace ho1 := ho1.keep hb7
  replace hoi := hoi.keep hb7
  replace hos := hos.keep hb7
  replace acc := belowTrans acc hb7 (Nat.le_refl _)
  clear hb7
  go_wp2_with fail
  with_reducible refine (Hg.out _ ho1.at).mono ?_
  rintro e v8 ⟨pg, ng, cg, rfl, hog, hb8⟩
  replace ho1 := ho1.keep hb8
  replace hoi := hoi.keep hb8
  replace hos := hos.keep hb8
  replace hof := hof.keep hb8
  replace acc := belowTrans acc hb8 (Nat.le_refl _)
  clear hb8
  clear Hi Hs Hz Hd He Hf Hg
  have hc := pSameLists_any _ _ _ _ _ _ _ _ _ hoi.at hos.at
  rw [decide_eq_true rfl] at hc
  have Hc := Lib.hid hc; clear hc
  go_wp2_with fail
  with_reducible refine (Hc.out).mono ?_
  rintro e v9 ⟨rfl, hb9⟩
  replace ho1 := ho1.keep hb9
  replace hoi := hoi.keep hb9
  replace hos := hos.keep hb9
  replace hof := hof.keep hb9
  replace hog := hog.keep hb9
  replace acc := belowTrans acc hb9 (Nat.le_refl _)
  clear hb9
  clear Hc
  clear hos
  have hc := pSame_any _ _ _ _ _ _ _ _ _ hof.at hog.at
  rw [decide_eq_true rfl] at hc
  have Hc := Lib.hid hc; clear hc
  go_wp2_with fail
  with_reducible refine (Hc.out).mono ?_
  rintro e v10 ⟨rfl, hb10⟩
  replace ho1 := ho1.keep hb10
  replace hoi := hoi.keep hb10
  replace hof := hof.keep hb10
  replace hog := hog.keep hb10
  replace acc := belowTrans acc hb10 (Nat.le_refl _)
  clear hb10
  clear Hc
  clear hog
  have hni9 : ni ≤ 3718 := by rw [← Hl.out]; exact htl8
  have hni7 : (ni : Int) ≤ 3718 := by omega
  have hoo := pOrdered_any _ _ _ _ _ hoi.at
  rw [Hord.out] at hoo
  clear htl8
  have Hoo := Lib.hid hoo; clear hoo
  go_wp2_with fail
  with_reducible refine (Hoo.out).mono ?_
  rintro e v11 ⟨rfl, hb11⟩
  replace ho1 := ho1.keep hb11
  replace hoi := hoi.keep hb11
  replace hof := hof.keep hb11
  replace acc := belowTrans acc hb11 (Nat.le_refl _)
  clear hb11
  have hh := pHasList_any _ _ _ _ _ _ _ _ _ hoi.at ho1.at
  rw [decide_eq_true Hm1.out] at hh
  have Hh := Lib.hid hh; clear hh
  go_wp2_with fail
  with_reducible refine (Hh.out).mono ?_
  rintro e v12 ⟨rfl, hb12⟩
  replace ho1 := ho1.keep hb12
  replace hoi := hoi.keep hb12
  replace hof := hof.keep hb12
  replace acc := belowTrans acc hb12 (Nat.le_refl _)
  clear hb12
  clear Hh
  have hh := pHasList_any _ _ _ _ _ _ _ _ _ hoi.at hof.at
  rw [decide_eq_true Hm2.out] at hh
  have Hh := Lib.hid hh; clear hh
  go_wp2_with fail
  with_reducible refine (Hh.out).mono ?_
  rintro e v13 ⟨rfl, hb13⟩
  replace ho1 := ho1.keep hb13
  replace hoi := hoi.keep hb13
  replace hof := hof.keep hb13
  replace acc := belowTrans acc hb13 (Nat.le_refl _)
  clear hb13
  clear Hh Hoo Hord Hm1 Hm2
  have hrows := hoi.at
  clear hoi
  obtain ⟨wo, hwo⟩ : ∃ wo : World, wo = v13 := ⟨_, rfl⟩
  subst hwo
  go_wp2_with fail
  go_loopw [20, 147] (fun s i wr => ∃ j : Nat, j ≤ ni ∧ i = .int .i64 j ∧ s = .int .i64 (dpT xs T j) ∧ Below w.heap.size w wr ∧ Below wo.heap.size wo wr) (fun _ i _ => ni - (intOf i).toNat)
  case atStart => exact ⟨0, Nat.zero_le _, rfl, rfl, acc, Below.refl _ _⟩
  case round =>
    obtain ⟨j, hj, rfl, rfl, hbw, hbo⟩ := hrel
    have hb1 := Hdup.out j (by rw [Hl.out]; exact hj)
    by_cases hlt : j < ni
    · skip
      replace ho1 := ho1.keep hbo
      replace hrows := hrows.keep hbo
      replace hof := hof.keep hbo
      obtain ⟨t, ht, gb, hp, hcy, hfb, htl⟩ := Hta.out (T.getD j []) (by rw [List.getD_eq_getElem?_getD, List.getElem?_eq_getElem (by rw [Hl.out]; exact hlt)]; exact List.getElem_mem _)
      have hdn : dpT xs T (j + 1) = if dpT xs T j < (t : Int) then (t : Int) else dpT xs T j := by
        show (if dpT xs T j < (mIsPastOf (T.getD j []) xs).1 then (mIsPastOf (T.getD j []) xs).1 else dpT xs T j) = _
        rw [hp]
      obtain ⟨b1, o1, e_, _, hc_⟩ := hrows.cell j hlt
      cases e_
      obtain ⟨a1_, m1, d1_, hcell, hat⟩ := hc_ j hlt
      clear hc_
      have hip := fun W h h' => impl_IsPastOf a1_ m1 d1_ (T.getD j []) p1 n1 c1 xs W h h'
      simp only [hp] at hip
      have hpb := fun W h => pCyclic_any a1_ m1 d1_ (T.getD j []) W h
      rw [gb, Bool.true_and] at hpb
      have hbf := fun W h h' => pBefore_any a1_ pf m1 nf d1_ cf (T.getD j []) F W h h'
      have hta2 := fun W h => impl_TailOf a1_ m1 d1_ (T.getD j []) W h
      simp only [mTail_yes gb] at hta2
      generalize T.getD j [] = X at *
      clear hp gb
      have htd : (t : Int) ≤ d := by have := Hdd.out; omega
      have ht8 : (t : Int) ≤ 3718 := by omega
      have heq : (t : Int) = d → befB X F = false := fun e => hfb (by have := Hdd.out; omega)
      generalize befB X F = bf at hbf heq
      generalize dpT xs T j = s at hb1 hdn
      clear hfb ht
      have hce := hcy
      clear hcy
      have Hip := Lib.hid hip; clear hip
      have Hpb := Lib.hid hpb; clear hpb
      have Hbf := Lib.hid hbf; clear hbf
      have Hta2 := Lib.hid hta2; clear hta2
      have Hdn := Lib.hid hdn; clear hdn
      have Hce := Lib.hid hce; clear hce
      have Heq := Lib.hid heq; clear heq
      have Htl := Lib.hid htl; clear htl
      go_wp2_with fail
      with_reducible refine (Hip.out _ hat ho1.at).mono ?_
      rintro e v14 ⟨rfl, hb14⟩
      replace ho1 := ho1.keep hb14
      replace hrows := hrows.keep hb14
      replace hof := hof.keep hb14
      replace hat := hat.keep hb14
      replace hbw := belowTrans hbw hb14 (Nat.le_refl _)
      replace hbo := belowTrans hbo hb14 (Nat.le_refl _)
      clear hb14
      cases hq : cycB X
      · rw [hq] at Hpb
        go_wp2_with fail
        with_reducible refine (Hpb.out _ hat).mono ?_
        rintro e v15 ⟨rfl, hb15⟩
        replace ho1 := ho1.keep hb15
        replace hrows := hrows.keep hb15
        replace hof := hof.keep hb15
        replace hat := hat.keep hb15
        replace hbw := belowTrans hbw hb15 (Nat.le_refl _)
        replace hbo := belowTrans hbo hb15 (Nat.le_refl _)
        clear hb15
        by_cases heq2 : (t : Int) = d
        · have hbf2 := Heq.out heq2
          subst hbf2
          have heqb : ((t : Int) == d) = true := by rw [beq_iff_eq]; exact heq2
          go_wp2_with fail
          with_reducible refine (Hbf.out _ hat hof.at).mono ?_
          rintro e v16 ⟨rfl, hb16⟩
          replace ho1 := ho1.keep hb16
          replace hrows := hrows.keep hb16
          replace hof := hof.keep hb16
          replace hat := hat.keep hb16
          replace hbw := belowTrans hbw hb16 (Nat.le_refl _)
          replace hbo := belowTrans hbo hb16 (Nat.le_refl _)
          clear hb16
          clear heqb
          by_cases hdeep : s < (t : Int)
          · have hdn2 : dpT xs T (j + 1) = (t : Int) := by rw [Hdn.out, if_pos hdeep]
            have Hdn2 := Lib.hid hdn2; clear hdn2
            cases hca : cycB xs
            · rw [hca] at Hpx
              have hpx := Hpx.out
              go_wp2_with fail
              with_reducible refine (Hpx.out _ ho1.at).mono ?_
              rintro e v17 ⟨rfl, hb17⟩
              replace ho1 := ho1.keep hb17
              replace hrows := hrows.keep hb17
              replace hof := hof.keep hb17
              replace hat := hat.keep hb17
              replace hbw := belowTrans hbw hb17 (Nat.le_refl _)
              replace hbo := belowTrans hbo hb17 (Nat.le_refl _)
              clear hb17
              go_wp2
              go_roundw
              case rel => exact ⟨j + 1, by omega, by go_num, by rw [Hdn2.out]; try (exact valI (by omega)), hbw, hbo⟩
              case measure => simp [intOf] <;> omega
            have htt := Htl.out hca
            rw [htt] at Hta2
            rw [hca] at Hpx
            go_wp2_with fail
            with_reducible refine (Hpx.out _ ho1.at).mono ?_
            rintro e v17 ⟨rfl, hb17⟩
            replace ho1 := ho1.keep hb17
            replace hrows := hrows.keep hb17
            replace hof := hof.keep hb17
            replace hat := hat.keep hb17
            replace hbw := belowTrans hbw hb17 (Nat.le_refl _)
            replace hbo := belowTrans hbo hb17 (Nat.le_refl _)
            clear hb17
            go_wp2_with fail
            with_reducible refine (Hta2.out _ hat).mono ?_
            rintro e v18 ⟨rfl, hb18⟩
            replace ho1 := ho1.keep hb18
            replace hrows := hrows.keep hb18
            replace hof := hof.keep hb18
            replace hat := hat.keep hb18
            replace hbw := belowTrans hbw hb18 (Nat.le_refl _)
            replace hbo := belowTrans hbo hb18 (Nat.le_refl _)
            clear hb18
            go_wp2
            go_roundw
            case rel => exact ⟨j + 1, by omega, by go_num, by rw [Hdn2.out]; try (exact valI (by omega)), hbw, hbo⟩
            case measure => simp [intOf] <;> omega
          have hdn2 : dpT xs T (j + 1) = s := by rw [Hdn.out, if_neg hdeep]
          have Hdn2 := Lib.hid hdn2; clear hdn2
          cases hca : cycB xs
          · rw [hca] at Hpx
            have hpx := Hpx.out
            go_wp2_with fail
            with_reducible refine (Hpx.out _ ho1.at).mono ?_
            rintro e v17 ⟨rfl, hb17⟩
            replace ho1 := ho1.keep hb17
            replace hrows := hrows.keep hb17
            replace hof := hof.keep hb17
            replace hat := hat.keep hb17
            replace hbw := belowTrans hbw hb17 (Nat.le_refl _)
            replace hbo := belowTrans hbo hb17 (Nat.le_refl _)
            clear hb17
            go_wp2
            go_roundw
            case rel => exact ⟨j + 1, by omega, by go_num, by rw [Hdn2.out]; try (exact valI (by omega)), hbw, hbo⟩
            case measure => simp [intOf] <;> omega
          have htt := Htl.out hca
          rw [htt] at Hta2
          rw [hca] at Hpx
          go_wp2_with fail
          with_reducible refine (Hpx.out _ ho1.at).mono ?_
          rintro e v17 ⟨rfl, hb17⟩
          replace ho1 := ho1.keep hb17
          replace hrows := hrows.keep hb17
          replace hof := hof.keep hb17
          replace hat := hat.keep hb17
          replace hbw := belowTrans hbw hb17 (Nat.le_refl _)
          replace hbo := belowTrans hbo hb17 (Nat.le_refl _)
          clear hb17
          go_wp2_with fail
          with_reducible refine (Hta2.out _ hat).mono ?_
          rintro e v18 ⟨rfl, hb18⟩
          replace ho1 := ho1.keep hb18
          replace hrows := hrows.keep hb18
          replace hof := hof.keep hb18
          replace hat := hat.keep hb18
          replace hbw := belowTrans hbw hb18 (Nat.le_refl _)
          replace hbo := belowTrans hbo hb18 (Nat.le_refl _)
          clear hb18
          go_wp2
          go_roundw
          case rel => exact ⟨j + 1, by omega, by go_num, by rw [Hdn2.out]; try (exact valI (by omega)), hbw, hbo⟩
          case measure => simp [intOf] <;> omega
        have heqb : ((t : Int) == d) = false := by rw [beq_eq_false_iff_ne]; exact heq2
        by_cases hdeep : s < (t : Int)
        · have hdn2 : dpT xs T (j + 1) = (t : Int) := by rw [Hdn.out, if_pos hdeep]
          have Hdn2 := Lib.hid hdn2; clear hdn2
          cases hca : cycB xs
          · rw [hca] at Hpx
            have hpx := Hpx.out
            go_wp2_with fail
            with_reducible refine (Hpx.out _ ho1.at).mono ?_
            rintro e v16 ⟨rfl, hb16⟩
            replace ho1 := ho1.keep hb16
            replace hrows := hrows.keep hb16
            replace hof := hof.keep hb16
            replace hat := hat.keep hb16
            replace hbw := belowTrans hbw hb16 (Nat.le_refl _)
            replace hbo := belowTrans hbo hb16 (Nat.le_refl _)
            clear hb16
            go_wp2
            go_roundw
            case rel => exact ⟨j + 1, by omega, by go_num, by rw [Hdn2.out]; try (exact valI (by omega)), hbw, hbo⟩
            case measure => simp [intOf] <;> omega
          have htt := Htl.out hca
          rw [htt] at Hta2
          rw [hca] at Hpx
          go_wp2_with fail
          with_reducible refine (Hpx.out _ ho1.at).mono ?_
          rintro e v16 ⟨rfl, hb16⟩
          replace ho1 := ho1.keep hb16
          replace hrows := hrows.keep hb16
          replace hof := hof.keep hb16
          replace hat := hat.keep hb16
          replace hbw := belowTrans hbw hb16 (Nat.le_refl _)
          replace hbo := belowTrans hbo hb16 (Nat.le_refl _)
          clear hb16
          go_wp2_with fail
          with_reducible refine (Hta2.out _ hat).mono ?_
          rintro e v17 ⟨rfl, hb17⟩
          replace ho1 := ho1.keep hb17
          replace hrows := hrows.keep hb17
          replace hof := hof.keep hb17
          replace hat := hat.keep hb17
          replace hbw := belowTrans hbw hb17 (Nat.le_refl _)
          replace hbo := belowTrans hbo hb17 (Nat.le_refl _)
          clear hb17
          go_wp2
          go_roundw
          case rel => exact ⟨j + 1, by omega, by go_num, by rw [Hdn2.out]; try (exact valI (by omega)), hbw, hbo⟩
          case measure => simp [intOf] <;> omega
        have hdn2 : dpT xs T (j + 1) = s := by rw [Hdn.out, if_neg hdeep]
        have Hdn2 := Lib.hid hdn2; clear hdn2
        cases hca : cycB xs
        · rw [hca] at Hpx
          have hpx := Hpx.out
          go_wp2_with fail
          with_reducible refine (Hpx.out _ ho1.at).mono ?_
          rintro e v16 ⟨rfl, hb16⟩
          replace ho1 := ho1.keep hb16
          replace hrows := hrows.keep hb16
          replace hof := hof.keep hb16
          replace hat := hat.keep hb16
          replace hbw := belowTrans hbw hb16 (Nat.le_refl _)
          replace hbo := belowTrans hbo hb16 (Nat.le_refl _)
          clear hb16
          go_wp2
          go_roundw
          case rel => exact ⟨j + 1, by omega, by go_num, by rw [Hdn2.out]; try (exact valI (by omega)), hbw, hbo⟩
          case measure => simp [intOf] <;> omega
        have htt := Htl.out hca
        rw [htt] at Hta2
        rw [hca] at Hpx
        go_wp2_with fail
        with_reducible refine (Hpx.out _ ho1.at).mono ?_
        rintro e v16 ⟨rfl, hb16⟩
        replace ho1 := ho1.keep hb16
        replace hrows := hrows.keep hb16
        replace hof := hof.keep hb16
        replace hat := hat.keep hb16
        replace hbw := belowTrans hbw hb16 (Nat.le_refl _)
        replace hbo := belowTrans hbo hb16 (Nat.le_refl _)
        clear hb16
        go_wp2_with fail
        with_reducible refine (Hta2.out _ hat).mono ?_
        rintro e v17 ⟨rfl, hb17⟩
        replace ho1 := ho1.keep hb17
        replace hrows := hrows.keep hb17
        replace hof := hof.keep hb17
        replace hat := hat.keep hb17
        replace hbw := belowTrans hbw hb17 (Nat.le_refl _)
        replace hbo := belowTrans hbo hb17 (Nat.le_refl _)
        clear hb17
        go_wp2
        go_roundw
        case rel => exact ⟨j + 1, by omega, by go_num, by rw [Hdn2.out]; try (exact valI (by omega)), hbw, hbo⟩
        case measure => simp [intOf] <;> omega
      rw [hq] at Hpb
      have hxe := Hce.out hq
      go_wp2_with fail
      with_reducible refine (Hpb.out _ hat).mono ?_
      rintro e v15 ⟨rfl, hb15⟩
      replace ho1 := ho1.keep hb15
      replace hrows := hrows.keep hb15
      replace hof := hof.keep hb15
      replace hat := hat.keep hb15
      replace hbw := belowTrans hbw hb15 (Nat.le_refl _)
      replace hbo := belowTrans hbo hb15 (Nat.le_refl _)
      clear hb15
      have hc := pSame_any _ _ _ _ _ _ _ _ _ ho1.at hat
      rw [decide_eq_true hxe.symm] at hc
      have Hc := Lib.hid hc; clear hc
      go_wp2_with fail
      with_reducible refine (Hc.out).mono ?_
      rintro e v16 ⟨rfl, hb16⟩
      replace ho1 := ho1.keep hb16
      replace hrows := hrows.keep hb16
      replace hof := hof.keep hb16
      replace hat := hat.keep hb16
      replace hbw := belowTrans hbw hb16 (Nat.le_refl _)
      replace hbo := belowTrans hbo hb16 (Nat.le_refl _)
      clear hb16
      clear Hc
      by_cases heq2 : (t : Int) = d
      · have hbf2 := Heq.out heq2
        subst hbf2
        have heqb : ((t : Int) == d) = true := by rw [beq_iff_eq]; exact heq2
        go_wp2_with fail
        with_reducible refine (Hbf.out _ hat hof.at).mono ?_
        rintro e v17 ⟨rfl, hb17⟩
        replace ho1 := ho1.keep hb17
        replace hrows := hrows.keep hb17
        replace hof := hof.keep hb17
        replace hat := hat.keep hb17
        replace hbw := belowTrans hbw hb17 (Nat.le_refl _)
        replace hbo := belowTrans hbo hb17 (Nat.le_refl _)
        clear hb17
        clear heqb
        by_cases hdeep : s < (t : Int)
        · have hdn2 : dpT xs T (j + 1) = (t : Int) := by rw [Hdn.out, if_pos hdeep]
          have Hdn2 := Lib.hid hdn2; clear hdn2
          cases hca : cycB xs
          · rw [hca] at Hpx
            have hpx := Hpx.out
            go_wp2_with fail
            with_reducible refine (Hpx.out _ ho1.at).mono ?_
            rintro e v18 ⟨rfl, hb18⟩
            replace ho1 := ho1.keep hb18
            replace hrows := hrows.keep hb18
            replace hof := hof.keep hb18
            replace hat := hat.keep hb18
            replace hbw := belowTrans hbw hb18 (Nat.le_refl _)
            replace hbo := belowTrans hbo hb18 (Nat.le_refl _)
            clear hb18
            go_wp2
            go_roundw
            case rel => exact ⟨j + 1, by omega, by go_num, by rw [Hdn2.out]; try (exact valI (by omega)), hbw, hbo⟩
            case measure => simp [intOf] <;> omega
          have htt := Htl.out hca
          rw [htt] at Hta2
          rw [hca] at Hpx
          go_wp2_with fail
          with_reducible refine (Hpx.out _ ho1.at).mono ?_
          rintro e v18 ⟨rfl, hb18⟩
          replace ho1 := ho1.keep hb18
          replace hrows := hrows.keep hb18
          replace hof := hof.keep hb18
          replace hat := hat.keep hb18
          replace hbw := belowTrans hbw hb18 (Nat.le_refl _)
          replace hbo := belowTrans hbo hb18 (Nat.le_refl _)
          clear hb18
          go_wp2_with fail
          with_reducible refine (Hta2.out _ hat).mono ?_
          rintro e v19 ⟨rfl, hb19⟩
          replace ho1 := ho1.keep hb19
          replace hrows := hrows.keep hb19
          replace hof := hof.keep hb19
          replace hat := hat.keep hb19
          replace hbw := belowTrans hbw hb19 (Nat.le_refl _)
          replace hbo := belowTrans hbo hb19 (Nat.le_refl _)
          clear hb19
          go_wp2
          go_roundw
          case rel => exact ⟨j + 1, by omega, by go_num, by rw [Hdn2.out]; try (exact valI (by omega)), hbw, hbo⟩
          case measure => simp [intOf] <;> omega
        have hdn2 : dpT xs T (j + 1) = s := by rw [Hdn.out, if_neg hdeep]
        have Hdn2 := Lib.hid hdn2; clear hdn2
        cases hca : cycB xs
        · rw [hca] at Hpx
          have hpx := Hpx.out
          go_wp2_with fail
          with_reducible refine (Hpx.out _ ho1.at).mono ?_
          rintro e v18 ⟨rfl, hb18⟩
          replace ho1 := ho1.keep hb18
          replace hrows := hrows.keep hb18
          replace hof := hof.keep hb18
          replace hat := hat.keep hb18
          replace hbw := belowTrans hbw hb18 (Nat.le_refl _)
          replace hbo := belowTrans hbo hb18 (Nat.le_refl _)
          clear hb18
          go_wp2
          go_roundw
          case rel => exact ⟨j + 1, by omega, by go_num, by rw [Hdn2.out]; try (exact valI (by omega)), hbw, hbo⟩
          case measure => simp [intOf] <;> omega
        have htt := Htl.out hca
        rw [htt] at Hta2
        rw [hca] at Hpx
        go_wp2_with fail
        with_reducible refine (Hpx.out _ ho1.at).mono ?_
        rintro e v18 ⟨rfl, hb18⟩
        replace ho1 := ho1.keep hb18
        replace hrows := hrows.keep hb18
        replace hof := hof.keep hb18
        replace hat := hat.keep hb18
        replace hbw := belowTrans hbw hb18 (Nat.le_refl _)
        replace hbo := belowTrans hbo hb18 (Nat.le_refl _)
        clear hb18
        go_wp2_with fail
        with_reducible refine (Hta2.out _ hat).mono ?_
        rintro e v19 ⟨rfl, hb19⟩
        replace ho1 := ho1.keep hb19
        replace hrows := hrows.keep hb19
        replace hof := hof.keep hb19
        replace hat := hat.keep hb19
        replace hbw := belowTrans hbw hb19 (Nat.le_refl _)
        replace hbo := belowTrans hbo hb19 (Nat.le_refl _)
        clear hb19
        go_wp2
        go_roundw
        case rel => exact ⟨j + 1, by omega, by go_num, by rw [Hdn2.out]; try (exact valI (by omega)), hbw, hbo⟩
        case measure => simp [intOf] <;> omega
      have heqb : ((t : Int) == d) = false := by rw [beq_eq_false_iff_ne]; exact heq2
      by_cases hdeep : s < (t : Int)
      · have hdn2 : dpT xs T (j + 1) = (t : Int) := by rw [Hdn.out, if_pos hdeep]
        have Hdn2 := Lib.hid hdn2; clear hdn2
        cases hca : cycB xs
        · rw [hca] at Hpx
          have hpx := Hpx.out
          go_wp2_with fail
          with_reducible refine (Hpx.out _ ho1.at).mono ?_
          rintro e v17 ⟨rfl, hb17⟩
          replace ho1 := ho1.keep hb17
          replace hrows := hrows.keep hb17
          replace hof := hof.keep hb17
          replace hat := hat.keep hb17
          replace hbw := belowTrans hbw hb17 (Nat.le_refl _)
          replace hbo := belowTrans hbo hb17 (Nat.le_refl _)
          clear hb17
          go_wp2
          go_roundw
          case rel => exact ⟨j + 1, by omega, by go_num, by rw [Hdn2.out]; try (exact valI (by omega)), hbw, hbo⟩
          case measure => simp [intOf] <;> omega
        have htt := Htl.out hca
        rw [htt] at Hta2
        rw [hca] at Hpx
        go_wp2_with fail
        with_reducible refine (Hpx.out _ ho1.at).mono ?_
        rintro e v17 ⟨rfl, hb17⟩
        replace ho1 := ho1.keep hb17
        replace hrows := hrows.keep hb17
        replace hof := hof.keep hb17
        replace hat := hat.keep hb17
        replace hbw := belowTrans hbw hb17 (Nat.le_refl _)
        replace hbo := belowTrans hbo hb17 (Nat.le_refl _)
        clear hb17
        go_wp2_with fail
        with_reducible refine (Hta2.out _ hat).mono ?_
        rintro e v18 ⟨rfl, hb18⟩
        replace ho1 := ho1.keep hb18
        replace hrows := hrows.keep hb18
        replace hof := hof.keep hb18
        replace hat := hat.keep hb18
        replace hbw := belowTrans hbw hb18 (Nat.le_refl _)
        replace hbo := belowTrans hbo hb18 (Nat.le_refl _)
        clear hb18
        go_wp2
        go_roundw
        case rel => exact ⟨j + 1, by omega, by go_num, by rw [Hdn2.out]; try (exact valI (by omega)), hbw, hbo⟩
        case measure => simp [intOf] <;> omega
      have hdn2 : dpT xs T (j + 1) = s := by rw [Hdn.out, if_neg hdeep]
      have Hdn2 := Lib.hid hdn2; clear hdn2
      cases hca : cycB xs
      · rw [hca] at Hpx
        have hpx := Hpx.out
        go_wp2_with fail
        with_reducible refine (Hpx.out _ ho1.at).mono ?_
        rintro e v17 ⟨rfl, hb17⟩
        replace ho1 := ho1.keep hb17
        replace hrows := hrows.keep hb17
        replace hof := hof.keep hb17
        replace hat := hat.keep hb17
        replace hbw := belowTrans hbw hb17 (Nat.le_refl _)
        replace hbo := belowTrans hbo hb17 (Nat.le_refl _)
        clear hb17
        go_wp2
        go_roundw
        case rel => exact ⟨j + 1, by omega, by go_num, by rw [Hdn2.out]; try (exact valI (by omega)), hbw, hbo⟩
        case measure => simp [intOf] <;> omega
      have htt := Htl.out hca
      rw [htt] at Hta2
      rw [hca] at Hpx
      go_wp2_with fail
      with_reducible refine (Hpx.out _ ho1.at).mono ?_
      rintro e v17 ⟨rfl, hb17⟩
      replace ho1 := ho1.keep hb17
      replace hrows := hrows.keep hb17
      replace hof := hof.keep hb17
      replace hat := hat.keep hb17
      replace hbw := belowTrans hbw hb17 (Nat.le_refl _)
      replace hbo := belowTrans hbo hb17 (Nat.le_refl _)
      clear hb17
      go_wp2_with fail
      with_reducible refine (Hta2.out _ hat).mono ?_
      rintro e v18 ⟨rfl, hb18⟩
      replace ho1 := ho1.keep hb18
      replace hrows := hrows.keep hb18
      replace hof := hof.keep hb18
      replace hat := hat.keep hb18
      replace hbw := belowTrans hbw hb18 (Nat.le_refl _)
      replace hbo := belowTrans hbo hb18 (Nat.le_refl _)
      clear hb18
      go_wp2
      go_roundw
      case rel => exact ⟨j + 1, by omega, by go_num, by rw [Hdn2.out]; try (exact valI (by omega)), hbw, hbo⟩
      case measure => simp [intOf] <;> omega
    · skip
      replace ho1 := ho1.keep hbo
      replace hrows := hrows.keep hbo
      replace hof := hof.keep hbo
      obtain rfl : ni = j := by omega
      have hfin := Hall.out
      rw [Hl.out] at hfin
      rw [hfin]
      clear hb1 hfin hbo acc
      have acc := hbw
      clear hbw
      go_wp2_with fail
      with_reducible refine (Hsm.out _ ho1.at).mono ?_
      rintro e w' ⟨rfl, rfl⟩
      by_cases h10 : 10 < S
      · have h10i : (10 : Int) < S := by omega
        go_wp2
        go_ret
        exact ⟨rfl, acc⟩
      have h10i : ¬ ((10 : Int) < S) := by omega
      go_wp2_with fail
      with_reducible refine (Hcc.out _).mono ?_
      rintro e v14 ⟨pc, nc_, cc, rfl, hoc, hb14⟩
      replace ho1 := ho1.keep hb14
      replace hrows := hrows.keep hb14
      replace hof := hof.keep hb14
      replace acc := belowTrans acc hb14 (Nat.le_refl _)
      clear hb14
      go_wp2_with fail
      with_reducible refine (Hcp.out _).mono ?_
      rintro e v15 ⟨rfl, hb15⟩
      replace ho1 := ho1.keep hb15
      replace hrows := hrows.keep hb15
      replace hof := hof.keep hb15
      replace hoc := hoc.keep hb15
      replace acc := belowTrans acc hb15 (Nat.le_refl _)
      clear hb15
      have hlc := hoc.length
      have hnc8 : nc_ ≤ 3718 := by omega
      have hnc9 : (nc_ : Int) ≤ 3718 := by omega
      have hcr := hoc.at
      clear hoc hcl2
      have Hlc := Lib.hid hlc; clear hlc
      obtain ⟨wq, hwq⟩ : ∃ wq : World, wq = v15 := ⟨_, rfl⟩
      subst hwq
      go_wp2_with fail
      go_loopw [32, 222] (fun s i wr => ∃ j : Nat, j ≤ nc_ ∧ i = .int .i64 j ∧ s = .int .i64 (treS C j) ∧ Below w.heap.size w wr ∧ Below wq.heap.size wq wr) (fun _ i _ => nc_ - (intOf i).toNat)
      case atStart => exact ⟨0, Nat.zero_le _, rfl, rfl, acc, Below.refl _ _⟩
      case round =>
        obtain ⟨j, hj, rfl, rfl, hbw, hbo⟩ := hrel
        have hs0 := treS_le C j
        rw [Hadd.out] at hs0
        by_cases hlt : j < nc_
        · skip
          replace hcr := hcr.keep hbo
          have hs2 := treS_le C (j + 1)
          have hs3 := treS_succ (l := C) (k := j) (by rw [Hlc.out]; exact hlt)
          rw [Hadd.out, hs3] at hs2
          obtain ⟨b9, o9, e_, _, hc_⟩ := hcr.cell j hlt
          cases e_
          obtain ⟨a9, m9, d9, hcell, hat⟩ := hc_ j hlt
          clear hc_
          have hgb := Hcg.out (C.getD j []) (by rw [List.getD_eq_getElem?_getD, List.getElem?_eq_getElem (by rw [Hlc.out]; exact hlt)]; exact List.getElem_mem _)
          have hbs := impl_TreeSize a9 m9 d9 (C.getD j []) wr hat
          simp only [mTSize_yes hgb] at hbs
          generalize C.getD j [] = X at hat hbs hs2 hs3
          generalize (treeL X).length = b at hbs hs2 hs3
          generalize treS C j = s at hs0 hs2 hs3
          clear hgb
          have Hbs := Lib.hid hbs; clear hbs
          have Hs3 := Lib.hid hs3; clear hs3
          go_wp2_with fail
          with_reducible refine (Hbs.out).mono ?_
          rintro e v16 ⟨rfl, hb16⟩
          replace hcr := hcr.keep hb16
          replace hbw := belowTrans hbw hb16 (Nat.le_refl _)
          replace hbo := belowTrans hbo hb16 (Nat.le_refl _)
          clear hb16
          go_wp2
          go_roundw
          case rel => exact ⟨j + 1, by omega, by go_num, by rw [Hs3.out], hbw, hbo⟩
          case measure => simp [intOf] <;> omega
        · skip
          obtain rfl : nc_ = j := by omega
          have hfin : treS C nc_ = (N : Int) := by
            rw [← Hadd.out]; unfold treS; rw [List.take_of_length_le (by rw [Hlc.out]; exact Nat.le_refl _)]
          rw [hfin] at hs0 ⊢
          clear hfin
          go_wp2
          go_ret
          exact ⟨rfl, hbw⟩

/-! ### THE ROW's STEP: WRITTEN OUT: LEAVE IT -/
set_option maxRecDepth 100000 in
theorem lifted (os : Os) (started : os.Started) (H : Type) (enc : TypeId × Value → H) :
    ReturnsInHanded {} Tryz.checked os 5 .any (Rows.fnTreesOfPastsSpec.pre6 enc Tryz.prog Tryz.f5 Rows.fnTreesOfPastsRow.domain false) (Rows.fnTreesOfPastsSpec.post enc Tryz.prog Tryz.f5 false true false false) := by
  refine returnsInHanded_of_change (C := Tryz.checked) own started (by kernel_rfl) Tryz.func5
    (ChangeSpec.witness6 (enc := enc) (C := Tryz.checked) false ⟨#[], #[.slice none 0 0, .slice none 0 0], []⟩ 8 (by kernel_rfl) (by kernel_rfl) (by kernel_rfl) (by kernel_rfl)) ?_
  intro W base args ds gs before hval0 hW hcnd _
  have hval : ∀ (j : Nat) t v, Tryz.f5.params[j]? = some t → args[j]? = some v → Value.okWide Tryz.prog W .any base t v := hval0
  have hW' := hW
  obtain ⟨p, q, hA0, hV, rfl, hfz, hnd⟩ := hW
  have hA : DataW.TrodAll enc Tryz.prog W 0 (fun _ => true) true Tryz.f5.params.toList args.toList ds p := hA0
  rw [Tryz.params5] at hA hval
  obtain ⟨v0, vs0, d0, ds0, p0, q0, hargs, rfl, rfl, h0, r0⟩ := trodAll_cons hA
  obtain ⟨v1, vs1, d1, ds1, p1, q1, rfl, rfl, rfl, h1, r1⟩ := trodAll_cons r0
  obtain ⟨rfl, rfl, rfl⟩ := trodAll_nil r1
  obtain rfl : args = #[v0, v1] := by cases args; simp_all
  obtain ⟨rfl, rfl⟩ := trodVars_none hV
  obtain ⟨a0, len0, cap0, rfl⟩ := okWide_slice Tryz.underlying22 (hval 0 22 v0 rfl rfl)
  have k0 := h0
  have lt0 : ∀ x ∈ p0, x.block < W.heap.size := by obtain ⟨m, hm⟩ := k0; exact DataW.trod_lt m _ _ _ hm
  obtain ⟨z0, w0⟩ : ∃ zs, IsRow .u8 W a0 len0 cap0 zs := by
    obtain ⟨fuel, hf⟩ := h0
    rcases open_ints Tryz.underlying22 Tryz.underlying5 (by kernel_rfl) hf with ⟨hcs, _⟩ | ⟨x, l, c, zs, hcs, _, hl, hm, hz, _, hcell, hwz⟩
    · simp [Value.cells] at hcs
      obtain ⟨rfl, rfl, rfl⟩ := hcs
      exact ⟨[], .inl ⟨rfl, rfl, rfl, rfl⟩⟩
    · simp [Value.cells] at hcs
      obtain ⟨rfl, rfl, rfl⟩ := hcs
      exact ⟨zs, .inr ⟨_, rfl, hl, hm, by simpa using hz, hcell, hwz⟩⟩
  obtain ⟨a1, len1, cap1, rfl⟩ := okWide_slice Tryz.underlying22 (hval 1 22 v1 rfl rfl)
  have k1 := h1
  have lt1 : ∀ x ∈ p1, x.block < W.heap.size := by obtain ⟨m, hm⟩ := k1; exact DataW.trod_lt m _ _ _ hm
  obtain ⟨z1, w1⟩ : ∃ zs, IsRow .u8 W a1 len1 cap1 zs := by
    obtain ⟨fuel, hf⟩ := h1
    rcases open_ints Tryz.underlying22 Tryz.underlying5 (by kernel_rfl) hf with ⟨hcs, _⟩ | ⟨x, l, c, zs, hcs, _, hl, hm, hz, _, hcell, hwz⟩
    · simp [Value.cells] at hcs
      obtain ⟨rfl, rfl, rfl⟩ := hcs
      exact ⟨[], .inl ⟨rfl, rfl, rfl, rfl⟩⟩
    · simp [Value.cells] at hcs
      obtain ⟨rfl, rfl, rfl⟩ := hcs
      exact ⟨zs, .inr ⟨_, rfl, hl, hm, by simpa using hz, hcell, hwz⟩⟩
  clear hA0 hval0
  refine (walk a0 len0 cap0 z0 a1 len1 cap1 z1 W w0 w1).mono fun e W' ⟨he, bel⟩ => ?_
  subst he
  exact ⟨_, rfl, _, _, _, [], _, [], hW', trodAll_mk1 (shut_bool Tryz.underlying4 _), (trodAll_cons_mk (Below.trod laidOut (by kernel_rfl) (of_decide_eq_true (by kernel_rfl)) k0 bel lt0) (trodAll_cons_mk (Below.trod laidOut (by kernel_rfl) (of_decide_eq_true (by kernel_rfl)) k1 bel lt1) trodAll_mk0)), rfl, bel.frame _, fun h => by cases h⟩

theorem closedFacts : joinedFacts Tryz.prog 5 Tryz.f5 Rows.fnTreesOfPastsSpec Rows.fnTreesOfPastsRow = true := by
  unfold joinedFacts
  rw [head_enter, head_lifts, head_make]
  kernel_rfl
theorem closedHere : joinedFacts Tryz.pinned.checked.prog 5 Tryz.f5 Rows.fnTreesOfPastsSpec Rows.fnTreesOfPastsRow = true := by
  rw [progEq]
  exact closedFacts
theorem over : Rows.fnTreesOfPastsRow.holds Tryz.pinned (OpenSpec.ofChange Rows.fnTreesOfPastsSpec) :=
  OpenClaim.holds_of_wide 5 Tryz.f5 rfl rfl rfl rfl rfl rfl rfl ⟨rfl, rfl, rfl, rfl, rfl⟩ rfl rfl rfl rfl rfl (by kernel_rfl) Tryz.func5 closedHere
    (of_decide_eq_true (by kernel_rfl)) (by unfold Func.isWrapper; first | (rw [if_pos (by decide +kernel)]; kernel_rfl) | (rw [if_neg (by decide +kernel)]; exact ⟨rfl, rfl⟩))
    (fun os started H enc _ => lifted os started H enc)

/-- ████ THE STATEMENT ████ -/
theorem proved : Rows.FnTreesOfPastsSaid := over
#print axioms proved
end Go.Proofs.YthppkfhhidlpiaaGreat.fnTreesOfPasts
