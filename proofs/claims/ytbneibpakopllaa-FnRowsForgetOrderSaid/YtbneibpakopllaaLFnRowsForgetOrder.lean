/- FnRowsForgetOrder: for every input the law returns true and leaves its arguments as they were. No condition. -/
import Derived.Test.YtbneibpakopllaaRows
import Derived.WalkKit
import Derived.ProofKit
import Derived.OpenShut
import Derived.ShutString
import Derived.ChangeOld
import Derived.Below
import Derived.Test.YtbneibpakopllaaHead
import Derived.Test.YtbneibpakopllaaLawp
import Derived.Test.YtbneibpakopllaaRwL
import Derived.Test.YtbneibpakopllaaRwM
import Derived.Test.YtbneibpakopllaaRwD
import Derived.Test.YtbneibpakopllaaRowO
import Derived.Test.YtbneibpakopllaaRowA
import Derived.Test.YtbneibpakopllaaSteps
import Derived.Test.YtbneibpakopllaaPileF
namespace Go.Proofs.Ytbneibpakopllaa.fnRowsForgetOrder
set_option linter.unusedSimpArgs false
open Go.ChangeShapes Go.WideShapes Go.ChangeAt Go.RowKit
open Go.ChangeMaps (open_string shut_string)
set_option linter.unusedVariables false

theorem own : ownKnob Try.prog.godebug = none := by kernel_rfl
theorem laidOut : laidOutB Try.prog = true := by kernel_rfl

/-- WHAT THE WALK IS TOLD OF A SLICE OF INTEGERS THAT CAME IN: it is nil; or it leads to a row of 'cap' cells, the numbers 'zs' (the first 'len' are its elements, the rest its spare room), each fitting its kind. -/
def IsRow (k : IntKind) (w : World) (a : Option Addr) (len cap : Nat) (zs : List Int) : Prop :=
  (a = none ∧ len = 0 ∧ cap = 0 ∧ zs = []) ∨
  ∃ x, a = some x ∧ len ≤ cap ∧ cap ≤ maxLen ∧ zs.length = cap ∧ (∀ i, i < zs.length → w.cell? (x.add i) = some (.int k (zs.getD i 0))) ∧ ∀ n ∈ zs, (Lit.int k n).wf = true

/-! ### THE WALK: the Go text returns true, AND WRITES NOTHING THAT WAS THERE: 'Below w.heap.size w w'' (Derived/Below.lean: '.refl', '.alloc', '.drew', '.setCell' at a new block, '.trans'). Open each 'IsRow' by 'rcases' AHEAD of 'go_enter'; part every test ahead of the walk. -/
set_option maxHeartbeats 4000000 in
set_option maxRecDepth 100000 in
theorem walk (a0 : Option Addr) (len0 cap0 : Nat) (z0 : List Int) (a1 : Option Addr) (len1 cap1 : Nat) (z1 : List Int) (w : World) (w0 : IsRow .u8 w a0 len0 cap0 z0) (w1 : IsRow .u8 w a1 len1 cap1 z1) :
    Calls Try.prog 8 #[.slice a0 len0 cap0, .slice a1 len1 cap1] w fun e w' => e = .returned (.bool true) ∧ Below w.heap.size w w' := by
  have by0 := byteIn_row w0
  have by1 := byteIn_row w1
  have hl0 : len0 ≤ maxLen := by
    rcases w0 with ⟨_, h, _⟩ | ⟨x, _, h, h', _⟩
    · rw [h]; exact Nat.zero_le _
    · exact Nat.le_trans h h'
  clear w0 w1
  by_cases hbig : 1048576 < len0 ∨ (1048576 : Int) - len0 < len1
  · have hb := big_yes a0 a1 len0 len1 cap0 cap1 w hbig hl0
    have Hb := Lib.hid hb; clear hb
    go_enter Try.func8, Try.ntmps8
    go_wp2_with fail
    with_reducible refine (Hb.out).mono ?_
    rintro e w' ⟨rfl, rfl⟩
    go_wp2
    go_ret
    exact ⟨rfl, Below.refl _ _⟩
  have hb := big_no a0 a1 len0 len1 cap0 cap1 w (by omega) (by omega)
  have hd := DrawStepRow_any a0 len0 cap0 w (by omega) by0
  have hf := fun W (h : Below w.heap.size w W) => DrawRowSteps_any a1 len1 cap1 W (by omega) (by1.up (Nat.le_refl _) h h.size)
  have Hb := Lib.hid hb; clear hb
  have Hd := Lib.hid hd; clear hd
  have Hf := Lib.hid hf; clear hf
  clear by0 by1 hl0 hbig
  have acc : Below w.heap.size w w := Below.refl _ _
  go_enter Try.func8, Try.ntmps8
  go_wp2_with fail
  with_reducible refine (Hb.out).mono ?_
  rintro e w' ⟨rfl, rfl⟩
  clear Hb
  go_wp2_with fail
  with_reducible refine (Hd.out).mono ?_
  rintro e v1 ⟨p1, n1, c1, xs, rfl, ho1, hn1, hb1⟩
  replace acc := belowTrans acc hb1 (Nat.le_refl _)
  clear hb1
  clear Hd
  have hi := fun W h => impl_StepRow p1 n1 c1 xs W h
  have hs := fun W h => spec_StepRow p1 n1 c1 xs W h
  have hr := fun W h => impl_IsRow p1 n1 c1 xs W h
  simp only [mIsRow] at hr
  cases hb : rowB xs
  · skip
    simp only [mStepRow_no hb] at hi hs
    rw [hb] at hr
    clear hb
    have Hi := Lib.hid hi; clear hi
    have Hs := Lib.hid hs; clear hs
    have Hr := Lib.hid hr; clear hr
    go_wp2_with fail
    with_reducible refine (Hi.out _ ho1.at).mono ?_
    rintro e v2 ⟨pi, ni, ci, rfl, hoi, hb2⟩
    replace ho1 := ho1.keep hb2
    replace acc := belowTrans acc hb2 (Nat.le_refl _)
    clear hb2
    go_wp2_with fail
    with_reducible refine (Hs.out _ ho1.at).mono ?_
    rintro e v3 ⟨ps, ns, cs, rfl, hos, hb3⟩
    replace ho1 := ho1.keep hb3
    replace hoi := hoi.keep hb3
    replace acc := belowTrans acc hb3 (Nat.le_refl _)
    clear hb3
    have hc := xSame_any _ _ _ _ _ _ _ _ _ hoi.at hos.at
    rw [decide_eq_true rfl] at hc
    have Hc := Lib.hid hc; clear hc
    go_wp2_with fail
    with_reducible refine (Hc.out).mono ?_
    rintro e v4 ⟨rfl, hb4⟩
    replace ho1 := ho1.keep hb4
    replace hoi := hoi.keep hb4
    replace hos := hos.keep hb4
    replace acc := belowTrans acc hb4 (Nat.le_refl _)
    clear hb4
    clear Hc
    clear hos
    go_wp2_with fail
    with_reducible refine (Hr.out _ ho1.at).mono ?_
    rintro e v5 ⟨rfl, hb5⟩
    replace ho1 := ho1.keep hb5
    replace hoi := hoi.keep hb5
    replace acc := belowTrans acc hb5 (Nat.le_refl _)
    clear hb5
    clear Hi Hs Hr
    clear ho1
    clear hoi
    go_wp2_with fail
    with_reducible refine (Hf.out _ acc).mono ?_
    rintro e v6 ⟨p2, n2, c2, ys, k, rfl, ho2, hn2, hk0, hk1, hb6⟩
    replace acc := belowTrans acc hb6 (Nat.le_refl _)
    clear hb6
    clear Hf
    have hi := fun W h => impl_RowSteps p2 n2 c2 ys k W h
    have hs := fun W h => spec_RowSteps p2 n2 c2 ys k W h
    by_cases hj : rowB ys = true ∧ 0 ≤ k ∧ k ≤ 1000
    · skip
      have gY := row_iff.1 hj.1
      obtain ⟨K, hKK⟩ : ∃ K : Nat, k = K := ⟨k.toNat, by omega⟩
      have hm : mRowSteps ys k = (rowsL K ys, true) := by rw [hKK]; exact mRowS_yes hj.1 (by omega)
      simp only [hm] at hi hs
      have ht := fun W h => impl_SortRow p2 n2 c2 ys W h
      simp only [mSortR_yes hj.1] at ht
      have hl := fun a n c W h => impl_StepsFrom a n c (sortD ys) k W h
      have hm2 : mStepsFrom (sortD ys) k = (stepsL K (sortD ys), true) := by rw [hKK]; exact mSteps_yes (good_iff.2 (sort_good gY)) (by omega)
      simp only [hm2] at hl
      have hu := fun a n c W h => impl_SortRow a n c (rowsL K ys) W h
      simp only [mSortR_yes (row_iff.2 (rowsL_row gY K))] at hu
      rw [← sort_steps] at hl
      clear hm hm2 hKK gY hj hk0 hk1
      generalize sortD (rowsL K ys) = zs at hl hu
      generalize rowsL K ys = us at hi hs hu
      generalize sortD ys = vs at ht hl
      have Hi := Lib.hid hi; clear hi
      have Hs := Lib.hid hs; clear hs
      have Ht := Lib.hid ht; clear ht
      have Hl := Lib.hid hl; clear hl
      have Hu := Lib.hid hu; clear hu
      go_wp2_with fail
      with_reducible refine (Hi.out _ ho2.at).mono ?_
      rintro e v7 ⟨pe, ne, ce, rfl, hoe, hb7⟩
      replace ho2 := ho2.keep hb7
      replace acc := belowTrans acc hb7 (Nat.le_refl _)
      clear hb7
      go_wp2_with fail
      with_reducible refine (Hs.out _ ho2.at).mono ?_
      rintro e v8 ⟨pg, ng, cg, rfl, hog, hb8⟩
      replace ho2 := ho2.keep hb8
      replace hoe := hoe.keep hb8
      replace acc := belowTrans acc hb8 (Nat.le_refl _)
      clear hb8
      have hc := xSame_any _ _ _ _ _ _ _ _ _ hoe.at hog.at
      rw [decide_eq_true rfl] at hc
      have Hc := Lib.hid hc; clear hc
      go_wp2_with fail
      with_reducible refine (Hc.out).mono ?_
      rintro e v9 ⟨rfl, hb9⟩
      replace ho2 := ho2.keep hb9
      replace hoe := hoe.keep hb9
      replace hog := hog.keep hb9
      replace acc := belowTrans acc hb9 (Nat.le_refl _)
      clear hb9
      clear Hc
      clear hog
      go_wp2_with fail
      with_reducible refine (Ht.out _ ho2.at).mono ?_
      rintro e v10 ⟨ph, nh, ch, rfl, hoh, hb10⟩
      replace ho2 := ho2.keep hb10
      replace hoe := hoe.keep hb10
      replace acc := belowTrans acc hb10 (Nat.le_refl _)
      clear hb10
      go_wp2_with fail
      with_reducible refine (Hl.out _ _ _ _ hoh.at).mono ?_
      rintro e v11 ⟨pq, nq, cq, rfl, hoq, hb11⟩
      replace ho2 := ho2.keep hb11
      replace hoe := hoe.keep hb11
      replace hoh := hoh.keep hb11
      replace acc := belowTrans acc hb11 (Nat.le_refl _)
      clear hb11
      go_wp2_with fail
      with_reducible refine (Hu.out _ _ _ _ hoe.at).mono ?_
      rintro e v12 ⟨pr, nr, cr, rfl, hor, hb12⟩
      replace ho2 := ho2.keep hb12
      replace hoe := hoe.keep hb12
      replace hoh := hoh.keep hb12
      replace hoq := hoq.keep hb12
      replace acc := belowTrans acc hb12 (Nat.le_refl _)
      clear hb12
      have hc := xSame_any _ _ _ _ _ _ _ _ _ hoq.at hor.at
      rw [decide_eq_true rfl] at hc
      have Hc := Lib.hid hc; clear hc
      go_wp2_with fail
      with_reducible refine (Hc.out).mono ?_
      rintro e v13 ⟨rfl, hb13⟩
      replace ho2 := ho2.keep hb13
      replace hoe := hoe.keep hb13
      replace hoh := hoh.keep hb13
      replace hoq := hoq.keep hb13
      replace hor := hor.keep hb13
      replace acc := belowTrans acc hb13 (Nat.le_refl _)
      clear hb13
      clear Hc
      go_wp2
      go_ret
      exact ⟨rfl, acc⟩
    · skip
      have hm : mRowSteps ys k = ([], false) := by unfold mRowSteps; rw [if_neg hj]
      simp only [hm] at hi hs
      clear hm hj
      have Hi := Lib.hid hi; clear hi
      have Hs := Lib.hid hs; clear hs
      go_wp2_with fail
      with_reducible refine (Hi.out _ ho2.at).mono ?_
      rintro e v7 ⟨pe, ne, ce, rfl, hoe, hb7⟩
      replace ho2 := ho2.keep hb7
      replace acc := belowTrans acc hb7 (Nat.le_refl _)
      clear hb7
      go_wp2_with fail
      with_reducible refine (Hs.out _ ho2.at).mono ?_
      rintro e v8 ⟨pg, ng, cg, rfl, hog, hb8⟩
      replace ho2 := ho2.keep hb8
      replace hoe := hoe.keep hb8
      replace acc := belowTrans acc hb8 (Nat.le_refl _)
      clear hb8
      have hc := xSame_any _ _ _ _ _ _ _ _ _ hoe.at hog.at
      rw [decide_eq_true rfl] at hc
      have Hc := Lib.hid hc; clear hc
      go_wp2_with fail
      with_reducible refine (Hc.out).mono ?_
      rintro e v9 ⟨rfl, hb9⟩
      replace ho2 := ho2.keep hb9
      replace hoe := hoe.keep hb9
      replace hog := hog.keep hb9
      replace acc := belowTrans acc hb9 (Nat.le_refl _)
      clear hb9
      clear Hc
      go_wp2
      go_ret
      exact ⟨rfl, acc⟩
  · skip
    have gX := row_iff.1 hb
    have gS : RowOk (rowStepL xs) := rowsL_row gX 1
    simp only [mStepRow_yes hb] at hi hs
    rw [hb] at hr
    have ht := fun W h => impl_SortRow p1 n1 c1 xs W h
    simp only [mSortR_yes hb] at ht
    have hu := fun a n c W h => impl_SortRow a n c (rowStepL xs) W h
    simp only [mSortR_yes (row_iff.2 gS)] at hu
    have hq := fun a n c W h => impl_StepPiles a n c (sortD xs) W h
    simp only [mStep_yes (good_iff.2 (sort_good gX))] at hq
    rw [← sort_step] at hq
    have hsa := fun a n c W h (hn : n ≤ 28) => xSum_any a n c xs W h hn (fun x hx => gX.mem hx)
    have hsb := fun a n c W h (hn : n ≤ 28) => xSum_any a n c (rowStepL xs) W h hn (fun x hx => gS.mem hx)
    rw [rowStep_sum gX] at hsb
    have hp := fun a n c W h => isPiles_yes a n c (sortD xs) W h (sort_good gX)
    have hla := gX.len
    have hlb := gS.len
    clear hb gX gS
    generalize xs.sum = S at hsa hsb
    generalize sortD (rowStepL xs) = zs at hu hq
    generalize rowStepL xs = us at hi hs hu hsb hlb
    generalize sortD xs = vs at ht hq hp
    have Hi := Lib.hid hi; clear hi
    have Hs := Lib.hid hs; clear hs
    have Hr := Lib.hid hr; clear hr
    have Ht := Lib.hid ht; clear ht
    have Hu := Lib.hid hu; clear hu
    have Hq := Lib.hid hq; clear hq
    have Hsa := Lib.hid hsa; clear hsa
    have Hsb := Lib.hid hsb; clear hsb
    have Hp := Lib.hid hp; clear hp
    have Hla := Lib.hid hla; clear hla
    have Hlb := Lib.hid hlb; clear hlb
    go_wp2_with fail
    with_reducible refine (Hi.out _ ho1.at).mono ?_
    rintro e v2 ⟨pi, ni, ci, rfl, hoi, hb2⟩
    replace ho1 := ho1.keep hb2
    replace acc := belowTrans acc hb2 (Nat.le_refl _)
    clear hb2
    go_wp2_with fail
    with_reducible refine (Hs.out _ ho1.at).mono ?_
    rintro e v3 ⟨ps, ns, cs, rfl, hos, hb3⟩
    replace ho1 := ho1.keep hb3
    replace hoi := hoi.keep hb3
    replace acc := belowTrans acc hb3 (Nat.le_refl _)
    clear hb3
    have hc := xSame_any _ _ _ _ _ _ _ _ _ hoi.at hos.at
    rw [decide_eq_true rfl] at hc
    have Hc := Lib.hid hc; clear hc
    go_wp2_with fail
    with_reducible refine (Hc.out).mono ?_
    rintro e v4 ⟨rfl, hb4⟩
    replace ho1 := ho1.keep hb4
    replace hoi := hoi.keep hb4
    replace hos := hos.keep hb4
    replace acc := belowTrans acc hb4 (Nat.le_refl _)
    clear hb4
    clear Hc
    clear hos
    go_wp2_with fail
    with_reducible refine (Hr.out _ ho1.at).mono ?_
    rintro e v5 ⟨rfl, hb5⟩
    replace ho1 := ho1.keep hb5
    replace hoi := hoi.keep hb5
    replace acc := belowTrans acc hb5 (Nat.le_refl _)
    clear hb5
    clear Hi Hs Hr
    go_wp2_with fail
    with_reducible refine (Ht.out _ ho1.at).mono ?_
    rintro e v6 ⟨ph, nh, ch, rfl, hoh, hb6⟩
    replace ho1 := ho1.keep hb6
    replace hoi := hoi.keep hb6
    replace acc := belowTrans acc hb6 (Nat.le_refl _)
    clear hb6
    go_wp2_with fail
    with_reducible refine (Hu.out _ _ _ _ hoi.at).mono ?_
    rintro e v7 ⟨pj, nj, cj, rfl, hoj, hb7⟩
    replace ho1 := ho1.keep hb7
    replace hoi := hoi.keep hb7
    replace hoh := hoh.keep hb7
    replace acc := belowTrans acc hb7 (Nat.le_refl _)
    clear hb7
    go_wp2_with fail
    with_reducible refine (Hq.out _ _ _ _ hoh.at).mono ?_
    rintro e v8 ⟨pk, nk, ck, rfl, hok, hb8⟩
    replace ho1 := ho1.keep hb8
    replace hoi := hoi.keep hb8
    replace hoh := hoh.keep hb8
    replace hoj := hoj.keep hb8
    replace acc := belowTrans acc hb8 (Nat.le_refl _)
    clear hb8
    have hc := xSame_any _ _ _ _ _ _ _ _ _ hoj.at hok.at
    rw [decide_eq_true rfl] at hc
    have Hc := Lib.hid hc; clear hc
    go_wp2_with fail
    with_reducible refine (Hc.out).mono ?_
    rintro e v9 ⟨rfl, hb9⟩
    replace ho1 := ho1.keep hb9
    replace hoi := hoi.keep hb9
    replace hoh := hoh.keep hb9
    replace hoj := hoj.keep hb9
    replace hok := hok.keep hb9
    replace acc := belowTrans acc hb9 (Nat.le_refl _)
    clear hb9
    clear Hc
    have hl1 := hoi.length
    have hl2 := ho1.length
    have hn8i : ni ≤ 28 := by have := Hlb.out; omega
    have hn8a : n1 ≤ 28 := by have := Hla.out; omega
    clear hl1 hl2
    go_wp2_with fail
    with_reducible refine (Hsb.out _ _ _ _ hoi.at hn8i).mono ?_
    rintro e w' ⟨rfl, rfl⟩
    go_wp2_with fail
    with_reducible refine (Hsa.out _ _ _ _ ho1.at hn8a).mono ?_
    rintro e w' ⟨rfl, rfl⟩
    go_wp2_with fail
    with_reducible refine (Hp.out _ _ _ _ hoh.at).mono ?_
    rintro e w' ⟨rfl, rfl⟩
    clear Ht Hu Hq Hsa Hsb Hp
    clear ho1
    clear hoi
    clear hoh
    clear hoj
    clear hok
    go_wp2_with fail
    with_reducible refine (Hf.out _ acc).mono ?_
    rintro e v10 ⟨p2, n2, c2, ys, k, rfl, ho2, hn2, hk0, hk1, hb10⟩
    replace acc := belowTrans acc hb10 (Nat.le_refl _)
    clear hb10
    clear Hf
    have hi := fun W h => impl_RowSteps p2 n2 c2 ys k W h
    have hs := fun W h => spec_RowSteps p2 n2 c2 ys k W h
    by_cases hj : rowB ys = true ∧ 0 ≤ k ∧ k ≤ 1000
    · skip
      have gY := row_iff.1 hj.1
      obtain ⟨K, hKK⟩ : ∃ K : Nat, k = K := ⟨k.toNat, by omega⟩
      have hm : mRowSteps ys k = (rowsL K ys, true) := by rw [hKK]; exact mRowS_yes hj.1 (by omega)
      simp only [hm] at hi hs
      have ht := fun W h => impl_SortRow p2 n2 c2 ys W h
      simp only [mSortR_yes hj.1] at ht
      have hl := fun a n c W h => impl_StepsFrom a n c (sortD ys) k W h
      have hm2 : mStepsFrom (sortD ys) k = (stepsL K (sortD ys), true) := by rw [hKK]; exact mSteps_yes (good_iff.2 (sort_good gY)) (by omega)
      simp only [hm2] at hl
      have hu := fun a n c W h => impl_SortRow a n c (rowsL K ys) W h
      simp only [mSortR_yes (row_iff.2 (rowsL_row gY K))] at hu
      rw [← sort_steps] at hl
      clear hm hm2 hKK gY hj hk0 hk1
      generalize sortD (rowsL K ys) = zs at hl hu
      generalize rowsL K ys = us at hi hs hu
      generalize sortD ys = vs at ht hl
      have Hi := Lib.hid hi; clear hi
      have Hs := Lib.hid hs; clear hs
      have Ht := Lib.hid ht; clear ht
      have Hl := Lib.hid hl; clear hl
      have Hu := Lib.hid hu; clear hu
      go_wp2_with fail
      with_reducible refine (Hi.out _ ho2.at).mono ?_
      rintro e v11 ⟨pe, ne, ce, rfl, hoe, hb11⟩
      replace ho2 := ho2.keep hb11
      replace acc := belowTrans acc hb11 (Nat.le_refl _)
      clear hb11
      go_wp2_with fail
      with_reducible refine (Hs.out _ ho2.at).mono ?_
      rintro e v12 ⟨pg, ng, cg, rfl, hog, hb12⟩
      replace ho2 := ho2.keep hb12
      replace hoe := hoe.keep hb12
      replace acc := belowTrans acc hb12 (Nat.le_refl _)
      clear hb12
      have hc := xSame_any _ _ _ _ _ _ _ _ _ hoe.at hog.at
      rw [decide_eq_true rfl] at hc
      have Hc := Lib.hid hc; clear hc
      go_wp2_with fail
      with_reducible refine (Hc.out).mono ?_
      rintro e v13 ⟨rfl, hb13⟩
      replace ho2 := ho2.keep hb13
      replace hoe := hoe.keep hb13
      replace hog := hog.keep hb13
      replace acc := belowTrans acc hb13 (Nat.le_refl _)
      clear hb13
      clear Hc
      clear hog
      go_wp2_with fail
      with_reducible refine (Ht.out _ ho2.at).mono ?_
      rintro e v14 ⟨ph, nh, ch, rfl, hoh, hb14⟩
      replace ho2 := ho2.keep hb14
      replace hoe := hoe.keep hb14
      replace acc := belowTrans acc hb14 (Nat.le_refl _)
      clear hb14
      go_wp2_with fail
      with_reducible refine (Hl.out _ _ _ _ hoh.at).mono ?_
      rintro e v15 ⟨pq, nq, cq, rfl, hoq, hb15⟩
      replace ho2 := ho2.keep hb15
      replace hoe := hoe.keep hb15
      replace hoh := hoh.keep hb15
      replace acc := belowTrans acc hb15 (Nat.le_refl _)
      clear hb15
      go_wp2_with fail
      with_reducible refine (Hu.out _ _ _ _ hoe.at).mono ?_
      rintro e v16 ⟨pr, nr, cr, rfl, hor, hb16⟩
      replace ho2 := ho2.keep hb16
      replace hoe := hoe.keep hb16
      replace hoh := hoh.keep hb16
      replace hoq := hoq.keep hb16
      replace acc := belowTrans acc hb16 (Nat.le_refl _)
      clear hb16
      have hc := xSame_any _ _ _ _ _ _ _ _ _ hoq.at hor.at
      rw [decide_eq_true rfl] at hc
      have Hc := Lib.hid hc; clear hc
      go_wp2_with fail
      with_reducible refine (Hc.out).mono ?_
      rintro e v17 ⟨rfl, hb17⟩
      replace ho2 := ho2.keep hb17
      replace hoe := hoe.keep hb17
      replace hoh := hoh.keep hb17
      replace hoq := hoq.keep hb17
      replace hor := hor.keep hb17
      replace acc := belowTrans acc hb17 (Nat.le_refl _)
      clear hb17
      clear Hc
      go_wp2
      go_ret
      exact ⟨rfl, acc⟩
    · skip
      have hm : mRowSteps ys k = ([], false) := by unfold mRowSteps; rw [if_neg hj]
      simp only [hm] at hi hs
      clear hm hj
      have Hi := Lib.hid hi; clear hi
      have Hs := Lib.hid hs; clear hs
      go_wp2_with fail
      with_reducible refine (Hi.out _ ho2.at).mono ?_
      rintro e v11 ⟨pe, ne, ce, rfl, hoe, hb11⟩
      replace ho2 := ho2.keep hb11
      replace acc := belowTrans acc hb11 (Nat.le_refl _)
      clear hb11
      go_wp2_with fail
      with_reducible refine (Hs.out _ ho2.at).mono ?_
      rintro e v12 ⟨pg, ng, cg, rfl, hog, hb12⟩
      replace ho2 := ho2.keep hb12
      replace hoe := hoe.keep hb12
      replace acc := belowTrans acc hb12 (Nat.le_refl _)
      clear hb12
      have hc := xSame_any _ _ _ _ _ _ _ _ _ hoe.at hog.at
      rw [decide_eq_true rfl] at hc
      have Hc := Lib.hid hc; clear hc
      go_wp2_with fail
      with_reducible refine (Hc.out).mono ?_
      rintro e v13 ⟨rfl, hb13⟩
      replace ho2 := ho2.keep hb13
      replace hoe := hoe.keep hb13
      replace hog := hog.keep hb13
      replace acc := belowTrans acc hb13 (Nat.le_refl _)
      clear hb13
      clear Hc
      go_wp2
      go_ret
      exact ⟨rfl, acc⟩

/-! ### THE ROW's STEP: WRITTEN OUT: LEAVE IT -/
set_option maxRecDepth 100000 in
theorem lifted (os : Os) (started : os.Started) (H : Type) (enc : TypeId × Value → H) :
    ReturnsInHanded {} Try.checked os 8 .any (Rows.fnRowsForgetOrderSpec.pre6 enc Try.prog Try.f8 Rows.fnRowsForgetOrderRow.domain false) (Rows.fnRowsForgetOrderSpec.post enc Try.prog Try.f8 false true false false) := by
  refine returnsInHanded_of_change (C := Try.checked) own started (by kernel_rfl) Try.func8
    (ChangeSpec.witness6 (enc := enc) (C := Try.checked) false ⟨#[], #[.slice none 0 0, .slice none 0 0], []⟩ 8 (by kernel_rfl) (by kernel_rfl) (by kernel_rfl) (by kernel_rfl)) ?_
  intro W base args ds gs before hval0 hW hcnd _
  have hval : ∀ (j : Nat) t v, Try.f8.params[j]? = some t → args[j]? = some v → Value.okWide Try.prog W .any base t v := hval0
  have hW' := hW
  obtain ⟨p, q, hA0, hV, rfl, hfz, hnd⟩ := hW
  have hA : DataW.TrodAll enc Try.prog W 0 (fun _ => true) true Try.f8.params.toList args.toList ds p := hA0
  rw [Try.params8] at hA hval
  obtain ⟨v0, vs0, d0, ds0, p0, q0, hargs, rfl, rfl, h0, r0⟩ := trodAll_cons hA
  obtain ⟨v1, vs1, d1, ds1, p1, q1, rfl, rfl, rfl, h1, r1⟩ := trodAll_cons r0
  obtain ⟨rfl, rfl, rfl⟩ := trodAll_nil r1
  obtain rfl : args = #[v0, v1] := by cases args; simp_all
  obtain ⟨rfl, rfl⟩ := trodVars_none hV
  obtain ⟨a0, len0, cap0, rfl⟩ := okWide_slice Try.underlying44 (hval 0 44 v0 rfl rfl)
  have k0 := h0
  have lt0 : ∀ x ∈ p0, x.block < W.heap.size := by obtain ⟨m, hm⟩ := k0; exact DataW.trod_lt m _ _ _ hm
  obtain ⟨z0, w0⟩ : ∃ zs, IsRow .u8 W a0 len0 cap0 zs := by
    obtain ⟨fuel, hf⟩ := h0
    rcases open_ints Try.underlying44 Try.underlying5 (by kernel_rfl) hf with ⟨hcs, _⟩ | ⟨x, l, c, zs, hcs, _, hl, hm, hz, _, hcell, hwz⟩
    · simp [Value.cells] at hcs
      obtain ⟨rfl, rfl, rfl⟩ := hcs
      exact ⟨[], .inl ⟨rfl, rfl, rfl, rfl⟩⟩
    · simp [Value.cells] at hcs
      obtain ⟨rfl, rfl, rfl⟩ := hcs
      exact ⟨zs, .inr ⟨_, rfl, hl, hm, by simpa using hz, hcell, hwz⟩⟩
  obtain ⟨a1, len1, cap1, rfl⟩ := okWide_slice Try.underlying44 (hval 1 44 v1 rfl rfl)
  have k1 := h1
  have lt1 : ∀ x ∈ p1, x.block < W.heap.size := by obtain ⟨m, hm⟩ := k1; exact DataW.trod_lt m _ _ _ hm
  obtain ⟨z1, w1⟩ : ∃ zs, IsRow .u8 W a1 len1 cap1 zs := by
    obtain ⟨fuel, hf⟩ := h1
    rcases open_ints Try.underlying44 Try.underlying5 (by kernel_rfl) hf with ⟨hcs, _⟩ | ⟨x, l, c, zs, hcs, _, hl, hm, hz, _, hcell, hwz⟩
    · simp [Value.cells] at hcs
      obtain ⟨rfl, rfl, rfl⟩ := hcs
      exact ⟨[], .inl ⟨rfl, rfl, rfl, rfl⟩⟩
    · simp [Value.cells] at hcs
      obtain ⟨rfl, rfl, rfl⟩ := hcs
      exact ⟨zs, .inr ⟨_, rfl, hl, hm, by simpa using hz, hcell, hwz⟩⟩
  clear hA0 hval0
  refine (walk a0 len0 cap0 z0 a1 len1 cap1 z1 W w0 w1).mono fun e W' ⟨he, bel⟩ => ?_
  subst he
  exact ⟨_, rfl, _, _, _, [], _, [], hW', trodAll_mk1 (shut_bool Try.underlying4 _), (trodAll_cons_mk (Below.trod laidOut (by kernel_rfl) (of_decide_eq_true (by kernel_rfl)) k0 bel lt0) (trodAll_cons_mk (Below.trod laidOut (by kernel_rfl) (of_decide_eq_true (by kernel_rfl)) k1 bel lt1) trodAll_mk0)), rfl, bel.frame _, fun h => by cases h⟩

theorem closedFacts : joinedFacts Try.prog 8 Try.f8 Rows.fnRowsForgetOrderSpec Rows.fnRowsForgetOrderRow = true := by
  unfold joinedFacts
  rw [head_enter, head_lifts, head_make]
  kernel_rfl
theorem closedHere : joinedFacts Try.pinned.checked.prog 8 Try.f8 Rows.fnRowsForgetOrderSpec Rows.fnRowsForgetOrderRow = true := by
  rw [progEq]
  exact closedFacts
theorem over : Rows.fnRowsForgetOrderRow.holds Try.pinned (OpenSpec.ofChange Rows.fnRowsForgetOrderSpec) :=
  OpenClaim.holds_of_wide 8 Try.f8 rfl rfl rfl rfl rfl rfl rfl ⟨rfl, rfl, rfl, rfl, rfl⟩ rfl rfl rfl rfl rfl (by kernel_rfl) Try.func8 closedHere
    (of_decide_eq_true (by kernel_rfl)) (by unfold Func.isWrapper; first | (rw [if_pos (by decide +kernel)]; kernel_rfl) | (rw [if_neg (by decide +kernel)]; exact ⟨rfl, rfl⟩))
    (fun os started H enc _ => lifted os started H enc)

/-- ████ THE STATEMENT ████ -/
theorem proved : Rows.FnRowsForgetOrderSaid := over
#print axioms proved
end Go.Proofs.Ytbneibpakopllaa.fnRowsForgetOrder
