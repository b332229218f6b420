/- FnRowPlays: for every input the law returns true and leaves its arguments as they were. No condition. -/
import Derived.Test.YtbneibpakopllaaRows
import Derived.WalkKit
import Derived.ProofKit
import Derived.OpenShut
import Derived.ShutString
import Derived.ChangeOld
import Derived.Below
import Derived.Test.YtbneibpakopllaaHead
import Derived.Test.YtbneibpakopllaaLawp
import Derived.Test.YtbneibpakopllaaRwL
import Derived.Test.YtbneibpakopllaaRwM
import Derived.Test.YtbneibpakopllaaRwD
import Derived.Test.YtbneibpakopllaaRowO
import Derived.Test.YtbneibpakopllaaRowA
import Derived.Test.YtbneibpakopllaaRowP
namespace Go.Proofs.Ytbneibpakopllaa.fnRowPlays
set_option linter.unusedSimpArgs false
open Go.ChangeShapes Go.WideShapes Go.ChangeAt Go.RowKit
open Go.ChangeMaps (open_string shut_string)
set_option linter.unusedVariables false

theorem own : ownKnob Try.prog.godebug = none := by kernel_rfl
theorem laidOut : laidOutB Try.prog = true := by kernel_rfl

/-- WHAT THE WALK IS TOLD OF A SLICE OF INTEGERS THAT CAME IN: it is nil; or it leads to a row of 'cap' cells, the numbers 'zs' (the first 'len' are its elements, the rest its spare room), each fitting its kind. -/
def IsRow (k : IntKind) (w : World) (a : Option Addr) (len cap : Nat) (zs : List Int) : Prop :=
  (a = none ∧ len = 0 ∧ cap = 0 ∧ zs = []) ∨
  ∃ x, a = some x ∧ len ≤ cap ∧ cap ≤ maxLen ∧ zs.length = cap ∧ (∀ i, i < zs.length → w.cell? (x.add i) = some (.int k (zs.getD i 0))) ∧ ∀ n ∈ zs, (Lit.int k n).wf = true

/-! ### THE WALK: the Go text returns true, AND WRITES NOTHING THAT WAS THERE: 'Below w.heap.size w w'' (Derived/Below.lean: '.refl', '.alloc', '.drew', '.setCell' at a new block, '.trans'). Open each 'IsRow' by 'rcases' AHEAD of 'go_enter'; part every test ahead of the walk. -/
set_option maxHeartbeats 4000000 in
set_option maxRecDepth 100000 in
theorem walk (a0 : Option Addr) (len0 cap0 : Nat) (z0 : List Int) (a1 : Option Addr) (len1 cap1 : Nat) (z1 : List Int) (w : World) (w0 : IsRow .u8 w a0 len0 cap0 z0) (w1 : IsRow .u8 w a1 len1 cap1 z1) :
    Calls Try.prog 9 #[.slice a0 len0 cap0, .slice a1 len1 cap1] w fun e w' => e = .returned (.bool true) ∧ Below w.heap.size w w' := by
  have by0 := byteIn_row w0
  have by1 := byteIn_row w1
  have hl0 : len0 ≤ maxLen := by
    rcases w0 with ⟨_, h, _⟩ | ⟨x, _, h, h', _⟩
    · rw [h]; exact Nat.zero_le _
    · exact Nat.le_trans h h'
  clear w0 w1
  by_cases hbig : 1048576 < len0 ∨ (1048576 : Int) - len0 < len1
  · have hb := big_yes a0 a1 len0 len1 cap0 cap1 w hbig hl0
    have Hb := Lib.hid hb; clear hb
    go_enter Try.func9, Try.ntmps9
    go_wp2_with fail
    with_reducible refine (Hb.out).mono ?_
    rintro e w' ⟨rfl, rfl⟩
    go_wp2
    go_ret
    exact ⟨rfl, Below.refl _ _⟩
  have hb := big_no a0 a1 len0 len1 cap0 cap1 w (by omega) (by omega)
  have hd := DrawPlayRow_any a0 len0 cap0 w (by omega) by0
  have hf := fun W (h : Below w.heap.size w W) => DrawRowOrbit_any a1 len1 cap1 W (by omega) (by1.up (Nat.le_refl _) h h.size)
  have Hb := Lib.hid hb; clear hb
  have Hd := Lib.hid hd; clear hd
  have Hf := Lib.hid hf; clear hf
  clear by0 by1 hl0 hbig
  have acc : Below w.heap.size w w := Below.refl _ _
  go_enter Try.func9, Try.ntmps9
  go_wp2_with fail
  with_reducible refine (Hb.out).mono ?_
  rintro e w' ⟨rfl, rfl⟩
  clear Hb
  go_wp2_with fail
  with_reducible refine (Hd.out).mono ?_
  rintro e v1 ⟨p1, n1, c1, xs, k, rfl, ho1, hn1, hk0, hk1, hb1⟩
  replace acc := belowTrans acc hb1 (Nat.le_refl _)
  clear hb1
  clear Hd
  have hi := fun W h => impl_PlayRow p1 n1 c1 xs k W h
  have hs := fun W h => spec_PlayRow p1 n1 c1 xs k W h
  by_cases hk : rowB xs = true ∧ 0 ≤ k ∧ k ≤ 1000
  · skip
    have gX := row_iff.1 hk.1
    obtain ⟨K, rfl⟩ := Int.eq_ofNat_of_zero_le hk.2.1
    have hK : K ≤ 1000 := by omega
    simp only [mPlayR_yes hk.1 hK] at hi hs
    have hr := fun W h => impl_RowSteps p1 n1 c1 xs (K : Int) W h
    simp only [mRowS_yes hk.1 hK] at hr
    have hlen := playR_length K xs
    have h00 : (playR K xs).getD 0 [] = xs := by rw [playR_getD K 0 xs (by omega)]; rfl
    have hkk : (playR K xs).getD K [] = rowsL K xs := playR_getD K K xs (Nat.le_refl _)
    have hK8 : (K : Int) ≤ 1000 := by omega
    clear hk gX hk0 hk1
    generalize playR K xs = C at hi hs hlen h00 hkk
    generalize rowsL K xs = zs at hkk hr
    have Hi := Lib.hid hi; clear hi
    have Hs := Lib.hid hs; clear hs
    have Hr := Lib.hid hr; clear hr
    have Hlen := Lib.hid hlen; clear hlen
    have H00 := Lib.hid h00; clear h00
    have Hkk := Lib.hid hkk; clear hkk
    go_wp2_with fail
    with_reducible refine (Hi.out _ ho1.at).mono ?_
    rintro e v2 ⟨pi, ni, ci, rfl, hoi, hb2⟩
    replace ho1 := ho1.keep hb2
    replace acc := belowTrans acc hb2 (Nat.le_refl _)
    clear hb2
    go_wp2_with fail
    with_reducible refine (Hs.out _ ho1.at).mono ?_
    rintro e v3 ⟨ps, ns, cs, rfl, hos, hb3⟩
    replace ho1 := ho1.keep hb3
    replace hoi := hoi.keep hb3
    replace acc := belowTrans acc hb3 (Nat.le_refl _)
    clear hb3
    have hc := xRows_any _ _ _ _ _ _ _ _ _ hoi.at hos.at
    rw [decide_eq_true rfl] at hc
    have Hc := Lib.hid hc; clear hc
    go_wp2_with fail
    with_reducible refine (Hc.out).mono ?_
    rintro e v4 ⟨rfl, hb4⟩
    replace ho1 := ho1.keep hb4
    replace hoi := hoi.keep hb4
    replace hos := hos.keep hb4
    replace acc := belowTrans acc hb4 (Nat.le_refl _)
    clear hb4
    clear Hc
    clear hos
    clear Hi Hs
    have hl := hoi.length
    rw [Hlen.out] at hl
    have hni8 := hoi.at.lenInt
    have hkn : (K : Int) + 1 = (ni : Int) := by omega
    have hn1 : 0 < ni := by omega
    have hKn : K < ni := by omega
    clear Hlen hl
    have hrows := hoi.at
    clear hoi
    obtain ⟨b0, o0, e_, _, hc_⟩ := hrows.cell 0 hn1
    cases e_
    obtain ⟨a0_, m0, c0, hcell, hat0⟩ := hc_ 0 hn1
    clear hc_
    rw [Nat.add_zero] at hcell
    rw [H00.out] at hat0
    have h01 : (0 : Int) < (ni : Int) := by omega
    have hc := xSame_any _ _ _ _ _ _ _ _ _ hat0 ho1.at
    rw [decide_eq_true rfl] at hc
    have Hc := Lib.hid hc; clear hc
    go_wp2_with fail
    with_reducible refine (Hc.out).mono ?_
    rintro e v5 ⟨rfl, hb5⟩
    replace ho1 := ho1.keep hb5
    replace hrows := hrows.keep hb5
    replace acc := belowTrans acc hb5 (Nat.le_refl _)
    clear hb5
    clear Hc
    clear hcell hat0 H00
    go_wp2_with fail
    with_reducible refine (Hr.out _ ho1.at).mono ?_
    rintro e v6 ⟨pr, nr, cr, rfl, hor, hb6⟩
    replace ho1 := ho1.keep hb6
    replace hrows := hrows.keep hb6
    replace acc := belowTrans acc hb6 (Nat.le_refl _)
    clear hb6
    obtain ⟨b1, o1, e_, _, hc_⟩ := hrows.cell K hKn
    cases e_
    obtain ⟨a1_, m1, d1, hcell, hatK⟩ := hc_ K hKn
    clear hc_
    rw [Hkk.out] at hatK
    have hKi : (K : Int) < (ni : Int) := by omega
    have hc := xSame_any _ _ _ _ _ _ _ _ _ hor.at hatK
    rw [decide_eq_true rfl] at hc
    have Hc := Lib.hid hc; clear hc
    go_wp2_with fail
    with_reducible refine (Hc.out).mono ?_
    rintro e v7 ⟨rfl, hb7⟩
    replace ho1 := ho1.keep hb7
    replace hrows := hrows.keep hb7
    replace hor := hor.keep hb7
    replace acc := belowTrans acc hb7 (Nat.le_refl _)
    clear hb7
    clear Hc
    clear hcell hatK Hkk Hr
    clear hor
    clear hrows
    clear ho1
    go_wp2_with fail
    with_reducible refine (Hf.out _ acc).mono ?_
    rintro e v8 ⟨p2, n2, c2, ys, rfl, ho2, hn2, hb8⟩
    replace acc := belowTrans acc hb8 (Nat.le_refl _)
    clear hb8
    clear Hf
    have hi := fun W h => impl_RowOrbit p2 n2 c2 ys W h
    have hs := fun W h => spec_RowOrbit p2 n2 c2 ys W h
    have hc := fun W h => impl_IsCyclicRow p2 n2 c2 ys W h
    simp only [mIsCyclicRow] at hc
    cases hb : rowB ys
    · skip
      simp only [mRO_no hb] at hi hs
      clear hc hb
      have Hi := Lib.hid hi; clear hi
      have Hs := Lib.hid hs; clear hs
      go_wp2_with fail
      with_reducible refine (Hi.out _ ho2.at).mono ?_
      rintro e v9 ⟨rfl, hb9⟩
      replace ho2 := ho2.keep hb9
      replace acc := belowTrans acc hb9 (Nat.le_refl _)
      clear hb9
      go_wp2_with fail
      with_reducible refine (Hs.out _ ho2.at).mono ?_
      rintro e v10 ⟨rfl, hb10⟩
      replace ho2 := ho2.keep hb10
      replace acc := belowTrans acc hb10 (Nat.le_refl _)
      clear hb10
      go_wp2
      go_ret
      exact ⟨rfl, acc⟩
    cases hq : (orbR ys).2.2
    · skip
      simp only [mRO_yes hb, orb_lost hq] at hi hs
      clear hc hb hq
      have Hi := Lib.hid hi; clear hi
      have Hs := Lib.hid hs; clear hs
      go_wp2_with fail
      with_reducible refine (Hi.out _ ho2.at).mono ?_
      rintro e v9 ⟨rfl, hb9⟩
      replace ho2 := ho2.keep hb9
      replace acc := belowTrans acc hb9 (Nat.le_refl _)
      clear hb9
      go_wp2_with fail
      with_reducible refine (Hs.out _ ho2.at).mono ?_
      rintro e v10 ⟨rfl, hb10⟩
      replace ho2 := ho2.keep hb10
      replace acc := belowTrans acc hb10 (Nat.le_refl _)
      clear hb10
      go_wp2
      go_ret
      exact ⟨rfl, acc⟩
    have gY := row_iff.1 hb
    obtain ⟨i, j, hij, hj1, heq, hsame, hnew⟩ := orb_found hq
    simp only [mRO_yes hb, heq] at hi hs hc
    obtain ⟨L, rfl⟩ : ∃ L : Nat, j = i + L := ⟨j - i, by omega⟩
    have hL1 : 1 ≤ L := by omega
    have eL : (((i + L : Nat) : Int) - (i : Int)) = (L : Int) := by omega
    simp only [eL] at hi hs hc
    clear eL hq heq hij
    have he := fun W h => impl_RowSteps p2 n2 c2 ys (i : Int) W h
    simp only [mRowS_yes hb (show i ≤ 1000 by omega)] at he
    have hg := fun W h => impl_RowSteps p2 n2 c2 ys ((i : Int) + (L : Int)) W h
    rw [show (i : Int) + (L : Int) = ((i + L : Nat) : Int) by omega] at hg
    simp only [mRowS_yes hb hj1] at hg
    rw [show ((i + L : Nat) : Int) = (i : Int) + (L : Int) by omega, ← hsame] at hg
    have gZ := row_iff.2 (rowsL_row gY i)
    have hnow := fun (q : Nat) (hq : q ≤ L) a n c W h => impl_RowSteps a n c (rowsL i ys) (q : Int) W h
    have hne : ∀ q, 1 ≤ q → q < L → rowsL q (rowsL i ys) ≠ rowsL i ys := fun q h1 h2 e => hnew i (q + i) (by omega) (by omega) (by rw [rowsL_plus, e])
    have hnow2 : ∀ q, q ≤ L → mRowSteps (rowsL i ys) (q : Int) = (rowsL q (rowsL i ys), true) := fun q hq => mRowS_yes gZ (by omega)
    have hlast : ∀ m, i = m + 1 → rowsL m ys ≠ rowsL (L - 1) (rowsL i ys) := fun m hm e => hnew m (L - 1 + i) (by omega) (by omega) (by rw [e, rowsL_plus])
    have hL8 : (L : Int) ≤ 1000 := by omega
    have hnow3 : ∀ q, 1 ≤ q → q < L → ∃ zs, (∀ a n c W, IntsAt W a n c (rowsL i ys) → Calls Try.prog 56 #[.slice a n c, .int .i64 (q : Int)] W fun e w' => ∃ ao' n' cap', e = .returned (.tuple #[.slice ao' n' cap', .bool true]) ∧ Own W.heap.size w'.heap.size w' ao' n' cap' zs ∧ Below W.heap.size W w') ∧ zs ≠ rowsL i ys := fun q h1 h2 => ⟨rowsL q (rowsL i ys), fun a n c W h => by
      have := hnow q (by omega) a n c W h
      simp only [hnow2 q (by omega)] at this
      exact this, hne q h1 h2⟩
    cases i with
    | zero =>
      rw [show ((0 : Nat) : Int) = 0 from rfl] at hi hs hc he hg
      rw [show (0 : Int) + (L : Int) = (L : Int) by omega] at hg
      clear hlast hnow hnow2 hne hnew hsame gZ hj1 hb gY
      generalize rowsL 0 ys = Z at he hg hnow3
      have Hi := Lib.hid hi; clear hi
      have Hs := Lib.hid hs; clear hs
      have Hc := Lib.hid hc; clear hc
      have He := Lib.hid he; clear he
      have Hg := Lib.hid hg; clear hg
      have Hnow3 := Lib.hid hnow3; clear hnow3
      go_wp2_with fail
      with_reducible refine (Hi.out _ ho2.at).mono ?_
      rintro e v9 ⟨rfl, hb9⟩
      replace ho2 := ho2.keep hb9
      replace acc := belowTrans acc hb9 (Nat.le_refl _)
      clear hb9
      go_wp2_with fail
      with_reducible refine (Hs.out _ ho2.at).mono ?_
      rintro e v10 ⟨rfl, hb10⟩
      replace ho2 := ho2.keep hb10
      replace acc := belowTrans acc hb10 (Nat.le_refl _)
      clear hb10
      go_wp2_with fail
      with_reducible refine (Hc.out _ ho2.at).mono ?_
      rintro e v11 ⟨rfl, hb11⟩
      replace ho2 := ho2.keep hb11
      replace acc := belowTrans acc hb11 (Nat.le_refl _)
      clear hb11
      go_wp2_with fail
      with_reducible refine (He.out _ ho2.at).mono ?_
      rintro e v12 ⟨pe, ne, ce, rfl, hoe, hb12⟩
      replace ho2 := ho2.keep hb12
      replace acc := belowTrans acc hb12 (Nat.le_refl _)
      clear hb12
      go_wp2_with fail
      with_reducible refine (Hg.out _ ho2.at).mono ?_
      rintro e v13 ⟨pg, ng, cg, rfl, hog, hb13⟩
      replace ho2 := ho2.keep hb13
      replace hoe := hoe.keep hb13
      replace acc := belowTrans acc hb13 (Nat.le_refl _)
      clear hb13
      have hc := xSame_any _ _ _ _ _ _ _ _ _ hoe.at hog.at
      rw [decide_eq_true rfl] at hc
      have Hc := Lib.hid hc; clear hc
      go_wp2_with fail
      with_reducible refine (Hc.out).mono ?_
      rintro e v14 ⟨rfl, hb14⟩
      replace ho2 := ho2.keep hb14
      replace hoe := hoe.keep hb14
      replace hog := hog.keep hb14
      replace acc := belowTrans acc hb14 (Nat.le_refl _)
      clear hb14
      clear Hc
      clear hog
      clear Hi Hs Hc He Hg
      obtain ⟨wo, hwo⟩ : ∃ wo : World, wo = v14 := ⟨_, rfl⟩
      subst hwo
      have hl1 : (1 : Int) ≤ (L : Int) := by omega
      go_wp2_with fail
      go_loopw [26] (fun i wr => ∃ q : Nat, 1 ≤ q ∧ q ≤ L ∧ i = .int .i64 q ∧ Below w.heap.size w wr ∧ Below wo.heap.size wo wr) (fun i _ => L - (intOf i).toNat)
      case atStart => exact ⟨1, Nat.le_refl _, hL1, rfl, acc, Below.refl _ _⟩
      case round =>
        obtain ⟨q, hq1, hqL, rfl, hbw, hbo⟩ := hrel
        by_cases hlt : q < L
        · skip
          replace ho2 := ho2.keep hbo
          replace hoe := hoe.keep hbo
          have hq8 : (q : Int) ≤ 1000 := by omega
          obtain ⟨ws, hcn, hcne⟩ := Hnow3.out q hq1 hlt
          have Hcn := Lib.hid hcn; clear hcn
          have Hcne := Lib.hid hcne; clear hcne
          go_wp2_with fail
          with_reducible refine (Hcn.out _ _ _ _ hoe.at).mono ?_
          rintro e v15 ⟨pn, nn, cn, rfl, hon, hb15⟩
          replace ho2 := ho2.keep hb15
          replace hoe := hoe.keep hb15
          replace hbw := belowTrans hbw hb15 (Nat.le_refl _)
          replace hbo := belowTrans hbo hb15 (Nat.le_refl _)
          clear hb15
          have hc := xSame_any _ _ _ _ _ _ _ _ _ hon.at hoe.at
          rw [decide_eq_false Hcne.out] at hc
          have Hc := Lib.hid hc; clear hc
          go_wp2_with fail
          with_reducible refine (Hc.out).mono ?_
          rintro e v16 ⟨rfl, hb16⟩
          replace ho2 := ho2.keep hb16
          replace hoe := hoe.keep hb16
          replace hon := hon.keep hb16
          replace hbw := belowTrans hbw hb16 (Nat.le_refl _)
          replace hbo := belowTrans hbo hb16 (Nat.le_refl _)
          clear hb16
          clear Hc
          clear hon
          go_wp2
          go_roundw
          case rel => exact ⟨q + 1, by omega, by omega, by go_num, hbw, hbo⟩
          case measure => simp [intOf] <;> omega
        · obtain rfl : q = L := by omega
          replace ho2 := ho2.keep hbo
          replace hoe := hoe.keep hbo
          clear hbo
          go_wp2
          go_ret
          exact ⟨rfl, hbw⟩
    | succ m =>
      obtain ⟨T, hT⟩ : ∃ T : Int, ((m + 1 : Nat) : Int) = T := ⟨_, rfl⟩
      have hT1 : 1 ≤ T := by omega
      have hT2 : T + (L : Int) ≤ 1000 := by omega
      have hTn : ¬ T = 0 := by omega
      have hTd : (T == 0) = false := by simpa using hTn
      have hTe : decide (T = 0) = false := decide_eq_false hTn
      have hx := fun W h => impl_RowSteps p2 n2 c2 ys (T - 1) W h
      rw [show T - 1 = (m : Int) by omega] at hx
      simp only [mRowS_yes hb (show m ≤ 1000 by omega)] at hx
      rw [show (m : Int) = T - 1 by omega] at hx
      have hy := fun a n c W h => impl_RowSteps a n c (rowsL (m + 1) ys) ((L : Int) - 1) W h
      rw [show (L : Int) - 1 = ((L - 1 : Nat) : Int) by omega] at hy
      simp only [hnow2 (L - 1) (by omega)] at hy
      rw [show ((L - 1 : Nat) : Int) = (L : Int) - 1 by omega] at hy
      have hxy := hlast m rfl
      rw [hT] at hi hs hc he hg
      clear hlast hnow hnow2 hne hnew hsame gZ hj1 hb gY hT
      generalize rowsL m ys = U at hx hxy
      generalize rowsL (L - 1) (rowsL (m + 1) ys) = V at hy hxy
      generalize rowsL (m + 1) ys = Z at he hg hnow3 hy
      have Hi := Lib.hid hi; clear hi
      have Hs := Lib.hid hs; clear hs
      have Hc := Lib.hid hc; clear hc
      have He := Lib.hid he; clear he
      have Hg := Lib.hid hg; clear hg
      have Hnow3 := Lib.hid hnow3; clear hnow3
      have Hx := Lib.hid hx; clear hx
      have Hy := Lib.hid hy; clear hy
      have Hxy := Lib.hid hxy; clear hxy
      go_wp2_with fail
      with_reducible refine (Hi.out _ ho2.at).mono ?_
      rintro e v9 ⟨rfl, hb9⟩
      replace ho2 := ho2.keep hb9
      replace acc := belowTrans acc hb9 (Nat.le_refl _)
      clear hb9
      go_wp2_with fail
      with_reducible refine (Hs.out _ ho2.at).mono ?_
      rintro e v10 ⟨rfl, hb10⟩
      replace ho2 := ho2.keep hb10
      replace acc := belowTrans acc hb10 (Nat.le_refl _)
      clear hb10
      go_wp2_with fail
      with_reducible refine (Hc.out _ ho2.at).mono ?_
      rintro e v11 ⟨rfl, hb11⟩
      replace ho2 := ho2.keep hb11
      replace acc := belowTrans acc hb11 (Nat.le_refl _)
      clear hb11
      go_wp2_with fail
      with_reducible refine (He.out _ ho2.at).mono ?_
      rintro e v12 ⟨pe, ne, ce, rfl, hoe, hb12⟩
      replace ho2 := ho2.keep hb12
      replace acc := belowTrans acc hb12 (Nat.le_refl _)
      clear hb12
      go_wp2_with fail
      with_reducible refine (Hg.out _ ho2.at).mono ?_
      rintro e v13 ⟨pg, ng, cg, rfl, hog, hb13⟩
      replace ho2 := ho2.keep hb13
      replace hoe := hoe.keep hb13
      replace acc := belowTrans acc hb13 (Nat.le_refl _)
      clear hb13
      have hc := xSame_any _ _ _ _ _ _ _ _ _ hoe.at hog.at
      rw [decide_eq_true rfl] at hc
      have Hc := Lib.hid hc; clear hc
      go_wp2_with fail
      with_reducible refine (Hc.out).mono ?_
      rintro e v14 ⟨rfl, hb14⟩
      replace ho2 := ho2.keep hb14
      replace hoe := hoe.keep hb14
      replace hog := hog.keep hb14
      replace acc := belowTrans acc hb14 (Nat.le_refl _)
      clear hb14
      clear Hc
      clear hog
      clear Hi Hs Hc He Hg
      obtain ⟨wo, hwo⟩ : ∃ wo : World, wo = v14 := ⟨_, rfl⟩
      subst hwo
      have hl1 : (1 : Int) ≤ (L : Int) := by omega
      go_wp2_with fail
      go_loopw [26] (fun i wr => ∃ q : Nat, 1 ≤ q ∧ q ≤ L ∧ i = .int .i64 q ∧ Below w.heap.size w wr ∧ Below wo.heap.size wo wr) (fun i _ => L - (intOf i).toNat)
      case atStart => exact ⟨1, Nat.le_refl _, hL1, rfl, acc, Below.refl _ _⟩
      case round =>
        obtain ⟨q, hq1, hqL, rfl, hbw, hbo⟩ := hrel
        by_cases hlt : q < L
        · skip
          replace ho2 := ho2.keep hbo
          replace hoe := hoe.keep hbo
          have hq8 : (q : Int) ≤ 1000 := by omega
          obtain ⟨ws, hcn, hcne⟩ := Hnow3.out q hq1 hlt
          have Hcn := Lib.hid hcn; clear hcn
          have Hcne := Lib.hid hcne; clear hcne
          go_wp2_with fail
          with_reducible refine (Hcn.out _ _ _ _ hoe.at).mono ?_
          rintro e v15 ⟨pn, nn, cn, rfl, hon, hb15⟩
          replace ho2 := ho2.keep hb15
          replace hoe := hoe.keep hb15
          replace hbw := belowTrans hbw hb15 (Nat.le_refl _)
          replace hbo := belowTrans hbo hb15 (Nat.le_refl _)
          clear hb15
          have hc := xSame_any _ _ _ _ _ _ _ _ _ hon.at hoe.at
          rw [decide_eq_false Hcne.out] at hc
          have Hc := Lib.hid hc; clear hc
          go_wp2_with fail
          with_reducible refine (Hc.out).mono ?_
          rintro e v16 ⟨rfl, hb16⟩
          replace ho2 := ho2.keep hb16
          replace hoe := hoe.keep hb16
          replace hon := hon.keep hb16
          replace hbw := belowTrans hbw hb16 (Nat.le_refl _)
          replace hbo := belowTrans hbo hb16 (Nat.le_refl _)
          clear hb16
          clear Hc
          clear hon
          go_wp2
          go_roundw
          case rel => exact ⟨q + 1, by omega, by omega, by go_num, hbw, hbo⟩
          case measure => simp [intOf] <;> omega
        · obtain rfl : q = L := by omega
          replace ho2 := ho2.keep hbo
          replace hoe := hoe.keep hbo
          clear hbo
          go_wp2_with fail
          with_reducible refine (Hx.out _ ho2.at).mono ?_
          rintro e v15 ⟨px, nx, cx, rfl, hox, hb15⟩
          replace ho2 := ho2.keep hb15
          replace hoe := hoe.keep hb15
          replace hbw := belowTrans hbw hb15 (Nat.le_refl _)
          clear hb15
          go_wp2_with fail
          with_reducible refine (Hy.out _ _ _ _ hoe.at).mono ?_
          rintro e v16 ⟨py, ny, cy, rfl, hoy, hb16⟩
          replace ho2 := ho2.keep hb16
          replace hoe := hoe.keep hb16
          replace hox := hox.keep hb16
          replace hbw := belowTrans hbw hb16 (Nat.le_refl _)
          clear hb16
          have hc := xSame_any _ _ _ _ _ _ _ _ _ hox.at hoy.at
          rw [decide_eq_false Hxy.out] at hc
          have Hc := Lib.hid hc; clear hc
          go_wp2_with fail
          with_reducible refine (Hc.out).mono ?_
          rintro e v17 ⟨rfl, hb17⟩
          replace ho2 := ho2.keep hb17
          replace hoe := hoe.keep hb17
          replace hox := hox.keep hb17
          replace hoy := hoy.keep hb17
          replace hbw := belowTrans hbw hb17 (Nat.le_refl _)
          clear hb17
          clear Hc
          go_wp2
          go_ret
          exact ⟨rfl, hbw⟩
  · skip
    have hm : mPlayRow xs k = ([], false) := by unfold mPlayRow; rw [if_neg hk]
    simp only [hm] at hi hs
    clear hm hk
    have Hi := Lib.hid hi; clear hi
    have Hs := Lib.hid hs; clear hs
    go_wp2_with fail
    with_reducible refine (Hi.out _ ho1.at).mono ?_
    rintro e v2 ⟨pi, ni, ci, rfl, hoi, hb2⟩
    replace ho1 := ho1.keep hb2
    replace acc := belowTrans acc hb2 (Nat.le_refl _)
    clear hb2
    go_wp2_with fail
    with_reducible refine (Hs.out _ ho1.at).mono ?_
    rintro e v3 ⟨ps, ns, cs, rfl, hos, hb3⟩
    replace ho1 := ho1.keep hb3
    replace hoi := hoi.keep hb3
    replace acc := belowTrans acc hb3 (Nat.le_refl _)
    clear hb3
    have hc := xRows_any _ _ _ _ _ _ _ _ _ hoi.at hos.at
    rw [decide_eq_true rfl] at hc
    have Hc := Lib.hid hc; clear hc
    go_wp2_with fail
    with_reducible refine (Hc.out).mono ?_
    rintro e v4 ⟨rfl, hb4⟩
    replace ho1 := ho1.keep hb4
    replace hoi := hoi.keep hb4
    replace hos := hos.keep hb4
    replace acc := belowTrans acc hb4 (Nat.le_refl _)
    clear hb4
    clear Hc
    clear hos
    clear Hi Hs
    clear hoi
    clear ho1
    go_wp2_with fail
    with_reducible refine (Hf.out _ acc).mono ?_
    rintro e v5 ⟨p2, n2, c2, ys, rfl, ho2, hn2, hb5⟩
    replace acc := belowTrans acc hb5 (Nat.le_refl _)
    clear hb5
    clear Hf
    have hi := fun W h => impl_RowOrbit p2 n2 c2 ys W h
    have hs := fun W h => spec_RowOrbit p2 n2 c2 ys W h
    have hc := fun W h => impl_IsCyclicRow p2 n2 c2 ys W h
    simp only [mIsCyclicRow] at hc
    cases hb : rowB ys
    · skip
      simp only [mRO_no hb] at hi hs
      clear hc hb
      have Hi := Lib.hid hi; clear hi
      have Hs := Lib.hid hs; clear hs
      go_wp2_with fail
      with_reducible refine (Hi.out _ ho2.at).mono ?_
      rintro e v6 ⟨rfl, hb6⟩
      replace ho2 := ho2.keep hb6
      replace acc := belowTrans acc hb6 (Nat.le_refl _)
      clear hb6
      go_wp2_with fail
      with_reducible refine (Hs.out _ ho2.at).mono ?_
      rintro e v7 ⟨rfl, hb7⟩
      replace ho2 := ho2.keep hb7
      replace acc := belowTrans acc hb7 (Nat.le_refl _)
      clear hb7
      go_wp2
      go_ret
      exact ⟨rfl, acc⟩
    cases hq : (orbR ys).2.2
    · skip
      simp only [mRO_yes hb, orb_lost hq] at hi hs
      clear hc hb hq
      have Hi := Lib.hid hi; clear hi
      have Hs := Lib.hid hs; clear hs
      go_wp2_with fail
      with_reducible refine (Hi.out _ ho2.at).mono ?_
      rintro e v6 ⟨rfl, hb6⟩
      replace ho2 := ho2.keep hb6
      replace acc := belowTrans acc hb6 (Nat.le_refl _)
      clear hb6
      go_wp2_with fail
      with_reducible refine (Hs.out _ ho2.at).mono ?_
      rintro e v7 ⟨rfl, hb7⟩
      replace ho2 := ho2.keep hb7
      replace acc := belowTrans acc hb7 (Nat.le_refl _)
      clear hb7
      go_wp2
      go_ret
      exact ⟨rfl, acc⟩
    have gY := row_iff.1 hb
    obtain ⟨i, j, hij, hj1, heq, hsame, hnew⟩ := orb_found hq
    simp only [mRO_yes hb, heq] at hi hs hc
    obtain ⟨L, rfl⟩ : ∃ L : Nat, j = i + L := ⟨j - i, by omega⟩
    have hL1 : 1 ≤ L := by omega
    have eL : (((i + L : Nat) : Int) - (i : Int)) = (L : Int) := by omega
    simp only [eL] at hi hs hc
    clear eL hq heq hij
    have he := fun W h => impl_RowSteps p2 n2 c2 ys (i : Int) W h
    simp only [mRowS_yes hb (show i ≤ 1000 by omega)] at he
    have hg := fun W h => impl_RowSteps p2 n2 c2 ys ((i : Int) + (L : Int)) W h
    rw [show (i : Int) + (L : Int) = ((i + L : Nat) : Int) by omega] at hg
    simp only [mRowS_yes hb hj1] at hg
    rw [show ((i + L : Nat) : Int) = (i : Int) + (L : Int) by omega, ← hsame] at hg
    have gZ := row_iff.2 (rowsL_row gY i)
    have hnow := fun (q : Nat) (hq : q ≤ L) a n c W h => impl_RowSteps a n c (rowsL i ys) (q : Int) W h
    have hne : ∀ q, 1 ≤ q → q < L → rowsL q (rowsL i ys) ≠ rowsL i ys := fun q h1 h2 e => hnew i (q + i) (by omega) (by omega) (by rw [rowsL_plus, e])
    have hnow2 : ∀ q, q ≤ L → mRowSteps (rowsL i ys) (q : Int) = (rowsL q (rowsL i ys), true) := fun q hq => mRowS_yes gZ (by omega)
    have hlast : ∀ m, i = m + 1 → rowsL m ys ≠ rowsL (L - 1) (rowsL i ys) := fun m hm e => hnew m (L - 1 + i) (by omega) (by omega) (by rw [e, rowsL_plus])
    have hL8 : (L : Int) ≤ 1000 := by omega
    have hnow3 : ∀ q, 1 ≤ q → q < L → ∃ zs, (∀ a n c W, IntsAt W a n c (rowsL i ys) → Calls Try.prog 56 #[.slice a n c, .int .i64 (q : Int)] W fun e w' => ∃ ao' n' cap', e = .returned (.tuple #[.slice ao' n' cap', .bool true]) ∧ Own W.heap.size w'.heap.size w' ao' n' cap' zs ∧ Below W.heap.size W w') ∧ zs ≠ rowsL i ys := fun q h1 h2 => ⟨rowsL q (rowsL i ys), fun a n c W h => by
      have := hnow q (by omega) a n c W h
      simp only [hnow2 q (by omega)] at this
      exact this, hne q h1 h2⟩
    cases i with
    | zero =>
      rw [show ((0 : Nat) : Int) = 0 from rfl] at hi hs hc he hg
      rw [show (0 : Int) + (L : Int) = (L : Int) by omega] at hg
      clear hlast hnow hnow2 hne hnew hsame gZ hj1 hb gY
      generalize rowsL 0 ys = Z at he hg hnow3
      have Hi := Lib.hid hi; clear hi
      have Hs := Lib.hid hs; clear hs
      have Hc := Lib.hid hc; clear hc
      have He := Lib.hid he; clear he
      have Hg := Lib.hid hg; clear hg
      have Hnow3 := Lib.hid hnow3; clear hnow3
      go_wp2_with fail
      with_reducible refine (Hi.out _ ho2.at).mono ?_
      rintro e v6 ⟨rfl, hb6⟩
      replace ho2 := ho2.keep hb6
      replace acc := belowTrans acc hb6 (Nat.le_refl _)
      clear hb6
      go_wp2_with fail
      with_reducible refine (Hs.out _ ho2.at).mono ?_
      rintro e v7 ⟨rfl, hb7⟩
      replace ho2 := ho2.keep hb7
      replace acc := belowTrans acc hb7 (Nat.le_refl _)
      clear hb7
      go_wp2_with fail
      with_reducible refine (Hc.out _ ho2.at).mono ?_
      rintro e v8 ⟨rfl, hb8⟩
      replace ho2 := ho2.keep hb8
      replace acc := belowTrans acc hb8 (Nat.le_refl _)
      clear hb8
      go_wp2_with fail
      with_reducible refine (He.out _ ho2.at).mono ?_
      rintro e v9 ⟨pe, ne, ce, rfl, hoe, hb9⟩
      replace ho2 := ho2.keep hb9
      replace acc := belowTrans acc hb9 (Nat.le_refl _)
      clear hb9
      go_wp2_with fail
      with_reducible refine (Hg.out _ ho2.at).mono ?_
      rintro e v10 ⟨pg, ng, cg, rfl, hog, hb10⟩
      replace ho2 := ho2.keep hb10
      replace hoe := hoe.keep hb10
      replace acc := belowTrans acc hb10 (Nat.le_refl _)
      clear hb10
      have hc := xSame_any _ _ _ _ _ _ _ _ _ hoe.at hog.at
      rw [decide_eq_true rfl] at hc
      have Hc := Lib.hid hc; clear hc
      go_wp2_with fail
      with_reducible refine (Hc.out).mono ?_
      rintro e v11 ⟨rfl, hb11⟩
      replace ho2 := ho2.keep hb11
      replace hoe := hoe.keep hb11
      replace hog := hog.keep hb11
      replace acc := belowTrans acc hb11 (Nat.le_refl _)
      clear hb11
      clear Hc
      clear hog
      clear Hi Hs Hc He Hg
      obtain ⟨wo, hwo⟩ : ∃ wo : World, wo = v11 := ⟨_, rfl⟩
      subst hwo
      have hl1 : (1 : Int) ≤ (L : Int) := by omega
      go_wp2_with fail
      go_loopw [26] (fun i wr => ∃ q : Nat, 1 ≤ q ∧ q ≤ L ∧ i = .int .i64 q ∧ Below w.heap.size w wr ∧ Below wo.heap.size wo wr) (fun i _ => L - (intOf i).toNat)
      case atStart => exact ⟨1, Nat.le_refl _, hL1, rfl, acc, Below.refl _ _⟩
      case round =>
        obtain ⟨q, hq1, hqL, rfl, hbw, hbo⟩ := hrel
        by_cases hlt : q < L
        · skip
          replace ho2 := ho2.keep hbo
          replace hoe := hoe.keep hbo
          have hq8 : (q : Int) ≤ 1000 := by omega
          obtain ⟨ws, hcn, hcne⟩ := Hnow3.out q hq1 hlt
          have Hcn := Lib.hid hcn; clear hcn
          have Hcne := Lib.hid hcne; clear hcne
          go_wp2_with fail
          with_reducible refine (Hcn.out _ _ _ _ hoe.at).mono ?_
          rintro e v12 ⟨pn, nn, cn, rfl, hon, hb12⟩
          replace ho2 := ho2.keep hb12
          replace hoe := hoe.keep hb12
          replace hbw := belowTrans hbw hb12 (Nat.le_refl _)
          replace hbo := belowTrans hbo hb12 (Nat.le_refl _)
          clear hb12
          have hc := xSame_any _ _ _ _ _ _ _ _ _ hon.at hoe.at
          rw [decide_eq_false Hcne.out] at hc
          have Hc := Lib.hid hc; clear hc
          go_wp2_with fail
          with_reducible refine (Hc.out).mono ?_
          rintro e v13 ⟨rfl, hb13⟩
          replace ho2 := ho2.keep hb13
          replace hoe := hoe.keep hb13
          replace hon := hon.keep hb13
          replace hbw := belowTrans hbw hb13 (Nat.le_refl _)
          replace hbo := belowTrans hbo hb13 (Nat.le_refl _)
          clear hb13
          clear Hc
          clear hon
          go_wp2
          go_roundw
          case rel => exact ⟨q + 1, by omega, by omega, by go_num, hbw, hbo⟩
          case measure => simp [intOf] <;> omega
        · obtain rfl : q = L := by omega
          replace ho2 := ho2.keep hbo
          replace hoe := hoe.keep hbo
          clear hbo
          go_wp2
          go_ret
          exact ⟨rfl, hbw⟩
    | succ m =>
      obtain ⟨T, hT⟩ : ∃ T : Int, ((m + 1 : Nat) : Int) = T := ⟨_, rfl⟩
      have hT1 : 1 ≤ T := by omega
      have hT2 : T + (L : Int) ≤ 1000 := by omega
      have hTn : ¬ T = 0 := by omega
      have hTd : (T == 0) = false := by simpa using hTn
      have hTe : decide (T = 0) = false := decide_eq_false hTn
      have hx := fun W h => impl_RowSteps p2 n2 c2 ys (T - 1) W h
      rw [show T - 1 = (m : Int) by omega] at hx
      simp only [mRowS_yes hb (show m ≤ 1000 by omega)] at hx
      rw [show (m : Int) = T - 1 by omega] at hx
      have hy := fun a n c W h => impl_RowSteps a n c (rowsL (m + 1) ys) ((L : Int) - 1) W h
      rw [show (L : Int) - 1 = ((L - 1 : Nat) : Int) by omega] at hy
      simp only [hnow2 (L - 1) (by omega)] at hy
      rw [show ((L - 1 : Nat) : Int) = (L : Int) - 1 by omega] at hy
      have hxy := hlast m rfl
      rw [hT] at hi hs hc he hg
      clear hlast hnow hnow2 hne hnew hsame gZ hj1 hb gY hT
      generalize rowsL m ys = U at hx hxy
      generalize rowsL (L - 1) (rowsL (m + 1) ys) = V at hy hxy
      generalize rowsL (m + 1) ys = Z at he hg hnow3 hy
      have Hi := Lib.hid hi; clear hi
      have Hs := Lib.hid hs; clear hs
      have Hc := Lib.hid hc; clear hc
      have He := Lib.hid he; clear he
      have Hg := Lib.hid hg; clear hg
      have Hnow3 := Lib.hid hnow3; clear hnow3
      have Hx := Lib.hid hx; clear hx
      have Hy := Lib.hid hy; clear hy
      have Hxy := Lib.hid hxy; clear hxy
      go_wp2_with fail
      with_reducible refine (Hi.out _ ho2.at).mono ?_
      rintro e v6 ⟨rfl, hb6⟩
      replace ho2 := ho2.keep hb6
      replace acc := belowTrans acc hb6 (Nat.le_refl _)
      clear hb6
      go_wp2_with fail
      with_reducible refine (Hs.out _ ho2.at).mono ?_
      rintro e v7 ⟨rfl, hb7⟩
      replace ho2 := ho2.keep hb7
      replace acc := belowTrans acc hb7 (Nat.le_refl _)
      clear hb7
      go_wp2_with fail
      with_reducible refine (Hc.out _ ho2.at).mono ?_
      rintro e v8 ⟨rfl, hb8⟩
      replace ho2 := ho2.keep hb8
      replace acc := belowTrans acc hb8 (Nat.le_refl _)
      clear hb8
      go_wp2_with fail
      with_reducible refine (He.out _ ho2.at).mono ?_
      rintro e v9 ⟨pe, ne, ce, rfl, hoe, hb9⟩
      replace ho2 := ho2.keep hb9
      replace acc := belowTrans acc hb9 (Nat.le_refl _)
      clear hb9
      go_wp2_with fail
      with_reducible refine (Hg.out _ ho2.at).mono ?_
      rintro e v10 ⟨pg, ng, cg, rfl, hog, hb10⟩
      replace ho2 := ho2.keep hb10
      replace hoe := hoe.keep hb10
      replace acc := belowTrans acc hb10 (Nat.le_refl _)
      clear hb10
      have hc := xSame_any _ _ _ _ _ _ _ _ _ hoe.at hog.at
      rw [decide_eq_true rfl] at hc
      have Hc := Lib.hid hc; clear hc
      go_wp2_with fail
      with_reducible refine (Hc.out).mono ?_
      rintro e v11 ⟨rfl, hb11⟩
      replace ho2 := ho2.keep hb11
      replace hoe := hoe.keep hb11
      replace hog := hog.keep hb11
      replace acc := belowTrans acc hb11 (Nat.le_refl _)
      clear hb11
      clear Hc
      clear hog
      clear Hi Hs Hc He Hg
      obtain ⟨wo, hwo⟩ : ∃ wo : World, wo = v11 := ⟨_, rfl⟩
      subst hwo
      have hl1 : (1 : Int) ≤ (L : Int) := by omega
      go_wp2_with fail
      go_loopw [26] (fun i wr => ∃ q : Nat, 1 ≤ q ∧ q ≤ L ∧ i = .int .i64 q ∧ Below w.heap.size w wr ∧ Below wo.heap.size wo wr) (fun i _ => L - (intOf i).toNat)
      case atStart => exact ⟨1, Nat.le_refl _, hL1, rfl, acc, Below.refl _ _⟩
      case round =>
        obtain ⟨q, hq1, hqL, rfl, hbw, hbo⟩ := hrel
        by_cases hlt : q < L
        · skip
          replace ho2 := ho2.keep hbo
          replace hoe := hoe.keep hbo
          have hq8 : (q : Int) ≤ 1000 := by omega
          obtain ⟨ws, hcn, hcne⟩ := Hnow3.out q hq1 hlt
          have Hcn := Lib.hid hcn; clear hcn
          have Hcne := Lib.hid hcne; clear hcne
          go_wp2_with fail
          with_reducible refine (Hcn.out _ _ _ _ hoe.at).mono ?_
          rintro e v12 ⟨pn, nn, cn, rfl, hon, hb12⟩
          replace ho2 := ho2.keep hb12
          replace hoe := hoe.keep hb12
          replace hbw := belowTrans hbw hb12 (Nat.le_refl _)
          replace hbo := belowTrans hbo hb12 (Nat.le_refl _)
          clear hb12
          have hc := xSame_any _ _ _ _ _ _ _ _ _ hon.at hoe.at
          rw [decide_eq_false Hcne.out] at hc
          have Hc := Lib.hid hc; clear hc
          go_wp2_with fail
          with_reducible refine (Hc.out).mono ?_
          rintro e v13 ⟨rfl, hb13⟩
          replace ho2 := ho2.keep hb13
          replace hoe := hoe.keep hb13
          replace hon := hon.keep hb13
          replace hbw := belowTrans hbw hb13 (Nat.le_refl _)
          replace hbo := belowTrans hbo hb13 (Nat.le_refl _)
          clear hb13
          clear Hc
          clear hon
          go_wp2
          go_roundw
          case rel => exact ⟨q + 1, by omega, by omega, by go_num, hbw, hbo⟩
          case measure => simp [intOf] <;> omega
        · obtain rfl : q = L := by omega
          replace ho2 := ho2.keep hbo
          replace hoe := hoe.keep hbo
          clear hbo
          go_wp2_with fail
          with_reducible refine (Hx.out _ ho2.at).mono ?_
          rintro e v12 ⟨px, nx, cx, rfl, hox, hb12⟩
          replace ho2 := ho2.keep hb12
          replace hoe := hoe.keep hb12
          replace hbw := belowTrans hbw hb12 (Nat.le_refl _)
          clear hb12
          go_wp2_with fail
          with_reducible refine (Hy.out _ _ _ _ hoe.at).mono ?_
          rintro e v13 ⟨py, ny, cy, rfl, hoy, hb13⟩
          replace ho2 := ho2.keep hb13
          replace hoe := hoe.keep hb13
          replace hox := hox.keep hb13
          replace hbw := belowTrans hbw hb13 (Nat.le_refl _)
          clear hb13
          have hc := xSame_any _ _ _ _ _ _ _ _ _ hox.at hoy.at
          rw [decide_eq_false Hxy.out] at hc
          have Hc := Lib.hid hc; clear hc
          go_wp2_with fail
          with_reducible refine (Hc.out).mono ?_
          rintro e v14 ⟨rfl, hb14⟩
          replace ho2 := ho2.keep hb14
          replace hoe := hoe.keep hb14
          replace hox := hox.keep hb14
          replace hoy := hoy.keep hb14
          replace hbw := belowTrans hbw hb14 (Nat.le_refl _)
          clear hb14
          clear Hc
          go_wp2
          go_ret
          exact ⟨rfl, hbw⟩

/-! ### THE ROW's STEP: WRITTEN OUT: LEAVE IT -/
set_option maxRecDepth 100000 in
theorem lifted (os : Os) (started : os.Started) (H : Type) (enc : TypeId × Value → H) :
    ReturnsInHanded {} Try.checked os 9 .any (Rows.fnRowPlaysSpec.pre6 enc Try.prog Try.f9 Rows.fnRowPlaysRow.domain false) (Rows.fnRowPlaysSpec.post enc Try.prog Try.f9 false true false false) := by
  refine returnsInHanded_of_change (C := Try.checked) own started (by kernel_rfl) Try.func9
    (ChangeSpec.witness6 (enc := enc) (C := Try.checked) false ⟨#[], #[.slice none 0 0, .slice none 0 0], []⟩ 8 (by kernel_rfl) (by kernel_rfl) (by kernel_rfl) (by kernel_rfl)) ?_
  intro W base args ds gs before hval0 hW hcnd _
  have hval : ∀ (j : Nat) t v, Try.f9.params[j]? = some t → args[j]? = some v → Value.okWide Try.prog W .any base t v := hval0
  have hW' := hW
  obtain ⟨p, q, hA0, hV, rfl, hfz, hnd⟩ := hW
  have hA : DataW.TrodAll enc Try.prog W 0 (fun _ => true) true Try.f9.params.toList args.toList ds p := hA0
  rw [Try.params9] at hA hval
  obtain ⟨v0, vs0, d0, ds0, p0, q0, hargs, rfl, rfl, h0, r0⟩ := trodAll_cons hA
  obtain ⟨v1, vs1, d1, ds1, p1, q1, rfl, rfl, rfl, h1, r1⟩ := trodAll_cons r0
  obtain ⟨rfl, rfl, rfl⟩ := trodAll_nil r1
  obtain rfl : args = #[v0, v1] := by cases args; simp_all
  obtain ⟨rfl, rfl⟩ := trodVars_none hV
  obtain ⟨a0, len0, cap0, rfl⟩ := okWide_slice Try.underlying44 (hval 0 44 v0 rfl rfl)
  have k0 := h0
  have lt0 : ∀ x ∈ p0, x.block < W.heap.size := by obtain ⟨m, hm⟩ := k0; exact DataW.trod_lt m _ _ _ hm
  obtain ⟨z0, w0⟩ : ∃ zs, IsRow .u8 W a0 len0 cap0 zs := by
    obtain ⟨fuel, hf⟩ := h0
    rcases open_ints Try.underlying44 Try.underlying5 (by kernel_rfl) hf with ⟨hcs, _⟩ | ⟨x, l, c, zs, hcs, _, hl, hm, hz, _, hcell, hwz⟩
    · simp [Value.cells] at hcs
      obtain ⟨rfl, rfl, rfl⟩ := hcs
      exact ⟨[], .inl ⟨rfl, rfl, rfl, rfl⟩⟩
    · simp [Value.cells] at hcs
      obtain ⟨rfl, rfl, rfl⟩ := hcs
      exact ⟨zs, .inr ⟨_, rfl, hl, hm, by simpa using hz, hcell, hwz⟩⟩
  obtain ⟨a1, len1, cap1, rfl⟩ := okWide_slice Try.underlying44 (hval 1 44 v1 rfl rfl)
  have k1 := h1
  have lt1 : ∀ x ∈ p1, x.block < W.heap.size := by obtain ⟨m, hm⟩ := k1; exact DataW.trod_lt m _ _ _ hm
  obtain ⟨z1, w1⟩ : ∃ zs, IsRow .u8 W a1 len1 cap1 zs := by
    obtain ⟨fuel, hf⟩ := h1
    rcases open_ints Try.underlying44 Try.underlying5 (by kernel_rfl) hf with ⟨hcs, _⟩ | ⟨x, l, c, zs, hcs, _, hl, hm, hz, _, hcell, hwz⟩
    · simp [Value.cells] at hcs
      obtain ⟨rfl, rfl, rfl⟩ := hcs
      exact ⟨[], .inl ⟨rfl, rfl, rfl, rfl⟩⟩
    · simp [Value.cells] at hcs
      obtain ⟨rfl, rfl, rfl⟩ := hcs
      exact ⟨zs, .inr ⟨_, rfl, hl, hm, by simpa using hz, hcell, hwz⟩⟩
  clear hA0 hval0
  refine (walk a0 len0 cap0 z0 a1 len1 cap1 z1 W w0 w1).mono fun e W' ⟨he, bel⟩ => ?_
  subst he
  exact ⟨_, rfl, _, _, _, [], _, [], hW', trodAll_mk1 (shut_bool Try.underlying4 _), (trodAll_cons_mk (Below.trod laidOut (by kernel_rfl) (of_decide_eq_true (by kernel_rfl)) k0 bel lt0) (trodAll_cons_mk (Below.trod laidOut (by kernel_rfl) (of_decide_eq_true (by kernel_rfl)) k1 bel lt1) trodAll_mk0)), rfl, bel.frame _, fun h => by cases h⟩

theorem closedFacts : joinedFacts Try.prog 9 Try.f9 Rows.fnRowPlaysSpec Rows.fnRowPlaysRow = true := by
  unfold joinedFacts
  rw [head_enter, head_lifts, head_make]
  kernel_rfl
theorem closedHere : joinedFacts Try.pinned.checked.prog 9 Try.f9 Rows.fnRowPlaysSpec Rows.fnRowPlaysRow = true := by
  rw [progEq]
  exact closedFacts
theorem over : Rows.fnRowPlaysRow.holds Try.pinned (OpenSpec.ofChange Rows.fnRowPlaysSpec) :=
  OpenClaim.holds_of_wide 9 Try.f9 rfl rfl rfl rfl rfl rfl rfl ⟨rfl, rfl, rfl, rfl, rfl⟩ rfl rfl rfl rfl rfl (by kernel_rfl) Try.func9 closedHere
    (of_decide_eq_true (by kernel_rfl)) (by unfold Func.isWrapper; first | (rw [if_pos (by decide +kernel)]; kernel_rfl) | (rw [if_neg (by decide +kernel)]; exact ⟨rfl, rfl⟩))
    (fun os started H enc _ => lifted os started H enc)

/-- ████ THE STATEMENT ████ -/
theorem proved : Rows.FnRowPlaysSaid := over
#print axioms proved
end Go.Proofs.Ytbneibpakopllaa.fnRowPlays
