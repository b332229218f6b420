/- FnBankSteps: for every input the law returns true and leaves its arguments as they were. No condition. -/
import Derived.Test.YtbkihnejgcebpaaRows
import Derived.WalkKit
import Derived.ProofKit
import Derived.OpenShut
import Derived.ShutString
import Derived.ChangeOld
import Derived.Below
import Derived.Test.YtbkihnejgcebpaaHead
import Derived.Test.YtbkihnejgcebpaaLawp
import Derived.Test.YtbkihnejgcebpaaGn
namespace Go.Proofs.Ytbkihnejgcebpaa.fnBankSteps
set_option linter.unusedSimpArgs false
open Go.ChangeShapes Go.WideShapes Go.ChangeAt Go.RowKit
open Go.ChangeMaps (open_string shut_string)
set_option linter.unusedVariables false

theorem own : ownKnob Try.prog.godebug = none := by kernel_rfl
theorem laidOut : laidOutB Try.prog = true := by kernel_rfl

/-- WHAT THE WALK IS TOLD OF A SLICE OF INTEGERS THAT CAME IN: it is nil; or it leads to a row of 'cap' cells, the numbers 'zs' (the first 'len' are its elements, the rest its spare room), each fitting its kind. -/
def IsRow (k : IntKind) (w : World) (a : Option Addr) (len cap : Nat) (zs : List Int) : Prop :=
  (a = none ∧ len = 0 ∧ cap = 0 ∧ zs = []) ∨
  ∃ x, a = some x ∧ len ≤ cap ∧ cap ≤ maxLen ∧ zs.length = cap ∧ (∀ i, i < zs.length → w.cell? (x.add i) = some (.int k (zs.getD i 0))) ∧ ∀ n ∈ zs, (Lit.int k n).wf = true

/-! ### THE WALK: the Go text returns true, AND WRITES NOTHING THAT WAS THERE: 'Below w.heap.size w w'' (Derived/Below.lean: '.refl', '.alloc', '.drew', '.setCell' at a new block, '.trans'). Open each 'IsRow' by 'rcases' AHEAD of 'go_enter'; part every test ahead of the walk. -/
set_option maxHeartbeats 4000000 in
set_option maxRecDepth 100000 in
theorem walk (a0 : Option Addr) (len0 cap0 : Nat) (z0 : List Int) (a1 : Option Addr) (len1 cap1 : Nat) (z1 : List Int) (w : World) (w0 : IsRow .u8 w a0 len0 cap0 z0) (w1 : IsRow .u8 w a1 len1 cap1 z1) :
    Calls Try.prog 5 #[.slice a0 len0 cap0, .slice a1 len1 cap1] w fun e w' => e = .returned (.bool true) ∧ Below w.heap.size w w' := by
  have by0 := byteIn_row w0
  have by1 := byteIn_row w1
  have hl0 : len0 ≤ maxLen := by
    rcases w0 with ⟨_, h, _⟩ | ⟨x, _, h, h', _⟩
    · rw [h]; exact Nat.zero_le _
    · exact Nat.le_trans h h'
  clear w0 w1
  by_cases hbig : 1048576 < len0 ∨ (1048576 : Int) - len0 < len1
  · have hb := big_yes a0 a1 len0 len1 cap0 cap1 w hbig hl0
    have Hb := Lib.hid hb; clear hb
    go_enter Try.func5, Try.ntmps5
    go_wp2_with fail
    with_reducible refine (Hb.out).mono ?_
    rintro e w' ⟨rfl, rfl⟩
    go_wp2
    go_ret
    exact ⟨rfl, Below.refl _ _⟩
  have hb := big_no a0 a1 len0 len1 cap0 cap1 w (by omega) (by omega)
  have hd := DrawStepBank_any a0 len0 cap0 w (by omega) by0
  have hf := fun W (h : Below w.heap.size w W) => DrawFromAges_any a1 len1 cap1 W (by omega) (by1.up (Nat.le_refl _) h h.size)
  have hg := fun W (h : Below w.heap.size w W) => DrawStartBank_any a1 len1 cap1 W (by omega) (by1.up (Nat.le_refl _) h h.size)
  have Hb := Lib.hid hb; clear hb
  have Hd := Lib.hid hd; clear hd
  have Hf := Lib.hid hf; clear hf
  have Hg := Lib.hid hg; clear hg
  clear by0 by1 hl0 hbig
  have acc : Below w.heap.size w w := Below.refl _ _
  go_enter Try.func5, Try.ntmps5
  go_wp2_with fail
  with_reducible refine (Hb.out).mono ?_
  rintro e w' ⟨rfl, rfl⟩
  clear Hb
  have Acc := Lib.hid acc; clear acc
  go_wp2_with fail
  with_reducible refine (Hd.out).mono ?_
  rintro e v1 ⟨h, l, p1, n1, c1, xs, rfl, ho1, hn1, hb1⟩
  have sz1 : w.heap.size ≤ v1.heap.size := by have := hb1.size; simpa using this
  replace Acc := Lib.hid (belowTrans Acc.out hb1 (Nat.le_refl _))
  clear hb1
  have O1 := Lib.hid ho1; clear ho1
  clear Hd
  have hba := belowAlloc v1 (.cells #[.int .i64 h, .int .i64 l, .slice p1 n1 c1] 33)
  replace Acc := Lib.hid (belowTrans Acc.out hba (Nat.le_refl _))
  replace O1 := Lib.hid (O1.out.keep hba)
  have M5 := Lib.hid (Blk.new v1 h l p1 n1 c1 33)
  clear hba
  by_cases hk : BankOk ⟨h, l, xs⟩
  · skip
    have hst := fun W hA => impl_StepBank h l p1 n1 c1 xs W hA
    have hss := fun W hA => spec_StepBank h l p1 n1 c1 xs W hA
    have m1 : mStepBank ⟨h, l, xs⟩ = (stepB ⟨h, l, xs⟩, madeB ⟨h, l, xs⟩, true) := by unfold mStepBank; rw [if_pos (bank_iff.2 hk)]
    simp only [m1] at hst hss
    have hsk := (step_ok hk).1
    have hsum := (step_ok hk).2.1
    have hmb := (step_ok hk).2.2
    have hz0 := ages_zero hk
    have hzn := fun i => ages_next hk (i := i)
    have hsl := step_left hk
    have hbk := ages_back hk
    have hal := agesL_length ⟨h, l, xs⟩
    have hal2 := agesL_length (stepB ⟨h, l, xs⟩)
    have hhh : (stepB ⟨h, l, xs⟩).h = h := rfl
    have h1h : 1 ≤ h ∧ h ≤ 10 := hk.1
    have hl0 : 0 ≤ l ∧ l ≤ h - 1 := hk.2.1
    have hxl := O1.out.length
    have hx28 : xs.length ≤ 28 := hk.len
    have hib := fun W (hA : IntsAt W p1 n1 c1 xs) => isBank_any h l p1 n1 c1 xs W hA
    have hcb := fun W (hA : IntsAt W p1 n1 c1 xs) => impl_BankCards h l p1 n1 c1 xs W hA
    have hab := fun W (hA : IntsAt W p1 n1 c1 xs) => impl_AgesOf h l p1 n1 c1 xs W hA
    unfold bankV at hib hcb hab
    simp only [bank_iff.2 hk, mCards_yes hk, mAges_yes hk] at hib hcb hab
    clear m1
    generalize stepB ⟨h, l, xs⟩ = B2 at *
    generalize madeB ⟨h, l, xs⟩ = M at *
    generalize agesL ⟨h, l, xs⟩ = A at *
    obtain ⟨h2, l2, p2⟩ := B2
    simp only at hst hss hsum hsl hbk hal hal2 hhh
    subst hhh
    have hin := fun a n c W (hA : IntsAt W a n c p2) => isBank_any h2 l2 a n c p2 W hA
    have hcn := fun a n c W (hA : IntsAt W a n c p2) => impl_BankCards h2 l2 a n c p2 W hA
    have han := fun a n c W (hA : IntsAt W a n c p2) => impl_AgesOf h2 l2 a n c p2 W hA
    unfold bankV at hin hcn han
    simp only [bank_iff.2 hsk, mCards_yes hsk, mAges_yes hsk] at hin hcn han
    rw [hsum] at hcn
    have hl2 : 0 ≤ l2 ∧ l2 ≤ h2 - 1 := hsk.2.1
    generalize agesL ⟨h2, l2, p2⟩ = A2 at *
    generalize l + xs.sum = S at *
    have hfb := fun a n c W (hA : IntsAt W a n c A) => impl_FromAges h2 l a n c A W hA
    simp only [hbk] at hfb
    rw [hxl] at hsl
    have hn28 : (n1 : Int) ≤ 28 := by omega
    have hM0 : 0 ≤ M * h2 := Int.mul_nonneg hmb.1 (by omega)
    have hMb : 0 ≤ M * h2 ∧ M * h2 ≤ 100 := by omega
    clear hM0
    have hw1 : wrap64 (M * h2) = M * h2 := IntWalk.wrap64_in _ (by omega)
    have hHp : 0 < h2.toNat := by omega
    clear hbk hsum hsk hk hx28
    have Hst := Lib.hid hst; clear hst
    have Hss := Lib.hid hss; clear hss
    have Hz0 := Lib.hid hz0; clear hz0
    have Hzn := Lib.hid hzn; clear hzn
    have Hsl := Lib.hid hsl; clear hsl
    have Hal := Lib.hid hal; clear hal
    have Hal2 := Lib.hid hal2; clear hal2
    have Hxl := Lib.hid hxl; clear hxl
    have Hib := Lib.hid hib; clear hib
    have Hcb := Lib.hid hcb; clear hcb
    have Hab := Lib.hid hab; clear hab
    have Hin := Lib.hid hin; clear hin
    have Hcn := Lib.hid hcn; clear hcn
    have Han := Lib.hid han; clear han
    have Hfb := Lib.hid hfb; clear hfb
    have HHp := Lib.hid hHp; clear hHp
    obtain ⟨⟨x0_0, x0_1, x0_2⟩, x0_3, x0_4, x0_5⟩ := M5.out.cells
    go_wp2_with fail
    with_reducible refine (Hst.out _ O1.out.at).mono ?_
    rintro e v2 ⟨a2, n2, c2, rfl, ho2, hb2⟩
    clear x0_0 x0_1 x0_2 x0_3 x0_4 x0_5
    have sz2 : v1.heap.size + 1 ≤ v2.heap.size := by have := hb2.size; simpa using this
    replace Acc := Lib.hid (belowTrans Acc.out hb2 (Nat.le_refl _))
    replace O1 := Lib.hid (O1.out.keep hb2)
    replace M5 := Lib.hid (M5.out.keep hb2)
    clear hb2
    have O2 := Lib.hid ho2; clear ho2
    have hba := belowAlloc v2 (.cells #[.int .i64 h2, .int .i64 l2, .slice a2 n2 c2] 33)
    replace Acc := Lib.hid (belowTrans Acc.out hba (Nat.le_refl _))
    replace O1 := Lib.hid (O1.out.keep hba)
    replace M5 := Lib.hid (M5.out.keep hba)
    replace O2 := Lib.hid (O2.out.keep hba)
    have M6 := Lib.hid (Blk.new v2 h2 l2 a2 n2 c2 33)
    clear hba
    obtain ⟨⟨x0_0, x0_1, x0_2⟩, x0_3, x0_4, x0_5⟩ := M5.out.cells
    go_wp2_with fail
    with_reducible refine (Hss.out _ O1.out.at).mono ?_
    rintro e v3 ⟨a9, n9, c9, rfl, ho9, hb3⟩
    clear x0_0 x0_1 x0_2 x0_3 x0_4 x0_5
    have sz3 : v2.heap.size + 1 ≤ v3.heap.size := by have := hb3.size; simpa using this
    replace Acc := Lib.hid (belowTrans Acc.out hb3 (Nat.le_refl _))
    replace O1 := Lib.hid (O1.out.keep hb3)
    replace M5 := Lib.hid (M5.out.keep hb3)
    replace O2 := Lib.hid (O2.out.keep hb3)
    replace M6 := Lib.hid (M6.out.keep hb3)
    clear hb3
    have O9 := Lib.hid ho9; clear ho9
    have hba := belowAlloc v3 (.cells #[.int .i64 h2, .int .i64 l2, .slice a9 n9 c9] 33)
    replace Acc := Lib.hid (belowTrans Acc.out hba (Nat.le_refl _))
    replace O1 := Lib.hid (O1.out.keep hba)
    replace M5 := Lib.hid (M5.out.keep hba)
    replace O2 := Lib.hid (O2.out.keep hba)
    replace M6 := Lib.hid (M6.out.keep hba)
    replace O9 := Lib.hid (O9.out.keep hba)
    have M9 := Lib.hid (Blk.new v3 h2 l2 a9 n9 c9 33)
    clear hba
    clear Hst Hss
    have hxb := xBank_any (h2) (l2) (h2) (l2) a2 a9 n2 n9 c2 c9 (p2) (p2) _ O2.out.at O9.out.at
    rw [decide_eq_true rfl] at hxb
    have Hxb := Lib.hid hxb; clear hxb
    obtain ⟨⟨x0_0, x0_1, x0_2⟩, x0_3, x0_4, x0_5⟩ := M6.out.cells
    obtain ⟨⟨x1_0, x1_1, x1_2⟩, x1_3, x1_4, x1_5⟩ := M9.out.cells
    go_wp2_with fail
    with_reducible refine (Hxb.out).mono ?_
    rintro e v4 ⟨rfl, hb4⟩
    clear x0_0 x0_1 x0_2 x0_3 x0_4 x0_5
    clear x1_0 x1_1 x1_2 x1_3 x1_4 x1_5
    have sz4 : v3.heap.size + 1 ≤ v4.heap.size := by have := hb4.size; simpa using this
    replace Acc := Lib.hid (belowTrans Acc.out hb4 (Nat.le_refl _))
    replace O1 := Lib.hid (O1.out.keep hb4)
    replace M5 := Lib.hid (M5.out.keep hb4)
    replace O2 := Lib.hid (O2.out.keep hb4)
    replace M6 := Lib.hid (M6.out.keep hb4)
    replace O9 := Lib.hid (O9.out.keep hb4)
    replace M9 := Lib.hid (M9.out.keep hb4)
    clear hb4
    clear Hxb
    clear O9
    clear M9
    obtain ⟨⟨x0_0, x0_1, x0_2⟩, x0_3, x0_4, x0_5⟩ := M5.out.cells
    go_wp2_with fail
    with_reducible refine (Hib.out _ O1.out.at).mono ?_
    rintro e v5 ⟨rfl, hb5⟩
    clear x0_0 x0_1 x0_2 x0_3 x0_4 x0_5
    have sz5 : v4.heap.size ≤ v5.heap.size := by have := hb5.size; simpa using this
    replace Acc := Lib.hid (belowTrans Acc.out hb5 (Nat.le_refl _))
    replace O1 := Lib.hid (O1.out.keep hb5)
    replace M5 := Lib.hid (M5.out.keep hb5)
    replace O2 := Lib.hid (O2.out.keep hb5)
    replace M6 := Lib.hid (M6.out.keep hb5)
    clear hb5
    obtain ⟨⟨x0_0, x0_1, x0_2⟩, x0_3, x0_4, x0_5⟩ := M5.out.cells
    go_wp2_with fail
    with_reducible refine (Hcb.out _ O1.out.at).mono ?_
    rintro e v6 ⟨rfl, hb6⟩
    clear x0_0 x0_1 x0_2 x0_3 x0_4 x0_5
    have sz6 : v5.heap.size ≤ v6.heap.size := by have := hb6.size; simpa using this
    replace Acc := Lib.hid (belowTrans Acc.out hb6 (Nat.le_refl _))
    replace O1 := Lib.hid (O1.out.keep hb6)
    replace M5 := Lib.hid (M5.out.keep hb6)
    replace O2 := Lib.hid (O2.out.keep hb6)
    replace M6 := Lib.hid (M6.out.keep hb6)
    clear hb6
    obtain ⟨⟨x0_0, x0_1, x0_2⟩, x0_3, x0_4, x0_5⟩ := M6.out.cells
    go_wp2_with fail
    with_reducible refine (Hcn.out _ _ _ _ O2.out.at).mono ?_
    rintro e v7 ⟨rfl, hb7⟩
    clear x0_0 x0_1 x0_2 x0_3 x0_4 x0_5
    have sz7 : v6.heap.size ≤ v7.heap.size := by have := hb7.size; simpa using this
    replace Acc := Lib.hid (belowTrans Acc.out hb7 (Nat.le_refl _))
    replace O1 := Lib.hid (O1.out.keep hb7)
    replace M5 := Lib.hid (M5.out.keep hb7)
    replace O2 := Lib.hid (O2.out.keep hb7)
    replace M6 := Lib.hid (M6.out.keep hb7)
    clear hb7
    obtain ⟨⟨x0_0, x0_1, x0_2⟩, x0_3, x0_4, x0_5⟩ := M5.out.cells
    go_wp2_with fail
    with_reducible refine (Hab.out _ O1.out.at).mono ?_
    rintro e v8 ⟨pa, na, ca, rfl, hoa, hb8⟩
    clear x0_0 x0_1 x0_2 x0_3 x0_4 x0_5
    have sz8 : v7.heap.size ≤ v8.heap.size := by have := hb8.size; simpa using this
    replace Acc := Lib.hid (belowTrans Acc.out hb8 (Nat.le_refl _))
    replace O1 := Lib.hid (O1.out.keep hb8)
    replace M5 := Lib.hid (M5.out.keep hb8)
    replace O2 := Lib.hid (O2.out.keep hb8)
    replace M6 := Lib.hid (M6.out.keep hb8)
    clear hb8
    have Oa := Lib.hid hoa; clear hoa
    obtain ⟨⟨x0_0, x0_1, x0_2⟩, x0_3, x0_4, x0_5⟩ := M6.out.cells
    go_wp2_with fail
    with_reducible refine (Han.out _ _ _ _ O2.out.at).mono ?_
    rintro e v9 ⟨pb, nb, cb, rfl, hob, hb9⟩
    clear x0_0 x0_1 x0_2 x0_3 x0_4 x0_5
    have sz9 : v8.heap.size ≤ v9.heap.size := by have := hb9.size; simpa using this
    replace Acc := Lib.hid (belowTrans Acc.out hb9 (Nat.le_refl _))
    replace O1 := Lib.hid (O1.out.keep hb9)
    replace M5 := Lib.hid (M5.out.keep hb9)
    replace O2 := Lib.hid (O2.out.keep hb9)
    replace M6 := Lib.hid (M6.out.keep hb9)
    replace Oa := Lib.hid (Oa.out.keep hb9)
    clear hb9
    have Ob := Lib.hid hob; clear hob
    clear Hib Hcb Hcn Hab Han
    obtain rfl : nb = na := by
      have q1 := Oa.out.length
      have q2 := Ob.out.length
      rw [Hal.out] at q1
      rw [Hal2.out] at q2
      omega
    have hnb : 0 < nb := by have q1 := Oa.out.length; rw [Hal.out] at q1; have := HHp.out; omega
    obtain ⟨bb, ob_, e_, _, hc_⟩ := Ob.out.at.cell 0 hnb
    cases e_
    have hcz := hc_ 0 hnb
    clear hc_
    rw [Hz0.out, Nat.add_zero] at hcz
    have hnbi : (0 : Int) < (nb : Int) := by omega
    have hsl2 := Hsl.out
    have hw2 : wrap64 (l2 + M * h2) = l2 + M * h2 := IntWalk.wrap64_in _ (by omega)
    obtain ⟨⟨x0_0, x0_1, x0_2⟩, x0_3, x0_4, x0_5⟩ := M5.out.cells
    obtain ⟨⟨x1_0, x1_1, x1_2⟩, x1_3, x1_4, x1_5⟩ := M6.out.cells
    go_wp2_with fail
    with_reducible refine (Hin.out _ _ _ _ O2.out.at).mono ?_
    rintro e v10 ⟨rfl, hb10⟩
    clear x0_0 x0_1 x0_2 x0_3 x0_4 x0_5
    clear x1_0 x1_1 x1_2 x1_3 x1_4 x1_5
    have sz10 : v9.heap.size ≤ v10.heap.size := by have := hb10.size; simpa using this
    replace Acc := Lib.hid (belowTrans Acc.out hb10 (Nat.le_refl _))
    replace O1 := Lib.hid (O1.out.keep hb10)
    replace M5 := Lib.hid (M5.out.keep hb10)
    replace O2 := Lib.hid (O2.out.keep hb10)
    replace M6 := Lib.hid (M6.out.keep hb10)
    replace Oa := Lib.hid (Oa.out.keep hb10)
    replace Ob := Lib.hid (Ob.out.keep hb10)
    clear hb10
    clear Hin hcz hsl2 hw1 hw2
    clear O2
    clear M6
    have hnl := Ob.out.at.lenInt
    obtain ⟨wo, hwo⟩ : ∃ wo : World, wo = v10 := ⟨_, rfl⟩
    subst hwo
    go_wp2_with fail
    go_loopw [20] (fun i wr => ∃ J : Nat, i = .int .i64 ((J : Int) + 1) ∧ J + 1 ≤ nb ∧ Hid (Below w.heap.size w wr) ∧ Hid (Below wo.heap.size wo wr)) (fun i _ => nb - (intOf i).toNat)
    case atStart => exact ⟨0, rfl, by omega, Acc, Lib.hid (Below.refl _ _)⟩
    case round =>
      obtain ⟨J, rfl, hJ, Hbw, Hbo⟩ := hrel
      have hJi : (J : Int) + 1 ≤ 9223372036854775807 := by omega
      by_cases hlt : J + 1 < nb
      · have hlti : (J : Int) + 1 < (nb : Int) := by omega
        have hval := Hzn.out J (by have q1 := Oa.out.length; rw [Hal.out] at q1; show J + 1 < h2.toNat; omega)
        have ha9 := (Oa.out.keep Hbo.out).at
        have hb9 := (Ob.out.keep Hbo.out).at
        obtain ⟨ba, oa, e_, _, hc_⟩ := ha9.cell J (by omega)
        cases e_
        have hca := hc_ J (by omega)
        clear hc_
        obtain ⟨bb, ob2, e_, _, hc_⟩ := hb9.cell (J + 1) hlt
        simp only [Option.some.injEq, Addr.mk.injEq, and_true] at e_
        obtain ⟨rfl, rfl⟩ := e_
        have hcb := hc_ (J + 1) hlt
        clear hc_
        rw [hval] at hcb
        clear hval ha9 hb9
        generalize A.getD J 0 = X at *
        go_wp2_with fail
        go_quiet (fail)
        go_wp2
        go_roundw
        case rel => exact ⟨J + 1, by go_num, by omega, Lib.hid (belowDrewN Hbw.out _), Lib.hid (belowDrewN Hbo.out _)⟩
        case measure => simp [intOf] <;> omega
      · have hd : ¬ (J : Int) + 1 < (nb : Int) := by omega
        skip
        clear Acc
        have Acc := Hbw; clear Hbw
        replace O1 := Lib.hid (O1.out.keep Hbo.out)
        replace M5 := Lib.hid (M5.out.keep Hbo.out)
        replace Oa := Lib.hid (Oa.out.keep Hbo.out)
        replace Ob := Lib.hid (Ob.out.keep Hbo.out)
        have szr := Hbo.out.size
        clear Hbo
        clear Hz0 Hzn Hsl Hal Hal2
        obtain ⟨⟨x0_0, x0_1, x0_2⟩, x0_3, x0_4, x0_5⟩ := M5.out.cells
        go_wp2_with fail
        with_reducible refine (Hfb.out _ _ _ _ Oa.out.at).mono ?_
        rintro e v11 ⟨pk, nk, ck, rfl, hok, hb11⟩
        clear x0_0 x0_1 x0_2 x0_3 x0_4 x0_5
        have sz11 : wr.heap.size ≤ v11.heap.size := by have := hb11.size; simpa using this
        replace Acc := Lib.hid (belowTrans Acc.out hb11 (Nat.le_refl _))
        replace O1 := Lib.hid (O1.out.keep hb11)
        replace M5 := Lib.hid (M5.out.keep hb11)
        replace Oa := Lib.hid (Oa.out.keep hb11)
        replace Ob := Lib.hid (Ob.out.keep hb11)
        clear hb11
        have Ok := Lib.hid hok; clear hok
        have hba := belowAlloc v11 (.cells #[.int .i64 h2, .int .i64 l, .slice pk nk ck] 33)
        replace Acc := Lib.hid (belowTrans Acc.out hba (Nat.le_refl _))
        replace O1 := Lib.hid (O1.out.keep hba)
        replace M5 := Lib.hid (M5.out.keep hba)
        replace Oa := Lib.hid (Oa.out.keep hba)
        replace Ob := Lib.hid (Ob.out.keep hba)
        replace Ok := Lib.hid (Ok.out.keep hba)
        have Mk := Lib.hid (Blk.new v11 h2 l pk nk ck 33)
        clear hba
        clear Hfb
        have hxb := xBank_any (h2) (l) (h2) (l) pk p1 nk n1 ck c1 (xs) (xs) _ Ok.out.at O1.out.at
        rw [decide_eq_true rfl] at hxb
        have Hxb := Lib.hid hxb; clear hxb
        obtain ⟨⟨x0_0, x0_1, x0_2⟩, x0_3, x0_4, x0_5⟩ := Mk.out.cells
        obtain ⟨⟨x1_0, x1_1, x1_2⟩, x1_3, x1_4, x1_5⟩ := M5.out.cells
        go_wp2_with fail
        with_reducible refine (Hxb.out).mono ?_
        rintro e v12 ⟨rfl, hb12⟩
        clear x0_0 x0_1 x0_2 x0_3 x0_4 x0_5
        clear x1_0 x1_1 x1_2 x1_3 x1_4 x1_5
        have sz12 : v11.heap.size + 1 ≤ v12.heap.size := by have := hb12.size; simpa using this
        replace Acc := Lib.hid (belowTrans Acc.out hb12 (Nat.le_refl _))
        replace O1 := Lib.hid (O1.out.keep hb12)
        replace M5 := Lib.hid (M5.out.keep hb12)
        replace Oa := Lib.hid (Oa.out.keep hb12)
        replace Ob := Lib.hid (Ob.out.keep hb12)
        replace Ok := Lib.hid (Ok.out.keep hb12)
        replace Mk := Lib.hid (Mk.out.keep hb12)
        clear hb12
        clear Hxb
        clear Ok
        clear Mk
        clear Oa
        clear Ob
        clear O1
        clear M5
        go_wp2_with fail
        with_reducible refine (Hf.out _ Acc.out).mono ?_
        rintro e v13 ⟨H, Lf, p3, n3, c3, ys, rfl, hH, hL, ho3, hn3, hb13⟩
        have sz13 : v12.heap.size ≤ v13.heap.size := by have := hb13.size; simpa using this
        replace Acc := Lib.hid (belowTrans Acc.out hb13 (Nat.le_refl _))
        clear hb13
        have O3 := Lib.hid ho3; clear ho3
        clear Hf
        have hi := fun W hA => impl_FromAges (H : Int) (Lf : Int) p3 n3 c3 ys W hA
        have hs := fun W hA => spec_FromAges (H : Int) (Lf : Int) p3 n3 c3 ys W hA
        have hfact := fun q => ages_of_from (h := (H : Int)) (l := (Lf : Int)) (ages := ys) q
        cases hq : (mFromAges (H : Int) (Lf : Int) ys).2
        · skip
          simp only [hq] at hi hs
          clear hfact hq
          generalize (mFromAges (H : Int) (Lf : Int) ys).1 = C at *
          obtain ⟨h3, l3, q3⟩ := C
          simp only at hi hs
          have Hi := Lib.hid hi; clear hi
          have Hs := Lib.hid hs; clear hs
          go_wp2_with fail
          with_reducible refine (Hi.out _ O3.out.at).mono ?_
          rintro e v14 ⟨pi, ni, ci, rfl, hoi, hb14⟩
          have sz14 : v13.heap.size ≤ v14.heap.size := by have := hb14.size; simpa using this
          replace Acc := Lib.hid (belowTrans Acc.out hb14 (Nat.le_refl _))
          replace O3 := Lib.hid (O3.out.keep hb14)
          clear hb14
          have Oi := Lib.hid hoi; clear hoi
          have hba := belowAlloc v14 (.cells #[.int .i64 h3, .int .i64 l3, .slice pi ni ci] 33)
          replace Acc := Lib.hid (belowTrans Acc.out hba (Nat.le_refl _))
          replace O3 := Lib.hid (O3.out.keep hba)
          replace Oi := Lib.hid (Oi.out.keep hba)
          have Mi := Lib.hid (Blk.new v14 h3 l3 pi ni ci 33)
          clear hba
          go_wp2_with fail
          with_reducible refine (Hs.out _ O3.out.at).mono ?_
          rintro e v15 ⟨ps, ns, cs, rfl, hos, hb15⟩
          have sz15 : v14.heap.size + 1 ≤ v15.heap.size := by have := hb15.size; simpa using this
          replace Acc := Lib.hid (belowTrans Acc.out hb15 (Nat.le_refl _))
          replace O3 := Lib.hid (O3.out.keep hb15)
          replace Oi := Lib.hid (Oi.out.keep hb15)
          replace Mi := Lib.hid (Mi.out.keep hb15)
          clear hb15
          have Os := Lib.hid hos; clear hos
          have hba := belowAlloc v15 (.cells #[.int .i64 h3, .int .i64 l3, .slice ps ns cs] 33)
          replace Acc := Lib.hid (belowTrans Acc.out hba (Nat.le_refl _))
          replace O3 := Lib.hid (O3.out.keep hba)
          replace Oi := Lib.hid (Oi.out.keep hba)
          replace Mi := Lib.hid (Mi.out.keep hba)
          replace Os := Lib.hid (Os.out.keep hba)
          have Ms := Lib.hid (Blk.new v15 h3 l3 ps ns cs 33)
          clear hba
          clear Hi Hs
          have hxb := xBank_any (h3) (l3) (h3) (l3) pi ps ni ns ci cs (q3) (q3) _ Oi.out.at Os.out.at
          rw [decide_eq_true rfl] at hxb
          have Hxb := Lib.hid hxb; clear hxb
          obtain ⟨⟨x0_0, x0_1, x0_2⟩, x0_3, x0_4, x0_5⟩ := Mi.out.cells
          obtain ⟨⟨x1_0, x1_1, x1_2⟩, x1_3, x1_4, x1_5⟩ := Ms.out.cells
          go_wp2_with fail
          with_reducible refine (Hxb.out).mono ?_
          rintro e v16 ⟨rfl, hb16⟩
          clear x0_0 x0_1 x0_2 x0_3 x0_4 x0_5
          clear x1_0 x1_1 x1_2 x1_3 x1_4 x1_5
          have sz16 : v15.heap.size + 1 ≤ v16.heap.size := by have := hb16.size; simpa using this
          replace Acc := Lib.hid (belowTrans Acc.out hb16 (Nat.le_refl _))
          replace O3 := Lib.hid (O3.out.keep hb16)
          replace Oi := Lib.hid (Oi.out.keep hb16)
          replace Mi := Lib.hid (Mi.out.keep hb16)
          replace Os := Lib.hid (Os.out.keep hb16)
          replace Ms := Lib.hid (Ms.out.keep hb16)
          clear hb16
          clear Hxb
          clear Oi
          clear Os
          clear Mi
          clear Ms
          clear O3
          go_wp2_with fail
          with_reducible refine (Hg.out _ Acc.out).mono ?_
          rintro e v17 ⟨m, k, rfl, hm, hk, hb17⟩
          have sz17 : v16.heap.size ≤ v17.heap.size := by have := hb17.size; simpa using this
          replace Acc := Lib.hid (belowTrans Acc.out hb17 (Nat.le_refl _))
          clear hb17
          clear Hg
          have hi := fun W => impl_StartBank m k W
          have hs := fun W => spec_StartBank m k W
          have hfact := start_fact m k
          cases hq : (mStartBank m k).2
          · skip
            simp only [hq] at hi hs
            generalize (mStartBank m k).1 = D at *
            obtain ⟨h4, l4, q4⟩ := D
            simp only at hi hs
            clear hq hfact
            have Hi := Lib.hid hi; clear hi
            have Hs := Lib.hid hs; clear hs
            go_wp2_with fail
            with_reducible refine (Hi.out _).mono ?_
            rintro e v18 ⟨pi, ni, ci, rfl, hoi, hb18⟩
            have sz18 : v17.heap.size ≤ v18.heap.size := by have := hb18.size; simpa using this
            replace Acc := Lib.hid (belowTrans Acc.out hb18 (Nat.le_refl _))
            clear hb18
            have Oi := Lib.hid hoi; clear hoi
            have hba := belowAlloc v18 (.cells #[.int .i64 h4, .int .i64 l4, .slice pi ni ci] 33)
            replace Acc := Lib.hid (belowTrans Acc.out hba (Nat.le_refl _))
            replace Oi := Lib.hid (Oi.out.keep hba)
            have Mi := Lib.hid (Blk.new v18 h4 l4 pi ni ci 33)
            clear hba
            go_wp2_with fail
            with_reducible refine (Hi.out _).mono ?_
            rintro e v19 ⟨pj, nj, cj, rfl, hoj, hb19⟩
            have sz19 : v18.heap.size + 1 ≤ v19.heap.size := by have := hb19.size; simpa using this
            replace Acc := Lib.hid (belowTrans Acc.out hb19 (Nat.le_refl _))
            replace Oi := Lib.hid (Oi.out.keep hb19)
            replace Mi := Lib.hid (Mi.out.keep hb19)
            clear hb19
            have Oj := Lib.hid hoj; clear hoj
            have hba := belowAlloc v19 (.cells #[.int .i64 h4, .int .i64 l4, .slice pj nj cj] 33)
            replace Acc := Lib.hid (belowTrans Acc.out hba (Nat.le_refl _))
            replace Oi := Lib.hid (Oi.out.keep hba)
            replace Mi := Lib.hid (Mi.out.keep hba)
            replace Oj := Lib.hid (Oj.out.keep hba)
            have Mj := Lib.hid (Blk.new v19 h4 l4 pj nj cj 33)
            clear hba
            go_wp2_with fail
            with_reducible refine (Hs.out _).mono ?_
            rintro e v20 ⟨ps, ns, cs, rfl, hos, hb20⟩
            have sz20 : v19.heap.size + 1 ≤ v20.heap.size := by have := hb20.size; simpa using this
            replace Acc := Lib.hid (belowTrans Acc.out hb20 (Nat.le_refl _))
            replace Oi := Lib.hid (Oi.out.keep hb20)
            replace Mi := Lib.hid (Mi.out.keep hb20)
            replace Oj := Lib.hid (Oj.out.keep hb20)
            replace Mj := Lib.hid (Mj.out.keep hb20)
            clear hb20
            have Os := Lib.hid hos; clear hos
            have hba := belowAlloc v20 (.cells #[.int .i64 h4, .int .i64 l4, .slice ps ns cs] 33)
            replace Acc := Lib.hid (belowTrans Acc.out hba (Nat.le_refl _))
            replace Oi := Lib.hid (Oi.out.keep hba)
            replace Mi := Lib.hid (Mi.out.keep hba)
            replace Oj := Lib.hid (Oj.out.keep hba)
            replace Mj := Lib.hid (Mj.out.keep hba)
            replace Os := Lib.hid (Os.out.keep hba)
            have Ms := Lib.hid (Blk.new v20 h4 l4 ps ns cs 33)
            clear hba
            have hxb := xBank_any (h4) (l4) (h4) (l4) pi ps ni ns ci cs (q4) (q4) _ Oi.out.at Os.out.at
            rw [decide_eq_true rfl] at hxb
            have Hxb := Lib.hid hxb; clear hxb
            obtain ⟨⟨x0_0, x0_1, x0_2⟩, x0_3, x0_4, x0_5⟩ := Mi.out.cells
            obtain ⟨⟨x1_0, x1_1, x1_2⟩, x1_3, x1_4, x1_5⟩ := Ms.out.cells
            go_wp2_with fail
            with_reducible refine (Hxb.out).mono ?_
            rintro e v21 ⟨rfl, hb21⟩
            clear x0_0 x0_1 x0_2 x0_3 x0_4 x0_5
            clear x1_0 x1_1 x1_2 x1_3 x1_4 x1_5
            have sz21 : v20.heap.size + 1 ≤ v21.heap.size := by have := hb21.size; simpa using this
            replace Acc := Lib.hid (belowTrans Acc.out hb21 (Nat.le_refl _))
            replace Oi := Lib.hid (Oi.out.keep hb21)
            replace Mi := Lib.hid (Mi.out.keep hb21)
            replace Oj := Lib.hid (Oj.out.keep hb21)
            replace Mj := Lib.hid (Mj.out.keep hb21)
            replace Os := Lib.hid (Os.out.keep hb21)
            replace Ms := Lib.hid (Ms.out.keep hb21)
            clear hb21
            clear Hxb
            have hxb := xBank_any (h4) (l4) (h4) (l4) pj pi nj ni cj ci (q4) (q4) _ Oj.out.at Oi.out.at
            rw [decide_eq_true rfl] at hxb
            have Hxb := Lib.hid hxb; clear hxb
            obtain ⟨⟨x0_0, x0_1, x0_2⟩, x0_3, x0_4, x0_5⟩ := Mj.out.cells
            obtain ⟨⟨x1_0, x1_1, x1_2⟩, x1_3, x1_4, x1_5⟩ := Mi.out.cells
            go_wp2_with fail
            with_reducible refine (Hxb.out).mono ?_
            rintro e v22 ⟨rfl, hb22⟩
            clear x0_0 x0_1 x0_2 x0_3 x0_4 x0_5
            clear x1_0 x1_1 x1_2 x1_3 x1_4 x1_5
            have sz22 : v21.heap.size ≤ v22.heap.size := by have := hb22.size; simpa using this
            replace Acc := Lib.hid (belowTrans Acc.out hb22 (Nat.le_refl _))
            replace Oi := Lib.hid (Oi.out.keep hb22)
            replace Mi := Lib.hid (Mi.out.keep hb22)
            replace Oj := Lib.hid (Oj.out.keep hb22)
            replace Mj := Lib.hid (Mj.out.keep hb22)
            replace Os := Lib.hid (Os.out.keep hb22)
            replace Ms := Lib.hid (Ms.out.keep hb22)
            clear hb22
            clear Hxb
            go_wp2
            go_ret
            exact ⟨rfl, Acc.out⟩
          · skip
            simp only [hq] at hi hs
            have hq2 := hfact hq
            generalize (mStartBank m k).1 = D at *
            obtain ⟨h4, l4, q4⟩ := D
            simp only at hi hs
            clear hq hfact
            obtain ⟨hq3, hq4, hq5⟩ := hq2
            simp only at hq3 hq5
            subst hq3
            have hcd := fun a n c W (hA : IntsAt W a n c q4) => impl_BankCards h4 l4 a n c q4 W hA
            unfold bankV at hcd
            simp only [mCards_yes hq4] at hcd
            rw [hq5] at hcd
            clear hq4 hq5
            have Hcd := Lib.hid hcd; clear hcd
            have Hi := Lib.hid hi; clear hi
            have Hs := Lib.hid hs; clear hs
            go_wp2_with fail
            with_reducible refine (Hi.out _).mono ?_
            rintro e v18 ⟨pi, ni, ci, rfl, hoi, hb18⟩
            have sz18 : v17.heap.size ≤ v18.heap.size := by have := hb18.size; simpa using this
            replace Acc := Lib.hid (belowTrans Acc.out hb18 (Nat.le_refl _))
            clear hb18
            have Oi := Lib.hid hoi; clear hoi
            have hba := belowAlloc v18 (.cells #[.int .i64 h4, .int .i64 l4, .slice pi ni ci] 33)
            replace Acc := Lib.hid (belowTrans Acc.out hba (Nat.le_refl _))
            replace Oi := Lib.hid (Oi.out.keep hba)
            have Mi := Lib.hid (Blk.new v18 h4 l4 pi ni ci 33)
            clear hba
            go_wp2_with fail
            with_reducible refine (Hi.out _).mono ?_
            rintro e v19 ⟨pj, nj, cj, rfl, hoj, hb19⟩
            have sz19 : v18.heap.size + 1 ≤ v19.heap.size := by have := hb19.size; simpa using this
            replace Acc := Lib.hid (belowTrans Acc.out hb19 (Nat.le_refl _))
            replace Oi := Lib.hid (Oi.out.keep hb19)
            replace Mi := Lib.hid (Mi.out.keep hb19)
            clear hb19
            have Oj := Lib.hid hoj; clear hoj
            have hba := belowAlloc v19 (.cells #[.int .i64 h4, .int .i64 l4, .slice pj nj cj] 33)
            replace Acc := Lib.hid (belowTrans Acc.out hba (Nat.le_refl _))
            replace Oi := Lib.hid (Oi.out.keep hba)
            replace Mi := Lib.hid (Mi.out.keep hba)
            replace Oj := Lib.hid (Oj.out.keep hba)
            have Mj := Lib.hid (Blk.new v19 h4 l4 pj nj cj 33)
            clear hba
            go_wp2_with fail
            with_reducible refine (Hs.out _).mono ?_
            rintro e v20 ⟨ps, ns, cs, rfl, hos, hb20⟩
            have sz20 : v19.heap.size + 1 ≤ v20.heap.size := by have := hb20.size; simpa using this
            replace Acc := Lib.hid (belowTrans Acc.out hb20 (Nat.le_refl _))
            replace Oi := Lib.hid (Oi.out.keep hb20)
            replace Mi := Lib.hid (Mi.out.keep hb20)
            replace Oj := Lib.hid (Oj.out.keep hb20)
            replace Mj := Lib.hid (Mj.out.keep hb20)
            clear hb20
            have Os := Lib.hid hos; clear hos
            have hba := belowAlloc v20 (.cells #[.int .i64 h4, .int .i64 l4, .slice ps ns cs] 33)
            replace Acc := Lib.hid (belowTrans Acc.out hba (Nat.le_refl _))
            replace Oi := Lib.hid (Oi.out.keep hba)
            replace Mi := Lib.hid (Mi.out.keep hba)
            replace Oj := Lib.hid (Oj.out.keep hba)
            replace Mj := Lib.hid (Mj.out.keep hba)
            replace Os := Lib.hid (Os.out.keep hba)
            have Ms := Lib.hid (Blk.new v20 h4 l4 ps ns cs 33)
            clear hba
            have hxb := xBank_any (h4) (l4) (h4) (l4) pi ps ni ns ci cs (q4) (q4) _ Oi.out.at Os.out.at
            rw [decide_eq_true rfl] at hxb
            have Hxb := Lib.hid hxb; clear hxb
            obtain ⟨⟨x0_0, x0_1, x0_2⟩, x0_3, x0_4, x0_5⟩ := Mi.out.cells
            obtain ⟨⟨x1_0, x1_1, x1_2⟩, x1_3, x1_4, x1_5⟩ := Ms.out.cells
            go_wp2_with fail
            with_reducible refine (Hxb.out).mono ?_
            rintro e v21 ⟨rfl, hb21⟩
            clear x0_0 x0_1 x0_2 x0_3 x0_4 x0_5
            clear x1_0 x1_1 x1_2 x1_3 x1_4 x1_5
            have sz21 : v20.heap.size + 1 ≤ v21.heap.size := by have := hb21.size; simpa using this
            replace Acc := Lib.hid (belowTrans Acc.out hb21 (Nat.le_refl _))
            replace Oi := Lib.hid (Oi.out.keep hb21)
            replace Mi := Lib.hid (Mi.out.keep hb21)
            replace Oj := Lib.hid (Oj.out.keep hb21)
            replace Mj := Lib.hid (Mj.out.keep hb21)
            replace Os := Lib.hid (Os.out.keep hb21)
            replace Ms := Lib.hid (Ms.out.keep hb21)
            clear hb21
            clear Hxb
            have hxb := xBank_any (h4) (l4) (h4) (l4) pj pi nj ni cj ci (q4) (q4) _ Oj.out.at Oi.out.at
            rw [decide_eq_true rfl] at hxb
            have Hxb := Lib.hid hxb; clear hxb
            obtain ⟨⟨x0_0, x0_1, x0_2⟩, x0_3, x0_4, x0_5⟩ := Mj.out.cells
            obtain ⟨⟨x1_0, x1_1, x1_2⟩, x1_3, x1_4, x1_5⟩ := Mi.out.cells
            go_wp2_with fail
            with_reducible refine (Hxb.out).mono ?_
            rintro e v22 ⟨rfl, hb22⟩
            clear x0_0 x0_1 x0_2 x0_3 x0_4 x0_5
            clear x1_0 x1_1 x1_2 x1_3 x1_4 x1_5
            have sz22 : v21.heap.size ≤ v22.heap.size := by have := hb22.size; simpa using this
            replace Acc := Lib.hid (belowTrans Acc.out hb22 (Nat.le_refl _))
            replace Oi := Lib.hid (Oi.out.keep hb22)
            replace Mi := Lib.hid (Mi.out.keep hb22)
            replace Oj := Lib.hid (Oj.out.keep hb22)
            replace Mj := Lib.hid (Mj.out.keep hb22)
            replace Os := Lib.hid (Os.out.keep hb22)
            replace Ms := Lib.hid (Ms.out.keep hb22)
            clear hb22
            clear Hxb
            obtain ⟨⟨x0_0, x0_1, x0_2⟩, x0_3, x0_4, x0_5⟩ := Mi.out.cells
            go_wp2_with fail
            with_reducible refine (Hcd.out _ _ _ _ Oi.out.at).mono ?_
            rintro e v23 ⟨rfl, hb23⟩
            clear x0_0 x0_1 x0_2 x0_3 x0_4 x0_5
            have sz23 : v22.heap.size ≤ v23.heap.size := by have := hb23.size; simpa using this
            replace Acc := Lib.hid (belowTrans Acc.out hb23 (Nat.le_refl _))
            replace Oi := Lib.hid (Oi.out.keep hb23)
            replace Mi := Lib.hid (Mi.out.keep hb23)
            replace Oj := Lib.hid (Oj.out.keep hb23)
            replace Mj := Lib.hid (Mj.out.keep hb23)
            replace Os := Lib.hid (Os.out.keep hb23)
            replace Ms := Lib.hid (Ms.out.keep hb23)
            clear hb23
            obtain ⟨⟨x0_0, x0_1, x0_2⟩, x0_3, x0_4, x0_5⟩ := Mi.out.cells
            go_wp2
            go_ret
            exact ⟨by simp, Acc.out⟩
        · skip
          simp only [hq] at hi hs
          obtain ⟨hq1, hq2⟩ := hfact hq
          clear hfact hq
          generalize (mFromAges (H : Int) (Lf : Int) ys).1 = C at *
          obtain ⟨h3, l3, q3⟩ := C
          simp only at hi hs
          have hao := fun a n c W (hA : IntsAt W a n c q3) => impl_AgesOf h3 l3 a n c q3 W hA
          unfold bankV at hao
          simp only [mAges_yes hq1, hq2] at hao
          clear hq1 hq2
          have Hao := Lib.hid hao; clear hao
          have Hi := Lib.hid hi; clear hi
          have Hs := Lib.hid hs; clear hs
          go_wp2_with fail
          with_reducible refine (Hi.out _ O3.out.at).mono ?_
          rintro e v14 ⟨pi, ni, ci, rfl, hoi, hb14⟩
          have sz14 : v13.heap.size ≤ v14.heap.size := by have := hb14.size; simpa using this
          replace Acc := Lib.hid (belowTrans Acc.out hb14 (Nat.le_refl _))
          replace O3 := Lib.hid (O3.out.keep hb14)
          clear hb14
          have Oi := Lib.hid hoi; clear hoi
          have hba := belowAlloc v14 (.cells #[.int .i64 h3, .int .i64 l3, .slice pi ni ci] 33)
          replace Acc := Lib.hid (belowTrans Acc.out hba (Nat.le_refl _))
          replace O3 := Lib.hid (O3.out.keep hba)
          replace Oi := Lib.hid (Oi.out.keep hba)
          have Mi := Lib.hid (Blk.new v14 h3 l3 pi ni ci 33)
          clear hba
          go_wp2_with fail
          with_reducible refine (Hs.out _ O3.out.at).mono ?_
          rintro e v15 ⟨ps, ns, cs, rfl, hos, hb15⟩
          have sz15 : v14.heap.size + 1 ≤ v15.heap.size := by have := hb15.size; simpa using this
          replace Acc := Lib.hid (belowTrans Acc.out hb15 (Nat.le_refl _))
          replace O3 := Lib.hid (O3.out.keep hb15)
          replace Oi := Lib.hid (Oi.out.keep hb15)
          replace Mi := Lib.hid (Mi.out.keep hb15)
          clear hb15
          have Os := Lib.hid hos; clear hos
          have hba := belowAlloc v15 (.cells #[.int .i64 h3, .int .i64 l3, .slice ps ns cs] 33)
          replace Acc := Lib.hid (belowTrans Acc.out hba (Nat.le_refl _))
          replace O3 := Lib.hid (O3.out.keep hba)
          replace Oi := Lib.hid (Oi.out.keep hba)
          replace Mi := Lib.hid (Mi.out.keep hba)
          replace Os := Lib.hid (Os.out.keep hba)
          have Ms := Lib.hid (Blk.new v15 h3 l3 ps ns cs 33)
          clear hba
          clear Hi Hs
          have hxb := xBank_any (h3) (l3) (h3) (l3) pi ps ni ns ci cs (q3) (q3) _ Oi.out.at Os.out.at
          rw [decide_eq_true rfl] at hxb
          have Hxb := Lib.hid hxb; clear hxb
          obtain ⟨⟨x0_0, x0_1, x0_2⟩, x0_3, x0_4, x0_5⟩ := Mi.out.cells
          obtain ⟨⟨x1_0, x1_1, x1_2⟩, x1_3, x1_4, x1_5⟩ := Ms.out.cells
          go_wp2_with fail
          with_reducible refine (Hxb.out).mono ?_
          rintro e v16 ⟨rfl, hb16⟩
          clear x0_0 x0_1 x0_2 x0_3 x0_4 x0_5
          clear x1_0 x1_1 x1_2 x1_3 x1_4 x1_5
          have sz16 : v15.heap.size + 1 ≤ v16.heap.size := by have := hb16.size; simpa using this
          replace Acc := Lib.hid (belowTrans Acc.out hb16 (Nat.le_refl _))
          replace O3 := Lib.hid (O3.out.keep hb16)
          replace Oi := Lib.hid (Oi.out.keep hb16)
          replace Mi := Lib.hid (Mi.out.keep hb16)
          replace Os := Lib.hid (Os.out.keep hb16)
          replace Ms := Lib.hid (Ms.out.keep hb16)
          clear hb16
          clear Hxb
          obtain ⟨⟨x0_0, x0_1, x0_2⟩, x0_3, x0_4, x0_5⟩ := Mi.out.cells
          go_wp2_with fail
          with_reducible refine (Hao.out _ _ _ _ Oi.out.at).mono ?_
          rintro e v17 ⟨pa, na, ca, rfl, hoa, hb17⟩
          clear x0_0 x0_1 x0_2 x0_3 x0_4 x0_5
          have sz17 : v16.heap.size ≤ v17.heap.size := by have := hb17.size; simpa using this
          replace Acc := Lib.hid (belowTrans Acc.out hb17 (Nat.le_refl _))
          replace O3 := Lib.hid (O3.out.keep hb17)
          replace Oi := Lib.hid (Oi.out.keep hb17)
          replace Mi := Lib.hid (Mi.out.keep hb17)
          replace Os := Lib.hid (Os.out.keep hb17)
          replace Ms := Lib.hid (Ms.out.keep hb17)
          clear hb17
          have Oa := Lib.hid hoa; clear hoa
          clear Hao
          have hc := xSame_any _ _ _ _ _ _ _ _ _ Oa.out.at O3.out.at
          rw [decide_eq_true rfl] at hc
          have Hc := Lib.hid hc; clear hc
          go_wp2_with fail
          with_reducible refine (Hc.out).mono ?_
          rintro e v18 ⟨rfl, hb18⟩
          have sz18 : v17.heap.size ≤ v18.heap.size := by have := hb18.size; simpa using this
          replace Acc := Lib.hid (belowTrans Acc.out hb18 (Nat.le_refl _))
          replace O3 := Lib.hid (O3.out.keep hb18)
          replace Oi := Lib.hid (Oi.out.keep hb18)
          replace Mi := Lib.hid (Mi.out.keep hb18)
          replace Os := Lib.hid (Os.out.keep hb18)
          replace Ms := Lib.hid (Ms.out.keep hb18)
          replace Oa := Lib.hid (Oa.out.keep hb18)
          clear hb18
          clear Hc
          clear Oa
          clear Oi
          clear Os
          clear Mi
          clear Ms
          clear O3
          go_wp2_with fail
          with_reducible refine (Hg.out _ Acc.out).mono ?_
          rintro e v19 ⟨m, k, rfl, hm, hk, hb19⟩
          have sz19 : v18.heap.size ≤ v19.heap.size := by have := hb19.size; simpa using this
          replace Acc := Lib.hid (belowTrans Acc.out hb19 (Nat.le_refl _))
          clear hb19
          clear Hg
          have hi := fun W => impl_StartBank m k W
          have hs := fun W => spec_StartBank m k W
          have hfact := start_fact m k
          cases hq : (mStartBank m k).2
          · skip
            simp only [hq] at hi hs
            generalize (mStartBank m k).1 = D at *
            obtain ⟨h4, l4, q4⟩ := D
            simp only at hi hs
            clear hq hfact
            have Hi := Lib.hid hi; clear hi
            have Hs := Lib.hid hs; clear hs
            go_wp2_with fail
            with_reducible refine (Hi.out _).mono ?_
            rintro e v20 ⟨pi, ni, ci, rfl, hoi, hb20⟩
            have sz20 : v19.heap.size ≤ v20.heap.size := by have := hb20.size; simpa using this
            replace Acc := Lib.hid (belowTrans Acc.out hb20 (Nat.le_refl _))
            clear hb20
            have Oi := Lib.hid hoi; clear hoi
            have hba := belowAlloc v20 (.cells #[.int .i64 h4, .int .i64 l4, .slice pi ni ci] 33)
            replace Acc := Lib.hid (belowTrans Acc.out hba (Nat.le_refl _))
            replace Oi := Lib.hid (Oi.out.keep hba)
            have Mi := Lib.hid (Blk.new v20 h4 l4 pi ni ci 33)
            clear hba
            go_wp2_with fail
            with_reducible refine (Hi.out _).mono ?_
            rintro e v21 ⟨pj, nj, cj, rfl, hoj, hb21⟩
            have sz21 : v20.heap.size + 1 ≤ v21.heap.size := by have := hb21.size; simpa using this
            replace Acc := Lib.hid (belowTrans Acc.out hb21 (Nat.le_refl _))
            replace Oi := Lib.hid (Oi.out.keep hb21)
            replace Mi := Lib.hid (Mi.out.keep hb21)
            clear hb21
            have Oj := Lib.hid hoj; clear hoj
            have hba := belowAlloc v21 (.cells #[.int .i64 h4, .int .i64 l4, .slice pj nj cj] 33)
            replace Acc := Lib.hid (belowTrans Acc.out hba (Nat.le_refl _))
            replace Oi := Lib.hid (Oi.out.keep hba)
            replace Mi := Lib.hid (Mi.out.keep hba)
            replace Oj := Lib.hid (Oj.out.keep hba)
            have Mj := Lib.hid (Blk.new v21 h4 l4 pj nj cj 33)
            clear hba
            go_wp2_with fail
            with_reducible refine (Hs.out _).mono ?_
            rintro e v22 ⟨ps, ns, cs, rfl, hos, hb22⟩
            have sz22 : v21.heap.size + 1 ≤ v22.heap.size := by have := hb22.size; simpa using this
            replace Acc := Lib.hid (belowTrans Acc.out hb22 (Nat.le_refl _))
            replace Oi := Lib.hid (Oi.out.keep hb22)
            replace Mi := Lib.hid (Mi.out.keep hb22)
            replace Oj := Lib.hid (Oj.out.keep hb22)
            replace Mj := Lib.hid (Mj.out.keep hb22)
            clear hb22
            have Os := Lib.hid hos; clear hos
            have hba := belowAlloc v22 (.cells #[.int .i64 h4, .int .i64 l4, .slice ps ns cs] 33)
            replace Acc := Lib.hid (belowTrans Acc.out hba (Nat.le_refl _))
            replace Oi := Lib.hid (Oi.out.keep hba)
            replace Mi := Lib.hid (Mi.out.keep hba)
            replace Oj := Lib.hid (Oj.out.keep hba)
            replace Mj := Lib.hid (Mj.out.keep hba)
            replace Os := Lib.hid (Os.out.keep hba)
            have Ms := Lib.hid (Blk.new v22 h4 l4 ps ns cs 33)
            clear hba
            have hxb := xBank_any (h4) (l4) (h4) (l4) pi ps ni ns ci cs (q4) (q4) _ Oi.out.at Os.out.at
            rw [decide_eq_true rfl] at hxb
            have Hxb := Lib.hid hxb; clear hxb
            obtain ⟨⟨x0_0, x0_1, x0_2⟩, x0_3, x0_4, x0_5⟩ := Mi.out.cells
            obtain ⟨⟨x1_0, x1_1, x1_2⟩, x1_3, x1_4, x1_5⟩ := Ms.out.cells
            go_wp2_with fail
            with_reducible refine (Hxb.out).mono ?_
            rintro e v23 ⟨rfl, hb23⟩
            clear x0_0 x0_1 x0_2 x0_3 x0_4 x0_5
            clear x1_0 x1_1 x1_2 x1_3 x1_4 x1_5
            have sz23 : v22.heap.size + 1 ≤ v23.heap.size := by have := hb23.size; simpa using this
            replace Acc := Lib.hid (belowTrans Acc.out hb23 (Nat.le_refl _))
            replace Oi := Lib.hid (Oi.out.keep hb23)
            replace Mi := Lib.hid (Mi.out.keep hb23)
            replace Oj := Lib.hid (Oj.out.keep hb23)
            replace Mj := Lib.hid (Mj.out.keep hb23)
            replace Os := Lib.hid (Os.out.keep hb23)
            replace Ms := Lib.hid (Ms.out.keep hb23)
            clear hb23
            clear Hxb
            have hxb := xBank_any (h4) (l4) (h4) (l4) pj pi nj ni cj ci (q4) (q4) _ Oj.out.at Oi.out.at
            rw [decide_eq_true rfl] at hxb
            have Hxb := Lib.hid hxb; clear hxb
            obtain ⟨⟨x0_0, x0_1, x0_2⟩, x0_3, x0_4, x0_5⟩ := Mj.out.cells
            obtain ⟨⟨x1_0, x1_1, x1_2⟩, x1_3, x1_4, x1_5⟩ := Mi.out.cells
            go_wp2_with fail
            with_reducible refine (Hxb.out).mono ?_
            rintro e v24 ⟨rfl, hb24⟩
            clear x0_0 x0_1 x0_2 x0_3 x0_4 x0_5
            clear x1_0 x1_1 x1_2 x1_3 x1_4 x1_5
            have sz24 : v23.heap.size ≤ v24.heap.size := by have := hb24.size; simpa using this
            replace Acc := Lib.hid (belowTrans Acc.out hb24 (Nat.le_refl _))
            replace Oi := Lib.hid (Oi.out.keep hb24)
            replace Mi := Lib.hid (Mi.out.keep hb24)
            replace Oj := Lib.hid (Oj.out.keep hb24)
            replace Mj := Lib.hid (Mj.out.keep hb24)
            replace Os := Lib.hid (Os.out.keep hb24)
            replace Ms := Lib.hid (Ms.out.keep hb24)
            clear hb24
            clear Hxb
            go_wp2
            go_ret
            exact ⟨rfl, Acc.out⟩
          · skip
            simp only [hq] at hi hs
            have hq2 := hfact hq
            generalize (mStartBank m k).1 = D at *
            obtain ⟨h4, l4, q4⟩ := D
            simp only at hi hs
            clear hq hfact
            obtain ⟨hq3, hq4, hq5⟩ := hq2
            simp only at hq3 hq5
            subst hq3
            have hcd := fun a n c W (hA : IntsAt W a n c q4) => impl_BankCards h4 l4 a n c q4 W hA
            unfold bankV at hcd
            simp only [mCards_yes hq4] at hcd
            rw [hq5] at hcd
            clear hq4 hq5
            have Hcd := Lib.hid hcd; clear hcd
            have Hi := Lib.hid hi; clear hi
            have Hs := Lib.hid hs; clear hs
            go_wp2_with fail
            with_reducible refine (Hi.out _).mono ?_
            rintro e v20 ⟨pi, ni, ci, rfl, hoi, hb20⟩
            have sz20 : v19.heap.size ≤ v20.heap.size := by have := hb20.size; simpa using this
            replace Acc := Lib.hid (belowTrans Acc.out hb20 (Nat.le_refl _))
            clear hb20
            have Oi := Lib.hid hoi; clear hoi
            have hba := belowAlloc v20 (.cells #[.int .i64 h4, .int .i64 l4, .slice pi ni ci] 33)
            replace Acc := Lib.hid (belowTrans Acc.out hba (Nat.le_refl _))
            replace Oi := Lib.hid (Oi.out.keep hba)
            have Mi := Lib.hid (Blk.new v20 h4 l4 pi ni ci 33)
            clear hba
            go_wp2_with fail
            with_reducible refine (Hi.out _).mono ?_
            rintro e v21 ⟨pj, nj, cj, rfl, hoj, hb21⟩
            have sz21 : v20.heap.size + 1 ≤ v21.heap.size := by have := hb21.size; simpa using this
            replace Acc := Lib.hid (belowTrans Acc.out hb21 (Nat.le_refl _))
            replace Oi := Lib.hid (Oi.out.keep hb21)
            replace Mi := Lib.hid (Mi.out.keep hb21)
            clear hb21
            have Oj := Lib.hid hoj; clear hoj
            have hba := belowAlloc v21 (.cells #[.int .i64 h4, .int .i64 l4, .slice pj nj cj] 33)
            replace Acc := Lib.hid (belowTrans Acc.out hba (Nat.le_refl _))
            replace Oi := Lib.hid (Oi.out.keep hba)
            replace Mi := Lib.hid (Mi.out.keep hba)
            replace Oj := Lib.hid (Oj.out.keep hba)
            have Mj := Lib.hid (Blk.new v21 h4 l4 pj nj cj 33)
            clear hba
            go_wp2_with fail
            with_reducible refine (Hs.out _).mono ?_
            rintro e v22 ⟨ps, ns, cs, rfl, hos, hb22⟩
            have sz22 : v21.heap.size + 1 ≤ v22.heap.size := by have := hb22.size; simpa using this
            replace Acc := Lib.hid (belowTrans Acc.out hb22 (Nat.le_refl _))
            replace Oi := Lib.hid (Oi.out.keep hb22)
            replace Mi := Lib.hid (Mi.out.keep hb22)
            replace Oj := Lib.hid (Oj.out.keep hb22)
            replace Mj := Lib.hid (Mj.out.keep hb22)
            clear hb22
            have Os := Lib.hid hos; clear hos
            have hba := belowAlloc v22 (.cells #[.int .i64 h4, .int .i64 l4, .slice ps ns cs] 33)
            replace Acc := Lib.hid (belowTrans Acc.out hba (Nat.le_refl _))
            replace Oi := Lib.hid (Oi.out.keep hba)
            replace Mi := Lib.hid (Mi.out.keep hba)
            replace Oj := Lib.hid (Oj.out.keep hba)
            replace Mj := Lib.hid (Mj.out.keep hba)
            replace Os := Lib.hid (Os.out.keep hba)
            have Ms := Lib.hid (Blk.new v22 h4 l4 ps ns cs 33)
            clear hba
            have hxb := xBank_any (h4) (l4) (h4) (l4) pi ps ni ns ci cs (q4) (q4) _ Oi.out.at Os.out.at
            rw [decide_eq_true rfl] at hxb
            have Hxb := Lib.hid hxb; clear hxb
            obtain ⟨⟨x0_0, x0_1, x0_2⟩, x0_3, x0_4, x0_5⟩ := Mi.out.cells
            obtain ⟨⟨x1_0, x1_1, x1_2⟩, x1_3, x1_4, x1_5⟩ := Ms.out.cells
            go_wp2_with fail
            with_reducible refine (Hxb.out).mono ?_
            rintro e v23 ⟨rfl, hb23⟩
            clear x0_0 x0_1 x0_2 x0_3 x0_4 x0_5
            clear x1_0 x1_1 x1_2 x1_3 x1_4 x1_5
            have sz23 : v22.heap.size + 1 ≤ v23.heap.size := by have := hb23.size; simpa using this
            replace Acc := Lib.hid (belowTrans Acc.out hb23 (Nat.le_refl _))
            replace Oi := Lib.hid (Oi.out.keep hb23)
            replace Mi := Lib.hid (Mi.out.keep hb23)
            replace Oj := Lib.hid (Oj.out.keep hb23)
            replace Mj := Lib.hid (Mj.out.keep hb23)
            replace Os := Lib.hid (Os.out.keep hb23)
            replace Ms := Lib.hid (Ms.out.keep hb23)
            clear hb23
            clear Hxb
            have hxb := xBank_any (h4) (l4) (h4) (l4) pj pi nj ni cj ci (q4) (q4) _ Oj.out.at Oi.out.at
            rw [decide_eq_true rfl] at hxb
            have Hxb := Lib.hid hxb; clear hxb
            obtain ⟨⟨x0_0, x0_1, x0_2⟩, x0_3, x0_4, x0_5⟩ := Mj.out.cells
            obtain ⟨⟨x1_0, x1_1, x1_2⟩, x1_3, x1_4, x1_5⟩ := Mi.out.cells
            go_wp2_with fail
            with_reducible refine (Hxb.out).mono ?_
            rintro e v24 ⟨rfl, hb24⟩
            clear x0_0 x0_1 x0_2 x0_3 x0_4 x0_5
            clear x1_0 x1_1 x1_2 x1_3 x1_4 x1_5
            have sz24 : v23.heap.size ≤ v24.heap.size := by have := hb24.size; simpa using this
            replace Acc := Lib.hid (belowTrans Acc.out hb24 (Nat.le_refl _))
            replace Oi := Lib.hid (Oi.out.keep hb24)
            replace Mi := Lib.hid (Mi.out.keep hb24)
            replace Oj := Lib.hid (Oj.out.keep hb24)
            replace Mj := Lib.hid (Mj.out.keep hb24)
            replace Os := Lib.hid (Os.out.keep hb24)
            replace Ms := Lib.hid (Ms.out.keep hb24)
            clear hb24
            clear Hxb
            obtain ⟨⟨x0_0, x0_1, x0_2⟩, x0_3, x0_4, x0_5⟩ := Mi.out.cells
            go_wp2_with fail
            with_reducible refine (Hcd.out _ _ _ _ Oi.out.at).mono ?_
            rintro e v25 ⟨rfl, hb25⟩
            clear x0_0 x0_1 x0_2 x0_3 x0_4 x0_5
            have sz25 : v24.heap.size ≤ v25.heap.size := by have := hb25.size; simpa using this
            replace Acc := Lib.hid (belowTrans Acc.out hb25 (Nat.le_refl _))
            replace Oi := Lib.hid (Oi.out.keep hb25)
            replace Mi := Lib.hid (Mi.out.keep hb25)
            replace Oj := Lib.hid (Oj.out.keep hb25)
            replace Mj := Lib.hid (Mj.out.keep hb25)
            replace Os := Lib.hid (Os.out.keep hb25)
            replace Ms := Lib.hid (Ms.out.keep hb25)
            clear hb25
            obtain ⟨⟨x0_0, x0_1, x0_2⟩, x0_3, x0_4, x0_5⟩ := Mi.out.cells
            go_wp2
            go_ret
            exact ⟨by simp, Acc.out⟩
  · skip
    have hst := fun W hA => impl_StepBank h l p1 n1 c1 xs W hA
    have hss := fun W hA => spec_StepBank h l p1 n1 c1 xs W hA
    have m1 : mStepBank ⟨h, l, xs⟩ = (noBk, 0, false) := by unfold mStepBank; rw [if_neg (fun q => hk (bank_iff.1 q))]
    simp only [m1] at hst hss
    have hib := fun W (hA : IntsAt W p1 n1 c1 xs) => isBank_any h l p1 n1 c1 xs W hA
    unfold bankV at hib
    simp only [bank_no.2 hk] at hib
    clear m1 hk
    generalize noBk = B2 at *
    obtain ⟨h2, l2, p2⟩ := B2
    simp only at hst hss
    have Hst := Lib.hid hst; clear hst
    have Hss := Lib.hid hss; clear hss
    have Hib := Lib.hid hib; clear hib
    obtain ⟨⟨x0_0, x0_1, x0_2⟩, x0_3, x0_4, x0_5⟩ := M5.out.cells
    go_wp2_with fail
    with_reducible refine (Hst.out _ O1.out.at).mono ?_
    rintro e v2 ⟨a2, n2, c2, rfl, ho2, hb2⟩
    clear x0_0 x0_1 x0_2 x0_3 x0_4 x0_5
    have sz2 : v1.heap.size + 1 ≤ v2.heap.size := by have := hb2.size; simpa using this
    replace Acc := Lib.hid (belowTrans Acc.out hb2 (Nat.le_refl _))
    replace O1 := Lib.hid (O1.out.keep hb2)
    replace M5 := Lib.hid (M5.out.keep hb2)
    clear hb2
    have O2 := Lib.hid ho2; clear ho2
    have hba := belowAlloc v2 (.cells #[.int .i64 h2, .int .i64 l2, .slice a2 n2 c2] 33)
    replace Acc := Lib.hid (belowTrans Acc.out hba (Nat.le_refl _))
    replace O1 := Lib.hid (O1.out.keep hba)
    replace M5 := Lib.hid (M5.out.keep hba)
    replace O2 := Lib.hid (O2.out.keep hba)
    have M6 := Lib.hid (Blk.new v2 h2 l2 a2 n2 c2 33)
    clear hba
    obtain ⟨⟨x0_0, x0_1, x0_2⟩, x0_3, x0_4, x0_5⟩ := M5.out.cells
    go_wp2_with fail
    with_reducible refine (Hss.out _ O1.out.at).mono ?_
    rintro e v3 ⟨a9, n9, c9, rfl, ho9, hb3⟩
    clear x0_0 x0_1 x0_2 x0_3 x0_4 x0_5
    have sz3 : v2.heap.size + 1 ≤ v3.heap.size := by have := hb3.size; simpa using this
    replace Acc := Lib.hid (belowTrans Acc.out hb3 (Nat.le_refl _))
    replace O1 := Lib.hid (O1.out.keep hb3)
    replace M5 := Lib.hid (M5.out.keep hb3)
    replace O2 := Lib.hid (O2.out.keep hb3)
    replace M6 := Lib.hid (M6.out.keep hb3)
    clear hb3
    have O9 := Lib.hid ho9; clear ho9
    have hba := belowAlloc v3 (.cells #[.int .i64 h2, .int .i64 l2, .slice a9 n9 c9] 33)
    replace Acc := Lib.hid (belowTrans Acc.out hba (Nat.le_refl _))
    replace O1 := Lib.hid (O1.out.keep hba)
    replace M5 := Lib.hid (M5.out.keep hba)
    replace O2 := Lib.hid (O2.out.keep hba)
    replace M6 := Lib.hid (M6.out.keep hba)
    replace O9 := Lib.hid (O9.out.keep hba)
    have M9 := Lib.hid (Blk.new v3 h2 l2 a9 n9 c9 33)
    clear hba
    clear Hst Hss
    have hxb := xBank_any (h2) (l2) (h2) (l2) a2 a9 n2 n9 c2 c9 (p2) (p2) _ O2.out.at O9.out.at
    rw [decide_eq_true rfl] at hxb
    have Hxb := Lib.hid hxb; clear hxb
    obtain ⟨⟨x0_0, x0_1, x0_2⟩, x0_3, x0_4, x0_5⟩ := M6.out.cells
    obtain ⟨⟨x1_0, x1_1, x1_2⟩, x1_3, x1_4, x1_5⟩ := M9.out.cells
    go_wp2_with fail
    with_reducible refine (Hxb.out).mono ?_
    rintro e v4 ⟨rfl, hb4⟩
    clear x0_0 x0_1 x0_2 x0_3 x0_4 x0_5
    clear x1_0 x1_1 x1_2 x1_3 x1_4 x1_5
    have sz4 : v3.heap.size + 1 ≤ v4.heap.size := by have := hb4.size; simpa using this
    replace Acc := Lib.hid (belowTrans Acc.out hb4 (Nat.le_refl _))
    replace O1 := Lib.hid (O1.out.keep hb4)
    replace M5 := Lib.hid (M5.out.keep hb4)
    replace O2 := Lib.hid (O2.out.keep hb4)
    replace M6 := Lib.hid (M6.out.keep hb4)
    replace O9 := Lib.hid (O9.out.keep hb4)
    replace M9 := Lib.hid (M9.out.keep hb4)
    clear hb4
    clear Hxb
    clear O9
    clear M9
    clear O2
    clear M6
    obtain ⟨⟨x0_0, x0_1, x0_2⟩, x0_3, x0_4, x0_5⟩ := M5.out.cells
    go_wp2_with fail
    with_reducible refine (Hib.out _ O1.out.at).mono ?_
    rintro e v5 ⟨rfl, hb5⟩
    clear x0_0 x0_1 x0_2 x0_3 x0_4 x0_5
    have sz5 : v4.heap.size ≤ v5.heap.size := by have := hb5.size; simpa using this
    replace Acc := Lib.hid (belowTrans Acc.out hb5 (Nat.le_refl _))
    replace O1 := Lib.hid (O1.out.keep hb5)
    replace M5 := Lib.hid (M5.out.keep hb5)
    clear hb5
    clear Hib
    clear O1
    clear M5
    go_wp2_with fail
    with_reducible refine (Hf.out _ Acc.out).mono ?_
    rintro e v6 ⟨H, Lf, p3, n3, c3, ys, rfl, hH, hL, ho3, hn3, hb6⟩
    have sz6 : v5.heap.size ≤ v6.heap.size := by have := hb6.size; simpa using this
    replace Acc := Lib.hid (belowTrans Acc.out hb6 (Nat.le_refl _))
    clear hb6
    have O3 := Lib.hid ho3; clear ho3
    clear Hf
    have hi := fun W hA => impl_FromAges (H : Int) (Lf : Int) p3 n3 c3 ys W hA
    have hs := fun W hA => spec_FromAges (H : Int) (Lf : Int) p3 n3 c3 ys W hA
    have hfact := fun q => ages_of_from (h := (H : Int)) (l := (Lf : Int)) (ages := ys) q
    cases hq : (mFromAges (H : Int) (Lf : Int) ys).2
    · skip
      simp only [hq] at hi hs
      clear hfact hq
      generalize (mFromAges (H : Int) (Lf : Int) ys).1 = C at *
      obtain ⟨h3, l3, q3⟩ := C
      simp only at hi hs
      have Hi := Lib.hid hi; clear hi
      have Hs := Lib.hid hs; clear hs
      go_wp2_with fail
      with_reducible refine (Hi.out _ O3.out.at).mono ?_
      rintro e v7 ⟨pi, ni, ci, rfl, hoi, hb7⟩
      have sz7 : v6.heap.size ≤ v7.heap.size := by have := hb7.size; simpa using this
      replace Acc := Lib.hid (belowTrans Acc.out hb7 (Nat.le_refl _))
      replace O3 := Lib.hid (O3.out.keep hb7)
      clear hb7
      have Oi := Lib.hid hoi; clear hoi
      have hba := belowAlloc v7 (.cells #[.int .i64 h3, .int .i64 l3, .slice pi ni ci] 33)
      replace Acc := Lib.hid (belowTrans Acc.out hba (Nat.le_refl _))
      replace O3 := Lib.hid (O3.out.keep hba)
      replace Oi := Lib.hid (Oi.out.keep hba)
      have Mi := Lib.hid (Blk.new v7 h3 l3 pi ni ci 33)
      clear hba
      go_wp2_with fail
      with_reducible refine (Hs.out _ O3.out.at).mono ?_
      rintro e v8 ⟨ps, ns, cs, rfl, hos, hb8⟩
      have sz8 : v7.heap.size + 1 ≤ v8.heap.size := by have := hb8.size; simpa using this
      replace Acc := Lib.hid (belowTrans Acc.out hb8 (Nat.le_refl _))
      replace O3 := Lib.hid (O3.out.keep hb8)
      replace Oi := Lib.hid (Oi.out.keep hb8)
      replace Mi := Lib.hid (Mi.out.keep hb8)
      clear hb8
      have Os := Lib.hid hos; clear hos
      have hba := belowAlloc v8 (.cells #[.int .i64 h3, .int .i64 l3, .slice ps ns cs] 33)
      replace Acc := Lib.hid (belowTrans Acc.out hba (Nat.le_refl _))
      replace O3 := Lib.hid (O3.out.keep hba)
      replace Oi := Lib.hid (Oi.out.keep hba)
      replace Mi := Lib.hid (Mi.out.keep hba)
      replace Os := Lib.hid (Os.out.keep hba)
      have Ms := Lib.hid (Blk.new v8 h3 l3 ps ns cs 33)
      clear hba
      clear Hi Hs
      have hxb := xBank_any (h3) (l3) (h3) (l3) pi ps ni ns ci cs (q3) (q3) _ Oi.out.at Os.out.at
      rw [decide_eq_true rfl] at hxb
      have Hxb := Lib.hid hxb; clear hxb
      obtain ⟨⟨x0_0, x0_1, x0_2⟩, x0_3, x0_4, x0_5⟩ := Mi.out.cells
      obtain ⟨⟨x1_0, x1_1, x1_2⟩, x1_3, x1_4, x1_5⟩ := Ms.out.cells
      go_wp2_with fail
      with_reducible refine (Hxb.out).mono ?_
      rintro e v9 ⟨rfl, hb9⟩
      clear x0_0 x0_1 x0_2 x0_3 x0_4 x0_5
      clear x1_0 x1_1 x1_2 x1_3 x1_4 x1_5
      have sz9 : v8.heap.size + 1 ≤ v9.heap.size := by have := hb9.size; simpa using this
      replace Acc := Lib.hid (belowTrans Acc.out hb9 (Nat.le_refl _))
      replace O3 := Lib.hid (O3.out.keep hb9)
      replace Oi := Lib.hid (Oi.out.keep hb9)
      replace Mi := Lib.hid (Mi.out.keep hb9)
      replace Os := Lib.hid (Os.out.keep hb9)
      replace Ms := Lib.hid (Ms.out.keep hb9)
      clear hb9
      clear Hxb
      clear Oi
      clear Os
      clear Mi
      clear Ms
      clear O3
      go_wp2_with fail
      with_reducible refine (Hg.out _ Acc.out).mono ?_
      rintro e v10 ⟨m, k, rfl, hm, hk, hb10⟩
      have sz10 : v9.heap.size ≤ v10.heap.size := by have := hb10.size; simpa using this
      replace Acc := Lib.hid (belowTrans Acc.out hb10 (Nat.le_refl _))
      clear hb10
      clear Hg
      have hi := fun W => impl_StartBank m k W
      have hs := fun W => spec_StartBank m k W
      have hfact := start_fact m k
      cases hq : (mStartBank m k).2
      · skip
        simp only [hq] at hi hs
        generalize (mStartBank m k).1 = D at *
        obtain ⟨h4, l4, q4⟩ := D
        simp only at hi hs
        clear hq hfact
        have Hi := Lib.hid hi; clear hi
        have Hs := Lib.hid hs; clear hs
        go_wp2_with fail
        with_reducible refine (Hi.out _).mono ?_
        rintro e v11 ⟨pi, ni, ci, rfl, hoi, hb11⟩
        have sz11 : v10.heap.size ≤ v11.heap.size := by have := hb11.size; simpa using this
        replace Acc := Lib.hid (belowTrans Acc.out hb11 (Nat.le_refl _))
        clear hb11
        have Oi := Lib.hid hoi; clear hoi
        have hba := belowAlloc v11 (.cells #[.int .i64 h4, .int .i64 l4, .slice pi ni ci] 33)
        replace Acc := Lib.hid (belowTrans Acc.out hba (Nat.le_refl _))
        replace Oi := Lib.hid (Oi.out.keep hba)
        have Mi := Lib.hid (Blk.new v11 h4 l4 pi ni ci 33)
        clear hba
        go_wp2_with fail
        with_reducible refine (Hi.out _).mono ?_
        rintro e v12 ⟨pj, nj, cj, rfl, hoj, hb12⟩
        have sz12 : v11.heap.size + 1 ≤ v12.heap.size := by have := hb12.size; simpa using this
        replace Acc := Lib.hid (belowTrans Acc.out hb12 (Nat.le_refl _))
        replace Oi := Lib.hid (Oi.out.keep hb12)
        replace Mi := Lib.hid (Mi.out.keep hb12)
        clear hb12
        have Oj := Lib.hid hoj; clear hoj
        have hba := belowAlloc v12 (.cells #[.int .i64 h4, .int .i64 l4, .slice pj nj cj] 33)
        replace Acc := Lib.hid (belowTrans Acc.out hba (Nat.le_refl _))
        replace Oi := Lib.hid (Oi.out.keep hba)
        replace Mi := Lib.hid (Mi.out.keep hba)
        replace Oj := Lib.hid (Oj.out.keep hba)
        have Mj := Lib.hid (Blk.new v12 h4 l4 pj nj cj 33)
        clear hba
        go_wp2_with fail
        with_reducible refine (Hs.out _).mono ?_
        rintro e v13 ⟨ps, ns, cs, rfl, hos, hb13⟩
        have sz13 : v12.heap.size + 1 ≤ v13.heap.size := by have := hb13.size; simpa using this
        replace Acc := Lib.hid (belowTrans Acc.out hb13 (Nat.le_refl _))
        replace Oi := Lib.hid (Oi.out.keep hb13)
        replace Mi := Lib.hid (Mi.out.keep hb13)
        replace Oj := Lib.hid (Oj.out.keep hb13)
        replace Mj := Lib.hid (Mj.out.keep hb13)
        clear hb13
        have Os := Lib.hid hos; clear hos
        have hba := belowAlloc v13 (.cells #[.int .i64 h4, .int .i64 l4, .slice ps ns cs] 33)
        replace Acc := Lib.hid (belowTrans Acc.out hba (Nat.le_refl _))
        replace Oi := Lib.hid (Oi.out.keep hba)
        replace Mi := Lib.hid (Mi.out.keep hba)
        replace Oj := Lib.hid (Oj.out.keep hba)
        replace Mj := Lib.hid (Mj.out.keep hba)
        replace Os := Lib.hid (Os.out.keep hba)
        have Ms := Lib.hid (Blk.new v13 h4 l4 ps ns cs 33)
        clear hba
        have hxb := xBank_any (h4) (l4) (h4) (l4) pi ps ni ns ci cs (q4) (q4) _ Oi.out.at Os.out.at
        rw [decide_eq_true rfl] at hxb
        have Hxb := Lib.hid hxb; clear hxb
        obtain ⟨⟨x0_0, x0_1, x0_2⟩, x0_3, x0_4, x0_5⟩ := Mi.out.cells
        obtain ⟨⟨x1_0, x1_1, x1_2⟩, x1_3, x1_4, x1_5⟩ := Ms.out.cells
        go_wp2_with fail
        with_reducible refine (Hxb.out).mono ?_
        rintro e v14 ⟨rfl, hb14⟩
        clear x0_0 x0_1 x0_2 x0_3 x0_4 x0_5
        clear x1_0 x1_1 x1_2 x1_3 x1_4 x1_5
        have sz14 : v13.heap.size + 1 ≤ v14.heap.size := by have := hb14.size; simpa using this
        replace Acc := Lib.hid (belowTrans Acc.out hb14 (Nat.le_refl _))
        replace Oi := Lib.hid (Oi.out.keep hb14)
        replace Mi := Lib.hid (Mi.out.keep hb14)
        replace Oj := Lib.hid (Oj.out.keep hb14)
        replace Mj := Lib.hid (Mj.out.keep hb14)
        replace Os := Lib.hid (Os.out.keep hb14)
        replace Ms := Lib.hid (Ms.out.keep hb14)
        clear hb14
        clear Hxb
        have hxb := xBank_any (h4) (l4) (h4) (l4) pj pi nj ni cj ci (q4) (q4) _ Oj.out.at Oi.out.at
        rw [decide_eq_true rfl] at hxb
        have Hxb := Lib.hid hxb; clear hxb
        obtain ⟨⟨x0_0, x0_1, x0_2⟩, x0_3, x0_4, x0_5⟩ := Mj.out.cells
        obtain ⟨⟨x1_0, x1_1, x1_2⟩, x1_3, x1_4, x1_5⟩ := Mi.out.cells
        go_wp2_with fail
        with_reducible refine (Hxb.out).mono ?_
        rintro e v15 ⟨rfl, hb15⟩
        clear x0_0 x0_1 x0_2 x0_3 x0_4 x0_5
        clear x1_0 x1_1 x1_2 x1_3 x1_4 x1_5
        have sz15 : v14.heap.size ≤ v15.heap.size := by have := hb15.size; simpa using this
        replace Acc := Lib.hid (belowTrans Acc.out hb15 (Nat.le_refl _))
        replace Oi := Lib.hid (Oi.out.keep hb15)
        replace Mi := Lib.hid (Mi.out.keep hb15)
        replace Oj := Lib.hid (Oj.out.keep hb15)
        replace Mj := Lib.hid (Mj.out.keep hb15)
        replace Os := Lib.hid (Os.out.keep hb15)
        replace Ms := Lib.hid (Ms.out.keep hb15)
        clear hb15
        clear Hxb
        go_wp2
        go_ret
        exact ⟨rfl, Acc.out⟩
      · skip
        simp only [hq] at hi hs
        have hq2 := hfact hq
        generalize (mStartBank m k).1 = D at *
        obtain ⟨h4, l4, q4⟩ := D
        simp only at hi hs
        clear hq hfact
        obtain ⟨hq3, hq4, hq5⟩ := hq2
        simp only at hq3 hq5
        subst hq3
        have hcd := fun a n c W (hA : IntsAt W a n c q4) => impl_BankCards h4 l4 a n c q4 W hA
        unfold bankV at hcd
        simp only [mCards_yes hq4] at hcd
        rw [hq5] at hcd
        clear hq4 hq5
        have Hcd := Lib.hid hcd; clear hcd
        have Hi := Lib.hid hi; clear hi
        have Hs := Lib.hid hs; clear hs
        go_wp2_with fail
        with_reducible refine (Hi.out _).mono ?_
        rintro e v11 ⟨pi, ni, ci, rfl, hoi, hb11⟩
        have sz11 : v10.heap.size ≤ v11.heap.size := by have := hb11.size; simpa using this
        replace Acc := Lib.hid (belowTrans Acc.out hb11 (Nat.le_refl _))
        clear hb11
        have Oi := Lib.hid hoi; clear hoi
        have hba := belowAlloc v11 (.cells #[.int .i64 h4, .int .i64 l4, .slice pi ni ci] 33)
        replace Acc := Lib.hid (belowTrans Acc.out hba (Nat.le_refl _))
        replace Oi := Lib.hid (Oi.out.keep hba)
        have Mi := Lib.hid (Blk.new v11 h4 l4 pi ni ci 33)
        clear hba
        go_wp2_with fail
        with_reducible refine (Hi.out _).mono ?_
        rintro e v12 ⟨pj, nj, cj, rfl, hoj, hb12⟩
        have sz12 : v11.heap.size + 1 ≤ v12.heap.size := by have := hb12.size; simpa using this
        replace Acc := Lib.hid (belowTrans Acc.out hb12 (Nat.le_refl _))
        replace Oi := Lib.hid (Oi.out.keep hb12)
        replace Mi := Lib.hid (Mi.out.keep hb12)
        clear hb12
        have Oj := Lib.hid hoj; clear hoj
        have hba := belowAlloc v12 (.cells #[.int .i64 h4, .int .i64 l4, .slice pj nj cj] 33)
        replace Acc := Lib.hid (belowTrans Acc.out hba (Nat.le_refl _))
        replace Oi := Lib.hid (Oi.out.keep hba)
        replace Mi := Lib.hid (Mi.out.keep hba)
        replace Oj := Lib.hid (Oj.out.keep hba)
        have Mj := Lib.hid (Blk.new v12 h4 l4 pj nj cj 33)
        clear hba
        go_wp2_with fail
        with_reducible refine (Hs.out _).mono ?_
        rintro e v13 ⟨ps, ns, cs, rfl, hos, hb13⟩
        have sz13 : v12.heap.size + 1 ≤ v13.heap.size := by have := hb13.size; simpa using this
        replace Acc := Lib.hid (belowTrans Acc.out hb13 (Nat.le_refl _))
        replace Oi := Lib.hid (Oi.out.keep hb13)
        replace Mi := Lib.hid (Mi.out.keep hb13)
        replace Oj := Lib.hid (Oj.out.keep hb13)
        replace Mj := Lib.hid (Mj.out.keep hb13)
        clear hb13
        have Os := Lib.hid hos; clear hos
        have hba := belowAlloc v13 (.cells #[.int .i64 h4, .int .i64 l4, .slice ps ns cs] 33)
        replace Acc := Lib.hid (belowTrans Acc.out hba (Nat.le_refl _))
        replace Oi := Lib.hid (Oi.out.keep hba)
        replace Mi := Lib.hid (Mi.out.keep hba)
        replace Oj := Lib.hid (Oj.out.keep hba)
        replace Mj := Lib.hid (Mj.out.keep hba)
        replace Os := Lib.hid (Os.out.keep hba)
        have Ms := Lib.hid (Blk.new v13 h4 l4 ps ns cs 33)
        clear hba
        have hxb := xBank_any (h4) (l4) (h4) (l4) pi ps ni ns ci cs (q4) (q4) _ Oi.out.at Os.out.at
        rw [decide_eq_true rfl] at hxb
        have Hxb := Lib.hid hxb; clear hxb
        obtain ⟨⟨x0_0, x0_1, x0_2⟩, x0_3, x0_4, x0_5⟩ := Mi.out.cells
        obtain ⟨⟨x1_0, x1_1, x1_2⟩, x1_3, x1_4, x1_5⟩ := Ms.out.cells
        go_wp2_with fail
        with_reducible refine (Hxb.out).mono ?_
        rintro e v14 ⟨rfl, hb14⟩
        clear x0_0 x0_1 x0_2 x0_3 x0_4 x0_5
        clear x1_0 x1_1 x1_2 x1_3 x1_4 x1_5
        have sz14 : v13.heap.size + 1 ≤ v14.heap.size := by have := hb14.size; simpa using this
        replace Acc := Lib.hid (belowTrans Acc.out hb14 (Nat.le_refl _))
        replace Oi := Lib.hid (Oi.out.keep hb14)
        replace Mi := Lib.hid (Mi.out.keep hb14)
        replace Oj := Lib.hid (Oj.out.keep hb14)
        replace Mj := Lib.hid (Mj.out.keep hb14)
        replace Os := Lib.hid (Os.out.keep hb14)
        replace Ms := Lib.hid (Ms.out.keep hb14)
        clear hb14
        clear Hxb
        have hxb := xBank_any (h4) (l4) (h4) (l4) pj pi nj ni cj ci (q4) (q4) _ Oj.out.at Oi.out.at
        rw [decide_eq_true rfl] at hxb
        have Hxb := Lib.hid hxb; clear hxb
        obtain ⟨⟨x0_0, x0_1, x0_2⟩, x0_3, x0_4, x0_5⟩ := Mj.out.cells
        obtain ⟨⟨x1_0, x1_1, x1_2⟩, x1_3, x1_4, x1_5⟩ := Mi.out.cells
        go_wp2_with fail
        with_reducible refine (Hxb.out).mono ?_
        rintro e v15 ⟨rfl, hb15⟩
        clear x0_0 x0_1 x0_2 x0_3 x0_4 x0_5
        clear x1_0 x1_1 x1_2 x1_3 x1_4 x1_5
        have sz15 : v14.heap.size ≤ v15.heap.size := by have := hb15.size; simpa using this
        replace Acc := Lib.hid (belowTrans Acc.out hb15 (Nat.le_refl _))
        replace Oi := Lib.hid (Oi.out.keep hb15)
        replace Mi := Lib.hid (Mi.out.keep hb15)
        replace Oj := Lib.hid (Oj.out.keep hb15)
        replace Mj := Lib.hid (Mj.out.keep hb15)
        replace Os := Lib.hid (Os.out.keep hb15)
        replace Ms := Lib.hid (Ms.out.keep hb15)
        clear hb15
        clear Hxb
        obtain ⟨⟨x0_0, x0_1, x0_2⟩, x0_3, x0_4, x0_5⟩ := Mi.out.cells
        go_wp2_with fail
        with_reducible refine (Hcd.out _ _ _ _ Oi.out.at).mono ?_
        rintro e v16 ⟨rfl, hb16⟩
        clear x0_0 x0_1 x0_2 x0_3 x0_4 x0_5
        have sz16 : v15.heap.size ≤ v16.heap.size := by have := hb16.size; simpa using this
        replace Acc := Lib.hid (belowTrans Acc.out hb16 (Nat.le_refl _))
        replace Oi := Lib.hid (Oi.out.keep hb16)
        replace Mi := Lib.hid (Mi.out.keep hb16)
        replace Oj := Lib.hid (Oj.out.keep hb16)
        replace Mj := Lib.hid (Mj.out.keep hb16)
        replace Os := Lib.hid (Os.out.keep hb16)
        replace Ms := Lib.hid (Ms.out.keep hb16)
        clear hb16
        obtain ⟨⟨x0_0, x0_1, x0_2⟩, x0_3, x0_4, x0_5⟩ := Mi.out.cells
        go_wp2
        go_ret
        exact ⟨by simp, Acc.out⟩
    · skip
      simp only [hq] at hi hs
      obtain ⟨hq1, hq2⟩ := hfact hq
      clear hfact hq
      generalize (mFromAges (H : Int) (Lf : Int) ys).1 = C at *
      obtain ⟨h3, l3, q3⟩ := C
      simp only at hi hs
      have hao := fun a n c W (hA : IntsAt W a n c q3) => impl_AgesOf h3 l3 a n c q3 W hA
      unfold bankV at hao
      simp only [mAges_yes hq1, hq2] at hao
      clear hq1 hq2
      have Hao := Lib.hid hao; clear hao
      have Hi := Lib.hid hi; clear hi
      have Hs := Lib.hid hs; clear hs
      go_wp2_with fail
      with_reducible refine (Hi.out _ O3.out.at).mono ?_
      rintro e v7 ⟨pi, ni, ci, rfl, hoi, hb7⟩
      have sz7 : v6.heap.size ≤ v7.heap.size := by have := hb7.size; simpa using this
      replace Acc := Lib.hid (belowTrans Acc.out hb7 (Nat.le_refl _))
      replace O3 := Lib.hid (O3.out.keep hb7)
      clear hb7
      have Oi := Lib.hid hoi; clear hoi
      have hba := belowAlloc v7 (.cells #[.int .i64 h3, .int .i64 l3, .slice pi ni ci] 33)
      replace Acc := Lib.hid (belowTrans Acc.out hba (Nat.le_refl _))
      replace O3 := Lib.hid (O3.out.keep hba)
      replace Oi := Lib.hid (Oi.out.keep hba)
      have Mi := Lib.hid (Blk.new v7 h3 l3 pi ni ci 33)
      clear hba
      go_wp2_with fail
      with_reducible refine (Hs.out _ O3.out.at).mono ?_
      rintro e v8 ⟨ps, ns, cs, rfl, hos, hb8⟩
      have sz8 : v7.heap.size + 1 ≤ v8.heap.size := by have := hb8.size; simpa using this
      replace Acc := Lib.hid (belowTrans Acc.out hb8 (Nat.le_refl _))
      replace O3 := Lib.hid (O3.out.keep hb8)
      replace Oi := Lib.hid (Oi.out.keep hb8)
      replace Mi := Lib.hid (Mi.out.keep hb8)
      clear hb8
      have Os := Lib.hid hos; clear hos
      have hba := belowAlloc v8 (.cells #[.int .i64 h3, .int .i64 l3, .slice ps ns cs] 33)
      replace Acc := Lib.hid (belowTrans Acc.out hba (Nat.le_refl _))
      replace O3 := Lib.hid (O3.out.keep hba)
      replace Oi := Lib.hid (Oi.out.keep hba)
      replace Mi := Lib.hid (Mi.out.keep hba)
      replace Os := Lib.hid (Os.out.keep hba)
      have Ms := Lib.hid (Blk.new v8 h3 l3 ps ns cs 33)
      clear hba
      clear Hi Hs
      have hxb := xBank_any (h3) (l3) (h3) (l3) pi ps ni ns ci cs (q3) (q3) _ Oi.out.at Os.out.at
      rw [decide_eq_true rfl] at hxb
      have Hxb := Lib.hid hxb; clear hxb
      obtain ⟨⟨x0_0, x0_1, x0_2⟩, x0_3, x0_4, x0_5⟩ := Mi.out.cells
      obtain ⟨⟨x1_0, x1_1, x1_2⟩, x1_3, x1_4, x1_5⟩ := Ms.out.cells
      go_wp2_with fail
      with_reducible refine (Hxb.out).mono ?_
      rintro e v9 ⟨rfl, hb9⟩
      clear x0_0 x0_1 x0_2 x0_3 x0_4 x0_5
      clear x1_0 x1_1 x1_2 x1_3 x1_4 x1_5
      have sz9 : v8.heap.size + 1 ≤ v9.heap.size := by have := hb9.size; simpa using this
      replace Acc := Lib.hid (belowTrans Acc.out hb9 (Nat.le_refl _))
      replace O3 := Lib.hid (O3.out.keep hb9)
      replace Oi := Lib.hid (Oi.out.keep hb9)
      replace Mi := Lib.hid (Mi.out.keep hb9)
      replace Os := Lib.hid (Os.out.keep hb9)
      replace Ms := Lib.hid (Ms.out.keep hb9)
      clear hb9
      clear Hxb
      obtain ⟨⟨x0_0, x0_1, x0_2⟩, x0_3, x0_4, x0_5⟩ := Mi.out.cells
      go_wp2_with fail
      with_reducible refine (Hao.out _ _ _ _ Oi.out.at).mono ?_
      rintro e v10 ⟨pa, na, ca, rfl, hoa, hb10⟩
      clear x0_0 x0_1 x0_2 x0_3 x0_4 x0_5
      have sz10 : v9.heap.size ≤ v10.heap.size := by have := hb10.size; simpa using this
      replace Acc := Lib.hid (belowTrans Acc.out hb10 (Nat.le_refl _))
      replace O3 := Lib.hid (O3.out.keep hb10)
      replace Oi := Lib.hid (Oi.out.keep hb10)
      replace Mi := Lib.hid (Mi.out.keep hb10)
      replace Os := Lib.hid (Os.out.keep hb10)
      replace Ms := Lib.hid (Ms.out.keep hb10)
      clear hb10
      have Oa := Lib.hid hoa; clear hoa
      clear Hao
      have hc := xSame_any _ _ _ _ _ _ _ _ _ Oa.out.at O3.out.at
      rw [decide_eq_true rfl] at hc
      have Hc := Lib.hid hc; clear hc
      go_wp2_with fail
      with_reducible refine (Hc.out).mono ?_
      rintro e v11 ⟨rfl, hb11⟩
      have sz11 : v10.heap.size ≤ v11.heap.size := by have := hb11.size; simpa using this
      replace Acc := Lib.hid (belowTrans Acc.out hb11 (Nat.le_refl _))
      replace O3 := Lib.hid (O3.out.keep hb11)
      replace Oi := Lib.hid (Oi.out.keep hb11)
      replace Mi := Lib.hid (Mi.out.keep hb11)
      replace Os := Lib.hid (Os.out.keep hb11)
      replace Ms := Lib.hid (Ms.out.keep hb11)
      replace Oa := Lib.hid (Oa.out.keep hb11)
      clear hb11
      clear Hc
      clear Oa
      clear Oi
      clear Os
      clear Mi
      clear Ms
      clear O3
      go_wp2_with fail
      with_reducible refine (Hg.out _ Acc.out).mono ?_
      rintro e v12 ⟨m, k, rfl, hm, hk, hb12⟩
      have sz12 : v11.heap.size ≤ v12.heap.size := by have := hb12.size; simpa using this
      replace Acc := Lib.hid (belowTrans Acc.out hb12 (Nat.le_refl _))
      clear hb12
      clear Hg
      have hi := fun W => impl_StartBank m k W
      have hs := fun W => spec_StartBank m k W
      have hfact := start_fact m k
      cases hq : (mStartBank m k).2
      · skip
        simp only [hq] at hi hs
        generalize (mStartBank m k).1 = D at *
        obtain ⟨h4, l4, q4⟩ := D
        simp only at hi hs
        clear hq hfact
        have Hi := Lib.hid hi; clear hi
        have Hs := Lib.hid hs; clear hs
        go_wp2_with fail
        with_reducible refine (Hi.out _).mono ?_
        rintro e v13 ⟨pi, ni, ci, rfl, hoi, hb13⟩
        have sz13 : v12.heap.size ≤ v13.heap.size := by have := hb13.size; simpa using this
        replace Acc := Lib.hid (belowTrans Acc.out hb13 (Nat.le_refl _))
        clear hb13
        have Oi := Lib.hid hoi; clear hoi
        have hba := belowAlloc v13 (.cells #[.int .i64 h4, .int .i64 l4, .slice pi ni ci] 33)
        replace Acc := Lib.hid (belowTrans Acc.out hba (Nat.le_refl _))
        replace Oi := Lib.hid (Oi.out.keep hba)
        have Mi := Lib.hid (Blk.new v13 h4 l4 pi ni ci 33)
        clear hba
        go_wp2_with fail
        with_reducible refine (Hi.out _).mono ?_
        rintro e v14 ⟨pj, nj, cj, rfl, hoj, hb14⟩
        have sz14 : v13.heap.size + 1 ≤ v14.heap.size := by have := hb14.size; simpa using this
        replace Acc := Lib.hid (belowTrans Acc.out hb14 (Nat.le_refl _))
        replace Oi := Lib.hid (Oi.out.keep hb14)
        replace Mi := Lib.hid (Mi.out.keep hb14)
        clear hb14
        have Oj := Lib.hid hoj; clear hoj
        have hba := belowAlloc v14 (.cells #[.int .i64 h4, .int .i64 l4, .slice pj nj cj] 33)
        replace Acc := Lib.hid (belowTrans Acc.out hba (Nat.le_refl _))
        replace Oi := Lib.hid (Oi.out.keep hba)
        replace Mi := Lib.hid (Mi.out.keep hba)
        replace Oj := Lib.hid (Oj.out.keep hba)
        have Mj := Lib.hid (Blk.new v14 h4 l4 pj nj cj 33)
        clear hba
        go_wp2_with fail
        with_reducible refine (Hs.out _).mono ?_
        rintro e v15 ⟨ps, ns, cs, rfl, hos, hb15⟩
        have sz15 : v14.heap.size + 1 ≤ v15.heap.size := by have := hb15.size; simpa using this
        replace Acc := Lib.hid (belowTrans Acc.out hb15 (Nat.le_refl _))
        replace Oi := Lib.hid (Oi.out.keep hb15)
        replace Mi := Lib.hid (Mi.out.keep hb15)
        replace Oj := Lib.hid (Oj.out.keep hb15)
        replace Mj := Lib.hid (Mj.out.keep hb15)
        clear hb15
        have Os := Lib.hid hos; clear hos
        have hba := belowAlloc v15 (.cells #[.int .i64 h4, .int .i64 l4, .slice ps ns cs] 33)
        replace Acc := Lib.hid (belowTrans Acc.out hba (Nat.le_refl _))
        replace Oi := Lib.hid (Oi.out.keep hba)
        replace Mi := Lib.hid (Mi.out.keep hba)
        replace Oj := Lib.hid (Oj.out.keep hba)
        replace Mj := Lib.hid (Mj.out.keep hba)
        replace Os := Lib.hid (Os.out.keep hba)
        have Ms := Lib.hid (Blk.new v15 h4 l4 ps ns cs 33)
        clear hba
        have hxb := xBank_any (h4) (l4) (h4) (l4) pi ps ni ns ci cs (q4) (q4) _ Oi.out.at Os.out.at
        rw [decide_eq_true rfl] at hxb
        have Hxb := Lib.hid hxb; clear hxb
        obtain ⟨⟨x0_0, x0_1, x0_2⟩, x0_3, x0_4, x0_5⟩ := Mi.out.cells
        obtain ⟨⟨x1_0, x1_1, x1_2⟩, x1_3, x1_4, x1_5⟩ := Ms.out.cells
        go_wp2_with fail
        with_reducible refine (Hxb.out).mono ?_
        rintro e v16 ⟨rfl, hb16⟩
        clear x0_0 x0_1 x0_2 x0_3 x0_4 x0_5
        clear x1_0 x1_1 x1_2 x1_3 x1_4 x1_5
        have sz16 : v15.heap.size + 1 ≤ v16.heap.size := by have := hb16.size; simpa using this
        replace Acc := Lib.hid (belowTrans Acc.out hb16 (Nat.le_refl _))
        replace Oi := Lib.hid (Oi.out.keep hb16)
        replace Mi := Lib.hid (Mi.out.keep hb16)
        replace Oj := Lib.hid (Oj.out.keep hb16)
        replace Mj := Lib.hid (Mj.out.keep hb16)
        replace Os := Lib.hid (Os.out.keep hb16)
        replace Ms := Lib.hid (Ms.out.keep hb16)
        clear hb16
        clear Hxb
        have hxb := xBank_any (h4) (l4) (h4) (l4) pj pi nj ni cj ci (q4) (q4) _ Oj.out.at Oi.out.at
        rw [decide_eq_true rfl] at hxb
        have Hxb := Lib.hid hxb; clear hxb
        obtain ⟨⟨x0_0, x0_1, x0_2⟩, x0_3, x0_4, x0_5⟩ := Mj.out.cells
        obtain ⟨⟨x1_0, x1_1, x1_2⟩, x1_3, x1_4, x1_5⟩ := Mi.out.cells
        go_wp2_with fail
        with_reducible refine (Hxb.out).mono ?_
        rintro e v17 ⟨rfl, hb17⟩
        clear x0_0 x0_1 x0_2 x0_3 x0_4 x0_5
        clear x1_0 x1_1 x1_2 x1_3 x1_4 x1_5
        have sz17 : v16.heap.size ≤ v17.heap.size := by have := hb17.size; simpa using this
        replace Acc := Lib.hid (belowTrans Acc.out hb17 (Nat.le_refl _))
        replace Oi := Lib.hid (Oi.out.keep hb17)
        replace Mi := Lib.hid (Mi.out.keep hb17)
        replace Oj := Lib.hid (Oj.out.keep hb17)
        replace Mj := Lib.hid (Mj.out.keep hb17)
        replace Os := Lib.hid (Os.out.keep hb17)
        replace Ms := Lib.hid (Ms.out.keep hb17)
        clear hb17
        clear Hxb
        go_wp2
        go_ret
        exact ⟨rfl, Acc.out⟩
      · skip
        simp only [hq] at hi hs
        have hq2 := hfact hq
        generalize (mStartBank m k).1 = D at *
        obtain ⟨h4, l4, q4⟩ := D
        simp only at hi hs
        clear hq hfact
        obtain ⟨hq3, hq4, hq5⟩ := hq2
        simp only at hq3 hq5
        subst hq3
        have hcd := fun a n c W (hA : IntsAt W a n c q4) => impl_BankCards h4 l4 a n c q4 W hA
        unfold bankV at hcd
        simp only [mCards_yes hq4] at hcd
        rw [hq5] at hcd
        clear hq4 hq5
        have Hcd := Lib.hid hcd; clear hcd
        have Hi := Lib.hid hi; clear hi
        have Hs := Lib.hid hs; clear hs
        go_wp2_with fail
        with_reducible refine (Hi.out _).mono ?_
        rintro e v13 ⟨pi, ni, ci, rfl, hoi, hb13⟩
        have sz13 : v12.heap.size ≤ v13.heap.size := by have := hb13.size; simpa using this
        replace Acc := Lib.hid (belowTrans Acc.out hb13 (Nat.le_refl _))
        clear hb13
        have Oi := Lib.hid hoi; clear hoi
        have hba := belowAlloc v13 (.cells #[.int .i64 h4, .int .i64 l4, .slice pi ni ci] 33)
        replace Acc := Lib.hid (belowTrans Acc.out hba (Nat.le_refl _))
        replace Oi := Lib.hid (Oi.out.keep hba)
        have Mi := Lib.hid (Blk.new v13 h4 l4 pi ni ci 33)
        clear hba
        go_wp2_with fail
        with_reducible refine (Hi.out _).mono ?_
        rintro e v14 ⟨pj, nj, cj, rfl, hoj, hb14⟩
        have sz14 : v13.heap.size + 1 ≤ v14.heap.size := by have := hb14.size; simpa using this
        replace Acc := Lib.hid (belowTrans Acc.out hb14 (Nat.le_refl _))
        replace Oi := Lib.hid (Oi.out.keep hb14)
        replace Mi := Lib.hid (Mi.out.keep hb14)
        clear hb14
        have Oj := Lib.hid hoj; clear hoj
        have hba := belowAlloc v14 (.cells #[.int .i64 h4, .int .i64 l4, .slice pj nj cj] 33)
        replace Acc := Lib.hid (belowTrans Acc.out hba (Nat.le_refl _))
        replace Oi := Lib.hid (Oi.out.keep hba)
        replace Mi := Lib.hid (Mi.out.keep hba)
        replace Oj := Lib.hid (Oj.out.keep hba)
        have Mj := Lib.hid (Blk.new v14 h4 l4 pj nj cj 33)
        clear hba
        go_wp2_with fail
        with_reducible refine (Hs.out _).mono ?_
        rintro e v15 ⟨ps, ns, cs, rfl, hos, hb15⟩
        have sz15 : v14.heap.size + 1 ≤ v15.heap.size := by have := hb15.size; simpa using this
        replace Acc := Lib.hid (belowTrans Acc.out hb15 (Nat.le_refl _))
        replace Oi := Lib.hid (Oi.out.keep hb15)
        replace Mi := Lib.hid (Mi.out.keep hb15)
        replace Oj := Lib.hid (Oj.out.keep hb15)
        replace Mj := Lib.hid (Mj.out.keep hb15)
        clear hb15
        have Os := Lib.hid hos; clear hos
        have hba := belowAlloc v15 (.cells #[.int .i64 h4, .int .i64 l4, .slice ps ns cs] 33)
        replace Acc := Lib.hid (belowTrans Acc.out hba (Nat.le_refl _))
        replace Oi := Lib.hid (Oi.out.keep hba)
        replace Mi := Lib.hid (Mi.out.keep hba)
        replace Oj := Lib.hid (Oj.out.keep hba)
        replace Mj := Lib.hid (Mj.out.keep hba)
        replace Os := Lib.hid (Os.out.keep hba)
        have Ms := Lib.hid (Blk.new v15 h4 l4 ps ns cs 33)
        clear hba
        have hxb := xBank_any (h4) (l4) (h4) (l4) pi ps ni ns ci cs (q4) (q4) _ Oi.out.at Os.out.at
        rw [decide_eq_true rfl] at hxb
        have Hxb := Lib.hid hxb; clear hxb
        obtain ⟨⟨x0_0, x0_1, x0_2⟩, x0_3, x0_4, x0_5⟩ := Mi.out.cells
        obtain ⟨⟨x1_0, x1_1, x1_2⟩, x1_3, x1_4, x1_5⟩ := Ms.out.cells
        go_wp2_with fail
        with_reducible refine (Hxb.out).mono ?_
        rintro e v16 ⟨rfl, hb16⟩
        clear x0_0 x0_1 x0_2 x0_3 x0_4 x0_5
        clear x1_0 x1_1 x1_2 x1_3 x1_4 x1_5
        have sz16 : v15.heap.size + 1 ≤ v16.heap.size := by have := hb16.size; simpa using this
        replace Acc := Lib.hid (belowTrans Acc.out hb16 (Nat.le_refl _))
        replace Oi := Lib.hid (Oi.out.keep hb16)
        replace Mi := Lib.hid (Mi.out.keep hb16)
        replace Oj := Lib.hid (Oj.out.keep hb16)
        replace Mj := Lib.hid (Mj.out.keep hb16)
        replace Os := Lib.hid (Os.out.keep hb16)
        replace Ms := Lib.hid (Ms.out.keep hb16)
        clear hb16
        clear Hxb
        have hxb := xBank_any (h4) (l4) (h4) (l4) pj pi nj ni cj ci (q4) (q4) _ Oj.out.at Oi.out.at
        rw [decide_eq_true rfl] at hxb
        have Hxb := Lib.hid hxb; clear hxb
        obtain ⟨⟨x0_0, x0_1, x0_2⟩, x0_3, x0_4, x0_5⟩ := Mj.out.cells
        obtain ⟨⟨x1_0, x1_1, x1_2⟩, x1_3, x1_4, x1_5⟩ := Mi.out.cells
        go_wp2_with fail
        with_reducible refine (Hxb.out).mono ?_
        rintro e v17 ⟨rfl, hb17⟩
        clear x0_0 x0_1 x0_2 x0_3 x0_4 x0_5
        clear x1_0 x1_1 x1_2 x1_3 x1_4 x1_5
        have sz17 : v16.heap.size ≤ v17.heap.size := by have := hb17.size; simpa using this
        replace Acc := Lib.hid (belowTrans Acc.out hb17 (Nat.le_refl _))
        replace Oi := Lib.hid (Oi.out.keep hb17)
        replace Mi := Lib.hid (Mi.out.keep hb17)
        replace Oj := Lib.hid (Oj.out.keep hb17)
        replace Mj := Lib.hid (Mj.out.keep hb17)
        replace Os := Lib.hid (Os.out.keep hb17)
        replace Ms := Lib.hid (Ms.out.keep hb17)
        clear hb17
        clear Hxb
        obtain ⟨⟨x0_0, x0_1, x0_2⟩, x0_3, x0_4, x0_5⟩ := Mi.out.cells
        go_wp2_with fail
        with_reducible refine (Hcd.out _ _ _ _ Oi.out.at).mono ?_
        rintro e v18 ⟨rfl, hb18⟩
        clear x0_0 x0_1 x0_2 x0_3 x0_4 x0_5
        have sz18 : v17.heap.size ≤ v18.heap.size := by have := hb18.size; simpa using this
        replace Acc := Lib.hid (belowTrans Acc.out hb18 (Nat.le_refl _))
        replace Oi := Lib.hid (Oi.out.keep hb18)
        replace Mi := Lib.hid (Mi.out.keep hb18)
        replace Oj := Lib.hid (Oj.out.keep hb18)
        replace Mj := Lib.hid (Mj.out.keep hb18)
        replace Os := Lib.hid (Os.out.keep hb18)
        replace Ms := Lib.hid (Ms.out.keep hb18)
        clear hb18
        obtain ⟨⟨x0_0, x0_1, x0_2⟩, x0_3, x0_4, x0_5⟩ := Mi.out.cells
        go_wp2
        go_ret
        exact ⟨by simp, Acc.out⟩

/-! ### THE ROW's STEP: WRITTEN OUT: LEAVE IT -/
set_option maxRecDepth 100000 in
theorem lifted (os : Os) (started : os.Started) (H : Type) (enc : TypeId × Value → H) :
    ReturnsInHanded {} Try.checked os 5 .any (Rows.fnBankStepsSpec.pre6 enc Try.prog Try.f5 Rows.fnBankStepsRow.domain false) (Rows.fnBankStepsSpec.post enc Try.prog Try.f5 false true false false) := by
  refine returnsInHanded_of_change (C := Try.checked) own started (by kernel_rfl) Try.func5
    (ChangeSpec.witness6 (enc := enc) (C := Try.checked) false ⟨#[], #[.slice none 0 0, .slice none 0 0], []⟩ 8 (by kernel_rfl) (by kernel_rfl) (by kernel_rfl) (by kernel_rfl)) ?_
  intro W base args ds gs before hval0 hW hcnd _
  have hval : ∀ (j : Nat) t v, Try.f5.params[j]? = some t → args[j]? = some v → Value.okWide Try.prog W .any base t v := hval0
  have hW' := hW
  obtain ⟨p, q, hA0, hV, rfl, hfz, hnd⟩ := hW
  have hA : DataW.TrodAll enc Try.prog W 0 (fun _ => true) true Try.f5.params.toList args.toList ds p := hA0
  rw [Try.params5] at hA hval
  obtain ⟨v0, vs0, d0, ds0, p0, q0, hargs, rfl, rfl, h0, r0⟩ := trodAll_cons hA
  obtain ⟨v1, vs1, d1, ds1, p1, q1, rfl, rfl, rfl, h1, r1⟩ := trodAll_cons r0
  obtain ⟨rfl, rfl, rfl⟩ := trodAll_nil r1
  obtain rfl : args = #[v0, v1] := by cases args; simp_all
  obtain ⟨rfl, rfl⟩ := trodVars_none hV
  obtain ⟨a0, len0, cap0, rfl⟩ := okWide_slice Try.underlying38 (hval 0 38 v0 rfl rfl)
  have k0 := h0
  have lt0 : ∀ x ∈ p0, x.block < W.heap.size := by obtain ⟨m, hm⟩ := k0; exact DataW.trod_lt m _ _ _ hm
  obtain ⟨z0, w0⟩ : ∃ zs, IsRow .u8 W a0 len0 cap0 zs := by
    obtain ⟨fuel, hf⟩ := h0
    rcases open_ints Try.underlying38 Try.underlying5 (by kernel_rfl) hf with ⟨hcs, _⟩ | ⟨x, l, c, zs, hcs, _, hl, hm, hz, _, hcell, hwz⟩
    · simp [Value.cells] at hcs
      obtain ⟨rfl, rfl, rfl⟩ := hcs
      exact ⟨[], .inl ⟨rfl, rfl, rfl, rfl⟩⟩
    · simp [Value.cells] at hcs
      obtain ⟨rfl, rfl, rfl⟩ := hcs
      exact ⟨zs, .inr ⟨_, rfl, hl, hm, by simpa using hz, hcell, hwz⟩⟩
  obtain ⟨a1, len1, cap1, rfl⟩ := okWide_slice Try.underlying38 (hval 1 38 v1 rfl rfl)
  have k1 := h1
  have lt1 : ∀ x ∈ p1, x.block < W.heap.size := by obtain ⟨m, hm⟩ := k1; exact DataW.trod_lt m _ _ _ hm
  obtain ⟨z1, w1⟩ : ∃ zs, IsRow .u8 W a1 len1 cap1 zs := by
    obtain ⟨fuel, hf⟩ := h1
    rcases open_ints Try.underlying38 Try.underlying5 (by kernel_rfl) hf with ⟨hcs, _⟩ | ⟨x, l, c, zs, hcs, _, hl, hm, hz, _, hcell, hwz⟩
    · simp [Value.cells] at hcs
      obtain ⟨rfl, rfl, rfl⟩ := hcs
      exact ⟨[], .inl ⟨rfl, rfl, rfl, rfl⟩⟩
    · simp [Value.cells] at hcs
      obtain ⟨rfl, rfl, rfl⟩ := hcs
      exact ⟨zs, .inr ⟨_, rfl, hl, hm, by simpa using hz, hcell, hwz⟩⟩
  clear hA0 hval0
  refine (walk a0 len0 cap0 z0 a1 len1 cap1 z1 W w0 w1).mono fun e W' ⟨he, bel⟩ => ?_
  subst he
  exact ⟨_, rfl, _, _, _, [], _, [], hW', trodAll_mk1 (shut_bool Try.underlying4 _), (trodAll_cons_mk (Below.trod laidOut (by kernel_rfl) (of_decide_eq_true (by kernel_rfl)) k0 bel lt0) (trodAll_cons_mk (Below.trod laidOut (by kernel_rfl) (of_decide_eq_true (by kernel_rfl)) k1 bel lt1) trodAll_mk0)), rfl, bel.frame _, fun h => by cases h⟩

theorem closedFacts : joinedFacts Try.prog 5 Try.f5 Rows.fnBankStepsSpec Rows.fnBankStepsRow = true := by
  unfold joinedFacts
  rw [head_enter, head_lifts, head_make]
  kernel_rfl
theorem closedHere : joinedFacts Try.pinned.checked.prog 5 Try.f5 Rows.fnBankStepsSpec Rows.fnBankStepsRow = true := by
  rw [progEq]
  exact closedFacts
theorem over : Rows.fnBankStepsRow.holds Try.pinned (OpenSpec.ofChange Rows.fnBankStepsSpec) :=
  OpenClaim.holds_of_wide 5 Try.f5 rfl rfl rfl rfl rfl rfl rfl ⟨rfl, rfl, rfl, rfl, rfl⟩ rfl rfl rfl rfl rfl (by kernel_rfl) Try.func5 closedHere
    (of_decide_eq_true (by kernel_rfl)) (by unfold Func.isWrapper; first | (rw [if_pos (by decide +kernel)]; kernel_rfl) | (rw [if_neg (by decide +kernel)]; exact ⟨rfl, rfl⟩))
    (fun os started H enc _ => lifted os started H enc)

/-- ████ THE STATEMENT ████ -/
theorem proved : Rows.FnBankStepsSaid := over
#print axioms proved
end Go.Proofs.Ytbkihnejgcebpaa.fnBankSteps
