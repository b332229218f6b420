/- FnBankOrbits: for every input the law returns true and leaves its arguments as they were. No condition. -/
import Derived.Test.YtnebfojnbjbogaaDoorRows
import Derived.Test.YtnebfojnbjbogaaDoorCards
import Derived.Test.YtnebfojnbjbogaaDoorTie
import Derived.WalkKit
import Derived.LaidMore
import Derived.Stop.Joined
import Derived.SevenTiedAt
import Derived.ProofKit
import Derived.OpenShut
import Derived.ShutString
import Derived.ChangeOld
import Derived.Below
import Derived.Test.YtnebfojnbjbogaaDoorHead
import Derived.Test.YtnebfojnbjbogaaDoorLawp
import Derived.Test.YtnebfojnbjbogaaDoorBrQ
import Derived.Test.YtnebfojnbjbogaaDoorHelp
namespace Go.Proofs.YtnebfojnbjbogaaDoor.fnBankOrbits
set_option linter.unusedSimpArgs false
open Go.ChangeShapes Go.WideShapes Go.ChangeAt Go.RowKit
open Go.ChangeMaps (open_string shut_string)
set_option linter.unusedVariables false

theorem own : ownKnob Tryd.prog.godebug = none := by kernel_rfl
theorem laidOut : laidOutB Tryd.prog = true := by kernel_rfl

/-- WHAT THE WALK IS TOLD OF A SLICE OF INTEGERS THAT CAME IN: it is nil; or it leads to a row of 'cap' cells, the numbers 'zs' (the first 'len' are its elements, the rest its spare room), each fitting its kind. -/
def IsRow (k : IntKind) (w : World) (a : Option Addr) (len cap : Nat) (zs : List Int) : Prop :=
  (a = none ∧ len = 0 ∧ cap = 0 ∧ zs = []) ∨
  ∃ x, a = some x ∧ len ≤ cap ∧ cap ≤ maxLen ∧ zs.length = cap ∧ (∀ i, i < zs.length → w.cell? (x.add i) = some (.int k (zs.getD i 0))) ∧ ∀ n ∈ zs, (Lit.int k n).wf = true

/-! ### THE WALK: the Go text returns true, AND WRITES NOTHING THAT WAS THERE: 'Below w.heap.size w w'' (Derived/Below.lean: '.refl', '.alloc', '.drew', '.setCell' at a new block, '.trans'). Open each 'IsRow' by 'rcases' AHEAD of 'go_enter'; part every test ahead of the walk. -/
set_option maxHeartbeats 4000000 in
set_option maxRecDepth 100000 in
theorem walk (a0 : Option Addr) (len0 cap0 : Nat) (z0 : List Int) (a1 : Option Addr) (len1 cap1 : Nat) (z1 : List Int) (w : World) (w0 : IsRow .u8 w a0 len0 cap0 z0) (w1 : IsRow .u8 w a1 len1 cap1 z1) :
    Calls Tryd.prog 3 #[.slice a0 len0 cap0, .slice a1 len1 cap1] w fun e w' => e = .returned (.bool true) ∧ Below w.heap.size w w' := by
  have by0 := byteIn_row w0
  have by1 := byteIn_row w1
  have hl0 : len0 ≤ maxLen := by
    rcases w0 with ⟨_, h, _⟩ | ⟨x, _, h, h', _⟩
    · rw [h]; exact Nat.zero_le _
    · exact Nat.le_trans h h'
  clear w0 w1
  by_cases hbig : 1048576 < len0 ∨ (1048576 : Int) - len0 < len1
  · have hb := big_yes a0 a1 len0 len1 cap0 cap1 w hbig hl0
    have Hb := Lib.hid hb; clear hb
    go_enter Tryd.func3, Tryd.ntmps3
    go_wp2_with fail
    with_reducible refine (Hb.out).mono ?_
    rintro e w' ⟨rfl, rfl⟩
    go_wp2
    go_ret
    exact ⟨rfl, Below.refl _ _⟩
  have hb := big_no a0 a1 len0 len1 cap0 cap1 w (by omega) (by omega)
  have hd := DrawBankOrbit_any a0 len0 cap0 w (by omega) by0
  have he := fun W (h : Below w.heap.size w W) => DrawNewPiles_any a1 len1 cap1 W (by omega) (by1.up (Nat.le_refl _) h h.size)
  have Hb := Lib.hid hb; clear hb
  have Hd := Lib.hid hd; clear hd
  have He := Lib.hid he; clear he
  clear by0 by1 hl0 hbig
  have acc : Below w.heap.size w w := Below.refl _ _
  go_enter Tryd.func3, Tryd.ntmps3
  go_wp2_with fail
  with_reducible refine (Hb.out).mono ?_
  rintro e w' ⟨rfl, rfl⟩
  clear Hb
  have Acc := Lib.hid acc; clear acc
  go_wp2_with fail
  with_reducible refine (Hd.out).mono ?_
  rintro e v1 ⟨h, l, p1, n1, c1, xs, rfl, ho1, hn1, hb1⟩
  have sz1 : w.heap.size ≤ v1.heap.size := by have := hb1.size; simpa using this
  replace Acc := Lib.hid (belowTrans Acc.out hb1 (Nat.le_refl _))
  clear hb1
  have O1 := Lib.hid ho1; clear ho1
  clear Hd
  have hba := belowAlloc v1 (.cells #[.int .i64 h, .int .i64 l, .slice p1 n1 c1] 26)
  replace Acc := Lib.hid (belowTrans Acc.out hba (Nat.le_refl _))
  replace O1 := Lib.hid (O1.out.keep hba)
  have M5 := Lib.hid (Blk.new v1 h l p1 n1 c1 26)
  clear hba
  have hib := fun W hA => impl_BankOrbit h l p1 n1 c1 xs W hA
  have hsb := fun W hA => spec_BankOrbit h l p1 n1 c1 xs W hA
  cases hq : (mBankOrbit ⟨h, l, xs⟩).2.2
  · skip
    simp only [hq] at hib hsb
    generalize (mBankOrbit ⟨h, l, xs⟩).1 = T0 at *
    generalize (mBankOrbit ⟨h, l, xs⟩).2.1 = L0 at *
    clear hq
    have Hib := Lib.hid hib; clear hib
    have Hsb := Lib.hid hsb; clear hsb
    obtain ⟨⟨x0_0, x0_1, x0_2⟩, x0_3, x0_4, x0_5⟩ := M5.out.cells
    go_wp2_with fail
    with_reducible refine (Hib.out _ O1.out.at).mono ?_
    rintro e v2 ⟨rfl, hb2⟩
    clear x0_0 x0_1 x0_2 x0_3 x0_4 x0_5
    have sz2 : v1.heap.size + 1 ≤ v2.heap.size := by have := hb2.size; simpa using this
    replace Acc := Lib.hid (belowTrans Acc.out hb2 (Nat.le_refl _))
    replace O1 := Lib.hid (O1.out.keep hb2)
    replace M5 := Lib.hid (M5.out.keep hb2)
    clear hb2
    obtain ⟨⟨x0_0, x0_1, x0_2⟩, x0_3, x0_4, x0_5⟩ := M5.out.cells
    go_wp2_with fail
    with_reducible refine (Hsb.out _ O1.out.at).mono ?_
    rintro e v3 ⟨rfl, hb3⟩
    clear x0_0 x0_1 x0_2 x0_3 x0_4 x0_5
    have sz3 : v2.heap.size ≤ v3.heap.size := by have := hb3.size; simpa using this
    replace Acc := Lib.hid (belowTrans Acc.out hb3 (Nat.le_refl _))
    replace O1 := Lib.hid (O1.out.keep hb3)
    replace M5 := Lib.hid (M5.out.keep hb3)
    clear hb3
    clear Hib Hsb
    clear O1
    clear M5
    go_wp2_with fail
    with_reducible refine (He.out _ Acc.out).mono ?_
    rintro e v4 ⟨h6, l6, p6, n6, c6, zs, k6, rfl, ho6, hn6, hb4⟩
    have sz4 : v3.heap.size ≤ v4.heap.size := by have := hb4.size; simpa using this
    replace Acc := Lib.hid (belowTrans Acc.out hb4 (Nat.le_refl _))
    clear hb4
    have O6 := Lib.hid ho6; clear ho6
    clear He
    have hba := belowAlloc v4 (.cells #[.int .i64 h6, .int .i64 l6, .slice p6 n6 c6] 26)
    replace Acc := Lib.hid (belowTrans Acc.out hba (Nat.le_refl _))
    replace O6 := Lib.hid (O6.out.keep hba)
    have M6 := Lib.hid (Blk.new v4 h6 l6 p6 n6 c6 26)
    clear hba
    have hni := fun W hA => impl_NewPiles h6 l6 p6 n6 c6 zs k6 W hA
    have hns := fun W hA => spec_NewPiles h6 l6 p6 n6 c6 zs k6 W hA
    have hbi := fun W hA => impl_BankSteps h6 l6 p6 n6 c6 zs k6 W hA
    have hbs := fun W hA => spec_BankSteps h6 l6 p6 n6 c6 zs k6 W hA
    generalize (mNewPiles ⟨h6, l6, zs⟩ k6).1 = P9 at *
    generalize (mNewPiles ⟨h6, l6, zs⟩ k6).2 = b9 at *
    generalize (mBankSteps ⟨h6, l6, zs⟩ k6).1 = D9 at *
    generalize (mBankSteps ⟨h6, l6, zs⟩ k6).2 = b10 at *
    obtain ⟨h8, l8, q8⟩ := D9
    simp only at hbi hbs
    have Hni := Lib.hid hni; clear hni
    have Hns := Lib.hid hns; clear hns
    have Hbi := Lib.hid hbi; clear hbi
    have Hbs := Lib.hid hbs; clear hbs
    obtain ⟨⟨x0_0, x0_1, x0_2⟩, x0_3, x0_4, x0_5⟩ := M6.out.cells
    go_wp2_with fail
    with_reducible refine (Hni.out _ O6.out.at).mono ?_
    rintro e v5 ⟨pa, na, ca, rfl, hoa, hb5⟩
    clear x0_0 x0_1 x0_2 x0_3 x0_4 x0_5
    have sz5 : v4.heap.size + 1 ≤ v5.heap.size := by have := hb5.size; simpa using this
    replace Acc := Lib.hid (belowTrans Acc.out hb5 (Nat.le_refl _))
    replace O6 := Lib.hid (O6.out.keep hb5)
    replace M6 := Lib.hid (M6.out.keep hb5)
    clear hb5
    have Oa := Lib.hid hoa; clear hoa
    obtain ⟨⟨x0_0, x0_1, x0_2⟩, x0_3, x0_4, x0_5⟩ := M6.out.cells
    go_wp2_with fail
    with_reducible refine (Hns.out _ O6.out.at).mono ?_
    rintro e v6 ⟨pb, nb, cb, rfl, hob, hb6⟩
    clear x0_0 x0_1 x0_2 x0_3 x0_4 x0_5
    have sz6 : v5.heap.size ≤ v6.heap.size := by have := hb6.size; simpa using this
    replace Acc := Lib.hid (belowTrans Acc.out hb6 (Nat.le_refl _))
    replace O6 := Lib.hid (O6.out.keep hb6)
    replace M6 := Lib.hid (M6.out.keep hb6)
    replace Oa := Lib.hid (Oa.out.keep hb6)
    clear hb6
    have Ob := Lib.hid hob; clear hob
    obtain ⟨⟨x0_0, x0_1, x0_2⟩, x0_3, x0_4, x0_5⟩ := M6.out.cells
    go_wp2_with fail
    with_reducible refine (Hbi.out _ O6.out.at).mono ?_
    rintro e v7 ⟨pi, ni, ci, rfl, hoi, hb7⟩
    clear x0_0 x0_1 x0_2 x0_3 x0_4 x0_5
    have sz7 : v6.heap.size ≤ v7.heap.size := by have := hb7.size; simpa using this
    replace Acc := Lib.hid (belowTrans Acc.out hb7 (Nat.le_refl _))
    replace O6 := Lib.hid (O6.out.keep hb7)
    replace M6 := Lib.hid (M6.out.keep hb7)
    replace Oa := Lib.hid (Oa.out.keep hb7)
    replace Ob := Lib.hid (Ob.out.keep hb7)
    clear hb7
    have Oi := Lib.hid hoi; clear hoi
    have hba := belowAlloc v7 (.cells #[.int .i64 h8, .int .i64 l8, .slice pi ni ci] 26)
    replace Acc := Lib.hid (belowTrans Acc.out hba (Nat.le_refl _))
    replace O6 := Lib.hid (O6.out.keep hba)
    replace M6 := Lib.hid (M6.out.keep hba)
    replace Oa := Lib.hid (Oa.out.keep hba)
    replace Ob := Lib.hid (Ob.out.keep hba)
    replace Oi := Lib.hid (Oi.out.keep hba)
    have Mi := Lib.hid (Blk.new v7 h8 l8 pi ni ci 26)
    clear hba
    obtain ⟨⟨x0_0, x0_1, x0_2⟩, x0_3, x0_4, x0_5⟩ := M6.out.cells
    go_wp2_with fail
    with_reducible refine (Hbs.out _ O6.out.at).mono ?_
    rintro e v8 ⟨ps, ns, cs, rfl, hos, hb8⟩
    clear x0_0 x0_1 x0_2 x0_3 x0_4 x0_5
    have sz8 : v7.heap.size + 1 ≤ v8.heap.size := by have := hb8.size; simpa using this
    replace Acc := Lib.hid (belowTrans Acc.out hb8 (Nat.le_refl _))
    replace O6 := Lib.hid (O6.out.keep hb8)
    replace M6 := Lib.hid (M6.out.keep hb8)
    replace Oa := Lib.hid (Oa.out.keep hb8)
    replace Ob := Lib.hid (Ob.out.keep hb8)
    replace Oi := Lib.hid (Oi.out.keep hb8)
    replace Mi := Lib.hid (Mi.out.keep hb8)
    clear hb8
    have Os := Lib.hid hos; clear hos
    have hba := belowAlloc v8 (.cells #[.int .i64 h8, .int .i64 l8, .slice ps ns cs] 26)
    replace Acc := Lib.hid (belowTrans Acc.out hba (Nat.le_refl _))
    replace O6 := Lib.hid (O6.out.keep hba)
    replace M6 := Lib.hid (M6.out.keep hba)
    replace Oa := Lib.hid (Oa.out.keep hba)
    replace Ob := Lib.hid (Ob.out.keep hba)
    replace Oi := Lib.hid (Oi.out.keep hba)
    replace Mi := Lib.hid (Mi.out.keep hba)
    replace Os := Lib.hid (Os.out.keep hba)
    have Ms := Lib.hid (Blk.new v8 h8 l8 ps ns cs 26)
    clear hba
    clear Hni Hns Hbi Hbs
    have hc := xSame_any _ _ _ _ _ _ _ _ _ Oa.out.at Ob.out.at
    rw [decide_eq_true rfl] at hc
    have Hc := Lib.hid hc; clear hc
    go_wp2_with fail
    with_reducible refine (Hc.out).mono ?_
    rintro e v9 ⟨rfl, hb9⟩
    have sz9 : v8.heap.size + 1 ≤ v9.heap.size := by have := hb9.size; simpa using this
    replace Acc := Lib.hid (belowTrans Acc.out hb9 (Nat.le_refl _))
    replace O6 := Lib.hid (O6.out.keep hb9)
    replace M6 := Lib.hid (M6.out.keep hb9)
    replace Oa := Lib.hid (Oa.out.keep hb9)
    replace Ob := Lib.hid (Ob.out.keep hb9)
    replace Oi := Lib.hid (Oi.out.keep hb9)
    replace Mi := Lib.hid (Mi.out.keep hb9)
    replace Os := Lib.hid (Os.out.keep hb9)
    replace Ms := Lib.hid (Ms.out.keep hb9)
    clear hb9
    clear Hc
    clear Oa
    clear Ob
    have hxb := xBank_any (h8) (l8) (h8) (l8) pi ps ni ns ci cs (q8) (q8) _ Oi.out.at Os.out.at
    rw [decide_eq_true rfl] at hxb
    have Hxb := Lib.hid hxb; clear hxb
    obtain ⟨⟨x0_0, x0_1, x0_2⟩, x0_3, x0_4, x0_5⟩ := Mi.out.cells
    obtain ⟨⟨x1_0, x1_1, x1_2⟩, x1_3, x1_4, x1_5⟩ := Ms.out.cells
    go_wp2_with fail
    with_reducible refine (Hxb.out).mono ?_
    rintro e v10 ⟨rfl, hb10⟩
    clear x0_0 x0_1 x0_2 x0_3 x0_4 x0_5
    clear x1_0 x1_1 x1_2 x1_3 x1_4 x1_5
    have sz10 : v9.heap.size ≤ v10.heap.size := by have := hb10.size; simpa using this
    replace Acc := Lib.hid (belowTrans Acc.out hb10 (Nat.le_refl _))
    replace O6 := Lib.hid (O6.out.keep hb10)
    replace M6 := Lib.hid (M6.out.keep hb10)
    replace Oi := Lib.hid (Oi.out.keep hb10)
    replace Mi := Lib.hid (Mi.out.keep hb10)
    replace Os := Lib.hid (Os.out.keep hb10)
    replace Ms := Lib.hid (Ms.out.keep hb10)
    clear hb10
    clear Hxb
    go_wp2
    go_ret
    exact ⟨by simp, Acc.out⟩
  · skip
    obtain ⟨I, Ln, hk, ho, hL1, hIL, hcyc, hsep, hpre⟩ := orbit_facts hq
    simp only [ho] at hib hsb
    have hcy := fun W hA => impl_IsCyclicBank h l p1 n1 c1 xs W hA
    simp only [cyclic_fact ho] at hcy
    have hb1 := fun W hA => impl_BankSteps h l p1 n1 c1 xs (I : Int) W hA
    simp only [mSteps_yesB hk (show I ≤ 1000 by omega)] at hb1
    have hb7 := fun W hA => impl_BankSteps h l p1 n1 c1 xs ((I : Int) - 1) W hA
    have hk2 := steps_okB hk I
    have hh2 : (stepsB I ⟨h, l, xs⟩).h = h := stepsB_h _ I
    have hm7 := fun q => mSteps_predB hk (k := I) q (by omega)
    have hh7 : (stepsB (I - 1) ⟨h, l, xs⟩).h = h := stepsB_h _ _
    clear hq ho
    generalize stepsB I ⟨h, l, xs⟩ = H2 at *
    generalize stepsB (I - 1) ⟨h, l, xs⟩ = H7 at *
    obtain ⟨h2, l2, ys⟩ := H2
    obtain ⟨h7, l7, q7⟩ := H7
    simp only at hh2 hh7 hb1
    subst hh2 hh7
    have hb2 := fun a n c W (hA : IntsAt W a n c ys) => impl_BankSteps h7 l2 a n c ys (Ln : Int) W hA
    simp only [mSteps_yesB hk2 (show Ln ≤ 1000 by omega), hcyc] at hb2
    have hnp := fun a n c W (hA : IntsAt W a n c ys) => impl_NewPiles h7 l2 a n c ys (Ln : Int) W hA
    simp only [mNewP_yesB hk2 (show Ln ≤ 1000 by omega)] at hnp
    have hb8 := fun a n c W (hA : IntsAt W a n c ys) => impl_BankSteps h7 l2 a n c ys ((Ln : Int) - 1) W hA
    simp only [mSteps_predB hk2 (k := Ln) (by omega) (by omega)] at hb8
    have hh8 : (stepsB (Ln - 1) ⟨h7, l2, ys⟩).h = h7 := stepsB_h _ _
    have hround := taken_round hk2 hcyc
    have hnm := fun x => newL_mem hk2 (k := Ln) (x := x)
    have hnl := newL_length ⟨h7, l2, ys⟩ Ln
    have htb := fun k => takenB_bound hk2 k
    have hat := fun i => newL_at ⟨h7, l2, ys⟩ (k := Ln) (i := i)
    have hso := fun k => steps_okB hk2 k
    have hL1i : (1 : Int) ≤ (Ln : Int) := by omega
    have hILi : (I : Int) + Ln ≤ 1000 := by omega
    clear hk hcyc
    generalize stepsB (Ln - 1) ⟨h7, l2, ys⟩ = H8 at *
    obtain ⟨h8, l8, q8⟩ := H8
    simp only at hh8 hround
    subst hh8
    generalize newL ⟨h8, l2, ys⟩ Ln = NL at *
    simp only at hb8
    have Hib := Lib.hid hib; clear hib
    have Hsb := Lib.hid hsb; clear hsb
    have Hcy := Lib.hid hcy; clear hcy
    have Hb1 := Lib.hid hb1; clear hb1
    have Hb7 := Lib.hid hb7; clear hb7
    have Hm7 := Lib.hid hm7; clear hm7
    have Hb2 := Lib.hid hb2; clear hb2
    have Hnp := Lib.hid hnp; clear hnp
    have Hb8 := Lib.hid hb8; clear hb8
    have Hround := Lib.hid hround; clear hround
    have Hnm := Lib.hid hnm; clear hnm
    have Hnl := Lib.hid hnl; clear hnl
    have Htb := Lib.hid htb; clear htb
    have Hat := Lib.hid hat; clear hat
    have Hso := Lib.hid hso; clear hso
    have Hsep := Lib.hid hsep; clear hsep
    have Hpre := Lib.hid hpre; clear hpre
    have Hk2 := Lib.hid hk2; clear hk2
    obtain ⟨⟨x0_0, x0_1, x0_2⟩, x0_3, x0_4, x0_5⟩ := M5.out.cells
    go_wp2_with fail
    with_reducible refine (Hib.out _ O1.out.at).mono ?_
    rintro e v2 ⟨rfl, hb2⟩
    clear x0_0 x0_1 x0_2 x0_3 x0_4 x0_5
    have sz2 : v1.heap.size + 1 ≤ v2.heap.size := by have := hb2.size; simpa using this
    replace Acc := Lib.hid (belowTrans Acc.out hb2 (Nat.le_refl _))
    replace O1 := Lib.hid (O1.out.keep hb2)
    replace M5 := Lib.hid (M5.out.keep hb2)
    clear hb2
    obtain ⟨⟨x0_0, x0_1, x0_2⟩, x0_3, x0_4, x0_5⟩ := M5.out.cells
    go_wp2_with fail
    with_reducible refine (Hsb.out _ O1.out.at).mono ?_
    rintro e v3 ⟨rfl, hb3⟩
    clear x0_0 x0_1 x0_2 x0_3 x0_4 x0_5
    have sz3 : v2.heap.size ≤ v3.heap.size := by have := hb3.size; simpa using this
    replace Acc := Lib.hid (belowTrans Acc.out hb3 (Nat.le_refl _))
    replace O1 := Lib.hid (O1.out.keep hb3)
    replace M5 := Lib.hid (M5.out.keep hb3)
    clear hb3
    obtain ⟨⟨x0_0, x0_1, x0_2⟩, x0_3, x0_4, x0_5⟩ := M5.out.cells
    go_wp2_with fail
    with_reducible refine (Hcy.out _ O1.out.at).mono ?_
    rintro e v4 ⟨rfl, hb4⟩
    clear x0_0 x0_1 x0_2 x0_3 x0_4 x0_5
    have sz4 : v3.heap.size ≤ v4.heap.size := by have := hb4.size; simpa using this
    replace Acc := Lib.hid (belowTrans Acc.out hb4 (Nat.le_refl _))
    replace O1 := Lib.hid (O1.out.keep hb4)
    replace M5 := Lib.hid (M5.out.keep hb4)
    clear hb4
    obtain ⟨⟨x0_0, x0_1, x0_2⟩, x0_3, x0_4, x0_5⟩ := M5.out.cells
    go_wp2_with fail
    with_reducible refine (Hb1.out _ O1.out.at).mono ?_
    rintro e v5 ⟨a2, n2, c2, rfl, ho2, hb5⟩
    clear x0_0 x0_1 x0_2 x0_3 x0_4 x0_5
    have sz5 : v4.heap.size ≤ v5.heap.size := by have := hb5.size; simpa using this
    replace Acc := Lib.hid (belowTrans Acc.out hb5 (Nat.le_refl _))
    replace O1 := Lib.hid (O1.out.keep hb5)
    replace M5 := Lib.hid (M5.out.keep hb5)
    clear hb5
    have O2 := Lib.hid ho2; clear ho2
    have hba := belowAlloc v5 (.cells #[.int .i64 h8, .int .i64 l2, .slice a2 n2 c2] 26)
    replace Acc := Lib.hid (belowTrans Acc.out hba (Nat.le_refl _))
    replace O1 := Lib.hid (O1.out.keep hba)
    replace M5 := Lib.hid (M5.out.keep hba)
    replace O2 := Lib.hid (O2.out.keep hba)
    have M2 := Lib.hid (Blk.new v5 h8 l2 a2 n2 c2 26)
    clear hba
    obtain ⟨⟨x0_0, x0_1, x0_2⟩, x0_3, x0_4, x0_5⟩ := M2.out.cells
    go_wp2_with fail
    with_reducible refine (Hb2.out _ _ _ _ O2.out.at).mono ?_
    rintro e v6 ⟨a3, n3, c3, rfl, ho3, hb6⟩
    clear x0_0 x0_1 x0_2 x0_3 x0_4 x0_5
    have sz6 : v5.heap.size + 1 ≤ v6.heap.size := by have := hb6.size; simpa using this
    replace Acc := Lib.hid (belowTrans Acc.out hb6 (Nat.le_refl _))
    replace O1 := Lib.hid (O1.out.keep hb6)
    replace M5 := Lib.hid (M5.out.keep hb6)
    replace O2 := Lib.hid (O2.out.keep hb6)
    replace M2 := Lib.hid (M2.out.keep hb6)
    clear hb6
    have O3 := Lib.hid ho3; clear ho3
    have hba := belowAlloc v6 (.cells #[.int .i64 h8, .int .i64 l2, .slice a3 n3 c3] 26)
    replace Acc := Lib.hid (belowTrans Acc.out hba (Nat.le_refl _))
    replace O1 := Lib.hid (O1.out.keep hba)
    replace M5 := Lib.hid (M5.out.keep hba)
    replace O2 := Lib.hid (O2.out.keep hba)
    replace M2 := Lib.hid (M2.out.keep hba)
    replace O3 := Lib.hid (O3.out.keep hba)
    have M3 := Lib.hid (Blk.new v6 h8 l2 a3 n3 c3 26)
    clear hba
    clear Hib Hsb Hcy Hb1 Hb2
    have hxb := xBank_any (h8) (l2) (h8) (l2) a2 a3 n2 n3 c2 c3 (ys) (ys) _ O2.out.at O3.out.at
    rw [decide_eq_true rfl] at hxb
    have Hxb := Lib.hid hxb; clear hxb
    obtain ⟨⟨x0_0, x0_1, x0_2⟩, x0_3, x0_4, x0_5⟩ := M2.out.cells
    obtain ⟨⟨x1_0, x1_1, x1_2⟩, x1_3, x1_4, x1_5⟩ := M3.out.cells
    go_wp2_with fail
    with_reducible refine (Hxb.out).mono ?_
    rintro e v7 ⟨rfl, hb7⟩
    clear x0_0 x0_1 x0_2 x0_3 x0_4 x0_5
    clear x1_0 x1_1 x1_2 x1_3 x1_4 x1_5
    have sz7 : v6.heap.size + 1 ≤ v7.heap.size := by have := hb7.size; simpa using this
    replace Acc := Lib.hid (belowTrans Acc.out hb7 (Nat.le_refl _))
    replace O1 := Lib.hid (O1.out.keep hb7)
    replace M5 := Lib.hid (M5.out.keep hb7)
    replace O2 := Lib.hid (O2.out.keep hb7)
    replace M2 := Lib.hid (M2.out.keep hb7)
    replace O3 := Lib.hid (O3.out.keep hb7)
    replace M3 := Lib.hid (M3.out.keep hb7)
    clear hb7
    clear Hxb
    clear O3
    clear M3
    obtain ⟨⟨x0_0, x0_1, x0_2⟩, x0_3, x0_4, x0_5⟩ := M2.out.cells
    go_wp2_with fail
    with_reducible refine (Hnp.out _ _ _ _ O2.out.at).mono ?_
    rintro e v8 ⟨a4, n4, c4, rfl, ho4, hb8⟩
    clear x0_0 x0_1 x0_2 x0_3 x0_4 x0_5
    have sz8 : v7.heap.size ≤ v8.heap.size := by have := hb8.size; simpa using this
    replace Acc := Lib.hid (belowTrans Acc.out hb8 (Nat.le_refl _))
    replace O1 := Lib.hid (O1.out.keep hb8)
    replace M5 := Lib.hid (M5.out.keep hb8)
    replace O2 := Lib.hid (O2.out.keep hb8)
    replace M2 := Lib.hid (M2.out.keep hb8)
    clear hb8
    have O4 := Lib.hid ho4; clear ho4
    clear Hnp
    obtain rfl : n4 = Ln := by rw [← O4.out.length]; exact Hnl.out
    have hnl4 := O4.out.at.lenInt
    obtain ⟨wo, hwo⟩ : ∃ wo : World, wo = v8 := ⟨_, rfl⟩
    subst hwo
    have ON := Lib.hid (O2.out.mono (show w.heap.size ≤ _ by omega) (Nat.le_refl _))
    have hba := belowAlloc wo (.cells #[.int .i64 h8, .int .i64 l2, .slice a2 n2 c2] 26)
    have hbk := Blk.new wo h8 l2 a2 n2 c2 26
    have hacc2 := belowTrans Acc.out hba (Nat.le_refl _)
    have hona : Own w.heap.size (wo.alloc (.cells #[.int .i64 h8, .int .i64 l2, .slice a2 n2 c2] 26)).heap.size (wo.alloc (.cells #[.int .i64 h8, .int .i64 l2, .slice a2 n2 c2] 26)) a2 n2 c2 ys := (ON.out.keep hba).mono (Nat.le_refl _) (by have := hba.size; omega)
    obtain ⟨⟨x0_0, x0_1, x0_2⟩, x0_3, x0_4, x0_5⟩ := M2.out.cells
    have Hba := Lib.hid hba; clear hba
    have Hbk := Lib.hid hbk; clear hbk
    have Hacc2 := Lib.hid hacc2; clear hacc2
    have Hona := Lib.hid hona; clear hona
    go_wp2_with fail
    go_loopw [20, 22] (fun t i wr => ∃ (J : Nat) (T : Int) (l9 : Int) (a9 : Option Addr) (n9 c9 : Nat) (q9 : List Int), J ≤ n4 ∧ t = .int .i64 T ∧ i = .int .i64 J ∧ (0 ≤ T ∧ T ≤ 28 * J) ∧ Hid (T = takenB ⟨h8, l2, ys⟩ J) ∧ Hid (stepsB J ⟨h8, l2, ys⟩ = ⟨h8, l9, q9⟩) ∧ Hid (Blk wr wo.heap.size h8 l9 a9 n9 c9 26) ∧ Hid (Own w.heap.size wr.heap.size wr a9 n9 c9 q9) ∧ Hid (Below w.heap.size w wr) ∧ Hid (Below wo.heap.size wo wr)) (fun _ i _ => n4 - (intOf i).toNat)
    case atStart => exact ⟨0, 0, l2, a2, n2, c2, ys, Nat.zero_le _, rfl, rfl, ⟨by omega, by omega⟩, Lib.hid rfl, Lib.hid rfl, Hbk, Hona, Hacc2, Hba⟩
    case round =>
      clear Hba Hbk Hacc2 Hona
      obtain ⟨J, T, l9, a9, n9, c9, q9, hJ, rfl, rfl, ⟨hT0, hT1⟩, HT, HS, HN, HO, Hbw, Hbo⟩ := hrel
      by_cases hlt : J < n4
      · skip
        clear Acc ON
        have Acc := Hbw; clear Hbw
        replace O1 := Lib.hid (O1.out.keep Hbo.out)
        replace M5 := Lib.hid (M5.out.keep Hbo.out)
        replace O2 := Lib.hid (O2.out.keep Hbo.out)
        replace M2 := Lib.hid (M2.out.keep Hbo.out)
        replace O4 := Lib.hid (O4.out.keep Hbo.out)
        have szr := Hbo.out.size
        have Acc2 := Hbo; clear Hbo
        have hok9 := Hso.out J
        rw [HS.out] at hok9
        have hsb := fun W (hA : IntsAt W a9 n9 c9 q9) => impl_StepBank h8 l9 a9 n9 c9 q9 W hA
        simp only [mStep_yesB hok9] at hsb
        have hlen9 := HO.out.length
        have hn28 : n9 ≤ 28 := by have := hok9.len; simp only at this; omega
        have hlt4 : (J : Int) < (n4 : Int) := by omega
        have hmJ := Hat.out J hlt
        rw [HS.out] at hmJ
        have hsJ : stepsB (J + 1) ⟨h8, l2, ys⟩ = stepB ⟨h8, l9, q9⟩ := by rw [stepsB_next, HS.out]
        have htJ : T + (n9 : Int) = takenB ⟨h8, l2, ys⟩ (J + 1) := by rw [takenB_succ, HS.out, ← HT.out]; show T + _ = T + ((q9.length : Nat) : Int); omega
        have hsepJ := fun q => Hsep.out J q hlt
        rw [HS.out] at hsepJ
        generalize madeB ⟨h8, l9, q9⟩ = M at *
        have hh3 : (stepB ⟨h8, l9, q9⟩).h = h8 := rfl
        generalize stepB ⟨h8, l9, q9⟩ = Z at *
        obtain ⟨h3, l3, q3⟩ := Z
        simp only at hsb hh3
        subst hh3
        clear HT HS hok9 hlen9
        have Hsb := Lib.hid hsb; clear hsb
        have HsJ := Lib.hid hsJ; clear hsJ
        have HtJ := Lib.hid htJ; clear htJ
        have HsepJ := Lib.hid hsepJ; clear hsepJ
        have HmJ := Lib.hid hmJ; clear hmJ
        by_cases hJ0 : J = 0
        · subst hJ0
          obtain ⟨⟨x0_0, x0_1, x0_2⟩, x0_3, x0_4, x0_5⟩ := HN.out.cells
          go_wp2_with fail
          with_reducible refine (Hsb.out _ HO.out.at).mono ?_
          rintro e v9 ⟨a5, n5, c5, rfl, ho5, hb9⟩
          clear x0_0 x0_1 x0_2 x0_3 x0_4 x0_5
          have sz9 : wr.heap.size ≤ v9.heap.size := by have := hb9.size; simpa using this
          replace Acc := Lib.hid (belowTrans Acc.out hb9 (Nat.le_refl _))
          replace Acc2 := Lib.hid (belowTrans Acc2.out hb9 (Nat.le_refl _))
          replace O1 := Lib.hid (O1.out.keep hb9)
          replace M5 := Lib.hid (M5.out.keep hb9)
          replace O2 := Lib.hid (O2.out.keep hb9)
          replace M2 := Lib.hid (M2.out.keep hb9)
          replace O4 := Lib.hid (O4.out.keep hb9)
          replace HN := Lib.hid (HN.out.keep hb9)
          replace HO := Lib.hid (HO.out.keep hb9)
          clear hb9
          have O5 := Lib.hid ho5; clear ho5
          have hba := belowAlloc v9 (.cells #[.int .i64 h3, .int .i64 l3, .slice a5 n5 c5] 26)
          replace Acc := Lib.hid (belowTrans Acc.out hba (Nat.le_refl _))
          replace Acc2 := Lib.hid (belowTrans Acc2.out hba (Nat.le_refl _))
          replace O1 := Lib.hid (O1.out.keep hba)
          replace M5 := Lib.hid (M5.out.keep hba)
          replace O2 := Lib.hid (O2.out.keep hba)
          replace M2 := Lib.hid (M2.out.keep hba)
          replace O4 := Lib.hid (O4.out.keep hba)
          replace HN := Lib.hid (HN.out.keep hba)
          replace HO := Lib.hid (HO.out.keep hba)
          replace O5 := Lib.hid (O5.out.keep hba)
          have M7 := Lib.hid (Blk.new v9 h3 l3 a5 n5 c5 26)
          clear hba
          obtain ⟨b9, o9, rfl, hbl9, hc9⟩ := O4.out.at.cell 0 (by omega)
          have hcJ := hc9 0 hlt
          clear hc9
          rw [HmJ.out] at hcJ
          rw [Nat.add_zero] at hcJ
          obtain ⟨⟨x0_0, x0_1, x0_2⟩, x0_3, x0_4, x0_5⟩ := M7.out.cells
          obtain ⟨⟨x1_0, x1_1, x1_2⟩, x1_3, x1_4, x1_5⟩ := HN.out.cells
          have hst3 := HN.out.set3 h3 l3 a5 n5 c5
          have hon := O5.out.mono (E' := (v9.alloc (.cells #[.int .i64 h3, .int .i64 l3, .slice a5 n5 c5] 26)).heap.size) (show w.heap.size ≤ _ by omega) (by simp)
          have hon2 := own_set3 HN.out hon h3 l3 a5 n5 c5
          have hbe1 := below_set3 (b := wo.heap.size) Acc.out (by omega) h3 l3 a5 n5 c5
          have hbe2 := below_set3 (b := wo.heap.size) Acc2.out (Nat.le_refl _) h3 l3 a5 n5 c5
          have Hst3 := Lib.hid hst3; clear hst3
          have Hon2 := Lib.hid hon2; clear hon2
          have Hbe1 := Lib.hid hbe1; clear hbe1
          have Hbe2 := Lib.hid hbe2; clear hbe2
          clear hon
          go_wp2
          go_roundw
          case rel => exact ⟨0 + 1, _, l3, a5, n5, c5, q3, by omega, rfl, by go_num, ⟨by omega, by omega⟩, Lib.hid HtJ.out, Lib.hid HsJ.out, Hst3, Hon2, Hbe1, Hbe2⟩
          case measure => simp [intOf] <;> omega
        · have hJi : (0 : Int) < (J : Int) := by omega
          have hne := HsepJ.out (by omega)
          have hxb := xBank_any (h3) (l9) (h3) (l2) a9 a2 n9 n2 c9 c2 (q9) (ys) _ HO.out.at O2.out.at
          rw [decide_eq_false hne] at hxb
          have Hxb := Lib.hid hxb; clear hxb
          obtain ⟨⟨x0_0, x0_1, x0_2⟩, x0_3, x0_4, x0_5⟩ := HN.out.cells
          obtain ⟨⟨x1_0, x1_1, x1_2⟩, x1_3, x1_4, x1_5⟩ := M2.out.cells
          go_wp2_with fail
          with_reducible refine (Hxb.out).mono ?_
          rintro e v9 ⟨rfl, hb9⟩
          clear x0_0 x0_1 x0_2 x0_3 x0_4 x0_5
          clear x1_0 x1_1 x1_2 x1_3 x1_4 x1_5
          have sz9 : wr.heap.size ≤ v9.heap.size := by have := hb9.size; simpa using this
          replace Acc := Lib.hid (belowTrans Acc.out hb9 (Nat.le_refl _))
          replace Acc2 := Lib.hid (belowTrans Acc2.out hb9 (Nat.le_refl _))
          replace O1 := Lib.hid (O1.out.keep hb9)
          replace M5 := Lib.hid (M5.out.keep hb9)
          replace O2 := Lib.hid (O2.out.keep hb9)
          replace M2 := Lib.hid (M2.out.keep hb9)
          replace O4 := Lib.hid (O4.out.keep hb9)
          replace HN := Lib.hid (HN.out.keep hb9)
          replace HO := Lib.hid (HO.out.keep hb9)
          clear hb9
          clear Hxb
          clear hne
          obtain ⟨⟨x0_0, x0_1, x0_2⟩, x0_3, x0_4, x0_5⟩ := HN.out.cells
          go_wp2_with fail
          with_reducible refine (Hsb.out _ HO.out.at).mono ?_
          rintro e v10 ⟨a5, n5, c5, rfl, ho5, hb10⟩
          clear x0_0 x0_1 x0_2 x0_3 x0_4 x0_5
          have sz10 : v9.heap.size ≤ v10.heap.size := by have := hb10.size; simpa using this
          replace Acc := Lib.hid (belowTrans Acc.out hb10 (Nat.le_refl _))
          replace Acc2 := Lib.hid (belowTrans Acc2.out hb10 (Nat.le_refl _))
          replace O1 := Lib.hid (O1.out.keep hb10)
          replace M5 := Lib.hid (M5.out.keep hb10)
          replace O2 := Lib.hid (O2.out.keep hb10)
          replace M2 := Lib.hid (M2.out.keep hb10)
          replace O4 := Lib.hid (O4.out.keep hb10)
          replace HN := Lib.hid (HN.out.keep hb10)
          replace HO := Lib.hid (HO.out.keep hb10)
          clear hb10
          have O5 := Lib.hid ho5; clear ho5
          have hba := belowAlloc v10 (.cells #[.int .i64 h3, .int .i64 l3, .slice a5 n5 c5] 26)
          replace Acc := Lib.hid (belowTrans Acc.out hba (Nat.le_refl _))
          replace Acc2 := Lib.hid (belowTrans Acc2.out hba (Nat.le_refl _))
          replace O1 := Lib.hid (O1.out.keep hba)
          replace M5 := Lib.hid (M5.out.keep hba)
          replace O2 := Lib.hid (O2.out.keep hba)
          replace M2 := Lib.hid (M2.out.keep hba)
          replace O4 := Lib.hid (O4.out.keep hba)
          replace HN := Lib.hid (HN.out.keep hba)
          replace HO := Lib.hid (HO.out.keep hba)
          replace O5 := Lib.hid (O5.out.keep hba)
          have M7 := Lib.hid (Blk.new v10 h3 l3 a5 n5 c5 26)
          clear hba
          obtain ⟨b9, o9, rfl, hbl9, hc9⟩ := O4.out.at.cell 0 (by omega)
          have hcJ := hc9 J hlt
          clear hc9
          rw [HmJ.out] at hcJ
          obtain ⟨⟨x0_0, x0_1, x0_2⟩, x0_3, x0_4, x0_5⟩ := M7.out.cells
          obtain ⟨⟨x1_0, x1_1, x1_2⟩, x1_3, x1_4, x1_5⟩ := HN.out.cells
          have hst3 := HN.out.set3 h3 l3 a5 n5 c5
          have hon := O5.out.mono (E' := (v10.alloc (.cells #[.int .i64 h3, .int .i64 l3, .slice a5 n5 c5] 26)).heap.size) (show w.heap.size ≤ _ by omega) (by simp)
          have hon2 := own_set3 HN.out hon h3 l3 a5 n5 c5
          have hbe1 := below_set3 (b := wo.heap.size) Acc.out (by omega) h3 l3 a5 n5 c5
          have hbe2 := below_set3 (b := wo.heap.size) Acc2.out (Nat.le_refl _) h3 l3 a5 n5 c5
          have Hst3 := Lib.hid hst3; clear hst3
          have Hon2 := Lib.hid hon2; clear hon2
          have Hbe1 := Lib.hid hbe1; clear hbe1
          have Hbe2 := Lib.hid hbe2; clear hbe2
          clear hon
          go_wp2
          go_roundw
          case rel => exact ⟨J + 1, _, l3, a5, n5, c5, q3, by omega, rfl, by go_num, ⟨by omega, by omega⟩, Lib.hid HtJ.out, Lib.hid HsJ.out, Hst3, Hon2, Hbe1, Hbe2⟩
          case measure => simp [intOf] <;> omega
      · skip
        obtain rfl : n4 = J := by omega
        clear Acc ON
        have Acc := Hbw; clear Hbw
        replace O1 := Lib.hid (O1.out.keep Hbo.out)
        replace M5 := Lib.hid (M5.out.keep Hbo.out)
        replace O2 := Lib.hid (O2.out.keep Hbo.out)
        replace M2 := Lib.hid (M2.out.keep Hbo.out)
        replace O4 := Lib.hid (O4.out.keep Hbo.out)
        have szr := Hbo.out.size
        clear Hbo HN HO HS
        have hsum := xSum_big _ _ _ _ wr.drew O4.out.at.drewB (by omega) Hnm.out
        have hTT := HT.out
        rw [Hround.out] at hTT
        generalize NL.sum = S at *
        have hw1 : wrap64 (h8 * S) = h8 * S := IntWalk.wrap64_in _ (by omega)
        have hw2 : IntKind.i64.wrap (h8 * S) = h8 * S := IntWalk.i64_in _ (by omega)
        have hd2 : (h8 * S != h8 * S) = false := by simp
        subst hTT
        clear HT Hnm Hat Hso Htb Hround
        have Hsum := Lib.hid hsum; clear hsum
        obtain ⟨⟨x0_0, x0_1, x0_2⟩, x0_3, x0_4, x0_5⟩ := M5.out.cells
        go_wp2_with fail
        refine' cutP3 (fun key => ?main) ?pf
        case main =>
          go_region_law (first | (go_simp; with_reducible refine (Hsum.out).mono ?_; rintro e w3 ⟨rfl, rfl⟩))
          all_goals exact key.out
        case pf =>
          clear Hsum
          clear x0_0 x0_1 x0_2 x0_3 x0_4 x0_5
          have hbd := (Below.refl wr.heap.size wr).drew
          replace O1 := Lib.hid (O1.out.keep hbd)
          replace M5 := Lib.hid (M5.out.keep hbd)
          replace O2 := Lib.hid (O2.out.keep hbd)
          replace M2 := Lib.hid (M2.out.keep hbd)
          replace O4 := Lib.hid (O4.out.keep hbd)
          replace Acc := Lib.hid (belowTrans Acc.out hbd (Nat.le_refl _))
          clear hbd
          by_cases hI0 : I = 0
          · subst hI0
            obtain ⟨⟨x0_0, x0_1, x0_2⟩, x0_3, x0_4, x0_5⟩ := M5.out.cells
            clear Hb7 Hm7 Hb8 Hpre
            clear O1
            clear O2
            clear M2
            clear O4
            go_wp2_with fail
            with_reducible refine (He.out _ Acc.out).mono ?_
            rintro e v9 ⟨h6, l6, p6, n6, c6, zs, k6, rfl, ho6, hn6, hb9⟩
            have sz9 : wr.heap.size ≤ v9.heap.size := by have := hb9.size; simpa using this
            replace Acc := Lib.hid (belowTrans Acc.out hb9 (Nat.le_refl _))
            replace M5 := Lib.hid (M5.out.keep hb9)
            clear hb9
            have O6 := Lib.hid ho6; clear ho6
            clear He
            have hba := belowAlloc v9 (.cells #[.int .i64 h6, .int .i64 l6, .slice p6 n6 c6] 26)
            replace Acc := Lib.hid (belowTrans Acc.out hba (Nat.le_refl _))
            replace M5 := Lib.hid (M5.out.keep hba)
            replace O6 := Lib.hid (O6.out.keep hba)
            have M6 := Lib.hid (Blk.new v9 h6 l6 p6 n6 c6 26)
            clear hba
            have hni := fun W hA => impl_NewPiles h6 l6 p6 n6 c6 zs k6 W hA
            have hns := fun W hA => spec_NewPiles h6 l6 p6 n6 c6 zs k6 W hA
            have hbi := fun W hA => impl_BankSteps h6 l6 p6 n6 c6 zs k6 W hA
            have hbs := fun W hA => spec_BankSteps h6 l6 p6 n6 c6 zs k6 W hA
            generalize (mNewPiles ⟨h6, l6, zs⟩ k6).1 = P9 at *
            generalize (mNewPiles ⟨h6, l6, zs⟩ k6).2 = b9 at *
            generalize (mBankSteps ⟨h6, l6, zs⟩ k6).1 = D9 at *
            generalize (mBankSteps ⟨h6, l6, zs⟩ k6).2 = b10 at *
            obtain ⟨h8, l8, q8⟩ := D9
            simp only at hbi hbs
            have Hni := Lib.hid hni; clear hni
            have Hns := Lib.hid hns; clear hns
            have Hbi := Lib.hid hbi; clear hbi
            have Hbs := Lib.hid hbs; clear hbs
            obtain ⟨⟨x0_0, x0_1, x0_2⟩, x0_3, x0_4, x0_5⟩ := M6.out.cells
            go_wp2_with fail
            with_reducible refine (Hni.out _ O6.out.at).mono ?_
            rintro e v10 ⟨pa, na, ca, rfl, hoa, hb10⟩
            clear x0_0 x0_1 x0_2 x0_3 x0_4 x0_5
            have sz10 : v9.heap.size + 1 ≤ v10.heap.size := by have := hb10.size; simpa using this
            replace Acc := Lib.hid (belowTrans Acc.out hb10 (Nat.le_refl _))
            replace M5 := Lib.hid (M5.out.keep hb10)
            replace O6 := Lib.hid (O6.out.keep hb10)
            replace M6 := Lib.hid (M6.out.keep hb10)
            clear hb10
            have Oa := Lib.hid hoa; clear hoa
            obtain ⟨⟨x0_0, x0_1, x0_2⟩, x0_3, x0_4, x0_5⟩ := M6.out.cells
            go_wp2_with fail
            with_reducible refine (Hns.out _ O6.out.at).mono ?_
            rintro e v11 ⟨pb, nb, cb, rfl, hob, hb11⟩
            clear x0_0 x0_1 x0_2 x0_3 x0_4 x0_5
            have sz11 : v10.heap.size ≤ v11.heap.size := by have := hb11.size; simpa using this
            replace Acc := Lib.hid (belowTrans Acc.out hb11 (Nat.le_refl _))
            replace M5 := Lib.hid (M5.out.keep hb11)
            replace O6 := Lib.hid (O6.out.keep hb11)
            replace M6 := Lib.hid (M6.out.keep hb11)
            replace Oa := Lib.hid (Oa.out.keep hb11)
            clear hb11
            have Ob := Lib.hid hob; clear hob
            obtain ⟨⟨x0_0, x0_1, x0_2⟩, x0_3, x0_4, x0_5⟩ := M6.out.cells
            go_wp2_with fail
            with_reducible refine (Hbi.out _ O6.out.at).mono ?_
            rintro e v12 ⟨pi, ni, ci, rfl, hoi, hb12⟩
            clear x0_0 x0_1 x0_2 x0_3 x0_4 x0_5
            have sz12 : v11.heap.size ≤ v12.heap.size := by have := hb12.size; simpa using this
            replace Acc := Lib.hid (belowTrans Acc.out hb12 (Nat.le_refl _))
            replace M5 := Lib.hid (M5.out.keep hb12)
            replace O6 := Lib.hid (O6.out.keep hb12)
            replace M6 := Lib.hid (M6.out.keep hb12)
            replace Oa := Lib.hid (Oa.out.keep hb12)
            replace Ob := Lib.hid (Ob.out.keep hb12)
            clear hb12
            have Oi := Lib.hid hoi; clear hoi
            have hba := belowAlloc v12 (.cells #[.int .i64 h8, .int .i64 l8, .slice pi ni ci] 26)
            replace Acc := Lib.hid (belowTrans Acc.out hba (Nat.le_refl _))
            replace M5 := Lib.hid (M5.out.keep hba)
            replace O6 := Lib.hid (O6.out.keep hba)
            replace M6 := Lib.hid (M6.out.keep hba)
            replace Oa := Lib.hid (Oa.out.keep hba)
            replace Ob := Lib.hid (Ob.out.keep hba)
            replace Oi := Lib.hid (Oi.out.keep hba)
            have Mi := Lib.hid (Blk.new v12 h8 l8 pi ni ci 26)
            clear hba
            obtain ⟨⟨x0_0, x0_1, x0_2⟩, x0_3, x0_4, x0_5⟩ := M6.out.cells
            go_wp2_with fail
            with_reducible refine (Hbs.out _ O6.out.at).mono ?_
            rintro e v13 ⟨ps, ns, cs, rfl, hos, hb13⟩
            clear x0_0 x0_1 x0_2 x0_3 x0_4 x0_5
            have sz13 : v12.heap.size + 1 ≤ v13.heap.size := by have := hb13.size; simpa using this
            replace Acc := Lib.hid (belowTrans Acc.out hb13 (Nat.le_refl _))
            replace M5 := Lib.hid (M5.out.keep hb13)
            replace O6 := Lib.hid (O6.out.keep hb13)
            replace M6 := Lib.hid (M6.out.keep hb13)
            replace Oa := Lib.hid (Oa.out.keep hb13)
            replace Ob := Lib.hid (Ob.out.keep hb13)
            replace Oi := Lib.hid (Oi.out.keep hb13)
            replace Mi := Lib.hid (Mi.out.keep hb13)
            clear hb13
            have Os := Lib.hid hos; clear hos
            have hba := belowAlloc v13 (.cells #[.int .i64 h8, .int .i64 l8, .slice ps ns cs] 26)
            replace Acc := Lib.hid (belowTrans Acc.out hba (Nat.le_refl _))
            replace M5 := Lib.hid (M5.out.keep hba)
            replace O6 := Lib.hid (O6.out.keep hba)
            replace M6 := Lib.hid (M6.out.keep hba)
            replace Oa := Lib.hid (Oa.out.keep hba)
            replace Ob := Lib.hid (Ob.out.keep hba)
            replace Oi := Lib.hid (Oi.out.keep hba)
            replace Mi := Lib.hid (Mi.out.keep hba)
            replace Os := Lib.hid (Os.out.keep hba)
            have Ms := Lib.hid (Blk.new v13 h8 l8 ps ns cs 26)
            clear hba
            clear Hni Hns Hbi Hbs
            have hc := xSame_any _ _ _ _ _ _ _ _ _ Oa.out.at Ob.out.at
            rw [decide_eq_true rfl] at hc
            have Hc := Lib.hid hc; clear hc
            go_wp2_with fail
            with_reducible refine (Hc.out).mono ?_
            rintro e v14 ⟨rfl, hb14⟩
            have sz14 : v13.heap.size + 1 ≤ v14.heap.size := by have := hb14.size; simpa using this
            replace Acc := Lib.hid (belowTrans Acc.out hb14 (Nat.le_refl _))
            replace M5 := Lib.hid (M5.out.keep hb14)
            replace O6 := Lib.hid (O6.out.keep hb14)
            replace M6 := Lib.hid (M6.out.keep hb14)
            replace Oa := Lib.hid (Oa.out.keep hb14)
            replace Ob := Lib.hid (Ob.out.keep hb14)
            replace Oi := Lib.hid (Oi.out.keep hb14)
            replace Mi := Lib.hid (Mi.out.keep hb14)
            replace Os := Lib.hid (Os.out.keep hb14)
            replace Ms := Lib.hid (Ms.out.keep hb14)
            clear hb14
            clear Hc
            clear Oa
            clear Ob
            have hxb := xBank_any (h8) (l8) (h8) (l8) pi ps ni ns ci cs (q8) (q8) _ Oi.out.at Os.out.at
            rw [decide_eq_true rfl] at hxb
            have Hxb := Lib.hid hxb; clear hxb
            obtain ⟨⟨x0_0, x0_1, x0_2⟩, x0_3, x0_4, x0_5⟩ := Mi.out.cells
            obtain ⟨⟨x1_0, x1_1, x1_2⟩, x1_3, x1_4, x1_5⟩ := Ms.out.cells
            go_wp2_with fail
            with_reducible refine (Hxb.out).mono ?_
            rintro e v15 ⟨rfl, hb15⟩
            clear x0_0 x0_1 x0_2 x0_3 x0_4 x0_5
            clear x1_0 x1_1 x1_2 x1_3 x1_4 x1_5
            have sz15 : v14.heap.size ≤ v15.heap.size := by have := hb15.size; simpa using this
            replace Acc := Lib.hid (belowTrans Acc.out hb15 (Nat.le_refl _))
            replace M5 := Lib.hid (M5.out.keep hb15)
            replace O6 := Lib.hid (O6.out.keep hb15)
            replace M6 := Lib.hid (M6.out.keep hb15)
            replace Oi := Lib.hid (Oi.out.keep hb15)
            replace Mi := Lib.hid (Mi.out.keep hb15)
            replace Os := Lib.hid (Os.out.keep hb15)
            replace Ms := Lib.hid (Ms.out.keep hb15)
            clear hb15
            clear Hxb
            go_wp2
            go_ret
            exact ⟨by simp, Acc.out⟩
          · have hIi : (0 : Int) < (I : Int) := by omega
            have hbb := Hb7.out
            simp only [Hm7.out (by omega)] at hbb
            have hne := Hpre.out (by omega)
            clear Hb7 Hm7 Hpre
            have Hbb := Lib.hid hbb; clear hbb
            have Hne := Lib.hid hne; clear hne
            obtain ⟨⟨x0_0, x0_1, x0_2⟩, x0_3, x0_4, x0_5⟩ := M5.out.cells
            go_wp2_with fail
            with_reducible refine (Hbb.out _ O1.out.at).mono ?_
            rintro e v9 ⟨a6, n6, c6, rfl, ho6, hb9⟩
            clear x0_0 x0_1 x0_2 x0_3 x0_4 x0_5
            have sz9 : wr.heap.size ≤ v9.heap.size := by have := hb9.size; simpa using this
            replace Acc := Lib.hid (belowTrans Acc.out hb9 (Nat.le_refl _))
            replace O1 := Lib.hid (O1.out.keep hb9)
            replace M5 := Lib.hid (M5.out.keep hb9)
            replace O2 := Lib.hid (O2.out.keep hb9)
            replace M2 := Lib.hid (M2.out.keep hb9)
            replace O4 := Lib.hid (O4.out.keep hb9)
            clear hb9
            have O6 := Lib.hid ho6; clear ho6
            have hba := belowAlloc v9 (.cells #[.int .i64 h8, .int .i64 l7, .slice a6 n6 c6] 26)
            replace Acc := Lib.hid (belowTrans Acc.out hba (Nat.le_refl _))
            replace O1 := Lib.hid (O1.out.keep hba)
            replace M5 := Lib.hid (M5.out.keep hba)
            replace O2 := Lib.hid (O2.out.keep hba)
            replace M2 := Lib.hid (M2.out.keep hba)
            replace O4 := Lib.hid (O4.out.keep hba)
            replace O6 := Lib.hid (O6.out.keep hba)
            have M6 := Lib.hid (Blk.new v9 h8 l7 a6 n6 c6 26)
            clear hba
            obtain ⟨⟨x0_0, x0_1, x0_2⟩, x0_3, x0_4, x0_5⟩ := M2.out.cells
            go_wp2_with fail
            with_reducible refine (Hb8.out _ _ _ _ O2.out.at).mono ?_
            rintro e v10 ⟨a7, n7, c7, rfl, ho7, hb10⟩
            clear x0_0 x0_1 x0_2 x0_3 x0_4 x0_5
            have sz10 : v9.heap.size + 1 ≤ v10.heap.size := by have := hb10.size; simpa using this
            replace Acc := Lib.hid (belowTrans Acc.out hb10 (Nat.le_refl _))
            replace O1 := Lib.hid (O1.out.keep hb10)
            replace M5 := Lib.hid (M5.out.keep hb10)
            replace O2 := Lib.hid (O2.out.keep hb10)
            replace M2 := Lib.hid (M2.out.keep hb10)
            replace O4 := Lib.hid (O4.out.keep hb10)
            replace O6 := Lib.hid (O6.out.keep hb10)
            replace M6 := Lib.hid (M6.out.keep hb10)
            clear hb10
            have O7 := Lib.hid ho7; clear ho7
            have hba := belowAlloc v10 (.cells #[.int .i64 h8, .int .i64 l8, .slice a7 n7 c7] 26)
            replace Acc := Lib.hid (belowTrans Acc.out hba (Nat.le_refl _))
            replace O1 := Lib.hid (O1.out.keep hba)
            replace M5 := Lib.hid (M5.out.keep hba)
            replace O2 := Lib.hid (O2.out.keep hba)
            replace M2 := Lib.hid (M2.out.keep hba)
            replace O4 := Lib.hid (O4.out.keep hba)
            replace O6 := Lib.hid (O6.out.keep hba)
            replace M6 := Lib.hid (M6.out.keep hba)
            replace O7 := Lib.hid (O7.out.keep hba)
            have M7 := Lib.hid (Blk.new v10 h8 l8 a7 n7 c7 26)
            clear hba
            clear Hbb Hb8
            have hxb := xBank_any (h8) (l7) (h8) (l8) a6 a7 n6 n7 c6 c7 (q7) (q8) _ O6.out.at O7.out.at
            rw [decide_eq_false Hne.out] at hxb
            have Hxb := Lib.hid hxb; clear hxb
            obtain ⟨⟨x0_0, x0_1, x0_2⟩, x0_3, x0_4, x0_5⟩ := M6.out.cells
            obtain ⟨⟨x1_0, x1_1, x1_2⟩, x1_3, x1_4, x1_5⟩ := M7.out.cells
            go_wp2_with fail
            with_reducible refine (Hxb.out).mono ?_
            rintro e v11 ⟨rfl, hb11⟩
            clear x0_0 x0_1 x0_2 x0_3 x0_4 x0_5
            clear x1_0 x1_1 x1_2 x1_3 x1_4 x1_5
            have sz11 : v10.heap.size + 1 ≤ v11.heap.size := by have := hb11.size; simpa using this
            replace Acc := Lib.hid (belowTrans Acc.out hb11 (Nat.le_refl _))
            replace O1 := Lib.hid (O1.out.keep hb11)
            replace M5 := Lib.hid (M5.out.keep hb11)
            replace O2 := Lib.hid (O2.out.keep hb11)
            replace M2 := Lib.hid (M2.out.keep hb11)
            replace O4 := Lib.hid (O4.out.keep hb11)
            replace O6 := Lib.hid (O6.out.keep hb11)
            replace M6 := Lib.hid (M6.out.keep hb11)
            replace O7 := Lib.hid (O7.out.keep hb11)
            replace M7 := Lib.hid (M7.out.keep hb11)
            clear hb11
            clear Hxb
            clear Hne
            clear O1
            clear O2
            clear M2
            clear O4
            clear O6
            clear M6
            clear O7
            clear M7
            clear M5
            go_wp2_with fail
            with_reducible refine (He.out _ Acc.out).mono ?_
            rintro e v12 ⟨h6, l6, p6, n6, c6, zs, k6, rfl, ho6, hn6, hb12⟩
            have sz12 : v11.heap.size ≤ v12.heap.size := by have := hb12.size; simpa using this
            replace Acc := Lib.hid (belowTrans Acc.out hb12 (Nat.le_refl _))
            clear hb12
            have O6 := Lib.hid ho6; clear ho6
            clear He
            have hba := belowAlloc v12 (.cells #[.int .i64 h6, .int .i64 l6, .slice p6 n6 c6] 26)
            replace Acc := Lib.hid (belowTrans Acc.out hba (Nat.le_refl _))
            replace O6 := Lib.hid (O6.out.keep hba)
            have M6 := Lib.hid (Blk.new v12 h6 l6 p6 n6 c6 26)
            clear hba
            have hni := fun W hA => impl_NewPiles h6 l6 p6 n6 c6 zs k6 W hA
            have hns := fun W hA => spec_NewPiles h6 l6 p6 n6 c6 zs k6 W hA
            have hbi := fun W hA => impl_BankSteps h6 l6 p6 n6 c6 zs k6 W hA
            have hbs := fun W hA => spec_BankSteps h6 l6 p6 n6 c6 zs k6 W hA
            generalize (mNewPiles ⟨h6, l6, zs⟩ k6).1 = P9 at *
            generalize (mNewPiles ⟨h6, l6, zs⟩ k6).2 = b9 at *
            generalize (mBankSteps ⟨h6, l6, zs⟩ k6).1 = D9 at *
            generalize (mBankSteps ⟨h6, l6, zs⟩ k6).2 = b10 at *
            obtain ⟨h8, l8, q8⟩ := D9
            simp only at hbi hbs
            have Hni := Lib.hid hni; clear hni
            have Hns := Lib.hid hns; clear hns
            have Hbi := Lib.hid hbi; clear hbi
            have Hbs := Lib.hid hbs; clear hbs
            obtain ⟨⟨x0_0, x0_1, x0_2⟩, x0_3, x0_4, x0_5⟩ := M6.out.cells
            go_wp2_with fail
            with_reducible refine (Hni.out _ O6.out.at).mono ?_
            rintro e v13 ⟨pa, na, ca, rfl, hoa, hb13⟩
            clear x0_0 x0_1 x0_2 x0_3 x0_4 x0_5
            have sz13 : v12.heap.size + 1 ≤ v13.heap.size := by have := hb13.size; simpa using this
            replace Acc := Lib.hid (belowTrans Acc.out hb13 (Nat.le_refl _))
            replace O6 := Lib.hid (O6.out.keep hb13)
            replace M6 := Lib.hid (M6.out.keep hb13)
            clear hb13
            have Oa := Lib.hid hoa; clear hoa
            obtain ⟨⟨x0_0, x0_1, x0_2⟩, x0_3, x0_4, x0_5⟩ := M6.out.cells
            go_wp2_with fail
            with_reducible refine (Hns.out _ O6.out.at).mono ?_
            rintro e v14 ⟨pb, nb, cb, rfl, hob, hb14⟩
            clear x0_0 x0_1 x0_2 x0_3 x0_4 x0_5
            have sz14 : v13.heap.size ≤ v14.heap.size := by have := hb14.size; simpa using this
            replace Acc := Lib.hid (belowTrans Acc.out hb14 (Nat.le_refl _))
            replace O6 := Lib.hid (O6.out.keep hb14)
            replace M6 := Lib.hid (M6.out.keep hb14)
            replace Oa := Lib.hid (Oa.out.keep hb14)
            clear hb14
            have Ob := Lib.hid hob; clear hob
            obtain ⟨⟨x0_0, x0_1, x0_2⟩, x0_3, x0_4, x0_5⟩ := M6.out.cells
            go_wp2_with fail
            with_reducible refine (Hbi.out _ O6.out.at).mono ?_
            rintro e v15 ⟨pi, ni, ci, rfl, hoi, hb15⟩
            clear x0_0 x0_1 x0_2 x0_3 x0_4 x0_5
            have sz15 : v14.heap.size ≤ v15.heap.size := by have := hb15.size; simpa using this
            replace Acc := Lib.hid (belowTrans Acc.out hb15 (Nat.le_refl _))
            replace O6 := Lib.hid (O6.out.keep hb15)
            replace M6 := Lib.hid (M6.out.keep hb15)
            replace Oa := Lib.hid (Oa.out.keep hb15)
            replace Ob := Lib.hid (Ob.out.keep hb15)
            clear hb15
            have Oi := Lib.hid hoi; clear hoi
            have hba := belowAlloc v15 (.cells #[.int .i64 h8, .int .i64 l8, .slice pi ni ci] 26)
            replace Acc := Lib.hid (belowTrans Acc.out hba (Nat.le_refl _))
            replace O6 := Lib.hid (O6.out.keep hba)
            replace M6 := Lib.hid (M6.out.keep hba)
            replace Oa := Lib.hid (Oa.out.keep hba)
            replace Ob := Lib.hid (Ob.out.keep hba)
            replace Oi := Lib.hid (Oi.out.keep hba)
            have Mi := Lib.hid (Blk.new v15 h8 l8 pi ni ci 26)
            clear hba
            obtain ⟨⟨x0_0, x0_1, x0_2⟩, x0_3, x0_4, x0_5⟩ := M6.out.cells
            go_wp2_with fail
            with_reducible refine (Hbs.out _ O6.out.at).mono ?_
            rintro e v16 ⟨ps, ns, cs, rfl, hos, hb16⟩
            clear x0_0 x0_1 x0_2 x0_3 x0_4 x0_5
            have sz16 : v15.heap.size + 1 ≤ v16.heap.size := by have := hb16.size; simpa using this
            replace Acc := Lib.hid (belowTrans Acc.out hb16 (Nat.le_refl _))
            replace O6 := Lib.hid (O6.out.keep hb16)
            replace M6 := Lib.hid (M6.out.keep hb16)
            replace Oa := Lib.hid (Oa.out.keep hb16)
            replace Ob := Lib.hid (Ob.out.keep hb16)
            replace Oi := Lib.hid (Oi.out.keep hb16)
            replace Mi := Lib.hid (Mi.out.keep hb16)
            clear hb16
            have Os := Lib.hid hos; clear hos
            have hba := belowAlloc v16 (.cells #[.int .i64 h8, .int .i64 l8, .slice ps ns cs] 26)
            replace Acc := Lib.hid (belowTrans Acc.out hba (Nat.le_refl _))
            replace O6 := Lib.hid (O6.out.keep hba)
            replace M6 := Lib.hid (M6.out.keep hba)
            replace Oa := Lib.hid (Oa.out.keep hba)
            replace Ob := Lib.hid (Ob.out.keep hba)
            replace Oi := Lib.hid (Oi.out.keep hba)
            replace Mi := Lib.hid (Mi.out.keep hba)
            replace Os := Lib.hid (Os.out.keep hba)
            have Ms := Lib.hid (Blk.new v16 h8 l8 ps ns cs 26)
            clear hba
            clear Hni Hns Hbi Hbs
            have hc := xSame_any _ _ _ _ _ _ _ _ _ Oa.out.at Ob.out.at
            rw [decide_eq_true rfl] at hc
            have Hc := Lib.hid hc; clear hc
            go_wp2_with fail
            with_reducible refine (Hc.out).mono ?_
            rintro e v17 ⟨rfl, hb17⟩
            have sz17 : v16.heap.size + 1 ≤ v17.heap.size := by have := hb17.size; simpa using this
            replace Acc := Lib.hid (belowTrans Acc.out hb17 (Nat.le_refl _))
            replace O6 := Lib.hid (O6.out.keep hb17)
            replace M6 := Lib.hid (M6.out.keep hb17)
            replace Oa := Lib.hid (Oa.out.keep hb17)
            replace Ob := Lib.hid (Ob.out.keep hb17)
            replace Oi := Lib.hid (Oi.out.keep hb17)
            replace Mi := Lib.hid (Mi.out.keep hb17)
            replace Os := Lib.hid (Os.out.keep hb17)
            replace Ms := Lib.hid (Ms.out.keep hb17)
            clear hb17
            clear Hc
            clear Oa
            clear Ob
            have hxb := xBank_any (h8) (l8) (h8) (l8) pi ps ni ns ci cs (q8) (q8) _ Oi.out.at Os.out.at
            rw [decide_eq_true rfl] at hxb
            have Hxb := Lib.hid hxb; clear hxb
            obtain ⟨⟨x0_0, x0_1, x0_2⟩, x0_3, x0_4, x0_5⟩ := Mi.out.cells
            obtain ⟨⟨x1_0, x1_1, x1_2⟩, x1_3, x1_4, x1_5⟩ := Ms.out.cells
            go_wp2_with fail
            with_reducible refine (Hxb.out).mono ?_
            rintro e v18 ⟨rfl, hb18⟩
            clear x0_0 x0_1 x0_2 x0_3 x0_4 x0_5
            clear x1_0 x1_1 x1_2 x1_3 x1_4 x1_5
            have sz18 : v17.heap.size ≤ v18.heap.size := by have := hb18.size; simpa using this
            replace Acc := Lib.hid (belowTrans Acc.out hb18 (Nat.le_refl _))
            replace O6 := Lib.hid (O6.out.keep hb18)
            replace M6 := Lib.hid (M6.out.keep hb18)
            replace Oi := Lib.hid (Oi.out.keep hb18)
            replace Mi := Lib.hid (Mi.out.keep hb18)
            replace Os := Lib.hid (Os.out.keep hb18)
            replace Ms := Lib.hid (Ms.out.keep hb18)
            clear hb18
            clear Hxb
            go_wp2
            go_ret
            exact ⟨by simp, Acc.out⟩

/-- The door's own heap meets the condition. -/
theorem door_met (os : Os) (args : Array Value) : laidMetH Tryd.prog Rows.fnBankOrbitsRow.laid ((World.doorLaid Tryd.prog 4000 os).forCall (fun _ _ => 0) ⟨#[], args, []⟩).memory :=
  laidMetH_of_parts3 (fuel := 8) (laidMet_of_run' 8 (by kernel_rfl) (by kernel_rfl)) (by kernel_rfl) (by kernel_rfl)

/-! ### THE ROW's STEP: WRITTEN OUT: LEAVE IT -/
set_option maxRecDepth 100000 in
theorem lifted (os : Os) (started : os.Started) (H : Type) (enc : TypeId × Value → H) :
    ReturnsInHanded {} Tryd.checked os 3 .any (fun w args => (Rows.fnBankOrbitsSpec.pre enc Tryd.prog Tryd.f3 [] false w args ∧ laidMetH Tryd.prog Rows.fnBankOrbitsRow.laid w) ∧ sizedMet enc Tryd.prog Tryd.f3 (OpenSpec.ofChange Rows.fnBankOrbitsSpec) false w args)
      (Rows.fnBankOrbitsSpec.post enc Tryd.prog Tryd.f3 false true false false) := by
  refine returnsInHanded_of_change_and (C := Tryd.checked) (X := fun w _ => laidMetH Tryd.prog Rows.fnBankOrbitsRow.laid w) (fun _ _ _ hh h => h.of_heap hh) own started (by kernel_rfl) Tryd.func3
    (ChangeSpec.witness_shaped (enc := enc) (C := Tryd.checked) (os := os) (X := fun w _ => laidMetH Tryd.prog Rows.fnBankOrbitsRow.laid w) false (World.doorLaid Tryd.prog 4000 os) #[.slice none 0 0, .slice none 0 0] 8 rfl (World.shaped_of_RefB (by kernel_rfl) (by kernel_rfl)) (by kernel_rfl) (by kernel_rfl) (by kernel_rfl) (door_met os _)) ?_
  intro W base args ds gs before hval0 hW _ _ hL _
  have hval : ∀ (j : Nat) t v, Tryd.f3.params[j]? = some t → args[j]? = some v → Value.okWide Tryd.prog W .any base t v := hval0
  have hW' := hW
  obtain ⟨p, q, hA0, hV, rfl, hfz, hnd⟩ := hW
  have hA : DataW.TrodAll enc Tryd.prog W 0 (fun _ => true) true Tryd.f3.params.toList args.toList ds p := hA0
  rw [Tryd.params3] at hA hval
  obtain ⟨v0, vs0, d0, ds0, p0, q0, hargs, rfl, rfl, h0, r0⟩ := trodAll_cons hA
  obtain ⟨v1, vs1, d1, ds1, p1, q1, rfl, rfl, rfl, h1, r1⟩ := trodAll_cons r0
  obtain ⟨rfl, rfl, rfl⟩ := trodAll_nil r1
  obtain rfl : args = #[v0, v1] := by cases args; simp_all
  obtain ⟨rfl, rfl⟩ := trodVars_none hV
  obtain ⟨a0, len0, cap0, rfl⟩ := okWide_slice Tryd.underlying22 (hval 0 22 v0 rfl rfl)
  have k0 := h0
  have lt0 : ∀ x ∈ p0, x.block < W.heap.size := by obtain ⟨m, hm⟩ := k0; exact DataW.trod_lt m _ _ _ hm
  obtain ⟨z0, w0⟩ : ∃ zs, IsRow .u8 W a0 len0 cap0 zs := by
    obtain ⟨fuel, hf⟩ := h0
    rcases open_ints Tryd.underlying22 Tryd.underlying5 (by kernel_rfl) hf with ⟨hcs, _⟩ | ⟨x, l, c, zs, hcs, _, hl, hm, hz, _, hcell, hwz⟩
    · simp [Value.cells] at hcs
      obtain ⟨rfl, rfl, rfl⟩ := hcs
      exact ⟨[], .inl ⟨rfl, rfl, rfl, rfl⟩⟩
    · simp [Value.cells] at hcs
      obtain ⟨rfl, rfl, rfl⟩ := hcs
      exact ⟨zs, .inr ⟨_, rfl, hl, hm, by simpa using hz, hcell, hwz⟩⟩
  obtain ⟨a1, len1, cap1, rfl⟩ := okWide_slice Tryd.underlying22 (hval 1 22 v1 rfl rfl)
  have k1 := h1
  have lt1 : ∀ x ∈ p1, x.block < W.heap.size := by obtain ⟨m, hm⟩ := k1; exact DataW.trod_lt m _ _ _ hm
  obtain ⟨z1, w1⟩ : ∃ zs, IsRow .u8 W a1 len1 cap1 zs := by
    obtain ⟨fuel, hf⟩ := h1
    rcases open_ints Tryd.underlying22 Tryd.underlying5 (by kernel_rfl) hf with ⟨hcs, _⟩ | ⟨x, l, c, zs, hcs, _, hl, hm, hz, _, hcell, hwz⟩
    · simp [Value.cells] at hcs
      obtain ⟨rfl, rfl, rfl⟩ := hcs
      exact ⟨[], .inl ⟨rfl, rfl, rfl, rfl⟩⟩
    · simp [Value.cells] at hcs
      obtain ⟨rfl, rfl, rfl⟩ := hcs
      exact ⟨zs, .inr ⟨_, rfl, hl, hm, by simpa using hz, hcell, hwz⟩⟩
  clear hA0 hval0
  refine (walk a0 len0 cap0 z0 a1 len1 cap1 z1 W w0 w1).mono fun e W' ⟨he, bel⟩ => ?_
  subst he
  exact ⟨_, rfl, _, _, _, [], _, [], hW', trodAll_mk1 (shut_bool Tryd.underlying4 _), (trodAll_cons_mk (Below.trod laidOut (by kernel_rfl) (of_decide_eq_true (by kernel_rfl)) k0 bel lt0) (trodAll_cons_mk (Below.trod laidOut (by kernel_rfl) (of_decide_eq_true (by kernel_rfl)) k1 bel lt1) trodAll_mk0)), rfl, bel.frame _, fun h => by cases h⟩

theorem closedFacts : joinedFacts Tryd.prog 3 Tryd.f3 Rows.fnBankOrbitsSpec Rows.fnBankOrbitsRow = true := by
  unfold joinedFacts
  rw [head_enter, head_lifts, head_make]
  kernel_rfl
theorem closedHere : joinedFacts Tryd.pinned.checked.prog 3 Tryd.f3 Rows.fnBankOrbitsSpec Rows.fnBankOrbitsRow = true := by
  rw [progEq]
  exact closedFacts
theorem over : Rows.fnBankOrbitsRow.holds Tryd.pinned (OpenSpec.ofChange Rows.fnBankOrbitsSpec) :=
  OpenClaim.holds_of_wide 3 Tryd.f3 rfl rfl rfl rfl rfl rfl rfl ⟨rfl, rfl, rfl, rfl, rfl⟩ rfl rfl rfl rfl rfl (by kernel_rfl) Tryd.func3 closedHere
    (of_decide_eq_true (by kernel_rfl)) (by unfold Func.isWrapper; first | (rw [if_pos (by decide +kernel)]; kernel_rfl) | (rw [if_neg (by decide +kernel)]; exact ⟨rfl, rfl⟩))
    (fun os started H enc _ => lifted os started H enc)

/-- the tied card -/
theorem proved : Rows.FnBankOrbitsCardSaid :=
  Claim7.holds_tied_plain_at .later [] [.data, .data, .data] true (true, "f33635242620ba9788857204eb6b1d56aaa8c428085ffe39ef34a4cc5ce81207") false
    over (fun _ h => by cases h) (by kernel_rfl) (fun _ h => by cases h) fnBankOrbits_row_tie rfl ⟨rfl, rfl⟩ (by kernel_rfl) rfl
    (fun f fn hf hfn => by
      obtain rfl : f = 3 := Option.some.inj ((show Tryd.prog.funcNamed "loop.example/g01114/laws.FnBankOrbits" = some 3 by kernel_rfl).symm.trans hf) |>.symm
      obtain rfl : fn = Tryd.f3 := (Option.some.inj (Tryd.func3.symm.trans hfn)).symm
      exact ⟨by kernel_rfl, fun j t ht => by
        rw [Tryd.params3] at ht
        have hm : t ∈ [22] := by simpa using Array.mem_of_getElem? ht
        have hall : ([22].all fun u => !Tryd.prog.wantsStandIn u) = true := by kernel_rfl
        exact (show Tryd.prog.wantsStandIn t = false by simpa using List.all_eq_true.1 hall t hm)⟩)
    (by kernel_rfl)
#print axioms proved
end Go.Proofs.YtnebfojnbjbogaaDoor.fnBankOrbits
