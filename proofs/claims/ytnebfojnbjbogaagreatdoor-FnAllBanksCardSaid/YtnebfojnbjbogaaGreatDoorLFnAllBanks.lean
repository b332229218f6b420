/- FnAllBanks: for every input the law returns true and leaves its arguments as they were. No condition. -/
import Derived.Test.YtnebfojnbjbogaaGreatDoorRows
import Derived.Test.YtnebfojnbjbogaaGreatDoorCards
import Derived.Test.YtnebfojnbjbogaaGreatDoorTie
import Derived.WalkKit
import Derived.LaidMore
import Derived.Stop.Joined
import Derived.SevenTiedAt
import Derived.ProofKit
import Derived.OpenShut
import Derived.ShutString
import Derived.ChangeOld
import Derived.Below
import Derived.Test.YtnebfojnbjbogaaGreatDoorHead
import Derived.Test.YtnebfojnbjbogaaGreatDoorLawp
import Derived.Test.YtnebfojnbjbogaaGreatDoorAbQ
import Derived.Test.YtnebfojnbjbogaaGreatDoorHelp
namespace Go.Proofs.YtnebfojnbjbogaaGreatDoor.fnAllBanks
set_option linter.unusedSimpArgs false
open Go.ChangeShapes Go.WideShapes Go.ChangeAt Go.RowKit
open Go.ChangeMaps (open_string shut_string)
set_option linter.unusedVariables false

theorem own : ownKnob Tryz.prog.godebug = none := by kernel_rfl
theorem laidOut : laidOutB Tryz.prog = true := by kernel_rfl

/-- WHAT THE WALK IS TOLD OF A SLICE OF INTEGERS THAT CAME IN: it is nil; or it leads to a row of 'cap' cells, the numbers 'zs' (the first 'len' are its elements, the rest its spare room), each fitting its kind. -/
def IsRow (k : IntKind) (w : World) (a : Option Addr) (len cap : Nat) (zs : List Int) : Prop :=
  (a = none ∧ len = 0 ∧ cap = 0 ∧ zs = []) ∨
  ∃ x, a = some x ∧ len ≤ cap ∧ cap ≤ maxLen ∧ zs.length = cap ∧ (∀ i, i < zs.length → w.cell? (x.add i) = some (.int k (zs.getD i 0))) ∧ ∀ n ∈ zs, (Lit.int k n).wf = true

/-! ### THE WALK: the Go text returns true, AND WRITES NOTHING THAT WAS THERE: 'Below w.heap.size w w'' (Derived/Below.lean: '.refl', '.alloc', '.drew', '.setCell' at a new block, '.trans'). Open each 'IsRow' by 'rcases' AHEAD of 'go_enter'; part every test ahead of the walk. -/
set_option maxHeartbeats 4000000 in
set_option maxRecDepth 100000 in
theorem walk (a0 : Option Addr) (len0 cap0 : Nat) (z0 : List Int) (a1 : Option Addr) (len1 cap1 : Nat) (z1 : List Int) (w : World) (w0 : IsRow .u8 w a0 len0 cap0 z0) (w1 : IsRow .u8 w a1 len1 cap1 z1) :
    Calls Tryz.prog 3 #[.slice a0 len0 cap0, .slice a1 len1 cap1] w fun e w' => e = .returned (.bool true) ∧ Below w.heap.size w w' := by
  have by0 := byteIn_row w0
  have by1 := byteIn_row w1
  have hl0 : len0 ≤ maxLen := by
    rcases w0 with ⟨_, h, _⟩ | ⟨x, _, h, h', _⟩
    · rw [h]; exact Nat.zero_le _
    · exact Nat.le_trans h h'
  clear w0 w1
  by_cases hbig : 1048576 < len0 ∨ (1048576 : Int) - len0 < len1
  · have hb := big_yes a0 a1 len0 len1 cap0 cap1 w hbig hl0
    have Hb := Lib.hid hb; clear hb
    go_enter Tryz.func3, Tryz.ntmps3
    go_wp2_with fail
    with_reducible refine (Hb.out).mono ?_
    rintro e w' ⟨rfl, rfl⟩
    go_wp2
    go_ret
    exact ⟨rfl, Below.refl _ _⟩
  have hb := big_no a0 a1 len0 len1 cap0 cap1 w (by omega) (by omega)
  have hd := DrawCyclicBanks_any a0 len0 cap0 w (by omega) by0
  have he := fun W (h : Below w.heap.size w W) => DrawAllBanks_any a1 len1 cap1 W (by omega) (by1.up (Nat.le_refl _) h h.size)
  have hf := fun W (h : Below w.heap.size w W) => DrawCountBanks_any a1 len1 cap1 W (by omega) (by1.up (Nat.le_refl _) h h.size)
  have hll : (len0 : Int) + (len1 : Int) ≤ 1048576 := by omega
  have Hb := Lib.hid hb; clear hb
  have Hd := Lib.hid hd; clear hd
  have He := Lib.hid he; clear he
  have Hf := Lib.hid hf; clear hf
  clear by0 by1 hl0 hbig
  have acc : Below w.heap.size w w := Below.refl _ _
  go_enter Tryz.func3, Tryz.ntmps3
  go_wp2_with fail
  with_reducible refine (Hb.out).mono ?_
  rintro e w' ⟨rfl, rfl⟩
  clear Hb
  have Acc := Lib.hid acc; clear acc
  go_wp2_with fail
  with_reducible refine (Hd.out).mono ?_
  rintro e v1 ⟨h, n, rfl, hb1⟩
  have sz1 : w.heap.size ≤ v1.heap.size := by have := hb1.size; simpa using this
  replace Acc := Lib.hid (belowTrans Acc.out hb1 (Nat.le_refl _))
  clear hb1
  clear Hd
  have hi := fun W => impl_CyclicBanks h n W
  have hs := fun W => spec_CyclicBanks h n W
  have hfact := fun q => cyc_list (h := h) (n := n) q
  cases hq : (mCyclicBanks h n).2
  · skip
    simp only [hq] at hi hs
    clear hq hfact
    generalize (mCyclicBanks h n).1 = CB at *
    have Hi := Lib.hid hi; clear hi
    have Hs := Lib.hid hs; clear hs
    go_wp2_with fail
    with_reducible refine (Hi.out _).mono ?_
    rintro e v2 ⟨pa, na, ca, rfl, hoa, hb2⟩
    have sz2 : v1.heap.size ≤ v2.heap.size := by have := hb2.size; simpa using this
    replace Acc := Lib.hid (belowTrans Acc.out hb2 (Nat.le_refl _))
    clear hb2
    have Oa := Lib.hid hoa; clear hoa
    go_wp2_with fail
    with_reducible refine (Hs.out _).mono ?_
    rintro e v3 ⟨pb, nb, cb, rfl, hob, hb3⟩
    have sz3 : v2.heap.size ≤ v3.heap.size := by have := hb3.size; simpa using this
    replace Acc := Lib.hid (belowTrans Acc.out hb3 (Nat.le_refl _))
    replace Oa := Lib.hid (Oa.out.keep hb3)
    clear hb3
    have Ob := Lib.hid hob; clear hob
    obtain rfl : nb = na := by rw [← Ob.out.length]; exact Oa.out.length
    clear Hi Hs
    have hxs := xBanks_any pa pb nb ca cb CB _ Oa.out.at Ob.out.at
    have Hxs := Lib.hid hxs; clear hxs
    go_wp2_with fail
    with_reducible refine (Hxs.out).mono ?_
    rintro e v4 ⟨rfl, hb4⟩
    have sz4 : v3.heap.size ≤ v4.heap.size := by have := hb4.size; simpa using this
    replace Acc := Lib.hid (belowTrans Acc.out hb4 (Nat.le_refl _))
    replace Oa := Lib.hid (Oa.out.keep hb4)
    replace Ob := Lib.hid (Ob.out.keep hb4)
    clear hb4
    clear Hxs
    clear Ob
    clear Oa
    go_wp2_with fail
    with_reducible refine (He.out _ Acc.out).mono ?_
    rintro e v5 ⟨m6, k6, rfl, hb5⟩
    have sz5 : v4.heap.size ≤ v5.heap.size := by have := hb5.size; simpa using this
    replace Acc := Lib.hid (belowTrans Acc.out hb5 (Nat.le_refl _))
    clear hb5
    clear He
    have hi := fun W => impl_AllBanks m6 k6 W
    have hs := fun W => spec_AllBanks m6 k6 W
    have hfact := fun q => all_count (h := m6) (n := k6) q
    have hcn := fun W => impl_CountBanks m6 k6 W
    cases hq : (mAllBanks m6 k6).2
    · skip
      simp only [hq] at hi hs
      clear hcn
      clear hq hfact
      generalize (mAllBanks m6 k6).1 = AB at *
      have Hi := Lib.hid hi; clear hi
      have Hs := Lib.hid hs; clear hs
      go_wp2_with fail
      with_reducible refine (Hi.out _).mono ?_
      rintro e v6 ⟨pe, ne, ce, rfl, hoe, hb6⟩
      have sz6 : v5.heap.size ≤ v6.heap.size := by have := hb6.size; simpa using this
      replace Acc := Lib.hid (belowTrans Acc.out hb6 (Nat.le_refl _))
      clear hb6
      have Oe := Lib.hid hoe; clear hoe
      go_wp2_with fail
      with_reducible refine (Hs.out _).mono ?_
      rintro e v7 ⟨pf, nf, cf, rfl, hof, hb7⟩
      have sz7 : v6.heap.size ≤ v7.heap.size := by have := hb7.size; simpa using this
      replace Acc := Lib.hid (belowTrans Acc.out hb7 (Nat.le_refl _))
      replace Oe := Lib.hid (Oe.out.keep hb7)
      clear hb7
      have Of := Lib.hid hof; clear hof
      obtain rfl : nf = ne := by rw [← Of.out.length]; exact Oe.out.length
      clear Hi Hs
      have hxs := xBanks_any pe pf nf ce cf AB _ Oe.out.at Of.out.at
      have Hxs := Lib.hid hxs; clear hxs
      go_wp2_with fail
      with_reducible refine (Hxs.out).mono ?_
      rintro e v8 ⟨rfl, hb8⟩
      have sz8 : v7.heap.size ≤ v8.heap.size := by have := hb8.size; simpa using this
      replace Acc := Lib.hid (belowTrans Acc.out hb8 (Nat.le_refl _))
      replace Oe := Lib.hid (Oe.out.keep hb8)
      replace Of := Lib.hid (Of.out.keep hb8)
      clear hb8
      clear Hxs
      clear Oe
      clear Of
      go_wp2_with fail
      with_reducible refine (Hf.out _ Acc.out).mono ?_
      rintro e v9 ⟨x9, y9, rfl, hb9⟩
      have sz9 : v8.heap.size ≤ v9.heap.size := by have := hb9.size; simpa using this
      replace Acc := Lib.hid (belowTrans Acc.out hb9 (Nat.le_refl _))
      clear hb9
      clear Hf
      have hi := fun W => impl_CountBanks x9 y9 W
      have hs := fun W => spec_CountBanks x9 y9 W
      generalize (mCountBanks x9 y9).1 = C1 at *
      generalize (mCountBanks x9 y9).2 = C2 at *
      have Hi := Lib.hid hi; clear hi
      have Hs := Lib.hid hs; clear hs
      go_wp2_with fail
      with_reducible refine (Hi.out _).mono ?_
      rintro e v10 ⟨rfl, hb10⟩
      have sz10 : v9.heap.size ≤ v10.heap.size := by have := hb10.size; simpa using this
      replace Acc := Lib.hid (belowTrans Acc.out hb10 (Nat.le_refl _))
      clear hb10
      go_wp2_with fail
      with_reducible refine (Hs.out _).mono ?_
      rintro e v11 ⟨rfl, hb11⟩
      have sz11 : v10.heap.size ≤ v11.heap.size := by have := hb11.size; simpa using this
      replace Acc := Lib.hid (belowTrans Acc.out hb11 (Nat.le_refl _))
      clear hb11
      go_wp2
      go_ret
      exact ⟨by simp, Acc.out⟩
    · skip
      simp only [hq] at hi hs
      have hc1 := hfact hq
      simp only [hc1] at hcn
      clear hc1
      clear hq hfact
      generalize (mAllBanks m6 k6).1 = AB at *
      have Hi := Lib.hid hi; clear hi
      have Hs := Lib.hid hs; clear hs
      have Hcn := Lib.hid hcn; clear hcn
      go_wp2_with fail
      with_reducible refine (Hi.out _).mono ?_
      rintro e v6 ⟨pe, ne, ce, rfl, hoe, hb6⟩
      have sz6 : v5.heap.size ≤ v6.heap.size := by have := hb6.size; simpa using this
      replace Acc := Lib.hid (belowTrans Acc.out hb6 (Nat.le_refl _))
      clear hb6
      have Oe := Lib.hid hoe; clear hoe
      go_wp2_with fail
      with_reducible refine (Hs.out _).mono ?_
      rintro e v7 ⟨pf, nf, cf, rfl, hof, hb7⟩
      have sz7 : v6.heap.size ≤ v7.heap.size := by have := hb7.size; simpa using this
      replace Acc := Lib.hid (belowTrans Acc.out hb7 (Nat.le_refl _))
      replace Oe := Lib.hid (Oe.out.keep hb7)
      clear hb7
      have Of := Lib.hid hof; clear hof
      obtain rfl : nf = ne := by rw [← Of.out.length]; exact Oe.out.length
      clear Hi Hs
      have hxs := xBanks_any pe pf nf ce cf AB _ Oe.out.at Of.out.at
      have Hxs := Lib.hid hxs; clear hxs
      go_wp2_with fail
      with_reducible refine (Hxs.out).mono ?_
      rintro e v8 ⟨rfl, hb8⟩
      have sz8 : v7.heap.size ≤ v8.heap.size := by have := hb8.size; simpa using this
      replace Acc := Lib.hid (belowTrans Acc.out hb8 (Nat.le_refl _))
      replace Oe := Lib.hid (Oe.out.keep hb8)
      replace Of := Lib.hid (Of.out.keep hb8)
      clear hb8
      clear Hxs
      have hlab := Oe.out.length
      have hln := Oe.out.at.lenInt
      have hcn := Hcn.out
      rw [hlab] at hcn
      clear Hcn hlab
      have Hcn := Lib.hid hcn; clear hcn
      go_wp2_with fail
      with_reducible refine (Hcn.out _).mono ?_
      rintro e v9 ⟨rfl, hb9⟩
      have sz9 : v8.heap.size ≤ v9.heap.size := by have := hb9.size; simpa using this
      replace Acc := Lib.hid (belowTrans Acc.out hb9 (Nat.le_refl _))
      replace Oe := Lib.hid (Oe.out.keep hb9)
      replace Of := Lib.hid (Of.out.keep hb9)
      clear hb9
      clear Hcn
      clear Oe
      clear Of
      go_wp2_with fail
      with_reducible refine (Hf.out _ Acc.out).mono ?_
      rintro e v10 ⟨x9, y9, rfl, hb10⟩
      have sz10 : v9.heap.size ≤ v10.heap.size := by have := hb10.size; simpa using this
      replace Acc := Lib.hid (belowTrans Acc.out hb10 (Nat.le_refl _))
      clear hb10
      clear Hf
      have hi := fun W => impl_CountBanks x9 y9 W
      have hs := fun W => spec_CountBanks x9 y9 W
      generalize (mCountBanks x9 y9).1 = C1 at *
      generalize (mCountBanks x9 y9).2 = C2 at *
      have Hi := Lib.hid hi; clear hi
      have Hs := Lib.hid hs; clear hs
      go_wp2_with fail
      with_reducible refine (Hi.out _).mono ?_
      rintro e v11 ⟨rfl, hb11⟩
      have sz11 : v10.heap.size ≤ v11.heap.size := by have := hb11.size; simpa using this
      replace Acc := Lib.hid (belowTrans Acc.out hb11 (Nat.le_refl _))
      clear hb11
      go_wp2_with fail
      with_reducible refine (Hs.out _).mono ?_
      rintro e v12 ⟨rfl, hb12⟩
      have sz12 : v11.heap.size ≤ v12.heap.size := by have := hb12.size; simpa using this
      replace Acc := Lib.hid (belowTrans Acc.out hb12 (Nat.le_refl _))
      clear hb12
      go_wp2
      go_ret
      exact ⟨by simp, Acc.out⟩
  · skip
    simp only [hq] at hi hs
    obtain ⟨hpos, hel⟩ := hfact hq
    clear hq hfact
    generalize (mCyclicBanks h n).1 = CB at *
    have Hi := Lib.hid hi; clear hi
    have Hs := Lib.hid hs; clear hs
    have Hpos := Lib.hid hpos; clear hpos
    have Hel := Lib.hid hel; clear hel
    go_wp2_with fail
    with_reducible refine (Hi.out _).mono ?_
    rintro e v2 ⟨pa, na, ca, rfl, hoa, hb2⟩
    have sz2 : v1.heap.size ≤ v2.heap.size := by have := hb2.size; simpa using this
    replace Acc := Lib.hid (belowTrans Acc.out hb2 (Nat.le_refl _))
    clear hb2
    have Oa := Lib.hid hoa; clear hoa
    go_wp2_with fail
    with_reducible refine (Hs.out _).mono ?_
    rintro e v3 ⟨pb, nb, cb, rfl, hob, hb3⟩
    have sz3 : v2.heap.size ≤ v3.heap.size := by have := hb3.size; simpa using this
    replace Acc := Lib.hid (belowTrans Acc.out hb3 (Nat.le_refl _))
    replace Oa := Lib.hid (Oa.out.keep hb3)
    clear hb3
    have Ob := Lib.hid hob; clear hob
    obtain rfl : nb = na := by rw [← Ob.out.length]; exact Oa.out.length
    clear Hi Hs
    have hxs := xBanks_any pa pb nb ca cb CB _ Oa.out.at Ob.out.at
    have Hxs := Lib.hid hxs; clear hxs
    go_wp2_with fail
    with_reducible refine (Hxs.out).mono ?_
    rintro e v4 ⟨rfl, hb4⟩
    have sz4 : v3.heap.size ≤ v4.heap.size := by have := hb4.size; simpa using this
    replace Acc := Lib.hid (belowTrans Acc.out hb4 (Nat.le_refl _))
    replace Oa := Lib.hid (Oa.out.keep hb4)
    replace Ob := Lib.hid (Ob.out.keep hb4)
    clear hb4
    clear Hxs
    clear Ob
    have hnl := Oa.out.at.lenInt
    have hCl := Oa.out.length
    have hnb : 0 < nb := by have := Hpos.out; omega
    obtain ⟨I, hI, hIlt⟩ := idx_mod len1 len0 nb hnb
    obtain ⟨b9, o9, rfl, hbl9, hc9⟩ := Oa.out.at.cell (by omega)
    obtain ⟨a3, m3, d3, z0, z1, z2, hI3⟩ := hc9 I hIlt
    clear hc9
    obtain ⟨e1, e2, e3, e4⟩ := Hel.out I (by omega)
    have hic := fun W hA => impl_IsCyclicBank (CB.getD I noBank).h (CB.getD I noBank).l a3 m3 d3 (CB.getD I noBank).p W hA
    have hbp := fun W hA => impl_BankPasts (CB.getD I noBank).h (CB.getD I noBank).l a3 m3 d3 (CB.getD I noBank).p W hA
    simp only [e1] at hic
    simp only [e2] at hbp
    generalize (mBankPasts (CB.getD I noBank)).1 = P at *
    generalize CB.getD I noBank = Z at *
    obtain ⟨h3, l3, q3⟩ := Z
    simp only at z0 z1 z2 hI3 hic hbp
    clear e1 e2 Hpos Hel
    have hw1 : wrap64 ((len1 : Int) + (len0 : Int)) = (len1 : Int) + (len0 : Int) := IntWalk.wrap64_in _ (by omega)
    have hnb0 : ¬ (nb : Int) = 0 := by omega
    have hnbd : decide ((nb : Int) = 0) = false := decide_eq_false hnb0
    have hnbe : ((nb : Int) == 0) = false := by simpa using hnb0
    have hIi : (I : Int) < (nb : Int) := by omega
    have hba := belowAlloc v4 (.cells #[.int .i64 h3, .int .i64 l3, .slice a3 m3 d3] 32)
    have I3 := Lib.hid (hI3.keep hba)
    have M3 := Lib.hid (Blk.new v4 h3 l3 a3 m3 d3 32)
    clear hI3
    replace Oa := Lib.hid (Oa.out.keep hba)
    replace Acc := Lib.hid (belowTrans Acc.out hba (Nat.le_refl _))
    clear hba
    have Hic := Lib.hid hic; clear hic
    have Hbp := Lib.hid hbp; clear hbp
    have E3 := Lib.hid e3; clear e3
    have E4 := Lib.hid e4; clear e4
    obtain ⟨⟨x0_0, x0_1, x0_2⟩, x0_3, x0_4, x0_5⟩ := M3.out.cells
    go_wp2_with fail
    with_reducible refine (Hic.out _ I3.out).mono ?_
    rintro e v5 ⟨rfl, hb5⟩
    clear x0_0 x0_1 x0_2 x0_3 x0_4 x0_5
    have sz5 : v4.heap.size + 1 ≤ v5.heap.size := by have := hb5.size; simpa using this
    replace Acc := Lib.hid (belowTrans Acc.out hb5 (Nat.le_refl _))
    replace Oa := Lib.hid (Oa.out.keep hb5)
    replace I3 := Lib.hid (I3.out.keep hb5)
    replace M3 := Lib.hid (M3.out.keep hb5)
    clear hb5
    clear z0 z1 z2 hw1 hnb0 hnbd hnbe hI hIi Hic
    obtain ⟨⟨x0_0, x0_1, x0_2⟩, x0_3, x0_4, x0_5⟩ := M3.out.cells
    go_wp2_with fail
    with_reducible refine (Hbp.out _ I3.out).mono ?_
    rintro e v6 ⟨pp, np, cp, rfl, hop, hb6⟩
    clear x0_0 x0_1 x0_2 x0_3 x0_4 x0_5
    have sz6 : v5.heap.size ≤ v6.heap.size := by have := hb6.size; simpa using this
    replace Acc := Lib.hid (belowTrans Acc.out hb6 (Nat.le_refl _))
    replace Oa := Lib.hid (Oa.out.keep hb6)
    replace I3 := Lib.hid (I3.out.keep hb6)
    replace M3 := Lib.hid (M3.out.keep hb6)
    clear hb6
    have Op := Lib.hid hop; clear hop
    clear Hbp
    clear Oa
    clear I3
    clear M3
    have hnp := Op.out.at.lenInt
    have hPl := Op.out.length
    obtain ⟨wo, hwo⟩ : ∃ wo : World, wo = v6 := ⟨_, rfl⟩
    subst hwo
    go_wp2_with fail
    go_loopw [16, 101] (fun f i wr => ∃ (J F : Nat), J ≤ np ∧ F ≤ J ∧ f = .int .i64 F ∧ i = .int .i64 J ∧ Hid (F = (P.take J).countP (fun a => (mIsCyclicBank a).1)) ∧ Hid (Below w.heap.size w wr) ∧ Hid (Below wo.heap.size wo wr)) (fun _ i _ => np - (intOf i).toNat)
    case atStart => exact ⟨0, 0, Nat.zero_le _, Nat.le_refl _, rfl, rfl, Lib.hid rfl, Acc, Lib.hid (Below.refl _ _)⟩
    case round =>
      obtain ⟨J, F, hJ, hFJ, rfl, rfl, HF, Hbw, Hbo⟩ := hrel
      by_cases hlt : J < np
      · skip
        clear Acc
        have Acc := Hbw; clear Hbw
        replace Op := Lib.hid (Op.out.keep Hbo.out)
        have szr := Hbo.out.size
        have Acc2 := Hbo; clear Hbo
        have hlti : (J : Int) < (np : Int) := by omega
        obtain ⟨b9, o9, rfl, hbl9, hc9⟩ := Op.out.at.cell (by omega)
        obtain ⟨a4, m4, d4, z0, z1, z2, hI4⟩ := hc9 J hlt
        clear hc9
        have hct := count_take (P := P) (J := J) (c := fun a => (mIsCyclicBank a).1) (by omega)
        have hok4 := E3.out (P.getD J noBank) (by rw [List.getD_eq_getElem?_getD, List.getElem?_eq_getElem (by omega)]; exact List.getElem_mem _)
        rw [← HF.out] at hct
        have hic := fun W hA => impl_IsCyclicBank (P.getD J noBank).h (P.getD J noBank).l a4 m4 d4 (P.getD J noBank).p W hA
        simp only [hok4] at hic
        generalize (mIsCyclicBank (P.getD J noBank)).1 = cb at *
        generalize P.getD J noBank = Z at *
        obtain ⟨h4, l4, q4⟩ := Z
        simp only at z0 z1 z2 hI4 hic
        clear hok4 HF
        have hba := belowAlloc wr (.cells #[.int .i64 h4, .int .i64 l4, .slice a4 m4 d4] 32)
        have I4 := Lib.hid (hI4.keep hba)
        have M4 := Lib.hid (Blk.new wr h4 l4 a4 m4 d4 32)
        clear hI4
        replace Op := Lib.hid (Op.out.keep hba)
        replace Acc := Lib.hid (belowTrans Acc.out hba (Nat.le_refl _))
        replace Acc2 := Lib.hid (belowTrans Acc2.out hba (Nat.le_refl _))
        clear hba
        have Hic := Lib.hid hic; clear hic
        have Hct := Lib.hid hct; clear hct
        obtain ⟨⟨x0_0, x0_1, x0_2⟩, x0_3, x0_4, x0_5⟩ := M4.out.cells
        go_wp2_with fail
        with_reducible refine (Hic.out _ I4.out).mono ?_
        rintro e v7 ⟨rfl, hb7⟩
        clear x0_0 x0_1 x0_2 x0_3 x0_4 x0_5
        have sz7 : wr.heap.size + 1 ≤ v7.heap.size := by have := hb7.size; simpa using this
        replace Acc := Lib.hid (belowTrans Acc.out hb7 (Nat.le_refl _))
        replace Acc2 := Lib.hid (belowTrans Acc2.out hb7 (Nat.le_refl _))
        replace Op := Lib.hid (Op.out.keep hb7)
        replace I4 := Lib.hid (I4.out.keep hb7)
        replace M4 := Lib.hid (M4.out.keep hb7)
        clear hb7
        clear z0 z1 z2 Hic
        cases cb
        · skip
          have hct := Hct.out
          clear Hct
          have hct2 : F = (P.take (J + 1)).countP (fun a => (mIsCyclicBank a).1) := by rw [hct]; rfl
          clear hct
          have Hct2 := Lib.hid hct2; clear hct2
          go_wp2
          go_roundw
          case rel => exact ⟨J + 1, F, by omega, by omega, rfl, by go_num, Hct2, Acc, Acc2⟩
          case measure => simp [intOf] <;> omega
        · skip
          have hct := Hct.out
          clear Hct
          have hct2 : F + 1 = (P.take (J + 1)).countP (fun a => (mIsCyclicBank a).1) := by rw [hct]; rfl
          clear hct
          have Hct2 := Lib.hid hct2; clear hct2
          go_wp2
          go_roundw
          case rel => exact ⟨J + 1, F + 1, by omega, by omega, by go_num, by go_num, Hct2, Acc, Acc2⟩
          case measure => simp [intOf] <;> omega
      · skip
        obtain rfl : np = J := by omega
        have hF1 : F = 1 := by
          have := HF.out
          rw [List.take_of_length_le (by omega), E4.out] at this
          exact this
        subst hF1
        clear Acc
        have Acc := Hbw; clear Hbw
        replace Op := Lib.hid (Op.out.keep Hbo.out)
        have szr := Hbo.out.size
        clear Hbo HF E3 E4
        clear Op
        go_wp2_with fail
        with_reducible refine (He.out _ Acc.out).mono ?_
        rintro e v7 ⟨m6, k6, rfl, hb7⟩
        have sz7 : wr.heap.size ≤ v7.heap.size := by have := hb7.size; simpa using this
        replace Acc := Lib.hid (belowTrans Acc.out hb7 (Nat.le_refl _))
        clear hb7
        clear He
        have hi := fun W => impl_AllBanks m6 k6 W
        have hs := fun W => spec_AllBanks m6 k6 W
        have hfact := fun q => all_count (h := m6) (n := k6) q
        have hcn := fun W => impl_CountBanks m6 k6 W
        cases hq : (mAllBanks m6 k6).2
        · skip
          simp only [hq] at hi hs
          clear hcn
          clear hq hfact
          generalize (mAllBanks m6 k6).1 = AB at *
          have Hi := Lib.hid hi; clear hi
          have Hs := Lib.hid hs; clear hs
          go_wp2_with fail
          with_reducible refine (Hi.out _).mono ?_
          rintro e v8 ⟨pe, ne, ce, rfl, hoe, hb8⟩
          have sz8 : v7.heap.size ≤ v8.heap.size := by have := hb8.size; simpa using this
          replace Acc := Lib.hid (belowTrans Acc.out hb8 (Nat.le_refl _))
          clear hb8
          have Oe := Lib.hid hoe; clear hoe
          go_wp2_with fail
          with_reducible refine (Hs.out _).mono ?_
          rintro e v9 ⟨pf, nf, cf, rfl, hof, hb9⟩
          have sz9 : v8.heap.size ≤ v9.heap.size := by have := hb9.size; simpa using this
          replace Acc := Lib.hid (belowTrans Acc.out hb9 (Nat.le_refl _))
          replace Oe := Lib.hid (Oe.out.keep hb9)
          clear hb9
          have Of := Lib.hid hof; clear hof
          obtain rfl : nf = ne := by rw [← Of.out.length]; exact Oe.out.length
          clear Hi Hs
          have hxs := xBanks_any pe pf nf ce cf AB _ Oe.out.at Of.out.at
          have Hxs := Lib.hid hxs; clear hxs
          go_wp2_with fail
          with_reducible refine (Hxs.out).mono ?_
          rintro e v10 ⟨rfl, hb10⟩
          have sz10 : v9.heap.size ≤ v10.heap.size := by have := hb10.size; simpa using this
          replace Acc := Lib.hid (belowTrans Acc.out hb10 (Nat.le_refl _))
          replace Oe := Lib.hid (Oe.out.keep hb10)
          replace Of := Lib.hid (Of.out.keep hb10)
          clear hb10
          clear Hxs
          clear Oe
          clear Of
          go_wp2_with fail
          with_reducible refine (Hf.out _ Acc.out).mono ?_
          rintro e v11 ⟨x9, y9, rfl, hb11⟩
          have sz11 : v10.heap.size ≤ v11.heap.size := by have := hb11.size; simpa using this
          replace Acc := Lib.hid (belowTrans Acc.out hb11 (Nat.le_refl _))
          clear hb11
          clear Hf
          have hi := fun W => impl_CountBanks x9 y9 W
          have hs := fun W => spec_CountBanks x9 y9 W
          generalize (mCountBanks x9 y9).1 = C1 at *
          generalize (mCountBanks x9 y9).2 = C2 at *
          have Hi := Lib.hid hi; clear hi
          have Hs := Lib.hid hs; clear hs
          go_wp2_with fail
          with_reducible refine (Hi.out _).mono ?_
          rintro e v12 ⟨rfl, hb12⟩
          have sz12 : v11.heap.size ≤ v12.heap.size := by have := hb12.size; simpa using this
          replace Acc := Lib.hid (belowTrans Acc.out hb12 (Nat.le_refl _))
          clear hb12
          go_wp2_with fail
          with_reducible refine (Hs.out _).mono ?_
          rintro e v13 ⟨rfl, hb13⟩
          have sz13 : v12.heap.size ≤ v13.heap.size := by have := hb13.size; simpa using this
          replace Acc := Lib.hid (belowTrans Acc.out hb13 (Nat.le_refl _))
          clear hb13
          go_wp2
          go_ret
          exact ⟨by simp, Acc.out⟩
        · skip
          simp only [hq] at hi hs
          have hc1 := hfact hq
          simp only [hc1] at hcn
          clear hc1
          clear hq hfact
          generalize (mAllBanks m6 k6).1 = AB at *
          have Hi := Lib.hid hi; clear hi
          have Hs := Lib.hid hs; clear hs
          have Hcn := Lib.hid hcn; clear hcn
          go_wp2_with fail
          with_reducible refine (Hi.out _).mono ?_
          rintro e v8 ⟨pe, ne, ce, rfl, hoe, hb8⟩
          have sz8 : v7.heap.size ≤ v8.heap.size := by have := hb8.size; simpa using this
          replace Acc := Lib.hid (belowTrans Acc.out hb8 (Nat.le_refl _))
          clear hb8
          have Oe := Lib.hid hoe; clear hoe
          go_wp2_with fail
          with_reducible refine (Hs.out _).mono ?_
          rintro e v9 ⟨pf, nf, cf, rfl, hof, hb9⟩
          have sz9 : v8.heap.size ≤ v9.heap.size := by have := hb9.size; simpa using this
          replace Acc := Lib.hid (belowTrans Acc.out hb9 (Nat.le_refl _))
          replace Oe := Lib.hid (Oe.out.keep hb9)
          clear hb9
          have Of := Lib.hid hof; clear hof
          obtain rfl : nf = ne := by rw [← Of.out.length]; exact Oe.out.length
          clear Hi Hs
          have hxs := xBanks_any pe pf nf ce cf AB _ Oe.out.at Of.out.at
          have Hxs := Lib.hid hxs; clear hxs
          go_wp2_with fail
          with_reducible refine (Hxs.out).mono ?_
          rintro e v10 ⟨rfl, hb10⟩
          have sz10 : v9.heap.size ≤ v10.heap.size := by have := hb10.size; simpa using this
          replace Acc := Lib.hid (belowTrans Acc.out hb10 (Nat.le_refl _))
          replace Oe := Lib.hid (Oe.out.keep hb10)
          replace Of := Lib.hid (Of.out.keep hb10)
          clear hb10
          clear Hxs
          have hlab := Oe.out.length
          have hln := Oe.out.at.lenInt
          have hcn := Hcn.out
          rw [hlab] at hcn
          clear Hcn hlab
          have Hcn := Lib.hid hcn; clear hcn
          go_wp2_with fail
          with_reducible refine (Hcn.out _).mono ?_
          rintro e v11 ⟨rfl, hb11⟩
          have sz11 : v10.heap.size ≤ v11.heap.size := by have := hb11.size; simpa using this
          replace Acc := Lib.hid (belowTrans Acc.out hb11 (Nat.le_refl _))
          replace Oe := Lib.hid (Oe.out.keep hb11)
          replace Of := Lib.hid (Of.out.keep hb11)
          clear hb11
          clear Hcn
          clear Oe
          clear Of
          go_wp2_with fail
          with_reducible refine (Hf.out _ Acc.out).mono ?_
          rintro e v12 ⟨x9, y9, rfl, hb12⟩
          have sz12 : v11.heap.size ≤ v12.heap.size := by have := hb12.size; simpa using this
          replace Acc := Lib.hid (belowTrans Acc.out hb12 (Nat.le_refl _))
          clear hb12
          clear Hf
          have hi := fun W => impl_CountBanks x9 y9 W
          have hs := fun W => spec_CountBanks x9 y9 W
          generalize (mCountBanks x9 y9).1 = C1 at *
          generalize (mCountBanks x9 y9).2 = C2 at *
          have Hi := Lib.hid hi; clear hi
          have Hs := Lib.hid hs; clear hs
          go_wp2_with fail
          with_reducible refine (Hi.out _).mono ?_
          rintro e v13 ⟨rfl, hb13⟩
          have sz13 : v12.heap.size ≤ v13.heap.size := by have := hb13.size; simpa using this
          replace Acc := Lib.hid (belowTrans Acc.out hb13 (Nat.le_refl _))
          clear hb13
          go_wp2_with fail
          with_reducible refine (Hs.out _).mono ?_
          rintro e v14 ⟨rfl, hb14⟩
          have sz14 : v13.heap.size ≤ v14.heap.size := by have := hb14.size; simpa using this
          replace Acc := Lib.hid (belowTrans Acc.out hb14 (Nat.le_refl _))
          clear hb14
          go_wp2
          go_ret
          exact ⟨by simp, Acc.out⟩

/-- The door's own heap meets the condition. -/
theorem door_met (os : Os) (args : Array Value) : laidMetH Tryz.prog Rows.fnAllBanksRow.laid ((World.doorLaid Tryz.prog 4000 os).forCall (fun _ _ => 0) ⟨#[], args, []⟩).memory :=
  laidMetH_of_parts3 (fuel := 8) (laidMet_of_run' 8 (by kernel_rfl) (by kernel_rfl)) (by kernel_rfl) (by kernel_rfl)

/-! ### THE ROW's STEP: WRITTEN OUT: LEAVE IT -/
set_option maxRecDepth 100000 in
theorem lifted (os : Os) (started : os.Started) (H : Type) (enc : TypeId × Value → H) :
    ReturnsInHanded {} Tryz.checked os 3 .any (fun w args => (Rows.fnAllBanksSpec.pre enc Tryz.prog Tryz.f3 [] false w args ∧ laidMetH Tryz.prog Rows.fnAllBanksRow.laid w) ∧ sizedMet enc Tryz.prog Tryz.f3 (OpenSpec.ofChange Rows.fnAllBanksSpec) false w args)
      (Rows.fnAllBanksSpec.post enc Tryz.prog Tryz.f3 false true false false) := by
  refine returnsInHanded_of_change_and (C := Tryz.checked) (X := fun w _ => laidMetH Tryz.prog Rows.fnAllBanksRow.laid w) (fun _ _ _ hh h => h.of_heap hh) own started (by kernel_rfl) Tryz.func3
    (ChangeSpec.witness_shaped (enc := enc) (C := Tryz.checked) (os := os) (X := fun w _ => laidMetH Tryz.prog Rows.fnAllBanksRow.laid w) false (World.doorLaid Tryz.prog 4000 os) #[.slice none 0 0, .slice none 0 0] 8 rfl (World.shaped_of_RefB (by kernel_rfl) (by kernel_rfl)) (by kernel_rfl) (by kernel_rfl) (by kernel_rfl) (door_met os _)) ?_
  intro W base args ds gs before hval0 hW _ _ hL _
  have hval : ∀ (j : Nat) t v, Tryz.f3.params[j]? = some t → args[j]? = some v → Value.okWide Tryz.prog W .any base t v := hval0
  have hW' := hW
  obtain ⟨p, q, hA0, hV, rfl, hfz, hnd⟩ := hW
  have hA : DataW.TrodAll enc Tryz.prog W 0 (fun _ => true) true Tryz.f3.params.toList args.toList ds p := hA0
  rw [Tryz.params3] at hA hval
  obtain ⟨v0, vs0, d0, ds0, p0, q0, hargs, rfl, rfl, h0, r0⟩ := trodAll_cons hA
  obtain ⟨v1, vs1, d1, ds1, p1, q1, rfl, rfl, rfl, h1, r1⟩ := trodAll_cons r0
  obtain ⟨rfl, rfl, rfl⟩ := trodAll_nil r1
  obtain rfl : args = #[v0, v1] := by cases args; simp_all
  obtain ⟨rfl, rfl⟩ := trodVars_none hV
  obtain ⟨a0, len0, cap0, rfl⟩ := okWide_slice Tryz.underlying22 (hval 0 22 v0 rfl rfl)
  have k0 := h0
  have lt0 : ∀ x ∈ p0, x.block < W.heap.size := by obtain ⟨m, hm⟩ := k0; exact DataW.trod_lt m _ _ _ hm
  obtain ⟨z0, w0⟩ : ∃ zs, IsRow .u8 W a0 len0 cap0 zs := by
    obtain ⟨fuel, hf⟩ := h0
    rcases open_ints Tryz.underlying22 Tryz.underlying5 (by kernel_rfl) hf with ⟨hcs, _⟩ | ⟨x, l, c, zs, hcs, _, hl, hm, hz, _, hcell, hwz⟩
    · simp [Value.cells] at hcs
      obtain ⟨rfl, rfl, rfl⟩ := hcs
      exact ⟨[], .inl ⟨rfl, rfl, rfl, rfl⟩⟩
    · simp [Value.cells] at hcs
      obtain ⟨rfl, rfl, rfl⟩ := hcs
      exact ⟨zs, .inr ⟨_, rfl, hl, hm, by simpa using hz, hcell, hwz⟩⟩
  obtain ⟨a1, len1, cap1, rfl⟩ := okWide_slice Tryz.underlying22 (hval 1 22 v1 rfl rfl)
  have k1 := h1
  have lt1 : ∀ x ∈ p1, x.block < W.heap.size := by obtain ⟨m, hm⟩ := k1; exact DataW.trod_lt m _ _ _ hm
  obtain ⟨z1, w1⟩ : ∃ zs, IsRow .u8 W a1 len1 cap1 zs := by
    obtain ⟨fuel, hf⟩ := h1
    rcases open_ints Tryz.underlying22 Tryz.underlying5 (by kernel_rfl) hf with ⟨hcs, _⟩ | ⟨x, l, c, zs, hcs, _, hl, hm, hz, _, hcell, hwz⟩
    · simp [Value.cells] at hcs
      obtain ⟨rfl, rfl, rfl⟩ := hcs
      exact ⟨[], .inl ⟨rfl, rfl, rfl, rfl⟩⟩
    · simp [Value.cells] at hcs
      obtain ⟨rfl, rfl, rfl⟩ := hcs
      exact ⟨zs, .inr ⟨_, rfl, hl, hm, by simpa using hz, hcell, hwz⟩⟩
  clear hA0 hval0
  refine (walk a0 len0 cap0 z0 a1 len1 cap1 z1 W w0 w1).mono fun e W' ⟨he, bel⟩ => ?_
  subst he
  exact ⟨_, rfl, _, _, _, [], _, [], hW', trodAll_mk1 (shut_bool Tryz.underlying4 _), (trodAll_cons_mk (Below.trod laidOut (by kernel_rfl) (of_decide_eq_true (by kernel_rfl)) k0 bel lt0) (trodAll_cons_mk (Below.trod laidOut (by kernel_rfl) (of_decide_eq_true (by kernel_rfl)) k1 bel lt1) trodAll_mk0)), rfl, bel.frame _, fun h => by cases h⟩

theorem closedFacts : joinedFacts Tryz.prog 3 Tryz.f3 Rows.fnAllBanksSpec Rows.fnAllBanksRow = true := by
  unfold joinedFacts
  rw [head_enter, head_lifts, head_make]
  kernel_rfl
theorem closedHere : joinedFacts Tryz.pinned.checked.prog 3 Tryz.f3 Rows.fnAllBanksSpec Rows.fnAllBanksRow = true := by
  rw [progEq]
  exact closedFacts
theorem over : Rows.fnAllBanksRow.holds Tryz.pinned (OpenSpec.ofChange Rows.fnAllBanksSpec) :=
  OpenClaim.holds_of_wide 3 Tryz.f3 rfl rfl rfl rfl rfl rfl rfl ⟨rfl, rfl, rfl, rfl, rfl⟩ rfl rfl rfl rfl rfl (by kernel_rfl) Tryz.func3 closedHere
    (of_decide_eq_true (by kernel_rfl)) (by unfold Func.isWrapper; first | (rw [if_pos (by decide +kernel)]; kernel_rfl) | (rw [if_neg (by decide +kernel)]; exact ⟨rfl, rfl⟩))
    (fun os started H enc _ => lifted os started H enc)

/-- the tied card -/
theorem proved : Rows.FnAllBanksCardSaid :=
  Claim7.holds_tied_plain_at .later [] [.data, .data, .data] true (true, "63be7283350d4874fd93924190f5f61d5cb0fb3654a9e70eafab32ad603580bf") false
    over (fun _ h => by cases h) (by kernel_rfl) (fun _ h => by cases h) fnAllBanks_row_tie rfl ⟨rfl, rfl⟩ (by kernel_rfl) rfl
    (fun f fn hf hfn => by
      obtain rfl : f = 3 := Option.some.inj ((show Tryz.prog.funcNamed "loop.example/g01114/laws.FnAllBanks" = some 3 by kernel_rfl).symm.trans hf) |>.symm
      obtain rfl : fn = Tryz.f3 := (Option.some.inj (Tryz.func3.symm.trans hfn)).symm
      exact ⟨by kernel_rfl, fun j t ht => by
        rw [Tryz.params3] at ht
        have hm : t ∈ [22] := by simpa using Array.mem_of_getElem? ht
        have hall : ([22].all fun u => !Tryz.prog.wantsStandIn u) = true := by kernel_rfl
        exact (show Tryz.prog.wantsStandIn t = false by simpa using List.all_eq_true.1 hall t hm)⟩)
    (by kernel_rfl)
#print axioms proved
end Go.Proofs.YtnebfojnbjbogaaGreatDoor.fnAllBanks
