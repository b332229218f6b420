/- FnBankPasts: for every input the law returns true and leaves its arguments as they were. No condition. -/
import Derived.Test.YtjaodhjiibdbdaaGreatDoorRows
import Derived.Test.YtjaodhjiibdbdaaGreatDoorCards
import Derived.Test.YtjaodhjiibdbdaaGreatDoorTie
import Derived.LaidMore
import Derived.Lay
import Derived.LaidOnce
import Derived.MakeChecks
import Derived.Stop.LaidErr
import Derived.Stop.Joined
import Derived.SevenTiedAt
import Derived.WalkKit
import Derived.ProofKit
import Derived.OpenShut
import Derived.ShutString
import Derived.ChangeOld
import Derived.Below
import Derived.Test.YtjaodhjiibdbdaaGreatDoorHead
import Derived.Test.YtjaodhjiibdbdaaGreatDoorLawp
import Derived.Test.YtjaodhjiibdbdaaGreatDoorBsQ
import Derived.Test.YtjaodhjiibdbdaaGreatDoorGj
import Derived.Test.YtjaodhjiibdbdaaGreatDoorHelp
namespace Go.Proofs.YtjaodhjiibdbdaaGreatDoor.fnBankPasts
set_option linter.unusedSimpArgs false
open Go.ChangeShapes Go.WideShapes Go.ChangeAt Go.RowKit
open Go.ChangeMaps (open_string shut_string)
set_option linter.unusedVariables false

theorem own : ownKnob Tryz.prog.godebug = none := by kernel_rfl
theorem laidOut : laidOutB Tryz.prog = true := by kernel_rfl

/-- WHAT THE WALK IS TOLD OF A SLICE OF INTEGERS THAT CAME IN: it is nil; or it leads to a row of 'cap' cells, the numbers 'zs' (the first 'len' are its elements, the rest its spare room), each fitting its kind. -/
def IsRow (k : IntKind) (w : World) (a : Option Addr) (len cap : Nat) (zs : List Int) : Prop :=
  (a = none ∧ len = 0 ∧ cap = 0 ∧ zs = []) ∨
  ∃ x, a = some x ∧ len ≤ cap ∧ cap ≤ maxLen ∧ zs.length = cap ∧ (∀ i, i < zs.length → w.cell? (x.add i) = some (.int k (zs.getD i 0))) ∧ ∀ n ∈ zs, (Lit.int k n).wf = true

/-! ### What the library's variables hold -/
theorem cellsStruct : Tryz.prog.cellsOf 163 = 1 := by kernel_rfl
theorem cellsString : Tryz.prog.cellsOf 9 = 1 := by kernel_rfl
theorem star : "*" ++ "errors.errorString" = "*errors.errorString" := by decide
theorem rowOf (u : TypeId) (h : Tryz.prog.typeName? 3 u = some "*errors.errorString") : u = 161 :=
  typeName_ptr_named (nm := "errors.errorString") (by rw [star]; kernel_rfl) (by kernel_rfl) (by decide) u (by rw [star]; exact h)
theorem libOk_of {W : World} (hL : laidMetH Tryz.prog Rows.fnBankPastsRow.laid W) (hsh : W.ShapedOpen Tryz.prog) : LibOk W := by
  rw [MakeChecks.laidMetH_plain _ _ _ (by kernel_rfl)] at hL
  have hL4 := hL.tail.tail.tail.tail
  obtain ⟨a0, s0, hv0, -, -, -⟩ := laid_sentinel hL4 (show Tryz.prog.globalNamed "strconv.ErrRange" = some 2 by kernel_rfl) (show (Tryz.prog.globals[2]?).map (·.type) = some 90 by kernel_rfl) Tryz.underlying90 rowOf Tryz.underlying161 Tryz.underlying163 rfl rfl Tryz.underlying9 cellsStruct cellsString
  obtain ⟨a1, s1, hv1, -, -, -⟩ := laid_sentinel hL4.tail (show Tryz.prog.globalNamed "strconv.ErrSyntax" = some 1 by kernel_rfl) (show (Tryz.prog.globals[1]?).map (·.type) = some 90 by kernel_rfl) Tryz.underlying90 rowOf Tryz.underlying161 Tryz.underlying163 rfl rfl Tryz.underlying9 cellsStruct cellsString
  have htab : Lib.TabIs Tryz.prog W "internal/strconv.uint64pow10" .u64 Lib.pow10Tab := Lib.tabIs_of_head (show Tryz.prog.globalNamed "internal/strconv.uint64pow10" = some 3 by kernel_rfl) (show (Tryz.prog.globals[3]?).map (·.type) = some 157 by kernel_rfl) Tryz.underlying157 Tryz.underlying53 (by kernel_rfl) (by kernel_rfl) hL.tail.tail
  exact ⟨hsh, ⟨_, _, hv1⟩, ⟨_, _, hv0⟩, htab⟩

/-! ### THE WALK: the Go text returns true, AND WRITES NOTHING THAT WAS THERE: 'Below w.heap.size w w'' (Derived/Below.lean: '.refl', '.alloc', '.drew', '.setCell' at a new block, '.trans'). Open each 'IsRow' by 'rcases' AHEAD of 'go_enter'; part every test ahead of the walk. -/
set_option maxHeartbeats 4000000 in
set_option maxRecDepth 100000 in
theorem walk (a0 : Option Addr) (len0 cap0 : Nat) (z0 : List Int) (a1 : Option Addr) (len1 cap1 : Nat) (z1 : List Int) (w : World) (w0 : IsRow .u8 w a0 len0 cap0 z0) (w1 : IsRow .u8 w a1 len1 cap1 z1) (hL : LibOk w) :
    Calls Tryz.prog 4 #[.slice a0 len0 cap0, .slice a1 len1 cap1] w fun e w' => e = .returned (.bool true) ∧ Below w.heap.size w w' := by
  have by0 := byteIn_row w0
  have by1 := byteIn_row w1
  have hl0 : len0 ≤ maxLen := by
    rcases w0 with ⟨_, h, _⟩ | ⟨x, _, h, h', _⟩
    · rw [h]; exact Nat.zero_le _
    · exact Nat.le_trans h h'
  clear w0 w1
  by_cases hbig : 1048576 < len0 ∨ (1048576 : Int) - len0 < len1
  · have hb := big_yes a0 a1 len0 len1 cap0 cap1 w hbig hl0
    have Hb := Lib.hid hb; clear hb
    go_enter Tryz.func4, Tryz.ntmps4
    go_wp2_with fail
    with_reducible refine (Hb.out).mono ?_
    rintro e w' ⟨rfl, rfl⟩
    go_wp2
    go_ret
    exact ⟨rfl, Below.refl _ _⟩
  have hb := big_no a0 a1 len0 len1 cap0 cap1 w (by omega) (by omega)
  have hd := DrawBankPasts_any a0 len0 cap0 w (by omega) by0
  have he := fun W (h : Below w.heap.size w W) => DrawBankText_any a1 len1 cap1 W (by omega) (by1.up (Nat.le_refl _) h h.size)
  have hf := fun W (h : Below w.heap.size w W) => DrawParseBank_any a1 len1 cap1 W (by omega) (by1.up (Nat.le_refl _) h h.size)
  have Hb := Lib.hid hb; clear hb
  have Hd := Lib.hid hd; clear hd
  have He := Lib.hid he; clear he
  have Hf := Lib.hid hf; clear hf
  clear by0 by1 hl0 hbig
  have acc : Below w.heap.size w w := Below.refl _ _
  go_enter Tryz.func4, Tryz.ntmps4
  go_wp2_with fail
  with_reducible refine (Hb.out).mono ?_
  rintro e w' ⟨rfl, rfl⟩
  clear Hb
  have Acc := Lib.hid acc; clear acc
  go_wp2_with fail
  with_reducible refine (Hd.out).mono ?_
  rintro e v1 ⟨h, l, p1, n1, c1, xs, rfl, ho1, hn1, hb1⟩
  have sz1 : w.heap.size ≤ v1.heap.size := by have := hb1.size; simpa using this
  replace Acc := Lib.hid (belowTrans Acc.out hb1 (Nat.le_refl _))
  clear hb1
  have O1 := Lib.hid ho1; clear ho1
  clear Hd
  have hba := belowAlloc v1 (.cells #[.int .i64 h, .int .i64 l, .slice p1 n1 c1] 40)
  replace Acc := Lib.hid (belowTrans Acc.out hba (Nat.le_refl _))
  replace O1 := Lib.hid (O1.out.keep hba)
  have M5 := Lib.hid (Blk.new v1 h l p1 n1 c1 40)
  clear hba
  by_cases hk : BankOk ⟨h, l, xs⟩
  · by_cases h14 : l + xs.sum ≤ 14
    · skip
      have hbp := fun W hA => impl_BankPasts h l p1 n1 c1 xs W hA
      have hsp := fun W hA => spec_BankPasts h l p1 n1 c1 xs W hA
      have hfa := fun a (q : a ∈ (mBankPasts ⟨h, l, xs⟩).1) => past_facts q
      have hsb := fun W hA => impl_StepBank h l p1 n1 c1 xs W hA
      obtain ⟨hq1, hmem⟩ := past_here hk h14
      have hh5 : (stepB ⟨h, l, xs⟩).h = h := rfl
      simp only [mStep_yesB hk] at hsb
      have hp2 : (mBankPasts ⟨h, l, xs⟩).2 = true := past_ok hk h14
      simp only [hp2] at hbp hsp
      generalize (mBankPasts ⟨h, l, xs⟩).1 = P at *
      generalize stepB ⟨h, l, xs⟩ = B2 at *
      generalize madeB ⟨h, l, xs⟩ = M at *
      obtain ⟨h5, l5, p5⟩ := B2
      simp only at hh5 hsb
      have hbq := fun a n c W (hA : IntsAt W a n c p5) => impl_BankPasts h5 l5 a n c p5 W hA
      simp only [hq1] at hbq
      generalize (mBankPasts ⟨h5, l5, p5⟩).1 = Q at *
      clear hq1 hp2 hh5 hk h14
      have Hbp := Lib.hid hbp; clear hbp
      have Hsp := Lib.hid hsp; clear hsp
      have Hfa := Lib.hid hfa; clear hfa
      obtain ⟨⟨x0_0, x0_1, x0_2⟩, x0_3, x0_4, x0_5⟩ := M5.out.cells
      go_wp2_with fail
      with_reducible refine (Hbp.out _ O1.out.at).mono ?_
      rintro e v2 ⟨pa, np, ca, rfl, hop, hb2⟩
      clear x0_0 x0_1 x0_2 x0_3 x0_4 x0_5
      have sz2 : v1.heap.size + 1 ≤ v2.heap.size := by have := hb2.size; simpa using this
      replace Acc := Lib.hid (belowTrans Acc.out hb2 (Nat.le_refl _))
      replace O1 := Lib.hid (O1.out.keep hb2)
      replace M5 := Lib.hid (M5.out.keep hb2)
      clear hb2
      have Op := Lib.hid hop; clear hop
      obtain ⟨⟨x0_0, x0_1, x0_2⟩, x0_3, x0_4, x0_5⟩ := M5.out.cells
      go_wp2_with fail
      with_reducible refine (Hsp.out _ O1.out.at).mono ?_
      rintro e v3 ⟨ps, ns, cs, rfl, hos, hb3⟩
      clear x0_0 x0_1 x0_2 x0_3 x0_4 x0_5
      have sz3 : v2.heap.size ≤ v3.heap.size := by have := hb3.size; simpa using this
      replace Acc := Lib.hid (belowTrans Acc.out hb3 (Nat.le_refl _))
      replace O1 := Lib.hid (O1.out.keep hb3)
      replace M5 := Lib.hid (M5.out.keep hb3)
      replace Op := Lib.hid (Op.out.keep hb3)
      clear hb3
      have Os := Lib.hid hos; clear hos
      obtain rfl : ns = np := by rw [← Os.out.length]; exact Op.out.length
      clear Hbp Hsp
      have hxs := xBanks_any pa ps ns ca cs P _ Op.out.at Os.out.at
      have Hxs := Lib.hid hxs; clear hxs
      go_wp2_with fail
      with_reducible refine (Hxs.out).mono ?_
      rintro e v4 ⟨rfl, hb4⟩
      have sz4 : v3.heap.size ≤ v4.heap.size := by have := hb4.size; simpa using this
      replace Acc := Lib.hid (belowTrans Acc.out hb4 (Nat.le_refl _))
      replace O1 := Lib.hid (O1.out.keep hb4)
      replace M5 := Lib.hid (M5.out.keep hb4)
      replace Op := Lib.hid (Op.out.keep hb4)
      replace Os := Lib.hid (Os.out.keep hb4)
      clear hb4
      clear Hxs
      clear Os
      have hnl := Op.out.at.lenInt
      have hPl := Op.out.length
      obtain ⟨wo, hwo⟩ : ∃ wo : World, wo = v4 := ⟨_, rfl⟩
      subst hwo
      go_wp2_with fail
      go_loopw [63] (fun i wr => ∃ J : Nat, J ≤ ns ∧ i = .int .i64 J ∧ Hid (Below w.heap.size w wr) ∧ Hid (Below wo.heap.size wo wr)) (fun i _ => ns - (intOf i).toNat)
      case atStart => exact ⟨0, Nat.zero_le _, rfl, Acc, Lib.hid (Below.refl _ _)⟩
      case round =>
        obtain ⟨J, hJ, rfl, Hbw, Hbo⟩ := hrel
        by_cases hlt : J < ns
        · skip
          clear Acc
          have Acc := Hbw; clear Hbw
          replace O1 := Lib.hid (O1.out.keep Hbo.out)
          replace M5 := Lib.hid (M5.out.keep Hbo.out)
          replace Op := Lib.hid (Op.out.keep Hbo.out)
          have szr := Hbo.out.size
          have Acc2 := Hbo; clear Hbo
          obtain ⟨b9, o9, rfl, hbl9, hc9⟩ := Op.out.at.cell (by omega)
          obtain ⟨a3, m3, d3, z0, z1, z2, hI3⟩ := hc9 J hlt
          clear hc9
          have hf3 := Hfa.out (P.getD J noBank) (by rw [List.getD_eq_getElem?_getD, List.getElem?_eq_getElem (by omega)]; exact List.getElem_mem _)
          generalize P.getD J noBank = Z at *
          obtain ⟨h3, l3, q3⟩ := Z
          simp only at z0 z1 z2 hI3
          obtain ⟨hk3, hs3⟩ := hf3
          have hsb := fun W (hA : IntsAt W a3 m3 d3 q3) => impl_StepBank h3 l3 a3 m3 d3 q3 W hA
          simp only [mStep_yesB hk3, hs3] at hsb
          clear hk3 hs3
          generalize madeB ⟨h3, l3, q3⟩ = M9 at *
          have hba := belowAlloc wr (.cells #[.int .i64 h3, .int .i64 l3, .slice a3 m3 d3] 40)
          have hI4 := hI3.keep hba
          clear hI3
          replace O1 := Lib.hid (O1.out.keep hba)
          replace M5 := Lib.hid (M5.out.keep hba)
          replace Op := Lib.hid (Op.out.keep hba)
          replace Acc := Lib.hid (belowTrans Acc.out hba (Nat.le_refl _))
          replace Acc2 := Lib.hid (belowTrans Acc2.out hba (Nat.le_refl _))
          clear hba
          have Hsb := Lib.hid hsb; clear hsb
          have HI4 := Lib.hid hI4; clear hI4
          go_wp2_with fail
          with_reducible refine (Hsb.out _ HI4.out).mono ?_
          rintro e v5 ⟨a4, m4, d4, rfl, ho4, hb5⟩
          have sz5 : wr.heap.size + 1 ≤ v5.heap.size := by have := hb5.size; simpa using this
          replace Acc := Lib.hid (belowTrans Acc.out hb5 (Nat.le_refl _))
          replace Acc2 := Lib.hid (belowTrans Acc2.out hb5 (Nat.le_refl _))
          replace O1 := Lib.hid (O1.out.keep hb5)
          replace M5 := Lib.hid (M5.out.keep hb5)
          replace Op := Lib.hid (Op.out.keep hb5)
          clear hb5
          have O4 := Lib.hid ho4; clear ho4
          have hba := belowAlloc v5 (.cells #[.int .i64 h, .int .i64 l, .slice a4 m4 d4] 40)
          replace Acc := Lib.hid (belowTrans Acc.out hba (Nat.le_refl _))
          replace Acc2 := Lib.hid (belowTrans Acc2.out hba (Nat.le_refl _))
          replace O1 := Lib.hid (O1.out.keep hba)
          replace M5 := Lib.hid (M5.out.keep hba)
          replace Op := Lib.hid (Op.out.keep hba)
          replace O4 := Lib.hid (O4.out.keep hba)
          have M4 := Lib.hid (Blk.new v5 h l a4 m4 d4 40)
          clear hba
          clear z0 z1 z2
          have hxb := xBank_any (h) (l) (h) (l) a4 p1 m4 n1 d4 c1 (xs) (xs) _ O4.out.at O1.out.at
          rw [decide_eq_true rfl] at hxb
          have Hxb := Lib.hid hxb; clear hxb
          obtain ⟨⟨x0_0, x0_1, x0_2⟩, x0_3, x0_4, x0_5⟩ := M4.out.cells
          obtain ⟨⟨x1_0, x1_1, x1_2⟩, x1_3, x1_4, x1_5⟩ := M5.out.cells
          go_wp2_with fail
          with_reducible refine (Hxb.out).mono ?_
          rintro e v6 ⟨rfl, hb6⟩
          clear x0_0 x0_1 x0_2 x0_3 x0_4 x0_5
          clear x1_0 x1_1 x1_2 x1_3 x1_4 x1_5
          have sz6 : v5.heap.size + 1 ≤ v6.heap.size := by have := hb6.size; simpa using this
          replace Acc := Lib.hid (belowTrans Acc.out hb6 (Nat.le_refl _))
          replace Acc2 := Lib.hid (belowTrans Acc2.out hb6 (Nat.le_refl _))
          replace O1 := Lib.hid (O1.out.keep hb6)
          replace M5 := Lib.hid (M5.out.keep hb6)
          replace Op := Lib.hid (Op.out.keep hb6)
          replace O4 := Lib.hid (O4.out.keep hb6)
          replace M4 := Lib.hid (M4.out.keep hb6)
          clear hb6
          clear Hxb
          go_wp2
          go_roundw
          case rel => exact ⟨J + 1, by omega, by go_num, Acc, Acc2⟩
          case measure => simp [intOf] <;> omega
        · skip
          clear Acc
          have Acc := Hbw; clear Hbw
          replace O1 := Lib.hid (O1.out.keep Hbo.out)
          replace M5 := Lib.hid (M5.out.keep Hbo.out)
          replace Op := Lib.hid (Op.out.keep Hbo.out)
          have szr := Hbo.out.size
          clear Hbo Hfa
          clear Op
          have Hsb := Lib.hid hsb; clear hsb
          have Hbq := Lib.hid hbq; clear hbq
          have Hmem := Lib.hid hmem; clear hmem
          obtain ⟨⟨x0_0, x0_1, x0_2⟩, x0_3, x0_4, x0_5⟩ := M5.out.cells
          go_wp2_with fail
          with_reducible refine (Hsb.out _ O1.out.at).mono ?_
          rintro e v5 ⟨a5, n5, c5, rfl, ho5, hb5⟩
          clear x0_0 x0_1 x0_2 x0_3 x0_4 x0_5
          have sz5 : wr.heap.size ≤ v5.heap.size := by have := hb5.size; simpa using this
          replace Acc := Lib.hid (belowTrans Acc.out hb5 (Nat.le_refl _))
          replace O1 := Lib.hid (O1.out.keep hb5)
          replace M5 := Lib.hid (M5.out.keep hb5)
          clear hb5
          have O5 := Lib.hid ho5; clear ho5
          have hba := belowAlloc v5 (.cells #[.int .i64 h5, .int .i64 l5, .slice a5 n5 c5] 40)
          replace Acc := Lib.hid (belowTrans Acc.out hba (Nat.le_refl _))
          replace O1 := Lib.hid (O1.out.keep hba)
          replace M5 := Lib.hid (M5.out.keep hba)
          replace O5 := Lib.hid (O5.out.keep hba)
          have M15 := Lib.hid (Blk.new v5 h5 l5 a5 n5 c5 40)
          clear hba
          obtain ⟨⟨x0_0, x0_1, x0_2⟩, x0_3, x0_4, x0_5⟩ := M15.out.cells
          go_wp2_with fail
          with_reducible refine (Hbq.out _ _ _ _ O5.out.at).mono ?_
          rintro e v6 ⟨pq, nq, cq, rfl, hoq, hb6⟩
          clear x0_0 x0_1 x0_2 x0_3 x0_4 x0_5
          have sz6 : v5.heap.size + 1 ≤ v6.heap.size := by have := hb6.size; simpa using this
          replace Acc := Lib.hid (belowTrans Acc.out hb6 (Nat.le_refl _))
          replace O1 := Lib.hid (O1.out.keep hb6)
          replace M5 := Lib.hid (M5.out.keep hb6)
          replace O5 := Lib.hid (O5.out.keep hb6)
          replace M15 := Lib.hid (M15.out.keep hb6)
          clear hb6
          have Oq := Lib.hid hoq; clear hoq
          clear Hsb Hbq
          clear O5
          clear M15
          have hnq := Oq.out.at.lenInt
          have hQl := Oq.out.length
          obtain ⟨wo2, hwo2⟩ : ∃ wo2 : World, wo2 = v6 := ⟨_, rfl⟩
          subst hwo2
          go_wp2_with fail
          go_loopw [20, 99] (fun f i wr => ∃ (J : Nat) (b : Bool), J ≤ nq ∧ f = .bool b ∧ i = .int .i64 J ∧ Hid (b = true ↔ ∃ t, t < J ∧ Q.getD t noBank = ⟨h, l, xs⟩) ∧ Hid (Below w.heap.size w wr) ∧ Hid (Below wo2.heap.size wo2 wr)) (fun _ i _ => nq - (intOf i).toNat)
          case atStart => exact ⟨0, false, Nat.zero_le _, rfl, rfl, Lib.hid ⟨fun q => by (cases q), fun ⟨t, q, _⟩ => absurd q (Nat.not_lt_zero _)⟩, Acc, Lib.hid (Below.refl _ _)⟩
          case round =>
            obtain ⟨J, f, hJ, rfl, rfl, Hf9, Hbw, Hbo⟩ := hrel
            by_cases hlt : J < nq
            · skip
              clear Acc
              have Acc := Hbw; clear Hbw
              replace O1 := Lib.hid (O1.out.keep Hbo.out)
              replace M5 := Lib.hid (M5.out.keep Hbo.out)
              replace Oq := Lib.hid (Oq.out.keep Hbo.out)
              have szr := Hbo.out.size
              have Acc2 := Hbo; clear Hbo
              obtain ⟨b9, o9, rfl, hbl9, hc9⟩ := Oq.out.at.cell (by omega)
              obtain ⟨a3, m3, d3, z0, z1, z2, hI3⟩ := hc9 J hlt
              clear hc9
              have hstep := found_step Hf9.out
              generalize Q.getD J noBank = Z at *
              obtain ⟨h3, l3, q3⟩ := Z
              simp only at z0 z1 z2 hI3
              have hba := belowAlloc wr (.cells #[.int .i64 h3, .int .i64 l3, .slice a3 m3 d3] 40)
              have hI4 := hI3.keep hba
              have M22 := Lib.hid (Blk.new wr h3 l3 a3 m3 d3 40)
              clear hI3
              replace O1 := Lib.hid (O1.out.keep hba)
              replace M5 := Lib.hid (M5.out.keep hba)
              replace Oq := Lib.hid (Oq.out.keep hba)
              replace Acc := Lib.hid (belowTrans Acc.out hba (Nat.le_refl _))
              replace Acc2 := Lib.hid (belowTrans Acc2.out hba (Nat.le_refl _))
              clear hba
              have HI4 := Lib.hid hI4; clear hI4
              have Hstep := Lib.hid hstep; clear hstep
              cases f with
              | true =>
                have hfin := Hstep.out.1 (by first | rfl | trivial)
                go_wp2
                go_roundw
                case rel => exact ⟨J + 1, true, by omega, rfl, by go_num, Lib.hid hfin, Acc, Acc2⟩
                case measure => simp [intOf] <;> omega
              | false =>
                have hxb := xBank_any h3 l3 h l a3 p1 m3 n1 d3 c1 q3 xs _ HI4.out O1.out.at
                have Hxb := Lib.hid hxb; clear hxb
                obtain ⟨⟨x0_0, x0_1, x0_2⟩, x0_3, x0_4, x0_5⟩ := M22.out.cells
                obtain ⟨⟨x1_0, x1_1, x1_2⟩, x1_3, x1_4, x1_5⟩ := M5.out.cells
                go_wp2_with fail
                with_reducible refine (Hxb.out).mono ?_
                rintro e v7 ⟨rfl, hb7⟩
                clear x0_0 x0_1 x0_2 x0_3 x0_4 x0_5
                clear x1_0 x1_1 x1_2 x1_3 x1_4 x1_5
                have sz7 : wr.heap.size + 1 ≤ v7.heap.size := by have := hb7.size; simpa using this
                replace Acc := Lib.hid (belowTrans Acc.out hb7 (Nat.le_refl _))
                replace Acc2 := Lib.hid (belowTrans Acc2.out hb7 (Nat.le_refl _))
                replace O1 := Lib.hid (O1.out.keep hb7)
                replace M5 := Lib.hid (M5.out.keep hb7)
                replace Oq := Lib.hid (Oq.out.keep hb7)
                replace M22 := Lib.hid (M22.out.keep hb7)
                clear hb7
                have hfin := Hstep.out.2 (by first | rfl | trivial)
                generalize decide ((⟨h3, l3, q3⟩ : Bk) = ⟨h, l, xs⟩) = bb at *
                clear Hxb z0 z1 z2
                go_wp2
                go_roundw
                case rel => exact ⟨J + 1, bb, by omega, rfl, by go_num, Lib.hid hfin, Acc, Acc2⟩
                case measure => simp [intOf] <;> omega
            · skip
              obtain rfl : nq = J := by omega
              obtain rfl : f = true := Hf9.out.2 (found_all Hmem.out (by omega))
              clear Acc
              have Acc := Hbw; clear Hbw
              replace O1 := Lib.hid (O1.out.keep Hbo.out)
              replace M5 := Lib.hid (M5.out.keep Hbo.out)
              replace Oq := Lib.hid (Oq.out.keep Hbo.out)
              have szr := Hbo.out.size
              clear Hbo Hf9 Hmem
              clear Oq
              clear O1
              clear M5
              go_wp2_with fail
              with_reducible refine (He.out _ Acc.out).mono ?_
              rintro e v7 ⟨h6, l6, p6, n6, c6, zs, rfl, ho6, hn6, hb7⟩
              have sz7 : wr.heap.size ≤ v7.heap.size := by have := hb7.size; simpa using this
              replace Acc := Lib.hid (belowTrans Acc.out hb7 (Nat.le_refl _))
              clear hb7
              have O6 := Lib.hid ho6; clear ho6
              clear He
              have hba := belowAlloc v7 (.cells #[.int .i64 h6, .int .i64 l6, .slice p6 n6 c6] 40)
              replace Acc := Lib.hid (belowTrans Acc.out hba (Nat.le_refl _))
              replace O6 := Lib.hid (O6.out.keep hba)
              have M6 := Lib.hid (Blk.new v7 h6 l6 p6 n6 c6 40)
              clear hba
              have hbt := fun W hA => impl_BankText h6 l6 p6 n6 c6 zs W hA
              have hst := fun W hA => spec_BankText h6 l6 p6 n6 c6 zs W hA
              by_cases hk6 : BankOk ⟨h6, l6, zs⟩
              · skip
                simp only [mBText_yes (bank_iff.2 hk6)] at hbt hst
                have hpb := fun W (q : LibOk W) => impl_ParseBank ⟨(bankL ⟨h6, l6, zs⟩).toArray⟩ W (by have := bankL_size hk6; omega) q
                simp only [mPB_yes hk6 (s := ⟨(bankL ⟨h6, l6, zs⟩).toArray⟩) rfl] at hpb
                generalize (⟨(bankL ⟨h6, l6, zs⟩).toArray⟩ : ByteArray) = T at *
                clear hk6
                have Hpb := Lib.hid hpb; clear hpb
                have Hbt := Lib.hid hbt; clear hbt
                have Hst := Lib.hid hst; clear hst
                obtain ⟨⟨x0_0, x0_1, x0_2⟩, x0_3, x0_4, x0_5⟩ := M6.out.cells
                go_wp2_with fail
                with_reducible refine (Hbt.out _ O6.out.at).mono ?_
                rintro e v8 ⟨rfl, hb8⟩
                clear x0_0 x0_1 x0_2 x0_3 x0_4 x0_5
                have sz8 : v7.heap.size + 1 ≤ v8.heap.size := by have := hb8.size; simpa using this
                replace Acc := Lib.hid (belowTrans Acc.out hb8 (Nat.le_refl _))
                replace O6 := Lib.hid (O6.out.keep hb8)
                replace M6 := Lib.hid (M6.out.keep hb8)
                clear hb8
                obtain ⟨⟨x0_0, x0_1, x0_2⟩, x0_3, x0_4, x0_5⟩ := M6.out.cells
                go_wp2_with fail
                with_reducible refine (Hst.out _ O6.out.at).mono ?_
                rintro e v9 ⟨rfl, hb9⟩
                clear x0_0 x0_1 x0_2 x0_3 x0_4 x0_5
                have sz9 : v8.heap.size ≤ v9.heap.size := by have := hb9.size; simpa using this
                replace Acc := Lib.hid (belowTrans Acc.out hb9 (Nat.le_refl _))
                replace O6 := Lib.hid (O6.out.keep hb9)
                replace M6 := Lib.hid (M6.out.keep hb9)
                clear hb9
                clear Hbt Hst
                go_wp2_with fail
                with_reducible refine (Hpb.out _ (hL.keep Acc.out)).mono ?_
                rintro e v10 ⟨pk, nk, ck, rfl, hok, hb10⟩
                have sz10 : v9.heap.size ≤ v10.heap.size := by have := hb10.size; simpa using this
                replace Acc := Lib.hid (belowTrans Acc.out hb10 (Nat.le_refl _))
                replace O6 := Lib.hid (O6.out.keep hb10)
                replace M6 := Lib.hid (M6.out.keep hb10)
                clear hb10
                have Ok := Lib.hid hok; clear hok
                have hba := belowAlloc v10 (.cells #[.int .i64 h6, .int .i64 l6, .slice pk nk ck] 40)
                replace Acc := Lib.hid (belowTrans Acc.out hba (Nat.le_refl _))
                replace O6 := Lib.hid (O6.out.keep hba)
                replace M6 := Lib.hid (M6.out.keep hba)
                replace Ok := Lib.hid (Ok.out.keep hba)
                have Mk := Lib.hid (Blk.new v10 h6 l6 pk nk ck 40)
                clear hba
                have hxb := xBank_any (h6) (l6) (h6) (l6) pk p6 nk n6 ck c6 (zs) (zs) _ Ok.out.at O6.out.at
                rw [decide_eq_true rfl] at hxb
                have Hxb := Lib.hid hxb; clear hxb
                obtain ⟨⟨x0_0, x0_1, x0_2⟩, x0_3, x0_4, x0_5⟩ := Mk.out.cells
                obtain ⟨⟨x1_0, x1_1, x1_2⟩, x1_3, x1_4, x1_5⟩ := M6.out.cells
                go_wp2_with fail
                with_reducible refine (Hxb.out).mono ?_
                rintro e v11 ⟨rfl, hb11⟩
                clear x0_0 x0_1 x0_2 x0_3 x0_4 x0_5
                clear x1_0 x1_1 x1_2 x1_3 x1_4 x1_5
                have sz11 : v10.heap.size + 1 ≤ v11.heap.size := by have := hb11.size; simpa using this
                replace Acc := Lib.hid (belowTrans Acc.out hb11 (Nat.le_refl _))
                replace O6 := Lib.hid (O6.out.keep hb11)
                replace M6 := Lib.hid (M6.out.keep hb11)
                replace Ok := Lib.hid (Ok.out.keep hb11)
                replace Mk := Lib.hid (Mk.out.keep hb11)
                clear hb11
                clear Hxb
                clear Ok
                clear Mk
                clear O6
                clear M6
                go_wp2_with fail
                with_reducible refine (Hf.out _ Acc.out).mono ?_
                rintro e v12 ⟨t, rfl, ht, hb12⟩
                have sz12 : v11.heap.size ≤ v12.heap.size := by have := hb12.size; simpa using this
                replace Acc := Lib.hid (belowTrans Acc.out hb12 (Nat.le_refl _))
                clear hb12
                clear Hf
                have hi := fun W (q : LibOk W) => impl_ParseBank t W (by omega) q
                have hs := fun W => spec_ParseBank t W (by omega)
                have hfact := parseBank_facts t
                cases hq : (mParseBank t).2
                · skip
                  simp only [hq] at hi hs
                  clear hq hfact
                  generalize (mParseBank t).1 = D at *
                  obtain ⟨h4, l4, q4⟩ := D
                  simp only at hi hs
                  have Hi := Lib.hid hi; clear hi
                  have Hs := Lib.hid hs; clear hs
                  go_wp2_with fail
                  with_reducible refine (Hi.out _ (hL.keep Acc.out)).mono ?_
                  rintro e v13 ⟨pi, ni, ci, rfl, hoi, hb13⟩
                  have sz13 : v12.heap.size ≤ v13.heap.size := by have := hb13.size; simpa using this
                  replace Acc := Lib.hid (belowTrans Acc.out hb13 (Nat.le_refl _))
                  clear hb13
                  have Oi := Lib.hid hoi; clear hoi
                  have hba := belowAlloc v13 (.cells #[.int .i64 h4, .int .i64 l4, .slice pi ni ci] 40)
                  replace Acc := Lib.hid (belowTrans Acc.out hba (Nat.le_refl _))
                  replace Oi := Lib.hid (Oi.out.keep hba)
                  have Mi := Lib.hid (Blk.new v13 h4 l4 pi ni ci 40)
                  clear hba
                  go_wp2_with fail
                  with_reducible refine (Hs.out _).mono ?_
                  rintro e v14 ⟨ps, ns, cs, rfl, hos, hb14⟩
                  have sz14 : v13.heap.size + 1 ≤ v14.heap.size := by have := hb14.size; simpa using this
                  replace Acc := Lib.hid (belowTrans Acc.out hb14 (Nat.le_refl _))
                  replace Oi := Lib.hid (Oi.out.keep hb14)
                  replace Mi := Lib.hid (Mi.out.keep hb14)
                  clear hb14
                  have Os := Lib.hid hos; clear hos
                  have hba := belowAlloc v14 (.cells #[.int .i64 h4, .int .i64 l4, .slice ps ns cs] 40)
                  replace Acc := Lib.hid (belowTrans Acc.out hba (Nat.le_refl _))
                  replace Oi := Lib.hid (Oi.out.keep hba)
                  replace Mi := Lib.hid (Mi.out.keep hba)
                  replace Os := Lib.hid (Os.out.keep hba)
                  have Ms := Lib.hid (Blk.new v14 h4 l4 ps ns cs 40)
                  clear hba
                  have hxb := xBank_any (h4) (l4) (h4) (l4) pi ps ni ns ci cs (q4) (q4) _ Oi.out.at Os.out.at
                  rw [decide_eq_true rfl] at hxb
                  have Hxb := Lib.hid hxb; clear hxb
                  obtain ⟨⟨x0_0, x0_1, x0_2⟩, x0_3, x0_4, x0_5⟩ := Mi.out.cells
                  obtain ⟨⟨x1_0, x1_1, x1_2⟩, x1_3, x1_4, x1_5⟩ := Ms.out.cells
                  go_wp2_with fail
                  with_reducible refine (Hxb.out).mono ?_
                  rintro e v15 ⟨rfl, hb15⟩
                  clear x0_0 x0_1 x0_2 x0_3 x0_4 x0_5
                  clear x1_0 x1_1 x1_2 x1_3 x1_4 x1_5
                  have sz15 : v14.heap.size + 1 ≤ v15.heap.size := by have := hb15.size; simpa using this
                  replace Acc := Lib.hid (belowTrans Acc.out hb15 (Nat.le_refl _))
                  replace Oi := Lib.hid (Oi.out.keep hb15)
                  replace Mi := Lib.hid (Mi.out.keep hb15)
                  replace Os := Lib.hid (Os.out.keep hb15)
                  replace Ms := Lib.hid (Ms.out.keep hb15)
                  clear hb15
                  clear Hxb
                  go_wp2
                  go_ret
                  exact ⟨rfl, Acc.out⟩
                · skip
                  simp only [hq] at hi hs
                  obtain ⟨hk3, htx⟩ := hfact hq
                  clear hq hfact
                  generalize (mParseBank t).1 = D at *
                  obtain ⟨h4, l4, q4⟩ := D
                  simp only at hi hs
                  have hbt := fun a n c W (hA : IntsAt W a n c q4) => impl_BankText h4 l4 a n c q4 W hA
                  simp only [mBText_yes (bank_iff.2 hk3), htx] at hbt
                  clear hk3 htx
                  have Hbt := Lib.hid hbt; clear hbt
                  have Hi := Lib.hid hi; clear hi
                  have Hs := Lib.hid hs; clear hs
                  go_wp2_with fail
                  with_reducible refine (Hi.out _ (hL.keep Acc.out)).mono ?_
                  rintro e v13 ⟨pi, ni, ci, rfl, hoi, hb13⟩
                  have sz13 : v12.heap.size ≤ v13.heap.size := by have := hb13.size; simpa using this
                  replace Acc := Lib.hid (belowTrans Acc.out hb13 (Nat.le_refl _))
                  clear hb13
                  have Oi := Lib.hid hoi; clear hoi
                  have hba := belowAlloc v13 (.cells #[.int .i64 h4, .int .i64 l4, .slice pi ni ci] 40)
                  replace Acc := Lib.hid (belowTrans Acc.out hba (Nat.le_refl _))
                  replace Oi := Lib.hid (Oi.out.keep hba)
                  have Mi := Lib.hid (Blk.new v13 h4 l4 pi ni ci 40)
                  clear hba
                  go_wp2_with fail
                  with_reducible refine (Hs.out _).mono ?_
                  rintro e v14 ⟨ps, ns, cs, rfl, hos, hb14⟩
                  have sz14 : v13.heap.size + 1 ≤ v14.heap.size := by have := hb14.size; simpa using this
                  replace Acc := Lib.hid (belowTrans Acc.out hb14 (Nat.le_refl _))
                  replace Oi := Lib.hid (Oi.out.keep hb14)
                  replace Mi := Lib.hid (Mi.out.keep hb14)
                  clear hb14
                  have Os := Lib.hid hos; clear hos
                  have hba := belowAlloc v14 (.cells #[.int .i64 h4, .int .i64 l4, .slice ps ns cs] 40)
                  replace Acc := Lib.hid (belowTrans Acc.out hba (Nat.le_refl _))
                  replace Oi := Lib.hid (Oi.out.keep hba)
                  replace Mi := Lib.hid (Mi.out.keep hba)
                  replace Os := Lib.hid (Os.out.keep hba)
                  have Ms := Lib.hid (Blk.new v14 h4 l4 ps ns cs 40)
                  clear hba
                  have hxb := xBank_any (h4) (l4) (h4) (l4) pi ps ni ns ci cs (q4) (q4) _ Oi.out.at Os.out.at
                  rw [decide_eq_true rfl] at hxb
                  have Hxb := Lib.hid hxb; clear hxb
                  obtain ⟨⟨x0_0, x0_1, x0_2⟩, x0_3, x0_4, x0_5⟩ := Mi.out.cells
                  obtain ⟨⟨x1_0, x1_1, x1_2⟩, x1_3, x1_4, x1_5⟩ := Ms.out.cells
                  go_wp2_with fail
                  with_reducible refine (Hxb.out).mono ?_
                  rintro e v15 ⟨rfl, hb15⟩
                  clear x0_0 x0_1 x0_2 x0_3 x0_4 x0_5
                  clear x1_0 x1_1 x1_2 x1_3 x1_4 x1_5
                  have sz15 : v14.heap.size + 1 ≤ v15.heap.size := by have := hb15.size; simpa using this
                  replace Acc := Lib.hid (belowTrans Acc.out hb15 (Nat.le_refl _))
                  replace Oi := Lib.hid (Oi.out.keep hb15)
                  replace Mi := Lib.hid (Mi.out.keep hb15)
                  replace Os := Lib.hid (Os.out.keep hb15)
                  replace Ms := Lib.hid (Ms.out.keep hb15)
                  clear hb15
                  clear Hxb
                  obtain ⟨⟨x0_0, x0_1, x0_2⟩, x0_3, x0_4, x0_5⟩ := Mi.out.cells
                  go_wp2_with fail
                  with_reducible refine (Hbt.out _ _ _ _ Oi.out.at).mono ?_
                  rintro e v16 ⟨rfl, hb16⟩
                  clear x0_0 x0_1 x0_2 x0_3 x0_4 x0_5
                  have sz16 : v15.heap.size ≤ v16.heap.size := by have := hb16.size; simpa using this
                  replace Acc := Lib.hid (belowTrans Acc.out hb16 (Nat.le_refl _))
                  replace Oi := Lib.hid (Oi.out.keep hb16)
                  replace Mi := Lib.hid (Mi.out.keep hb16)
                  replace Os := Lib.hid (Os.out.keep hb16)
                  replace Ms := Lib.hid (Ms.out.keep hb16)
                  clear hb16
                  go_wp2
                  go_ret
                  exact ⟨by simp, Acc.out⟩
              · skip
                simp only [mBText_no (bank_no.2 hk6)] at hbt hst
                clear hk6
                have Hbt := Lib.hid hbt; clear hbt
                have Hst := Lib.hid hst; clear hst
                obtain ⟨⟨x0_0, x0_1, x0_2⟩, x0_3, x0_4, x0_5⟩ := M6.out.cells
                go_wp2_with fail
                with_reducible refine (Hbt.out _ O6.out.at).mono ?_
                rintro e v8 ⟨rfl, hb8⟩
                clear x0_0 x0_1 x0_2 x0_3 x0_4 x0_5
                have sz8 : v7.heap.size + 1 ≤ v8.heap.size := by have := hb8.size; simpa using this
                replace Acc := Lib.hid (belowTrans Acc.out hb8 (Nat.le_refl _))
                replace O6 := Lib.hid (O6.out.keep hb8)
                replace M6 := Lib.hid (M6.out.keep hb8)
                clear hb8
                obtain ⟨⟨x0_0, x0_1, x0_2⟩, x0_3, x0_4, x0_5⟩ := M6.out.cells
                go_wp2_with fail
                with_reducible refine (Hst.out _ O6.out.at).mono ?_
                rintro e v9 ⟨rfl, hb9⟩
                clear x0_0 x0_1 x0_2 x0_3 x0_4 x0_5
                have sz9 : v8.heap.size ≤ v9.heap.size := by have := hb9.size; simpa using this
                replace Acc := Lib.hid (belowTrans Acc.out hb9 (Nat.le_refl _))
                replace O6 := Lib.hid (O6.out.keep hb9)
                replace M6 := Lib.hid (M6.out.keep hb9)
                clear hb9
                clear Hbt Hst
                clear O6
                clear M6
                go_wp2_with fail
                with_reducible refine (Hf.out _ Acc.out).mono ?_
                rintro e v10 ⟨t, rfl, ht, hb10⟩
                have sz10 : v9.heap.size ≤ v10.heap.size := by have := hb10.size; simpa using this
                replace Acc := Lib.hid (belowTrans Acc.out hb10 (Nat.le_refl _))
                clear hb10
                clear Hf
                have hi := fun W (q : LibOk W) => impl_ParseBank t W (by omega) q
                have hs := fun W => spec_ParseBank t W (by omega)
                have hfact := parseBank_facts t
                cases hq : (mParseBank t).2
                · skip
                  simp only [hq] at hi hs
                  clear hq hfact
                  generalize (mParseBank t).1 = D at *
                  obtain ⟨h4, l4, q4⟩ := D
                  simp only at hi hs
                  have Hi := Lib.hid hi; clear hi
                  have Hs := Lib.hid hs; clear hs
                  go_wp2_with fail
                  with_reducible refine (Hi.out _ (hL.keep Acc.out)).mono ?_
                  rintro e v11 ⟨pi, ni, ci, rfl, hoi, hb11⟩
                  have sz11 : v10.heap.size ≤ v11.heap.size := by have := hb11.size; simpa using this
                  replace Acc := Lib.hid (belowTrans Acc.out hb11 (Nat.le_refl _))
                  clear hb11
                  have Oi := Lib.hid hoi; clear hoi
                  have hba := belowAlloc v11 (.cells #[.int .i64 h4, .int .i64 l4, .slice pi ni ci] 40)
                  replace Acc := Lib.hid (belowTrans Acc.out hba (Nat.le_refl _))
                  replace Oi := Lib.hid (Oi.out.keep hba)
                  have Mi := Lib.hid (Blk.new v11 h4 l4 pi ni ci 40)
                  clear hba
                  go_wp2_with fail
                  with_reducible refine (Hs.out _).mono ?_
                  rintro e v12 ⟨ps, ns, cs, rfl, hos, hb12⟩
                  have sz12 : v11.heap.size + 1 ≤ v12.heap.size := by have := hb12.size; simpa using this
                  replace Acc := Lib.hid (belowTrans Acc.out hb12 (Nat.le_refl _))
                  replace Oi := Lib.hid (Oi.out.keep hb12)
                  replace Mi := Lib.hid (Mi.out.keep hb12)
                  clear hb12
                  have Os := Lib.hid hos; clear hos
                  have hba := belowAlloc v12 (.cells #[.int .i64 h4, .int .i64 l4, .slice ps ns cs] 40)
                  replace Acc := Lib.hid (belowTrans Acc.out hba (Nat.le_refl _))
                  replace Oi := Lib.hid (Oi.out.keep hba)
                  replace Mi := Lib.hid (Mi.out.keep hba)
                  replace Os := Lib.hid (Os.out.keep hba)
                  have Ms := Lib.hid (Blk.new v12 h4 l4 ps ns cs 40)
                  clear hba
                  have hxb := xBank_any (h4) (l4) (h4) (l4) pi ps ni ns ci cs (q4) (q4) _ Oi.out.at Os.out.at
                  rw [decide_eq_true rfl] at hxb
                  have Hxb := Lib.hid hxb; clear hxb
                  obtain ⟨⟨x0_0, x0_1, x0_2⟩, x0_3, x0_4, x0_5⟩ := Mi.out.cells
                  obtain ⟨⟨x1_0, x1_1, x1_2⟩, x1_3, x1_4, x1_5⟩ := Ms.out.cells
                  go_wp2_with fail
                  with_reducible refine (Hxb.out).mono ?_
                  rintro e v13 ⟨rfl, hb13⟩
                  clear x0_0 x0_1 x0_2 x0_3 x0_4 x0_5
                  clear x1_0 x1_1 x1_2 x1_3 x1_4 x1_5
                  have sz13 : v12.heap.size + 1 ≤ v13.heap.size := by have := hb13.size; simpa using this
                  replace Acc := Lib.hid (belowTrans Acc.out hb13 (Nat.le_refl _))
                  replace Oi := Lib.hid (Oi.out.keep hb13)
                  replace Mi := Lib.hid (Mi.out.keep hb13)
                  replace Os := Lib.hid (Os.out.keep hb13)
                  replace Ms := Lib.hid (Ms.out.keep hb13)
                  clear hb13
                  clear Hxb
                  go_wp2
                  go_ret
                  exact ⟨rfl, Acc.out⟩
                · skip
                  simp only [hq] at hi hs
                  obtain ⟨hk3, htx⟩ := hfact hq
                  clear hq hfact
                  generalize (mParseBank t).1 = D at *
                  obtain ⟨h4, l4, q4⟩ := D
                  simp only at hi hs
                  have hbt := fun a n c W (hA : IntsAt W a n c q4) => impl_BankText h4 l4 a n c q4 W hA
                  simp only [mBText_yes (bank_iff.2 hk3), htx] at hbt
                  clear hk3 htx
                  have Hbt := Lib.hid hbt; clear hbt
                  have Hi := Lib.hid hi; clear hi
                  have Hs := Lib.hid hs; clear hs
                  go_wp2_with fail
                  with_reducible refine (Hi.out _ (hL.keep Acc.out)).mono ?_
                  rintro e v11 ⟨pi, ni, ci, rfl, hoi, hb11⟩
                  have sz11 : v10.heap.size ≤ v11.heap.size := by have := hb11.size; simpa using this
                  replace Acc := Lib.hid (belowTrans Acc.out hb11 (Nat.le_refl _))
                  clear hb11
                  have Oi := Lib.hid hoi; clear hoi
                  have hba := belowAlloc v11 (.cells #[.int .i64 h4, .int .i64 l4, .slice pi ni ci] 40)
                  replace Acc := Lib.hid (belowTrans Acc.out hba (Nat.le_refl _))
                  replace Oi := Lib.hid (Oi.out.keep hba)
                  have Mi := Lib.hid (Blk.new v11 h4 l4 pi ni ci 40)
                  clear hba
                  go_wp2_with fail
                  with_reducible refine (Hs.out _).mono ?_
                  rintro e v12 ⟨ps, ns, cs, rfl, hos, hb12⟩
                  have sz12 : v11.heap.size + 1 ≤ v12.heap.size := by have := hb12.size; simpa using this
                  replace Acc := Lib.hid (belowTrans Acc.out hb12 (Nat.le_refl _))
                  replace Oi := Lib.hid (Oi.out.keep hb12)
                  replace Mi := Lib.hid (Mi.out.keep hb12)
                  clear hb12
                  have Os := Lib.hid hos; clear hos
                  have hba := belowAlloc v12 (.cells #[.int .i64 h4, .int .i64 l4, .slice ps ns cs] 40)
                  replace Acc := Lib.hid (belowTrans Acc.out hba (Nat.le_refl _))
                  replace Oi := Lib.hid (Oi.out.keep hba)
                  replace Mi := Lib.hid (Mi.out.keep hba)
                  replace Os := Lib.hid (Os.out.keep hba)
                  have Ms := Lib.hid (Blk.new v12 h4 l4 ps ns cs 40)
                  clear hba
                  have hxb := xBank_any (h4) (l4) (h4) (l4) pi ps ni ns ci cs (q4) (q4) _ Oi.out.at Os.out.at
                  rw [decide_eq_true rfl] at hxb
                  have Hxb := Lib.hid hxb; clear hxb
                  obtain ⟨⟨x0_0, x0_1, x0_2⟩, x0_3, x0_4, x0_5⟩ := Mi.out.cells
                  obtain ⟨⟨x1_0, x1_1, x1_2⟩, x1_3, x1_4, x1_5⟩ := Ms.out.cells
                  go_wp2_with fail
                  with_reducible refine (Hxb.out).mono ?_
                  rintro e v13 ⟨rfl, hb13⟩
                  clear x0_0 x0_1 x0_2 x0_3 x0_4 x0_5
                  clear x1_0 x1_1 x1_2 x1_3 x1_4 x1_5
                  have sz13 : v12.heap.size + 1 ≤ v13.heap.size := by have := hb13.size; simpa using this
                  replace Acc := Lib.hid (belowTrans Acc.out hb13 (Nat.le_refl _))
                  replace Oi := Lib.hid (Oi.out.keep hb13)
                  replace Mi := Lib.hid (Mi.out.keep hb13)
                  replace Os := Lib.hid (Os.out.keep hb13)
                  replace Ms := Lib.hid (Ms.out.keep hb13)
                  clear hb13
                  clear Hxb
                  obtain ⟨⟨x0_0, x0_1, x0_2⟩, x0_3, x0_4, x0_5⟩ := Mi.out.cells
                  go_wp2_with fail
                  with_reducible refine (Hbt.out _ _ _ _ Oi.out.at).mono ?_
                  rintro e v14 ⟨rfl, hb14⟩
                  clear x0_0 x0_1 x0_2 x0_3 x0_4 x0_5
                  have sz14 : v13.heap.size ≤ v14.heap.size := by have := hb14.size; simpa using this
                  replace Acc := Lib.hid (belowTrans Acc.out hb14 (Nat.le_refl _))
                  replace Oi := Lib.hid (Oi.out.keep hb14)
                  replace Mi := Lib.hid (Mi.out.keep hb14)
                  replace Os := Lib.hid (Os.out.keep hb14)
                  replace Ms := Lib.hid (Ms.out.keep hb14)
                  clear hb14
                  go_wp2
                  go_ret
                  exact ⟨by simp, Acc.out⟩
    · skip
      have hbp := fun W hA => impl_BankPasts h l p1 n1 c1 xs W hA
      have hsp := fun W hA => spec_BankPasts h l p1 n1 c1 xs W hA
      have hfa := fun a (q : a ∈ (mBankPasts ⟨h, l, xs⟩).1) => past_facts q
      have hsb := fun W hA => impl_StepBank h l p1 n1 c1 xs W hA
      simp only [mStep_yesB hk] at hsb
      simp only [mBankPasts_no (b := ⟨h, l, xs⟩) (fun q => h14 q.2)] at hbp hsp hfa
      generalize ([] : List Bk) = P at *
      generalize stepB ⟨h, l, xs⟩ = B2 at *
      generalize madeB ⟨h, l, xs⟩ = M at *
      obtain ⟨h5, l5, p5⟩ := B2
      simp only at hsb
      clear hk h14
      have Hbp := Lib.hid hbp; clear hbp
      have Hsp := Lib.hid hsp; clear hsp
      have Hfa := Lib.hid hfa; clear hfa
      obtain ⟨⟨x0_0, x0_1, x0_2⟩, x0_3, x0_4, x0_5⟩ := M5.out.cells
      go_wp2_with fail
      with_reducible refine (Hbp.out _ O1.out.at).mono ?_
      rintro e v2 ⟨pa, np, ca, rfl, hop, hb2⟩
      clear x0_0 x0_1 x0_2 x0_3 x0_4 x0_5
      have sz2 : v1.heap.size + 1 ≤ v2.heap.size := by have := hb2.size; simpa using this
      replace Acc := Lib.hid (belowTrans Acc.out hb2 (Nat.le_refl _))
      replace O1 := Lib.hid (O1.out.keep hb2)
      replace M5 := Lib.hid (M5.out.keep hb2)
      clear hb2
      have Op := Lib.hid hop; clear hop
      obtain ⟨⟨x0_0, x0_1, x0_2⟩, x0_3, x0_4, x0_5⟩ := M5.out.cells
      go_wp2_with fail
      with_reducible refine (Hsp.out _ O1.out.at).mono ?_
      rintro e v3 ⟨ps, ns, cs, rfl, hos, hb3⟩
      clear x0_0 x0_1 x0_2 x0_3 x0_4 x0_5
      have sz3 : v2.heap.size ≤ v3.heap.size := by have := hb3.size; simpa using this
      replace Acc := Lib.hid (belowTrans Acc.out hb3 (Nat.le_refl _))
      replace O1 := Lib.hid (O1.out.keep hb3)
      replace M5 := Lib.hid (M5.out.keep hb3)
      replace Op := Lib.hid (Op.out.keep hb3)
      clear hb3
      have Os := Lib.hid hos; clear hos
      obtain rfl : ns = np := by rw [← Os.out.length]; exact Op.out.length
      clear Hbp Hsp
      have hxs := xBanks_any pa ps ns ca cs P _ Op.out.at Os.out.at
      have Hxs := Lib.hid hxs; clear hxs
      go_wp2_with fail
      with_reducible refine (Hxs.out).mono ?_
      rintro e v4 ⟨rfl, hb4⟩
      have sz4 : v3.heap.size ≤ v4.heap.size := by have := hb4.size; simpa using this
      replace Acc := Lib.hid (belowTrans Acc.out hb4 (Nat.le_refl _))
      replace O1 := Lib.hid (O1.out.keep hb4)
      replace M5 := Lib.hid (M5.out.keep hb4)
      replace Op := Lib.hid (Op.out.keep hb4)
      replace Os := Lib.hid (Os.out.keep hb4)
      clear hb4
      clear Hxs
      clear Os
      have hnl := Op.out.at.lenInt
      have hPl := Op.out.length
      obtain ⟨wo, hwo⟩ : ∃ wo : World, wo = v4 := ⟨_, rfl⟩
      subst hwo
      go_wp2_with fail
      go_loopw [63] (fun i wr => ∃ J : Nat, J ≤ ns ∧ i = .int .i64 J ∧ Hid (Below w.heap.size w wr) ∧ Hid (Below wo.heap.size wo wr)) (fun i _ => ns - (intOf i).toNat)
      case atStart => exact ⟨0, Nat.zero_le _, rfl, Acc, Lib.hid (Below.refl _ _)⟩
      case round =>
        obtain ⟨J, hJ, rfl, Hbw, Hbo⟩ := hrel
        by_cases hlt : J < ns
        · skip
          clear Acc
          have Acc := Hbw; clear Hbw
          replace O1 := Lib.hid (O1.out.keep Hbo.out)
          replace M5 := Lib.hid (M5.out.keep Hbo.out)
          replace Op := Lib.hid (Op.out.keep Hbo.out)
          have szr := Hbo.out.size
          have Acc2 := Hbo; clear Hbo
          obtain ⟨b9, o9, rfl, hbl9, hc9⟩ := Op.out.at.cell (by omega)
          obtain ⟨a3, m3, d3, z0, z1, z2, hI3⟩ := hc9 J hlt
          clear hc9
          have hf3 := Hfa.out (P.getD J noBank) (by rw [List.getD_eq_getElem?_getD, List.getElem?_eq_getElem (by omega)]; exact List.getElem_mem _)
          generalize P.getD J noBank = Z at *
          obtain ⟨h3, l3, q3⟩ := Z
          simp only at z0 z1 z2 hI3
          obtain ⟨hk3, hs3⟩ := hf3
          have hsb := fun W (hA : IntsAt W a3 m3 d3 q3) => impl_StepBank h3 l3 a3 m3 d3 q3 W hA
          simp only [mStep_yesB hk3, hs3] at hsb
          clear hk3 hs3
          generalize madeB ⟨h3, l3, q3⟩ = M9 at *
          have hba := belowAlloc wr (.cells #[.int .i64 h3, .int .i64 l3, .slice a3 m3 d3] 40)
          have hI4 := hI3.keep hba
          clear hI3
          replace O1 := Lib.hid (O1.out.keep hba)
          replace M5 := Lib.hid (M5.out.keep hba)
          replace Op := Lib.hid (Op.out.keep hba)
          replace Acc := Lib.hid (belowTrans Acc.out hba (Nat.le_refl _))
          replace Acc2 := Lib.hid (belowTrans Acc2.out hba (Nat.le_refl _))
          clear hba
          have Hsb := Lib.hid hsb; clear hsb
          have HI4 := Lib.hid hI4; clear hI4
          go_wp2_with fail
          with_reducible refine (Hsb.out _ HI4.out).mono ?_
          rintro e v5 ⟨a4, m4, d4, rfl, ho4, hb5⟩
          have sz5 : wr.heap.size + 1 ≤ v5.heap.size := by have := hb5.size; simpa using this
          replace Acc := Lib.hid (belowTrans Acc.out hb5 (Nat.le_refl _))
          replace Acc2 := Lib.hid (belowTrans Acc2.out hb5 (Nat.le_refl _))
          replace O1 := Lib.hid (O1.out.keep hb5)
          replace M5 := Lib.hid (M5.out.keep hb5)
          replace Op := Lib.hid (Op.out.keep hb5)
          clear hb5
          have O4 := Lib.hid ho4; clear ho4
          have hba := belowAlloc v5 (.cells #[.int .i64 h, .int .i64 l, .slice a4 m4 d4] 40)
          replace Acc := Lib.hid (belowTrans Acc.out hba (Nat.le_refl _))
          replace Acc2 := Lib.hid (belowTrans Acc2.out hba (Nat.le_refl _))
          replace O1 := Lib.hid (O1.out.keep hba)
          replace M5 := Lib.hid (M5.out.keep hba)
          replace Op := Lib.hid (Op.out.keep hba)
          replace O4 := Lib.hid (O4.out.keep hba)
          have M4 := Lib.hid (Blk.new v5 h l a4 m4 d4 40)
          clear hba
          clear z0 z1 z2
          have hxb := xBank_any (h) (l) (h) (l) a4 p1 m4 n1 d4 c1 (xs) (xs) _ O4.out.at O1.out.at
          rw [decide_eq_true rfl] at hxb
          have Hxb := Lib.hid hxb; clear hxb
          obtain ⟨⟨x0_0, x0_1, x0_2⟩, x0_3, x0_4, x0_5⟩ := M4.out.cells
          obtain ⟨⟨x1_0, x1_1, x1_2⟩, x1_3, x1_4, x1_5⟩ := M5.out.cells
          go_wp2_with fail
          with_reducible refine (Hxb.out).mono ?_
          rintro e v6 ⟨rfl, hb6⟩
          clear x0_0 x0_1 x0_2 x0_3 x0_4 x0_5
          clear x1_0 x1_1 x1_2 x1_3 x1_4 x1_5
          have sz6 : v5.heap.size + 1 ≤ v6.heap.size := by have := hb6.size; simpa using this
          replace Acc := Lib.hid (belowTrans Acc.out hb6 (Nat.le_refl _))
          replace Acc2 := Lib.hid (belowTrans Acc2.out hb6 (Nat.le_refl _))
          replace O1 := Lib.hid (O1.out.keep hb6)
          replace M5 := Lib.hid (M5.out.keep hb6)
          replace Op := Lib.hid (Op.out.keep hb6)
          replace O4 := Lib.hid (O4.out.keep hb6)
          replace M4 := Lib.hid (M4.out.keep hb6)
          clear hb6
          clear Hxb
          go_wp2
          go_roundw
          case rel => exact ⟨J + 1, by omega, by go_num, Acc, Acc2⟩
          case measure => simp [intOf] <;> omega
        · skip
          clear Acc
          have Acc := Hbw; clear Hbw
          replace O1 := Lib.hid (O1.out.keep Hbo.out)
          replace M5 := Lib.hid (M5.out.keep Hbo.out)
          replace Op := Lib.hid (Op.out.keep Hbo.out)
          have szr := Hbo.out.size
          clear Hbo Hfa
          clear Op
          have Hsb := Lib.hid hsb; clear hsb
          obtain ⟨⟨x0_0, x0_1, x0_2⟩, x0_3, x0_4, x0_5⟩ := M5.out.cells
          go_wp2_with fail
          with_reducible refine (Hsb.out _ O1.out.at).mono ?_
          rintro e v5 ⟨a5, n5, c5, rfl, ho5, hb5⟩
          clear x0_0 x0_1 x0_2 x0_3 x0_4 x0_5
          have sz5 : wr.heap.size ≤ v5.heap.size := by have := hb5.size; simpa using this
          replace Acc := Lib.hid (belowTrans Acc.out hb5 (Nat.le_refl _))
          replace O1 := Lib.hid (O1.out.keep hb5)
          replace M5 := Lib.hid (M5.out.keep hb5)
          clear hb5
          have O5 := Lib.hid ho5; clear ho5
          have hba := belowAlloc v5 (.cells #[.int .i64 h5, .int .i64 l5, .slice a5 n5 c5] 40)
          replace Acc := Lib.hid (belowTrans Acc.out hba (Nat.le_refl _))
          replace O1 := Lib.hid (O1.out.keep hba)
          replace M5 := Lib.hid (M5.out.keep hba)
          replace O5 := Lib.hid (O5.out.keep hba)
          have M15 := Lib.hid (Blk.new v5 h5 l5 a5 n5 c5 40)
          clear hba
          clear Hsb
          clear O5
          clear M15
          clear O1
          clear M5
          go_wp2_with fail
          with_reducible refine (He.out _ Acc.out).mono ?_
          rintro e v6 ⟨h6, l6, p6, n6, c6, zs, rfl, ho6, hn6, hb6⟩
          have sz6 : v5.heap.size + 1 ≤ v6.heap.size := by have := hb6.size; simpa using this
          replace Acc := Lib.hid (belowTrans Acc.out hb6 (Nat.le_refl _))
          clear hb6
          have O6 := Lib.hid ho6; clear ho6
          clear He
          have hba := belowAlloc v6 (.cells #[.int .i64 h6, .int .i64 l6, .slice p6 n6 c6] 40)
          replace Acc := Lib.hid (belowTrans Acc.out hba (Nat.le_refl _))
          replace O6 := Lib.hid (O6.out.keep hba)
          have M6 := Lib.hid (Blk.new v6 h6 l6 p6 n6 c6 40)
          clear hba
          have hbt := fun W hA => impl_BankText h6 l6 p6 n6 c6 zs W hA
          have hst := fun W hA => spec_BankText h6 l6 p6 n6 c6 zs W hA
          by_cases hk6 : BankOk ⟨h6, l6, zs⟩
          · skip
            simp only [mBText_yes (bank_iff.2 hk6)] at hbt hst
            have hpb := fun W (q : LibOk W) => impl_ParseBank ⟨(bankL ⟨h6, l6, zs⟩).toArray⟩ W (by have := bankL_size hk6; omega) q
            simp only [mPB_yes hk6 (s := ⟨(bankL ⟨h6, l6, zs⟩).toArray⟩) rfl] at hpb
            generalize (⟨(bankL ⟨h6, l6, zs⟩).toArray⟩ : ByteArray) = T at *
            clear hk6
            have Hpb := Lib.hid hpb; clear hpb
            have Hbt := Lib.hid hbt; clear hbt
            have Hst := Lib.hid hst; clear hst
            obtain ⟨⟨x0_0, x0_1, x0_2⟩, x0_3, x0_4, x0_5⟩ := M6.out.cells
            go_wp2_with fail
            with_reducible refine (Hbt.out _ O6.out.at).mono ?_
            rintro e v7 ⟨rfl, hb7⟩
            clear x0_0 x0_1 x0_2 x0_3 x0_4 x0_5
            have sz7 : v6.heap.size + 1 ≤ v7.heap.size := by have := hb7.size; simpa using this
            replace Acc := Lib.hid (belowTrans Acc.out hb7 (Nat.le_refl _))
            replace O6 := Lib.hid (O6.out.keep hb7)
            replace M6 := Lib.hid (M6.out.keep hb7)
            clear hb7
            obtain ⟨⟨x0_0, x0_1, x0_2⟩, x0_3, x0_4, x0_5⟩ := M6.out.cells
            go_wp2_with fail
            with_reducible refine (Hst.out _ O6.out.at).mono ?_
            rintro e v8 ⟨rfl, hb8⟩
            clear x0_0 x0_1 x0_2 x0_3 x0_4 x0_5
            have sz8 : v7.heap.size ≤ v8.heap.size := by have := hb8.size; simpa using this
            replace Acc := Lib.hid (belowTrans Acc.out hb8 (Nat.le_refl _))
            replace O6 := Lib.hid (O6.out.keep hb8)
            replace M6 := Lib.hid (M6.out.keep hb8)
            clear hb8
            clear Hbt Hst
            go_wp2_with fail
            with_reducible refine (Hpb.out _ (hL.keep Acc.out)).mono ?_
            rintro e v9 ⟨pk, nk, ck, rfl, hok, hb9⟩
            have sz9 : v8.heap.size ≤ v9.heap.size := by have := hb9.size; simpa using this
            replace Acc := Lib.hid (belowTrans Acc.out hb9 (Nat.le_refl _))
            replace O6 := Lib.hid (O6.out.keep hb9)
            replace M6 := Lib.hid (M6.out.keep hb9)
            clear hb9
            have Ok := Lib.hid hok; clear hok
            have hba := belowAlloc v9 (.cells #[.int .i64 h6, .int .i64 l6, .slice pk nk ck] 40)
            replace Acc := Lib.hid (belowTrans Acc.out hba (Nat.le_refl _))
            replace O6 := Lib.hid (O6.out.keep hba)
            replace M6 := Lib.hid (M6.out.keep hba)
            replace Ok := Lib.hid (Ok.out.keep hba)
            have Mk := Lib.hid (Blk.new v9 h6 l6 pk nk ck 40)
            clear hba
            have hxb := xBank_any (h6) (l6) (h6) (l6) pk p6 nk n6 ck c6 (zs) (zs) _ Ok.out.at O6.out.at
            rw [decide_eq_true rfl] at hxb
            have Hxb := Lib.hid hxb; clear hxb
            obtain ⟨⟨x0_0, x0_1, x0_2⟩, x0_3, x0_4, x0_5⟩ := Mk.out.cells
            obtain ⟨⟨x1_0, x1_1, x1_2⟩, x1_3, x1_4, x1_5⟩ := M6.out.cells
            go_wp2_with fail
            with_reducible refine (Hxb.out).mono ?_
            rintro e v10 ⟨rfl, hb10⟩
            clear x0_0 x0_1 x0_2 x0_3 x0_4 x0_5
            clear x1_0 x1_1 x1_2 x1_3 x1_4 x1_5
            have sz10 : v9.heap.size + 1 ≤ v10.heap.size := by have := hb10.size; simpa using this
            replace Acc := Lib.hid (belowTrans Acc.out hb10 (Nat.le_refl _))
            replace O6 := Lib.hid (O6.out.keep hb10)
            replace M6 := Lib.hid (M6.out.keep hb10)
            replace Ok := Lib.hid (Ok.out.keep hb10)
            replace Mk := Lib.hid (Mk.out.keep hb10)
            clear hb10
            clear Hxb
            clear Ok
            clear Mk
            clear O6
            clear M6
            go_wp2_with fail
            with_reducible refine (Hf.out _ Acc.out).mono ?_
            rintro e v11 ⟨t, rfl, ht, hb11⟩
            have sz11 : v10.heap.size ≤ v11.heap.size := by have := hb11.size; simpa using this
            replace Acc := Lib.hid (belowTrans Acc.out hb11 (Nat.le_refl _))
            clear hb11
            clear Hf
            have hi := fun W (q : LibOk W) => impl_ParseBank t W (by omega) q
            have hs := fun W => spec_ParseBank t W (by omega)
            have hfact := parseBank_facts t
            cases hq : (mParseBank t).2
            · skip
              simp only [hq] at hi hs
              clear hq hfact
              generalize (mParseBank t).1 = D at *
              obtain ⟨h4, l4, q4⟩ := D
              simp only at hi hs
              have Hi := Lib.hid hi; clear hi
              have Hs := Lib.hid hs; clear hs
              go_wp2_with fail
              with_reducible refine (Hi.out _ (hL.keep Acc.out)).mono ?_
              rintro e v12 ⟨pi, ni, ci, rfl, hoi, hb12⟩
              have sz12 : v11.heap.size ≤ v12.heap.size := by have := hb12.size; simpa using this
              replace Acc := Lib.hid (belowTrans Acc.out hb12 (Nat.le_refl _))
              clear hb12
              have Oi := Lib.hid hoi; clear hoi
              have hba := belowAlloc v12 (.cells #[.int .i64 h4, .int .i64 l4, .slice pi ni ci] 40)
              replace Acc := Lib.hid (belowTrans Acc.out hba (Nat.le_refl _))
              replace Oi := Lib.hid (Oi.out.keep hba)
              have Mi := Lib.hid (Blk.new v12 h4 l4 pi ni ci 40)
              clear hba
              go_wp2_with fail
              with_reducible refine (Hs.out _).mono ?_
              rintro e v13 ⟨ps, ns, cs, rfl, hos, hb13⟩
              have sz13 : v12.heap.size + 1 ≤ v13.heap.size := by have := hb13.size; simpa using this
              replace Acc := Lib.hid (belowTrans Acc.out hb13 (Nat.le_refl _))
              replace Oi := Lib.hid (Oi.out.keep hb13)
              replace Mi := Lib.hid (Mi.out.keep hb13)
              clear hb13
              have Os := Lib.hid hos; clear hos
              have hba := belowAlloc v13 (.cells #[.int .i64 h4, .int .i64 l4, .slice ps ns cs] 40)
              replace Acc := Lib.hid (belowTrans Acc.out hba (Nat.le_refl _))
              replace Oi := Lib.hid (Oi.out.keep hba)
              replace Mi := Lib.hid (Mi.out.keep hba)
              replace Os := Lib.hid (Os.out.keep hba)
              have Ms := Lib.hid (Blk.new v13 h4 l4 ps ns cs 40)
              clear hba
              have hxb := xBank_any (h4) (l4) (h4) (l4) pi ps ni ns ci cs (q4) (q4) _ Oi.out.at Os.out.at
              rw [decide_eq_true rfl] at hxb
              have Hxb := Lib.hid hxb; clear hxb
              obtain ⟨⟨x0_0, x0_1, x0_2⟩, x0_3, x0_4, x0_5⟩ := Mi.out.cells
              obtain ⟨⟨x1_0, x1_1, x1_2⟩, x1_3, x1_4, x1_5⟩ := Ms.out.cells
              go_wp2_with fail
              with_reducible refine (Hxb.out).mono ?_
              rintro e v14 ⟨rfl, hb14⟩
              clear x0_0 x0_1 x0_2 x0_3 x0_4 x0_5
              clear x1_0 x1_1 x1_2 x1_3 x1_4 x1_5
              have sz14 : v13.heap.size + 1 ≤ v14.heap.size := by have := hb14.size; simpa using this
              replace Acc := Lib.hid (belowTrans Acc.out hb14 (Nat.le_refl _))
              replace Oi := Lib.hid (Oi.out.keep hb14)
              replace Mi := Lib.hid (Mi.out.keep hb14)
              replace Os := Lib.hid (Os.out.keep hb14)
              replace Ms := Lib.hid (Ms.out.keep hb14)
              clear hb14
              clear Hxb
              go_wp2
              go_ret
              exact ⟨rfl, Acc.out⟩
            · skip
              simp only [hq] at hi hs
              obtain ⟨hk3, htx⟩ := hfact hq
              clear hq hfact
              generalize (mParseBank t).1 = D at *
              obtain ⟨h4, l4, q4⟩ := D
              simp only at hi hs
              have hbt := fun a n c W (hA : IntsAt W a n c q4) => impl_BankText h4 l4 a n c q4 W hA
              simp only [mBText_yes (bank_iff.2 hk3), htx] at hbt
              clear hk3 htx
              have Hbt := Lib.hid hbt; clear hbt
              have Hi := Lib.hid hi; clear hi
              have Hs := Lib.hid hs; clear hs
              go_wp2_with fail
              with_reducible refine (Hi.out _ (hL.keep Acc.out)).mono ?_
              rintro e v12 ⟨pi, ni, ci, rfl, hoi, hb12⟩
              have sz12 : v11.heap.size ≤ v12.heap.size := by have := hb12.size; simpa using this
              replace Acc := Lib.hid (belowTrans Acc.out hb12 (Nat.le_refl _))
              clear hb12
              have Oi := Lib.hid hoi; clear hoi
              have hba := belowAlloc v12 (.cells #[.int .i64 h4, .int .i64 l4, .slice pi ni ci] 40)
              replace Acc := Lib.hid (belowTrans Acc.out hba (Nat.le_refl _))
              replace Oi := Lib.hid (Oi.out.keep hba)
              have Mi := Lib.hid (Blk.new v12 h4 l4 pi ni ci 40)
              clear hba
              go_wp2_with fail
              with_reducible refine (Hs.out _).mono ?_
              rintro e v13 ⟨ps, ns, cs, rfl, hos, hb13⟩
              have sz13 : v12.heap.size + 1 ≤ v13.heap.size := by have := hb13.size; simpa using this
              replace Acc := Lib.hid (belowTrans Acc.out hb13 (Nat.le_refl _))
              replace Oi := Lib.hid (Oi.out.keep hb13)
              replace Mi := Lib.hid (Mi.out.keep hb13)
              clear hb13
              have Os := Lib.hid hos; clear hos
              have hba := belowAlloc v13 (.cells #[.int .i64 h4, .int .i64 l4, .slice ps ns cs] 40)
              replace Acc := Lib.hid (belowTrans Acc.out hba (Nat.le_refl _))
              replace Oi := Lib.hid (Oi.out.keep hba)
              replace Mi := Lib.hid (Mi.out.keep hba)
              replace Os := Lib.hid (Os.out.keep hba)
              have Ms := Lib.hid (Blk.new v13 h4 l4 ps ns cs 40)
              clear hba
              have hxb := xBank_any (h4) (l4) (h4) (l4) pi ps ni ns ci cs (q4) (q4) _ Oi.out.at Os.out.at
              rw [decide_eq_true rfl] at hxb
              have Hxb := Lib.hid hxb; clear hxb
              obtain ⟨⟨x0_0, x0_1, x0_2⟩, x0_3, x0_4, x0_5⟩ := Mi.out.cells
              obtain ⟨⟨x1_0, x1_1, x1_2⟩, x1_3, x1_4, x1_5⟩ := Ms.out.cells
              go_wp2_with fail
              with_reducible refine (Hxb.out).mono ?_
              rintro e v14 ⟨rfl, hb14⟩
              clear x0_0 x0_1 x0_2 x0_3 x0_4 x0_5
              clear x1_0 x1_1 x1_2 x1_3 x1_4 x1_5
              have sz14 : v13.heap.size + 1 ≤ v14.heap.size := by have := hb14.size; simpa using this
              replace Acc := Lib.hid (belowTrans Acc.out hb14 (Nat.le_refl _))
              replace Oi := Lib.hid (Oi.out.keep hb14)
              replace Mi := Lib.hid (Mi.out.keep hb14)
              replace Os := Lib.hid (Os.out.keep hb14)
              replace Ms := Lib.hid (Ms.out.keep hb14)
              clear hb14
              clear Hxb
              obtain ⟨⟨x0_0, x0_1, x0_2⟩, x0_3, x0_4, x0_5⟩ := Mi.out.cells
              go_wp2_with fail
              with_reducible refine (Hbt.out _ _ _ _ Oi.out.at).mono ?_
              rintro e v15 ⟨rfl, hb15⟩
              clear x0_0 x0_1 x0_2 x0_3 x0_4 x0_5
              have sz15 : v14.heap.size ≤ v15.heap.size := by have := hb15.size; simpa using this
              replace Acc := Lib.hid (belowTrans Acc.out hb15 (Nat.le_refl _))
              replace Oi := Lib.hid (Oi.out.keep hb15)
              replace Mi := Lib.hid (Mi.out.keep hb15)
              replace Os := Lib.hid (Os.out.keep hb15)
              replace Ms := Lib.hid (Ms.out.keep hb15)
              clear hb15
              go_wp2
              go_ret
              exact ⟨by simp, Acc.out⟩
          · skip
            simp only [mBText_no (bank_no.2 hk6)] at hbt hst
            clear hk6
            have Hbt := Lib.hid hbt; clear hbt
            have Hst := Lib.hid hst; clear hst
            obtain ⟨⟨x0_0, x0_1, x0_2⟩, x0_3, x0_4, x0_5⟩ := M6.out.cells
            go_wp2_with fail
            with_reducible refine (Hbt.out _ O6.out.at).mono ?_
            rintro e v7 ⟨rfl, hb7⟩
            clear x0_0 x0_1 x0_2 x0_3 x0_4 x0_5
            have sz7 : v6.heap.size + 1 ≤ v7.heap.size := by have := hb7.size; simpa using this
            replace Acc := Lib.hid (belowTrans Acc.out hb7 (Nat.le_refl _))
            replace O6 := Lib.hid (O6.out.keep hb7)
            replace M6 := Lib.hid (M6.out.keep hb7)
            clear hb7
            obtain ⟨⟨x0_0, x0_1, x0_2⟩, x0_3, x0_4, x0_5⟩ := M6.out.cells
            go_wp2_with fail
            with_reducible refine (Hst.out _ O6.out.at).mono ?_
            rintro e v8 ⟨rfl, hb8⟩
            clear x0_0 x0_1 x0_2 x0_3 x0_4 x0_5
            have sz8 : v7.heap.size ≤ v8.heap.size := by have := hb8.size; simpa using this
            replace Acc := Lib.hid (belowTrans Acc.out hb8 (Nat.le_refl _))
            replace O6 := Lib.hid (O6.out.keep hb8)
            replace M6 := Lib.hid (M6.out.keep hb8)
            clear hb8
            clear Hbt Hst
            clear O6
            clear M6
            go_wp2_with fail
            with_reducible refine (Hf.out _ Acc.out).mono ?_
            rintro e v9 ⟨t, rfl, ht, hb9⟩
            have sz9 : v8.heap.size ≤ v9.heap.size := by have := hb9.size; simpa using this
            replace Acc := Lib.hid (belowTrans Acc.out hb9 (Nat.le_refl _))
            clear hb9
            clear Hf
            have hi := fun W (q : LibOk W) => impl_ParseBank t W (by omega) q
            have hs := fun W => spec_ParseBank t W (by omega)
            have hfact := parseBank_facts t
            cases hq : (mParseBank t).2
            · skip
              simp only [hq] at hi hs
              clear hq hfact
              generalize (mParseBank t).1 = D at *
              obtain ⟨h4, l4, q4⟩ := D
              simp only at hi hs
              have Hi := Lib.hid hi; clear hi
              have Hs := Lib.hid hs; clear hs
              go_wp2_with fail
              with_reducible refine (Hi.out _ (hL.keep Acc.out)).mono ?_
              rintro e v10 ⟨pi, ni, ci, rfl, hoi, hb10⟩
              have sz10 : v9.heap.size ≤ v10.heap.size := by have := hb10.size; simpa using this
              replace Acc := Lib.hid (belowTrans Acc.out hb10 (Nat.le_refl _))
              clear hb10
              have Oi := Lib.hid hoi; clear hoi
              have hba := belowAlloc v10 (.cells #[.int .i64 h4, .int .i64 l4, .slice pi ni ci] 40)
              replace Acc := Lib.hid (belowTrans Acc.out hba (Nat.le_refl _))
              replace Oi := Lib.hid (Oi.out.keep hba)
              have Mi := Lib.hid (Blk.new v10 h4 l4 pi ni ci 40)
              clear hba
              go_wp2_with fail
              with_reducible refine (Hs.out _).mono ?_
              rintro e v11 ⟨ps, ns, cs, rfl, hos, hb11⟩
              have sz11 : v10.heap.size + 1 ≤ v11.heap.size := by have := hb11.size; simpa using this
              replace Acc := Lib.hid (belowTrans Acc.out hb11 (Nat.le_refl _))
              replace Oi := Lib.hid (Oi.out.keep hb11)
              replace Mi := Lib.hid (Mi.out.keep hb11)
              clear hb11
              have Os := Lib.hid hos; clear hos
              have hba := belowAlloc v11 (.cells #[.int .i64 h4, .int .i64 l4, .slice ps ns cs] 40)
              replace Acc := Lib.hid (belowTrans Acc.out hba (Nat.le_refl _))
              replace Oi := Lib.hid (Oi.out.keep hba)
              replace Mi := Lib.hid (Mi.out.keep hba)
              replace Os := Lib.hid (Os.out.keep hba)
              have Ms := Lib.hid (Blk.new v11 h4 l4 ps ns cs 40)
              clear hba
              have hxb := xBank_any (h4) (l4) (h4) (l4) pi ps ni ns ci cs (q4) (q4) _ Oi.out.at Os.out.at
              rw [decide_eq_true rfl] at hxb
              have Hxb := Lib.hid hxb; clear hxb
              obtain ⟨⟨x0_0, x0_1, x0_2⟩, x0_3, x0_4, x0_5⟩ := Mi.out.cells
              obtain ⟨⟨x1_0, x1_1, x1_2⟩, x1_3, x1_4, x1_5⟩ := Ms.out.cells
              go_wp2_with fail
              with_reducible refine (Hxb.out).mono ?_
              rintro e v12 ⟨rfl, hb12⟩
              clear x0_0 x0_1 x0_2 x0_3 x0_4 x0_5
              clear x1_0 x1_1 x1_2 x1_3 x1_4 x1_5
              have sz12 : v11.heap.size + 1 ≤ v12.heap.size := by have := hb12.size; simpa using this
              replace Acc := Lib.hid (belowTrans Acc.out hb12 (Nat.le_refl _))
              replace Oi := Lib.hid (Oi.out.keep hb12)
              replace Mi := Lib.hid (Mi.out.keep hb12)
              replace Os := Lib.hid (Os.out.keep hb12)
              replace Ms := Lib.hid (Ms.out.keep hb12)
              clear hb12
              clear Hxb
              go_wp2
              go_ret
              exact ⟨rfl, Acc.out⟩
            · skip
              simp only [hq] at hi hs
              obtain ⟨hk3, htx⟩ := hfact hq
              clear hq hfact
              generalize (mParseBank t).1 = D at *
              obtain ⟨h4, l4, q4⟩ := D
              simp only at hi hs
              have hbt := fun a n c W (hA : IntsAt W a n c q4) => impl_BankText h4 l4 a n c q4 W hA
              simp only [mBText_yes (bank_iff.2 hk3), htx] at hbt
              clear hk3 htx
              have Hbt := Lib.hid hbt; clear hbt
              have Hi := Lib.hid hi; clear hi
              have Hs := Lib.hid hs; clear hs
              go_wp2_with fail
              with_reducible refine (Hi.out _ (hL.keep Acc.out)).mono ?_
              rintro e v10 ⟨pi, ni, ci, rfl, hoi, hb10⟩
              have sz10 : v9.heap.size ≤ v10.heap.size := by have := hb10.size; simpa using this
              replace Acc := Lib.hid (belowTrans Acc.out hb10 (Nat.le_refl _))
              clear hb10
              have Oi := Lib.hid hoi; clear hoi
              have hba := belowAlloc v10 (.cells #[.int .i64 h4, .int .i64 l4, .slice pi ni ci] 40)
              replace Acc := Lib.hid (belowTrans Acc.out hba (Nat.le_refl _))
              replace Oi := Lib.hid (Oi.out.keep hba)
              have Mi := Lib.hid (Blk.new v10 h4 l4 pi ni ci 40)
              clear hba
              go_wp2_with fail
              with_reducible refine (Hs.out _).mono ?_
              rintro e v11 ⟨ps, ns, cs, rfl, hos, hb11⟩
              have sz11 : v10.heap.size + 1 ≤ v11.heap.size := by have := hb11.size; simpa using this
              replace Acc := Lib.hid (belowTrans Acc.out hb11 (Nat.le_refl _))
              replace Oi := Lib.hid (Oi.out.keep hb11)
              replace Mi := Lib.hid (Mi.out.keep hb11)
              clear hb11
              have Os := Lib.hid hos; clear hos
              have hba := belowAlloc v11 (.cells #[.int .i64 h4, .int .i64 l4, .slice ps ns cs] 40)
              replace Acc := Lib.hid (belowTrans Acc.out hba (Nat.le_refl _))
              replace Oi := Lib.hid (Oi.out.keep hba)
              replace Mi := Lib.hid (Mi.out.keep hba)
              replace Os := Lib.hid (Os.out.keep hba)
              have Ms := Lib.hid (Blk.new v11 h4 l4 ps ns cs 40)
              clear hba
              have hxb := xBank_any (h4) (l4) (h4) (l4) pi ps ni ns ci cs (q4) (q4) _ Oi.out.at Os.out.at
              rw [decide_eq_true rfl] at hxb
              have Hxb := Lib.hid hxb; clear hxb
              obtain ⟨⟨x0_0, x0_1, x0_2⟩, x0_3, x0_4, x0_5⟩ := Mi.out.cells
              obtain ⟨⟨x1_0, x1_1, x1_2⟩, x1_3, x1_4, x1_5⟩ := Ms.out.cells
              go_wp2_with fail
              with_reducible refine (Hxb.out).mono ?_
              rintro e v12 ⟨rfl, hb12⟩
              clear x0_0 x0_1 x0_2 x0_3 x0_4 x0_5
              clear x1_0 x1_1 x1_2 x1_3 x1_4 x1_5
              have sz12 : v11.heap.size + 1 ≤ v12.heap.size := by have := hb12.size; simpa using this
              replace Acc := Lib.hid (belowTrans Acc.out hb12 (Nat.le_refl _))
              replace Oi := Lib.hid (Oi.out.keep hb12)
              replace Mi := Lib.hid (Mi.out.keep hb12)
              replace Os := Lib.hid (Os.out.keep hb12)
              replace Ms := Lib.hid (Ms.out.keep hb12)
              clear hb12
              clear Hxb
              obtain ⟨⟨x0_0, x0_1, x0_2⟩, x0_3, x0_4, x0_5⟩ := Mi.out.cells
              go_wp2_with fail
              with_reducible refine (Hbt.out _ _ _ _ Oi.out.at).mono ?_
              rintro e v13 ⟨rfl, hb13⟩
              clear x0_0 x0_1 x0_2 x0_3 x0_4 x0_5
              have sz13 : v12.heap.size ≤ v13.heap.size := by have := hb13.size; simpa using this
              replace Acc := Lib.hid (belowTrans Acc.out hb13 (Nat.le_refl _))
              replace Oi := Lib.hid (Oi.out.keep hb13)
              replace Mi := Lib.hid (Mi.out.keep hb13)
              replace Os := Lib.hid (Os.out.keep hb13)
              replace Ms := Lib.hid (Ms.out.keep hb13)
              clear hb13
              go_wp2
              go_ret
              exact ⟨by simp, Acc.out⟩
  · skip
    have hbp := fun W hA => impl_BankPasts h l p1 n1 c1 xs W hA
    have hsp := fun W hA => spec_BankPasts h l p1 n1 c1 xs W hA
    have hfa := fun a (q : a ∈ (mBankPasts ⟨h, l, xs⟩).1) => past_facts q
    have hsb := fun W hA => impl_StepBank h l p1 n1 c1 xs W hA
    have m1 : mStepBank ⟨h, l, xs⟩ = (noBk, 0, false) := by unfold mStepBank; rw [if_neg (fun q => hk (bank_iff.1 q))]
    simp only [m1] at hsb
    simp only [mBankPasts_no (b := ⟨h, l, xs⟩) (fun q => hk q.1)] at hbp hsp hfa
    generalize ([] : List Bk) = P at *
    generalize noBk = B2 at *
    obtain ⟨h5, l5, p5⟩ := B2
    simp only at hsb
    clear hk m1
    have Hbp := Lib.hid hbp; clear hbp
    have Hsp := Lib.hid hsp; clear hsp
    have Hfa := Lib.hid hfa; clear hfa
    obtain ⟨⟨x0_0, x0_1, x0_2⟩, x0_3, x0_4, x0_5⟩ := M5.out.cells
    go_wp2_with fail
    with_reducible refine (Hbp.out _ O1.out.at).mono ?_
    rintro e v2 ⟨pa, np, ca, rfl, hop, hb2⟩
    clear x0_0 x0_1 x0_2 x0_3 x0_4 x0_5
    have sz2 : v1.heap.size + 1 ≤ v2.heap.size := by have := hb2.size; simpa using this
    replace Acc := Lib.hid (belowTrans Acc.out hb2 (Nat.le_refl _))
    replace O1 := Lib.hid (O1.out.keep hb2)
    replace M5 := Lib.hid (M5.out.keep hb2)
    clear hb2
    have Op := Lib.hid hop; clear hop
    obtain ⟨⟨x0_0, x0_1, x0_2⟩, x0_3, x0_4, x0_5⟩ := M5.out.cells
    go_wp2_with fail
    with_reducible refine (Hsp.out _ O1.out.at).mono ?_
    rintro e v3 ⟨ps, ns, cs, rfl, hos, hb3⟩
    clear x0_0 x0_1 x0_2 x0_3 x0_4 x0_5
    have sz3 : v2.heap.size ≤ v3.heap.size := by have := hb3.size; simpa using this
    replace Acc := Lib.hid (belowTrans Acc.out hb3 (Nat.le_refl _))
    replace O1 := Lib.hid (O1.out.keep hb3)
    replace M5 := Lib.hid (M5.out.keep hb3)
    replace Op := Lib.hid (Op.out.keep hb3)
    clear hb3
    have Os := Lib.hid hos; clear hos
    obtain rfl : ns = np := by rw [← Os.out.length]; exact Op.out.length
    clear Hbp Hsp
    have hxs := xBanks_any pa ps ns ca cs P _ Op.out.at Os.out.at
    have Hxs := Lib.hid hxs; clear hxs
    go_wp2_with fail
    with_reducible refine (Hxs.out).mono ?_
    rintro e v4 ⟨rfl, hb4⟩
    have sz4 : v3.heap.size ≤ v4.heap.size := by have := hb4.size; simpa using this
    replace Acc := Lib.hid (belowTrans Acc.out hb4 (Nat.le_refl _))
    replace O1 := Lib.hid (O1.out.keep hb4)
    replace M5 := Lib.hid (M5.out.keep hb4)
    replace Op := Lib.hid (Op.out.keep hb4)
    replace Os := Lib.hid (Os.out.keep hb4)
    clear hb4
    clear Hxs
    clear Os
    have hnl := Op.out.at.lenInt
    have hPl := Op.out.length
    obtain ⟨wo, hwo⟩ : ∃ wo : World, wo = v4 := ⟨_, rfl⟩
    subst hwo
    go_wp2_with fail
    go_loopw [63] (fun i wr => ∃ J : Nat, J ≤ ns ∧ i = .int .i64 J ∧ Hid (Below w.heap.size w wr) ∧ Hid (Below wo.heap.size wo wr)) (fun i _ => ns - (intOf i).toNat)
    case atStart => exact ⟨0, Nat.zero_le _, rfl, Acc, Lib.hid (Below.refl _ _)⟩
    case round =>
      obtain ⟨J, hJ, rfl, Hbw, Hbo⟩ := hrel
      by_cases hlt : J < ns
      · skip
        clear Acc
        have Acc := Hbw; clear Hbw
        replace O1 := Lib.hid (O1.out.keep Hbo.out)
        replace M5 := Lib.hid (M5.out.keep Hbo.out)
        replace Op := Lib.hid (Op.out.keep Hbo.out)
        have szr := Hbo.out.size
        have Acc2 := Hbo; clear Hbo
        obtain ⟨b9, o9, rfl, hbl9, hc9⟩ := Op.out.at.cell (by omega)
        obtain ⟨a3, m3, d3, z0, z1, z2, hI3⟩ := hc9 J hlt
        clear hc9
        have hf3 := Hfa.out (P.getD J noBank) (by rw [List.getD_eq_getElem?_getD, List.getElem?_eq_getElem (by omega)]; exact List.getElem_mem _)
        generalize P.getD J noBank = Z at *
        obtain ⟨h3, l3, q3⟩ := Z
        simp only at z0 z1 z2 hI3
        obtain ⟨hk3, hs3⟩ := hf3
        have hsb := fun W (hA : IntsAt W a3 m3 d3 q3) => impl_StepBank h3 l3 a3 m3 d3 q3 W hA
        simp only [mStep_yesB hk3, hs3] at hsb
        clear hk3 hs3
        generalize madeB ⟨h3, l3, q3⟩ = M9 at *
        have hba := belowAlloc wr (.cells #[.int .i64 h3, .int .i64 l3, .slice a3 m3 d3] 40)
        have hI4 := hI3.keep hba
        clear hI3
        replace O1 := Lib.hid (O1.out.keep hba)
        replace M5 := Lib.hid (M5.out.keep hba)
        replace Op := Lib.hid (Op.out.keep hba)
        replace Acc := Lib.hid (belowTrans Acc.out hba (Nat.le_refl _))
        replace Acc2 := Lib.hid (belowTrans Acc2.out hba (Nat.le_refl _))
        clear hba
        have Hsb := Lib.hid hsb; clear hsb
        have HI4 := Lib.hid hI4; clear hI4
        go_wp2_with fail
        with_reducible refine (Hsb.out _ HI4.out).mono ?_
        rintro e v5 ⟨a4, m4, d4, rfl, ho4, hb5⟩
        have sz5 : wr.heap.size + 1 ≤ v5.heap.size := by have := hb5.size; simpa using this
        replace Acc := Lib.hid (belowTrans Acc.out hb5 (Nat.le_refl _))
        replace Acc2 := Lib.hid (belowTrans Acc2.out hb5 (Nat.le_refl _))
        replace O1 := Lib.hid (O1.out.keep hb5)
        replace M5 := Lib.hid (M5.out.keep hb5)
        replace Op := Lib.hid (Op.out.keep hb5)
        clear hb5
        have O4 := Lib.hid ho4; clear ho4
        have hba := belowAlloc v5 (.cells #[.int .i64 h, .int .i64 l, .slice a4 m4 d4] 40)
        replace Acc := Lib.hid (belowTrans Acc.out hba (Nat.le_refl _))
        replace Acc2 := Lib.hid (belowTrans Acc2.out hba (Nat.le_refl _))
        replace O1 := Lib.hid (O1.out.keep hba)
        replace M5 := Lib.hid (M5.out.keep hba)
        replace Op := Lib.hid (Op.out.keep hba)
        replace O4 := Lib.hid (O4.out.keep hba)
        have M4 := Lib.hid (Blk.new v5 h l a4 m4 d4 40)
        clear hba
        clear z0 z1 z2
        have hxb := xBank_any (h) (l) (h) (l) a4 p1 m4 n1 d4 c1 (xs) (xs) _ O4.out.at O1.out.at
        rw [decide_eq_true rfl] at hxb
        have Hxb := Lib.hid hxb; clear hxb
        obtain ⟨⟨x0_0, x0_1, x0_2⟩, x0_3, x0_4, x0_5⟩ := M4.out.cells
        obtain ⟨⟨x1_0, x1_1, x1_2⟩, x1_3, x1_4, x1_5⟩ := M5.out.cells
        go_wp2_with fail
        with_reducible refine (Hxb.out).mono ?_
        rintro e v6 ⟨rfl, hb6⟩
        clear x0_0 x0_1 x0_2 x0_3 x0_4 x0_5
        clear x1_0 x1_1 x1_2 x1_3 x1_4 x1_5
        have sz6 : v5.heap.size + 1 ≤ v6.heap.size := by have := hb6.size; simpa using this
        replace Acc := Lib.hid (belowTrans Acc.out hb6 (Nat.le_refl _))
        replace Acc2 := Lib.hid (belowTrans Acc2.out hb6 (Nat.le_refl _))
        replace O1 := Lib.hid (O1.out.keep hb6)
        replace M5 := Lib.hid (M5.out.keep hb6)
        replace Op := Lib.hid (Op.out.keep hb6)
        replace O4 := Lib.hid (O4.out.keep hb6)
        replace M4 := Lib.hid (M4.out.keep hb6)
        clear hb6
        clear Hxb
        go_wp2
        go_roundw
        case rel => exact ⟨J + 1, by omega, by go_num, Acc, Acc2⟩
        case measure => simp [intOf] <;> omega
      · skip
        clear Acc
        have Acc := Hbw; clear Hbw
        replace O1 := Lib.hid (O1.out.keep Hbo.out)
        replace M5 := Lib.hid (M5.out.keep Hbo.out)
        replace Op := Lib.hid (Op.out.keep Hbo.out)
        have szr := Hbo.out.size
        clear Hbo Hfa
        clear Op
        have Hsb := Lib.hid hsb; clear hsb
        obtain ⟨⟨x0_0, x0_1, x0_2⟩, x0_3, x0_4, x0_5⟩ := M5.out.cells
        go_wp2_with fail
        with_reducible refine (Hsb.out _ O1.out.at).mono ?_
        rintro e v5 ⟨a5, n5, c5, rfl, ho5, hb5⟩
        clear x0_0 x0_1 x0_2 x0_3 x0_4 x0_5
        have sz5 : wr.heap.size ≤ v5.heap.size := by have := hb5.size; simpa using this
        replace Acc := Lib.hid (belowTrans Acc.out hb5 (Nat.le_refl _))
        replace O1 := Lib.hid (O1.out.keep hb5)
        replace M5 := Lib.hid (M5.out.keep hb5)
        clear hb5
        have O5 := Lib.hid ho5; clear ho5
        have hba := belowAlloc v5 (.cells #[.int .i64 h5, .int .i64 l5, .slice a5 n5 c5] 40)
        replace Acc := Lib.hid (belowTrans Acc.out hba (Nat.le_refl _))
        replace O1 := Lib.hid (O1.out.keep hba)
        replace M5 := Lib.hid (M5.out.keep hba)
        replace O5 := Lib.hid (O5.out.keep hba)
        have M15 := Lib.hid (Blk.new v5 h5 l5 a5 n5 c5 40)
        clear hba
        clear Hsb
        clear O5
        clear M15
        clear O1
        clear M5
        go_wp2_with fail
        with_reducible refine (He.out _ Acc.out).mono ?_
        rintro e v6 ⟨h6, l6, p6, n6, c6, zs, rfl, ho6, hn6, hb6⟩
        have sz6 : v5.heap.size + 1 ≤ v6.heap.size := by have := hb6.size; simpa using this
        replace Acc := Lib.hid (belowTrans Acc.out hb6 (Nat.le_refl _))
        clear hb6
        have O6 := Lib.hid ho6; clear ho6
        clear He
        have hba := belowAlloc v6 (.cells #[.int .i64 h6, .int .i64 l6, .slice p6 n6 c6] 40)
        replace Acc := Lib.hid (belowTrans Acc.out hba (Nat.le_refl _))
        replace O6 := Lib.hid (O6.out.keep hba)
        have M6 := Lib.hid (Blk.new v6 h6 l6 p6 n6 c6 40)
        clear hba
        have hbt := fun W hA => impl_BankText h6 l6 p6 n6 c6 zs W hA
        have hst := fun W hA => spec_BankText h6 l6 p6 n6 c6 zs W hA
        by_cases hk6 : BankOk ⟨h6, l6, zs⟩
        · skip
          simp only [mBText_yes (bank_iff.2 hk6)] at hbt hst
          have hpb := fun W (q : LibOk W) => impl_ParseBank ⟨(bankL ⟨h6, l6, zs⟩).toArray⟩ W (by have := bankL_size hk6; omega) q
          simp only [mPB_yes hk6 (s := ⟨(bankL ⟨h6, l6, zs⟩).toArray⟩) rfl] at hpb
          generalize (⟨(bankL ⟨h6, l6, zs⟩).toArray⟩ : ByteArray) = T at *
          clear hk6
          have Hpb := Lib.hid hpb; clear hpb
          have Hbt := Lib.hid hbt; clear hbt
          have Hst := Lib.hid hst; clear hst
          obtain ⟨⟨x0_0, x0_1, x0_2⟩, x0_3, x0_4, x0_5⟩ := M6.out.cells
          go_wp2_with fail
          with_reducible refine (Hbt.out _ O6.out.at).mono ?_
          rintro e v7 ⟨rfl, hb7⟩
          clear x0_0 x0_1 x0_2 x0_3 x0_4 x0_5
          have sz7 : v6.heap.size + 1 ≤ v7.heap.size := by have := hb7.size; simpa using this
          replace Acc := Lib.hid (belowTrans Acc.out hb7 (Nat.le_refl _))
          replace O6 := Lib.hid (O6.out.keep hb7)
          replace M6 := Lib.hid (M6.out.keep hb7)
          clear hb7
          obtain ⟨⟨x0_0, x0_1, x0_2⟩, x0_3, x0_4, x0_5⟩ := M6.out.cells
          go_wp2_with fail
          with_reducible refine (Hst.out _ O6.out.at).mono ?_
          rintro e v8 ⟨rfl, hb8⟩
          clear x0_0 x0_1 x0_2 x0_3 x0_4 x0_5
          have sz8 : v7.heap.size ≤ v8.heap.size := by have := hb8.size; simpa using this
          replace Acc := Lib.hid (belowTrans Acc.out hb8 (Nat.le_refl _))
          replace O6 := Lib.hid (O6.out.keep hb8)
          replace M6 := Lib.hid (M6.out.keep hb8)
          clear hb8
          clear Hbt Hst
          go_wp2_with fail
          with_reducible refine (Hpb.out _ (hL.keep Acc.out)).mono ?_
          rintro e v9 ⟨pk, nk, ck, rfl, hok, hb9⟩
          have sz9 : v8.heap.size ≤ v9.heap.size := by have := hb9.size; simpa using this
          replace Acc := Lib.hid (belowTrans Acc.out hb9 (Nat.le_refl _))
          replace O6 := Lib.hid (O6.out.keep hb9)
          replace M6 := Lib.hid (M6.out.keep hb9)
          clear hb9
          have Ok := Lib.hid hok; clear hok
          have hba := belowAlloc v9 (.cells #[.int .i64 h6, .int .i64 l6, .slice pk nk ck] 40)
          replace Acc := Lib.hid (belowTrans Acc.out hba (Nat.le_refl _))
          replace O6 := Lib.hid (O6.out.keep hba)
          replace M6 := Lib.hid (M6.out.keep hba)
          replace Ok := Lib.hid (Ok.out.keep hba)
          have Mk := Lib.hid (Blk.new v9 h6 l6 pk nk ck 40)
          clear hba
          have hxb := xBank_any (h6) (l6) (h6) (l6) pk p6 nk n6 ck c6 (zs) (zs) _ Ok.out.at O6.out.at
          rw [decide_eq_true rfl] at hxb
          have Hxb := Lib.hid hxb; clear hxb
          obtain ⟨⟨x0_0, x0_1, x0_2⟩, x0_3, x0_4, x0_5⟩ := Mk.out.cells
          obtain ⟨⟨x1_0, x1_1, x1_2⟩, x1_3, x1_4, x1_5⟩ := M6.out.cells
          go_wp2_with fail
          with_reducible refine (Hxb.out).mono ?_
          rintro e v10 ⟨rfl, hb10⟩
          clear x0_0 x0_1 x0_2 x0_3 x0_4 x0_5
          clear x1_0 x1_1 x1_2 x1_3 x1_4 x1_5
          have sz10 : v9.heap.size + 1 ≤ v10.heap.size := by have := hb10.size; simpa using this
          replace Acc := Lib.hid (belowTrans Acc.out hb10 (Nat.le_refl _))
          replace O6 := Lib.hid (O6.out.keep hb10)
          replace M6 := Lib.hid (M6.out.keep hb10)
          replace Ok := Lib.hid (Ok.out.keep hb10)
          replace Mk := Lib.hid (Mk.out.keep hb10)
          clear hb10
          clear Hxb
          clear Ok
          clear Mk
          clear O6
          clear M6
          go_wp2_with fail
          with_reducible refine (Hf.out _ Acc.out).mono ?_
          rintro e v11 ⟨t, rfl, ht, hb11⟩
          have sz11 : v10.heap.size ≤ v11.heap.size := by have := hb11.size; simpa using this
          replace Acc := Lib.hid (belowTrans Acc.out hb11 (Nat.le_refl _))
          clear hb11
          clear Hf
          have hi := fun W (q : LibOk W) => impl_ParseBank t W (by omega) q
          have hs := fun W => spec_ParseBank t W (by omega)
          have hfact := parseBank_facts t
          cases hq : (mParseBank t).2
          · skip
            simp only [hq] at hi hs
            clear hq hfact
            generalize (mParseBank t).1 = D at *
            obtain ⟨h4, l4, q4⟩ := D
            simp only at hi hs
            have Hi := Lib.hid hi; clear hi
            have Hs := Lib.hid hs; clear hs
            go_wp2_with fail
            with_reducible refine (Hi.out _ (hL.keep Acc.out)).mono ?_
            rintro e v12 ⟨pi, ni, ci, rfl, hoi, hb12⟩
            have sz12 : v11.heap.size ≤ v12.heap.size := by have := hb12.size; simpa using this
            replace Acc := Lib.hid (belowTrans Acc.out hb12 (Nat.le_refl _))
            clear hb12
            have Oi := Lib.hid hoi; clear hoi
            have hba := belowAlloc v12 (.cells #[.int .i64 h4, .int .i64 l4, .slice pi ni ci] 40)
            replace Acc := Lib.hid (belowTrans Acc.out hba (Nat.le_refl _))
            replace Oi := Lib.hid (Oi.out.keep hba)
            have Mi := Lib.hid (Blk.new v12 h4 l4 pi ni ci 40)
            clear hba
            go_wp2_with fail
            with_reducible refine (Hs.out _).mono ?_
            rintro e v13 ⟨ps, ns, cs, rfl, hos, hb13⟩
            have sz13 : v12.heap.size + 1 ≤ v13.heap.size := by have := hb13.size; simpa using this
            replace Acc := Lib.hid (belowTrans Acc.out hb13 (Nat.le_refl _))
            replace Oi := Lib.hid (Oi.out.keep hb13)
            replace Mi := Lib.hid (Mi.out.keep hb13)
            clear hb13
            have Os := Lib.hid hos; clear hos
            have hba := belowAlloc v13 (.cells #[.int .i64 h4, .int .i64 l4, .slice ps ns cs] 40)
            replace Acc := Lib.hid (belowTrans Acc.out hba (Nat.le_refl _))
            replace Oi := Lib.hid (Oi.out.keep hba)
            replace Mi := Lib.hid (Mi.out.keep hba)
            replace Os := Lib.hid (Os.out.keep hba)
            have Ms := Lib.hid (Blk.new v13 h4 l4 ps ns cs 40)
            clear hba
            have hxb := xBank_any (h4) (l4) (h4) (l4) pi ps ni ns ci cs (q4) (q4) _ Oi.out.at Os.out.at
            rw [decide_eq_true rfl] at hxb
            have Hxb := Lib.hid hxb; clear hxb
            obtain ⟨⟨x0_0, x0_1, x0_2⟩, x0_3, x0_4, x0_5⟩ := Mi.out.cells
            obtain ⟨⟨x1_0, x1_1, x1_2⟩, x1_3, x1_4, x1_5⟩ := Ms.out.cells
            go_wp2_with fail
            with_reducible refine (Hxb.out).mono ?_
            rintro e v14 ⟨rfl, hb14⟩
            clear x0_0 x0_1 x0_2 x0_3 x0_4 x0_5
            clear x1_0 x1_1 x1_2 x1_3 x1_4 x1_5
            have sz14 : v13.heap.size + 1 ≤ v14.heap.size := by have := hb14.size; simpa using this
            replace Acc := Lib.hid (belowTrans Acc.out hb14 (Nat.le_refl _))
            replace Oi := Lib.hid (Oi.out.keep hb14)
            replace Mi := Lib.hid (Mi.out.keep hb14)
            replace Os := Lib.hid (Os.out.keep hb14)
            replace Ms := Lib.hid (Ms.out.keep hb14)
            clear hb14
            clear Hxb
            go_wp2
            go_ret
            exact ⟨rfl, Acc.out⟩
          · skip
            simp only [hq] at hi hs
            obtain ⟨hk3, htx⟩ := hfact hq
            clear hq hfact
            generalize (mParseBank t).1 = D at *
            obtain ⟨h4, l4, q4⟩ := D
            simp only at hi hs
            have hbt := fun a n c W (hA : IntsAt W a n c q4) => impl_BankText h4 l4 a n c q4 W hA
            simp only [mBText_yes (bank_iff.2 hk3), htx] at hbt
            clear hk3 htx
            have Hbt := Lib.hid hbt; clear hbt
            have Hi := Lib.hid hi; clear hi
            have Hs := Lib.hid hs; clear hs
            go_wp2_with fail
            with_reducible refine (Hi.out _ (hL.keep Acc.out)).mono ?_
            rintro e v12 ⟨pi, ni, ci, rfl, hoi, hb12⟩
            have sz12 : v11.heap.size ≤ v12.heap.size := by have := hb12.size; simpa using this
            replace Acc := Lib.hid (belowTrans Acc.out hb12 (Nat.le_refl _))
            clear hb12
            have Oi := Lib.hid hoi; clear hoi
            have hba := belowAlloc v12 (.cells #[.int .i64 h4, .int .i64 l4, .slice pi ni ci] 40)
            replace Acc := Lib.hid (belowTrans Acc.out hba (Nat.le_refl _))
            replace Oi := Lib.hid (Oi.out.keep hba)
            have Mi := Lib.hid (Blk.new v12 h4 l4 pi ni ci 40)
            clear hba
            go_wp2_with fail
            with_reducible refine (Hs.out _).mono ?_
            rintro e v13 ⟨ps, ns, cs, rfl, hos, hb13⟩
            have sz13 : v12.heap.size + 1 ≤ v13.heap.size := by have := hb13.size; simpa using this
            replace Acc := Lib.hid (belowTrans Acc.out hb13 (Nat.le_refl _))
            replace Oi := Lib.hid (Oi.out.keep hb13)
            replace Mi := Lib.hid (Mi.out.keep hb13)
            clear hb13
            have Os := Lib.hid hos; clear hos
            have hba := belowAlloc v13 (.cells #[.int .i64 h4, .int .i64 l4, .slice ps ns cs] 40)
            replace Acc := Lib.hid (belowTrans Acc.out hba (Nat.le_refl _))
            replace Oi := Lib.hid (Oi.out.keep hba)
            replace Mi := Lib.hid (Mi.out.keep hba)
            replace Os := Lib.hid (Os.out.keep hba)
            have Ms := Lib.hid (Blk.new v13 h4 l4 ps ns cs 40)
            clear hba
            have hxb := xBank_any (h4) (l4) (h4) (l4) pi ps ni ns ci cs (q4) (q4) _ Oi.out.at Os.out.at
            rw [decide_eq_true rfl] at hxb
            have Hxb := Lib.hid hxb; clear hxb
            obtain ⟨⟨x0_0, x0_1, x0_2⟩, x0_3, x0_4, x0_5⟩ := Mi.out.cells
            obtain ⟨⟨x1_0, x1_1, x1_2⟩, x1_3, x1_4, x1_5⟩ := Ms.out.cells
            go_wp2_with fail
            with_reducible refine (Hxb.out).mono ?_
            rintro e v14 ⟨rfl, hb14⟩
            clear x0_0 x0_1 x0_2 x0_3 x0_4 x0_5
            clear x1_0 x1_1 x1_2 x1_3 x1_4 x1_5
            have sz14 : v13.heap.size + 1 ≤ v14.heap.size := by have := hb14.size; simpa using this
            replace Acc := Lib.hid (belowTrans Acc.out hb14 (Nat.le_refl _))
            replace Oi := Lib.hid (Oi.out.keep hb14)
            replace Mi := Lib.hid (Mi.out.keep hb14)
            replace Os := Lib.hid (Os.out.keep hb14)
            replace Ms := Lib.hid (Ms.out.keep hb14)
            clear hb14
            clear Hxb
            obtain ⟨⟨x0_0, x0_1, x0_2⟩, x0_3, x0_4, x0_5⟩ := Mi.out.cells
            go_wp2_with fail
            with_reducible refine (Hbt.out _ _ _ _ Oi.out.at).mono ?_
            rintro e v15 ⟨rfl, hb15⟩
            clear x0_0 x0_1 x0_2 x0_3 x0_4 x0_5
            have sz15 : v14.heap.size ≤ v15.heap.size := by have := hb15.size; simpa using this
            replace Acc := Lib.hid (belowTrans Acc.out hb15 (Nat.le_refl _))
            replace Oi := Lib.hid (Oi.out.keep hb15)
            replace Mi := Lib.hid (Mi.out.keep hb15)
            replace Os := Lib.hid (Os.out.keep hb15)
            replace Ms := Lib.hid (Ms.out.keep hb15)
            clear hb15
            go_wp2
            go_ret
            exact ⟨by simp, Acc.out⟩
        · skip
          simp only [mBText_no (bank_no.2 hk6)] at hbt hst
          clear hk6
          have Hbt := Lib.hid hbt; clear hbt
          have Hst := Lib.hid hst; clear hst
          obtain ⟨⟨x0_0, x0_1, x0_2⟩, x0_3, x0_4, x0_5⟩ := M6.out.cells
          go_wp2_with fail
          with_reducible refine (Hbt.out _ O6.out.at).mono ?_
          rintro e v7 ⟨rfl, hb7⟩
          clear x0_0 x0_1 x0_2 x0_3 x0_4 x0_5
          have sz7 : v6.heap.size + 1 ≤ v7.heap.size := by have := hb7.size; simpa using this
          replace Acc := Lib.hid (belowTrans Acc.out hb7 (Nat.le_refl _))
          replace O6 := Lib.hid (O6.out.keep hb7)
          replace M6 := Lib.hid (M6.out.keep hb7)
          clear hb7
          obtain ⟨⟨x0_0, x0_1, x0_2⟩, x0_3, x0_4, x0_5⟩ := M6.out.cells
          go_wp2_with fail
          with_reducible refine (Hst.out _ O6.out.at).mono ?_
          rintro e v8 ⟨rfl, hb8⟩
          clear x0_0 x0_1 x0_2 x0_3 x0_4 x0_5
          have sz8 : v7.heap.size ≤ v8.heap.size := by have := hb8.size; simpa using this
          replace Acc := Lib.hid (belowTrans Acc.out hb8 (Nat.le_refl _))
          replace O6 := Lib.hid (O6.out.keep hb8)
          replace M6 := Lib.hid (M6.out.keep hb8)
          clear hb8
          clear Hbt Hst
          clear O6
          clear M6
          go_wp2_with fail
          with_reducible refine (Hf.out _ Acc.out).mono ?_
          rintro e v9 ⟨t, rfl, ht, hb9⟩
          have sz9 : v8.heap.size ≤ v9.heap.size := by have := hb9.size; simpa using this
          replace Acc := Lib.hid (belowTrans Acc.out hb9 (Nat.le_refl _))
          clear hb9
          clear Hf
          have hi := fun W (q : LibOk W) => impl_ParseBank t W (by omega) q
          have hs := fun W => spec_ParseBank t W (by omega)
          have hfact := parseBank_facts t
          cases hq : (mParseBank t).2
          · skip
            simp only [hq] at hi hs
            clear hq hfact
            generalize (mParseBank t).1 = D at *
            obtain ⟨h4, l4, q4⟩ := D
            simp only at hi hs
            have Hi := Lib.hid hi; clear hi
            have Hs := Lib.hid hs; clear hs
            go_wp2_with fail
            with_reducible refine (Hi.out _ (hL.keep Acc.out)).mono ?_
            rintro e v10 ⟨pi, ni, ci, rfl, hoi, hb10⟩
            have sz10 : v9.heap.size ≤ v10.heap.size := by have := hb10.size; simpa using this
            replace Acc := Lib.hid (belowTrans Acc.out hb10 (Nat.le_refl _))
            clear hb10
            have Oi := Lib.hid hoi; clear hoi
            have hba := belowAlloc v10 (.cells #[.int .i64 h4, .int .i64 l4, .slice pi ni ci] 40)
            replace Acc := Lib.hid (belowTrans Acc.out hba (Nat.le_refl _))
            replace Oi := Lib.hid (Oi.out.keep hba)
            have Mi := Lib.hid (Blk.new v10 h4 l4 pi ni ci 40)
            clear hba
            go_wp2_with fail
            with_reducible refine (Hs.out _).mono ?_
            rintro e v11 ⟨ps, ns, cs, rfl, hos, hb11⟩
            have sz11 : v10.heap.size + 1 ≤ v11.heap.size := by have := hb11.size; simpa using this
            replace Acc := Lib.hid (belowTrans Acc.out hb11 (Nat.le_refl _))
            replace Oi := Lib.hid (Oi.out.keep hb11)
            replace Mi := Lib.hid (Mi.out.keep hb11)
            clear hb11
            have Os := Lib.hid hos; clear hos
            have hba := belowAlloc v11 (.cells #[.int .i64 h4, .int .i64 l4, .slice ps ns cs] 40)
            replace Acc := Lib.hid (belowTrans Acc.out hba (Nat.le_refl _))
            replace Oi := Lib.hid (Oi.out.keep hba)
            replace Mi := Lib.hid (Mi.out.keep hba)
            replace Os := Lib.hid (Os.out.keep hba)
            have Ms := Lib.hid (Blk.new v11 h4 l4 ps ns cs 40)
            clear hba
            have hxb := xBank_any (h4) (l4) (h4) (l4) pi ps ni ns ci cs (q4) (q4) _ Oi.out.at Os.out.at
            rw [decide_eq_true rfl] at hxb
            have Hxb := Lib.hid hxb; clear hxb
            obtain ⟨⟨x0_0, x0_1, x0_2⟩, x0_3, x0_4, x0_5⟩ := Mi.out.cells
            obtain ⟨⟨x1_0, x1_1, x1_2⟩, x1_3, x1_4, x1_5⟩ := Ms.out.cells
            go_wp2_with fail
            with_reducible refine (Hxb.out).mono ?_
            rintro e v12 ⟨rfl, hb12⟩
            clear x0_0 x0_1 x0_2 x0_3 x0_4 x0_5
            clear x1_0 x1_1 x1_2 x1_3 x1_4 x1_5
            have sz12 : v11.heap.size + 1 ≤ v12.heap.size := by have := hb12.size; simpa using this
            replace Acc := Lib.hid (belowTrans Acc.out hb12 (Nat.le_refl _))
            replace Oi := Lib.hid (Oi.out.keep hb12)
            replace Mi := Lib.hid (Mi.out.keep hb12)
            replace Os := Lib.hid (Os.out.keep hb12)
            replace Ms := Lib.hid (Ms.out.keep hb12)
            clear hb12
            clear Hxb
            go_wp2
            go_ret
            exact ⟨rfl, Acc.out⟩
          · skip
            simp only [hq] at hi hs
            obtain ⟨hk3, htx⟩ := hfact hq
            clear hq hfact
            generalize (mParseBank t).1 = D at *
            obtain ⟨h4, l4, q4⟩ := D
            simp only at hi hs
            have hbt := fun a n c W (hA : IntsAt W a n c q4) => impl_BankText h4 l4 a n c q4 W hA
            simp only [mBText_yes (bank_iff.2 hk3), htx] at hbt
            clear hk3 htx
            have Hbt := Lib.hid hbt; clear hbt
            have Hi := Lib.hid hi; clear hi
            have Hs := Lib.hid hs; clear hs
            go_wp2_with fail
            with_reducible refine (Hi.out _ (hL.keep Acc.out)).mono ?_
            rintro e v10 ⟨pi, ni, ci, rfl, hoi, hb10⟩
            have sz10 : v9.heap.size ≤ v10.heap.size := by have := hb10.size; simpa using this
            replace Acc := Lib.hid (belowTrans Acc.out hb10 (Nat.le_refl _))
            clear hb10
            have Oi := Lib.hid hoi; clear hoi
            have hba := belowAlloc v10 (.cells #[.int .i64 h4, .int .i64 l4, .slice pi ni ci] 40)
            replace Acc := Lib.hid (belowTrans Acc.out hba (Nat.le_refl _))
            replace Oi := Lib.hid (Oi.out.keep hba)
            have Mi := Lib.hid (Blk.new v10 h4 l4 pi ni ci 40)
            clear hba
            go_wp2_with fail
            with_reducible refine (Hs.out _).mono ?_
            rintro e v11 ⟨ps, ns, cs, rfl, hos, hb11⟩
            have sz11 : v10.heap.size + 1 ≤ v11.heap.size := by have := hb11.size; simpa using this
            replace Acc := Lib.hid (belowTrans Acc.out hb11 (Nat.le_refl _))
            replace Oi := Lib.hid (Oi.out.keep hb11)
            replace Mi := Lib.hid (Mi.out.keep hb11)
            clear hb11
            have Os := Lib.hid hos; clear hos
            have hba := belowAlloc v11 (.cells #[.int .i64 h4, .int .i64 l4, .slice ps ns cs] 40)
            replace Acc := Lib.hid (belowTrans Acc.out hba (Nat.le_refl _))
            replace Oi := Lib.hid (Oi.out.keep hba)
            replace Mi := Lib.hid (Mi.out.keep hba)
            replace Os := Lib.hid (Os.out.keep hba)
            have Ms := Lib.hid (Blk.new v11 h4 l4 ps ns cs 40)
            clear hba
            have hxb := xBank_any (h4) (l4) (h4) (l4) pi ps ni ns ci cs (q4) (q4) _ Oi.out.at Os.out.at
            rw [decide_eq_true rfl] at hxb
            have Hxb := Lib.hid hxb; clear hxb
            obtain ⟨⟨x0_0, x0_1, x0_2⟩, x0_3, x0_4, x0_5⟩ := Mi.out.cells
            obtain ⟨⟨x1_0, x1_1, x1_2⟩, x1_3, x1_4, x1_5⟩ := Ms.out.cells
            go_wp2_with fail
            with_reducible refine (Hxb.out).mono ?_
            rintro e v12 ⟨rfl, hb12⟩
            clear x0_0 x0_1 x0_2 x0_3 x0_4 x0_5
            clear x1_0 x1_1 x1_2 x1_3 x1_4 x1_5
            have sz12 : v11.heap.size + 1 ≤ v12.heap.size := by have := hb12.size; simpa using this
            replace Acc := Lib.hid (belowTrans Acc.out hb12 (Nat.le_refl _))
            replace Oi := Lib.hid (Oi.out.keep hb12)
            replace Mi := Lib.hid (Mi.out.keep hb12)
            replace Os := Lib.hid (Os.out.keep hb12)
            replace Ms := Lib.hid (Ms.out.keep hb12)
            clear hb12
            clear Hxb
            obtain ⟨⟨x0_0, x0_1, x0_2⟩, x0_3, x0_4, x0_5⟩ := Mi.out.cells
            go_wp2_with fail
            with_reducible refine (Hbt.out _ _ _ _ Oi.out.at).mono ?_
            rintro e v13 ⟨rfl, hb13⟩
            clear x0_0 x0_1 x0_2 x0_3 x0_4 x0_5
            have sz13 : v12.heap.size ≤ v13.heap.size := by have := hb13.size; simpa using this
            replace Acc := Lib.hid (belowTrans Acc.out hb13 (Nat.le_refl _))
            replace Oi := Lib.hid (Oi.out.keep hb13)
            replace Mi := Lib.hid (Mi.out.keep hb13)
            replace Os := Lib.hid (Os.out.keep hb13)
            replace Ms := Lib.hid (Ms.out.keep hb13)
            clear hb13
            go_wp2
            go_ret
            exact ⟨by simp, Acc.out⟩

/-! ### The row's step -/
set_option maxRecDepth 100000 in
/-- The contract, at a world that is shaped and holds what the row lists. -/
theorem step {H : Type} {enc : TypeId × Value → H} (W : World) (base : Nat) (args : Array Value) (ds gs : List (DataW H)) (before : List MemPlace)
    (hval0 : ∀ (j : Nat) t v, Tryz.f4.params[j]? = some t → args[j]? = some v → Value.okWide Tryz.prog W .any base t v)
    (hW : DataW.Whole enc Tryz.prog Tryz.f4.params.toList Rows.fnBankPastsSpec.vars false W args.toList ds gs before)
    (hL : laidMetH Tryz.prog Rows.fnBankPastsRow.laid W) (hsh : W.ShapedOpen Tryz.prog) :
    Calls Tryz.prog 4 args W fun e W' => ∃ v, e = .returned v ∧ Rows.fnBankPastsSpec.post enc Tryz.prog Tryz.f4 false true false false W args v W' := by
  have hval : ∀ (j : Nat) t v, Tryz.f4.params[j]? = some t → args[j]? = some v → Value.okWide Tryz.prog W .any base t v := hval0
  have hW' := hW
  obtain ⟨p, q, hA0, hV, rfl, hfz, hnd⟩ := hW
  have hA : DataW.TrodAll enc Tryz.prog W 0 (fun _ => true) true Tryz.f4.params.toList args.toList ds p := hA0
  rw [Tryz.params4] at hA hval
  obtain ⟨v0, vs0, d0, ds0, p0, q0, hargs, rfl, rfl, h0, r0⟩ := trodAll_cons hA
  obtain ⟨v1, vs1, d1, ds1, p1, q1, rfl, rfl, rfl, h1, r1⟩ := trodAll_cons r0
  obtain ⟨rfl, rfl, rfl⟩ := trodAll_nil r1
  obtain rfl : args = #[v0, v1] := by cases args; simp_all
  obtain ⟨rfl, rfl⟩ := trodVars_none hV
  obtain ⟨a0, len0, cap0, rfl⟩ := okWide_slice Tryz.underlying22 (hval 0 22 v0 rfl rfl)
  have k0 := h0
  have lt0 : ∀ x ∈ p0, x.block < W.heap.size := by obtain ⟨m, hm⟩ := k0; exact DataW.trod_lt m _ _ _ hm
  obtain ⟨z0, w0⟩ : ∃ zs, IsRow .u8 W a0 len0 cap0 zs := by
    obtain ⟨fuel, hf⟩ := h0
    rcases open_ints Tryz.underlying22 Tryz.underlying5 (by kernel_rfl) hf with ⟨hcs, _⟩ | ⟨x, l, c, zs, hcs, _, hl, hm, hz, _, hcell, hwz⟩
    · simp [Value.cells] at hcs
      obtain ⟨rfl, rfl, rfl⟩ := hcs
      exact ⟨[], .inl ⟨rfl, rfl, rfl, rfl⟩⟩
    · simp [Value.cells] at hcs
      obtain ⟨rfl, rfl, rfl⟩ := hcs
      exact ⟨zs, .inr ⟨_, rfl, hl, hm, by simpa using hz, hcell, hwz⟩⟩
  obtain ⟨a1, len1, cap1, rfl⟩ := okWide_slice Tryz.underlying22 (hval 1 22 v1 rfl rfl)
  have k1 := h1
  have lt1 : ∀ x ∈ p1, x.block < W.heap.size := by obtain ⟨m, hm⟩ := k1; exact DataW.trod_lt m _ _ _ hm
  obtain ⟨z1, w1⟩ : ∃ zs, IsRow .u8 W a1 len1 cap1 zs := by
    obtain ⟨fuel, hf⟩ := h1
    rcases open_ints Tryz.underlying22 Tryz.underlying5 (by kernel_rfl) hf with ⟨hcs, _⟩ | ⟨x, l, c, zs, hcs, _, hl, hm, hz, _, hcell, hwz⟩
    · simp [Value.cells] at hcs
      obtain ⟨rfl, rfl, rfl⟩ := hcs
      exact ⟨[], .inl ⟨rfl, rfl, rfl, rfl⟩⟩
    · simp [Value.cells] at hcs
      obtain ⟨rfl, rfl, rfl⟩ := hcs
      exact ⟨zs, .inr ⟨_, rfl, hl, hm, by simpa using hz, hcell, hwz⟩⟩
  clear hA0 hval0
  refine (walk a0 len0 cap0 z0 a1 len1 cap1 z1 W w0 w1 (libOk_of hL hsh)).mono fun e W' ⟨he, bel⟩ => ?_
  subst he
  exact ⟨_, rfl, _, _, _, [], _, [], hW', trodAll_mk1 (shut_bool Tryz.underlying4 _), (trodAll_cons_mk (Below.trod laidOut (by kernel_rfl) (of_decide_eq_true (by kernel_rfl)) k0 bel lt0) (trodAll_cons_mk (Below.trod laidOut (by kernel_rfl) (of_decide_eq_true (by kernel_rfl)) k1 bel lt1) trodAll_mk0)), rfl, bel.frame _, fun h => by cases h⟩

set_option maxRecDepth 100000 in
theorem met (os : Os) (args : Array Value) : laidMetH Tryz.prog Rows.fnBankPastsRow.laid ((World.laidAll Tryz.prog os Rows.fnBankPastsRow.laid).forCall (fun _ _ => 0) ⟨#[], args, []⟩).memory := by
  rw [MakeChecks.laidMetH_plain _ _ _ (by kernel_rfl)]
  exact laidMet_laidAll _ (by kernel_rfl) (by kernel_rfl)

set_option maxRecDepth 100000 in
theorem lifted (os : Os) (started : os.Started) (H : Type) (enc : TypeId × Value → H) :
    ReturnsInHanded {} Tryz.checked os 4 .any (fun w args => (Rows.fnBankPastsSpec.pre enc Tryz.prog Tryz.f4 [] false w args ∧ laidMetH Tryz.prog Rows.fnBankPastsRow.laid w) ∧ sizedMet enc Tryz.prog Tryz.f4 (OpenSpec.ofChange Rows.fnBankPastsSpec) false w args)
      (Rows.fnBankPastsSpec.post enc Tryz.prog Tryz.f4 false true false false) := by
  refine returnsInHanded_of_calls (C := Tryz.checked) own started (by kernel_rfl)
    (ChangeSpec.witness_shaped (enc := enc) (C := Tryz.checked) (os := os) (X := fun w _ => laidMetH Tryz.prog Rows.fnBankPastsRow.laid w) false (World.laidAll Tryz.prog os Rows.fnBankPastsRow.laid) #[.slice none 0 0, .slice none 0 0] 8 (World.laidAll_os _ _ _)
      (World.shaped_of_ZipB (by kernel_rfl) (by kernel_rfl)) (by kernel_rfl) (by kernel_rfl) (by kernel_rfl) (met os _)) ?_
  intro w tape i _ hsh _ hok hpre _
  obtain ⟨_, _, _, fn', hfn', _, _, _, _, hval⟩ := hok
  have e : fn' = Tryz.f4 := Option.some.inj (hfn'.symm.trans Tryz.func4)
  subst e
  obtain ⟨⟨⟨ds, gs, before, hw, _⟩, hx⟩, _⟩ := hpre
  have hw' := DataW.Whole.of_heap (w' := w.forCall tape i) (by rfl) hw
  refine (step (enc := enc) (w.forCall tape i) w.heap.size i.args ds gs before hval hw' (hx.of_heap (by rfl)) hsh).mono fun e W' ⟨v, he, hp⟩ => ?_
  subst he
  exact ChangeSpec.post_blind hp

theorem closedFacts : joinedFacts Tryz.prog 4 Tryz.f4 Rows.fnBankPastsSpec Rows.fnBankPastsRow = true := by
  unfold joinedFacts
  rw [head_enter, head_lifts, head_make]
  kernel_rfl
theorem closedHere : joinedFacts Tryz.pinned.checked.prog 4 Tryz.f4 Rows.fnBankPastsSpec Rows.fnBankPastsRow = true := by
  rw [progEq]
  exact closedFacts
theorem over : Rows.fnBankPastsRow.holds Tryz.pinned (OpenSpec.ofChange Rows.fnBankPastsSpec) :=
  OpenClaim.holds_of_wide 4 Tryz.f4 rfl rfl rfl rfl rfl rfl rfl ⟨rfl, rfl, rfl, rfl, rfl⟩ rfl rfl rfl rfl rfl (by kernel_rfl) Tryz.func4 closedHere
    (of_decide_eq_true (by kernel_rfl)) (by unfold Func.isWrapper; first | (rw [if_pos (by decide +kernel)]; kernel_rfl) | (rw [if_neg (by decide +kernel)]; exact ⟨rfl, rfl⟩))
    (fun os started H enc _ => lifted os started H enc)

/-- the tied card -/
theorem proved : Rows.FnBankPastsCardSaid :=
  Claim7.holds_tied_plain_at .later [] [.data, .data, .data, .data, .sentinel, .sentinel, .pinned] true (true, "53a09c86195c9674181170a53441fa63100f20b6a1e3eaba0f946b599e989e86") true
    over (fun _ h => by cases h) (by kernel_rfl) (fun _ h => by cases h) fnBankPasts_row_tie rfl ⟨rfl, rfl⟩ (by kernel_rfl) rfl
    (fun f fn hf hfn => by
      obtain rfl : f = 4 := Option.some.inj ((show Tryz.prog.funcNamed "loop.example/g01114/laws.FnBankPasts" = some 4 by kernel_rfl).symm.trans hf) |>.symm
      obtain rfl : fn = Tryz.f4 := (Option.some.inj (Tryz.func4.symm.trans hfn)).symm
      exact ⟨by kernel_rfl, fun j t ht => by
        rw [Tryz.params4] at ht
        have hm : t ∈ [22] := by simpa using Array.mem_of_getElem? ht
        have hall : ([22].all fun u => !Tryz.prog.wantsStandIn u) = true := by kernel_rfl
        exact (show Tryz.prog.wantsStandIn t = false by simpa using List.all_eq_true.1 hall t hm)⟩)
    (by kernel_rfl)
#print axioms proved
end Go.Proofs.YtjaodhjiibdbdaaGreatDoor.fnBankPasts
