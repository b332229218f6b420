/- FnExactStartBank: for every input the law returns true and leaves its arguments as they were. No condition. -/
import Derived.Test.YtmlkgnjenfonfaaRows
import Derived.WalkKit
import Derived.ProofKit
import Derived.OpenShut
import Derived.ShutString
import Derived.ChangeOld
import Derived.Below
import Derived.Test.YtmlkgnjenfonfaaHead
import Derived.Test.YtmlkgnjenfonfaaHelp
import Derived.Test.YtmlkgnjenfonfaaBaS
namespace Go.Proofs.Ytmlkgnjenfonfaa.fnExactStartBank
set_option linter.unusedSimpArgs false
open Go.ChangeShapes Go.WideShapes Go.ChangeAt Go.RowKit
open Go.ChangeMaps (open_string shut_string)
set_option linter.unusedVariables false      -- a walk need not use every 'w<i>' (that an integer argument fits its kind)

theorem own : ownKnob Try.prog.godebug = none := by kernel_rfl

/-! ### THE WALK -/
set_option maxHeartbeats 4000000 in
set_option maxRecDepth 100000 in
theorem walk (a0 : Int) (a1 : Int) (w0 : (Lit.int .i64 a0).wf = true) (w1 : (Lit.int .i64 a1).wf = true) (w : World) :
    Calls Try.prog 5 #[.int .i64 a0, .int .i64 a1] w fun e w' => e = .returned (.bool true) ∧ Below w.heap.size w w' := by
  have hs : ∀ W, Calls Try.prog 21 #[.int .i64 a0, .int .i64 a1] W fun e w' => ∃ ao0 n0 c0, e = .returned (.tuple #[.agg #[.int .i64 (mStartBank a0 a1).1.h, .int .i64 (mStartBank a0 a1).1.l, .slice ao0 n0 c0], .bool (mStartBank a0 a1).2]) ∧ Own W.heap.size w'.heap.size w' ao0 n0 c0 (mStartBank a0 a1).1.p ∧ Below W.heap.size W w' := fun W => spec_StartBank a0 a1 W
  have hi : ∀ W, Calls Try.prog 22 #[.int .i64 a0, .int .i64 a1] W fun e w' => ∃ ao0 n0 c0, e = .returned (.tuple #[.agg #[.int .i64 (mStartBank a0 a1).1.h, .int .i64 (mStartBank a0 a1).1.l, .slice ao0 n0 c0], .bool (mStartBank a0 a1).2]) ∧ Own W.heap.size w'.heap.size w' ao0 n0 c0 (mStartBank a0 a1).1.p ∧ Below W.heap.size W w' := fun W => impl_StartBank a0 a1 W
  have hbd := mStartBank_bound a0 a1
  generalize (mStartBank a0 a1).1 = q0 at hs hi hbd
  obtain ⟨qh0, ql0, r0⟩ := q0
  simp only at hs hi hbd
  generalize (mStartBank a0 a1).2 = r1 at hs hi
  have hrr1 : (r1 != r1) = false := by simp
  have Hs := Lib.hid hs; clear hs
  have Hi := Lib.hid hi; clear hi
  have Acc := Lib.hid (Below.refl w.heap.size w)
  go_enter Try.func5, Try.ntmps5
  go_wp2_with fail
  with_reducible refine (Hs.out _).mono ?_
  rintro e v1 ⟨p1_0, n1_0, c1_0, rfl, ho1_0, hb1⟩
  have sz1 : w.heap.size ≤ v1.heap.size := by have := hb1.size; simpa using this
  replace Acc := Lib.hid (belowTrans Acc.out hb1 (Nat.le_refl _))
  have Ow0 := Lib.hid ho1_0; clear ho1_0
  clear hb1
  have hnw0 : n1_0 ≤ 1048576 := by have := Ow0.out.length; omega
  have hbnw0 := belowAlloc v1 (.cells #[.int .i64 qh0, .int .i64 ql0, .slice p1_0 n1_0 c1_0] 27)
  replace Acc := Lib.hid (belowTrans Acc.out hbnw0 (Nat.le_refl _))
  replace Ow0 := Lib.hid (Ow0.out.keep hbnw0)
  have Mw0 := Lib.hid (Blk.new v1 qh0 ql0 p1_0 n1_0 c1_0 27)
  clear hbnw0
  go_wp2_with fail
  with_reducible refine (Hi.out _).mono ?_
  rintro e v2 ⟨p2_0, n2_0, c2_0, rfl, ho2_0, hb2⟩
  have sz2 : v1.heap.size + 1 ≤ v2.heap.size := by have := hb2.size; simpa using this
  replace Acc := Lib.hid (belowTrans Acc.out hb2 (Nat.le_refl _))
  replace Ow0 := Lib.hid (Ow0.out.keep hb2)
  replace Mw0 := Lib.hid (Mw0.out.keep hb2)
  replace ho2_0 := ho2_0.mono (show v1.heap.size + 1 ≤ (v1.alloc (.cells #[.int .i64 qh0, .int .i64 ql0, .slice p1_0 n1_0 c1_0] 27)).heap.size by simp) (Nat.le_refl _)
  have Og0 := Lib.hid ho2_0; clear ho2_0
  clear hb2
  have hng0 : n2_0 ≤ 1048576 := by have := Og0.out.length; omega
  have hbng0 := belowAlloc v2 (.cells #[.int .i64 qh0, .int .i64 ql0, .slice p2_0 n2_0 c2_0] 27)
  replace Acc := Lib.hid (belowTrans Acc.out hbng0 (Nat.le_refl _))
  replace Ow0 := Lib.hid (Ow0.out.keep hbng0)
  replace Og0 := Lib.hid (Og0.out.keep hbng0)
  replace Mw0 := Lib.hid (Mw0.out.keep hbng0)
  have Mg0 := Lib.hid (Blk.new v2 qh0 ql0 p2_0 n2_0 c2_0 27)
  clear hbng0
  obtain ⟨⟨x0, x1, x2⟩, x3, x4, x5⟩ := Mg0.out.cells
  obtain ⟨⟨y0, y1, y2⟩, y3, y4, y5⟩ := Mw0.out.cells
  go_wp2_with fail
  with_reducible refine (eqBankL qh0 ql0 qh0 ql0 p2_0 p1_0 n2_0 n1_0 c2_0 c1_0 r0 r0 _ Og0.out.at Ow0.out.at ⟨rfl, rfl, rfl⟩).mono ?_
  rintro e v3 ⟨rfl, hb3⟩
  clear x0 x1 x2 x3 x4 x5 y0 y1 y2 y3 y4 y5
  have sz3 : v2.heap.size + 1 ≤ v3.heap.size := by have := hb3.size; simpa using this
  replace Acc := Lib.hid (belowTrans Acc.out hb3 (Nat.le_refl _))
  replace Ow0 := Lib.hid (Ow0.out.keep hb3)
  replace Og0 := Lib.hid (Og0.out.keep hb3)
  replace Mw0 := Lib.hid (Mw0.out.keep hb3)
  replace Mg0 := Lib.hid (Mg0.out.keep hb3)
  clear hb3
  obtain ⟨⟨x0, x1, x2⟩, x3, x4, x5⟩ := Mg0.out.cells
  go_wp2_with fail
  with_reducible refine (markBankL _ _ qh0 ql0 p2_0 n2_0 c2_0 r0 1 _ Og0.out (by omega) (by omega) (by omega)).mono ?_
  rintro e v4 ⟨rfl, hm4, hb4⟩
  clear x0 x1 x2 x3 x4 x5
  have sz4 : v3.heap.size ≤ v4.heap.size := by have := hb4.size; simpa using this
  replace Acc := Lib.hid (Acc.out.trans (hb4.belowRg (by omega) (by omega)))
  replace Ow0 := Lib.hid (Ow0.out.rg hb4 (by omega))
  replace Mw0 := Lib.hid (Mw0.out.rg hb4 (by omega))
  replace Mg0 := Lib.hid (Mg0.out.rg hb4 (by omega))
  replace Og0 := Lib.hid hm4; clear hm4
  clear hb4
  obtain ⟨⟨x0, x1, x2⟩, x3, x4, x5⟩ := Mg0.out.cells
  go_wp2_with fail
  with_reducible refine (heldBankL qh0 ql0 p2_0 n2_0 c2_0 1 _ Og0.out.at (by omega) (by omega) (by omega)).mono ?_
  rintro e v5 ⟨rfl, hb5⟩
  clear x0 x1 x2 x3 x4 x5
  have sz5 : v4.heap.size ≤ v5.heap.size := by have := hb5.size; simpa using this
  replace Acc := Lib.hid (belowTrans Acc.out hb5 (Nat.le_refl _))
  replace Ow0 := Lib.hid (Ow0.out.keep hb5)
  replace Og0 := Lib.hid (Og0.out.keep hb5)
  replace Mw0 := Lib.hid (Mw0.out.keep hb5)
  replace Mg0 := Lib.hid (Mg0.out.keep hb5)
  clear hb5
  go_wp2_with fail
  with_reducible refine (Hi.out _).mono ?_
  rintro e v6 ⟨p6_0, n6_0, c6_0, rfl, ho6_0, hb6⟩
  have sz6 : v5.heap.size ≤ v6.heap.size := by have := hb6.size; simpa using this
  replace Acc := Lib.hid (belowTrans Acc.out hb6 (Nat.le_refl _))
  replace Ow0 := Lib.hid (Ow0.out.keep hb6)
  replace Og0 := Lib.hid (Og0.out.keep hb6)
  replace Mw0 := Lib.hid (Mw0.out.keep hb6)
  replace Mg0 := Lib.hid (Mg0.out.keep hb6)
  have Oh0 := Lib.hid ho6_0; clear ho6_0
  clear hb6
  have hnh0 : n6_0 ≤ 1048576 := by have := Oh0.out.length; omega
  have hbnh0 := belowAlloc v6 (.cells #[.int .i64 qh0, .int .i64 ql0, .slice p6_0 n6_0 c6_0] 27)
  replace Acc := Lib.hid (belowTrans Acc.out hbnh0 (Nat.le_refl _))
  replace Ow0 := Lib.hid (Ow0.out.keep hbnh0)
  replace Og0 := Lib.hid (Og0.out.keep hbnh0)
  replace Oh0 := Lib.hid (Oh0.out.keep hbnh0)
  replace Mw0 := Lib.hid (Mw0.out.keep hbnh0)
  replace Mg0 := Lib.hid (Mg0.out.keep hbnh0)
  have Mh0 := Lib.hid (Blk.new v6 qh0 ql0 p6_0 n6_0 c6_0 27)
  clear hbnh0
  obtain ⟨⟨x0, x1, x2⟩, x3, x4, x5⟩ := Mh0.out.cells
  obtain ⟨⟨y0, y1, y2⟩, y3, y4, y5⟩ := Mw0.out.cells
  go_wp2_with fail
  with_reducible refine (eqBankL qh0 ql0 qh0 ql0 p6_0 p1_0 n6_0 n1_0 c6_0 c1_0 r0 r0 _ Oh0.out.at Ow0.out.at ⟨rfl, rfl, rfl⟩).mono ?_
  rintro e v7 ⟨rfl, hb7⟩
  clear x0 x1 x2 x3 x4 x5 y0 y1 y2 y3 y4 y5
  have sz7 : v6.heap.size + 1 ≤ v7.heap.size := by have := hb7.size; simpa using this
  replace Acc := Lib.hid (belowTrans Acc.out hb7 (Nat.le_refl _))
  replace Ow0 := Lib.hid (Ow0.out.keep hb7)
  replace Og0 := Lib.hid (Og0.out.keep hb7)
  replace Oh0 := Lib.hid (Oh0.out.keep hb7)
  replace Mw0 := Lib.hid (Mw0.out.keep hb7)
  replace Mg0 := Lib.hid (Mg0.out.keep hb7)
  replace Mh0 := Lib.hid (Mh0.out.keep hb7)
  clear hb7
  obtain ⟨⟨x0, x1, x2⟩, x3, x4, x5⟩ := Mg0.out.cells
  go_wp2_with fail
  with_reducible refine (heldBankL qh0 ql0 p2_0 n2_0 c2_0 1 _ Og0.out.at (by omega) (by omega) (by omega)).mono ?_
  rintro e v8 ⟨rfl, hb8⟩
  clear x0 x1 x2 x3 x4 x5
  have sz8 : v7.heap.size ≤ v8.heap.size := by have := hb8.size; simpa using this
  replace Acc := Lib.hid (belowTrans Acc.out hb8 (Nat.le_refl _))
  replace Ow0 := Lib.hid (Ow0.out.keep hb8)
  replace Og0 := Lib.hid (Og0.out.keep hb8)
  replace Oh0 := Lib.hid (Oh0.out.keep hb8)
  replace Mw0 := Lib.hid (Mw0.out.keep hb8)
  replace Mg0 := Lib.hid (Mg0.out.keep hb8)
  replace Mh0 := Lib.hid (Mh0.out.keep hb8)
  clear hb8
  go_wp2_with fail
  go_ret
  exact ⟨rfl, Acc.out⟩
  -- go_enter Try.func5, Try.ntmps5

/-! ### THE ROW's STEP: WRITTEN OUT: LEAVE IT -/
set_option maxRecDepth 100000 in
theorem lifted (os : Os) (started : os.Started) (H : Type) (enc : TypeId × Value → H) :
    ReturnsInHanded {} Try.checked os 5 .any (Rows.fnExactStartBankSpec.pre6 enc Try.prog Try.f5 Rows.fnExactStartBankRow.domain false) (Rows.fnExactStartBankSpec.post enc Try.prog Try.f5 false true false false) := by
  refine returnsInHanded_of_change (C := Try.checked) own started (by kernel_rfl) Try.func5
    (ChangeSpec.witness6 (enc := enc) (C := Try.checked) false ⟨#[], #[.int .i64 0, .int .i64 0], []⟩ 8 (by kernel_rfl) (by kernel_rfl) (by kernel_rfl) (by kernel_rfl)) ?_
  intro W base args ds gs before hval0 hW hcnd _
  have hval : ∀ (j : Nat) t v, Try.f5.params[j]? = some t → args[j]? = some v → Value.okWide Try.prog W .any base t v := hval0
  have hW' := hW
  obtain ⟨p, q, hA0, hV, rfl, hfz, hnd⟩ := hW
  have hA : DataW.TrodAll enc Try.prog W 0 (fun _ => true) true Try.f5.params.toList args.toList ds p := hA0
  rw [Try.params5] at hA hval
  obtain ⟨v0, vs0, d0, ds0, p0, q0, hargs, rfl, rfl, h0, r0⟩ := trodAll_cons hA
  obtain ⟨v1, vs1, d1, ds1, p1, q1, rfl, rfl, rfl, h1, r1⟩ := trodAll_cons r0
  obtain ⟨rfl, rfl, rfl⟩ := trodAll_nil r1
  obtain rfl : args = #[v0, v1] := by cases args; simp_all
  obtain ⟨rfl, rfl⟩ := trodVars_none hV
  obtain ⟨a0, rfl, rfl, rfl, w0⟩ := open_int Try.underlying3 (hval 0 3 v0 rfl rfl) h0
  obtain ⟨a1, rfl, rfl, rfl, w1⟩ := open_int Try.underlying3 (hval 1 3 v1 rfl rfl) h1
  clear hA0 hval0
  refine (walk a0 a1 w0 w1 W).mono fun e W' ⟨he, hg⟩ => ?_
  subst he
  exact ⟨_, rfl, _, _, _, [], _, [], hW', trodAll_mk1 (shut_bool Try.underlying4 _), (trodAll_cons_mk (shut_int Try.underlying3 w0) (trodAll_cons_mk (shut_int Try.underlying3 w1) trodAll_mk0)), rfl, hg.frame _, fun h => by cases h⟩

theorem closedFacts : joinedFacts Try.prog 5 Try.f5 Rows.fnExactStartBankSpec Rows.fnExactStartBankRow = true := by
  unfold joinedFacts
  rw [head_enter, head_lifts, head_make]
  kernel_rfl
theorem closedHere : joinedFacts Try.pinned.checked.prog 5 Try.f5 Rows.fnExactStartBankSpec Rows.fnExactStartBankRow = true := by
  rw [progEq]
  exact closedFacts
theorem over : Rows.fnExactStartBankRow.holds Try.pinned (OpenSpec.ofChange Rows.fnExactStartBankSpec) :=
  OpenClaim.holds_of_wide 5 Try.f5 rfl rfl rfl rfl rfl rfl rfl ⟨rfl, rfl, rfl, rfl, rfl⟩ rfl rfl rfl rfl rfl (by kernel_rfl) Try.func5 closedHere
    (of_decide_eq_true (by kernel_rfl)) (by unfold Func.isWrapper; first | (rw [if_pos (by decide +kernel)]; kernel_rfl) | (rw [if_neg (by decide +kernel)]; exact ⟨rfl, rfl⟩))
    (fun os started H enc _ => lifted os started H enc)

/-- ████ THE STATEMENT ████ -/
theorem proved : Rows.FnExactStartBankSaid :=
  over
#print axioms proved
end Go.Proofs.Ytmlkgnjenfonfaa.fnExactStartBank
