/- FnExactFromAges: for every input the law returns true and leaves its arguments as they were. No condition. -/
import Derived.Test.YtbneibpakopllaaRows
import Derived.WalkKit
import Derived.ProofKit
import Derived.OpenShut
import Derived.ShutString
import Derived.ChangeOld
import Derived.Below
import Derived.Test.YtbneibpakopllaaHead
import Derived.Test.YtbneibpakopllaaHelp
import Derived.Test.YtbneibpakopllaaBaU
namespace Go.Proofs.Ytbneibpakopllaa.fnExactFromAges
set_option linter.unusedSimpArgs false
open Go.ChangeShapes Go.WideShapes Go.ChangeAt Go.RowKit
open Go.ChangeMaps (open_string shut_string)
set_option linter.unusedVariables false

theorem own : ownKnob Try.prog.godebug = none := by kernel_rfl
theorem laidOut : laidOutB Try.prog = true := by kernel_rfl

/-- WHAT THE WALK IS TOLD OF A SLICE OF INTEGERS THAT CAME IN: it is nil; or it leads to a row of 'cap' cells, the numbers 'zs' (the first 'len' are its elements, the rest its spare room), each fitting its kind. -/
def IsRow (k : IntKind) (w : World) (a : Option Addr) (len cap : Nat) (zs : List Int) : Prop :=
  (a = none ∧ len = 0 ∧ cap = 0 ∧ zs = []) ∨
  ∃ x, a = some x ∧ len ≤ cap ∧ cap ≤ maxLen ∧ zs.length = cap ∧ (∀ i, i < zs.length → w.cell? (x.add i) = some (.int k (zs.getD i 0))) ∧ ∀ n ∈ zs, (Lit.int k n).wf = true

/-! ### THE WALK: the Go text returns true, AND WRITES NOTHING THAT WAS THERE: 'Below w.heap.size w w'' (Derived/Below.lean: '.refl', '.alloc', '.drew', '.setCell' at a new block, '.trans'). Open each 'IsRow' by 'rcases' AHEAD of 'go_enter'; part every test ahead of the walk. -/
set_option maxHeartbeats 4000000 in
set_option maxRecDepth 100000 in
theorem walk (a0 : Int) (a1 : Int) (a2 : Option Addr) (len2 cap2 : Nat) (z2 : List Int) (w : World) (w0 : (Lit.int .i64 a0).wf = true) (w1 : (Lit.int .i64 a1).wf = true) (w2 : IsRow .i64 w a2 len2 cap2 z2) :
    Calls Try.prog 3 #[.int .i64 a0, .int .i64 a1, .slice a2 len2 cap2] w fun e w' => e = .returned (.bool true) ∧ Below w.heap.size w w' := by
  have hA2 := intsAt_row w2
  generalize z2.take len2 = xs2 at hA2
  clear w2
  by_cases hbig2 : 1048576 < len2
  · go_enter Try.func3, Try.ntmps3
    go_wp2
    go_ret
    exact ⟨rfl, Below.refl _ _⟩
  have hle : len2 ≤ 1048576 := by omega
  clear hbig2
  have hs : ∀ ao n cap W, IntsAt W ao n cap xs2 → Calls Try.prog 12 #[.int .i64 a0, .int .i64 a1, .slice ao n cap] W fun e w' => ∃ ao0 n0 c0, e = .returned (.tuple #[.agg #[.int .i64 (mFromAges a0 a1 xs2).1.h, .int .i64 (mFromAges a0 a1 xs2).1.l, .slice ao0 n0 c0], .bool (mFromAges a0 a1 xs2).2]) ∧ Own W.heap.size w'.heap.size w' ao0 n0 c0 (mFromAges a0 a1 xs2).1.p ∧ Below W.heap.size W w' := fun ao n cap W h => spec_FromAges a0 a1 ao n cap xs2 W h
  have hi : ∀ ao n cap W, IntsAt W ao n cap xs2 → Calls Try.prog 14 #[.int .i64 a0, .int .i64 a1, .slice ao n cap] W fun e w' => ∃ ao0 n0 c0, e = .returned (.tuple #[.agg #[.int .i64 (mFromAges a0 a1 xs2).1.h, .int .i64 (mFromAges a0 a1 xs2).1.l, .slice ao0 n0 c0], .bool (mFromAges a0 a1 xs2).2]) ∧ Own W.heap.size w'.heap.size w' ao0 n0 c0 (mFromAges a0 a1 xs2).1.p ∧ Below W.heap.size W w' := fun ao n cap W h => impl_FromAges a0 a1 ao n cap xs2 W h
  have hbd := mFromAges_bound a0 a1 xs2
  generalize (mFromAges a0 a1 xs2).1 = q0 at hs hi hbd
  obtain ⟨qh0, ql0, r0⟩ := q0
  simp only at hs hi hbd
  generalize (mFromAges a0 a1 xs2).2 = r1 at hs hi
  have hrr1 : (r1 != r1) = false := by simp
  have Hs := Lib.hid hs; clear hs
  have Hi := Lib.hid hi; clear hi
  have Acc := Lib.hid (Below.refl w.heap.size w)
  have HA2 := Lib.hid hA2; clear hA2
  go_enter Try.func3, Try.ntmps3
  go_wp2_with fail
  with_reducible refine (toIntS_any a2 len2 cap2 xs2 _ (HA2.out.keep Acc.out) (by omega)).mono ?_
  rintro e v1 ⟨p1, c1, rfl, ho1, hb1⟩
  have sz1 : w.heap.size ≤ v1.heap.size := by have := hb1.size; simpa using this
  replace Acc := Lib.hid (belowTrans Acc.out hb1 (Nat.le_refl _))
  have Ot1 := Lib.hid ho1; clear ho1
  clear hb1
  go_wp2_with fail
  with_reducible refine (Hs.out _ _ _ _ Ot1.out.at).mono ?_
  rintro e v2 ⟨p2_0, n2_0, c2_0, rfl, ho2_0, hb2⟩
  have sz2 : v1.heap.size ≤ v2.heap.size := by have := hb2.size; simpa using this
  replace Acc := Lib.hid (belowTrans Acc.out hb2 (Nat.le_refl _))
  replace Ot1 := Lib.hid (Ot1.out.keep hb2)
  have Ow0 := Lib.hid ho2_0; clear ho2_0
  clear hb2
  have hnw0 : n2_0 ≤ 1048576 := by have := Ow0.out.length; omega
  have hbnw0 := belowAlloc v2 (.cells #[.int .i64 qh0, .int .i64 ql0, .slice p2_0 n2_0 c2_0] 24)
  replace Acc := Lib.hid (belowTrans Acc.out hbnw0 (Nat.le_refl _))
  replace Ot1 := Lib.hid (Ot1.out.keep hbnw0)
  replace Ow0 := Lib.hid (Ow0.out.keep hbnw0)
  have Mw0 := Lib.hid (Blk.new v2 qh0 ql0 p2_0 n2_0 c2_0 24)
  clear hbnw0
  clear Ot1
  go_wp2_with fail
  with_reducible refine (toIntS_any a2 len2 cap2 xs2 _ (HA2.out.keep Acc.out) (by omega)).mono ?_
  rintro e v3 ⟨p3, c3, rfl, ho3, hb3⟩
  have sz3 : v2.heap.size + 1 ≤ v3.heap.size := by have := hb3.size; simpa using this
  replace Acc := Lib.hid (belowTrans Acc.out hb3 (Nat.le_refl _))
  replace Ow0 := Lib.hid (Ow0.out.keep hb3)
  replace Mw0 := Lib.hid (Mw0.out.keep hb3)
  replace ho3 := ho3.mono (show v2.heap.size + 1 ≤ (v2.alloc (.cells #[.int .i64 qh0, .int .i64 ql0, .slice p2_0 n2_0 c2_0] 24)).heap.size by simp) (Nat.le_refl _)
  have Ox2 := Lib.hid ho3; clear ho3
  clear hb3
  go_wp2_with fail
  with_reducible refine (Hi.out _ _ _ _ Ox2.out.at).mono ?_
  rintro e v4 ⟨p4_0, n4_0, c4_0, rfl, ho4_0, hb4⟩
  have sz4 : v3.heap.size ≤ v4.heap.size := by have := hb4.size; simpa using this
  replace Acc := Lib.hid (belowTrans Acc.out hb4 (Nat.le_refl _))
  replace Ow0 := Lib.hid (Ow0.out.keep hb4)
  replace Ox2 := Lib.hid (Ox2.out.keep hb4)
  replace Mw0 := Lib.hid (Mw0.out.keep hb4)
  have Og0 := Lib.hid ho4_0; clear ho4_0
  clear hb4
  have hng0 : n4_0 ≤ 1048576 := by have := Og0.out.length; omega
  have hbng0 := belowAlloc v4 (.cells #[.int .i64 qh0, .int .i64 ql0, .slice p4_0 n4_0 c4_0] 24)
  replace Acc := Lib.hid (belowTrans Acc.out hbng0 (Nat.le_refl _))
  replace Ow0 := Lib.hid (Ow0.out.keep hbng0)
  replace Ox2 := Lib.hid (Ox2.out.keep hbng0)
  replace Og0 := Lib.hid (Og0.out.keep hbng0)
  replace Mw0 := Lib.hid (Mw0.out.keep hbng0)
  have Mg0 := Lib.hid (Blk.new v4 qh0 ql0 p4_0 n4_0 c4_0 24)
  clear hbng0
  obtain ⟨⟨x0, x1, x2⟩, x3, x4, x5⟩ := Mg0.out.cells
  obtain ⟨⟨y0, y1, y2⟩, y3, y4, y5⟩ := Mw0.out.cells
  go_wp2_with fail
  with_reducible refine (eqBankL qh0 ql0 qh0 ql0 p4_0 p2_0 n4_0 n2_0 c4_0 c2_0 r0 r0 _ Og0.out.at Ow0.out.at ⟨rfl, rfl, rfl⟩).mono ?_
  rintro e v5 ⟨rfl, hb5⟩
  clear x0 x1 x2 x3 x4 x5 y0 y1 y2 y3 y4 y5
  have sz5 : v4.heap.size + 1 ≤ v5.heap.size := by have := hb5.size; simpa using this
  replace Acc := Lib.hid (belowTrans Acc.out hb5 (Nat.le_refl _))
  replace Ow0 := Lib.hid (Ow0.out.keep hb5)
  replace Ox2 := Lib.hid (Ox2.out.keep hb5)
  replace Og0 := Lib.hid (Og0.out.keep hb5)
  replace Mw0 := Lib.hid (Mw0.out.keep hb5)
  replace Mg0 := Lib.hid (Mg0.out.keep hb5)
  clear hb5
  go_wp2_with fail
  with_reducible refine (toIntS_any a2 len2 cap2 xs2 _ (HA2.out.keep Acc.out) (by omega)).mono ?_
  rintro e v6 ⟨p6, c6, rfl, ho6, hb6⟩
  have sz6 : v5.heap.size ≤ v6.heap.size := by have := hb6.size; simpa using this
  replace Acc := Lib.hid (belowTrans Acc.out hb6 (Nat.le_refl _))
  replace Ow0 := Lib.hid (Ow0.out.keep hb6)
  replace Ox2 := Lib.hid (Ox2.out.keep hb6)
  replace Og0 := Lib.hid (Og0.out.keep hb6)
  replace Mw0 := Lib.hid (Mw0.out.keep hb6)
  replace Mg0 := Lib.hid (Mg0.out.keep hb6)
  have Ot6 := Lib.hid ho6; clear ho6
  clear hb6
  go_wp2_with fail
  with_reducible refine (eqIntS_any p3 p6 len2 len2 c3 c6 xs2 xs2 _ Ox2.out.at Ot6.out.at).mono ?_
  rintro e v7 ⟨rfl, hb7⟩
  rw [decide_eq_true rfl]
  have sz7 : v6.heap.size ≤ v7.heap.size := by have := hb7.size; simpa using this
  replace Acc := Lib.hid (belowTrans Acc.out hb7 (Nat.le_refl _))
  replace Ow0 := Lib.hid (Ow0.out.keep hb7)
  replace Ox2 := Lib.hid (Ox2.out.keep hb7)
  replace Og0 := Lib.hid (Og0.out.keep hb7)
  replace Ot6 := Lib.hid (Ot6.out.keep hb7)
  replace Mw0 := Lib.hid (Mw0.out.keep hb7)
  replace Mg0 := Lib.hid (Mg0.out.keep hb7)
  clear hb7
  clear Ot6
  go_wp2_with fail
  with_reducible refine (markIntS_any (v2.heap.size + 1) _ p3 len2 c3 xs2 1 _ Ox2.out (by omega) (by omega) (by omega)).mono ?_
  rintro e v8 ⟨rfl, hm8, hb8⟩
  have sz8 : v7.heap.size ≤ v8.heap.size := by have := hb8.size; simpa using this
  replace Acc := Lib.hid (Acc.out.trans (hb8.belowRg (by omega) (by omega)))
  replace Ow0 := Lib.hid (Ow0.out.rg hb8 (by omega))
  replace Og0 := Lib.hid (Og0.out.rg hb8 (by omega))
  replace Mw0 := Lib.hid (Mw0.out.rg hb8 (by omega))
  replace Mg0 := Lib.hid (Mg0.out.rg hb8 (by omega))
  replace Ox2 := Lib.hid hm8; clear hm8
  clear hb8
  obtain ⟨⟨x0, x1, x2⟩, x3, x4, x5⟩ := Mg0.out.cells
  obtain ⟨⟨y0, y1, y2⟩, y3, y4, y5⟩ := Mw0.out.cells
  go_wp2_with fail
  with_reducible refine (eqBankL qh0 ql0 qh0 ql0 p4_0 p2_0 n4_0 n2_0 c4_0 c2_0 r0 r0 _ Og0.out.at Ow0.out.at ⟨rfl, rfl, rfl⟩).mono ?_
  rintro e v9 ⟨rfl, hb9⟩
  clear x0 x1 x2 x3 x4 x5 y0 y1 y2 y3 y4 y5
  have sz9 : v8.heap.size ≤ v9.heap.size := by have := hb9.size; simpa using this
  replace Acc := Lib.hid (belowTrans Acc.out hb9 (Nat.le_refl _))
  replace Ow0 := Lib.hid (Ow0.out.keep hb9)
  replace Ox2 := Lib.hid (Ox2.out.keep hb9)
  replace Og0 := Lib.hid (Og0.out.keep hb9)
  replace Mw0 := Lib.hid (Mw0.out.keep hb9)
  replace Mg0 := Lib.hid (Mg0.out.keep hb9)
  clear hb9
  obtain ⟨⟨x0, x1, x2⟩, x3, x4, x5⟩ := Mg0.out.cells
  go_wp2_with fail
  with_reducible refine (markBankL _ _ qh0 ql0 p4_0 n4_0 c4_0 r0 1 _ Og0.out (by omega) (by omega) (by omega)).mono ?_
  rintro e v10 ⟨rfl, hm10, hb10⟩
  clear x0 x1 x2 x3 x4 x5
  have sz10 : v9.heap.size ≤ v10.heap.size := by have := hb10.size; simpa using this
  replace Acc := Lib.hid (Acc.out.trans (hb10.belowRg (by omega) (by omega)))
  replace Ow0 := Lib.hid (Ow0.out.rg hb10 (by omega))
  replace Ox2 := Lib.hid (Ox2.out.rg hb10 (by omega))
  replace Mw0 := Lib.hid (Mw0.out.rg hb10 (by omega))
  replace Mg0 := Lib.hid (Mg0.out.rg hb10 (by omega))
  replace Og0 := Lib.hid hm10; clear hm10
  clear hb10
  obtain ⟨⟨x0, x1, x2⟩, x3, x4, x5⟩ := Mg0.out.cells
  go_wp2_with fail
  with_reducible refine (heldBankL qh0 ql0 p4_0 n4_0 c4_0 1 _ Og0.out.at (by omega) (by omega) (by omega)).mono ?_
  rintro e v11 ⟨rfl, hb11⟩
  clear x0 x1 x2 x3 x4 x5
  have sz11 : v10.heap.size ≤ v11.heap.size := by have := hb11.size; simpa using this
  replace Acc := Lib.hid (belowTrans Acc.out hb11 (Nat.le_refl _))
  replace Ow0 := Lib.hid (Ow0.out.keep hb11)
  replace Ox2 := Lib.hid (Ox2.out.keep hb11)
  replace Og0 := Lib.hid (Og0.out.keep hb11)
  replace Mw0 := Lib.hid (Mw0.out.keep hb11)
  replace Mg0 := Lib.hid (Mg0.out.keep hb11)
  clear hb11
  go_wp2_with fail
  with_reducible refine (toIntS_any a2 len2 cap2 xs2 _ (HA2.out.keep Acc.out) (by omega)).mono ?_
  rintro e v12 ⟨p12, c12, rfl, ho12, hb12⟩
  have sz12 : v11.heap.size ≤ v12.heap.size := by have := hb12.size; simpa using this
  replace Acc := Lib.hid (belowTrans Acc.out hb12 (Nat.le_refl _))
  replace Ow0 := Lib.hid (Ow0.out.keep hb12)
  replace Ox2 := Lib.hid (Ox2.out.keep hb12)
  replace Og0 := Lib.hid (Og0.out.keep hb12)
  replace Mw0 := Lib.hid (Mw0.out.keep hb12)
  replace Mg0 := Lib.hid (Mg0.out.keep hb12)
  have Ot12 := Lib.hid ho12; clear ho12
  clear hb12
  go_wp2_with fail
  with_reducible refine (Hi.out _ _ _ _ Ot12.out.at).mono ?_
  rintro e v13 ⟨p13_0, n13_0, c13_0, rfl, ho13_0, hb13⟩
  have sz13 : v12.heap.size ≤ v13.heap.size := by have := hb13.size; simpa using this
  replace Acc := Lib.hid (belowTrans Acc.out hb13 (Nat.le_refl _))
  replace Ow0 := Lib.hid (Ow0.out.keep hb13)
  replace Ox2 := Lib.hid (Ox2.out.keep hb13)
  replace Og0 := Lib.hid (Og0.out.keep hb13)
  replace Ot12 := Lib.hid (Ot12.out.keep hb13)
  replace Mw0 := Lib.hid (Mw0.out.keep hb13)
  replace Mg0 := Lib.hid (Mg0.out.keep hb13)
  have Oh0 := Lib.hid ho13_0; clear ho13_0
  clear hb13
  have hnh0 : n13_0 ≤ 1048576 := by have := Oh0.out.length; omega
  have hbnh0 := belowAlloc v13 (.cells #[.int .i64 qh0, .int .i64 ql0, .slice p13_0 n13_0 c13_0] 24)
  replace Acc := Lib.hid (belowTrans Acc.out hbnh0 (Nat.le_refl _))
  replace Ow0 := Lib.hid (Ow0.out.keep hbnh0)
  replace Ox2 := Lib.hid (Ox2.out.keep hbnh0)
  replace Og0 := Lib.hid (Og0.out.keep hbnh0)
  replace Ot12 := Lib.hid (Ot12.out.keep hbnh0)
  replace Oh0 := Lib.hid (Oh0.out.keep hbnh0)
  replace Mw0 := Lib.hid (Mw0.out.keep hbnh0)
  replace Mg0 := Lib.hid (Mg0.out.keep hbnh0)
  have Mh0 := Lib.hid (Blk.new v13 qh0 ql0 p13_0 n13_0 c13_0 24)
  clear hbnh0
  clear Ot12
  obtain ⟨⟨x0, x1, x2⟩, x3, x4, x5⟩ := Mh0.out.cells
  obtain ⟨⟨y0, y1, y2⟩, y3, y4, y5⟩ := Mw0.out.cells
  go_wp2_with fail
  with_reducible refine (eqBankL qh0 ql0 qh0 ql0 p13_0 p2_0 n13_0 n2_0 c13_0 c2_0 r0 r0 _ Oh0.out.at Ow0.out.at ⟨rfl, rfl, rfl⟩).mono ?_
  rintro e v14 ⟨rfl, hb14⟩
  clear x0 x1 x2 x3 x4 x5 y0 y1 y2 y3 y4 y5
  have sz14 : v13.heap.size + 1 ≤ v14.heap.size := by have := hb14.size; simpa using this
  replace Acc := Lib.hid (belowTrans Acc.out hb14 (Nat.le_refl _))
  replace Ow0 := Lib.hid (Ow0.out.keep hb14)
  replace Ox2 := Lib.hid (Ox2.out.keep hb14)
  replace Og0 := Lib.hid (Og0.out.keep hb14)
  replace Oh0 := Lib.hid (Oh0.out.keep hb14)
  replace Mw0 := Lib.hid (Mw0.out.keep hb14)
  replace Mg0 := Lib.hid (Mg0.out.keep hb14)
  replace Mh0 := Lib.hid (Mh0.out.keep hb14)
  clear hb14
  obtain ⟨⟨x0, x1, x2⟩, x3, x4, x5⟩ := Mg0.out.cells
  go_wp2_with fail
  with_reducible refine (heldBankL qh0 ql0 p4_0 n4_0 c4_0 1 _ Og0.out.at (by omega) (by omega) (by omega)).mono ?_
  rintro e v15 ⟨rfl, hb15⟩
  clear x0 x1 x2 x3 x4 x5
  have sz15 : v14.heap.size ≤ v15.heap.size := by have := hb15.size; simpa using this
  replace Acc := Lib.hid (belowTrans Acc.out hb15 (Nat.le_refl _))
  replace Ow0 := Lib.hid (Ow0.out.keep hb15)
  replace Ox2 := Lib.hid (Ox2.out.keep hb15)
  replace Og0 := Lib.hid (Og0.out.keep hb15)
  replace Oh0 := Lib.hid (Oh0.out.keep hb15)
  replace Mw0 := Lib.hid (Mw0.out.keep hb15)
  replace Mg0 := Lib.hid (Mg0.out.keep hb15)
  replace Mh0 := Lib.hid (Mh0.out.keep hb15)
  clear hb15
  go_wp2_with fail
  go_ret
  exact ⟨rfl, Acc.out⟩

/-! ### THE ROW's STEP: WRITTEN OUT: LEAVE IT -/
set_option maxRecDepth 100000 in
theorem lifted (os : Os) (started : os.Started) (H : Type) (enc : TypeId × Value → H) :
    ReturnsInHanded {} Try.checked os 3 .any (Rows.fnExactFromAgesSpec.pre6 enc Try.prog Try.f3 Rows.fnExactFromAgesRow.domain false) (Rows.fnExactFromAgesSpec.post enc Try.prog Try.f3 false true false false) := by
  refine returnsInHanded_of_change (C := Try.checked) own started (by kernel_rfl) Try.func3
    (ChangeSpec.witness6 (enc := enc) (C := Try.checked) false ⟨#[], #[.int .i64 0, .int .i64 0, .slice none 0 0], []⟩ 8 (by kernel_rfl) (by kernel_rfl) (by kernel_rfl) (by kernel_rfl)) ?_
  intro W base args ds gs before hval0 hW hcnd _
  have hval : ∀ (j : Nat) t v, Try.f3.params[j]? = some t → args[j]? = some v → Value.okWide Try.prog W .any base t v := hval0
  have hW' := hW
  obtain ⟨p, q, hA0, hV, rfl, hfz, hnd⟩ := hW
  have hA : DataW.TrodAll enc Try.prog W 0 (fun _ => true) true Try.f3.params.toList args.toList ds p := hA0
  rw [Try.params3] at hA hval
  obtain ⟨v0, vs0, d0, ds0, p0, q0, hargs, rfl, rfl, h0, r0⟩ := trodAll_cons hA
  obtain ⟨v1, vs1, d1, ds1, p1, q1, rfl, rfl, rfl, h1, r1⟩ := trodAll_cons r0
  obtain ⟨v2, vs2, d2, ds2, p2, q2, rfl, rfl, rfl, h2, r2⟩ := trodAll_cons r1
  obtain ⟨rfl, rfl, rfl⟩ := trodAll_nil r2
  obtain rfl : args = #[v0, v1, v2] := by cases args; simp_all
  obtain ⟨rfl, rfl⟩ := trodVars_none hV
  obtain ⟨a0, rfl, rfl, rfl, w0⟩ := open_int Try.underlying3 (hval 0 3 v0 rfl rfl) h0
  obtain ⟨a1, rfl, rfl, rfl, w1⟩ := open_int Try.underlying3 (hval 1 3 v1 rfl rfl) h1
  obtain ⟨a2, len2, cap2, rfl⟩ := okWide_slice Try.underlying22 (hval 2 22 v2 rfl rfl)
  have k2 := h2
  have lt2 : ∀ x ∈ p2, x.block < W.heap.size := by obtain ⟨m, hm⟩ := k2; exact DataW.trod_lt m _ _ _ hm
  obtain ⟨z2, w2⟩ : ∃ zs, IsRow .i64 W a2 len2 cap2 zs := by
    obtain ⟨fuel, hf⟩ := h2
    rcases open_ints Try.underlying22 Try.underlying3 (by kernel_rfl) hf with ⟨hcs, _⟩ | ⟨x, l, c, zs, hcs, _, hl, hm, hz, _, hcell, hwz⟩
    · simp [Value.cells] at hcs
      obtain ⟨rfl, rfl, rfl⟩ := hcs
      exact ⟨[], .inl ⟨rfl, rfl, rfl, rfl⟩⟩
    · simp [Value.cells] at hcs
      obtain ⟨rfl, rfl, rfl⟩ := hcs
      exact ⟨zs, .inr ⟨_, rfl, hl, hm, by simpa using hz, hcell, hwz⟩⟩
  clear hA0 hval0
  refine (walk a0 a1 a2 len2 cap2 z2 W w0 w1 w2).mono fun e W' ⟨he, bel⟩ => ?_
  subst he
  exact ⟨_, rfl, _, _, _, [], _, [], hW', trodAll_mk1 (shut_bool Try.underlying4 _), (trodAll_cons_mk (shut_int Try.underlying3 w0) (trodAll_cons_mk (shut_int Try.underlying3 w1) (trodAll_cons_mk (Below.trod laidOut (by kernel_rfl) (of_decide_eq_true (by kernel_rfl)) k2 bel lt2) trodAll_mk0))), rfl, bel.frame _, fun h => by cases h⟩

theorem closedFacts : joinedFacts Try.prog 3 Try.f3 Rows.fnExactFromAgesSpec Rows.fnExactFromAgesRow = true := by
  unfold joinedFacts
  rw [head_enter, head_lifts, head_make]
  kernel_rfl
theorem closedHere : joinedFacts Try.pinned.checked.prog 3 Try.f3 Rows.fnExactFromAgesSpec Rows.fnExactFromAgesRow = true := by
  rw [progEq]
  exact closedFacts
theorem over : Rows.fnExactFromAgesRow.holds Try.pinned (OpenSpec.ofChange Rows.fnExactFromAgesSpec) :=
  OpenClaim.holds_of_wide 3 Try.f3 rfl rfl rfl rfl rfl rfl rfl ⟨rfl, rfl, rfl, rfl, rfl⟩ rfl rfl rfl rfl rfl (by kernel_rfl) Try.func3 closedHere
    (of_decide_eq_true (by kernel_rfl)) (by unfold Func.isWrapper; first | (rw [if_pos (by decide +kernel)]; kernel_rfl) | (rw [if_neg (by decide +kernel)]; exact ⟨rfl, rfl⟩))
    (fun os started H enc _ => lifted os started H enc)

/-- ████ THE STATEMENT ████ -/
theorem proved : Rows.FnExactFromAgesSaid := over
#print axioms proved
end Go.Proofs.Ytbneibpakopllaa.fnExactFromAges
