/- FnExactBankPasts: for every input the law returns true and leaves its arguments as they were. No condition. -/
import Derived.Test.YtbkihnejgcebpaaRows
import Derived.WalkKit
import Derived.ProofKit
import Derived.OpenShut
import Derived.ShutString
import Derived.ChangeOld
import Derived.Below
import Derived.Lib.SmallJoins
import Derived.Test.YtbkihnejgcebpaaHead
import Derived.Test.YtbkihnejgcebpaaBaH
import Derived.Test.YtbkihnejgcebpaaBaA
import Derived.Test.YtbkihnejgcebpaaBaL
import Derived.Test.YtbkihnejgcebpaaBcX
namespace Go.Proofs.Ytbkihnejgcebpaa.fnExactBankPasts
set_option linter.unusedSimpArgs false
open Go.Joins Go.ChangeShapes Go.WideShapes Go.ChangeAt Go.RowKit
open Go.ChangeMaps (open_string shut_string)
set_option linter.unusedVariables false

theorem own : ownKnob Try.prog.godebug = none := by kernel_rfl
theorem laidOut : laidOutB Try.prog = true := by kernel_rfl

/-- WHAT THE WALK IS TOLD OF A SLICE OF INTEGERS THAT CAME IN: it is nil; or it leads to a row of 'cap' cells, the numbers 'zs' (the first 'len' are its elements, the rest its spare room), each fitting its kind. -/
def IsRow (k : IntKind) (w : World) (a : Option Addr) (len cap : Nat) (zs : List Int) : Prop :=
  (a = none ∧ len = 0 ∧ cap = 0 ∧ zs = []) ∨
  ∃ x, a = some x ∧ len ≤ cap ∧ cap ≤ maxLen ∧ zs.length = cap ∧ (∀ i, i < zs.length → w.cell? (x.add i) = some (.int k (zs.getD i 0))) ∧ ∀ n ∈ zs, (Lit.int k n).wf = true

/-! ### THE WALK: the Go text returns true, AND WRITES NOTHING THAT WAS THERE: 'Below w.heap.size w w'' (Derived/Below.lean: '.refl', '.alloc', '.drew', '.setCell' at a new block, '.trans'). Open each 'IsRow' by 'rcases' AHEAD of 'go_enter'; part every test ahead of the walk. -/
set_option maxHeartbeats 4000000 in
set_option maxRecDepth 100000 in
theorem walk (h0 l0 : Int) (a0 : Option Addr) (len0 cap0 : Nat) (z0 : List Int) (w : World) (w0 : IsRow .i64 w a0 len0 cap0 z0) :
    Calls Try.prog 4 #[.agg #[.int .i64 h0, .int .i64 l0, .slice a0 len0 cap0]] w fun e w' => e = .returned (.bool true) ∧ Below w.heap.size w w' := by
  have hA0 := intsAt_row w0
  generalize z0.take len0 = xs0 at hA0
  clear w0
  have hbA := belowAlloc w (.cells #[.int .i64 h0, .int .i64 l0, .slice a0 len0 cap0] 30)
  have bA := Blk.new w h0 l0 a0 len0 cap0 30
  by_cases hbig0 : 1048576 < len0
  · have hz := szBankN h0 l0 a0 len0 cap0 hbig0 hA0.lenInt
    clear hA0 bA
    have Hz := Lib.hid hz; clear hz
    have HbA := Lib.hid hbA; clear hbA
    have Hbig := Lib.hid hbig0; clear hbig0
    go_enter Try.func4, Try.ntmps4
    go_wp2_with fail
    with_reducible refine (Hz.out _).mono ?_
    rintro e w1 ⟨rfl, hb1⟩
    have hbb := Lib.hid (belowTrans HbA.out hb1 (Nat.le_refl _)); clear hb1
    go_wp2
    go_ret
    exact ⟨rfl, hbb.out⟩
  have hle : len0 ≤ 1048576 := by omega
  have hz := szBankL h0 l0 a0 len0 cap0 hle
  have hto := toBankL h0 l0 a0 len0 cap0 xs0 hle
  have heq := fun ao bo c c' W (h1 : IntsAt W ao len0 c xs0) (h2 : IntsAt W bo len0 c' xs0) => eqBankL h0 l0 h0 l0 ao bo len0 len0 c c' xs0 xs0 W h1 h2 ⟨rfl, rfl, rfl⟩
  have hs : ∀ ao c W, IntsAt W ao len0 c xs0 → Calls Try.prog 12 #[.agg #[.int .i64 h0, .int .i64 l0, .slice ao len0 c]] W fun e w' => ∃ ao0 n0 c0, e = .returned (.tuple #[.slice ao0 n0 c0, .bool (mBankPasts ⟨h0, l0, xs0⟩).2]) ∧ BksOwn W.heap.size w'.heap.size w' ao0 n0 c0 (mBankPasts ⟨h0, l0, xs0⟩).1 ∧ Below W.heap.size W w' := fun ao c W h => spec_BankPasts h0 l0 ao len0 c xs0  W h
  have hi : ∀ ao c W, IntsAt W ao len0 c xs0 → Calls Try.prog 14 #[.agg #[.int .i64 h0, .int .i64 l0, .slice ao len0 c]] W fun e w' => ∃ ao0 n0 c0, e = .returned (.tuple #[.slice ao0 n0 c0, .bool (mBankPasts ⟨h0, l0, xs0⟩).2]) ∧ BksOwn W.heap.size w'.heap.size w' ao0 n0 c0 (mBankPasts ⟨h0, l0, xs0⟩).1 ∧ Below W.heap.size W w' := fun ao c W h => impl_BankPasts h0 l0 ao len0 c xs0  W h
  have hbd := mBankPasts_bound ⟨h0, l0, xs0⟩
  generalize (mBankPasts ⟨h0, l0, xs0⟩).1 = r0 at hs hi hbd
  generalize (mBankPasts ⟨h0, l0, xs0⟩).2 = r1 at hs hi
  have hrr1 : (r1 != r1) = false := by simp
  obtain ⟨hbl, hbs⟩ := hbd
  obtain ⟨nn, hn⟩ : ∃ nn, nn = r0.length := ⟨_, rfl⟩
  have hnb : nn ≤ 1048576 := by omega
  obtain ⟨SS, hSS⟩ : ∃ SS, SS = (plus2 (lensB r0)).sum := ⟨_, rfl⟩
  have hSb : SS ≤ 1048576 := by omega
  have Hn := Lib.hid hn; clear hn
  have HS := Lib.hid hSS; clear hSS
  have Hbl := Lib.hid hbl; clear hbl
  have Hbs := Lib.hid hbs; clear hbs
  clear hbig0
  have Hz := Lib.hid hz; clear hz
  have Hto := Lib.hid hto; clear hto
  have Heq := Lib.hid heq; clear heq
  have Hs := Lib.hid hs; clear hs
  have Hi := Lib.hid hi; clear hi
  have HA0 := Lib.hid hA0; clear hA0
  have Acc := Lib.hid hbA; clear hbA
  have Ka := Lib.hid bA; clear bA
  go_enter Try.func4, Try.ntmps4
  obtain ⟨⟨x0, x1, x2⟩, x3, x4, x5⟩ := Ka.out.cells
  go_wp2_with fail
  with_reducible refine (Hz.out _).mono ?_
  rintro e v1 ⟨rfl, hb1⟩
  clear x0 x1 x2 x3 x4 x5
  have sz1 : w.heap.size + 1 ≤ v1.heap.size := by have := hb1.size; simpa using this
  replace Acc := Lib.hid (belowTrans Acc.out hb1 (Nat.le_refl _))
  replace Ka := Lib.hid (Ka.out.keep hb1)
  clear hb1
  obtain ⟨⟨x0, x1, x2⟩, x3, x4, x5⟩ := Ka.out.cells
  go_wp2_with fail
  with_reducible refine (Hto.out _ (HA0.out.keep Acc.out)).mono ?_
  rintro e v2 ⟨p2, c2, rfl, ho2, hb2⟩
  clear x0 x1 x2 x3 x4 x5
  have sz2 : v1.heap.size ≤ v2.heap.size := by have := hb2.size; simpa using this
  replace Acc := Lib.hid (belowTrans Acc.out hb2 (Nat.le_refl _))
  replace Ka := Lib.hid (Ka.out.keep hb2)
  have Ot2 := Lib.hid ho2; clear ho2
  clear hb2
  go_wp2_with fail
  with_reducible refine (Hs.out _ _ _ Ot2.out.at).mono ?_
  rintro e v3 ⟨p3_0, n3_0, c3_0, rfl, ho3_0, hb3⟩
  have sz3 : v2.heap.size ≤ v3.heap.size := by have := hb3.size; simpa using this
  replace Acc := Lib.hid (belowTrans Acc.out hb3 (Nat.le_refl _))
  replace Ka := Lib.hid (Ka.out.keep hb3)
  replace Ot2 := Lib.hid (Ot2.out.keep hb3)
  have Ow0 := Lib.hid ho3_0; clear ho3_0
  clear hb3
  obtain rfl : nn = n3_0 := by rw [Hn.out]; exact Ow0.out.length
  clear Ot2
  obtain ⟨⟨x0, x1, x2⟩, x3, x4, x5⟩ := Ka.out.cells
  go_wp2_with fail
  with_reducible refine (Hto.out _ (HA0.out.keep Acc.out)).mono ?_
  rintro e v4 ⟨p4, c4, rfl, ho4, hb4⟩
  clear x0 x1 x2 x3 x4 x5
  have sz4 : v3.heap.size ≤ v4.heap.size := by have := hb4.size; simpa using this
  replace Acc := Lib.hid (belowTrans Acc.out hb4 (Nat.le_refl _))
  replace Ka := Lib.hid (Ka.out.keep hb4)
  replace Ow0 := Lib.hid (Ow0.out.keep hb4)
  have Ot4 := Lib.hid ho4; clear ho4
  clear hb4
  have hbnx0 := belowAlloc v4 (.cells #[.int .i64 h0, .int .i64 l0, .slice p4 len0 c4] 33)
  replace Acc := Lib.hid (belowTrans Acc.out hbnx0 (Nat.le_refl _))
  replace Ka := Lib.hid (Ka.out.keep hbnx0)
  replace Ow0 := Lib.hid (Ow0.out.keep hbnx0)
  replace Ot4 := Lib.hid (Ot4.out.keep hbnx0)
  have Mx0 := Lib.hid (Blk.new v4 h0 l0 p4 len0 c4 33)
  clear hbnx0
  obtain ⟨⟨x0, x1, x2⟩, x3, x4, x5⟩ := Mx0.out.cells
  go_wp2_with fail
  with_reducible refine (Hi.out _ _ _ Ot4.out.at).mono ?_
  rintro e v5 ⟨p5_0, n5_0, c5_0, rfl, ho5_0, hb5⟩
  clear x0 x1 x2 x3 x4 x5
  have sz5 : v4.heap.size + 1 ≤ v5.heap.size := by have := hb5.size; simpa using this
  replace Acc := Lib.hid (belowTrans Acc.out hb5 (Nat.le_refl _))
  replace Ka := Lib.hid (Ka.out.keep hb5)
  replace Ow0 := Lib.hid (Ow0.out.keep hb5)
  replace Ot4 := Lib.hid (Ot4.out.keep hb5)
  replace Mx0 := Lib.hid (Mx0.out.keep hb5)
  replace ho5_0 := ho5_0.mono (show v4.heap.size + 1 ≤ (v4.alloc (.cells #[.int .i64 h0, .int .i64 l0, .slice p4 len0 c4] 33)).heap.size by simp) (Nat.le_refl _)
  have Og0 := Lib.hid ho5_0; clear ho5_0
  clear hb5
  obtain rfl : nn = n5_0 := by rw [Hn.out]; exact Og0.out.length
  go_wp2_with fail
  with_reducible refine (eqBankS_any p5_0 p3_0 nn c5_0 c3_0 r0 _ Og0.out.at Ow0.out.at).mono ?_
  rintro e v6 ⟨rfl, hb6⟩
  have sz6 : v5.heap.size ≤ v6.heap.size := by have := hb6.size; simpa using this
  replace Acc := Lib.hid (belowTrans Acc.out hb6 (Nat.le_refl _))
  replace Ka := Lib.hid (Ka.out.keep hb6)
  replace Ow0 := Lib.hid (Ow0.out.keep hb6)
  replace Ot4 := Lib.hid (Ot4.out.keep hb6)
  replace Og0 := Lib.hid (Og0.out.keep hb6)
  replace Mx0 := Lib.hid (Mx0.out.keep hb6)
  clear hb6
  obtain ⟨⟨x0, x1, x2⟩, x3, x4, x5⟩ := Ka.out.cells
  obtain ⟨⟨u0, u1, u2⟩, u3, u4, u5⟩ := Mx0.out.cells
  go_wp2_with fail
  have hAd := Lib.hid (HA0.out.keep Acc.out.drew); have Accd := Lib.hid Acc.out.drew
  go_region_law (first | (go_simp; with_reducible refine (Hto.out v6.drew hAd.out).mono ?_; rintro e v7 ⟨pt, ct, rfl, hot, hb7⟩; have sz7 : v6.heap.size ≤ v7.heap.size := (by have := hb7.size; simpa using this); replace Accd := Lib.hid (belowTrans Accd.out hb7 (Nat.le_refl _)); replace Ka := Lib.hid (Ka.out.drew.keep hb7); replace Ow0 := Lib.hid (Ow0.out.drew.keep hb7); replace Ot4 := Lib.hid (Ot4.out.drew.keep hb7); replace Og0 := Lib.hid (Og0.out.drew.keep hb7); replace Mx0 := Lib.hid (Mx0.out.drew.keep hb7); obtain ⟨⟨z0, z1, z2⟩, z3, z4, z5⟩ := Mx0.out.cells; have Ot := Lib.hid hot; clear hot hb7) | (go_simp; with_reducible refine (Heq.out p4 pt c4 ct v7 Ot4.out.at Ot.out.at).mono ?_; rintro e v8 ⟨rfl, hb8⟩; have sz8 : v7.heap.size ≤ v8.heap.size := hb8.size; replace Accd := Lib.hid (belowTrans Accd.out hb8 (Nat.le_refl _)); replace Ka := Lib.hid (Ka.out.keep hb8); replace Ow0 := Lib.hid (Ow0.out.keep hb8); replace Ot4 := Lib.hid (Ot4.out.keep hb8); replace Og0 := Lib.hid (Og0.out.keep hb8); replace Mx0 := Lib.hid (Mx0.out.keep hb8); clear hb8))
  all_goals
    clear Acc hAd Ot z0 z1 z2 z3 z4 z5 x0 x1 x2 x3 x4 x5 u0 u1 u2 u3 u4 u5
    have Acc := Lib.hid Accd.out; clear Accd
    obtain ⟨⟨x0, x1, x2⟩, x3, x4, x5⟩ := Mx0.out.cells
    go_wp2_with fail
    with_reducible refine (markBankL _ _ h0 l0 p4 len0 c4 xs0 1 _ Ot4.out (by omega) (by omega) (by omega)).mono ?_
    rintro e v9 ⟨rfl, hm9, hb9⟩
    clear x0 x1 x2 x3 x4 x5
    have sz9 : v8.heap.size ≤ v9.heap.size := by have := hb9.size; simpa using this
    replace Acc := Lib.hid (Acc.out.trans (hb9.belowRg (by omega) (by omega)))
    replace Ka := Lib.hid (Ka.out.rg hb9 (by omega))
    replace Ow0 := Lib.hid (Ow0.out.rg hb9 (by omega))
    replace Og0 := Lib.hid (Og0.out.rg hb9 (by omega))
    replace Mx0 := Lib.hid (Mx0.out.rg hb9 (by omega))
    replace Ot4 := Lib.hid hm9; clear hm9
    clear hb9
    go_wp2_with fail
    with_reducible refine (eqBankS_any p5_0 p3_0 nn c5_0 c3_0 r0 _ Og0.out.at Ow0.out.at).mono ?_
    rintro e v10 ⟨rfl, hb10⟩
    have sz10 : v9.heap.size ≤ v10.heap.size := by have := hb10.size; simpa using this
    replace Acc := Lib.hid (belowTrans Acc.out hb10 (Nat.le_refl _))
    replace Ka := Lib.hid (Ka.out.keep hb10)
    replace Ow0 := Lib.hid (Ow0.out.keep hb10)
    replace Ot4 := Lib.hid (Ot4.out.keep hb10)
    replace Og0 := Lib.hid (Og0.out.keep hb10)
    replace Mx0 := Lib.hid (Mx0.out.keep hb10)
    clear hb10
    go_wp2_with fail
    with_reducible refine (markBankS_any (v4.heap.size + 1) _ p5_0 nn c5_0 r0 1 _ Og0.out (by omega) Hbs.out (by omega) (by omega)).mono ?_
    rintro e v11 ⟨rfl, hm11, hb11⟩
    rw [← HS.out]
    have sz11 : v10.heap.size ≤ v11.heap.size := by have := hb11.size; simpa using this
    replace Acc := Lib.hid (Acc.out.trans (hb11.belowRg (by omega) (by omega)))
    replace Ka := Lib.hid (Ka.out.rg hb11 (by omega))
    replace Ow0 := Lib.hid (Ow0.out.rg hb11 (by omega))
    replace Ot4 := Lib.hid (Ot4.out.rg hb11 (by omega))
    replace Mx0 := Lib.hid (Mx0.out.rg hb11 (by omega))
    replace Og0 := Lib.hid hm11; clear hm11
    clear hb11
    go_wp2_with fail
    with_reducible refine (heldBankS_any p5_0 nn c5_0 (lensB r0) 1 _ Og0.out.at (by omega) Hbs.out (by omega) (by omega)).mono ?_
    rintro e _ ⟨rfl, rfl⟩
    rw [← HS.out]
    obtain ⟨⟨x0, x1, x2⟩, x3, x4, x5⟩ := Ka.out.cells
    go_wp2_with fail
    with_reducible refine (Hto.out _ (HA0.out.keep Acc.out)).mono ?_
    rintro e v12 ⟨p12, c12, rfl, ho12, hb12⟩
    clear x0 x1 x2 x3 x4 x5
    have sz12 : v11.heap.size ≤ v12.heap.size := by have := hb12.size; simpa using this
    replace Acc := Lib.hid (belowTrans Acc.out hb12 (Nat.le_refl _))
    replace Ka := Lib.hid (Ka.out.keep hb12)
    replace Ow0 := Lib.hid (Ow0.out.keep hb12)
    replace Ot4 := Lib.hid (Ot4.out.keep hb12)
    replace Og0 := Lib.hid (Og0.out.keep hb12)
    replace Mx0 := Lib.hid (Mx0.out.keep hb12)
    have Ot12 := Lib.hid ho12; clear ho12
    clear hb12
    go_wp2_with fail
    with_reducible refine (Hi.out _ _ _ Ot12.out.at).mono ?_
    rintro e v13 ⟨p13_0, n13_0, c13_0, rfl, ho13_0, hb13⟩
    have sz13 : v12.heap.size ≤ v13.heap.size := by have := hb13.size; simpa using this
    replace Acc := Lib.hid (belowTrans Acc.out hb13 (Nat.le_refl _))
    replace Ka := Lib.hid (Ka.out.keep hb13)
    replace Ow0 := Lib.hid (Ow0.out.keep hb13)
    replace Ot4 := Lib.hid (Ot4.out.keep hb13)
    replace Og0 := Lib.hid (Og0.out.keep hb13)
    replace Ot12 := Lib.hid (Ot12.out.keep hb13)
    replace Mx0 := Lib.hid (Mx0.out.keep hb13)
    have Oh0 := Lib.hid ho13_0; clear ho13_0
    clear hb13
    obtain rfl : nn = n13_0 := by rw [Hn.out]; exact Oh0.out.length
    clear Ot12
    go_wp2_with fail
    with_reducible refine (eqBankS_any p13_0 p3_0 nn c13_0 c3_0 r0 _ Oh0.out.at Ow0.out.at).mono ?_
    rintro e v14 ⟨rfl, hb14⟩
    have sz14 : v13.heap.size ≤ v14.heap.size := by have := hb14.size; simpa using this
    replace Acc := Lib.hid (belowTrans Acc.out hb14 (Nat.le_refl _))
    replace Ka := Lib.hid (Ka.out.keep hb14)
    replace Ow0 := Lib.hid (Ow0.out.keep hb14)
    replace Ot4 := Lib.hid (Ot4.out.keep hb14)
    replace Og0 := Lib.hid (Og0.out.keep hb14)
    replace Oh0 := Lib.hid (Oh0.out.keep hb14)
    replace Mx0 := Lib.hid (Mx0.out.keep hb14)
    clear hb14
    go_wp2_with fail
    with_reducible refine (heldBankS_any p5_0 nn c5_0 (lensB r0) 1 _ Og0.out.at (by omega) Hbs.out (by omega) (by omega)).mono ?_
    rintro e _ ⟨rfl, rfl⟩
    rw [← HS.out]
    go_wp2_with fail
    go_ret
    exact ⟨rfl, Acc.out⟩

/-! ### THE ROW's STEP: WRITTEN OUT: LEAVE IT -/
set_option maxRecDepth 100000 in
theorem lifted (os : Os) (started : os.Started) (H : Type) (enc : TypeId × Value → H) :
    ReturnsInHanded {} Try.checked os 4 .any (Rows.fnExactBankPastsSpec.pre6 enc Try.prog Try.f4 Rows.fnExactBankPastsRow.domain false) (Rows.fnExactBankPastsSpec.post enc Try.prog Try.f4 false true false false) := by
  refine returnsInHanded_of_change (C := Try.checked) own started (by kernel_rfl) Try.func4
    (ChangeSpec.witness6 (enc := enc) (C := Try.checked) false ⟨#[], #[.agg #[.int .i64 0, .int .i64 0, .slice none 0 0]], []⟩ 8 (by kernel_rfl) (by kernel_rfl) (by kernel_rfl) (by kernel_rfl)) ?_
  intro W base args ds gs before hval0 hW hcnd _
  have hval : ∀ (j : Nat) t v, Try.f4.params[j]? = some t → args[j]? = some v → Value.okWide Try.prog W .any base t v := hval0
  have hW' := hW
  obtain ⟨p, q, hA0, hV, rfl, hfz, hnd⟩ := hW
  have hA : DataW.TrodAll enc Try.prog W 0 (fun _ => true) true Try.f4.params.toList args.toList ds p := hA0
  rw [Try.params4] at hA hval
  obtain ⟨v0, vs0, d0, ds0, p0, q0, hargs, rfl, rfl, h0, r0⟩ := trodAll_cons hA
  obtain ⟨rfl, rfl, rfl⟩ := trodAll_nil r0
  obtain rfl : args = #[v0] := by cases args; simp_all
  obtain ⟨rfl, rfl⟩ := trodVars_none hV
  have k0 := h0
  have lt0 : ∀ x ∈ p0, x.block < W.heap.size := by obtain ⟨m, hm⟩ := k0; exact DataW.trod_lt m _ _ _ hm
  obtain ⟨hh, ll, a0, len0, cap0, rfl, z0, w0⟩ : ∃ hh ll a len cap, v0 = .agg #[.int .i64 hh, .int .i64 ll, .slice a len cap] ∧ ∃ zs, IsRow .i64 W a len cap zs := by
    obtain ⟨c0, c1, c2, y0, y1, y2, m, rfl, _, _, hy0, hy1, hy2⟩ := open_agg3 Try.underlying30 (by kernel_rfl) (by kernel_rfl) (hval 0 30 v0 rfl rfl) h0
    obtain ⟨x, e0, _, wx⟩ := DataW.trod_int Try.underlying3 hy0
    obtain ⟨y, e1, _, wy⟩ := DataW.trod_int Try.underlying3 hy1
    simp at e0 e1
    subst e0 e1
    rcases open_ints Try.underlying28 Try.underlying3 (by kernel_rfl) hy2 with ⟨hcs, _⟩ | ⟨x', l', c', zs, hcs, _, hl, hm, hz, _, hcell, hwz⟩
    · simp at hcs
      subst hcs
      exact ⟨_, _, _, _, _, rfl, [], .inl ⟨rfl, rfl, rfl, rfl⟩⟩
    · simp at hcs
      subst hcs
      exact ⟨_, _, _, _, _, rfl, zs, .inr ⟨_, rfl, hl, hm, by simpa using hz, hcell, hwz⟩⟩
  clear hA0 hval0
  refine (walk hh ll a0 len0 cap0 z0 W w0).mono fun e W' ⟨he, bel⟩ => ?_
  subst he
  exact ⟨_, rfl, _, _, _, [], _, [], hW', trodAll_mk1 (shut_bool Try.underlying4 _), (trodAll_cons_mk (Below.trod laidOut (by kernel_rfl) (of_decide_eq_true (by kernel_rfl)) k0 bel lt0) trodAll_mk0), rfl, bel.frame _, fun h => by cases h⟩

theorem closedFacts : joinedFacts Try.prog 4 Try.f4 Rows.fnExactBankPastsSpec Rows.fnExactBankPastsRow = true := by
  unfold joinedFacts
  rw [head_enter, head_lifts, head_make]
  kernel_rfl
theorem closedHere : joinedFacts Try.pinned.checked.prog 4 Try.f4 Rows.fnExactBankPastsSpec Rows.fnExactBankPastsRow = true := by
  rw [progEq]
  exact closedFacts
theorem over : Rows.fnExactBankPastsRow.holds Try.pinned (OpenSpec.ofChange Rows.fnExactBankPastsSpec) :=
  OpenClaim.holds_of_wide 4 Try.f4 rfl rfl rfl rfl rfl rfl rfl ⟨rfl, rfl, rfl, rfl, rfl⟩ rfl rfl rfl rfl rfl (by kernel_rfl) Try.func4 closedHere
    (of_decide_eq_true (by kernel_rfl)) (by unfold Func.isWrapper; first | (rw [if_pos (by decide +kernel)]; kernel_rfl) | (rw [if_neg (by decide +kernel)]; exact ⟨rfl, rfl⟩))
    (fun os started H enc _ => lifted os started H enc)

/-- ████ THE STATEMENT ████ -/
theorem proved : Rows.FnExactBankPastsSaid := over
#print axioms proved
end Go.Proofs.Ytbkihnejgcebpaa.fnExactBankPasts
