/- FnExactBankOrbit: for every input the law returns true and leaves its arguments as they were. No condition. -/
import Derived.Test.YtbkihnejgcebpaaDoorRows
import Derived.Test.YtbkihnejgcebpaaDoorCards
import Derived.Test.YtbkihnejgcebpaaDoorTie
import Derived.WalkKit
import Derived.LaidMore
import Derived.Stop.Joined
import Derived.SevenTiedAt
import Derived.ProofKit
import Derived.OpenShut
import Derived.ShutString
import Derived.ChangeOld
import Derived.Below
import Derived.Lib.SmallJoins
import Derived.Test.YtbkihnejgcebpaaDoorHead
import Derived.Test.YtbkihnejgcebpaaDoorBaH
import Derived.Test.YtbkihnejgcebpaaDoorBaA
import Derived.Test.YtbkihnejgcebpaaDoorBaL
import Derived.Test.YtbkihnejgcebpaaDoorBoX
namespace Go.Proofs.YtbkihnejgcebpaaDoor.fnExactBankOrbit
set_option linter.unusedSimpArgs false
open Go.Joins Go.ChangeShapes Go.WideShapes Go.ChangeAt Go.RowKit
open Go.ChangeMaps (open_string shut_string)
set_option linter.unusedVariables false

theorem own : ownKnob Tryd.prog.godebug = none := by kernel_rfl
theorem laidOut : laidOutB Tryd.prog = true := by kernel_rfl

/-- WHAT THE WALK IS TOLD OF A SLICE OF INTEGERS THAT CAME IN: it is nil; or it leads to a row of 'cap' cells, the numbers 'zs' (the first 'len' are its elements, the rest its spare room), each fitting its kind. -/
def IsRow (k : IntKind) (w : World) (a : Option Addr) (len cap : Nat) (zs : List Int) : Prop :=
  (a = none ∧ len = 0 ∧ cap = 0 ∧ zs = []) ∨
  ∃ x, a = some x ∧ len ≤ cap ∧ cap ≤ maxLen ∧ zs.length = cap ∧ (∀ i, i < zs.length → w.cell? (x.add i) = some (.int k (zs.getD i 0))) ∧ ∀ n ∈ zs, (Lit.int k n).wf = true

/-! ### THE WALK: the Go text returns true, AND WRITES NOTHING THAT WAS THERE: 'Below w.heap.size w w'' (Derived/Below.lean: '.refl', '.alloc', '.drew', '.setCell' at a new block, '.trans'). Open each 'IsRow' by 'rcases' AHEAD of 'go_enter'; part every test ahead of the walk. -/
set_option maxHeartbeats 4000000 in
set_option maxRecDepth 100000 in
theorem walk (h0 l0 : Int) (a0 : Option Addr) (len0 cap0 : Nat) (z0 : List Int) (w : World) (w0 : IsRow .i64 w a0 len0 cap0 z0) :
    Calls Tryd.prog 3 #[.agg #[.int .i64 h0, .int .i64 l0, .slice a0 len0 cap0]] w fun e w' => e = .returned (.bool true) ∧ Below w.heap.size w w' := by
  have hA0 := intsAt_row w0
  generalize z0.take len0 = xs0 at hA0
  clear w0
  have hbA := belowAlloc w (.cells #[.int .i64 h0, .int .i64 l0, .slice a0 len0 cap0] 24)
  have bA := Blk.new w h0 l0 a0 len0 cap0 24
  by_cases hbig0 : 1048576 < len0
  · have hz := szBankN h0 l0 a0 len0 cap0 hbig0 hA0.lenInt
    clear hA0 bA
    have Hz := Lib.hid hz; clear hz
    have HbA := Lib.hid hbA; clear hbA
    have Hbig := Lib.hid hbig0; clear hbig0
    go_enter Tryd.func3, Tryd.ntmps3
    go_wp2_with fail
    with_reducible refine (Hz.out _).mono ?_
    rintro e w1 ⟨rfl, hb1⟩
    have hbb := Lib.hid (belowTrans HbA.out hb1 (Nat.le_refl _)); clear hb1
    go_wp2
    go_ret
    exact ⟨rfl, hbb.out⟩
  have hle : len0 ≤ 1048576 := by omega
  have hz := szBankL h0 l0 a0 len0 cap0 hle
  have hto := toBankL h0 l0 a0 len0 cap0 xs0 hle
  have heq := fun ao bo c c' W (h1 : IntsAt W ao len0 c xs0) (h2 : IntsAt W bo len0 c' xs0) => eqBankL h0 l0 h0 l0 ao bo len0 len0 c c' xs0 xs0 W h1 h2 ⟨rfl, rfl, rfl⟩
  have hs : ∀ ao c W, IntsAt W ao len0 c xs0 → Calls Tryd.prog 8 #[.agg #[.int .i64 h0, .int .i64 l0, .slice ao len0 c]] W fun e w' => e = .returned (.tuple #[.int .i64 (mBankOrbit ⟨h0, l0, xs0⟩).1, .int .i64 (mBankOrbit ⟨h0, l0, xs0⟩).2.1, .bool (mBankOrbit ⟨h0, l0, xs0⟩).2.2]) ∧ Below W.heap.size W w' := fun ao c W h => spec_BankOrbit h0 l0 ao len0 c xs0  W h
  have hi : ∀ ao c W, IntsAt W ao len0 c xs0 → Calls Tryd.prog 10 #[.agg #[.int .i64 h0, .int .i64 l0, .slice ao len0 c]] W fun e w' => e = .returned (.tuple #[.int .i64 (mBankOrbit ⟨h0, l0, xs0⟩).1, .int .i64 (mBankOrbit ⟨h0, l0, xs0⟩).2.1, .bool (mBankOrbit ⟨h0, l0, xs0⟩).2.2]) ∧ Below W.heap.size W w' := fun ao c W h => impl_BankOrbit h0 l0 ao len0 c xs0  W h
  generalize (mBankOrbit ⟨h0, l0, xs0⟩).1 = r0 at hs hi
  have hrr0 : (r0 != r0) = false := by simp
  generalize (mBankOrbit ⟨h0, l0, xs0⟩).2.1 = r1 at hs hi
  have hrr1 : (r1 != r1) = false := by simp
  generalize (mBankOrbit ⟨h0, l0, xs0⟩).2.2 = r2 at hs hi
  have hrr2 : (r2 != r2) = false := by simp
  clear hbig0
  have Hz := Lib.hid hz; clear hz
  have Hto := Lib.hid hto; clear hto
  have Heq := Lib.hid heq; clear heq
  have Hs := Lib.hid hs; clear hs
  have Hi := Lib.hid hi; clear hi
  have HA0 := Lib.hid hA0; clear hA0
  have Acc := Lib.hid hbA; clear hbA
  have Ka := Lib.hid bA; clear bA
  go_enter Tryd.func3, Tryd.ntmps3
  obtain ⟨⟨x0, x1, x2⟩, x3, x4, x5⟩ := Ka.out.cells
  go_wp2_with fail
  with_reducible refine (Hz.out _).mono ?_
  rintro e v1 ⟨rfl, hb1⟩
  clear x0 x1 x2 x3 x4 x5
  have sz1 : w.heap.size + 1 ≤ v1.heap.size := by have := hb1.size; simpa using this
  replace Acc := Lib.hid (belowTrans Acc.out hb1 (Nat.le_refl _))
  replace Ka := Lib.hid (Ka.out.keep hb1)
  clear hb1
  obtain ⟨⟨x0, x1, x2⟩, x3, x4, x5⟩ := Ka.out.cells
  go_wp2_with fail
  with_reducible refine (Hto.out _ (HA0.out.keep Acc.out)).mono ?_
  rintro e v2 ⟨p2, c2, rfl, ho2, hb2⟩
  clear x0 x1 x2 x3 x4 x5
  have sz2 : v1.heap.size ≤ v2.heap.size := by have := hb2.size; simpa using this
  replace Acc := Lib.hid (belowTrans Acc.out hb2 (Nat.le_refl _))
  replace Ka := Lib.hid (Ka.out.keep hb2)
  have Ot2 := Lib.hid ho2; clear ho2
  clear hb2
  go_wp2_with fail
  with_reducible refine (Hs.out _ _ _ Ot2.out.at).mono ?_
  rintro e v3 ⟨rfl, hb3⟩
  have sz3 : v2.heap.size ≤ v3.heap.size := by have := hb3.size; simpa using this
  replace Acc := Lib.hid (belowTrans Acc.out hb3 (Nat.le_refl _))
  replace Ka := Lib.hid (Ka.out.keep hb3)
  replace Ot2 := Lib.hid (Ot2.out.keep hb3)
  clear hb3
  clear Ot2
  obtain ⟨⟨x0, x1, x2⟩, x3, x4, x5⟩ := Ka.out.cells
  go_wp2_with fail
  with_reducible refine (Hto.out _ (HA0.out.keep Acc.out)).mono ?_
  rintro e v4 ⟨p4, c4, rfl, ho4, hb4⟩
  clear x0 x1 x2 x3 x4 x5
  have sz4 : v3.heap.size ≤ v4.heap.size := by have := hb4.size; simpa using this
  replace Acc := Lib.hid (belowTrans Acc.out hb4 (Nat.le_refl _))
  replace Ka := Lib.hid (Ka.out.keep hb4)
  have Ot4 := Lib.hid ho4; clear ho4
  clear hb4
  have hbnx0 := belowAlloc v4 (.cells #[.int .i64 h0, .int .i64 l0, .slice p4 len0 c4] 28)
  replace Acc := Lib.hid (belowTrans Acc.out hbnx0 (Nat.le_refl _))
  replace Ka := Lib.hid (Ka.out.keep hbnx0)
  replace Ot4 := Lib.hid (Ot4.out.keep hbnx0)
  have Mx0 := Lib.hid (Blk.new v4 h0 l0 p4 len0 c4 28)
  clear hbnx0
  obtain ⟨⟨x0, x1, x2⟩, x3, x4, x5⟩ := Mx0.out.cells
  go_wp2_with fail
  with_reducible refine (Hi.out _ _ _ Ot4.out.at).mono ?_
  rintro e v5 ⟨rfl, hb5⟩
  clear x0 x1 x2 x3 x4 x5
  have sz5 : v4.heap.size + 1 ≤ v5.heap.size := by have := hb5.size; simpa using this
  replace Acc := Lib.hid (belowTrans Acc.out hb5 (Nat.le_refl _))
  replace Ka := Lib.hid (Ka.out.keep hb5)
  replace Ot4 := Lib.hid (Ot4.out.keep hb5)
  replace Mx0 := Lib.hid (Mx0.out.keep hb5)
  clear hb5
  obtain ⟨⟨x0, x1, x2⟩, x3, x4, x5⟩ := Ka.out.cells
  obtain ⟨⟨u0, u1, u2⟩, u3, u4, u5⟩ := Mx0.out.cells
  go_wp2_with fail
  have hAd := Lib.hid (HA0.out.keep Acc.out.drew); have Accd := Lib.hid Acc.out.drew
  go_region_law (first | (go_simp; with_reducible refine (Hto.out v5.drew hAd.out).mono ?_; rintro e v6 ⟨pt, ct, rfl, hot, hb6⟩; have sz6 : v5.heap.size ≤ v6.heap.size := (by have := hb6.size; simpa using this); replace Accd := Lib.hid (belowTrans Accd.out hb6 (Nat.le_refl _)); replace Ka := Lib.hid (Ka.out.drew.keep hb6); replace Ot4 := Lib.hid (Ot4.out.drew.keep hb6); replace Mx0 := Lib.hid (Mx0.out.drew.keep hb6); obtain ⟨⟨z0, z1, z2⟩, z3, z4, z5⟩ := Mx0.out.cells; have Ot := Lib.hid hot; clear hot hb6) | (go_simp; with_reducible refine (Heq.out p4 pt c4 ct v6 Ot4.out.at Ot.out.at).mono ?_; rintro e v7 ⟨rfl, hb7⟩; have sz7 : v6.heap.size ≤ v7.heap.size := hb7.size; replace Accd := Lib.hid (belowTrans Accd.out hb7 (Nat.le_refl _)); replace Ka := Lib.hid (Ka.out.keep hb7); replace Ot4 := Lib.hid (Ot4.out.keep hb7); replace Mx0 := Lib.hid (Mx0.out.keep hb7); clear hb7))
  all_goals
    clear Acc hAd Ot z0 z1 z2 z3 z4 z5 x0 x1 x2 x3 x4 x5 u0 u1 u2 u3 u4 u5
    have Acc := Lib.hid Accd.out; clear Accd
    go_wp2_with fail
    go_ret
    exact ⟨rfl, Acc.out⟩

/-- The door's own heap meets the condition. -/
theorem door_met (os : Os) (args : Array Value) : laidMetH Tryd.prog Rows.fnExactBankOrbitRow.laid ((World.doorLaid Tryd.prog 4000 os).forCall (fun _ _ => 0) ⟨#[], args, []⟩).memory :=
  laidMetH_of_parts3 (fuel := 8) (laidMet_of_run' 8 (by kernel_rfl) (by kernel_rfl)) (by kernel_rfl) (by kernel_rfl)

/-! ### THE ROW's STEP: WRITTEN OUT: LEAVE IT -/
set_option maxRecDepth 100000 in
theorem lifted (os : Os) (started : os.Started) (H : Type) (enc : TypeId × Value → H) :
    ReturnsInHanded {} Tryd.checked os 3 .any (fun w args => (Rows.fnExactBankOrbitSpec.pre enc Tryd.prog Tryd.f3 [] false w args ∧ laidMetH Tryd.prog Rows.fnExactBankOrbitRow.laid w) ∧ sizedMet enc Tryd.prog Tryd.f3 (OpenSpec.ofChange Rows.fnExactBankOrbitSpec) false w args)
      (Rows.fnExactBankOrbitSpec.post enc Tryd.prog Tryd.f3 false true false false) := by
  refine returnsInHanded_of_change_and (C := Tryd.checked) (X := fun w _ => laidMetH Tryd.prog Rows.fnExactBankOrbitRow.laid w) (fun _ _ _ hh h => h.of_heap hh) own started (by kernel_rfl) Tryd.func3
    (ChangeSpec.witness_shaped (enc := enc) (C := Tryd.checked) (os := os) (X := fun w _ => laidMetH Tryd.prog Rows.fnExactBankOrbitRow.laid w) false (World.doorLaid Tryd.prog 4000 os) #[.agg #[.int .i64 0, .int .i64 0, .slice none 0 0]] 8 rfl (World.shaped_of_RefB (by kernel_rfl) (by kernel_rfl)) (by kernel_rfl) (by kernel_rfl) (by kernel_rfl) (door_met os _)) ?_
  intro W base args ds gs before hval0 hW _ _ hL _
  have hval : ∀ (j : Nat) t v, Tryd.f3.params[j]? = some t → args[j]? = some v → Value.okWide Tryd.prog W .any base t v := hval0
  have hW' := hW
  obtain ⟨p, q, hA0, hV, rfl, hfz, hnd⟩ := hW
  have hA : DataW.TrodAll enc Tryd.prog W 0 (fun _ => true) true Tryd.f3.params.toList args.toList ds p := hA0
  rw [Tryd.params3] at hA hval
  obtain ⟨v0, vs0, d0, ds0, p0, q0, hargs, rfl, rfl, h0, r0⟩ := trodAll_cons hA
  obtain ⟨rfl, rfl, rfl⟩ := trodAll_nil r0
  obtain rfl : args = #[v0] := by cases args; simp_all
  obtain ⟨rfl, rfl⟩ := trodVars_none hV
  have k0 := h0
  have lt0 : ∀ x ∈ p0, x.block < W.heap.size := by obtain ⟨m, hm⟩ := k0; exact DataW.trod_lt m _ _ _ hm
  obtain ⟨hh, ll, a0, len0, cap0, rfl, z0, w0⟩ : ∃ hh ll a len cap, v0 = .agg #[.int .i64 hh, .int .i64 ll, .slice a len cap] ∧ ∃ zs, IsRow .i64 W a len cap zs := by
    obtain ⟨c0, c1, c2, y0, y1, y2, m, rfl, _, _, hy0, hy1, hy2⟩ := open_agg3 Tryd.underlying24 (by kernel_rfl) (by kernel_rfl) (hval 0 24 v0 rfl rfl) h0
    obtain ⟨x, e0, _, wx⟩ := DataW.trod_int Tryd.underlying3 hy0
    obtain ⟨y, e1, _, wy⟩ := DataW.trod_int Tryd.underlying3 hy1
    simp at e0 e1
    subst e0 e1
    rcases open_ints Tryd.underlying22 Tryd.underlying3 (by kernel_rfl) hy2 with ⟨hcs, _⟩ | ⟨x', l', c', zs, hcs, _, hl, hm, hz, _, hcell, hwz⟩
    · simp at hcs
      subst hcs
      exact ⟨_, _, _, _, _, rfl, [], .inl ⟨rfl, rfl, rfl, rfl⟩⟩
    · simp at hcs
      subst hcs
      exact ⟨_, _, _, _, _, rfl, zs, .inr ⟨_, rfl, hl, hm, by simpa using hz, hcell, hwz⟩⟩
  clear hA0 hval0
  refine (walk hh ll a0 len0 cap0 z0 W w0).mono fun e W' ⟨he, bel⟩ => ?_
  subst he
  exact ⟨_, rfl, _, _, _, [], _, [], hW', trodAll_mk1 (shut_bool Tryd.underlying4 _), (trodAll_cons_mk (Below.trod laidOut (by kernel_rfl) (of_decide_eq_true (by kernel_rfl)) k0 bel lt0) trodAll_mk0), rfl, bel.frame _, fun h => by cases h⟩

theorem closedFacts : joinedFacts Tryd.prog 3 Tryd.f3 Rows.fnExactBankOrbitSpec Rows.fnExactBankOrbitRow = true := by
  unfold joinedFacts
  rw [head_enter, head_lifts, head_make]
  kernel_rfl
theorem closedHere : joinedFacts Tryd.pinned.checked.prog 3 Tryd.f3 Rows.fnExactBankOrbitSpec Rows.fnExactBankOrbitRow = true := by
  rw [progEq]
  exact closedFacts
theorem over : Rows.fnExactBankOrbitRow.holds Tryd.pinned (OpenSpec.ofChange Rows.fnExactBankOrbitSpec) :=
  OpenClaim.holds_of_wide 3 Tryd.f3 rfl rfl rfl rfl rfl rfl rfl ⟨rfl, rfl, rfl, rfl, rfl⟩ rfl rfl rfl rfl rfl (by kernel_rfl) Tryd.func3 closedHere
    (of_decide_eq_true (by kernel_rfl)) (by unfold Func.isWrapper; first | (rw [if_pos (by decide +kernel)]; kernel_rfl) | (rw [if_neg (by decide +kernel)]; exact ⟨rfl, rfl⟩))
    (fun os started H enc _ => lifted os started H enc)

/-- the tied card -/
theorem proved : Rows.FnExactBankOrbitCardSaid :=
  Claim7.holds_tied_plain_at .later [] [.data, .data, .data] true (true, "f445d0da6eb6a86359d04aa956839ff59e3d9af31a5f69436285211dc55a080d") true
    over (fun _ h => by cases h) (by kernel_rfl) (fun _ h => by cases h) fnExactBankOrbit_row_tie rfl ⟨rfl, rfl⟩ (by kernel_rfl) rfl
    (fun f fn hf hfn => by
      obtain rfl : f = 3 := Option.some.inj ((show Tryd.prog.funcNamed "loop.example/g01114/laws.FnExactBankOrbit" = some 3 by kernel_rfl).symm.trans hf) |>.symm
      obtain rfl : fn = Tryd.f3 := (Option.some.inj (Tryd.func3.symm.trans hfn)).symm
      exact ⟨by kernel_rfl, fun j t ht => by
        rw [Tryd.params3] at ht
        have hm : t ∈ [24] := by simpa using Array.mem_of_getElem? ht
        have hall : ([24].all fun u => !Tryd.prog.wantsStandIn u) = true := by kernel_rfl
        exact (show Tryd.prog.wantsStandIn t = false by simpa using List.all_eq_true.1 hall t hm)⟩)
    (by kernel_rfl)
#print axioms proved
end Go.Proofs.YtbkihnejgcebpaaDoor.fnExactBankOrbit
