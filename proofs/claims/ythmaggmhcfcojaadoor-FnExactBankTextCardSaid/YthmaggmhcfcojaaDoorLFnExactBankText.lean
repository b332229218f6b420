/- FnExactBankText: for every input the law returns true and leaves its arguments as they were. No condition. -/
import Derived.Test.YthmaggmhcfcojaaDoorRows
import Derived.Test.YthmaggmhcfcojaaDoorCards
import Derived.Test.YthmaggmhcfcojaaDoorTie
import Derived.WalkKit
import Derived.LaidMore
import Derived.Stop.Joined
import Derived.SevenTiedAt
import Derived.ProofKit
import Derived.OpenShut
import Derived.ShutString
import Derived.ChangeOld
import Derived.Below
import Derived.Lib.SmallJoins
import Derived.Test.YthmaggmhcfcojaaDoorHead
import Derived.Test.YthmaggmhcfcojaaDoorHelp
import Derived.Test.YthmaggmhcfcojaaDoorBtA
namespace Go.Proofs.YthmaggmhcfcojaaDoor.fnExactBankText
set_option linter.unusedSimpArgs false
open Go.Joins Go.ChangeShapes Go.WideShapes Go.ChangeAt Go.RowKit
open Go.ChangeMaps (open_string shut_string)
set_option linter.unusedVariables false

theorem own : ownKnob Tryd.prog.godebug = none := by kernel_rfl
theorem laidOut : laidOutB Tryd.prog = true := by kernel_rfl

/-- WHAT THE WALK IS TOLD OF A SLICE OF INTEGERS THAT CAME IN: it is nil; or it leads to a row of 'cap' cells, the numbers 'zs' (the first 'len' are its elements, the rest its spare room), each fitting its kind. -/
def IsRow (k : IntKind) (w : World) (a : Option Addr) (len cap : Nat) (zs : List Int) : Prop :=
  (a = none ∧ len = 0 ∧ cap = 0 ∧ zs = []) ∨
  ∃ x, a = some x ∧ len ≤ cap ∧ cap ≤ maxLen ∧ zs.length = cap ∧ (∀ i, i < zs.length → w.cell? (x.add i) = some (.int k (zs.getD i 0))) ∧ ∀ n ∈ zs, (Lit.int k n).wf = true

/-! ### THE WALK: the Go text returns true, AND WRITES NOTHING THAT WAS THERE: 'Below w.heap.size w w'' (Derived/Below.lean: '.refl', '.alloc', '.drew', '.setCell' at a new block, '.trans'). Open each 'IsRow' by 'rcases' AHEAD of 'go_enter'; part every test ahead of the walk. -/
set_option maxHeartbeats 4000000 in
set_option maxRecDepth 100000 in
theorem walk (h0 l0 : Int) (a0 : Option Addr) (len0 cap0 : Nat) (z0 : List Int) (w : World) (w0 : IsRow .i64 w a0 len0 cap0 z0) :
    Calls Tryd.prog 5 #[.agg #[.int .i64 h0, .int .i64 l0, .slice a0 len0 cap0]] w fun e w' => e = .returned (.bool true) ∧ Below w.heap.size w w' := by
  have hA0 := intsAt_row w0
  generalize z0.take len0 = xs0 at hA0
  clear w0
  have hbA := belowAlloc w (.cells #[.int .i64 h0, .int .i64 l0, .slice a0 len0 cap0] 33)
  have bA := Blk.new w h0 l0 a0 len0 cap0 33
  by_cases hbig0 : 1048576 < len0
  · have hz := szBankN h0 l0 a0 len0 cap0 hbig0 hA0.lenInt
    clear hA0 bA
    have Hz := Lib.hid hz; clear hz
    have HbA := Lib.hid hbA; clear hbA
    have Hbig := Lib.hid hbig0; clear hbig0
    go_enter Tryd.func5, Tryd.ntmps5
    go_wp2_with fail
    with_reducible refine (Hz.out _).mono ?_
    rintro e w1 ⟨rfl, hb1⟩
    have hbb := Lib.hid (belowTrans HbA.out hb1 (Nat.le_refl _)); clear hb1
    go_wp2
    go_ret
    exact ⟨rfl, hbb.out⟩
  have hle : len0 ≤ 1048576 := by omega
  have hz := szBankL h0 l0 a0 len0 cap0 hle
  have hto := toBankL h0 l0 a0 len0 cap0 xs0 hle
  have heq := fun ao bo c c' W (h1 : IntsAt W ao len0 c xs0) (h2 : IntsAt W bo len0 c' xs0) => eqBankL h0 l0 h0 l0 ao bo len0 len0 c c' xs0 xs0 W h1 h2 ⟨rfl, rfl, rfl⟩
  have hs : ∀ ao c W, IntsAt W ao len0 c xs0 → Calls Tryd.prog 16 #[.agg #[.int .i64 h0, .int .i64 l0, .slice ao len0 c]] W fun e w' => e = .returned (.tuple #[.string ⟨(mBankText ⟨h0, l0, xs0⟩).1.toArray⟩, .bool (mBankText ⟨h0, l0, xs0⟩).2]) ∧ Below W.heap.size W w' := fun ao c W h => spec_BankText h0 l0 ao len0 c xs0 W h
  have hi : ∀ ao c W, IntsAt W ao len0 c xs0 → Calls Tryd.prog 18 #[.agg #[.int .i64 h0, .int .i64 l0, .slice ao len0 c]] W fun e w' => e = .returned (.tuple #[.string ⟨(mBankText ⟨h0, l0, xs0⟩).1.toArray⟩, .bool (mBankText ⟨h0, l0, xs0⟩).2]) ∧ Below W.heap.size W w' := fun ao c W h => impl_BankText h0 l0 ao len0 c xs0 W h
  generalize (mBankText ⟨h0, l0, xs0⟩).1 = N at hs hi
  generalize (mBankText ⟨h0, l0, xs0⟩).2 = R at hs hi
  have hAA := hA0.keep hbA
  clear hA0 hbig0
  have Hz := Lib.hid hz; clear hz
  have Hto := Lib.hid hto; clear hto
  have Heq := Lib.hid heq; clear heq
  have Hs := Lib.hid hs; clear hs
  have Hi := Lib.hid hi; clear hi
  have HbA := Lib.hid hbA; clear hbA
  have HAA := Lib.hid hAA; clear hAA
  have BA := Lib.hid bA; clear bA
  go_enter Tryd.func5, Tryd.ntmps5
  go_wp2_with fail
  with_reducible refine (Hz.out _).mono ?_
  rintro e w1 ⟨rfl, hb1⟩
  have acc1 := belowTrans HbA.out hb1 (Nat.le_refl _)
  have ha1 := HAA.out.keep hb1
  have k1 := BA.out.keep hb1
  obtain ⟨⟨x0, x1, x2⟩, y0, y1, y2⟩ := k1.cells
  clear hb1 HbA HAA BA
  have Acc1 := Lib.hid acc1; clear acc1
  have Ha1 := Lib.hid ha1; clear ha1
  have K1 := Lib.hid k1; clear k1
  go_wp2_with fail
  -- the input anew, and the specification's answer
  with_reducible refine (Hto.out _ Ha1.out).mono ?_
  rintro e w2 ⟨p2, c2, rfl, ho2, hb2⟩
  have acc2 := belowTrans Acc1.out hb2 (Nat.le_refl _)
  have ha2 := Ha1.out.keep hb2
  have k2 := K1.out.keep hb2
  clear x0 x1 x2 y0 y1 y2 hb2 Acc1 Ha1 K1
  have Acc2 := Lib.hid acc2; clear acc2
  have Ha2 := Lib.hid ha2; clear ha2
  have K2 := Lib.hid k2; clear k2
  have Ho2 := Lib.hid ho2; clear ho2
  go_wp2_with fail
  with_reducible refine (Hs.out _ _ _ Ho2.out.at).mono ?_
  rintro e w3 ⟨rfl, hb3⟩
  have acc3 := belowTrans Acc2.out hb3 (Nat.le_refl _)
  have ha3 := Ha2.out.keep hb3
  have k3 := K2.out.keep hb3
  obtain ⟨⟨x0, x1, x2⟩, y0, y1, y2⟩ := k3.cells
  clear hb3 Acc2 Ha2 K2 Ho2
  have Acc3 := Lib.hid acc3; clear acc3
  have Ha3 := Lib.hid ha3; clear ha3
  have K3 := Lib.hid k3; clear k3
  go_wp2_with fail
  with_reducible refine (Hto.out _ Ha3.out).mono ?_
  rintro e w4 ⟨p4, c4, rfl, ho4, hb4⟩
  have hbn := belowAlloc w4 (.cells #[.int .i64 h0, .int .i64 l0, .slice p4 len0 c4] 36)
  have hb5 := belowTrans hb4 hbn (Nat.le_refl _)
  have acc5 := belowTrans Acc3.out hb5 (Nat.le_refl _)
  have ha5 := Ha3.out.keep hb5
  have k5 := K3.out.keep hb5
  have ho5 := ho4.keep hbn
  have m5 := Blk.new w4 h0 l0 p4 len0 c4 36
  clear x0 x1 x2 y0 y1 y2 hb4 hbn hb5 Acc3 Ha3 K3 ho4
  have Acc5 := Lib.hid acc5; clear acc5
  have Ha5 := Lib.hid ha5; clear ha5
  have K5 := Lib.hid k5; clear k5
  have Ho5 := Lib.hid ho5; clear ho5
  have M5 := Lib.hid m5; clear m5
  go_wp2_with fail
  with_reducible refine (Hi.out _ _ _ Ho5.out.at).mono ?_
  rintro e w6 ⟨rfl, hb6⟩
  have acc6 := belowTrans Acc5.out hb6 (Nat.le_refl _)
  have ha6 := Ha5.out.keep hb6
  have k6 := K5.out.keep hb6
  have m6 := M5.out.keep hb6
  have ho6 := Ho5.out.keep hb6
  obtain ⟨⟨x0, x1, x2⟩, y0, y1, y2⟩ := k6.cells
  obtain ⟨⟨u0, u1, u2⟩, v0, v1, v2⟩ := m6.cells
  have hrr : (R != R) = false := by simp
  clear hb6 Acc5 Ha5 K5 Ho5 M5
  have Acc6 := Lib.hid acc6; clear acc6
  have Ha6 := Lib.hid ha6; clear ha6
  have K6 := Lib.hid k6; clear k6
  have Ho6 := Lib.hid ho6; clear ho6
  have M6 := Lib.hid m6; clear m6
  go_wp2_with fail
  have ha6' : IntsAt w6.drew a0 len0 cap0 xs0 := ⟨Ha6.out.length, Ha6.out.le, Ha6.out.max, Ha6.out.isNil, Ha6.out.cell⟩
  have Ha6' := Lib.hid ha6'; clear ha6'
  have acc6' : Below w.heap.size w w6.drew := Acc6.out.drew
  have Acc6' := Lib.hid acc6'; clear acc6'
  go_region_law (first | (go_simp; with_reducible refine (Hto.out w6.drew Ha6'.out).mono ?_; rintro e w7 ⟨p7, c7, rfl, ho7, hb7⟩; have Acc7 := Lib.hid (belowTrans Acc6'.out hb7 (Nat.le_refl _)); have Ho7 := Lib.hid ho7; have Hp7 := Lib.hid (Ho6.out.drew.keep hb7); obtain ⟨⟨z0, z1, z2⟩, t0, t1, t2⟩ := (M6.out.drew.keep hb7).cells; clear ho7 hb7) | (go_simp; with_reducible refine (Heq.out p4 p7 c4 c7 w7 Hp7.out.at Ho7.out.at).mono ?_; rintro e w8 ⟨rfl, hb8⟩; have Acc8 := Lib.hid (belowTrans Acc7.out hb8 (Nat.le_refl _)); clear hb8))
  all_goals
    go_wp2
    go_ret
    exact ⟨rfl, Acc8.out⟩

/-- The door's own heap meets the condition. -/
theorem door_met (os : Os) (args : Array Value) : laidMetH Tryd.prog Rows.fnExactBankTextRow.laid ((World.doorLaid Tryd.prog 4000 os).forCall (fun _ _ => 0) ⟨#[], args, []⟩).memory :=
  laidMetH_of_parts3 (fuel := 8) (laidMet_of_run' 8 (by kernel_rfl) (by kernel_rfl)) (by kernel_rfl) (by kernel_rfl)

/-! ### THE ROW's STEP: WRITTEN OUT: LEAVE IT -/
set_option maxRecDepth 100000 in
theorem lifted (os : Os) (started : os.Started) (H : Type) (enc : TypeId × Value → H) :
    ReturnsInHanded {} Tryd.checked os 5 .any (fun w args => (Rows.fnExactBankTextSpec.pre enc Tryd.prog Tryd.f5 [] false w args ∧ laidMetH Tryd.prog Rows.fnExactBankTextRow.laid w) ∧ sizedMet enc Tryd.prog Tryd.f5 (OpenSpec.ofChange Rows.fnExactBankTextSpec) false w args)
      (Rows.fnExactBankTextSpec.post enc Tryd.prog Tryd.f5 false true false false) := by
  refine returnsInHanded_of_change_and (C := Tryd.checked) (X := fun w _ => laidMetH Tryd.prog Rows.fnExactBankTextRow.laid w) (fun _ _ _ hh h => h.of_heap hh) own started (by kernel_rfl) Tryd.func5
    (ChangeSpec.witness_shaped (enc := enc) (C := Tryd.checked) (os := os) (X := fun w _ => laidMetH Tryd.prog Rows.fnExactBankTextRow.laid w) false (World.doorLaid Tryd.prog 4000 os) #[.agg #[.int .i64 0, .int .i64 0, .slice none 0 0]] 8 rfl (World.shaped_of_RefB (by kernel_rfl) (by kernel_rfl)) (by kernel_rfl) (by kernel_rfl) (by kernel_rfl) (door_met os _)) ?_
  intro W base args ds gs before hval0 hW _ _ hL _
  have hval : ∀ (j : Nat) t v, Tryd.f5.params[j]? = some t → args[j]? = some v → Value.okWide Tryd.prog W .any base t v := hval0
  have hW' := hW
  obtain ⟨p, q, hA0, hV, rfl, hfz, hnd⟩ := hW
  have hA : DataW.TrodAll enc Tryd.prog W 0 (fun _ => true) true Tryd.f5.params.toList args.toList ds p := hA0
  rw [Tryd.params5] at hA hval
  obtain ⟨v0, vs0, d0, ds0, p0, q0, hargs, rfl, rfl, h0, r0⟩ := trodAll_cons hA
  obtain ⟨rfl, rfl, rfl⟩ := trodAll_nil r0
  obtain rfl : args = #[v0] := by cases args; simp_all
  obtain ⟨rfl, rfl⟩ := trodVars_none hV
  have k0 := h0
  have lt0 : ∀ x ∈ p0, x.block < W.heap.size := by obtain ⟨m, hm⟩ := k0; exact DataW.trod_lt m _ _ _ hm
  obtain ⟨hh, ll, a0, len0, cap0, rfl, z0, w0⟩ : ∃ hh ll a len cap, v0 = .agg #[.int .i64 hh, .int .i64 ll, .slice a len cap] ∧ ∃ zs, IsRow .i64 W a len cap zs := by
    obtain ⟨c0, c1, c2, y0, y1, y2, m, rfl, _, _, hy0, hy1, hy2⟩ := open_agg3 Tryd.underlying33 (by kernel_rfl) (by kernel_rfl) (hval 0 33 v0 rfl rfl) h0
    obtain ⟨x, e0, _, wx⟩ := DataW.trod_int Tryd.underlying3 hy0
    obtain ⟨y, e1, _, wy⟩ := DataW.trod_int Tryd.underlying3 hy1
    simp at e0 e1
    subst e0 e1
    rcases open_ints Tryd.underlying22 Tryd.underlying3 (by kernel_rfl) hy2 with ⟨hcs, _⟩ | ⟨x', l', c', zs, hcs, _, hl, hm, hz, _, hcell, hwz⟩
    · simp at hcs
      subst hcs
      exact ⟨_, _, _, _, _, rfl, [], .inl ⟨rfl, rfl, rfl, rfl⟩⟩
    · simp at hcs
      subst hcs
      exact ⟨_, _, _, _, _, rfl, zs, .inr ⟨_, rfl, hl, hm, by simpa using hz, hcell, hwz⟩⟩
  clear hA0 hval0
  refine (walk hh ll a0 len0 cap0 z0 W w0).mono fun e W' ⟨he, bel⟩ => ?_
  subst he
  exact ⟨_, rfl, _, _, _, [], _, [], hW', trodAll_mk1 (shut_bool Tryd.underlying4 _), (trodAll_cons_mk (Below.trod laidOut (by kernel_rfl) (of_decide_eq_true (by kernel_rfl)) k0 bel lt0) trodAll_mk0), rfl, bel.frame _, fun h => by cases h⟩

theorem closedFacts : joinedFacts Tryd.prog 5 Tryd.f5 Rows.fnExactBankTextSpec Rows.fnExactBankTextRow = true := by
  unfold joinedFacts
  rw [head_enter, head_lifts, head_make]
  kernel_rfl
theorem closedHere : joinedFacts Tryd.pinned.checked.prog 5 Tryd.f5 Rows.fnExactBankTextSpec Rows.fnExactBankTextRow = true := by
  rw [progEq]
  exact closedFacts
theorem over : Rows.fnExactBankTextRow.holds Tryd.pinned (OpenSpec.ofChange Rows.fnExactBankTextSpec) :=
  OpenClaim.holds_of_wide 5 Tryd.f5 rfl rfl rfl rfl rfl rfl rfl ⟨rfl, rfl, rfl, rfl, rfl⟩ rfl rfl rfl rfl rfl (by kernel_rfl) Tryd.func5 closedHere
    (of_decide_eq_true (by kernel_rfl)) (by unfold Func.isWrapper; first | (rw [if_pos (by decide +kernel)]; kernel_rfl) | (rw [if_neg (by decide +kernel)]; exact ⟨rfl, rfl⟩))
    (fun os started H enc _ => lifted os started H enc)

/-- the tied card -/
theorem proved : Rows.FnExactBankTextCardSaid :=
  Claim7.holds_tied_plain_at .later [] [.data, .data, .data] true (true, "68909edbb62b6bc2a30fe815769e9c53bc95b49ff2e7c21b3d162999301ed11a") true
    over (fun _ h => by cases h) (by kernel_rfl) (fun _ h => by cases h) fnExactBankText_row_tie rfl ⟨rfl, rfl⟩ (by kernel_rfl) rfl
    (fun f fn hf hfn => by
      obtain rfl : f = 5 := Option.some.inj ((show Tryd.prog.funcNamed "loop.example/g01114/laws.FnExactBankText" = some 5 by kernel_rfl).symm.trans hf) |>.symm
      obtain rfl : fn = Tryd.f5 := (Option.some.inj (Tryd.func5.symm.trans hfn)).symm
      exact ⟨by kernel_rfl, fun j t ht => by
        rw [Tryd.params5] at ht
        have hm : t ∈ [33] := by simpa using Array.mem_of_getElem? ht
        have hall : ([33].all fun u => !Tryd.prog.wantsStandIn u) = true := by kernel_rfl
        exact (show Tryd.prog.wantsStandIn t = false by simpa using List.all_eq_true.1 hall t hm)⟩)
    (by kernel_rfl)
#print axioms proved
end Go.Proofs.YthmaggmhcfcojaaDoor.fnExactBankText
