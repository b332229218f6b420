/- FnExactBankCards: for every input the law returns true and leaves its arguments as they were. No condition. -/
import Derived.Test.YtmlkgnjenfonfaaRows
import Derived.WalkKit
import Derived.ProofKit
import Derived.OpenShut
import Derived.ShutString
import Derived.ChangeOld
import Derived.Below
import Derived.Lib.SmallJoins
import Derived.Test.YtmlkgnjenfonfaaHead
import Derived.Test.YtmlkgnjenfonfaaBaH
import Derived.Test.YtmlkgnjenfonfaaBaA
import Derived.Test.YtmlkgnjenfonfaaBaL
namespace Go.Proofs.Ytmlkgnjenfonfaa.fnExactBankCards
set_option linter.unusedSimpArgs false
open Go.Joins Go.ChangeShapes Go.WideShapes Go.ChangeAt Go.RowKit
open Go.ChangeMaps (open_string shut_string)
set_option linter.unusedVariables false

theorem own : ownKnob Try.prog.godebug = none := by kernel_rfl
theorem laidOut : laidOutB Try.prog = true := by kernel_rfl

/-- WHAT THE WALK IS TOLD OF A SLICE OF INTEGERS THAT CAME IN: it is nil; or it leads to a row of 'cap' cells, the numbers 'zs' (the first 'len' are its elements, the rest its spare room), each fitting its kind. -/
def IsRow (k : IntKind) (w : World) (a : Option Addr) (len cap : Nat) (zs : List Int) : Prop :=
  (a = none ∧ len = 0 ∧ cap = 0 ∧ zs = []) ∨
  ∃ x, a = some x ∧ len ≤ cap ∧ cap ≤ maxLen ∧ zs.length = cap ∧ (∀ i, i < zs.length → w.cell? (x.add i) = some (.int k (zs.getD i 0))) ∧ ∀ n ∈ zs, (Lit.int k n).wf = true

/-! ### THE WALK: the Go text returns true, AND WRITES NOTHING THAT WAS THERE: 'Below w.heap.size w w'' (Derived/Below.lean: '.refl', '.alloc', '.drew', '.setCell' at a new block, '.trans'). Open each 'IsRow' by 'rcases' AHEAD of 'go_enter'; part every test ahead of the walk. -/
set_option maxHeartbeats 4000000 in
set_option maxRecDepth 100000 in
theorem walk (h0 l0 : Int) (a0 : Option Addr) (len0 cap0 : Nat) (z0 : List Int) (w : World) (w0 : IsRow .i64 w a0 len0 cap0 z0) :
    Calls Try.prog 4 #[.agg #[.int .i64 h0, .int .i64 l0, .slice a0 len0 cap0]] w fun e w' => e = .returned (.bool true) ∧ Below w.heap.size w w' := by
  have hA0 := intsAt_row w0
  generalize z0.take len0 = xs0 at hA0
  clear w0
  have hbA := belowAlloc w (.cells #[.int .i64 h0, .int .i64 l0, .slice a0 len0 cap0] 24)
  have bA := Blk.new w h0 l0 a0 len0 cap0 24
  by_cases hbig0 : 1048576 < len0
  · have hz := szBankN h0 l0 a0 len0 cap0 hbig0 hA0.lenInt
    clear hA0 bA
    have Hz := Lib.hid hz; clear hz
    have HbA := Lib.hid hbA; clear hbA
    have Hbig := Lib.hid hbig0; clear hbig0
    go_enter Try.func4, Try.ntmps4
    go_wp2_with fail
    with_reducible refine (Hz.out _).mono ?_
    rintro e w1 ⟨rfl, hb1⟩
    have hbb := Lib.hid (belowTrans HbA.out hb1 (Nat.le_refl _)); clear hb1
    go_wp2
    go_ret
    exact ⟨rfl, hbb.out⟩
  have hle : len0 ≤ 1048576 := by omega
  have hz := szBankL h0 l0 a0 len0 cap0 hle
  have hto := toBankL h0 l0 a0 len0 cap0 xs0 hle
  have heq := fun ao bo c c' W (h1 : IntsAt W ao len0 c xs0) (h2 : IntsAt W bo len0 c' xs0) => eqBankL h0 l0 h0 l0 ao bo len0 len0 c c' xs0 xs0 W h1 h2 ⟨rfl, rfl, rfl⟩
  have hs : ∀ ao c W, IntsAt W ao len0 c xs0 → Calls Try.prog 19 #[.agg #[.int .i64 h0, .int .i64 l0, .slice ao len0 c]] W fun e w' => e = .returned (.tuple #[.int .i64 (mBankCards ⟨h0, l0, xs0⟩).1, .bool (mBankCards ⟨h0, l0, xs0⟩).2]) ∧ Below W.heap.size W w' := fun ao c W h => spec_BankCards h0 l0 ao len0 c xs0 W h
  have hi : ∀ ao c W, IntsAt W ao len0 c xs0 → Calls Try.prog 20 #[.agg #[.int .i64 h0, .int .i64 l0, .slice ao len0 c]] W fun e w' => e = .returned (.tuple #[.int .i64 (mBankCards ⟨h0, l0, xs0⟩).1, .bool (mBankCards ⟨h0, l0, xs0⟩).2]) ∧ Below W.heap.size W w' := fun ao c W h => impl_BankCards h0 l0 ao len0 c xs0 W h
  generalize (mBankCards ⟨h0, l0, xs0⟩).1 = N at hs hi
  generalize (mBankCards ⟨h0, l0, xs0⟩).2 = R at hs hi
  have hAA := hA0.keep hbA
  clear hA0 hbig0
  have Hz := Lib.hid hz; clear hz
  have Hto := Lib.hid hto; clear hto
  have Heq := Lib.hid heq; clear heq
  have Hs := Lib.hid hs; clear hs
  have Hi := Lib.hid hi; clear hi
  have HbA := Lib.hid hbA; clear hbA
  have HAA := Lib.hid hAA; clear hAA
  have BA := Lib.hid bA; clear bA
  go_enter Try.func4, Try.ntmps4
  go_wp2_with fail
  with_reducible refine (Hz.out _).mono ?_
  rintro e w1 ⟨rfl, hb1⟩
  have acc1 := belowTrans HbA.out hb1 (Nat.le_refl _)
  have ha1 := HAA.out.keep hb1
  have k1 := BA.out.keep hb1
  obtain ⟨⟨x0, x1, x2⟩, y0, y1, y2⟩ := k1.cells
  clear hb1 HbA HAA BA
  have Acc1 := Lib.hid acc1; clear acc1
  have Ha1 := Lib.hid ha1; clear ha1
  have K1 := Lib.hid k1; clear k1
  go_wp2_with fail
  -- the input anew, and the specification's answer
  with_reducible refine (Hto.out _ Ha1.out).mono ?_
  rintro e w2 ⟨p2, c2, rfl, ho2, hb2⟩
  have acc2 := belowTrans Acc1.out hb2 (Nat.le_refl _)
  have ha2 := Ha1.out.keep hb2
  have k2 := K1.out.keep hb2
  clear x0 x1 x2 y0 y1 y2 hb2 Acc1 Ha1 K1
  have Acc2 := Lib.hid acc2; clear acc2
  have Ha2 := Lib.hid ha2; clear ha2
  have K2 := Lib.hid k2; clear k2
  have Ho2 := Lib.hid ho2; clear ho2
  go_wp2_with fail
  with_reducible refine (Hs.out _ _ _ Ho2.out.at).mono ?_
  rintro e w3 ⟨rfl, hb3⟩
  have acc3 := belowTrans Acc2.out hb3 (Nat.le_refl _)
  have ha3 := Ha2.out.keep hb3
  have k3 := K2.out.keep hb3
  obtain ⟨⟨x0, x1, x2⟩, y0, y1, y2⟩ := k3.cells
  clear hb3 Acc2 Ha2 K2 Ho2
  have Acc3 := Lib.hid acc3; clear acc3
  have Ha3 := Lib.hid ha3; clear ha3
  have K3 := Lib.hid k3; clear k3
  go_wp2_with fail
  with_reducible refine (Hto.out _ Ha3.out).mono ?_
  rintro e w4 ⟨p4, c4, rfl, ho4, hb4⟩
  have hbn := belowAlloc w4 (.cells #[.int .i64 h0, .int .i64 l0, .slice p4 len0 c4] 27)
  have hb5 := belowTrans hb4 hbn (Nat.le_refl _)
  have acc5 := belowTrans Acc3.out hb5 (Nat.le_refl _)
  have ha5 := Ha3.out.keep hb5
  have k5 := K3.out.keep hb5
  have ho5 := ho4.keep hbn
  have m5 := Blk.new w4 h0 l0 p4 len0 c4 27
  clear x0 x1 x2 y0 y1 y2 hb4 hbn hb5 Acc3 Ha3 K3 ho4
  have Acc5 := Lib.hid acc5; clear acc5
  have Ha5 := Lib.hid ha5; clear ha5
  have K5 := Lib.hid k5; clear k5
  have Ho5 := Lib.hid ho5; clear ho5
  have M5 := Lib.hid m5; clear m5
  go_wp2_with fail
  with_reducible refine (Hi.out _ _ _ Ho5.out.at).mono ?_
  rintro e w6 ⟨rfl, hb6⟩
  have acc6 := belowTrans Acc5.out hb6 (Nat.le_refl _)
  have ha6 := Ha5.out.keep hb6
  have k6 := K5.out.keep hb6
  have m6 := M5.out.keep hb6
  have ho6 := Ho5.out.keep hb6
  obtain ⟨⟨x0, x1, x2⟩, y0, y1, y2⟩ := k6.cells
  obtain ⟨⟨u0, u1, u2⟩, v0, v1, v2⟩ := m6.cells
  have hrr : (R != R) = false := by simp
  have hnn : (N != N) = false := by simp
  clear hb6 Acc5 Ha5 K5 Ho5 M5
  have Acc6 := Lib.hid acc6; clear acc6
  have Ha6 := Lib.hid ha6; clear ha6
  have K6 := Lib.hid k6; clear k6
  have Ho6 := Lib.hid ho6; clear ho6
  have M6 := Lib.hid m6; clear m6
  go_wp2_with fail
  have ha6' : IntsAt w6.drew a0 len0 cap0 xs0 := ⟨Ha6.out.length, Ha6.out.le, Ha6.out.max, Ha6.out.isNil, Ha6.out.cell⟩
  have Ha6' := Lib.hid ha6'; clear ha6'
  have acc6' : Below w.heap.size w w6.drew := Acc6.out.drew
  have Acc6' := Lib.hid acc6'; clear acc6'
  go_region_law (first | (go_simp; with_reducible refine (Hto.out w6.drew Ha6'.out).mono ?_; rintro e w7 ⟨p7, c7, rfl, ho7, hb7⟩; have Acc7 := Lib.hid (belowTrans Acc6'.out hb7 (Nat.le_refl _)); have Ho7 := Lib.hid ho7; have Hp7 := Lib.hid (Ho6.out.drew.keep hb7); obtain ⟨⟨z0, z1, z2⟩, t0, t1, t2⟩ := (M6.out.drew.keep hb7).cells; clear ho7 hb7) | (go_simp; with_reducible refine (Heq.out p4 p7 c4 c7 w7 Hp7.out.at Ho7.out.at).mono ?_; rintro e w8 ⟨rfl, hb8⟩; have Acc8 := Lib.hid (belowTrans Acc7.out hb8 (Nat.le_refl _)); clear hb8))
  all_goals
    go_wp2
    go_ret
    exact ⟨rfl, Acc8.out⟩

/-! ### THE ROW's STEP: WRITTEN OUT: LEAVE IT -/
set_option maxRecDepth 100000 in
theorem lifted (os : Os) (started : os.Started) (H : Type) (enc : TypeId × Value → H) :
    ReturnsInHanded {} Try.checked os 4 .any (Rows.fnExactBankCardsSpec.pre6 enc Try.prog Try.f4 Rows.fnExactBankCardsRow.domain false) (Rows.fnExactBankCardsSpec.post enc Try.prog Try.f4 false true false false) := by
  refine returnsInHanded_of_change (C := Try.checked) own started (by kernel_rfl) Try.func4
    (ChangeSpec.witness6 (enc := enc) (C := Try.checked) false ⟨#[], #[.agg #[.int .i64 0, .int .i64 0, .slice none 0 0]], []⟩ 8 (by kernel_rfl) (by kernel_rfl) (by kernel_rfl) (by kernel_rfl)) ?_
  intro W base args ds gs before hval0 hW hcnd _
  have hval : ∀ (j : Nat) t v, Try.f4.params[j]? = some t → args[j]? = some v → Value.okWide Try.prog W .any base t v := hval0
  have hW' := hW
  obtain ⟨p, q, hA0, hV, rfl, hfz, hnd⟩ := hW
  have hA : DataW.TrodAll enc Try.prog W 0 (fun _ => true) true Try.f4.params.toList args.toList ds p := hA0
  rw [Try.params4] at hA hval
  obtain ⟨v0, vs0, d0, ds0, p0, q0, hargs, rfl, rfl, h0, r0⟩ := trodAll_cons hA
  obtain ⟨rfl, rfl, rfl⟩ := trodAll_nil r0
  obtain rfl : args = #[v0] := by cases args; simp_all
  obtain ⟨rfl, rfl⟩ := trodVars_none hV
  have k0 := h0
  have lt0 : ∀ x ∈ p0, x.block < W.heap.size := by obtain ⟨m, hm⟩ := k0; exact DataW.trod_lt m _ _ _ hm
  obtain ⟨hh, ll, a0, len0, cap0, rfl, z0, w0⟩ : ∃ hh ll a len cap, v0 = .agg #[.int .i64 hh, .int .i64 ll, .slice a len cap] ∧ ∃ zs, IsRow .i64 W a len cap zs := by
    obtain ⟨c0, c1, c2, y0, y1, y2, m, rfl, _, _, hy0, hy1, hy2⟩ := open_agg3 Try.underlying24 (by kernel_rfl) (by kernel_rfl) (hval 0 24 v0 rfl rfl) h0
    obtain ⟨x, e0, _, wx⟩ := DataW.trod_int Try.underlying3 hy0
    obtain ⟨y, e1, _, wy⟩ := DataW.trod_int Try.underlying3 hy1
    simp at e0 e1
    subst e0 e1
    rcases open_ints Try.underlying22 Try.underlying3 (by kernel_rfl) hy2 with ⟨hcs, _⟩ | ⟨x', l', c', zs, hcs, _, hl, hm, hz, _, hcell, hwz⟩
    · simp at hcs
      subst hcs
      exact ⟨_, _, _, _, _, rfl, [], .inl ⟨rfl, rfl, rfl, rfl⟩⟩
    · simp at hcs
      subst hcs
      exact ⟨_, _, _, _, _, rfl, zs, .inr ⟨_, rfl, hl, hm, by simpa using hz, hcell, hwz⟩⟩
  clear hA0 hval0
  refine (walk hh ll a0 len0 cap0 z0 W w0).mono fun e W' ⟨he, bel⟩ => ?_
  subst he
  exact ⟨_, rfl, _, _, _, [], _, [], hW', trodAll_mk1 (shut_bool Try.underlying4 _), (trodAll_cons_mk (Below.trod laidOut (by kernel_rfl) (of_decide_eq_true (by kernel_rfl)) k0 bel lt0) trodAll_mk0), rfl, bel.frame _, fun h => by cases h⟩

theorem closedFacts : joinedFacts Try.prog 4 Try.f4 Rows.fnExactBankCardsSpec Rows.fnExactBankCardsRow = true := by
  unfold joinedFacts
  rw [head_enter, head_lifts, head_make]
  kernel_rfl
theorem closedHere : joinedFacts Try.pinned.checked.prog 4 Try.f4 Rows.fnExactBankCardsSpec Rows.fnExactBankCardsRow = true := by
  rw [progEq]
  exact closedFacts
theorem over : Rows.fnExactBankCardsRow.holds Try.pinned (OpenSpec.ofChange Rows.fnExactBankCardsSpec) :=
  OpenClaim.holds_of_wide 4 Try.f4 rfl rfl rfl rfl rfl rfl rfl ⟨rfl, rfl, rfl, rfl, rfl⟩ rfl rfl rfl rfl rfl (by kernel_rfl) Try.func4 closedHere
    (of_decide_eq_true (by kernel_rfl)) (by unfold Func.isWrapper; first | (rw [if_pos (by decide +kernel)]; kernel_rfl) | (rw [if_neg (by decide +kernel)]; exact ⟨rfl, rfl⟩))
    (fun os started H enc _ => lifted os started H enc)

/-- ████ THE STATEMENT ████ -/
theorem proved : Rows.FnExactBankCardsSaid := over
#print axioms proved
end Go.Proofs.Ytmlkgnjenfonfaa.fnExactBankCards
