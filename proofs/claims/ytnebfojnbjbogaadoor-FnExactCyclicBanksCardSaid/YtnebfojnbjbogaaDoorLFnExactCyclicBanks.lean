/- FnExactCyclicBanks: for every input the law returns true and leaves its arguments as they were. No condition. -/
import Derived.Test.YtnebfojnbjbogaaDoorRows
import Derived.Test.YtnebfojnbjbogaaDoorCards
import Derived.Test.YtnebfojnbjbogaaDoorTie
import Derived.WalkKit
import Derived.LaidMore
import Derived.Stop.Joined
import Derived.SevenTiedAt
import Derived.ProofKit
import Derived.OpenShut
import Derived.ShutString
import Derived.ChangeOld
import Derived.Below
import Derived.Test.YtnebfojnbjbogaaDoorHead
import Derived.Test.YtnebfojnbjbogaaDoorCyS
import Derived.Test.YtnebfojnbjbogaaDoorGc
import Derived.Test.YtnebfojnbjbogaaDoorHelp
namespace Go.Proofs.YtnebfojnbjbogaaDoor.fnExactCyclicBanks
set_option linter.unusedSimpArgs false
open Go.ChangeShapes Go.WideShapes Go.ChangeAt Go.RowKit
open Go.ChangeMaps (open_string shut_string)
set_option linter.unusedVariables false      -- a walk need not use every 'w<i>' (that an integer argument fits its kind)

theorem own : ownKnob Tryd.prog.godebug = none := by kernel_rfl

/-! ### THE WALK -/
set_option maxHeartbeats 4000000 in
set_option maxRecDepth 100000 in
theorem walk (a0 : Int) (a1 : Int) (w0 : (Lit.int .i64 a0).wf = true) (w1 : (Lit.int .i64 a1).wf = true) (w : World) :
    Calls Tryd.prog 4 #[.int .i64 a0, .int .i64 a1] w fun e w' => e = .returned (.bool true) ∧ Below w.heap.size w w' := by
  have hs : ∀ W, Calls Tryd.prog 19 #[.int .i64 a0, .int .i64 a1] W fun e w' => ∃ ao m cap, e = .returned (.tuple #[.slice ao m cap, .bool (mCyclicBanks a0 a1).2]) ∧ BksOwn W.heap.size w'.heap.size w' ao m cap (mCyclicBanks a0 a1).1 ∧ Below W.heap.size W w' := fun W => spec_CyclicBanks a0 a1 W
  have hi : ∀ W, Calls Tryd.prog 20 #[.int .i64 a0, .int .i64 a1] W fun e w' => ∃ ao m cap, e = .returned (.tuple #[.slice ao m cap, .bool (mCyclicBanks a0 a1).2]) ∧ BksOwn W.heap.size w'.heap.size w' ao m cap (mCyclicBanks a0 a1).1 ∧ Below W.heap.size W w' := fun W => impl_CyclicBanks a0 a1 W
  have hbd := mCyc_bound a0 a1
  generalize (mCyclicBanks a0 a1).1 = bs at hs hi hbd
  generalize (mCyclicBanks a0 a1).2 = r1 at hs hi
  have hrr1 : (r1 != r1) = false := by simp
  obtain ⟨hbl, hbs⟩ := hbd
  have Hs := Lib.hid hs; clear hs
  have Hi := Lib.hid hi; clear hi
  have Acc := Lib.hid (Below.refl w.heap.size w)
  obtain ⟨n, hn⟩ : ∃ n, n = bs.length := ⟨_, rfl⟩
  have hnb : n ≤ 1048576 := by omega
  obtain ⟨S, hS⟩ : ∃ S, S = (plus2 (lensB bs)).sum := ⟨_, rfl⟩
  have hSb : S ≤ 1048576 := by omega
  have Hn := Lib.hid hn; clear hn
  have HS := Lib.hid hS; clear hS
  have Hbl := Lib.hid hbl; clear hbl
  have Hbs := Lib.hid hbs; clear hbs
  go_enter Tryd.func4, Tryd.ntmps4
  go_wp2_with fail
  with_reducible refine (Hs.out _).mono ?_
  rintro e v1 ⟨p1, n1, c1, rfl, ho1, hb1⟩
  have sz1 : w.heap.size ≤ v1.heap.size := by have := hb1.size; simpa using this
  replace Acc := Lib.hid (belowTrans Acc.out hb1 (Nat.le_refl _))
  obtain rfl : n = n1 := by rw [Hn.out]; exact ho1.length
  have Ow := Lib.hid ho1; clear ho1
  clear hb1
  go_wp2_with fail
  with_reducible refine (Hi.out _).mono ?_
  rintro e v2 ⟨p2, n2, c2, rfl, ho2, hb2⟩
  have sz2 : v1.heap.size ≤ v2.heap.size := by have := hb2.size; simpa using this
  replace Acc := Lib.hid (belowTrans Acc.out hb2 (Nat.le_refl _))
  replace Ow := Lib.hid (Ow.out.keep hb2)
  obtain rfl : n = n2 := by rw [Hn.out]; exact ho2.length
  have Og := Lib.hid ho2; clear ho2
  clear hb2
  go_wp2_with fail
  with_reducible refine (eqBankS_any p2 p1 n c2 c1 bs _ Og.out.at Ow.out.at).mono ?_
  rintro e v3 ⟨rfl, hb3⟩
  have sz3 : v2.heap.size ≤ v3.heap.size := by have := hb3.size; simpa using this
  replace Acc := Lib.hid (belowTrans Acc.out hb3 (Nat.le_refl _))
  replace Ow := Lib.hid (Ow.out.keep hb3)
  replace Og := Lib.hid (Og.out.keep hb3)
  clear hb3
  go_wp2_with fail
  with_reducible refine (markBankS_any _ _ p2 n c2 bs 1 _ Og.out (by omega) Hbs.out (by omega) (by omega)).mono ?_
  rintro e v4 ⟨rfl, hm4, hb4⟩
  rw [← HS.out]
  have sz4 : v3.heap.size ≤ v4.heap.size := by have := hb4.size; simpa using this
  replace Acc := Lib.hid (Acc.out.trans (hb4.belowRg (by omega) (by omega)))
  replace Ow := Lib.hid (Ow.out.rg hb4 (by omega))
  replace Og := Lib.hid hm4; clear hm4
  clear hb4
  go_wp2_with fail
  with_reducible refine (heldBankS_any p2 n c2 (lensB bs) 1 _ Og.out.at (by omega) Hbs.out (by omega) (by omega)).mono ?_
  rintro e v5 ⟨rfl, rfl⟩
  rw [← HS.out]
  go_wp2_with fail
  with_reducible refine (Hi.out _).mono ?_
  rintro e v6 ⟨p6, n6, c6, rfl, ho6, hb6⟩
  have sz6 : v4.heap.size ≤ v6.heap.size := by have := hb6.size; simpa using this
  replace Acc := Lib.hid (belowTrans Acc.out hb6 (Nat.le_refl _))
  replace Ow := Lib.hid (Ow.out.keep hb6)
  replace Og := Lib.hid (Og.out.keep hb6)
  obtain rfl : n = n6 := by rw [Hn.out]; exact ho6.length
  have Oh := Lib.hid ho6; clear ho6
  clear hb6
  go_wp2_with fail
  with_reducible refine (eqBankS_any p6 p1 n c6 c1 bs _ Oh.out.at Ow.out.at).mono ?_
  rintro e v7 ⟨rfl, hb7⟩
  have sz7 : v6.heap.size ≤ v7.heap.size := by have := hb7.size; simpa using this
  replace Acc := Lib.hid (belowTrans Acc.out hb7 (Nat.le_refl _))
  replace Og := Lib.hid (Og.out.keep hb7)
  clear hb7
  go_wp2_with fail
  with_reducible refine (heldBankS_any p2 n c2 (lensB bs) 1 _ Og.out.at (by omega) Hbs.out (by omega) (by omega)).mono ?_
  rintro e v8 ⟨rfl, rfl⟩
  rw [← HS.out]
  go_wp2_with fail
  go_ret
  exact ⟨rfl, Acc.out⟩
  -- go_enter Tryd.func4, Tryd.ntmps4

/-- The door's own heap meets the condition. -/
theorem door_met (os : Os) (args : Array Value) : laidMetH Tryd.prog Rows.fnExactCyclicBanksRow.laid ((World.doorLaid Tryd.prog 4000 os).forCall (fun _ _ => 0) ⟨#[], args, []⟩).memory :=
  laidMetH_of_parts3 (fuel := 8) (laidMet_of_run' 8 (by kernel_rfl) (by kernel_rfl)) (by kernel_rfl) (by kernel_rfl)

/-! ### THE ROW's STEP: WRITTEN OUT: LEAVE IT -/
set_option maxRecDepth 100000 in
theorem lifted (os : Os) (started : os.Started) (H : Type) (enc : TypeId × Value → H) :
    ReturnsInHanded {} Tryd.checked os 4 .any (fun w args => (Rows.fnExactCyclicBanksSpec.pre enc Tryd.prog Tryd.f4 [] false w args ∧ laidMetH Tryd.prog Rows.fnExactCyclicBanksRow.laid w) ∧ sizedMet enc Tryd.prog Tryd.f4 (OpenSpec.ofChange Rows.fnExactCyclicBanksSpec) false w args)
      (Rows.fnExactCyclicBanksSpec.post enc Tryd.prog Tryd.f4 false true false false) := by
  refine returnsInHanded_of_change_and (C := Tryd.checked) (X := fun w _ => laidMetH Tryd.prog Rows.fnExactCyclicBanksRow.laid w) (fun _ _ _ hh h => h.of_heap hh) own started (by kernel_rfl) Tryd.func4
    (ChangeSpec.witness_shaped (enc := enc) (C := Tryd.checked) (os := os) (X := fun w _ => laidMetH Tryd.prog Rows.fnExactCyclicBanksRow.laid w) false (World.doorLaid Tryd.prog 4000 os) #[.int .i64 0, .int .i64 0] 8 rfl (World.shaped_of_RefB (by kernel_rfl) (by kernel_rfl)) (by kernel_rfl) (by kernel_rfl) (by kernel_rfl) (door_met os _)) ?_
  intro W base args ds gs before hval0 hW _ _ hL _
  have hval : ∀ (j : Nat) t v, Tryd.f4.params[j]? = some t → args[j]? = some v → Value.okWide Tryd.prog W .any base t v := hval0
  have hW' := hW
  obtain ⟨p, q, hA0, hV, rfl, hfz, hnd⟩ := hW
  have hA : DataW.TrodAll enc Tryd.prog W 0 (fun _ => true) true Tryd.f4.params.toList args.toList ds p := hA0
  rw [Tryd.params4] at hA hval
  obtain ⟨v0, vs0, d0, ds0, p0, q0, hargs, rfl, rfl, h0, r0⟩ := trodAll_cons hA
  obtain ⟨v1, vs1, d1, ds1, p1, q1, rfl, rfl, rfl, h1, r1⟩ := trodAll_cons r0
  obtain ⟨rfl, rfl, rfl⟩ := trodAll_nil r1
  obtain rfl : args = #[v0, v1] := by cases args; simp_all
  obtain ⟨rfl, rfl⟩ := trodVars_none hV
  obtain ⟨a0, rfl, rfl, rfl, w0⟩ := open_int Tryd.underlying3 (hval 0 3 v0 rfl rfl) h0
  obtain ⟨a1, rfl, rfl, rfl, w1⟩ := open_int Tryd.underlying3 (hval 1 3 v1 rfl rfl) h1
  clear hA0 hval0
  refine (walk a0 a1 w0 w1 W).mono fun e W' ⟨he, hg⟩ => ?_
  subst he
  exact ⟨_, rfl, _, _, _, [], _, [], hW', trodAll_mk1 (shut_bool Tryd.underlying4 _), (trodAll_cons_mk (shut_int Tryd.underlying3 w0) (trodAll_cons_mk (shut_int Tryd.underlying3 w1) trodAll_mk0)), rfl, hg.frame _, fun h => by cases h⟩

theorem closedFacts : joinedFacts Tryd.prog 4 Tryd.f4 Rows.fnExactCyclicBanksSpec Rows.fnExactCyclicBanksRow = true := by
  unfold joinedFacts
  rw [head_enter, head_lifts, head_make]
  kernel_rfl
theorem closedHere : joinedFacts Tryd.pinned.checked.prog 4 Tryd.f4 Rows.fnExactCyclicBanksSpec Rows.fnExactCyclicBanksRow = true := by
  rw [progEq]
  exact closedFacts
theorem over : Rows.fnExactCyclicBanksRow.holds Tryd.pinned (OpenSpec.ofChange Rows.fnExactCyclicBanksSpec) :=
  OpenClaim.holds_of_wide 4 Tryd.f4 rfl rfl rfl rfl rfl rfl rfl ⟨rfl, rfl, rfl, rfl, rfl⟩ rfl rfl rfl rfl rfl (by kernel_rfl) Tryd.func4 closedHere
    (of_decide_eq_true (by kernel_rfl)) (by unfold Func.isWrapper; first | (rw [if_pos (by decide +kernel)]; kernel_rfl) | (rw [if_neg (by decide +kernel)]; exact ⟨rfl, rfl⟩))
    (fun os started H enc _ => lifted os started H enc)

/-- the tied card -/
theorem proved : Rows.FnExactCyclicBanksCardSaid :=
  Claim7.holds_tied_plain_at .later [] [.data, .data, .data] true (true, "f33635242620ba9788857204eb6b1d56aaa8c428085ffe39ef34a4cc5ce81207") false
    over (fun _ h => by cases h) (by kernel_rfl) (fun _ h => by cases h) fnExactCyclicBanks_row_tie rfl ⟨rfl, rfl⟩ (by kernel_rfl) rfl
    (fun f fn hf hfn => by
      obtain rfl : f = 4 := Option.some.inj ((show Tryd.prog.funcNamed "loop.example/g01114/laws.FnExactCyclicBanks" = some 4 by kernel_rfl).symm.trans hf) |>.symm
      obtain rfl : fn = Tryd.f4 := (Option.some.inj (Tryd.func4.symm.trans hfn)).symm
      exact ⟨by kernel_rfl, fun j t ht => by
        rw [Tryd.params4] at ht
        have hm : t ∈ [3] := by simpa using Array.mem_of_getElem? ht
        have hall : ([3].all fun u => !Tryd.prog.wantsStandIn u) = true := by kernel_rfl
        exact (show Tryd.prog.wantsStandIn t = false by simpa using List.all_eq_true.1 hall t hm)⟩)
    (by kernel_rfl)
#print axioms proved
end Go.Proofs.YtnebfojnbjbogaaDoor.fnExactCyclicBanks
