/- FnExactLongestRow: for every input the law returns true and leaves its arguments as they were. No condition. -/
import Derived.Test.YteofiikjilhlgaaRows
import Derived.WalkKit
import Derived.ProofKit
import Derived.OpenShut
import Derived.ShutString
import Derived.ChangeOld
import Derived.Below
import Derived.Test.YteofiikjilhlgaaHead
import Derived.Test.YteofiikjilhlgaaHelp
import Derived.Test.YteofiikjilhlgaaRowI
namespace Go.Proofs.Yteofiikjilhlgaa.fnExactLongestRow
set_option linter.unusedSimpArgs false
open Go.ChangeShapes Go.WideShapes Go.ChangeAt Go.RowKit
open Go.ChangeMaps (open_string shut_string)
set_option linter.unusedVariables false      -- a walk need not use every 'w<i>' (that an integer argument fits its kind)

theorem own : ownKnob Try.prog.godebug = none := by kernel_rfl

/-! ### THE WALK -/
set_option maxHeartbeats 4000000 in
set_option maxRecDepth 100000 in
theorem walk (a0 : Int) (w0 : (Lit.int .i64 a0).wf = true) (w : World) :
    Calls Try.prog 4 #[.int .i64 a0] w fun e w' => e = .returned (.bool true) ∧ Below w.heap.size w w' := by
  have hs := fun  (W : World)  => spec_LongestRow a0 W 
  have hi := fun  (W : World)  => impl_LongestRow a0 W 
  have hbd := mLongestRow_bound a0
  generalize (mLongestRow a0).1 = r0 at hs hi hbd
  generalize (mLongestRow a0).2.1 = r1 at hs hi
  generalize (mLongestRow a0).2.2 = r2 at hs hi
  have Hs := Lib.hid hs; clear hs
  have Hi := Lib.hid hi; clear hi
  have acc : Below w.heap.size w w := Below.refl _ _
  go_enter Try.func4, Try.ntmps4
  go_wp2_with fail
  refine (Hs.out  _ ).mono ?_
  rintro e v1 ⟨p1, n1_, c1, rfl, ho1, hb1⟩
  have sz1 := hb1.size
  replace acc := belowTrans acc hb1 (Nat.le_refl _)
  clear hb1
  have hn1 : n1_ ≤ 1048576 := by have := ho1.length; omega
  go_wp2_with fail
  refine (Hi.out  _ ).mono ?_
  rintro e v2 ⟨p2, n2_, c2, rfl, ho2, hb2⟩
  have sz2 := hb2.size
  replace ho1 := ho1.keep hb2
  replace acc := belowTrans acc hb2 (Nat.le_refl _)
  clear hb2
  have hn2 : n2_ ≤ 1048576 := by have := ho2.length; omega
  go_wp2_with fail
  refine (eqIntS_any _ _ _ _ _ _ _ _ _ ho2.at ho1.at).mono ?_
  rintro e v3 ⟨rfl, hb3⟩
  rw [decide_eq_true rfl]
  have sz3 := hb3.size
  replace ho1 := ho1.keep hb3
  replace ho2 := ho2.keep hb3
  replace acc := belowTrans acc hb3 (Nat.le_refl _)
  clear hb3
  go_wp2_with fail
  refine (markIntS_any _ _ _ _ _ _ _ _ ho2 (by omega) (by omega) (by omega)).mono ?_
  rintro e v4 ⟨rfl, hm4, hb4⟩
  have sz4 := hb4.size
  replace ho1 := ho1.rg hb4 (by omega)
  replace acc := acc.trans (hb4.belowRg (by omega) (by omega))
  clear hb4
  clear ho2
  go_wp2_with fail
  refine (heldIntS_any _ _ _ _ _ hm4.at (by omega) (by omega) (by omega)).mono ?_
  rintro e _ ⟨rfl, rfl⟩
  go_wp2_with fail
  refine (Hi.out  _ ).mono ?_
  rintro e v5 ⟨p5, n5_, c5, rfl, ho5, hb5⟩
  have sz5 := hb5.size
  replace ho1 := ho1.keep hb5
  replace hm4 := hm4.keep hb5
  replace acc := belowTrans acc hb5 (Nat.le_refl _)
  clear hb5
  have hn5 : n5_ ≤ 1048576 := by have := ho5.length; omega
  go_wp2_with fail
  refine (eqIntS_any _ _ _ _ _ _ _ _ _ ho5.at ho1.at).mono ?_
  rintro e v6 ⟨rfl, hb6⟩
  rw [decide_eq_true rfl]
  have sz6 := hb6.size
  replace ho1 := ho1.keep hb6
  replace hm4 := hm4.keep hb6
  replace ho5 := ho5.keep hb6
  replace acc := belowTrans acc hb6 (Nat.le_refl _)
  clear hb6
  go_wp2_with fail
  refine (heldIntS_any _ _ _ _ _ hm4.at (by omega) (by omega) (by omega)).mono ?_
  rintro e _ ⟨rfl, rfl⟩
  go_wp2_with fail
  go_ret
  exact ⟨rfl, acc⟩
  -- go_enter Try.func4, Try.ntmps4

/-! ### THE ROW's STEP: WRITTEN OUT: LEAVE IT -/
set_option maxRecDepth 100000 in
theorem lifted (os : Os) (started : os.Started) (H : Type) (enc : TypeId × Value → H) :
    ReturnsInHanded {} Try.checked os 4 .any (Rows.fnExactLongestRowSpec.pre6 enc Try.prog Try.f4 Rows.fnExactLongestRowRow.domain false) (Rows.fnExactLongestRowSpec.post enc Try.prog Try.f4 false true false false) := by
  refine returnsInHanded_of_change (C := Try.checked) own started (by kernel_rfl) Try.func4
    (ChangeSpec.witness6 (enc := enc) (C := Try.checked) false ⟨#[], #[.int .i64 0], []⟩ 8 (by kernel_rfl) (by kernel_rfl) (by kernel_rfl) (by kernel_rfl)) ?_
  intro W base args ds gs before hval0 hW hcnd _
  have hval : ∀ (j : Nat) t v, Try.f4.params[j]? = some t → args[j]? = some v → Value.okWide Try.prog W .any base t v := hval0
  have hW' := hW
  obtain ⟨p, q, hA0, hV, rfl, hfz, hnd⟩ := hW
  have hA : DataW.TrodAll enc Try.prog W 0 (fun _ => true) true Try.f4.params.toList args.toList ds p := hA0
  rw [Try.params4] at hA hval
  obtain ⟨v0, vs0, d0, ds0, p0, q0, hargs, rfl, rfl, h0, r0⟩ := trodAll_cons hA
  obtain ⟨rfl, rfl, rfl⟩ := trodAll_nil r0
  obtain rfl : args = #[v0] := by cases args; simp_all
  obtain ⟨rfl, rfl⟩ := trodVars_none hV
  obtain ⟨a0, rfl, rfl, rfl, w0⟩ := open_int Try.underlying3 (hval 0 3 v0 rfl rfl) h0
  clear hA0 hval0
  refine (walk a0 w0 W).mono fun e W' ⟨he, hg⟩ => ?_
  subst he
  exact ⟨_, rfl, _, _, _, [], _, [], hW', trodAll_mk1 (shut_bool Try.underlying4 _), (trodAll_cons_mk (shut_int Try.underlying3 w0) trodAll_mk0), rfl, hg.frame _, fun h => by cases h⟩

theorem closedFacts : joinedFacts Try.prog 4 Try.f4 Rows.fnExactLongestRowSpec Rows.fnExactLongestRowRow = true := by
  unfold joinedFacts
  rw [head_enter, head_lifts, head_make]
  kernel_rfl
theorem closedHere : joinedFacts Try.pinned.checked.prog 4 Try.f4 Rows.fnExactLongestRowSpec Rows.fnExactLongestRowRow = true := by
  rw [progEq]
  exact closedFacts
theorem over : Rows.fnExactLongestRowRow.holds Try.pinned (OpenSpec.ofChange Rows.fnExactLongestRowSpec) :=
  OpenClaim.holds_of_wide 4 Try.f4 rfl rfl rfl rfl rfl rfl rfl ⟨rfl, rfl, rfl, rfl, rfl⟩ rfl rfl rfl rfl rfl (by kernel_rfl) Try.func4 closedHere
    (of_decide_eq_true (by kernel_rfl)) (by unfold Func.isWrapper; first | (rw [if_pos (by decide +kernel)]; kernel_rfl) | (rw [if_neg (by decide +kernel)]; exact ⟨rfl, rfl⟩))
    (fun os started H enc _ => lifted os started H enc)

/-- ████ THE STATEMENT ████ -/
theorem proved : Rows.FnExactLongestRowSaid :=
  over
#print axioms proved
end Go.Proofs.Yteofiikjilhlgaa.fnExactLongestRow
