/- FnExactRowPasts: for every input the law returns true and leaves its arguments as they were. No condition. -/
import Derived.Test.YtbneibpakopllaaRows
import Derived.WalkKit
import Derived.ProofKit
import Derived.OpenShut
import Derived.ShutString
import Derived.ChangeOld
import Derived.Below
import Derived.Test.YtbneibpakopllaaHead
import Derived.Test.YtbneibpakopllaaHelp
import Derived.Test.YtbneibpakopllaaRowL
namespace Go.Proofs.Ytbneibpakopllaa.fnExactRowPasts
set_option linter.unusedSimpArgs false
open Go.ChangeShapes Go.WideShapes Go.ChangeAt Go.RowKit
open Go.ChangeMaps (open_string shut_string)
set_option linter.unusedVariables false

theorem own : ownKnob Try.prog.godebug = none := by kernel_rfl
theorem laidOut : laidOutB Try.prog = true := by kernel_rfl

/-- WHAT THE WALK IS TOLD OF A SLICE OF INTEGERS THAT CAME IN: it is nil; or it leads to a row of 'cap' cells, the numbers 'zs' (the first 'len' are its elements, the rest its spare room), each fitting its kind. -/
def IsRow (k : IntKind) (w : World) (a : Option Addr) (len cap : Nat) (zs : List Int) : Prop :=
  (a = none ∧ len = 0 ∧ cap = 0 ∧ zs = []) ∨
  ∃ x, a = some x ∧ len ≤ cap ∧ cap ≤ maxLen ∧ zs.length = cap ∧ (∀ i, i < zs.length → w.cell? (x.add i) = some (.int k (zs.getD i 0))) ∧ ∀ n ∈ zs, (Lit.int k n).wf = true

/-! ### THE WALK: the Go text returns true, AND WRITES NOTHING THAT WAS THERE: 'Below w.heap.size w w'' (Derived/Below.lean: '.refl', '.alloc', '.drew', '.setCell' at a new block, '.trans'). Open each 'IsRow' by 'rcases' AHEAD of 'go_enter'; part every test ahead of the walk. -/
set_option maxHeartbeats 4000000 in
set_option maxRecDepth 100000 in
theorem walk (a0 : Option Addr) (len0 cap0 : Nat) (z0 : List Int) (w : World) (w0 : IsRow .i64 w a0 len0 cap0 z0) :
    Calls Try.prog 7 #[.slice a0 len0 cap0] w fun e w' => e = .returned (.bool true) ∧ Below w.heap.size w w' := by
  have hA0 := intsAt_row w0
  generalize z0.take len0 = xs0 at hA0
  clear w0
  by_cases hbig0 : 1048576 < len0
  · go_enter Try.func7, Try.ntmps7
    go_wp2
    go_ret
    exact ⟨rfl, Below.refl _ _⟩
  have hs := fun (ao0 : Option Addr) (n0 cap0 : Nat) (W : World) (h0 : IntsAt W ao0 n0 cap0 xs0) => spec_RowPasts ao0 n0 cap0 xs0 W h0
  have hi := fun (ao0 : Option Addr) (n0 cap0 : Nat) (W : World) (h0 : IntsAt W ao0 n0 cap0 xs0) => impl_RowPasts ao0 n0 cap0 xs0 W h0
  have hbd := mRowPasts_bound xs0
  generalize (mRowPasts xs0).1 = r0 at hs hi hbd
  generalize (mRowPasts xs0).2 = r1 at hs hi
  have hbd2 := hbd.2
  replace hbd := hbd.1
  have Hs := Lib.hid hs; clear hs
  have Hi := Lib.hid hi; clear hi
  have acc : Below w.heap.size w w := Below.refl _ _
  go_enter Try.func7, Try.ntmps7
  go_wp2_with fail
  refine (toIntS_any a0 len0 cap0 xs0 _ (hA0.keep acc) (by omega)).mono ?_
  rintro e v1 ⟨p1, c1, rfl, ho1, hb1⟩
  have sz1 := hb1.size
  replace acc := belowTrans acc hb1 (Nat.le_refl _)
  clear hb1
  go_wp2_with fail
  refine (Hs.out _ _ _ _ ho1.at).mono ?_
  rintro e v2 ⟨p2, n2_, c2, rfl, ho2, hb2⟩
  have sz2 := hb2.size
  replace ho1 := ho1.keep hb2
  replace acc := belowTrans acc hb2 (Nat.le_refl _)
  clear hb2
  have hn2 : n2_ ≤ 1048576 := by have := ho2.length; omega
  go_wp2_with fail
  refine (toIntS_any a0 len0 cap0 xs0 _ (hA0.keep acc) (by omega)).mono ?_
  rintro e v3 ⟨p3, c3, rfl, ho3, hb3⟩
  have sz3 := hb3.size
  replace ho1 := ho1.keep hb3
  replace ho2 := ho2.keep hb3
  replace acc := belowTrans acc hb3 (Nat.le_refl _)
  clear hb3
  go_wp2_with fail
  refine (Hi.out _ _ _ _ ho3.at).mono ?_
  rintro e v4 ⟨p4, n4_, c4, rfl, ho4, hb4⟩
  have sz4 := hb4.size
  replace ho1 := ho1.keep hb4
  replace ho2 := ho2.keep hb4
  replace ho3 := ho3.keep hb4
  replace acc := belowTrans acc hb4 (Nat.le_refl _)
  clear hb4
  have hn4 : n4_ ≤ 1048576 := by have := ho4.length; omega
  go_wp2_with fail
  refine (eqIntSS_any _ _ _ _ _ _ _ _ _ ho4.at ho2.at).mono ?_
  rintro e v5 ⟨rfl, hb5⟩
  rw [decide_eq_true rfl]
  have sz5 := hb5.size
  replace ho1 := ho1.keep hb5
  replace ho2 := ho2.keep hb5
  replace ho3 := ho3.keep hb5
  replace ho4 := ho4.keep hb5
  replace acc := belowTrans acc hb5 (Nat.le_refl _)
  clear hb5
  go_wp2_with fail
  refine (toIntS_any a0 len0 cap0 xs0 _ (hA0.keep acc) (by omega)).mono ?_
  rintro e v6 ⟨p6, c6, rfl, ho6, hb6⟩
  have sz6 := hb6.size
  replace ho1 := ho1.keep hb6
  replace ho2 := ho2.keep hb6
  replace ho3 := ho3.keep hb6
  replace ho4 := ho4.keep hb6
  replace acc := belowTrans acc hb6 (Nat.le_refl _)
  clear hb6
  go_wp2_with fail
  refine (eqIntS_any _ _ _ _ _ _ _ _ _ ho3.at ho6.at).mono ?_
  rintro e v7 ⟨rfl, hb7⟩
  rw [decide_eq_true rfl]
  have sz7 := hb7.size
  replace ho1 := ho1.keep hb7
  replace ho2 := ho2.keep hb7
  replace ho3 := ho3.keep hb7
  replace ho4 := ho4.keep hb7
  replace ho6 := ho6.keep hb7
  replace acc := belowTrans acc hb7 (Nat.le_refl _)
  clear hb7
  go_wp2_with fail
  refine (markIntS_any _ _ _ _ _ _ _ _ ho3 (by omega) (by omega) (by omega)).mono ?_
  rintro e v8 ⟨rfl, hm8, hb8⟩
  have sz8 := hb8.size
  replace ho1 := ho1.rg hb8 (by omega)
  replace ho2 := ho2.rg hb8 (by omega)
  replace ho4 := ho4.rg hb8 (by omega)
  replace ho6 := ho6.rg hb8 (by omega)
  replace acc := acc.trans (hb8.belowRg (by omega) (by omega))
  clear hb8
  clear ho3
  go_wp2_with fail
  refine (eqIntSS_any _ _ _ _ _ _ _ _ _ ho4.at ho2.at).mono ?_
  rintro e v9 ⟨rfl, hb9⟩
  rw [decide_eq_true rfl]
  have sz9 := hb9.size
  replace ho1 := ho1.keep hb9
  replace ho2 := ho2.keep hb9
  replace hm8 := hm8.keep hb9
  replace ho4 := ho4.keep hb9
  replace ho6 := ho6.keep hb9
  replace acc := belowTrans acc hb9 (Nat.le_refl _)
  clear hb9
  go_wp2_with fail
  refine (markIntSS_any _ _ _ _ _ _ _ _ ho4 (by omega) (by omega) (by omega) (by omega)).mono ?_
  rintro e v10 ⟨rfl, hm10, hb10⟩
  have sz10 := hb10.size
  replace ho1 := ho1.rg hb10 (by omega)
  replace ho2 := ho2.rg hb10 (by omega)
  replace hm8 := hm8.rg hb10 (by omega)
  replace ho6 := ho6.rg hb10 (by omega)
  replace acc := acc.trans (hb10.belowRg (by omega) (by omega))
  clear hb10
  clear ho4
  go_wp2_with fail
  refine (heldIntSS_rows _ _ _ _ _ _ hm10.at (by omega) hbd2 (by omega) (by omega)).mono ?_
  rintro e _ ⟨rfl, rfl⟩
  go_wp2_with fail
  refine (toIntS_any a0 len0 cap0 xs0 _ (hA0.keep acc) (by omega)).mono ?_
  rintro e v11 ⟨p11, c11, rfl, ho11, hb11⟩
  have sz11 := hb11.size
  replace ho1 := ho1.keep hb11
  replace ho2 := ho2.keep hb11
  replace hm8 := hm8.keep hb11
  replace hm10 := hm10.keep hb11
  replace ho6 := ho6.keep hb11
  replace acc := belowTrans acc hb11 (Nat.le_refl _)
  clear hb11
  go_wp2_with fail
  refine (Hi.out _ _ _ _ ho11.at).mono ?_
  rintro e v12 ⟨p12, n12_, c12, rfl, ho12, hb12⟩
  have sz12 := hb12.size
  replace ho1 := ho1.keep hb12
  replace ho2 := ho2.keep hb12
  replace hm8 := hm8.keep hb12
  replace hm10 := hm10.keep hb12
  replace ho6 := ho6.keep hb12
  replace ho11 := ho11.keep hb12
  replace acc := belowTrans acc hb12 (Nat.le_refl _)
  clear hb12
  have hn12 : n12_ ≤ 1048576 := by have := ho12.length; omega
  go_wp2_with fail
  refine (eqIntSS_any _ _ _ _ _ _ _ _ _ ho12.at ho2.at).mono ?_
  rintro e v13 ⟨rfl, hb13⟩
  rw [decide_eq_true rfl]
  have sz13 := hb13.size
  replace ho1 := ho1.keep hb13
  replace ho2 := ho2.keep hb13
  replace hm8 := hm8.keep hb13
  replace hm10 := hm10.keep hb13
  replace ho6 := ho6.keep hb13
  replace ho11 := ho11.keep hb13
  replace ho12 := ho12.keep hb13
  replace acc := belowTrans acc hb13 (Nat.le_refl _)
  clear hb13
  go_wp2_with fail
  refine (heldIntSS_rows _ _ _ _ _ _ hm10.at (by omega) hbd2 (by omega) (by omega)).mono ?_
  rintro e _ ⟨rfl, rfl⟩
  go_wp2_with fail
  go_ret
  exact ⟨rfl, acc⟩

/-! ### THE ROW's STEP: WRITTEN OUT: LEAVE IT -/
set_option maxRecDepth 100000 in
theorem lifted (os : Os) (started : os.Started) (H : Type) (enc : TypeId × Value → H) :
    ReturnsInHanded {} Try.checked os 7 .any (Rows.fnExactRowPastsSpec.pre6 enc Try.prog Try.f7 Rows.fnExactRowPastsRow.domain false) (Rows.fnExactRowPastsSpec.post enc Try.prog Try.f7 false true false false) := by
  refine returnsInHanded_of_change (C := Try.checked) own started (by kernel_rfl) Try.func7
    (ChangeSpec.witness6 (enc := enc) (C := Try.checked) false ⟨#[], #[.slice none 0 0], []⟩ 8 (by kernel_rfl) (by kernel_rfl) (by kernel_rfl) (by kernel_rfl)) ?_
  intro W base args ds gs before hval0 hW hcnd _
  have hval : ∀ (j : Nat) t v, Try.f7.params[j]? = some t → args[j]? = some v → Value.okWide Try.prog W .any base t v := hval0
  have hW' := hW
  obtain ⟨p, q, hA0, hV, rfl, hfz, hnd⟩ := hW
  have hA : DataW.TrodAll enc Try.prog W 0 (fun _ => true) true Try.f7.params.toList args.toList ds p := hA0
  rw [Try.params7] at hA hval
  obtain ⟨v0, vs0, d0, ds0, p0, q0, hargs, rfl, rfl, h0, r0⟩ := trodAll_cons hA
  obtain ⟨rfl, rfl, rfl⟩ := trodAll_nil r0
  obtain rfl : args = #[v0] := by cases args; simp_all
  obtain ⟨rfl, rfl⟩ := trodVars_none hV
  obtain ⟨a0, len0, cap0, rfl⟩ := okWide_slice Try.underlying22 (hval 0 22 v0 rfl rfl)
  have k0 := h0
  have lt0 : ∀ x ∈ p0, x.block < W.heap.size := by obtain ⟨m, hm⟩ := k0; exact DataW.trod_lt m _ _ _ hm
  obtain ⟨z0, w0⟩ : ∃ zs, IsRow .i64 W a0 len0 cap0 zs := by
    obtain ⟨fuel, hf⟩ := h0
    rcases open_ints Try.underlying22 Try.underlying3 (by kernel_rfl) hf with ⟨hcs, _⟩ | ⟨x, l, c, zs, hcs, _, hl, hm, hz, _, hcell, hwz⟩
    · simp [Value.cells] at hcs
      obtain ⟨rfl, rfl, rfl⟩ := hcs
      exact ⟨[], .inl ⟨rfl, rfl, rfl, rfl⟩⟩
    · simp [Value.cells] at hcs
      obtain ⟨rfl, rfl, rfl⟩ := hcs
      exact ⟨zs, .inr ⟨_, rfl, hl, hm, by simpa using hz, hcell, hwz⟩⟩
  clear hA0 hval0
  refine (walk a0 len0 cap0 z0 W w0).mono fun e W' ⟨he, bel⟩ => ?_
  subst he
  exact ⟨_, rfl, _, _, _, [], _, [], hW', trodAll_mk1 (shut_bool Try.underlying4 _), (trodAll_cons_mk (Below.trod laidOut (by kernel_rfl) (of_decide_eq_true (by kernel_rfl)) k0 bel lt0) trodAll_mk0), rfl, bel.frame _, fun h => by cases h⟩

theorem closedFacts : joinedFacts Try.prog 7 Try.f7 Rows.fnExactRowPastsSpec Rows.fnExactRowPastsRow = true := by
  unfold joinedFacts
  rw [head_enter, head_lifts, head_make]
  kernel_rfl
theorem closedHere : joinedFacts Try.pinned.checked.prog 7 Try.f7 Rows.fnExactRowPastsSpec Rows.fnExactRowPastsRow = true := by
  rw [progEq]
  exact closedFacts
theorem over : Rows.fnExactRowPastsRow.holds Try.pinned (OpenSpec.ofChange Rows.fnExactRowPastsSpec) :=
  OpenClaim.holds_of_wide 7 Try.f7 rfl rfl rfl rfl rfl rfl rfl ⟨rfl, rfl, rfl, rfl, rfl⟩ rfl rfl rfl rfl rfl (by kernel_rfl) Try.func7 closedHere
    (of_decide_eq_true (by kernel_rfl)) (by unfold Func.isWrapper; first | (rw [if_pos (by decide +kernel)]; kernel_rfl) | (rw [if_neg (by decide +kernel)]; exact ⟨rfl, rfl⟩))
    (fun os started H enc _ => lifted os started H enc)

/-- ████ THE STATEMENT ████ -/
theorem proved : Rows.FnExactRowPastsSaid := over
#print axioms proved
end Go.Proofs.Ytbneibpakopllaa.fnExactRowPasts
