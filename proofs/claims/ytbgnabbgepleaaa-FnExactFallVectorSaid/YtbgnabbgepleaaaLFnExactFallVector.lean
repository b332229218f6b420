/- FnExactFallVector: for every input the law returns true and leaves its arguments as they were. No condition. -/
import Derived.Test.YtbgnabbgepleaaaRows
import Derived.WalkKit
import Derived.ProofKit
import Derived.OpenShut
import Derived.ShutString
import Derived.ChangeOld
import Derived.Below
import Derived.Test.YtbgnabbgepleaaaHead
import Derived.Test.YtbgnabbgepleaaaHelp
import Derived.Test.YtbgnabbgepleaaaSaV
import Derived.Test.YtbgnabbgepleaaaSaY
import Derived.Test.YtbgnabbgepleaaaSaX
namespace Go.Proofs.Ytbgnabbgepleaaa.fnExactFallVector
set_option linter.unusedSimpArgs false
open Go.ChangeShapes Go.WideShapes Go.ChangeAt Go.RowKit
open Go.ChangeMaps (open_string shut_string)
set_option linter.unusedVariables false

theorem own : ownKnob Try.prog.godebug = none := by kernel_rfl
theorem laidOut : laidOutB Try.prog = true := by kernel_rfl

/-- WHAT THE WALK IS TOLD OF A SLICE OF INTEGERS THAT CAME IN: it is nil; or it leads to a row of 'cap' cells, the numbers 'zs' (the first 'len' are its elements, the rest its spare room), each fitting its kind. -/
def IsRow (k : IntKind) (w : World) (a : Option Addr) (len cap : Nat) (zs : List Int) : Prop :=
  (a = none ∧ len = 0 ∧ cap = 0 ∧ zs = []) ∨
  ∃ x, a = some x ∧ len ≤ cap ∧ cap ≤ maxLen ∧ zs.length = cap ∧ (∀ i, i < zs.length → w.cell? (x.add i) = some (.int k (zs.getD i 0))) ∧ ∀ n ∈ zs, (Lit.int k n).wf = true

/-! ### THE WALK: the Go text returns true, AND WRITES NOTHING THAT WAS THERE: 'Below w.heap.size w w'' (Derived/Below.lean: '.refl', '.alloc', '.drew', '.setCell' at a new block, '.trans'). Open each 'IsRow' by 'rcases' AHEAD of 'go_enter'; part every test ahead of the walk. -/
set_option maxHeartbeats 4000000 in
set_option maxRecDepth 100000 in
theorem walk (a0 : Option Addr) (len0 cap0 : Nat) (z0 : List Int) (a1 : Option Addr) (len1 cap1 : Nat) (z1 : List Int) (w : World) (w0 : IsRow .i64 w a0 len0 cap0 z0) (w1 : IsRow .i64 w a1 len1 cap1 z1) :
    Calls Try.prog 16 #[.slice a0 len0 cap0, .slice a1 len1 cap1] w fun e w' => e = .returned (.bool true) ∧ Below w.heap.size w w' := by
  have hA0 := intsAt_row w0
  generalize z0.take len0 = xs0 at hA0
  clear w0
  have hA1 := intsAt_row w1
  generalize z1.take len1 = xs1 at hA1
  clear w1
  by_cases hbig0 : 1048576 < len0
  · go_enter Try.func16, Try.ntmps16
    go_wp2
    go_ret
    exact ⟨rfl, Below.refl _ _⟩
  by_cases hbig1 : 1048576 < len1
  · go_enter Try.func16, Try.ntmps16
    go_wp2
    go_ret
    exact ⟨rfl, Below.refl _ _⟩
  have hs := fun (ao0 : Option Addr) (n0 cap0 : Nat) (ao1 : Option Addr) (n1 cap1 : Nat) (W : World) (h0 : IntsAt W ao0 n0 cap0 xs0) (h1 : IntsAt W ao1 n1 cap1 xs1) => spec_FallVector ao0 n0 cap0 xs0 ao1 n1 cap1 xs1 W h0 h1
  have hi := fun (ao0 : Option Addr) (n0 cap0 : Nat) (ao1 : Option Addr) (n1 cap1 : Nat) (W : World) (h0 : IntsAt W ao0 n0 cap0 xs0) (h1 : IntsAt W ao1 n1 cap1 xs1) => impl_FallVector ao0 n0 cap0 xs0 ao1 n1 cap1 xs1 W h0 h1
  have hbd := mFallVector_bound xs0 xs1
  generalize (mFallVector xs0 xs1).1 = r0 at hs hi hbd
  generalize (mFallVector xs0 xs1).2 = r1 at hs hi
  have Hs := Lib.hid hs; clear hs
  have Hi := Lib.hid hi; clear hi
  have acc : Below w.heap.size w w := Below.refl _ _
  go_enter Try.func16, Try.ntmps16
  go_wp2_with fail
  refine (toIntS_any a0 len0 cap0 xs0 _ (hA0.keep acc) (by omega)).mono ?_
  rintro e v1 ⟨p1, c1, rfl, ho1, hb1⟩
  have sz1 := hb1.size
  replace acc := belowTrans acc hb1 (Nat.le_refl _)
  clear hb1
  go_wp2_with fail
  refine (toIntS_any a1 len1 cap1 xs1 _ (hA1.keep acc) (by omega)).mono ?_
  rintro e v2 ⟨p2, c2, rfl, ho2, hb2⟩
  have sz2 := hb2.size
  replace ho1 := ho1.keep hb2
  replace acc := belowTrans acc hb2 (Nat.le_refl _)
  clear hb2
  go_wp2_with fail
  refine (Hs.out _ _ _ _ _ _ _ ho1.at ho2.at).mono ?_
  rintro e v3 ⟨p3, n3_, c3, rfl, ho3, hb3⟩
  have sz3 := hb3.size
  replace ho1 := ho1.keep hb3
  replace ho2 := ho2.keep hb3
  replace acc := belowTrans acc hb3 (Nat.le_refl _)
  clear hb3
  have hn3 : n3_ ≤ 1048576 := by have := ho3.length; omega
  go_wp2_with fail
  refine (toIntS_any a0 len0 cap0 xs0 _ (hA0.keep acc) (by omega)).mono ?_
  rintro e v4 ⟨p4, c4, rfl, ho4, hb4⟩
  have sz4 := hb4.size
  replace ho1 := ho1.keep hb4
  replace ho2 := ho2.keep hb4
  replace ho3 := ho3.keep hb4
  replace acc := belowTrans acc hb4 (Nat.le_refl _)
  clear hb4
  go_wp2_with fail
  refine (toIntS_any a1 len1 cap1 xs1 _ (hA1.keep acc) (by omega)).mono ?_
  rintro e v5 ⟨p5, c5, rfl, ho5, hb5⟩
  have sz5 := hb5.size
  replace ho1 := ho1.keep hb5
  replace ho2 := ho2.keep hb5
  replace ho3 := ho3.keep hb5
  replace ho4 := ho4.keep hb5
  replace acc := belowTrans acc hb5 (Nat.le_refl _)
  clear hb5
  go_wp2_with fail
  refine (Hi.out _ _ _ _ _ _ _ ho4.at ho5.at).mono ?_
  rintro e v6 ⟨p6, n6_, c6, rfl, ho6, hb6⟩
  have sz6 := hb6.size
  replace ho1 := ho1.keep hb6
  replace ho2 := ho2.keep hb6
  replace ho3 := ho3.keep hb6
  replace ho4 := ho4.keep hb6
  replace ho5 := ho5.keep hb6
  replace acc := belowTrans acc hb6 (Nat.le_refl _)
  clear hb6
  have hn6 : n6_ ≤ 1048576 := by have := ho6.length; omega
  go_wp2_with fail
  refine (eqIntS_any _ _ _ _ _ _ _ _ _ ho6.at ho3.at).mono ?_
  rintro e v7 ⟨rfl, hb7⟩
  rw [decide_eq_true rfl]
  have sz7 := hb7.size
  replace ho1 := ho1.keep hb7
  replace ho2 := ho2.keep hb7
  replace ho3 := ho3.keep hb7
  replace ho4 := ho4.keep hb7
  replace ho5 := ho5.keep hb7
  replace ho6 := ho6.keep hb7
  replace acc := belowTrans acc hb7 (Nat.le_refl _)
  clear hb7
  go_wp2_with fail
  refine (toIntS_any a0 len0 cap0 xs0 _ (hA0.keep acc) (by omega)).mono ?_
  rintro e v8 ⟨p8, c8, rfl, ho8, hb8⟩
  have sz8 := hb8.size
  replace ho1 := ho1.keep hb8
  replace ho2 := ho2.keep hb8
  replace ho3 := ho3.keep hb8
  replace ho4 := ho4.keep hb8
  replace ho5 := ho5.keep hb8
  replace ho6 := ho6.keep hb8
  replace acc := belowTrans acc hb8 (Nat.le_refl _)
  clear hb8
  go_wp2_with fail
  refine (eqIntS_any _ _ _ _ _ _ _ _ _ ho4.at ho8.at).mono ?_
  rintro e v9 ⟨rfl, hb9⟩
  rw [decide_eq_true rfl]
  have sz9 := hb9.size
  replace ho1 := ho1.keep hb9
  replace ho2 := ho2.keep hb9
  replace ho3 := ho3.keep hb9
  replace ho4 := ho4.keep hb9
  replace ho5 := ho5.keep hb9
  replace ho6 := ho6.keep hb9
  replace ho8 := ho8.keep hb9
  replace acc := belowTrans acc hb9 (Nat.le_refl _)
  clear hb9
  go_wp2_with fail
  refine (toIntS_any a1 len1 cap1 xs1 _ (hA1.keep acc) (by omega)).mono ?_
  rintro e v10 ⟨p10, c10, rfl, ho10, hb10⟩
  have sz10 := hb10.size
  replace ho1 := ho1.keep hb10
  replace ho2 := ho2.keep hb10
  replace ho3 := ho3.keep hb10
  replace ho4 := ho4.keep hb10
  replace ho5 := ho5.keep hb10
  replace ho6 := ho6.keep hb10
  replace ho8 := ho8.keep hb10
  replace acc := belowTrans acc hb10 (Nat.le_refl _)
  clear hb10
  go_wp2_with fail
  refine (eqIntS_any _ _ _ _ _ _ _ _ _ ho5.at ho10.at).mono ?_
  rintro e v11 ⟨rfl, hb11⟩
  rw [decide_eq_true rfl]
  have sz11 := hb11.size
  replace ho1 := ho1.keep hb11
  replace ho2 := ho2.keep hb11
  replace ho3 := ho3.keep hb11
  replace ho4 := ho4.keep hb11
  replace ho5 := ho5.keep hb11
  replace ho6 := ho6.keep hb11
  replace ho8 := ho8.keep hb11
  replace ho10 := ho10.keep hb11
  replace acc := belowTrans acc hb11 (Nat.le_refl _)
  clear hb11
  go_wp2_with fail
  refine (markIntS_any _ _ _ _ _ _ _ _ ho4 (by omega) (by omega) (by omega)).mono ?_
  rintro e v12 ⟨rfl, hm12, hb12⟩
  have sz12 := hb12.size
  replace ho1 := ho1.rg hb12 (by omega)
  replace ho2 := ho2.rg hb12 (by omega)
  replace ho3 := ho3.rg hb12 (by omega)
  replace ho5 := ho5.rg hb12 (by omega)
  replace ho6 := ho6.rg hb12 (by omega)
  replace ho8 := ho8.rg hb12 (by omega)
  replace ho10 := ho10.rg hb12 (by omega)
  replace acc := acc.trans (hb12.belowRg (by omega) (by omega))
  clear hb12
  clear ho4
  go_wp2_with fail
  refine (markIntS_any _ _ _ _ _ _ _ _ ho5 (by omega) (by omega) (by omega)).mono ?_
  rintro e v13 ⟨rfl, hm13, hb13⟩
  have sz13 := hb13.size
  replace ho1 := ho1.rg hb13 (by omega)
  replace ho2 := ho2.rg hb13 (by omega)
  replace ho3 := ho3.rg hb13 (by omega)
  replace hm12 := hm12.rg hb13 (by omega)
  replace ho6 := ho6.rg hb13 (by omega)
  replace ho8 := ho8.rg hb13 (by omega)
  replace ho10 := ho10.rg hb13 (by omega)
  replace acc := acc.trans (hb13.belowRg (by omega) (by omega))
  clear hb13
  clear ho5
  go_wp2_with fail
  refine (eqIntS_any _ _ _ _ _ _ _ _ _ ho6.at ho3.at).mono ?_
  rintro e v14 ⟨rfl, hb14⟩
  rw [decide_eq_true rfl]
  have sz14 := hb14.size
  replace ho1 := ho1.keep hb14
  replace ho2 := ho2.keep hb14
  replace ho3 := ho3.keep hb14
  replace hm12 := hm12.keep hb14
  replace hm13 := hm13.keep hb14
  replace ho6 := ho6.keep hb14
  replace ho8 := ho8.keep hb14
  replace ho10 := ho10.keep hb14
  replace acc := belowTrans acc hb14 (Nat.le_refl _)
  clear hb14
  go_wp2_with fail
  refine (markIntS_any _ _ _ _ _ _ _ _ ho6 (by omega) (by omega) (by omega)).mono ?_
  rintro e v15 ⟨rfl, hm15, hb15⟩
  have sz15 := hb15.size
  replace ho1 := ho1.rg hb15 (by omega)
  replace ho2 := ho2.rg hb15 (by omega)
  replace ho3 := ho3.rg hb15 (by omega)
  replace hm12 := hm12.rg hb15 (by omega)
  replace hm13 := hm13.rg hb15 (by omega)
  replace ho8 := ho8.rg hb15 (by omega)
  replace ho10 := ho10.rg hb15 (by omega)
  replace acc := acc.trans (hb15.belowRg (by omega) (by omega))
  clear hb15
  clear ho6
  go_wp2_with fail
  refine (heldIntS_any _ _ _ _ _ hm15.at (by omega) (by omega) (by omega)).mono ?_
  rintro e _ ⟨rfl, rfl⟩
  go_wp2_with fail
  refine (toIntS_any a0 len0 cap0 xs0 _ (hA0.keep acc) (by omega)).mono ?_
  rintro e v16 ⟨p16, c16, rfl, ho16, hb16⟩
  have sz16 := hb16.size
  replace ho1 := ho1.keep hb16
  replace ho2 := ho2.keep hb16
  replace ho3 := ho3.keep hb16
  replace hm12 := hm12.keep hb16
  replace hm13 := hm13.keep hb16
  replace hm15 := hm15.keep hb16
  replace ho8 := ho8.keep hb16
  replace ho10 := ho10.keep hb16
  replace acc := belowTrans acc hb16 (Nat.le_refl _)
  clear hb16
  go_wp2_with fail
  refine (toIntS_any a1 len1 cap1 xs1 _ (hA1.keep acc) (by omega)).mono ?_
  rintro e v17 ⟨p17, c17, rfl, ho17, hb17⟩
  have sz17 := hb17.size
  replace ho1 := ho1.keep hb17
  replace ho2 := ho2.keep hb17
  replace ho3 := ho3.keep hb17
  replace hm12 := hm12.keep hb17
  replace hm13 := hm13.keep hb17
  replace hm15 := hm15.keep hb17
  replace ho8 := ho8.keep hb17
  replace ho10 := ho10.keep hb17
  replace ho16 := ho16.keep hb17
  replace acc := belowTrans acc hb17 (Nat.le_refl _)
  clear hb17
  go_wp2_with fail
  refine (Hi.out _ _ _ _ _ _ _ ho16.at ho17.at).mono ?_
  rintro e v18 ⟨p18, n18_, c18, rfl, ho18, hb18⟩
  have sz18 := hb18.size
  replace ho1 := ho1.keep hb18
  replace ho2 := ho2.keep hb18
  replace ho3 := ho3.keep hb18
  replace hm12 := hm12.keep hb18
  replace hm13 := hm13.keep hb18
  replace hm15 := hm15.keep hb18
  replace ho8 := ho8.keep hb18
  replace ho10 := ho10.keep hb18
  replace ho16 := ho16.keep hb18
  replace ho17 := ho17.keep hb18
  replace acc := belowTrans acc hb18 (Nat.le_refl _)
  clear hb18
  have hn18 : n18_ ≤ 1048576 := by have := ho18.length; omega
  go_wp2_with fail
  refine (eqIntS_any _ _ _ _ _ _ _ _ _ ho18.at ho3.at).mono ?_
  rintro e v19 ⟨rfl, hb19⟩
  rw [decide_eq_true rfl]
  have sz19 := hb19.size
  replace ho1 := ho1.keep hb19
  replace ho2 := ho2.keep hb19
  replace ho3 := ho3.keep hb19
  replace hm12 := hm12.keep hb19
  replace hm13 := hm13.keep hb19
  replace hm15 := hm15.keep hb19
  replace ho8 := ho8.keep hb19
  replace ho10 := ho10.keep hb19
  replace ho16 := ho16.keep hb19
  replace ho17 := ho17.keep hb19
  replace ho18 := ho18.keep hb19
  replace acc := belowTrans acc hb19 (Nat.le_refl _)
  clear hb19
  go_wp2_with fail
  refine (heldIntS_any _ _ _ _ _ hm15.at (by omega) (by omega) (by omega)).mono ?_
  rintro e _ ⟨rfl, rfl⟩
  go_wp2_with fail
  go_ret
  exact ⟨rfl, acc⟩

/-! ### THE ROW's STEP: WRITTEN OUT: LEAVE IT -/
set_option maxRecDepth 100000 in
theorem lifted (os : Os) (started : os.Started) (H : Type) (enc : TypeId × Value → H) :
    ReturnsInHanded {} Try.checked os 16 .any (Rows.fnExactFallVectorSpec.pre6 enc Try.prog Try.f16 Rows.fnExactFallVectorRow.domain false) (Rows.fnExactFallVectorSpec.post enc Try.prog Try.f16 false true false false) := by
  refine returnsInHanded_of_change (C := Try.checked) own started (by kernel_rfl) Try.func16
    (ChangeSpec.witness6 (enc := enc) (C := Try.checked) false ⟨#[], #[.slice none 0 0, .slice none 0 0], []⟩ 8 (by kernel_rfl) (by kernel_rfl) (by kernel_rfl) (by kernel_rfl)) ?_
  intro W base args ds gs before hval0 hW hcnd _
  have hval : ∀ (j : Nat) t v, Try.f16.params[j]? = some t → args[j]? = some v → Value.okWide Try.prog W .any base t v := hval0
  have hW' := hW
  obtain ⟨p, q, hA0, hV, rfl, hfz, hnd⟩ := hW
  have hA : DataW.TrodAll enc Try.prog W 0 (fun _ => true) true Try.f16.params.toList args.toList ds p := hA0
  rw [Try.params16] at hA hval
  obtain ⟨v0, vs0, d0, ds0, p0, q0, hargs, rfl, rfl, h0, r0⟩ := trodAll_cons hA
  obtain ⟨v1, vs1, d1, ds1, p1, q1, rfl, rfl, rfl, h1, r1⟩ := trodAll_cons r0
  obtain ⟨rfl, rfl, rfl⟩ := trodAll_nil r1
  obtain rfl : args = #[v0, v1] := by cases args; simp_all
  obtain ⟨rfl, rfl⟩ := trodVars_none hV
  obtain ⟨a0, len0, cap0, rfl⟩ := okWide_slice Try.underlying22 (hval 0 22 v0 rfl rfl)
  have k0 := h0
  have lt0 : ∀ x ∈ p0, x.block < W.heap.size := by obtain ⟨m, hm⟩ := k0; exact DataW.trod_lt m _ _ _ hm
  obtain ⟨z0, w0⟩ : ∃ zs, IsRow .i64 W a0 len0 cap0 zs := by
    obtain ⟨fuel, hf⟩ := h0
    rcases open_ints Try.underlying22 Try.underlying3 (by kernel_rfl) hf with ⟨hcs, _⟩ | ⟨x, l, c, zs, hcs, _, hl, hm, hz, _, hcell, hwz⟩
    · simp [Value.cells] at hcs
      obtain ⟨rfl, rfl, rfl⟩ := hcs
      exact ⟨[], .inl ⟨rfl, rfl, rfl, rfl⟩⟩
    · simp [Value.cells] at hcs
      obtain ⟨rfl, rfl, rfl⟩ := hcs
      exact ⟨zs, .inr ⟨_, rfl, hl, hm, by simpa using hz, hcell, hwz⟩⟩
  obtain ⟨a1, len1, cap1, rfl⟩ := okWide_slice Try.underlying22 (hval 1 22 v1 rfl rfl)
  have k1 := h1
  have lt1 : ∀ x ∈ p1, x.block < W.heap.size := by obtain ⟨m, hm⟩ := k1; exact DataW.trod_lt m _ _ _ hm
  obtain ⟨z1, w1⟩ : ∃ zs, IsRow .i64 W a1 len1 cap1 zs := by
    obtain ⟨fuel, hf⟩ := h1
    rcases open_ints Try.underlying22 Try.underlying3 (by kernel_rfl) hf with ⟨hcs, _⟩ | ⟨x, l, c, zs, hcs, _, hl, hm, hz, _, hcell, hwz⟩
    · simp [Value.cells] at hcs
      obtain ⟨rfl, rfl, rfl⟩ := hcs
      exact ⟨[], .inl ⟨rfl, rfl, rfl, rfl⟩⟩
    · simp [Value.cells] at hcs
      obtain ⟨rfl, rfl, rfl⟩ := hcs
      exact ⟨zs, .inr ⟨_, rfl, hl, hm, by simpa using hz, hcell, hwz⟩⟩
  clear hA0 hval0
  refine (walk a0 len0 cap0 z0 a1 len1 cap1 z1 W w0 w1).mono fun e W' ⟨he, bel⟩ => ?_
  subst he
  exact ⟨_, rfl, _, _, _, [], _, [], hW', trodAll_mk1 (shut_bool Try.underlying4 _), (trodAll_cons_mk (Below.trod laidOut (by kernel_rfl) (of_decide_eq_true (by kernel_rfl)) k0 bel lt0) (trodAll_cons_mk (Below.trod laidOut (by kernel_rfl) (of_decide_eq_true (by kernel_rfl)) k1 bel lt1) trodAll_mk0)), rfl, bel.frame _, fun h => by cases h⟩

theorem closedFacts : joinedFacts Try.prog 16 Try.f16 Rows.fnExactFallVectorSpec Rows.fnExactFallVectorRow = true := by
  unfold joinedFacts
  rw [head_enter, head_lifts, head_make]
  kernel_rfl
theorem closedHere : joinedFacts Try.pinned.checked.prog 16 Try.f16 Rows.fnExactFallVectorSpec Rows.fnExactFallVectorRow = true := by
  rw [progEq]
  exact closedFacts
theorem over : Rows.fnExactFallVectorRow.holds Try.pinned (OpenSpec.ofChange Rows.fnExactFallVectorSpec) :=
  OpenClaim.holds_of_wide 16 Try.f16 rfl rfl rfl rfl rfl rfl rfl ⟨rfl, rfl, rfl, rfl, rfl⟩ rfl rfl rfl rfl rfl (by kernel_rfl) Try.func16 closedHere
    (of_decide_eq_true (by kernel_rfl)) (by unfold Func.isWrapper; first | (rw [if_pos (by decide +kernel)]; kernel_rfl) | (rw [if_neg (by decide +kernel)]; exact ⟨rfl, rfl⟩))
    (fun os started H enc _ => lifted os started H enc)

/-- ████ THE STATEMENT ████ -/
theorem proved : Rows.FnExactFallVectorSaid := over
#print axioms proved
end Go.Proofs.Ytbgnabbgepleaaa.fnExactFallVector
