/- FnExactParseRow: for every text the law returns true and leaves its argument as it was: a tied card. Its condition: what the row lists. -/
import Derived.Test.YthmaggmhcfcojaaDoorRows
import Derived.Test.YthmaggmhcfcojaaDoorCards
import Derived.Test.YthmaggmhcfcojaaDoorTie
import Derived.WalkKit
import Derived.LaidMore
import Derived.Lay
import Derived.LaidOnce
import Derived.MakeChecks
import Derived.Stop.LaidErr
import Derived.Stop.Joined
import Derived.SevenTiedAt
import Derived.ProofKit
import Derived.OpenShut
import Derived.ShutString
import Derived.ChangeOld
import Derived.Below
import Derived.Test.YthmaggmhcfcojaaDoorHead
import Derived.Test.YthmaggmhcfcojaaDoorHelp
import Derived.Test.YthmaggmhcfcojaaDoorRtA
import Derived.Test.YthmaggmhcfcojaaDoorParseI
namespace Go.Proofs.YthmaggmhcfcojaaDoor.fnExactParseRow
set_option linter.unusedSimpArgs false
open Go.ChangeShapes Go.WideShapes Go.ChangeAt Go.RowKit
open Go.ChangeMaps (open_string shut_string)
set_option linter.unusedVariables false

theorem own : ownKnob Tryd.prog.godebug = none := by kernel_rfl

/-! ### What the library's variables hold -/
theorem cellsStruct : Tryd.prog.cellsOf 112 = 1 := by kernel_rfl
theorem cellsString : Tryd.prog.cellsOf 9 = 1 := by kernel_rfl
theorem star : "*" ++ "errors.errorString" = "*errors.errorString" := by decide
theorem rowOf (u : TypeId) (h : Tryd.prog.typeName? 3 u = some "*errors.errorString") : u = 110 :=
  typeName_ptr_named (nm := "errors.errorString") (by rw [star]; kernel_rfl) (by kernel_rfl) (by decide) u (by rw [star]; exact h)
theorem libOk_of {W : World} (hL : laidMetH Tryd.prog Rows.fnExactParseRowRow.laid W) (hsh : W.ShapedOpen Tryd.prog) : LibOk W := by
  rw [MakeChecks.laidMetH_plain _ _ _ (by kernel_rfl)] at hL
  have hL4 := hL.tail.tail.tail.tail
  obtain ⟨a0, s0, hv0, -, -, -⟩ := laid_sentinel hL4 (show Tryd.prog.globalNamed "strconv.ErrRange" = some 2 by kernel_rfl) (show (Tryd.prog.globals[2]?).map (·.type) = some 59 by kernel_rfl) Tryd.underlying59 rowOf Tryd.underlying110 Tryd.underlying112 rfl rfl Tryd.underlying9 cellsStruct cellsString
  obtain ⟨a1, s1, hv1, -, -, -⟩ := laid_sentinel hL4.tail (show Tryd.prog.globalNamed "strconv.ErrSyntax" = some 1 by kernel_rfl) (show (Tryd.prog.globals[1]?).map (·.type) = some 59 by kernel_rfl) Tryd.underlying59 rowOf Tryd.underlying110 Tryd.underlying112 rfl rfl Tryd.underlying9 cellsStruct cellsString
  have htab : Lib.TabIs Tryd.prog W "internal/strconv.uint64pow10" .u64 Lib.pow10Tab := Lib.tabIs_of_head (show Tryd.prog.globalNamed "internal/strconv.uint64pow10" = some 3 by kernel_rfl) (show (Tryd.prog.globals[3]?).map (·.type) = some 106 by kernel_rfl) Tryd.underlying106 Tryd.underlying88 (by kernel_rfl) (by kernel_rfl) hL.tail.tail
  exact ⟨hsh, ⟨_, _, hv1⟩, ⟨_, _, hv0⟩, htab⟩

/-! ### The walk -/
set_option maxHeartbeats 4000000 in
set_option maxRecDepth 100000 in
theorem walk (s : ByteArray) (w : World) (hs0 : s.size ≤ maxLen) (hL : LibOk w) :
    Calls Tryd.prog 4 #[.string s] w fun e w' => e = .returned (.bool true) ∧ Below w.heap.size w w' := by
  by_cases hbig : 1048576 < s.size
  · go_enter Tryd.func4, Tryd.ntmps4
    go_wp2
    go_ret
    exact ⟨rfl, Below.refl _ _⟩
  have hs := fun (W : World) => spec_ParseRow s W (by omega)
  have hi := fun (W : World) (h : LibOk W) => impl_ParseRow s W (by omega) h
  have hbd := mParseRow_bound s
  generalize (mParseRow s).1 = r0 at hs hi hbd
  generalize (mParseRow s).2 = r1 at hs hi
  have Hs := Lib.hid hs; clear hs
  have Hi := Lib.hid hi; clear hi
  have acc : Below w.heap.size w w := Below.refl _ _
  go_enter Tryd.func4, Tryd.ntmps4
  go_wp2_with fail
  refine (Hs.out _).mono ?_
  rintro e v2 ⟨p2, n2_, c2, rfl, ho2, hb2⟩
  have sz2 := hb2.size
  replace acc := belowTrans acc hb2 (Nat.le_refl _)
  clear hb2
  have hn2 : n2_ ≤ 1048576 := by have := ho2.length; omega
  go_wp2_with fail
  refine (Hi.out _ (hL.keep acc)).mono ?_
  rintro e v4 ⟨p4, n4_, c4, rfl, ho4, hb4⟩
  have sz4 := hb4.size
  replace ho2 := ho2.keep hb4
  replace acc := belowTrans acc hb4 (Nat.le_refl _)
  clear hb4
  have hn4 : n4_ ≤ 1048576 := by have := ho4.length; omega
  go_wp2_with fail
  refine (eqIntS_any _ _ _ _ _ _ _ _ _ ho4.at ho2.at).mono ?_
  rintro e v5 ⟨rfl, hb5⟩
  rw [decide_eq_true rfl]
  have sz5 := hb5.size
  replace ho2 := ho2.keep hb5
  replace ho4 := ho4.keep hb5
  replace acc := belowTrans acc hb5 (Nat.le_refl _)
  clear hb5
  go_wp2_with fail
  refine (markIntS_any _ _ _ _ _ _ _ _ ho4 (by omega) (by omega) (by omega)).mono ?_
  rintro e v10 ⟨rfl, hm10, hb10⟩
  have sz10 := hb10.size
  replace ho2 := ho2.rg hb10 (by omega)
  replace acc := acc.trans (hb10.belowRg (by omega) (by omega))
  clear hb10
  clear ho4
  go_wp2_with fail
  refine (heldIntS_any _ _ _ _ _ hm10.at (by omega) (by omega) (by omega)).mono ?_
  rintro e _ ⟨rfl, rfl⟩
  go_wp2_with fail
  refine (Hi.out _ (hL.keep acc)).mono ?_
  rintro e v12 ⟨p12, n12_, c12, rfl, ho12, hb12⟩
  have sz12 := hb12.size
  replace ho2 := ho2.keep hb12
  replace hm10 := hm10.keep hb12
  replace acc := belowTrans acc hb12 (Nat.le_refl _)
  clear hb12
  have hn12 : n12_ ≤ 1048576 := by have := ho12.length; omega
  go_wp2_with fail
  refine (eqIntS_any _ _ _ _ _ _ _ _ _ ho12.at ho2.at).mono ?_
  rintro e v13 ⟨rfl, hb13⟩
  rw [decide_eq_true rfl]
  have sz13 := hb13.size
  replace hm10 := hm10.keep hb13
  replace acc := belowTrans acc hb13 (Nat.le_refl _)
  clear hb13
  go_wp2_with fail
  refine (heldIntS_any _ _ _ _ _ hm10.at (by omega) (by omega) (by omega)).mono ?_
  rintro e _ ⟨rfl, rfl⟩
  go_wp2_with fail
  go_ret
  exact ⟨rfl, acc⟩

/-! ### The row's step -/
set_option maxHeartbeats 4000000 in
set_option maxRecDepth 100000 in
/-- The contract, at a world that is shaped and holds what the row lists. -/
theorem step {H : Type} {enc : TypeId × Value → H} (W : World) (base : Nat) (args : Array Value) (ds gs : List (DataW H)) (before : List MemPlace)
    (hval0 : ∀ (j : Nat) t v, Tryd.f4.params[j]? = some t → args[j]? = some v → Value.okWide Tryd.prog W .any base t v)
    (hW : DataW.Whole enc Tryd.prog Tryd.f4.params.toList Rows.fnExactParseRowSpec.vars false W args.toList ds gs before)
    (hL : laidMetH Tryd.prog Rows.fnExactParseRowRow.laid W) (hsh : W.ShapedOpen Tryd.prog) :
    Calls Tryd.prog 4 args W fun e W' => ∃ v, e = .returned v ∧ Rows.fnExactParseRowSpec.post enc Tryd.prog Tryd.f4 false true false false W args v W' := by
  have hval := hval0
  have hW' := hW
  obtain ⟨p, q, hA0, hV, rfl, _, _⟩ := hW
  have hA : DataW.TrodAll enc Tryd.prog W 0 (fun _ => true) true Tryd.f4.params.toList args.toList ds p := hA0
  rw [Tryd.params4] at hA hval
  obtain ⟨v0, d0, rfl, rfl, h0⟩ := trodAll_one hA
  obtain ⟨rfl, rfl⟩ := trodVars_none hV
  obtain ⟨s, rfl, rfl, rfl, hs⟩ := open_string Tryd.underlying9 (hval 0 9 v0 rfl rfl) h0
  simp only [List.append_nil] at hW'
  refine (walk s W hs (libOk_of hL hsh)).mono fun e W' ⟨he, bel⟩ => ?_
  subst he
  exact ⟨_, rfl, _, _, _, [], [], [], hW', trodAll_mk1 (shut_bool Tryd.underlying4 _), trodAll_mk1 (shut_string Tryd.underlying9 hs), rfl, bel.frame _, fun h => by cases h⟩

set_option maxRecDepth 100000 in
theorem met (os : Os) (args : Array Value) : laidMetH Tryd.prog Rows.fnExactParseRowRow.laid ((World.laidAll Tryd.prog os Rows.fnExactParseRowRow.laid).forCall (fun _ _ => 0) ⟨#[], args, []⟩).memory := by
  rw [MakeChecks.laidMetH_plain _ _ _ (by kernel_rfl)]
  exact laidMet_laidAll _ (by kernel_rfl) (by kernel_rfl)

set_option maxRecDepth 100000 in
theorem lifted (os : Os) (started : os.Started) (H : Type) (enc : TypeId × Value → H) :
    ReturnsInHanded {} Tryd.checked os 4 .any (fun w args => (Rows.fnExactParseRowSpec.pre enc Tryd.prog Tryd.f4 [] false w args ∧ laidMetH Tryd.prog Rows.fnExactParseRowRow.laid w) ∧ sizedMet enc Tryd.prog Tryd.f4 (OpenSpec.ofChange Rows.fnExactParseRowSpec) false w args)
      (Rows.fnExactParseRowSpec.post enc Tryd.prog Tryd.f4 false true false false) := by
  refine returnsInHanded_of_calls (C := Tryd.checked) own started (by kernel_rfl)
    (ChangeSpec.witness_shaped (enc := enc) (C := Tryd.checked) (os := os) (X := fun w _ => laidMetH Tryd.prog Rows.fnExactParseRowRow.laid w) false (World.laidAll Tryd.prog os Rows.fnExactParseRowRow.laid) #[.string ⟨#[]⟩] 8 (World.laidAll_os _ _ _)
      (World.shaped_of_ZipB (by kernel_rfl) (by kernel_rfl)) (by kernel_rfl) (by kernel_rfl) (by kernel_rfl) (met os _)) ?_
  intro w tape i _ hsh _ hok hpre _
  obtain ⟨_, _, _, fn', hfn', _, _, _, _, hval⟩ := hok
  have e : fn' = Tryd.f4 := Option.some.inj (hfn'.symm.trans Tryd.func4)
  subst e
  obtain ⟨⟨⟨ds, gs, before, hw, _⟩, hx⟩, _⟩ := hpre
  have hw' := DataW.Whole.of_heap (w' := w.forCall tape i) (by rfl) hw
  refine (step (enc := enc) (w.forCall tape i) w.heap.size i.args ds gs before hval hw' (hx.of_heap (by rfl)) hsh).mono fun e W' ⟨v, he, hp⟩ => ?_
  subst he
  exact ChangeSpec.post_blind hp

theorem closedFacts : joinedFacts Tryd.prog 4 Tryd.f4 Rows.fnExactParseRowSpec Rows.fnExactParseRowRow = true := by
  unfold joinedFacts
  rw [head_enter, head_lifts, head_make]
  kernel_rfl
theorem closedHere : joinedFacts Tryd.pinned.checked.prog 4 Tryd.f4 Rows.fnExactParseRowSpec Rows.fnExactParseRowRow = true := by
  rw [progEq]
  exact closedFacts
set_option maxHeartbeats 4000000 in
set_option maxRecDepth 100000 in
theorem over : Rows.fnExactParseRowRow.holds Tryd.pinned (OpenSpec.ofChange Rows.fnExactParseRowSpec) :=
  OpenClaim.holds_of_wide 4 Tryd.f4 rfl rfl rfl rfl rfl rfl rfl ⟨rfl, rfl, rfl, rfl, rfl⟩ rfl rfl rfl rfl rfl (by kernel_rfl) Tryd.func4 closedHere
    (of_decide_eq_true (by kernel_rfl)) (by unfold Func.isWrapper; first | (rw [if_pos (by decide +kernel)]; kernel_rfl) | (rw [if_neg (by decide +kernel)]; exact ⟨rfl, rfl⟩))
    (fun os started H enc _ => lifted os started H enc)

/-- the tied card -/
theorem proved : Rows.FnExactParseRowCardSaid :=
  Claim7.holds_tied_plain_at .later [] [.data, .data, .data, .data, .sentinel, .sentinel, .pinned] true (true, "68909edbb62b6bc2a30fe815769e9c53bc95b49ff2e7c21b3d162999301ed11a") true
    over (fun _ h => by cases h) (by kernel_rfl) (fun _ h => by cases h) fnExactParseRow_row_tie rfl ⟨rfl, rfl⟩ (by kernel_rfl) rfl
    (fun f fn hf hfn => by
      obtain rfl : f = 4 := Option.some.inj ((show Tryd.prog.funcNamed "loop.example/g01114/laws.FnExactParseRow" = some 4 by kernel_rfl).symm.trans hf) |>.symm
      obtain rfl : fn = Tryd.f4 := (Option.some.inj (Tryd.func4.symm.trans hfn)).symm
      exact ⟨by kernel_rfl, fun j t ht => by
        rw [Tryd.params4] at ht
        have hm : t ∈ [9] := by simpa using Array.mem_of_getElem? ht
        have hall : ([9].all fun u => !Tryd.prog.wantsStandIn u) = true := by kernel_rfl
        exact (show Tryd.prog.wantsStandIn t = false by simpa using List.all_eq_true.1 hall t hm)⟩)
    (by kernel_rfl)
#print axioms proved
end Go.Proofs.YthmaggmhcfcojaaDoor.fnExactParseRow
