/- FnExactParseBank: for every text the law returns true and leaves its argument as it was: a tied card. Its condition: what the row lists. -/
import Derived.Test.YthmaggmhcfcojaaDoorRows
import Derived.Test.YthmaggmhcfcojaaDoorCards
import Derived.Test.YthmaggmhcfcojaaDoorTie
import Derived.WalkKit
import Derived.LaidMore
import Derived.Lay
import Derived.LaidOnce
import Derived.MakeChecks
import Derived.Stop.LaidErr
import Derived.Stop.Joined
import Derived.SevenTiedAt
import Derived.ProofKit
import Derived.OpenShut
import Derived.ShutString
import Derived.ChangeOld
import Derived.Below
import Derived.Test.YthmaggmhcfcojaaDoorHead
import Derived.Test.YthmaggmhcfcojaaDoorHelp
import Derived.Test.YthmaggmhcfcojaaDoorBtV
import Derived.Test.YthmaggmhcfcojaaDoorBtU
namespace Go.Proofs.YthmaggmhcfcojaaDoor.fnExactParseBank
set_option linter.unusedSimpArgs false
open Go.ChangeShapes Go.WideShapes Go.ChangeAt Go.RowKit
open Go.ChangeMaps (open_string shut_string)
set_option linter.unusedVariables false

theorem own : ownKnob Tryd.prog.godebug = none := by kernel_rfl

/-! ### What the library's variables hold -/
theorem cellsStruct : Tryd.prog.cellsOf 112 = 1 := by kernel_rfl
theorem cellsString : Tryd.prog.cellsOf 9 = 1 := by kernel_rfl
theorem star : "*" ++ "errors.errorString" = "*errors.errorString" := by decide
theorem rowOf (u : TypeId) (h : Tryd.prog.typeName? 3 u = some "*errors.errorString") : u = 110 :=
  typeName_ptr_named (nm := "errors.errorString") (by rw [star]; kernel_rfl) (by kernel_rfl) (by decide) u (by rw [star]; exact h)
theorem libOk_of {W : World} (hL : laidMetH Tryd.prog Rows.fnExactParseBankRow.laid W) (hsh : W.ShapedOpen Tryd.prog) : LibOk W := by
  rw [MakeChecks.laidMetH_plain _ _ _ (by kernel_rfl)] at hL
  have hL4 := hL.tail.tail.tail.tail
  obtain ⟨a0, s0, hv0, -, -, -⟩ := laid_sentinel hL4 (show Tryd.prog.globalNamed "strconv.ErrRange" = some 2 by kernel_rfl) (show (Tryd.prog.globals[2]?).map (·.type) = some 59 by kernel_rfl) Tryd.underlying59 rowOf Tryd.underlying110 Tryd.underlying112 rfl rfl Tryd.underlying9 cellsStruct cellsString
  obtain ⟨a1, s1, hv1, -, -, -⟩ := laid_sentinel hL4.tail (show Tryd.prog.globalNamed "strconv.ErrSyntax" = some 1 by kernel_rfl) (show (Tryd.prog.globals[1]?).map (·.type) = some 59 by kernel_rfl) Tryd.underlying59 rowOf Tryd.underlying110 Tryd.underlying112 rfl rfl Tryd.underlying9 cellsStruct cellsString
  have htab : Lib.TabIs Tryd.prog W "internal/strconv.uint64pow10" .u64 Lib.pow10Tab := Lib.tabIs_of_head (show Tryd.prog.globalNamed "internal/strconv.uint64pow10" = some 3 by kernel_rfl) (show (Tryd.prog.globals[3]?).map (·.type) = some 106 by kernel_rfl) Tryd.underlying106 Tryd.underlying88 (by kernel_rfl) (by kernel_rfl) hL.tail.tail
  exact ⟨hsh, ⟨_, _, hv1⟩, ⟨_, _, hv0⟩, htab⟩

/-! ### The walk -/
set_option maxHeartbeats 4000000 in
set_option maxRecDepth 100000 in
theorem walk (s : ByteArray) (w : World) (hs0 : s.size ≤ maxLen) (hL : LibOk w) :
    Calls Tryd.prog 6 #[.string s] w fun e w' => e = .returned (.bool true) ∧ Below w.heap.size w w' := by
  by_cases hbig : 1048576 < s.size
  · go_enter Tryd.func6, Tryd.ntmps6
    go_wp2
    go_ret
    exact ⟨rfl, Below.refl _ _⟩
  have hs : ∀ W, Calls Tryd.prog 20 #[.string s] W fun e w' => ∃ ao0 n0 c0, e = .returned (.tuple #[.agg #[.int .i64 (mParseBank s).1.h, .int .i64 (mParseBank s).1.l, .slice ao0 n0 c0], .bool (mParseBank s).2]) ∧ Own W.heap.size w'.heap.size w' ao0 n0 c0 (mParseBank s).1.p ∧ Below W.heap.size W w' := fun W => spec_ParseBank s W (by omega)
  have hi : ∀ W, LibOk W → Calls Tryd.prog 21 #[.string s] W fun e w' => ∃ ao0 n0 c0, e = .returned (.tuple #[.agg #[.int .i64 (mParseBank s).1.h, .int .i64 (mParseBank s).1.l, .slice ao0 n0 c0], .bool (mParseBank s).2]) ∧ Own W.heap.size w'.heap.size w' ao0 n0 c0 (mParseBank s).1.p ∧ Below W.heap.size W w' := fun W q => impl_ParseBank s W (by omega) q
  have hbd := mPB_bound s
  generalize (mParseBank s).1 = q0 at hs hi hbd
  obtain ⟨qh0, ql0, r0⟩ := q0
  simp only at hs hi hbd
  generalize (mParseBank s).2 = r1 at hs hi
  have hrr1 : (r1 != r1) = false := by simp
  have Hs := Lib.hid hs; clear hs
  have Hi := Lib.hid hi; clear hi
  have Acc := Lib.hid (Below.refl w.heap.size w)
  go_enter Tryd.func6, Tryd.ntmps6
  go_wp2_with fail
  with_reducible refine (Hs.out _).mono ?_
  rintro e v1 ⟨p1_0, n1_0, c1_0, rfl, ho1_0, hb1⟩
  have sz1 : w.heap.size ≤ v1.heap.size := by have := hb1.size; simpa using this
  replace Acc := Lib.hid (belowTrans Acc.out hb1 (Nat.le_refl _))
  have Ow0 := Lib.hid ho1_0; clear ho1_0
  clear hb1
  have hnw0 : n1_0 ≤ 1048576 := by have := Ow0.out.length; omega
  have hbnw0 := belowAlloc v1 (.cells #[.int .i64 qh0, .int .i64 ql0, .slice p1_0 n1_0 c1_0] 36)
  replace Acc := Lib.hid (belowTrans Acc.out hbnw0 (Nat.le_refl _))
  replace Ow0 := Lib.hid (Ow0.out.keep hbnw0)
  have Mw0 := Lib.hid (Blk.new v1 qh0 ql0 p1_0 n1_0 c1_0 36)
  clear hbnw0
  go_wp2_with fail
  with_reducible refine (Hi.out _ (hL.keep Acc.out)).mono ?_
  rintro e v2 ⟨p2_0, n2_0, c2_0, rfl, ho2_0, hb2⟩
  have sz2 : v1.heap.size + 1 ≤ v2.heap.size := by have := hb2.size; simpa using this
  replace Acc := Lib.hid (belowTrans Acc.out hb2 (Nat.le_refl _))
  replace Ow0 := Lib.hid (Ow0.out.keep hb2)
  replace Mw0 := Lib.hid (Mw0.out.keep hb2)
  replace ho2_0 := ho2_0.mono (show v1.heap.size + 1 ≤ (v1.alloc (.cells #[.int .i64 qh0, .int .i64 ql0, .slice p1_0 n1_0 c1_0] 36)).heap.size by simp) (Nat.le_refl _)
  have Og0 := Lib.hid ho2_0; clear ho2_0
  clear hb2
  have hng0 : n2_0 ≤ 1048576 := by have := Og0.out.length; omega
  have hbng0 := belowAlloc v2 (.cells #[.int .i64 qh0, .int .i64 ql0, .slice p2_0 n2_0 c2_0] 36)
  replace Acc := Lib.hid (belowTrans Acc.out hbng0 (Nat.le_refl _))
  replace Ow0 := Lib.hid (Ow0.out.keep hbng0)
  replace Og0 := Lib.hid (Og0.out.keep hbng0)
  replace Mw0 := Lib.hid (Mw0.out.keep hbng0)
  have Mg0 := Lib.hid (Blk.new v2 qh0 ql0 p2_0 n2_0 c2_0 36)
  clear hbng0
  obtain ⟨⟨x0, x1, x2⟩, x3, x4, x5⟩ := Mg0.out.cells
  obtain ⟨⟨y0, y1, y2⟩, y3, y4, y5⟩ := Mw0.out.cells
  go_wp2_with fail
  with_reducible refine (eqBankL qh0 ql0 qh0 ql0 p2_0 p1_0 n2_0 n1_0 c2_0 c1_0 r0 r0 _ Og0.out.at Ow0.out.at ⟨rfl, rfl, rfl⟩).mono ?_
  rintro e v3 ⟨rfl, hb3⟩
  clear x0 x1 x2 x3 x4 x5 y0 y1 y2 y3 y4 y5
  have sz3 : v2.heap.size + 1 ≤ v3.heap.size := by have := hb3.size; simpa using this
  replace Acc := Lib.hid (belowTrans Acc.out hb3 (Nat.le_refl _))
  replace Ow0 := Lib.hid (Ow0.out.keep hb3)
  replace Og0 := Lib.hid (Og0.out.keep hb3)
  replace Mw0 := Lib.hid (Mw0.out.keep hb3)
  replace Mg0 := Lib.hid (Mg0.out.keep hb3)
  clear hb3
  obtain ⟨⟨x0, x1, x2⟩, x3, x4, x5⟩ := Mg0.out.cells
  go_wp2_with fail
  with_reducible refine (markBankL _ _ qh0 ql0 p2_0 n2_0 c2_0 r0 1 _ Og0.out (by omega) (by omega) (by omega)).mono ?_
  rintro e v4 ⟨rfl, hm4, hb4⟩
  clear x0 x1 x2 x3 x4 x5
  have sz4 : v3.heap.size ≤ v4.heap.size := by have := hb4.size; simpa using this
  replace Acc := Lib.hid (Acc.out.trans (hb4.belowRg (by omega) (by omega)))
  replace Ow0 := Lib.hid (Ow0.out.rg hb4 (by omega))
  replace Mw0 := Lib.hid (Mw0.out.rg hb4 (by omega))
  replace Mg0 := Lib.hid (Mg0.out.rg hb4 (by omega))
  replace Og0 := Lib.hid hm4; clear hm4
  clear hb4
  obtain ⟨⟨x0, x1, x2⟩, x3, x4, x5⟩ := Mg0.out.cells
  go_wp2_with fail
  with_reducible refine (heldBankL qh0 ql0 p2_0 n2_0 c2_0 1 _ Og0.out.at (by omega) (by omega) (by omega)).mono ?_
  rintro e v5 ⟨rfl, hb5⟩
  clear x0 x1 x2 x3 x4 x5
  have sz5 : v4.heap.size ≤ v5.heap.size := by have := hb5.size; simpa using this
  replace Acc := Lib.hid (belowTrans Acc.out hb5 (Nat.le_refl _))
  replace Ow0 := Lib.hid (Ow0.out.keep hb5)
  replace Og0 := Lib.hid (Og0.out.keep hb5)
  replace Mw0 := Lib.hid (Mw0.out.keep hb5)
  replace Mg0 := Lib.hid (Mg0.out.keep hb5)
  clear hb5
  go_wp2_with fail
  with_reducible refine (Hi.out _ (hL.keep Acc.out)).mono ?_
  rintro e v6 ⟨p6_0, n6_0, c6_0, rfl, ho6_0, hb6⟩
  have sz6 : v5.heap.size ≤ v6.heap.size := by have := hb6.size; simpa using this
  replace Acc := Lib.hid (belowTrans Acc.out hb6 (Nat.le_refl _))
  replace Ow0 := Lib.hid (Ow0.out.keep hb6)
  replace Og0 := Lib.hid (Og0.out.keep hb6)
  replace Mw0 := Lib.hid (Mw0.out.keep hb6)
  replace Mg0 := Lib.hid (Mg0.out.keep hb6)
  have Oh0 := Lib.hid ho6_0; clear ho6_0
  clear hb6
  have hnh0 : n6_0 ≤ 1048576 := by have := Oh0.out.length; omega
  have hbnh0 := belowAlloc v6 (.cells #[.int .i64 qh0, .int .i64 ql0, .slice p6_0 n6_0 c6_0] 36)
  replace Acc := Lib.hid (belowTrans Acc.out hbnh0 (Nat.le_refl _))
  replace Ow0 := Lib.hid (Ow0.out.keep hbnh0)
  replace Og0 := Lib.hid (Og0.out.keep hbnh0)
  replace Oh0 := Lib.hid (Oh0.out.keep hbnh0)
  replace Mw0 := Lib.hid (Mw0.out.keep hbnh0)
  replace Mg0 := Lib.hid (Mg0.out.keep hbnh0)
  have Mh0 := Lib.hid (Blk.new v6 qh0 ql0 p6_0 n6_0 c6_0 36)
  clear hbnh0
  obtain ⟨⟨x0, x1, x2⟩, x3, x4, x5⟩ := Mh0.out.cells
  obtain ⟨⟨y0, y1, y2⟩, y3, y4, y5⟩ := Mw0.out.cells
  go_wp2_with fail
  with_reducible refine (eqBankL qh0 ql0 qh0 ql0 p6_0 p1_0 n6_0 n1_0 c6_0 c1_0 r0 r0 _ Oh0.out.at Ow0.out.at ⟨rfl, rfl, rfl⟩).mono ?_
  rintro e v7 ⟨rfl, hb7⟩
  clear x0 x1 x2 x3 x4 x5 y0 y1 y2 y3 y4 y5
  have sz7 : v6.heap.size + 1 ≤ v7.heap.size := by have := hb7.size; simpa using this
  replace Acc := Lib.hid (belowTrans Acc.out hb7 (Nat.le_refl _))
  replace Ow0 := Lib.hid (Ow0.out.keep hb7)
  replace Og0 := Lib.hid (Og0.out.keep hb7)
  replace Oh0 := Lib.hid (Oh0.out.keep hb7)
  replace Mw0 := Lib.hid (Mw0.out.keep hb7)
  replace Mg0 := Lib.hid (Mg0.out.keep hb7)
  replace Mh0 := Lib.hid (Mh0.out.keep hb7)
  clear hb7
  obtain ⟨⟨x0, x1, x2⟩, x3, x4, x5⟩ := Mg0.out.cells
  go_wp2_with fail
  with_reducible refine (heldBankL qh0 ql0 p2_0 n2_0 c2_0 1 _ Og0.out.at (by omega) (by omega) (by omega)).mono ?_
  rintro e v8 ⟨rfl, hb8⟩
  clear x0 x1 x2 x3 x4 x5
  have sz8 : v7.heap.size ≤ v8.heap.size := by have := hb8.size; simpa using this
  replace Acc := Lib.hid (belowTrans Acc.out hb8 (Nat.le_refl _))
  replace Ow0 := Lib.hid (Ow0.out.keep hb8)
  replace Og0 := Lib.hid (Og0.out.keep hb8)
  replace Oh0 := Lib.hid (Oh0.out.keep hb8)
  replace Mw0 := Lib.hid (Mw0.out.keep hb8)
  replace Mg0 := Lib.hid (Mg0.out.keep hb8)
  replace Mh0 := Lib.hid (Mh0.out.keep hb8)
  clear hb8
  go_wp2_with fail
  go_ret
  exact ⟨rfl, Acc.out⟩

/-! ### The row's step -/
set_option maxHeartbeats 4000000 in
set_option maxRecDepth 100000 in
/-- The contract, at a world that is shaped and holds what the row lists. -/
theorem step {H : Type} {enc : TypeId × Value → H} (W : World) (base : Nat) (args : Array Value) (ds gs : List (DataW H)) (before : List MemPlace)
    (hval0 : ∀ (j : Nat) t v, Tryd.f6.params[j]? = some t → args[j]? = some v → Value.okWide Tryd.prog W .any base t v)
    (hW : DataW.Whole enc Tryd.prog Tryd.f6.params.toList Rows.fnExactParseBankSpec.vars false W args.toList ds gs before)
    (hL : laidMetH Tryd.prog Rows.fnExactParseBankRow.laid W) (hsh : W.ShapedOpen Tryd.prog) :
    Calls Tryd.prog 6 args W fun e W' => ∃ v, e = .returned v ∧ Rows.fnExactParseBankSpec.post enc Tryd.prog Tryd.f6 false true false false W args v W' := by
  have hval := hval0
  have hW' := hW
  obtain ⟨p, q, hA0, hV, rfl, _, _⟩ := hW
  have hA : DataW.TrodAll enc Tryd.prog W 0 (fun _ => true) true Tryd.f6.params.toList args.toList ds p := hA0
  rw [Tryd.params6] at hA hval
  obtain ⟨v0, d0, rfl, rfl, h0⟩ := trodAll_one hA
  obtain ⟨rfl, rfl⟩ := trodVars_none hV
  obtain ⟨s, rfl, rfl, rfl, hs⟩ := open_string Tryd.underlying9 (hval 0 9 v0 rfl rfl) h0
  simp only [List.append_nil] at hW'
  refine (walk s W hs (libOk_of hL hsh)).mono fun e W' ⟨he, bel⟩ => ?_
  subst he
  exact ⟨_, rfl, _, _, _, [], [], [], hW', trodAll_mk1 (shut_bool Tryd.underlying4 _), trodAll_mk1 (shut_string Tryd.underlying9 hs), rfl, bel.frame _, fun h => by cases h⟩

set_option maxRecDepth 100000 in
theorem met (os : Os) (args : Array Value) : laidMetH Tryd.prog Rows.fnExactParseBankRow.laid ((World.laidAll Tryd.prog os Rows.fnExactParseBankRow.laid).forCall (fun _ _ => 0) ⟨#[], args, []⟩).memory := by
  rw [MakeChecks.laidMetH_plain _ _ _ (by kernel_rfl)]
  exact laidMet_laidAll _ (by kernel_rfl) (by kernel_rfl)

set_option maxRecDepth 100000 in
theorem lifted (os : Os) (started : os.Started) (H : Type) (enc : TypeId × Value → H) :
    ReturnsInHanded {} Tryd.checked os 6 .any (fun w args => (Rows.fnExactParseBankSpec.pre enc Tryd.prog Tryd.f6 [] false w args ∧ laidMetH Tryd.prog Rows.fnExactParseBankRow.laid w) ∧ sizedMet enc Tryd.prog Tryd.f6 (OpenSpec.ofChange Rows.fnExactParseBankSpec) false w args)
      (Rows.fnExactParseBankSpec.post enc Tryd.prog Tryd.f6 false true false false) := by
  refine returnsInHanded_of_calls (C := Tryd.checked) own started (by kernel_rfl)
    (ChangeSpec.witness_shaped (enc := enc) (C := Tryd.checked) (os := os) (X := fun w _ => laidMetH Tryd.prog Rows.fnExactParseBankRow.laid w) false (World.laidAll Tryd.prog os Rows.fnExactParseBankRow.laid) #[.string ⟨#[]⟩] 8 (World.laidAll_os _ _ _)
      (World.shaped_of_ZipB (by kernel_rfl) (by kernel_rfl)) (by kernel_rfl) (by kernel_rfl) (by kernel_rfl) (met os _)) ?_
  intro w tape i _ hsh _ hok hpre _
  obtain ⟨_, _, _, fn', hfn', _, _, _, _, hval⟩ := hok
  have e : fn' = Tryd.f6 := Option.some.inj (hfn'.symm.trans Tryd.func6)
  subst e
  obtain ⟨⟨⟨ds, gs, before, hw, _⟩, hx⟩, _⟩ := hpre
  have hw' := DataW.Whole.of_heap (w' := w.forCall tape i) (by rfl) hw
  refine (step (enc := enc) (w.forCall tape i) w.heap.size i.args ds gs before hval hw' (hx.of_heap (by rfl)) hsh).mono fun e W' ⟨v, he, hp⟩ => ?_
  subst he
  exact ChangeSpec.post_blind hp

theorem closedFacts : joinedFacts Tryd.prog 6 Tryd.f6 Rows.fnExactParseBankSpec Rows.fnExactParseBankRow = true := by
  unfold joinedFacts
  rw [head_enter, head_lifts, head_make]
  kernel_rfl
theorem closedHere : joinedFacts Tryd.pinned.checked.prog 6 Tryd.f6 Rows.fnExactParseBankSpec Rows.fnExactParseBankRow = true := by
  rw [progEq]
  exact closedFacts
set_option maxHeartbeats 4000000 in
set_option maxRecDepth 100000 in
theorem over : Rows.fnExactParseBankRow.holds Tryd.pinned (OpenSpec.ofChange Rows.fnExactParseBankSpec) :=
  OpenClaim.holds_of_wide 6 Tryd.f6 rfl rfl rfl rfl rfl rfl rfl ⟨rfl, rfl, rfl, rfl, rfl⟩ rfl rfl rfl rfl rfl (by kernel_rfl) Tryd.func6 closedHere
    (of_decide_eq_true (by kernel_rfl)) (by unfold Func.isWrapper; first | (rw [if_pos (by decide +kernel)]; kernel_rfl) | (rw [if_neg (by decide +kernel)]; exact ⟨rfl, rfl⟩))
    (fun os started H enc _ => lifted os started H enc)

/-- the tied card -/
theorem proved : Rows.FnExactParseBankCardSaid :=
  Claim7.holds_tied_plain_at .later [] [.data, .data, .data, .data, .sentinel, .sentinel, .pinned] true (true, "68909edbb62b6bc2a30fe815769e9c53bc95b49ff2e7c21b3d162999301ed11a") true
    over (fun _ h => by cases h) (by kernel_rfl) (fun _ h => by cases h) fnExactParseBank_row_tie rfl ⟨rfl, rfl⟩ (by kernel_rfl) rfl
    (fun f fn hf hfn => by
      obtain rfl : f = 6 := Option.some.inj ((show Tryd.prog.funcNamed "loop.example/g01114/laws.FnExactParseBank" = some 6 by kernel_rfl).symm.trans hf) |>.symm
      obtain rfl : fn = Tryd.f6 := (Option.some.inj (Tryd.func6.symm.trans hfn)).symm
      exact ⟨by kernel_rfl, fun j t ht => by
        rw [Tryd.params6] at ht
        have hm : t ∈ [9] := by simpa using Array.mem_of_getElem? ht
        have hall : ([9].all fun u => !Tryd.prog.wantsStandIn u) = true := by kernel_rfl
        exact (show Tryd.prog.wantsStandIn t = false by simpa using List.all_eq_true.1 hall t hm)⟩)
    (by kernel_rfl)
#print axioms proved
end Go.Proofs.YthmaggmhcfcojaaDoor.fnExactParseBank
