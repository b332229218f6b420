/- FnExactFailedLines: for every text the law returns true and leaves its argument as it was: a tied card. Its condition: what the row lists. -/
import Derived.Test.YtimmjimeldejjaaGreatDoorRows
import Derived.Test.YtimmjimeldejjaaGreatDoorCards
import Derived.Test.YtimmjimeldejjaaGreatDoorTie
import Derived.WalkKit
import Derived.LaidMore
import Derived.Lay
import Derived.LaidOnce
import Derived.MakeChecks
import Derived.Stop.LaidErr
import Derived.Stop.Joined
import Derived.SevenTiedAt
import Derived.ProofKit
import Derived.OpenShut
import Derived.ShutString
import Derived.LaidHandle
import Derived.OpenVars
import Derived.ChangeOld
import Derived.Below
import Derived.Test.YtimmjimeldejjaaGreatDoorHead
import Derived.Stop.LaidTwo
import Derived.FnData
import Derived.Test.YtimmjimeldejjaaGreatDoorHelp
import Derived.Test.YtimmjimeldejjaaGreatDoorSt
import Derived.Test.YtimmjimeldejjaaGreatDoorErE
import Derived.Test.YtimmjimeldejjaaGreatDoorCo3
namespace Go.Proofs.YtimmjimeldejjaaGreatDoor.fnExactFailedLines
set_option linter.unusedSimpArgs false
open Go.ChangeShapes Go.WideShapes Go.ChangeAt Go.RowKit
open Go.ChangeMaps (open_string shut_string)
set_option linter.unusedVariables false

theorem own : ownKnob Tryz.prog.godebug = none := by kernel_rfl
theorem laidOut : laidOutB Tryz.prog = true := by kernel_rfl

/-! ### What the library's variables hold -/
theorem cellsStruct : Tryz.prog.cellsOf 263 = 1 := by kernel_rfl
theorem cellsString : Tryz.prog.cellsOf 9 = 1 := by kernel_rfl
theorem star : "*" ++ "errors.errorString" = "*errors.errorString" := by decide
theorem rowOf (u : TypeId) (h : Tryz.prog.typeName? 3 u = some "*errors.errorString") : u = 261 :=
  typeName_ptr_named (nm := "errors.errorString") (by rw [star]; kernel_rfl) (by kernel_rfl) (by decide) u (by rw [star]; exact h)
theorem lt_size {W : World} {g : Nat} {v : Value} (h : W.cell? ⟨g, 0, none⟩ = some v) : g < W.heap.size := by
  rcases Nat.lt_or_ge g W.heap.size with h' | h'
  · exact h'
  · simp [World.cell?, Array.getElem?_eq_none h'] at h
theorem split_of {W : World} (hL : laidMetH Tryz.prog Rows.fnExactFailedLinesRow.laid W) : laidMet Tryz.prog [("math/bits.deBruijn32tab", Rows.laid_math_bits_deBruijn32tab), ("math/bits.deBruijn64tab", Rows.laid_math_bits_deBruijn64tab), ("internal/strconv.uint64pow10", Rows.laid_internal_strconv_uint64pow10), ("unicode/utf8.acceptRanges", Rows.laid_unicode_utf8_acceptRanges), ("strconv.ErrRange", Rows.laid_strconv_ErrRange), ("strconv.ErrSyntax", Rows.laid_strconv_ErrSyntax), ("loop.example/g01114/impl.errNo", Rows.laid_loop_example_g01114_impl_errNo), ("loop.example/g01114/impl.errWhat", Rows.laid_loop_example_g01114_impl_errWhat), ("unicode/utf8.first", Rows.laid_unicode_utf8_first)] W ∧ handlesMet Tryz.prog [("errors.errorType", Rows.laid_errors_errorType)] W := by
  have e : laidMetH Tryz.prog Rows.fnExactFailedLinesRow.laid W = (laidMet Tryz.prog [("math/bits.deBruijn32tab", Rows.laid_math_bits_deBruijn32tab), ("math/bits.deBruijn64tab", Rows.laid_math_bits_deBruijn64tab), ("internal/strconv.uint64pow10", Rows.laid_internal_strconv_uint64pow10), ("unicode/utf8.acceptRanges", Rows.laid_unicode_utf8_acceptRanges), ("strconv.ErrRange", Rows.laid_strconv_ErrRange), ("strconv.ErrSyntax", Rows.laid_strconv_ErrSyntax), ("loop.example/g01114/impl.errNo", Rows.laid_loop_example_g01114_impl_errNo), ("loop.example/g01114/impl.errWhat", Rows.laid_loop_example_g01114_impl_errWhat), ("unicode/utf8.first", Rows.laid_unicode_utf8_first)] W ∧ handlesMet Tryz.prog [("errors.errorType", Rows.laid_errors_errorType)] W) := by kernel_rfl
  rw [e] at hL
  exact hL
theorem tyOk_of {W : World} (hL : laidMetH Tryz.prog Rows.fnExactFailedLinesRow.laid W) : TyOk W := by
  have hh := (split_of hL).2 ("errors.errorType", Rows.laid_errors_errorType) (by simp)
  obtain ⟨name, u, ty, h1, h2, h3, h4, h5⟩ : ∃ name u ty, (Rows.laid_errors_errorType : DataW Unit).handleName? = some name ∧ (Tryz.prog.cutTypes.find? (·.1 == "internal/reflectlite.rtype")).map (·.2) = some u ∧ ty < Tryz.prog.types.size ∧ Tryz.prog.rowNamed ty name = true ∧ W.var? Tryz.prog "errors.errorType" = some #[.iface u (.agg #[typeHandle Tryz.prog ty])] := hh
  have e1 : (Rows.laid_errors_errorType : DataW Unit).handleName? = some [101, 114, 114, 111, 114] := by kernel_rfl
  obtain rfl : [101, 114, 114, 111, 114] = name := Option.some.inj (e1.symm.trans h1)
  have e2 : (Tryz.prog.cutTypes.find? (·.1 == "internal/reflectlite.rtype")).map (·.2) = some 165 := by kernel_rfl
  obtain rfl : 165 = u := Option.some.inj (e2.symm.trans h2)
  have e3 : (List.range Tryz.prog.types.size).all (fun t => !Tryz.prog.rowNamed t [101, 114, 114, 111, 114] || t == 73) = true := by kernel_rfl
  have e4 := List.all_eq_true.1 e3 ty (List.mem_range.2 h3)
  rw [h4] at e4
  obtain rfl : ty = 73 := by simpa using e4
  have e5 : typeHandle Tryz.prog 73 = .pointer (some ⟨11, 73, none⟩) := by kernel_rfl
  rw [e5] at h5
  have cn : W.cell? ⟨0, 0, none⟩ = some (.iface 165 (.agg #[.pointer (some ⟨11, 73, none⟩)])) := World.var?_cell (show Tryz.prog.globalNamed "errors.errorType" = some 0 by kernel_rfl) h5 0
  exact ⟨cn, lt_size cn⟩
theorem dkOk_of {W : World} (hL : laidMetH Tryz.prog Rows.fnExactFailedLinesRow.laid W) (hsh : W.ShapedOpen Tryz.prog) : ∃ pn pw, DkOk W pn pw := by
  replace hL := (split_of hL).1
  have hL4 := hL.tail.tail.tail.tail
  obtain ⟨a0, s0, hv0, -, -, -⟩ := laid_sentinel hL4 (show Tryz.prog.globalNamed "strconv.ErrRange" = some 8 by kernel_rfl) (show (Tryz.prog.globals[8]?).map (·.type) = some 73 by kernel_rfl) Tryz.underlying73 rowOf Tryz.underlying261 Tryz.underlying263 rfl rfl Tryz.underlying9 cellsStruct cellsString
  obtain ⟨a1, s1, hv1, -, -, -⟩ := laid_sentinel hL4.tail (show Tryz.prog.globalNamed "strconv.ErrSyntax" = some 7 by kernel_rfl) (show (Tryz.prog.globals[7]?).map (·.type) = some 73 by kernel_rfl) Tryz.underlying73 rowOf Tryz.underlying261 Tryz.underlying263 rfl rfl Tryz.underlying9 cellsStruct cellsString
  obtain ⟨p0, p1, t0, t1, c0, c1, y0, y1, hn, hw, -, -, -, -, -, -, hne, hb0, hb1⟩ := laid_sentinels2 hL4.tail.tail (show Tryz.prog.globalNamed "loop.example/g01114/impl.errNo" = some 2 by kernel_rfl) (show (Tryz.prog.globals[2]?).map (·.type) = some 73 by kernel_rfl)
    (show Tryz.prog.globalNamed "loop.example/g01114/impl.errWhat" = some 1 by kernel_rfl) (show (Tryz.prog.globals[1]?).map (·.type) = some 73 by kernel_rfl) Tryz.underlying73 rowOf Tryz.underlying261 Tryz.underlying263 rfl rfl Tryz.underlying9 cellsStruct cellsString
  have htab : Lib.TabIs Tryz.prog W "internal/strconv.uint64pow10" .u64 Lib.pow10Tab := Lib.tabIs_of_head (show Tryz.prog.globalNamed "internal/strconv.uint64pow10" = some 4 by kernel_rfl) (show (Tryz.prog.globals[4]?).map (·.type) = some 241 by kernel_rfl) Tryz.underlying241 Tryz.underlying49 (by kernel_rfl) (by kernel_rfl) hL.tail.tail
  have cn : W.cell? ⟨2, 0, none⟩ = some (errV p0) := World.var?_cell (show Tryz.prog.globalNamed "loop.example/g01114/impl.errNo" = some 2 by kernel_rfl) hn 0
  have cw : W.cell? ⟨1, 0, none⟩ = some (errV p1) := World.var?_cell (show Tryz.prog.globalNamed "loop.example/g01114/impl.errWhat" = some 1 by kernel_rfl) hw 0
  exact ⟨p0, p1, ⟨⟨hsh, ⟨_, _, hv1⟩, ⟨_, _, hv0⟩, htab⟩, cn, cw, hne, ⟨_, _, hb0⟩, ⟨_, _, hb1⟩, lt_size cn, lt_size cw⟩⟩

/-! ### The walk -/
set_option maxHeartbeats 4000000 in
set_option maxRecDepth 100000 in
theorem walk (pn pw : Addr) (s : ByteArray) (w : World) (hs0 : s.size ≤ maxLen) (hd : DkOk w pn pw) (hT : TyOk w) :
    Calls Tryz.prog 8 #[.string s] w fun e w' => e = .returned (.bool true) ∧ Below w.heap.size w w' := by
  by_cases hbig : 1048576 < s.size
  · go_enter Tryz.func8, Tryz.ntmps8
    go_wp2
    go_ret
    exact ⟨rfl, Below.refl _ _⟩
  have hs := fun (W : World) => spec_FailedLines s W (by omega)
  have hi := fun (W : World) (h : DkOk W pn pw) (hT : TyOk W) => impl_FailedLines pn pw s W (by omega) h hT
  have hbd : (mFailedLines s.data.toList).1.length ≤ 50 := by have := mFL_bound s.data.toList; omega
  generalize (mFailedLines s.data.toList).1 = r0 at hs hi hbd
  generalize (mFailedLines s.data.toList).2 = r1 at hs hi
  have Hs := Lib.hid hs; clear hs
  have Hi := Lib.hid hi; clear hi
  have acc : Below w.heap.size w w := Below.refl _ _
  go_enter Tryz.func8, Tryz.ntmps8
  go_wp2_with fail
  refine (Hs.out _).mono ?_
  rintro e v2 ⟨p2, n2_, c2, rfl, ho2, hb2⟩
  have sz2 := hb2.size
  replace acc := belowTrans acc hb2 (Nat.le_refl _)
  clear hb2
  have hn2 : n2_ ≤ 50 := by have := ho2.length; omega
  go_wp2_with fail
  refine (Hi.out _ (hd.keep acc) (hT.keep acc)).mono ?_
  rintro e v4 ⟨p4, n4_, c4, rfl, ho4, hb4⟩
  have sz4 := hb4.size
  replace ho2 := OwnRow.keep ho2 hb4
  replace acc := belowTrans acc hb4 (Nat.le_refl _)
  clear hb4
  have hn4 : n4_ ≤ 50 := by have := ho4.length; omega
  go_wp2_with fail
  refine (eqIntS_any _ _ _ _ _ _ _ _ _ (Own.at ho4) (Own.at ho2)).mono ?_
  rintro e v5 ⟨rfl, hbv5⟩
  rw [decide_eq_true rfl]
  have sz5 := hbv5.size
  replace ho2 := OwnRow.keep ho2 hbv5
  replace ho4 := OwnRow.keep ho4 hbv5
  replace acc := belowTrans acc hbv5 (Nat.le_refl _)
  clear hbv5
  go_wp2_with fail
  refine (markIntS_any _ _ _ _ _ _ 1 _ ho4 (by omega) (by omega) (by omega)).mono ?_
  rintro e v10 ⟨rfl, hm10, hb10⟩
  have sz10 := hb10.size
  replace ho2 := OwnRow.chg ho2 hb10 (fun g h1 h2 _ h3 => by have := h3.1; have := h3.2; omega)
  replace acc := acc.trans (hb10.belowRg (by omega) (by omega))
  clear hb10 ho4
  go_wp2_with fail
  refine (heldIntS_any _ _ _ 1 _ (Own.at hm10) (by omega) (by omega) (by omega)).mono ?_
  rintro e _ ⟨rfl, rfl⟩
  go_wp2_with fail
  refine (Hi.out _ (hd.keep acc) (hT.keep acc)).mono ?_
  rintro e v12 ⟨p12, n12_, c12, rfl, ho12, hb12⟩
  have sz12 := hb12.size
  replace ho2 := OwnRow.keep ho2 hb12
  replace hm10 := OwnRow.keep hm10 hb12
  replace acc := belowTrans acc hb12 (Nat.le_refl _)
  clear hb12
  go_wp2_with fail
  refine (eqIntS_any _ _ _ _ _ _ _ _ _ (Own.at ho12) (Own.at ho2)).mono ?_
  rintro e v13 ⟨rfl, hbv13⟩
  rw [decide_eq_true rfl]
  have sz13 := hbv13.size
  replace ho2 := OwnRow.keep ho2 hbv13
  replace hm10 := OwnRow.keep hm10 hbv13
  replace acc := belowTrans acc hbv13 (Nat.le_refl _)
  clear hbv13
  go_wp2_with fail
  refine (heldIntS_any _ _ _ 1 _ (Own.at hm10) (by omega) (by omega) (by omega)).mono ?_
  rintro e _ ⟨rfl, rfl⟩
  go_wp2_with fail
  go_ret
  exact ⟨rfl, acc⟩

/-! ### The row's step -/
set_option maxHeartbeats 4000000 in
set_option maxRecDepth 100000 in
/-- The contract, at a world that is shaped and holds what the row lists. -/
theorem step {H : Type} {enc : TypeId × Value → H} (W : World) (base : Nat) (args : Array Value) (ds gs : List (DataW H)) (before : List MemPlace)
    (hval0 : ∀ (j : Nat) t v, Tryz.f8.params[j]? = some t → args[j]? = some v → Value.okWide Tryz.prog W .any base t v)
    (hW : DataW.Whole enc Tryz.prog Tryz.f8.params.toList Rows.fnExactFailedLinesSpec.vars false W args.toList ds gs before)
    (hL : laidMetH Tryz.prog Rows.fnExactFailedLinesRow.laid W) (hsh : W.ShapedOpen Tryz.prog) :
    Calls Tryz.prog 8 args W fun e W' => ∃ v, e = .returned v ∧ Rows.fnExactFailedLinesSpec.post enc Tryz.prog Tryz.f8 false true false false W args v W' := by
  have hval := hval0
  have hW' := hW
  obtain ⟨p, q, hA0, hV, rfl, _, _⟩ := hW
  have hA : DataW.TrodAll enc Tryz.prog W 0 (fun _ => true) true Tryz.f8.params.toList args.toList ds p := hA0
  rw [Tryz.params8] at hA hval
  obtain ⟨v0, d0, rfl, rfl, h0⟩ := trodAll_one hA
  have hV2 := hV
  obtain ⟨g0, y0, z0, f0, d1, q0, g1, y1, z1, f1, d2, q1, rfl, -⟩ := trodVars_two hV
  obtain ⟨s, rfl, rfl, rfl, hs⟩ := open_string Tryz.underlying9 (hval 0 9 v0 rfl rfl) h0
  try simp only [List.append_nil] at hW'
  obtain ⟨pn, pw, hdk⟩ := dkOk_of hL hsh
  refine (walk pn pw s W hs hdk (tyOk_of hL)).mono fun e W' ⟨he, bel⟩ => ?_
  subst he
  exact ⟨_, rfl, _, _, _, [], [], _, hW', trodAll_mk1 (shut_bool Tryz.underlying4 _), trodAll_mk1 (shut_string Tryz.underlying9 hs), Below.trodVars laidOut bel (by kernel_rfl) hV2, bel.frame _, fun h => by cases h⟩

set_option maxRecDepth 100000 in
def plain : List (String × DataW Unit) := [("math/bits.deBruijn32tab", Rows.laid_math_bits_deBruijn32tab), ("math/bits.deBruijn64tab", Rows.laid_math_bits_deBruijn64tab), ("internal/strconv.uint64pow10", Rows.laid_internal_strconv_uint64pow10), ("unicode/utf8.acceptRanges", Rows.laid_unicode_utf8_acceptRanges), ("strconv.ErrRange", Rows.laid_strconv_ErrRange), ("strconv.ErrSyntax", Rows.laid_strconv_ErrSyntax), ("loop.example/g01114/impl.errNo", Rows.laid_loop_example_g01114_impl_errNo), ("loop.example/g01114/impl.errWhat", Rows.laid_loop_example_g01114_impl_errWhat), ("unicode/utf8.first", Rows.laid_unicode_utf8_first)]
set_option maxRecDepth 100000 in
theorem met0 (os : Os) (args : Array Value) : laidMet Tryz.prog plain ((((World.holding Tryz.prog os ⟨#[], #[], []⟩).setCell ⟨0, 0, none⟩ (.iface 165 (.agg #[.pointer (some ⟨11, 73, none⟩)]))).layVars Tryz.prog plain).forCall (fun _ _ => 0) ⟨#[], args, []⟩).memory := by
  have e1 : (plain.filter fun x => (plain.map (·.1)).contains x.1) = plain := List.filter_eq_self.2 fun x hx => List.contains_iff_mem.2 (List.mem_map.2 ⟨x, hx, rfl⟩)
  have e2 : (plain.filter fun x => !(plain.map (·.1)).contains x.1) = [] := List.filter_eq_nil_iff.2 fun x hx => by rw [List.contains_iff_mem.2 (List.mem_map.2 ⟨x, hx, rfl⟩)]; simp
  have hf : ((World.holding Tryz.prog os ⟨#[], #[], []⟩).setCell ⟨0, 0, none⟩ (.iface 165 (.agg #[.pointer (some ⟨11, 73, none⟩)]))).layFits Tryz.prog plain [] = true := by kernel_rfl
  have hi : ((World.holding Tryz.prog os ⟨#[], #[], []⟩).setCell ⟨0, 0, none⟩ (.iface 165 (.agg #[.pointer (some ⟨11, 73, none⟩)]))).layIfaces Tryz.prog plain (((World.holding Tryz.prog os ⟨#[], #[], []⟩).setCell ⟨0, 0, none⟩ (.iface 165 (.agg #[.pointer (some ⟨11, 73, none⟩)]))).layVars Tryz.prog plain) = true := by kernel_rfl
  have h : laidMet Tryz.prog plain (((World.holding Tryz.prog os ⟨#[], #[], []⟩).setCell ⟨0, 0, none⟩ (.iface 165 (.agg #[.pointer (some ⟨11, 73, none⟩)]))).layVars Tryz.prog plain) := laidMet_layVars (w0 := ((World.holding Tryz.prog os ⟨#[], #[], []⟩).setCell ⟨0, 0, none⟩ (.iface 165 (.agg #[.pointer (some ⟨11, 73, none⟩)])))) (plain.map (·.1)) [] (by rw [e1]) (by rw [e1]; exact hf) (by rw [e1]; exact hi) (by rw [e2]; exact LaidIn.none)
  exact h.of_heap (by simp [World.memory, World.forCall, Input.heap])
set_option maxRecDepth 100000 in
theorem met (os : Os) (args : Array Value) : laidMetH Tryz.prog Rows.fnExactFailedLinesRow.laid ((((World.holding Tryz.prog os ⟨#[], #[], []⟩).setCell ⟨0, 0, none⟩ (.iface 165 (.agg #[.pointer (some ⟨11, 73, none⟩)]))).layVars Tryz.prog plain).forCall (fun _ _ => 0) ⟨#[], args, []⟩).memory := by
  refine laidMetH_of_parts3 (fuel := 8) ?_ (by kernel_rfl) (by kernel_rfl)
  have e : (Rows.fnExactFailedLinesRow.laid.filter fun x => x.2.handleName?.isNone) = plain := by kernel_rfl
  rw [e]
  exact met0 os args

set_option maxRecDepth 100000 in
theorem lifted (os : Os) (started : os.Started) (H : Type) (enc : TypeId × Value → H) :
    ReturnsInHanded {} Tryz.checked os 8 .any (fun w args => (Rows.fnExactFailedLinesSpec.pre enc Tryz.prog Tryz.f8 [] false w args ∧ laidMetH Tryz.prog Rows.fnExactFailedLinesRow.laid w) ∧ sizedMet enc Tryz.prog Tryz.f8 (OpenSpec.ofChange Rows.fnExactFailedLinesSpec) false w args)
      (Rows.fnExactFailedLinesSpec.post enc Tryz.prog Tryz.f8 false true false false) := by
  refine returnsInHanded_of_calls (C := Tryz.checked) own started (by kernel_rfl)
    (ChangeSpec.witness_shaped (enc := enc) (C := Tryz.checked) (os := os) (X := fun w _ => laidMetH Tryz.prog Rows.fnExactFailedLinesRow.laid w) false (((World.holding Tryz.prog os ⟨#[], #[], []⟩).setCell ⟨0, 0, none⟩ (.iface 165 (.agg #[.pointer (some ⟨11, 73, none⟩)]))).layVars Tryz.prog plain) #[.string ⟨#[]⟩] 8 ((World.layVars_os _ _ _).trans rfl)
      (World.shaped_of_ZipB (by kernel_rfl) (by kernel_rfl)) (by kernel_rfl) (by kernel_rfl) (by kernel_rfl) (met os _)) ?_
  intro w tape i _ hsh _ hok hpre _
  obtain ⟨_, _, _, fn', hfn', _, _, _, _, hval⟩ := hok
  have e : fn' = Tryz.f8 := Option.some.inj (hfn'.symm.trans Tryz.func8)
  subst e
  obtain ⟨⟨⟨ds, gs, before, hw, _⟩, hx⟩, _⟩ := hpre
  have hw' := DataW.Whole.of_heap (w' := w.forCall tape i) (by rfl) hw
  refine (step (enc := enc) (w.forCall tape i) w.heap.size i.args ds gs before hval hw' (hx.of_heap (by rfl)) hsh).mono fun e W' ⟨v, he, hp⟩ => ?_
  subst he
  exact ChangeSpec.post_blind hp

theorem closedFacts : joinedFacts Tryz.prog 8 Tryz.f8 Rows.fnExactFailedLinesSpec Rows.fnExactFailedLinesRow = true := by
  unfold joinedFacts
  rw [head_enter, head_lifts, head_make]
  kernel_rfl
theorem closedHere : joinedFacts Tryz.pinned.checked.prog 8 Tryz.f8 Rows.fnExactFailedLinesSpec Rows.fnExactFailedLinesRow = true := by
  rw [progEq]
  exact closedFacts
set_option maxHeartbeats 4000000 in
set_option maxRecDepth 100000 in
theorem over : Rows.fnExactFailedLinesRow.holds Tryz.pinned (OpenSpec.ofChange Rows.fnExactFailedLinesSpec) :=
  OpenClaim.holds_of_wide 8 Tryz.f8 rfl rfl rfl rfl rfl rfl rfl ⟨rfl, rfl, rfl, rfl, rfl⟩ rfl rfl rfl rfl rfl (by kernel_rfl) Tryz.func8 closedHere
    (of_decide_eq_true (by kernel_rfl)) (by unfold Func.isWrapper; first | (rw [if_pos (by decide +kernel)]; kernel_rfl) | (rw [if_neg (by decide +kernel)]; exact ⟨rfl, rfl⟩))
    (fun os started H enc _ => lifted os started H enc)

/-- the tied card -/
theorem proved : Rows.FnExactFailedLinesCardSaid :=
  Claim7.holds_tied_plain_at .later [] [.data, .data, .data, .data, .handle, .sentinel, .sentinel, .sentinel, .sentinel, .pinned] true (true, "8cb95df47daeb402534c0b601241f3dafaaad34dc9a7496a24a995760f3e3bf6") true
    over (fun _ h => by cases h) (by kernel_rfl) (fun _ h => by cases h) fnExactFailedLines_row_tie rfl ⟨rfl, rfl⟩ (by kernel_rfl) rfl
    (fun f fn hf hfn => by
      obtain rfl : f = 8 := Option.some.inj ((show Tryz.prog.funcNamed "loop.example/g01114/laws.FnExactFailedLines" = some 8 by kernel_rfl).symm.trans hf) |>.symm
      obtain rfl : fn = Tryz.f8 := (Option.some.inj (Tryz.func8.symm.trans hfn)).symm
      exact ⟨by kernel_rfl, fun j t ht => by
        rw [Tryz.params8] at ht
        have hm : t ∈ [9] := by simpa using Array.mem_of_getElem? ht
        have hall : ([9].all fun u => !Tryz.prog.wantsStandIn u) = true := by kernel_rfl
        exact (show Tryz.prog.wantsStandIn t = false by simpa using List.all_eq_true.1 hall t hm)⟩)
    (by kernel_rfl)
#print axioms proved
end Go.Proofs.YtimmjimeldejjaaGreatDoor.fnExactFailedLines
