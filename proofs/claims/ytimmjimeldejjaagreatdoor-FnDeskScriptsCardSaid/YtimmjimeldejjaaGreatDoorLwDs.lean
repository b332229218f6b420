/- FnDeskScripts: for all bytes the law returns true and leaves its arguments as they were: a tied card. Its condition: what the row lists. -/
import Derived.Test.YtimmjimeldejjaaGreatDoorRows
import Derived.Test.YtimmjimeldejjaaGreatDoorCards
import Derived.Test.YtimmjimeldejjaaGreatDoorTie
import Derived.WalkKit
import Derived.LaidMore
import Derived.Lay
import Derived.LaidOnce
import Derived.MakeChecks
import Derived.Stop.LaidErr
import Derived.Stop.Joined
import Derived.SevenTiedAt
import Derived.ProofKit
import Derived.OpenShut
import Derived.ShutString
import Derived.LaidHandle
import Derived.OpenVars
import Derived.ChangeOld
import Derived.Below
import Derived.Test.YtimmjimeldejjaaGreatDoorHead
import Derived.Stop.LaidTwo
import Derived.FnData
import Derived.Test.YtimmjimeldejjaaGreatDoorDk0
namespace Go.Proofs.YtimmjimeldejjaaGreatDoor.fnDeskScripts
set_option linter.unusedSimpArgs false
open Go.ChangeShapes Go.WideShapes Go.ChangeAt Go.RowKit
open Go.ChangeMaps (open_string shut_string)
set_option linter.unusedVariables false

theorem own : ownKnob Tryz.prog.godebug = none := by kernel_rfl
theorem laidOut : laidOutB Tryz.prog = true := by kernel_rfl

/-! ### What the library's variables hold -/
theorem cellsStruct : Tryz.prog.cellsOf 263 = 1 := by kernel_rfl
theorem cellsString : Tryz.prog.cellsOf 9 = 1 := by kernel_rfl
theorem star : "*" ++ "errors.errorString" = "*errors.errorString" := by decide
theorem rowOf (u : TypeId) (h : Tryz.prog.typeName? 3 u = some "*errors.errorString") : u = 261 :=
  typeName_ptr_named (nm := "errors.errorString") (by rw [star]; kernel_rfl) (by kernel_rfl) (by decide) u (by rw [star]; exact h)
theorem lt_size {W : World} {g : Nat} {v : Value} (h : W.cell? ⟨g, 0, none⟩ = some v) : g < W.heap.size := by
  rcases Nat.lt_or_ge g W.heap.size with h' | h'
  · exact h'
  · simp [World.cell?, Array.getElem?_eq_none h'] at h
theorem split_of {W : World} (hL : laidMetH Tryz.prog Rows.fnDeskScriptsRow.laid W) : laidMet Tryz.prog [("math/bits.deBruijn32tab", Rows.laid_math_bits_deBruijn32tab), ("math/bits.deBruijn64tab", Rows.laid_math_bits_deBruijn64tab), ("internal/strconv.uint64pow10", Rows.laid_internal_strconv_uint64pow10), ("unicode/utf8.acceptRanges", Rows.laid_unicode_utf8_acceptRanges), ("strconv.ErrRange", Rows.laid_strconv_ErrRange), ("strconv.ErrSyntax", Rows.laid_strconv_ErrSyntax), ("loop.example/g01114/impl.errNo", Rows.laid_loop_example_g01114_impl_errNo), ("loop.example/g01114/impl.errWhat", Rows.laid_loop_example_g01114_impl_errWhat), ("unicode/utf8.first", Rows.laid_unicode_utf8_first)] W ∧ handlesMet Tryz.prog [("errors.errorType", Rows.laid_errors_errorType)] W := by
  have e : laidMetH Tryz.prog Rows.fnDeskScriptsRow.laid W = (laidMet Tryz.prog [("math/bits.deBruijn32tab", Rows.laid_math_bits_deBruijn32tab), ("math/bits.deBruijn64tab", Rows.laid_math_bits_deBruijn64tab), ("internal/strconv.uint64pow10", Rows.laid_internal_strconv_uint64pow10), ("unicode/utf8.acceptRanges", Rows.laid_unicode_utf8_acceptRanges), ("strconv.ErrRange", Rows.laid_strconv_ErrRange), ("strconv.ErrSyntax", Rows.laid_strconv_ErrSyntax), ("loop.example/g01114/impl.errNo", Rows.laid_loop_example_g01114_impl_errNo), ("loop.example/g01114/impl.errWhat", Rows.laid_loop_example_g01114_impl_errWhat), ("unicode/utf8.first", Rows.laid_unicode_utf8_first)] W ∧ handlesMet Tryz.prog [("errors.errorType", Rows.laid_errors_errorType)] W) := by kernel_rfl
  rw [e] at hL
  exact hL
def TyC (w : World) : Prop := w.cell? ⟨0, 0, none⟩ = some (.iface 165 (.agg #[.pointer (some ⟨11, 73, none⟩)])) ∧ 0 < w.heap.size
theorem tyOk_of {W : World} (hL : laidMetH Tryz.prog Rows.fnDeskScriptsRow.laid W) : TyC W := by
  have hh := (split_of hL).2 ("errors.errorType", Rows.laid_errors_errorType) (by simp)
  obtain ⟨name, u, ty, h1, h2, h3, h4, h5⟩ : ∃ name u ty, (Rows.laid_errors_errorType : DataW Unit).handleName? = some name ∧ (Tryz.prog.cutTypes.find? (·.1 == "internal/reflectlite.rtype")).map (·.2) = some u ∧ ty < Tryz.prog.types.size ∧ Tryz.prog.rowNamed ty name = true ∧ W.var? Tryz.prog "errors.errorType" = some #[.iface u (.agg #[typeHandle Tryz.prog ty])] := hh
  have e1 : (Rows.laid_errors_errorType : DataW Unit).handleName? = some [101, 114, 114, 111, 114] := by kernel_rfl
  obtain rfl : [101, 114, 114, 111, 114] = name := Option.some.inj (e1.symm.trans h1)
  have e2 : (Tryz.prog.cutTypes.find? (·.1 == "internal/reflectlite.rtype")).map (·.2) = some 165 := by kernel_rfl
  obtain rfl : 165 = u := Option.some.inj (e2.symm.trans h2)
  have e3 : (List.range Tryz.prog.types.size).all (fun t => !Tryz.prog.rowNamed t [101, 114, 114, 111, 114] || t == 73) = true := by kernel_rfl
  have e4 := List.all_eq_true.1 e3 ty (List.mem_range.2 h3)
  rw [h4] at e4
  obtain rfl : ty = 73 := by simpa using e4
  have e5 : typeHandle Tryz.prog 73 = .pointer (some ⟨11, 73, none⟩) := by kernel_rfl
  rw [e5] at h5
  have cn : W.cell? ⟨0, 0, none⟩ = some (.iface 165 (.agg #[.pointer (some ⟨11, 73, none⟩)])) := World.var?_cell (show Tryz.prog.globalNamed "errors.errorType" = some 0 by kernel_rfl) h5 0
  exact ⟨cn, lt_size cn⟩
theorem dkOk_of {W : World} (hL : laidMetH Tryz.prog Rows.fnDeskScriptsRow.laid W) (hsh : W.ShapedOpen Tryz.prog) : ∃ pn pw, DkOk W pn pw := by
  replace hL := (split_of hL).1
  have hL4 := hL.tail.tail.tail.tail
  obtain ⟨a0, s0, hv0, -, -, -⟩ := laid_sentinel hL4 (show Tryz.prog.globalNamed "strconv.ErrRange" = some 8 by kernel_rfl) (show (Tryz.prog.globals[8]?).map (·.type) = some 73 by kernel_rfl) Tryz.underlying73 rowOf Tryz.underlying261 Tryz.underlying263 rfl rfl Tryz.underlying9 cellsStruct cellsString
  obtain ⟨a1, s1, hv1, -, -, -⟩ := laid_sentinel hL4.tail (show Tryz.prog.globalNamed "strconv.ErrSyntax" = some 7 by kernel_rfl) (show (Tryz.prog.globals[7]?).map (·.type) = some 73 by kernel_rfl) Tryz.underlying73 rowOf Tryz.underlying261 Tryz.underlying263 rfl rfl Tryz.underlying9 cellsStruct cellsString
  obtain ⟨p0, p1, t0, t1, c0, c1, y0, y1, hn, hw, -, -, -, -, -, -, hne, hb0, hb1⟩ := laid_sentinels2 hL4.tail.tail (show Tryz.prog.globalNamed "loop.example/g01114/impl.errNo" = some 2 by kernel_rfl) (show (Tryz.prog.globals[2]?).map (·.type) = some 73 by kernel_rfl)
    (show Tryz.prog.globalNamed "loop.example/g01114/impl.errWhat" = some 1 by kernel_rfl) (show (Tryz.prog.globals[1]?).map (·.type) = some 73 by kernel_rfl) Tryz.underlying73 rowOf Tryz.underlying261 Tryz.underlying263 rfl rfl Tryz.underlying9 cellsStruct cellsString
  have htab : Lib.TabIs Tryz.prog W "internal/strconv.uint64pow10" .u64 Lib.pow10Tab := Lib.tabIs_of_head (show Tryz.prog.globalNamed "internal/strconv.uint64pow10" = some 4 by kernel_rfl) (show (Tryz.prog.globals[4]?).map (·.type) = some 241 by kernel_rfl) Tryz.underlying241 Tryz.underlying49 (by kernel_rfl) (by kernel_rfl) hL.tail.tail
  have cn : W.cell? ⟨2, 0, none⟩ = some (errV p0) := World.var?_cell (show Tryz.prog.globalNamed "loop.example/g01114/impl.errNo" = some 2 by kernel_rfl) hn 0
  have cw : W.cell? ⟨1, 0, none⟩ = some (errV p1) := World.var?_cell (show Tryz.prog.globalNamed "loop.example/g01114/impl.errWhat" = some 1 by kernel_rfl) hw 0
  exact ⟨p0, p1, ⟨⟨hsh, ⟨_, _, hv1⟩, ⟨_, _, hv0⟩, htab⟩, cn, cw, hne, ⟨_, _, hb0⟩, ⟨_, _, hb1⟩, lt_size cn, lt_size cw⟩⟩

/-! ### The walk -/
/-- WHAT THE WALK IS TOLD OF A SLICE OF INTEGERS THAT CAME IN: nil, or a row of cells -/
def IsRow (k : IntKind) (w : World) (a : Option Addr) (len cap : Nat) (zs : List Int) : Prop :=
  (a = none ∧ len = 0 ∧ cap = 0 ∧ zs = []) ∨
  ∃ x, a = some x ∧ len ≤ cap ∧ cap ≤ maxLen ∧ zs.length = cap ∧ (∀ i, i < zs.length → w.cell? (x.add i) = some (.int k (zs.getD i 0))) ∧ ∀ n ∈ zs, (Lit.int k n).wf = true
def WalkT : Prop := ∀ (pn pw : Addr) (a0 : Option Addr) (len0 cap0 : Nat) (z0 : List Int) (a1 : Option Addr) (len1 cap1 : Nat) (z1 : List Int) (w : World), IsRow .u8 w a0 len0 cap0 z0 → IsRow .u8 w a1 len1 cap1 z1 → DkOk w pn pw → TyC w →
    Calls Tryz.prog 4 #[.slice a0 len0 cap0, .slice a1 len1 cap1] w fun e w' => e = .returned (.bool true) ∧ Below w.heap.size w w'

/-! ### The row's step -/
set_option maxHeartbeats 4000000 in
set_option maxRecDepth 100000 in
/-- The contract, at a world that is shaped and holds what the row lists. -/
theorem step (walk : WalkT) {H : Type} {enc : TypeId × Value → H} (W : World) (base : Nat) (args : Array Value) (ds gs : List (DataW H)) (before : List MemPlace)
    (hval0 : ∀ (j : Nat) t v, Tryz.f4.params[j]? = some t → args[j]? = some v → Value.okWide Tryz.prog W .any base t v)
    (hW : DataW.Whole enc Tryz.prog Tryz.f4.params.toList Rows.fnDeskScriptsSpec.vars false W args.toList ds gs before)
    (hL : laidMetH Tryz.prog Rows.fnDeskScriptsRow.laid W) (hsh : W.ShapedOpen Tryz.prog) :
    Calls Tryz.prog 4 args W fun e W' => ∃ v, e = .returned v ∧ Rows.fnDeskScriptsSpec.post enc Tryz.prog Tryz.f4 false true false false W args v W' := by
  have hval := hval0
  have hW' := hW
  obtain ⟨p, q, hA0, hV, rfl, _, _⟩ := hW
  have hA : DataW.TrodAll enc Tryz.prog W 0 (fun _ => true) true Tryz.f4.params.toList args.toList ds p := hA0
  rw [Tryz.params4] at hA hval
  obtain ⟨v0, vs0, d0, ds0, p0, q0, hargs, rfl, rfl, h0, r0⟩ := trodAll_cons hA
  obtain ⟨v1, vs1, d1, ds1, p1, q1, rfl, rfl, rfl, h1, r1⟩ := trodAll_cons r0
  obtain ⟨rfl, rfl, rfl⟩ := trodAll_nil r1
  obtain rfl : args = #[v0, v1] := by cases args; simp_all
  have hV2 := hV
  obtain ⟨g0, y0, z0', f0, e1, q0', g1, y1, z1', f1, e2, q1', rfl, -⟩ := trodVars_two hV
  obtain ⟨a0, len0, cap0, rfl⟩ := okWide_slice Tryz.underlying22 (hval 0 22 v0 rfl rfl)
  have k0 := h0
  have lt0 : ∀ x ∈ p0, x.block < W.heap.size := by obtain ⟨m, hm⟩ := k0; exact DataW.trod_lt m _ _ _ hm
  obtain ⟨z0, w0⟩ : ∃ zs, IsRow .u8 W a0 len0 cap0 zs := by
    obtain ⟨fuel, hf⟩ := h0
    rcases open_ints Tryz.underlying22 Tryz.underlying5 (by kernel_rfl) hf with ⟨hcs, _⟩ | ⟨x, l, c, zs, hcs, _, hl, hm, hz, _, hcell, hwz⟩
    · simp [Value.cells] at hcs
      obtain ⟨rfl, rfl, rfl⟩ := hcs
      exact ⟨[], .inl ⟨rfl, rfl, rfl, rfl⟩⟩
    · simp [Value.cells] at hcs
      obtain ⟨rfl, rfl, rfl⟩ := hcs
      exact ⟨zs, .inr ⟨_, rfl, hl, hm, by simpa using hz, hcell, hwz⟩⟩
  obtain ⟨a1, len1, cap1, rfl⟩ := okWide_slice Tryz.underlying22 (hval 1 22 v1 rfl rfl)
  have k1 := h1
  have lt1 : ∀ x ∈ p1, x.block < W.heap.size := by obtain ⟨m, hm⟩ := k1; exact DataW.trod_lt m _ _ _ hm
  obtain ⟨z1, w1⟩ : ∃ zs, IsRow .u8 W a1 len1 cap1 zs := by
    obtain ⟨fuel, hf⟩ := h1
    rcases open_ints Tryz.underlying22 Tryz.underlying5 (by kernel_rfl) hf with ⟨hcs, _⟩ | ⟨x, l, c, zs, hcs, _, hl, hm, hz, _, hcell, hwz⟩
    · simp [Value.cells] at hcs
      obtain ⟨rfl, rfl, rfl⟩ := hcs
      exact ⟨[], .inl ⟨rfl, rfl, rfl, rfl⟩⟩
    · simp [Value.cells] at hcs
      obtain ⟨rfl, rfl, rfl⟩ := hcs
      exact ⟨zs, .inr ⟨_, rfl, hl, hm, by simpa using hz, hcell, hwz⟩⟩
  obtain ⟨pn, pw, hdk⟩ := dkOk_of hL hsh
  refine (walk pn pw a0 len0 cap0 z0 a1 len1 cap1 z1 W w0 w1 hdk (tyOk_of hL)).mono fun e W' ⟨he, bel⟩ => ?_
  subst he
  exact ⟨_, rfl, _, _, _, [], _, _, hW', trodAll_mk1 (shut_bool Tryz.underlying4 _), (trodAll_cons_mk (Below.trod laidOut (by kernel_rfl) (of_decide_eq_true (by kernel_rfl)) k0 bel lt0) (trodAll_cons_mk (Below.trod laidOut (by kernel_rfl) (of_decide_eq_true (by kernel_rfl)) k1 bel lt1) trodAll_mk0)), Below.trodVars laidOut bel (by kernel_rfl) hV2, bel.frame _, fun h => by cases h⟩

def plain : List (String × DataW Unit) := [("math/bits.deBruijn32tab", Rows.laid_math_bits_deBruijn32tab), ("math/bits.deBruijn64tab", Rows.laid_math_bits_deBruijn64tab), ("internal/strconv.uint64pow10", Rows.laid_internal_strconv_uint64pow10), ("unicode/utf8.acceptRanges", Rows.laid_unicode_utf8_acceptRanges), ("strconv.ErrRange", Rows.laid_strconv_ErrRange), ("strconv.ErrSyntax", Rows.laid_strconv_ErrSyntax), ("loop.example/g01114/impl.errNo", Rows.laid_loop_example_g01114_impl_errNo), ("loop.example/g01114/impl.errWhat", Rows.laid_loop_example_g01114_impl_errWhat), ("unicode/utf8.first", Rows.laid_unicode_utf8_first)]
set_option maxRecDepth 100000 in
theorem met0 (os : Os) (args : Array Value) : laidMet Tryz.prog plain ((((World.holding Tryz.prog os ⟨#[], #[], []⟩).setCell ⟨0, 0, none⟩ (.iface 165 (.agg #[.pointer (some ⟨11, 73, none⟩)]))).layVars Tryz.prog plain).forCall (fun _ _ => 0) ⟨#[], args, []⟩).memory := by
  have e1 : (plain.filter fun x => (plain.map (·.1)).contains x.1) = plain := List.filter_eq_self.2 fun x hx => List.contains_iff_mem.2 (List.mem_map.2 ⟨x, hx, rfl⟩)
  have e2 : (plain.filter fun x => !(plain.map (·.1)).contains x.1) = [] := List.filter_eq_nil_iff.2 fun x hx => by rw [List.contains_iff_mem.2 (List.mem_map.2 ⟨x, hx, rfl⟩)]; simp
  have hf : ((World.holding Tryz.prog os ⟨#[], #[], []⟩).setCell ⟨0, 0, none⟩ (.iface 165 (.agg #[.pointer (some ⟨11, 73, none⟩)]))).layFits Tryz.prog plain [] = true := by kernel_rfl
  have hi : ((World.holding Tryz.prog os ⟨#[], #[], []⟩).setCell ⟨0, 0, none⟩ (.iface 165 (.agg #[.pointer (some ⟨11, 73, none⟩)]))).layIfaces Tryz.prog plain (((World.holding Tryz.prog os ⟨#[], #[], []⟩).setCell ⟨0, 0, none⟩ (.iface 165 (.agg #[.pointer (some ⟨11, 73, none⟩)]))).layVars Tryz.prog plain) = true := by kernel_rfl
  have h : laidMet Tryz.prog plain (((World.holding Tryz.prog os ⟨#[], #[], []⟩).setCell ⟨0, 0, none⟩ (.iface 165 (.agg #[.pointer (some ⟨11, 73, none⟩)]))).layVars Tryz.prog plain) := laidMet_layVars (w0 := ((World.holding Tryz.prog os ⟨#[], #[], []⟩).setCell ⟨0, 0, none⟩ (.iface 165 (.agg #[.pointer (some ⟨11, 73, none⟩)])))) (plain.map (·.1)) [] (by rw [e1]) (by rw [e1]; exact hf) (by rw [e1]; exact hi) (by rw [e2]; exact LaidIn.none)
  exact h.of_heap (by simp [World.memory, World.forCall, Input.heap])
set_option maxRecDepth 100000 in
theorem met (os : Os) (args : Array Value) : laidMetH Tryz.prog Rows.fnDeskScriptsRow.laid ((((World.holding Tryz.prog os ⟨#[], #[], []⟩).setCell ⟨0, 0, none⟩ (.iface 165 (.agg #[.pointer (some ⟨11, 73, none⟩)]))).layVars Tryz.prog plain).forCall (fun _ _ => 0) ⟨#[], args, []⟩).memory := by
  refine laidMetH_of_parts3 (fuel := 8) ?_ (by kernel_rfl) (by kernel_rfl)
  have e : (Rows.fnDeskScriptsRow.laid.filter fun x => x.2.handleName?.isNone) = plain := by kernel_rfl
  rw [e]
  exact met0 os args

set_option maxRecDepth 100000 in
theorem lifted (walk : WalkT) (os : Os) (started : os.Started) (H : Type) (enc : TypeId × Value → H) :
    ReturnsInHanded {} Tryz.checked os 4 .any (fun w args => (Rows.fnDeskScriptsSpec.pre enc Tryz.prog Tryz.f4 [] false w args ∧ laidMetH Tryz.prog Rows.fnDeskScriptsRow.laid w) ∧ sizedMet enc Tryz.prog Tryz.f4 (OpenSpec.ofChange Rows.fnDeskScriptsSpec) false w args)
      (Rows.fnDeskScriptsSpec.post enc Tryz.prog Tryz.f4 false true false false) := by
  refine returnsInHanded_of_calls (C := Tryz.checked) own started (by kernel_rfl)
    (ChangeSpec.witness_shaped (enc := enc) (C := Tryz.checked) (os := os) (X := fun w _ => laidMetH Tryz.prog Rows.fnDeskScriptsRow.laid w) false (((World.holding Tryz.prog os ⟨#[], #[], []⟩).setCell ⟨0, 0, none⟩ (.iface 165 (.agg #[.pointer (some ⟨11, 73, none⟩)]))).layVars Tryz.prog plain) #[.slice none 0 0, .slice none 0 0] 8 ((World.layVars_os _ _ _).trans rfl)
      (World.shaped_of_ZipB (by kernel_rfl) (by kernel_rfl)) (by kernel_rfl) (by kernel_rfl) (by kernel_rfl) (met os _)) ?_
  intro w tape i _ hsh _ hok hpre _
  obtain ⟨_, _, _, fn', hfn', _, _, _, _, hval⟩ := hok
  have e : fn' = Tryz.f4 := Option.some.inj (hfn'.symm.trans Tryz.func4)
  subst e
  obtain ⟨⟨⟨ds, gs, before, hw, _⟩, hx⟩, _⟩ := hpre
  have hw' := DataW.Whole.of_heap (w' := w.forCall tape i) (by rfl) hw
  refine (step walk (enc := enc) (w.forCall tape i) w.heap.size i.args ds gs before hval hw' (hx.of_heap (by rfl)) hsh).mono fun e W' ⟨v, he, hp⟩ => ?_
  subst he
  exact ChangeSpec.post_blind hp

theorem closedFacts : joinedFacts Tryz.prog 4 Tryz.f4 Rows.fnDeskScriptsSpec Rows.fnDeskScriptsRow = true := by
  unfold joinedFacts
  rw [head_enter, head_lifts, head_make]
  kernel_rfl
theorem closedHere : joinedFacts Tryz.pinned.checked.prog 4 Tryz.f4 Rows.fnDeskScriptsSpec Rows.fnDeskScriptsRow = true := by
  rw [progEq]
  exact closedFacts
set_option maxHeartbeats 4000000 in
set_option maxRecDepth 100000 in
theorem over (walk : WalkT) : Rows.fnDeskScriptsRow.holds Tryz.pinned (OpenSpec.ofChange Rows.fnDeskScriptsSpec) :=
  OpenClaim.holds_of_wide 4 Tryz.f4 rfl rfl rfl rfl rfl rfl rfl ⟨rfl, rfl, rfl, rfl, rfl⟩ rfl rfl rfl rfl rfl (by kernel_rfl) Tryz.func4 closedHere
    (of_decide_eq_true (by kernel_rfl)) (by unfold Func.isWrapper; first | (rw [if_pos (by decide +kernel)]; kernel_rfl) | (rw [if_neg (by decide +kernel)]; exact ⟨rfl, rfl⟩))
    (fun os started H enc _ => lifted walk os started H enc)

/-- the tied card -/
theorem proved_of (walk : WalkT) : Rows.FnDeskScriptsCardSaid :=
  Claim7.holds_tied_plain_at .later [] [.data, .data, .data, .data, .handle, .sentinel, .sentinel, .sentinel, .sentinel, .pinned] true (true, "8cb95df47daeb402534c0b601241f3dafaaad34dc9a7496a24a995760f3e3bf6") true
    (over walk) (fun _ h => by cases h) (by kernel_rfl) (fun _ h => by cases h) fnDeskScripts_row_tie rfl ⟨rfl, rfl⟩ (by kernel_rfl) rfl
    (fun f fn hf hfn => by
      obtain rfl : f = 4 := Option.some.inj ((show Tryz.prog.funcNamed "loop.example/g01114/laws.FnDeskScripts" = some 4 by kernel_rfl).symm.trans hf) |>.symm
      obtain rfl : fn = Tryz.f4 := (Option.some.inj (Tryz.func4.symm.trans hfn)).symm
      exact ⟨by kernel_rfl, fun j t ht => by
        rw [Tryz.params4] at ht
        have hm : t ∈ [22, 22] := by simpa using Array.mem_of_getElem? ht
        have hall : ([22, 22].all fun u => !Tryz.prog.wantsStandIn u) = true := by kernel_rfl
        exact (show Tryz.prog.wantsStandIn t = false by simpa using List.all_eq_true.1 hall t hm)⟩)
    (by kernel_rfl)
end Go.Proofs.YtimmjimeldejjaaGreatDoor.fnDeskScripts
