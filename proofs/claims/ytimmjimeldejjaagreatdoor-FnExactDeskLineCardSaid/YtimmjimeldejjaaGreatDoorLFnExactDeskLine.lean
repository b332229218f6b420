/- FnExactDeskLine: for all piles and every text the law returns true and leaves its arguments as they were: a tied card. Its condition: what the row lists. -/
import Derived.Test.YtimmjimeldejjaaGreatDoorRows
import Derived.Test.YtimmjimeldejjaaGreatDoorCards
import Derived.Test.YtimmjimeldejjaaGreatDoorTie
import Derived.WalkKit
import Derived.LaidMore
import Derived.Lay
import Derived.LaidOnce
import Derived.MakeChecks
import Derived.Stop.LaidErr
import Derived.Stop.Joined
import Derived.SevenTiedAt
import Derived.ProofKit
import Derived.OpenShut
import Derived.ShutString
import Derived.OpenVars
import Derived.ChangeOld
import Derived.Below
import Derived.Test.YtimmjimeldejjaaGreatDoorHead
import Derived.Stop.LaidTwo
import Derived.FnData
import Derived.Test.YtimmjimeldejjaaGreatDoorHelp
import Derived.Test.YtimmjimeldejjaaGreatDoorSt
import Derived.Test.YtimmjimeldejjaaGreatDoorDk3
import Derived.Test.YtimmjimeldejjaaGreatDoorCo3
namespace Go.Proofs.YtimmjimeldejjaaGreatDoor.fnExactDeskLine
set_option linter.unusedSimpArgs false
open Go.ChangeShapes Go.WideShapes Go.ChangeAt Go.RowKit
open Go.ChangeMaps (open_string shut_string)
set_option linter.unusedVariables false

theorem own : ownKnob Tryz.prog.godebug = none := by kernel_rfl
theorem laidOut : laidOutB Tryz.prog = true := by kernel_rfl

/-! ### What the library's variables hold -/
theorem cellsStruct : Tryz.prog.cellsOf 263 = 1 := by kernel_rfl
theorem cellsString : Tryz.prog.cellsOf 9 = 1 := by kernel_rfl
theorem star : "*" ++ "errors.errorString" = "*errors.errorString" := by decide
theorem rowOf (u : TypeId) (h : Tryz.prog.typeName? 3 u = some "*errors.errorString") : u = 261 :=
  typeName_ptr_named (nm := "errors.errorString") (by rw [star]; kernel_rfl) (by kernel_rfl) (by decide) u (by rw [star]; exact h)
theorem lt_size {W : World} {g : Nat} {v : Value} (h : W.cell? ⟨g, 0, none⟩ = some v) : g < W.heap.size := by
  rcases Nat.lt_or_ge g W.heap.size with h' | h'
  · exact h'
  · simp [World.cell?, Array.getElem?_eq_none h'] at h
theorem dkOk_of {W : World} (hL : laidMetH Tryz.prog Rows.fnExactDeskLineRow.laid W) (hsh : W.ShapedOpen Tryz.prog) : ∃ pn pw, DkOk W pn pw := by
  rw [MakeChecks.laidMetH_plain _ _ _ (by kernel_rfl)] at hL
  have hL4 := hL.tail.tail.tail.tail
  obtain ⟨a0, s0, hv0, -, -, -⟩ := laid_sentinel hL4 (show Tryz.prog.globalNamed "strconv.ErrRange" = some 8 by kernel_rfl) (show (Tryz.prog.globals[8]?).map (·.type) = some 73 by kernel_rfl) Tryz.underlying73 rowOf Tryz.underlying261 Tryz.underlying263 rfl rfl Tryz.underlying9 cellsStruct cellsString
  obtain ⟨a1, s1, hv1, -, -, -⟩ := laid_sentinel hL4.tail (show Tryz.prog.globalNamed "strconv.ErrSyntax" = some 7 by kernel_rfl) (show (Tryz.prog.globals[7]?).map (·.type) = some 73 by kernel_rfl) Tryz.underlying73 rowOf Tryz.underlying261 Tryz.underlying263 rfl rfl Tryz.underlying9 cellsStruct cellsString
  obtain ⟨p0, p1, t0, t1, c0, c1, y0, y1, hn, hw, -, -, -, -, -, -, hne, hb0, hb1⟩ := laid_sentinels2 hL4.tail.tail (show Tryz.prog.globalNamed "loop.example/g01114/impl.errNo" = some 2 by kernel_rfl) (show (Tryz.prog.globals[2]?).map (·.type) = some 73 by kernel_rfl)
    (show Tryz.prog.globalNamed "loop.example/g01114/impl.errWhat" = some 1 by kernel_rfl) (show (Tryz.prog.globals[1]?).map (·.type) = some 73 by kernel_rfl) Tryz.underlying73 rowOf Tryz.underlying261 Tryz.underlying263 rfl rfl Tryz.underlying9 cellsStruct cellsString
  have htab : Lib.TabIs Tryz.prog W "internal/strconv.uint64pow10" .u64 Lib.pow10Tab := Lib.tabIs_of_head (show Tryz.prog.globalNamed "internal/strconv.uint64pow10" = some 4 by kernel_rfl) (show (Tryz.prog.globals[4]?).map (·.type) = some 241 by kernel_rfl) Tryz.underlying241 Tryz.underlying49 (by kernel_rfl) (by kernel_rfl) hL.tail.tail
  have cn : W.cell? ⟨2, 0, none⟩ = some (errV p0) := World.var?_cell (show Tryz.prog.globalNamed "loop.example/g01114/impl.errNo" = some 2 by kernel_rfl) hn 0
  have cw : W.cell? ⟨1, 0, none⟩ = some (errV p1) := World.var?_cell (show Tryz.prog.globalNamed "loop.example/g01114/impl.errWhat" = some 1 by kernel_rfl) hw 0
  exact ⟨p0, p1, ⟨⟨hsh, ⟨_, _, hv1⟩, ⟨_, _, hv0⟩, htab⟩, cn, cw, hne, ⟨_, _, hb0⟩, ⟨_, _, hb1⟩, lt_size cn, lt_size cw⟩⟩

/-! ### The walk -/
/-- WHAT THE WALK IS TOLD OF A SLICE OF INTEGERS THAT CAME IN: nil, or a row of cells -/
def IsRow (k : IntKind) (w : World) (a : Option Addr) (len cap : Nat) (zs : List Int) : Prop :=
  (a = none ∧ len = 0 ∧ cap = 0 ∧ zs = []) ∨
  ∃ x, a = some x ∧ len ≤ cap ∧ cap ≤ maxLen ∧ zs.length = cap ∧ (∀ i, i < zs.length → w.cell? (x.add i) = some (.int k (zs.getD i 0))) ∧ ∀ n ∈ zs, (Lit.int k n).wf = true
theorem mDL_bound (a : List Int) (s : List UInt8) : (mDeskLine a s).1.length ≤ 28 := by
  by_cases h : goodB a = true ∧ s.length ≤ 3000 ∧ (10 : UInt8) ∉ s
  · rw [mDL_yes h]; exact (line_good (good_iff.1 h.1) s).len
  · rw [mDL_no h]; simp
set_option maxHeartbeats 4000000 in
set_option maxRecDepth 100000 in
theorem walk (pn pw : Addr) (a0 : Option Addr) (len0 cap0 : Nat) (z0 : List Int) (s : ByteArray) (w : World) (w0 : IsRow .i64 w a0 len0 cap0 z0) (hs0 : s.size ≤ maxLen) (hd : DkOk w pn pw) :
    Calls Tryz.prog 5 #[.slice a0 len0 cap0, .string s] w fun e w' => e = .returned (.bool true) ∧ Below w.heap.size w w' := by
  have hA0 := intsAt_row w0
  generalize z0.take len0 = xs0 at hA0
  clear w0
  by_cases hbig0 : 1048576 < len0
  · go_enter Tryz.func5, Tryz.ntmps5
    go_wp2
    go_ret
    exact ⟨rfl, Below.refl _ _⟩
  by_cases hbig : 1048576 < s.size
  · go_enter Tryz.func5, Tryz.ntmps5
    go_wp2
    go_ret
    exact ⟨rfl, Below.refl _ _⟩
  have hs := fun (ao0 : Option Addr) (n0 cap0 : Nat) (W : World) (h0 : IntsAt W ao0 n0 cap0 xs0) => spec_DeskLine ao0 n0 cap0 xs0 s W h0 (by omega)
  have hi := fun (ao0 : Option Addr) (n0 cap0 : Nat) (W : World) (h0 : IntsAt W ao0 n0 cap0 xs0) (h : DkOk W pn pw) => impl_DeskLine pn pw ao0 n0 cap0 xs0 s W h0 (by omega) h
  have hbd : (mDeskLine xs0 s.data.toList).1.length ≤ 28 := mDL_bound xs0 s.data.toList
  generalize (mDeskLine xs0 s.data.toList).1 = r0 at hs hi hbd
  generalize (mDeskLine xs0 s.data.toList).2.1 = r1 at hs hi
  generalize (mDeskLine xs0 s.data.toList).2.2 = r2 at hs hi
  have Hs := Lib.hid hs; clear hs
  have Hi := Lib.hid hi; clear hi
  have acc : Below w.heap.size w w := Below.refl _ _
  go_enter Tryz.func5, Tryz.ntmps5
  go_wp2_with fail
  refine (toIntS_any a0 len0 cap0 xs0 _ (hA0.keep acc) (by omega)).mono ?_
  rintro e v1 ⟨p1, c1, rfl, ho1, hb1⟩
  have sz1 := hb1.size
  replace acc := belowTrans acc hb1 (Nat.le_refl _)
  clear hb1
  go_wp2_with fail
  refine (Hs.out _ _ _ _ (Own.at ho1)).mono ?_
  rintro e v2 ⟨p2, n2_, c2, rfl, ho2, hb2⟩
  have sz2 := hb2.size
  replace ho1 := OwnRow.keep ho1 hb2
  replace acc := belowTrans acc hb2 (Nat.le_refl _)
  clear hb2
  have hn2 : n2_ ≤ 28 := by have := Own.length ho2; omega
  clear ho1
  go_wp2_with fail
  refine (toIntS_any a0 len0 cap0 xs0 _ (hA0.keep acc) (by omega)).mono ?_
  rintro e v3 ⟨p3, c3, rfl, ho3, hb3⟩
  have sz3 := hb3.size
  replace ho2 := OwnRow.keep ho2 hb3
  replace acc := belowTrans acc hb3 (Nat.le_refl _)
  clear hb3
  go_wp2_with fail
  refine (Hi.out _ _ _ _ (Own.at ho3) (hd.keep acc)).mono ?_
  rintro e v4 ⟨p4, n4_, c4, rfl, ho4, hb4⟩
  have sz4 := hb4.size
  replace ho2 := OwnRow.keep ho2 hb4
  replace ho3 := OwnRow.keep ho3 hb4
  replace acc := belowTrans acc hb4 (Nat.le_refl _)
  clear hb4
  have hn4 : n4_ ≤ 28 := by have := Own.length ho4; omega
  go_wp2_with fail
  refine (eqIntS_any _ _ _ _ _ _ _ _ _ (Own.at ho4) (Own.at ho2)).mono ?_
  rintro e v5 ⟨rfl, hb5⟩
  rw [decide_eq_true rfl]
  have sz5 := hb5.size
  replace ho2 := OwnRow.keep ho2 hb5
  replace ho3 := OwnRow.keep ho3 hb5
  replace ho4 := OwnRow.keep ho4 hb5
  replace acc := belowTrans acc hb5 (Nat.le_refl _)
  clear hb5
  go_wp2_with fail
  refine (toIntS_any a0 len0 cap0 xs0 _ (hA0.keep acc) (by omega)).mono ?_
  rintro e v6 ⟨p6, c6, rfl, ho6, hb6⟩
  have sz6 := hb6.size
  replace ho2 := OwnRow.keep ho2 hb6
  replace ho3 := OwnRow.keep ho3 hb6
  replace ho4 := OwnRow.keep ho4 hb6
  replace acc := belowTrans acc hb6 (Nat.le_refl _)
  clear hb6
  go_wp2_with fail
  refine (eqIntS_any _ _ _ _ _ _ _ _ _ (Own.at ho3) (Own.at ho6)).mono ?_
  rintro e v7 ⟨rfl, hb7⟩
  rw [decide_eq_true rfl]
  have sz7 := hb7.size
  replace ho2 := OwnRow.keep ho2 hb7
  replace ho3 := OwnRow.keep ho3 hb7
  replace ho4 := OwnRow.keep ho4 hb7
  replace ho6 := OwnRow.keep ho6 hb7
  replace acc := belowTrans acc hb7 (Nat.le_refl _)
  clear hb7
  clear ho6
  go_wp2_with fail
  refine (markIntS_any _ _ _ _ _ _ 1 _ ho3 (by omega) (by omega) (by omega)).mono ?_
  rintro e v8 ⟨rfl, hm8, hb8⟩
  have sz8 := hb8.size
  replace ho2 := OwnRow.chg ho2 hb8 (fun g h1 h2 _ h3 => by have := h3.1; have := h3.2; omega)
  replace ho4 := OwnRow.chg ho4 hb8 (fun g h1 h2 _ h3 => by have := h3.1; have := h3.2; omega)
  replace acc := acc.trans (hb8.belowRg (by omega) (by omega))
  clear hb8 ho3
  go_wp2_with fail
  refine (eqIntS_any _ _ _ _ _ _ _ _ _ (Own.at ho4) (Own.at ho2)).mono ?_
  rintro e v9 ⟨rfl, hb9⟩
  rw [decide_eq_true rfl]
  have sz9 := hb9.size
  replace ho2 := OwnRow.keep ho2 hb9
  replace ho4 := OwnRow.keep ho4 hb9
  replace hm8 := OwnRow.keep hm8 hb9
  replace acc := belowTrans acc hb9 (Nat.le_refl _)
  clear hb9
  clear hm8
  go_wp2_with fail
  refine (markIntS_any _ _ _ _ _ _ 1 _ ho4 (by omega) (by omega) (by omega)).mono ?_
  rintro e v10 ⟨rfl, hm10, hb10⟩
  have sz10 := hb10.size
  replace ho2 := OwnRow.chg ho2 hb10 (fun g h1 h2 _ h3 => by have := h3.1; have := h3.2; omega)
  replace acc := acc.trans (hb10.belowRg (by omega) (by omega))
  clear hb10 ho4
  go_wp2_with fail
  refine (heldIntS_any _ _ _ 1 _ (Own.at hm10) (by omega) (by omega) (by omega)).mono ?_
  rintro e _ ⟨rfl, rfl⟩
  go_wp2_with fail
  refine (toIntS_any a0 len0 cap0 xs0 _ (hA0.keep acc) (by omega)).mono ?_
  rintro e v11 ⟨p11, c11, rfl, ho11, hb11⟩
  have sz11 := hb11.size
  replace ho2 := OwnRow.keep ho2 hb11
  replace hm10 := OwnRow.keep hm10 hb11
  replace acc := belowTrans acc hb11 (Nat.le_refl _)
  clear hb11
  go_wp2_with fail
  refine (Hi.out _ _ _ _ (Own.at ho11) (hd.keep acc)).mono ?_
  rintro e v12 ⟨p12, n12_, c12, rfl, ho12, hb12⟩
  have sz12 := hb12.size
  replace ho2 := OwnRow.keep ho2 hb12
  replace hm10 := OwnRow.keep hm10 hb12
  replace ho11 := OwnRow.keep ho11 hb12
  replace acc := belowTrans acc hb12 (Nat.le_refl _)
  clear hb12
  have hn12 : n12_ ≤ 28 := by have := Own.length ho12; omega
  go_wp2_with fail
  refine (eqIntS_any _ _ _ _ _ _ _ _ _ (Own.at ho12) (Own.at ho2)).mono ?_
  rintro e v13 ⟨rfl, hb13⟩
  rw [decide_eq_true rfl]
  have sz13 := hb13.size
  replace ho2 := OwnRow.keep ho2 hb13
  replace hm10 := OwnRow.keep hm10 hb13
  replace ho11 := OwnRow.keep ho11 hb13
  replace ho12 := OwnRow.keep ho12 hb13
  replace acc := belowTrans acc hb13 (Nat.le_refl _)
  clear hb13
  go_wp2_with fail
  refine (heldIntS_any _ _ _ 1 _ (Own.at hm10) (by omega) (by omega) (by omega)).mono ?_
  rintro e _ ⟨rfl, rfl⟩
  go_wp2_with fail
  go_ret
  exact ⟨rfl, acc⟩

/-! ### The row's step -/
set_option maxHeartbeats 4000000 in
set_option maxRecDepth 100000 in
/-- The contract, at a world that is shaped and holds what the row lists. -/
theorem step {H : Type} {enc : TypeId × Value → H} (W : World) (base : Nat) (args : Array Value) (ds gs : List (DataW H)) (before : List MemPlace)
    (hval0 : ∀ (j : Nat) t v, Tryz.f5.params[j]? = some t → args[j]? = some v → Value.okWide Tryz.prog W .any base t v)
    (hW : DataW.Whole enc Tryz.prog Tryz.f5.params.toList Rows.fnExactDeskLineSpec.vars false W args.toList ds gs before)
    (hL : laidMetH Tryz.prog Rows.fnExactDeskLineRow.laid W) (hsh : W.ShapedOpen Tryz.prog) :
    Calls Tryz.prog 5 args W fun e W' => ∃ v, e = .returned v ∧ Rows.fnExactDeskLineSpec.post enc Tryz.prog Tryz.f5 false true false false W args v W' := by
  have hval := hval0
  have hW' := hW
  obtain ⟨p, q, hA0, hV, rfl, _, _⟩ := hW
  have hA : DataW.TrodAll enc Tryz.prog W 0 (fun _ => true) true Tryz.f5.params.toList args.toList ds p := hA0
  rw [Tryz.params5] at hA hval
  obtain ⟨v0, vs0, d0, ds0, p0, q0, hargs, rfl, rfl, h0, r0⟩ := trodAll_cons hA
  obtain ⟨v1, vs1, d1, ds1, p1, q1, rfl, rfl, rfl, h1, r1⟩ := trodAll_cons r0
  obtain ⟨rfl, rfl, rfl⟩ := trodAll_nil r1
  obtain rfl : args = #[v0, v1] := by cases args; simp_all
  have hV2 := hV
  obtain ⟨g0, y0, z0', f0, e1, q0', g1, y1, z1, f1, e2, q1', rfl, -⟩ := trodVars_two hV
  obtain ⟨a0, len0, cap0, rfl⟩ := okWide_slice Tryz.underlying24 (hval 0 24 v0 rfl rfl)
  obtain ⟨s, rfl, rfl, rfl, hs⟩ := open_string Tryz.underlying9 (hval 1 9 v1 rfl rfl) h1
  have k0 := h0
  have lt0 : ∀ x ∈ p0, x.block < W.heap.size := by obtain ⟨m, hm⟩ := k0; exact DataW.trod_lt m _ _ _ hm
  obtain ⟨z0, w0⟩ : ∃ zs, IsRow .i64 W a0 len0 cap0 zs := by
    obtain ⟨fuel, hf⟩ := h0
    rcases open_ints Tryz.underlying24 Tryz.underlying3 (by kernel_rfl) hf with ⟨hcs, _⟩ | ⟨x, l, c, zs, hcs, _, hl, hm, hz, _, hcell, hwz⟩
    · simp [Value.cells] at hcs
      obtain ⟨rfl, rfl, rfl⟩ := hcs
      exact ⟨[], .inl ⟨rfl, rfl, rfl, rfl⟩⟩
    · simp [Value.cells] at hcs
      obtain ⟨rfl, rfl, rfl⟩ := hcs
      exact ⟨zs, .inr ⟨_, rfl, hl, hm, by simpa using hz, hcell, hwz⟩⟩
  obtain ⟨pn, pw, hdk⟩ := dkOk_of hL hsh
  refine (walk pn pw a0 len0 cap0 z0 s W w0 hs hdk).mono fun e W' ⟨he, bel⟩ => ?_
  subst he
  exact ⟨_, rfl, _, _, _, [], _, _, hW', trodAll_mk1 (shut_bool Tryz.underlying4 _), (trodAll_cons_mk (Below.trod laidOut (by kernel_rfl) (of_decide_eq_true (by kernel_rfl)) k0 bel lt0) (trodAll_mk1 (shut_string Tryz.underlying9 hs))), Below.trodVars laidOut bel (by kernel_rfl) hV2, bel.frame _, fun h => by cases h⟩

set_option maxRecDepth 100000 in
theorem met (os : Os) (args : Array Value) : laidMetH Tryz.prog Rows.fnExactDeskLineRow.laid ((World.laidAll Tryz.prog os Rows.fnExactDeskLineRow.laid).forCall (fun _ _ => 0) ⟨#[], args, []⟩).memory := by
  rw [MakeChecks.laidMetH_plain _ _ _ (by kernel_rfl)]
  exact laidMet_laidAll _ (by kernel_rfl) (by kernel_rfl)

set_option maxRecDepth 100000 in
theorem lifted (os : Os) (started : os.Started) (H : Type) (enc : TypeId × Value → H) :
    ReturnsInHanded {} Tryz.checked os 5 .any (fun w args => (Rows.fnExactDeskLineSpec.pre enc Tryz.prog Tryz.f5 [] false w args ∧ laidMetH Tryz.prog Rows.fnExactDeskLineRow.laid w) ∧ sizedMet enc Tryz.prog Tryz.f5 (OpenSpec.ofChange Rows.fnExactDeskLineSpec) false w args)
      (Rows.fnExactDeskLineSpec.post enc Tryz.prog Tryz.f5 false true false false) := by
  refine returnsInHanded_of_calls (C := Tryz.checked) own started (by kernel_rfl)
    (ChangeSpec.witness_shaped (enc := enc) (C := Tryz.checked) (os := os) (X := fun w _ => laidMetH Tryz.prog Rows.fnExactDeskLineRow.laid w) false (World.laidAll Tryz.prog os Rows.fnExactDeskLineRow.laid) #[.slice none 0 0, .string ⟨#[]⟩] 8 (World.laidAll_os _ _ _)
      (World.shaped_of_ZipB (by kernel_rfl) (by kernel_rfl)) (by kernel_rfl) (by kernel_rfl) (by kernel_rfl) (met os _)) ?_
  intro w tape i _ hsh _ hok hpre _
  obtain ⟨_, _, _, fn', hfn', _, _, _, _, hval⟩ := hok
  have e : fn' = Tryz.f5 := Option.some.inj (hfn'.symm.trans Tryz.func5)
  subst e
  obtain ⟨⟨⟨ds, gs, before, hw, _⟩, hx⟩, _⟩ := hpre
  have hw' := DataW.Whole.of_heap (w' := w.forCall tape i) (by rfl) hw
  refine (step (enc := enc) (w.forCall tape i) w.heap.size i.args ds gs before hval hw' (hx.of_heap (by rfl)) hsh).mono fun e W' ⟨v, he, hp⟩ => ?_
  subst he
  exact ChangeSpec.post_blind hp

theorem closedFacts : joinedFacts Tryz.prog 5 Tryz.f5 Rows.fnExactDeskLineSpec Rows.fnExactDeskLineRow = true := by
  unfold joinedFacts
  rw [head_enter, head_lifts, head_make]
  kernel_rfl
theorem closedHere : joinedFacts Tryz.pinned.checked.prog 5 Tryz.f5 Rows.fnExactDeskLineSpec Rows.fnExactDeskLineRow = true := by
  rw [progEq]
  exact closedFacts
set_option maxHeartbeats 4000000 in
set_option maxRecDepth 100000 in
theorem over : Rows.fnExactDeskLineRow.holds Tryz.pinned (OpenSpec.ofChange Rows.fnExactDeskLineSpec) :=
  OpenClaim.holds_of_wide 5 Tryz.f5 rfl rfl rfl rfl rfl rfl rfl ⟨rfl, rfl, rfl, rfl, rfl⟩ rfl rfl rfl rfl rfl (by kernel_rfl) Tryz.func5 closedHere
    (of_decide_eq_true (by kernel_rfl)) (by unfold Func.isWrapper; first | (rw [if_pos (by decide +kernel)]; kernel_rfl) | (rw [if_neg (by decide +kernel)]; exact ⟨rfl, rfl⟩))
    (fun os started H enc _ => lifted os started H enc)

/-- the tied card -/
theorem proved : Rows.FnExactDeskLineCardSaid :=
  Claim7.holds_tied_plain_at .later [] [.data, .data, .data, .data, .sentinel, .sentinel, .sentinel, .sentinel, .pinned] true (true, "8cb95df47daeb402534c0b601241f3dafaaad34dc9a7496a24a995760f3e3bf6") true
    over (fun _ h => by cases h) (by kernel_rfl) (fun _ h => by cases h) fnExactDeskLine_row_tie rfl ⟨rfl, rfl⟩ (by kernel_rfl) rfl
    (fun f fn hf hfn => by
      obtain rfl : f = 5 := Option.some.inj ((show Tryz.prog.funcNamed "loop.example/g01114/laws.FnExactDeskLine" = some 5 by kernel_rfl).symm.trans hf) |>.symm
      obtain rfl : fn = Tryz.f5 := (Option.some.inj (Tryz.func5.symm.trans hfn)).symm
      exact ⟨by kernel_rfl, fun j t ht => by
        rw [Tryz.params5] at ht
        have hm : t ∈ [24, 9] := by simpa using Array.mem_of_getElem? ht
        have hall : ([24, 9].all fun u => !Tryz.prog.wantsStandIn u) = true := by kernel_rfl
        exact (show Tryz.prog.wantsStandIn t = false by simpa using List.all_eq_true.1 hall t hm)⟩)
    (by kernel_rfl)
#print axioms proved
end Go.Proofs.YtimmjimeldejjaaGreatDoor.fnExactDeskLine
