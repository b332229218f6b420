/- FnBasinsAddUp: for every input the law returns true and leaves its arguments as they were. No condition. -/
import Derived.Test.YthppkfhhidlpiaaRows
import Derived.WalkKit
import Derived.ProofKit
import Derived.OpenShut
import Derived.ShutString
import Derived.ChangeOld
import Derived.Below
import Derived.Test.YthppkfhhidlpiaaHead
import Derived.Test.YthppkfhhidlpiaaGe
import Derived.Test.YthppkfhhidlpiaaGd
import Derived.Test.YthppkfhhidlpiaaGx
import Derived.Test.YthppkfhhidlpiaaLongP
namespace Go.Proofs.Ythppkfhhidlpiaa.fnBasinsAddUp
set_option linter.unusedSimpArgs false
open Go.ChangeShapes Go.WideShapes Go.ChangeAt Go.RowKit
open Go.ChangeMaps (open_string shut_string)
set_option linter.unusedVariables false

theorem own : ownKnob Try.prog.godebug = none := by kernel_rfl
theorem laidOut : laidOutB Try.prog = true := by kernel_rfl

/-- WHAT THE WALK IS TOLD OF A SLICE OF INTEGERS THAT CAME IN: it is nil; or it leads to a row of 'cap' cells, the numbers 'zs' (the first 'len' are its elements, the rest its spare room), each fitting its kind. -/
def IsRow (k : IntKind) (w : World) (a : Option Addr) (len cap : Nat) (zs : List Int) : Prop :=
  (a = none ∧ len = 0 ∧ cap = 0 ∧ zs = []) ∨
  ∃ x, a = some x ∧ len ≤ cap ∧ cap ≤ maxLen ∧ zs.length = cap ∧ (∀ i, i < zs.length → w.cell? (x.add i) = some (.int k (zs.getD i 0))) ∧ ∀ n ∈ zs, (Lit.int k n).wf = true

/-! ### THE WALK: the Go text returns true, AND WRITES NOTHING THAT WAS THERE: 'Below w.heap.size w w'' (Derived/Below.lean: '.refl', '.alloc', '.drew', '.setCell' at a new block, '.trans'). Open each 'IsRow' by 'rcases' AHEAD of 'go_enter'; part every test ahead of the walk. -/
set_option maxHeartbeats 4000000 in
set_option maxRecDepth 100000 in
theorem walk (a0 : Option Addr) (len0 cap0 : Nat) (z0 : List Int) (a1 : Option Addr) (len1 cap1 : Nat) (z1 : List Int) (w : World) (w0 : IsRow .u8 w a0 len0 cap0 z0) (w1 : IsRow .u8 w a1 len1 cap1 z1) :
    Calls Try.prog 7 #[.slice a0 len0 cap0, .slice a1 len1 cap1] w fun e w' => e = .returned (.bool true) ∧ Below w.heap.size w w' := by
  have by0 := byteIn_row w0
  have by1 := byteIn_row w1
  have hl0 : len0 ≤ maxLen := by
    rcases w0 with ⟨_, h, _⟩ | ⟨x, _, h, h', _⟩
    · rw [h]; exact Nat.zero_le _
    · exact Nat.le_trans h h'
  clear w0 w1
  by_cases hbig : 1048576 < len0 ∨ (1048576 : Int) - len0 < len1
  · have hb := big_yes a0 a1 len0 len1 cap0 cap1 w hbig hl0
    have Hb := Lib.hid hb; clear hb
    go_enter Try.func7, Try.ntmps7
    go_wp2_with fail
    with_reducible refine (Hb.out).mono ?_
    rintro e w' ⟨rfl, rfl⟩
    go_wp2
    go_ret
    exact ⟨rfl, Below.refl _ _⟩
  have hb := big_no a0 a1 len0 len1 cap0 cap1 w (by omega) (by omega)
  have hd := DrawBasinSize_any a0 len0 cap0 w (by omega) by0
  have Hb := Lib.hid hb; clear hb
  have Hd := Lib.hid hd; clear hd
  clear by0 by1 hl0 hbig
  have acc : Below w.heap.size w w := Below.refl _ _
  go_enter Try.func7, Try.ntmps7
  go_wp2_with fail
  with_reducible refine (Hb.out).mono ?_
  rintro e w' ⟨rfl, rfl⟩
  clear Hb
  go_wp2_with fail
  with_reducible refine (Hd.out).mono ?_
  rintro e v1 ⟨p1, n1, c1, xs, rfl, ho1, hb1⟩
  replace acc := belowTrans acc hb1 (Nat.le_refl _)
  clear hb1
  clear Hd
  have hi := fun W h => impl_BasinSize p1 n1 c1 xs W h
  have hs := fun W h => spec_BasinSize p1 n1 c1 xs W h
  cases gx : goodB xs
  · simp only [mBasin_no gx] at hi hs
    have Hi := Lib.hid hi; clear hi
    have Hs := Lib.hid hs; clear hs
    go_wp2_with fail
    with_reducible refine (Hi.out _ ho1.at).mono ?_
    rintro e v2 ⟨rfl, hb2⟩
    replace ho1 := ho1.keep hb2
    replace acc := belowTrans acc hb2 (Nat.le_refl _)
    clear hb2
    go_wp2_with fail
    with_reducible refine (Hs.out _ ho1.at).mono ?_
    rintro e v3 ⟨rfl, hb3⟩
    replace ho1 := ho1.keep hb3
    replace acc := belowTrans acc hb3 (Nat.le_refl _)
    clear hb3
    go_wp2
    go_ret
    exact ⟨rfl, acc⟩
  have gX := good_iff.1 gx
  simp only [mBasin_yes gx] at hi hs
  have hsm := fun W h => pSum_any p1 n1 c1 xs W h gX
  have h0 := good_sum0 gX
  have h1 := gX.2.2
  obtain ⟨S, hS⟩ : ∃ S : Nat, xs.sum = S := ⟨xs.sum.toNat, by omega⟩
  have hS8 : S ≤ 28 := by omega
  rw [hS] at hsm
  have hfi := fun W => impl_FirstOfCycles S W
  have hcp := fun W => impl_CountPiles S W
  have hcy := fun W h => impl_CycleOf p1 n1 c1 xs W h
  have e2 : mCountPiles S = ((cnt S S : Int), true) := by unfold mCountPiles; rw [if_pos (by omega)]; rfl
  simp only [mFirst_yes S hS8] at hfi
  simp only [e2] at hcp
  simp only [mCycle_yes gx] at hcy
  obtain ⟨hcl, hbl⟩ := basin_cyc gX
  have hc0 := cycL_first gX
  have hb2 := fun a n c W h => impl_BasinSize a n c (endL xs) W h
  simp only [mBasin_yes (good_iff.2 (endL_good gX)), basin_end gX] at hb2
  rw [show stepsL (tailL xs) xs = endL xs from rfl] at hc0
  have hcne := cycL_ne gX
  have hadd := basins_add hS8 (allC_all S hS8).all
  rw [allL_length hS8] at hadd
  have hflen := firsts_length hS8
  have hfg : ∀ b ∈ firstsL S, goodB b = true := fun b hb => good_iff.2 (firsts_good hS8 hb).1
  have hcb := cnt_le S (by omega) S (by omega)
  generalize basinL xs = B at hi hs hb2 hcl hbl
  generalize cycL xs = C at hcy hcl hc0 hcne
  generalize firstsL S = F at hfi hadd hflen hfg
  generalize cnt S S = N at hcp hadd hcb
  clear e2 h0 h1 hS gX gx
  have Hi := Lib.hid hi; clear hi
  have Hs := Lib.hid hs; clear hs
  have Hsm := Lib.hid hsm; clear hsm
  have Hfi := Lib.hid hfi; clear hfi
  have Hcp := Lib.hid hcp; clear hcp
  have Hcy := Lib.hid hcy; clear hcy
  have Hb2 := Lib.hid hb2; clear hb2
  have Hadd := Lib.hid hadd; clear hadd
  have Hfg := Lib.hid hfg; clear hfg
  have Hc0 := Lib.hid hc0; clear hc0
  go_wp2_with fail
  with_reducible refine (Hi.out _ ho1.at).mono ?_
  rintro e v2 ⟨rfl, hb2⟩
  replace ho1 := ho1.keep hb2
  replace acc := belowTrans acc hb2 (Nat.le_refl _)
  clear hb2
  go_wp2_with fail
  with_reducible refine (Hs.out _ ho1.at).mono ?_
  rintro e v3 ⟨rfl, hb3⟩
  replace ho1 := ho1.keep hb3
  replace acc := belowTrans acc hb3 (Nat.le_refl _)
  clear hb3
  go_wp2_with fail
  with_reducible refine (Hsm.out _ ho1.at).mono ?_
  rintro e w' ⟨rfl, rfl⟩
  go_wp2_with fail
  with_reducible refine (Hfi.out _).mono ?_
  rintro e v4 ⟨pf, nf, cf, rfl, hof, hb4⟩
  replace ho1 := ho1.keep hb4
  replace acc := belowTrans acc hb4 (Nat.le_refl _)
  clear hb4
  go_wp2_with fail
  with_reducible refine (Hcp.out _).mono ?_
  rintro e v5 ⟨rfl, hb5⟩
  replace ho1 := ho1.keep hb5
  replace hof := hof.keep hb5
  replace acc := belowTrans acc hb5 (Nat.le_refl _)
  clear hb5
  go_wp2_with fail
  with_reducible refine (Hcy.out _ ho1.at).mono ?_
  rintro e v6 ⟨py, ny, cy, rfl, hoy, hb6⟩
  replace ho1 := ho1.keep hb6
  replace hof := hof.keep hb6
  replace acc := belowTrans acc hb6 (Nat.le_refl _)
  clear hb6
  have hly := hoy.length
  have hny1 : 0 < ny := by omega
  have hny2 : (ny : Int) ≤ B := by omega
  have hnyi : (0 : Int) < ny := by omega
  have hbl2 : (B : Int) ≤ 3718 := by omega
  have hd1 : decide ((B : Int) < ny) = false := decide_eq_false (by omega)
  have hd2 : decide (B < ny) = false := decide_eq_false (by omega)
  clear hcl hcne
  have Hly := Lib.hid hly; clear hly
  clear Hi Hs Hsm Hfi Hcp Hcy
  obtain ⟨b1, o1, e_, _, hc_⟩ := hoy.at.cell 0 hny1
  cases e_
  obtain ⟨a1_, m1, d1, hcell, hat⟩ := hc_ 0 hny1
  clear hc_
  rw [Nat.add_zero] at hcell
  rw [Hc0.out] at hat
  go_wp2_with fail
  with_reducible refine (Hb2.out _ _ _ _ hat).mono ?_
  rintro e v7 ⟨rfl, hb7⟩
  replace ho1 := ho1.keep hb7
  replace hof := hof.keep hb7
  replace hoy := hoy.keep hb7
  replace acc := belowTrans acc hb7 (Nat.le_refl _)
  clear hb7
  clear hcell hat Hc0
  by_cases h12 : 12 < S
  · have h12i : (12 : Int) < S := by omega
    go_wp2
    go_ret
    exact ⟨rfl, acc⟩
  have h12i : ¬ ((12 : Int) < S) := by omega
  clear hoy
  clear ho1
  have hlf := hof.length
  have hrows := hof.at
  have hnf8 : nf ≤ 256 := by omega
  have hnf9 : (nf : Int) ≤ 256 := by omega
  clear hof
  have Hlf := Lib.hid hlf; clear hlf
  obtain ⟨wo, hwo⟩ : ∃ wo : World, wo = v7 := ⟨_, rfl⟩
  subst hwo
  go_wp2_with fail
  go_loopw [19, 102] (fun s i wr => ∃ j : Nat, j ≤ nf ∧ i = .int .i64 j ∧ s = .int .i64 (basS F j) ∧ Below w.heap.size w wr ∧ Below wo.heap.size wo wr) (fun _ i _ => nf - (intOf i).toNat)
  case atStart => exact ⟨0, Nat.zero_le _, rfl, rfl, acc, Below.refl _ _⟩
  case round =>
    obtain ⟨j, hj, rfl, rfl, hbw, hbo⟩ := hrel
    have hs0 := basS_le F j
    rw [Hadd.out] at hs0
    by_cases hlt : j < nf
    · skip
      replace hrows := hrows.keep hbo
      have hs2 := basS_le F (j + 1)
      have hs3 := basS_succ (l := F) (k := j) (by rw [Hlf.out]; exact hlt)
      rw [Hadd.out, hs3] at hs2
      obtain ⟨b1, o1, e_, _, hc_⟩ := hrows.cell j hlt
      cases e_
      obtain ⟨a1_, m1, d1, hcell, hat⟩ := hc_ j hlt
      clear hc_
      have hgb := Hfg.out (F.getD j []) (by rw [List.getD_eq_getElem?_getD, List.getElem?_eq_getElem (by rw [Hlf.out]; exact hlt)]; exact List.getElem_mem _)
      have hbs := impl_BasinSize a1_ m1 d1 (F.getD j []) wr hat
      simp only [mBasin_yes hgb] at hbs
      generalize F.getD j [] = X at hat hbs hs2 hs3
      generalize basinL X = b at hbs hs2 hs3
      generalize basS F j = s at hs0 hs2 hs3
      clear hgb
      have Hbs := Lib.hid hbs; clear hbs
      have Hs3 := Lib.hid hs3; clear hs3
      go_wp2_with fail
      with_reducible refine (Hbs.out).mono ?_
      rintro e v8 ⟨rfl, hb8⟩
      replace hrows := hrows.keep hb8
      replace hbw := belowTrans hbw hb8 (Nat.le_refl _)
      replace hbo := belowTrans hbo hb8 (Nat.le_refl _)
      clear hb8
      go_wp2
      go_roundw
      case rel => exact ⟨j + 1, by omega, by go_num, by rw [Hs3.out], hbw, hbo⟩
      case measure => simp [intOf] <;> omega
    · skip
      obtain rfl : nf = j := by omega
      have hfin : basS F nf = (N : Int) := by
        rw [← Hadd.out]; unfold basS; rw [List.take_of_length_le (by rw [Hlf.out]; exact Nat.le_refl _)]
      rw [hfin] at hs0 ⊢
      clear hfin
      go_wp2
      go_ret
      exact ⟨rfl, hbw⟩

/-! ### THE ROW's STEP: WRITTEN OUT: LEAVE IT -/
set_option maxRecDepth 100000 in
theorem lifted (os : Os) (started : os.Started) (H : Type) (enc : TypeId × Value → H) :
    ReturnsInHanded {} Try.checked os 7 .any (Rows.fnBasinsAddUpSpec.pre6 enc Try.prog Try.f7 Rows.fnBasinsAddUpRow.domain false) (Rows.fnBasinsAddUpSpec.post enc Try.prog Try.f7 false true false false) := by
  refine returnsInHanded_of_change (C := Try.checked) own started (by kernel_rfl) Try.func7
    (ChangeSpec.witness6 (enc := enc) (C := Try.checked) false ⟨#[], #[.slice none 0 0, .slice none 0 0], []⟩ 8 (by kernel_rfl) (by kernel_rfl) (by kernel_rfl) (by kernel_rfl)) ?_
  intro W base args ds gs before hval0 hW hcnd _
  have hval : ∀ (j : Nat) t v, Try.f7.params[j]? = some t → args[j]? = some v → Value.okWide Try.prog W .any base t v := hval0
  have hW' := hW
  obtain ⟨p, q, hA0, hV, rfl, hfz, hnd⟩ := hW
  have hA : DataW.TrodAll enc Try.prog W 0 (fun _ => true) true Try.f7.params.toList args.toList ds p := hA0
  rw [Try.params7] at hA hval
  obtain ⟨v0, vs0, d0, ds0, p0, q0, hargs, rfl, rfl, h0, r0⟩ := trodAll_cons hA
  obtain ⟨v1, vs1, d1, ds1, p1, q1, rfl, rfl, rfl, h1, r1⟩ := trodAll_cons r0
  obtain ⟨rfl, rfl, rfl⟩ := trodAll_nil r1
  obtain rfl : args = #[v0, v1] := by cases args; simp_all
  obtain ⟨rfl, rfl⟩ := trodVars_none hV
  obtain ⟨a0, len0, cap0, rfl⟩ := okWide_slice Try.underlying22 (hval 0 22 v0 rfl rfl)
  have k0 := h0
  have lt0 : ∀ x ∈ p0, x.block < W.heap.size := by obtain ⟨m, hm⟩ := k0; exact DataW.trod_lt m _ _ _ hm
  obtain ⟨z0, w0⟩ : ∃ zs, IsRow .u8 W a0 len0 cap0 zs := by
    obtain ⟨fuel, hf⟩ := h0
    rcases open_ints Try.underlying22 Try.underlying5 (by kernel_rfl) hf with ⟨hcs, _⟩ | ⟨x, l, c, zs, hcs, _, hl, hm, hz, _, hcell, hwz⟩
    · simp [Value.cells] at hcs
      obtain ⟨rfl, rfl, rfl⟩ := hcs
      exact ⟨[], .inl ⟨rfl, rfl, rfl, rfl⟩⟩
    · simp [Value.cells] at hcs
      obtain ⟨rfl, rfl, rfl⟩ := hcs
      exact ⟨zs, .inr ⟨_, rfl, hl, hm, by simpa using hz, hcell, hwz⟩⟩
  obtain ⟨a1, len1, cap1, rfl⟩ := okWide_slice Try.underlying22 (hval 1 22 v1 rfl rfl)
  have k1 := h1
  have lt1 : ∀ x ∈ p1, x.block < W.heap.size := by obtain ⟨m, hm⟩ := k1; exact DataW.trod_lt m _ _ _ hm
  obtain ⟨z1, w1⟩ : ∃ zs, IsRow .u8 W a1 len1 cap1 zs := by
    obtain ⟨fuel, hf⟩ := h1
    rcases open_ints Try.underlying22 Try.underlying5 (by kernel_rfl) hf with ⟨hcs, _⟩ | ⟨x, l, c, zs, hcs, _, hl, hm, hz, _, hcell, hwz⟩
    · simp [Value.cells] at hcs
      obtain ⟨rfl, rfl, rfl⟩ := hcs
      exact ⟨[], .inl ⟨rfl, rfl, rfl, rfl⟩⟩
    · simp [Value.cells] at hcs
      obtain ⟨rfl, rfl, rfl⟩ := hcs
      exact ⟨zs, .inr ⟨_, rfl, hl, hm, by simpa using hz, hcell, hwz⟩⟩
  clear hA0 hval0
  refine (walk a0 len0 cap0 z0 a1 len1 cap1 z1 W w0 w1).mono fun e W' ⟨he, bel⟩ => ?_
  subst he
  exact ⟨_, rfl, _, _, _, [], _, [], hW', trodAll_mk1 (shut_bool Try.underlying4 _), (trodAll_cons_mk (Below.trod laidOut (by kernel_rfl) (of_decide_eq_true (by kernel_rfl)) k0 bel lt0) (trodAll_cons_mk (Below.trod laidOut (by kernel_rfl) (of_decide_eq_true (by kernel_rfl)) k1 bel lt1) trodAll_mk0)), rfl, bel.frame _, fun h => by cases h⟩

theorem closedFacts : joinedFacts Try.prog 7 Try.f7 Rows.fnBasinsAddUpSpec Rows.fnBasinsAddUpRow = true := by
  unfold joinedFacts
  rw [head_enter, head_lifts, head_make]
  kernel_rfl
theorem closedHere : joinedFacts Try.pinned.checked.prog 7 Try.f7 Rows.fnBasinsAddUpSpec Rows.fnBasinsAddUpRow = true := by
  rw [progEq]
  exact closedFacts
theorem over : Rows.fnBasinsAddUpRow.holds Try.pinned (OpenSpec.ofChange Rows.fnBasinsAddUpSpec) :=
  OpenClaim.holds_of_wide 7 Try.f7 rfl rfl rfl rfl rfl rfl rfl ⟨rfl, rfl, rfl, rfl, rfl⟩ rfl rfl rfl rfl rfl (by kernel_rfl) Try.func7 closedHere
    (of_decide_eq_true (by kernel_rfl)) (by unfold Func.isWrapper; first | (rw [if_pos (by decide +kernel)]; kernel_rfl) | (rw [if_neg (by decide +kernel)]; exact ⟨rfl, rfl⟩))
    (fun os started H enc _ => lifted os started H enc)

/-- ████ THE STATEMENT ████ -/
theorem proved : Rows.FnBasinsAddUpSaid := over
#print axioms proved
end Go.Proofs.Ythppkfhhidlpiaa.fnBasinsAddUp
