/- FnNextDrops: for every input the law returns true and leaves its arguments as they were. No condition. -/
import Derived.Test.YtmfdimdcoeapoaaRows
import Derived.WalkKit
import Derived.ProofKit
import Derived.OpenShut
import Derived.ShutString
import Derived.ChangeOld
import Derived.Below
import Derived.Test.YtmfdimdcoeapoaaHead
import Derived.Test.YtmfdimdcoeapoaaGe
import Derived.Test.YtmfdimdcoeapoaaLawt
import Derived.Test.YtmfdimdcoeapoaaDrawO
import Derived.Test.YtmfdimdcoeapoaaLevT
import Derived.Test.YtmfdimdcoeapoaaLevU
import Derived.Test.YtmfdimdcoeapoaaTailI
import Derived.Test.YtmfdimdcoeapoaaTail42
namespace Go.Proofs.Ytmfdimdcoeapoaa.fnNextDrops
set_option linter.unusedSimpArgs false
open Go.ChangeShapes Go.WideShapes Go.ChangeAt Go.RowKit
open Go.ChangeMaps (open_string shut_string)
set_option linter.unusedVariables false

theorem own : ownKnob Try.prog.godebug = none := by kernel_rfl
theorem laidOut : laidOutB Try.prog = true := by kernel_rfl

/-- WHAT THE WALK IS TOLD OF A SLICE OF INTEGERS THAT CAME IN: it is nil; or it leads to a row of 'cap' cells, the numbers 'zs' (the first 'len' are its elements, the rest its spare room), each fitting its kind. -/
def IsRow (k : IntKind) (w : World) (a : Option Addr) (len cap : Nat) (zs : List Int) : Prop :=
  (a = none ∧ len = 0 ∧ cap = 0 ∧ zs = []) ∨
  ∃ x, a = some x ∧ len ≤ cap ∧ cap ≤ maxLen ∧ zs.length = cap ∧ (∀ i, i < zs.length → w.cell? (x.add i) = some (.int k (zs.getD i 0))) ∧ ∀ n ∈ zs, (Lit.int k n).wf = true

/-! ### THE WALK: the Go text returns true, AND WRITES NOTHING THAT WAS THERE: 'Below w.heap.size w w'' (Derived/Below.lean: '.refl', '.alloc', '.drew', '.setCell' at a new block, '.trans'). Open each 'IsRow' by 'rcases' AHEAD of 'go_enter'; part every test ahead of the walk. -/
set_option maxHeartbeats 4000000 in
set_option maxRecDepth 100000 in
theorem walk (a0 : Option Addr) (len0 cap0 : Nat) (z0 : List Int) (a1 : Option Addr) (len1 cap1 : Nat) (z1 : List Int) (w : World) (w0 : IsRow .u8 w a0 len0 cap0 z0) (w1 : IsRow .u8 w a1 len1 cap1 z1) :
    Calls Try.prog 6 #[.slice a0 len0 cap0, .slice a1 len1 cap1] w fun e w' => e = .returned (.bool true) ∧ Below w.heap.size w w' := by
  have by0 := byteIn_row w0
  have by1 := byteIn_row w1
  have hl0 : len0 ≤ maxLen := by
    rcases w0 with ⟨_, h, _⟩ | ⟨x, _, h, h', _⟩
    · rw [h]; exact Nat.zero_le _
    · exact Nat.le_trans h h'
  clear w0 w1
  by_cases hbig : 1048576 < len0 ∨ (1048576 : Int) - len0 < len1
  · have hb := big_yes a0 a1 len0 len1 cap0 cap1 w hbig hl0
    have Hb := Lib.hid hb; clear hb
    go_enter Try.func6, Try.ntmps6
    go_wp2_with fail
    with_reducible refine (Hb.out).mono ?_
    rintro e w' ⟨rfl, rfl⟩
    go_wp2
    go_ret
    exact ⟨rfl, Below.refl _ _⟩
  have hb := big_no a0 a1 len0 len1 cap0 cap1 w (by omega) (by omega)
  have hd := DrawNextDrop_any a0 len0 cap0 w (by omega) by0
  have Hb := Lib.hid hb; clear hb
  have Hd := Lib.hid hd; clear hd
  clear by0 by1 hl0 hbig
  have acc : Below w.heap.size w w := Below.refl _ _
  go_enter Try.func6, Try.ntmps6
  go_wp2_with fail
  with_reducible refine (Hb.out).mono ?_
  rintro e w' ⟨rfl, rfl⟩
  clear Hb
  go_wp2_with fail
  with_reducible refine (Hd.out).mono ?_
  rintro e v1 ⟨p1, n1, c1, xs, rfl, ho1, hnear, hb1⟩
  replace acc := belowTrans acc hb1 (Nat.le_refl _)
  clear hb1
  clear Hd hnear
  have hi := fun W h => impl_NextDrop p1 n1 c1 xs W h
  have hs := fun W h => spec_NextDrop p1 n1 c1 xs W h
  have hcy := fun W h => pCyclic_any p1 n1 c1 xs W h
  cases gx : goodB xs
  · skip
    simp only [mNext_no1 gx] at hi hs
    have hip := fun W h => isPiles_no p1 n1 c1 xs W h gx
    have Hi := Lib.hid hi; clear hi
    have Hs := Lib.hid hs; clear hs
    have Hcy := Lib.hid hcy; clear hcy
    have Hip := Lib.hid hip; clear hip
    go_wp2_with fail
    with_reducible refine (Hi.out _ ho1.at).mono ?_
    rintro e v2 ⟨rfl, hb2⟩
    replace ho1 := ho1.keep hb2
    replace acc := belowTrans acc hb2 (Nat.le_refl _)
    clear hb2
    go_wp2_with fail
    with_reducible refine (Hs.out _ ho1.at).mono ?_
    rintro e v3 ⟨rfl, hb3⟩
    replace ho1 := ho1.keep hb3
    replace acc := belowTrans acc hb3 (Nat.le_refl _)
    clear hb3
    go_wp2_with fail
    with_reducible refine (Hip.out _ ho1.at).mono ?_
    rintro e w' ⟨rfl, rfl⟩
    clear Hi Hs Hcy Hip
    go_wp2
    go_ret
    exact ⟨rfl, acc⟩
  have gX := good_iff.1 gx
  have hip := fun W h => isPiles_yes p1 n1 c1 xs W h gX
  by_cases hc : Cyc xs
  · skip
    simp only [mNext_no2 hc] at hi hs
    rw [gx, show cycB xs = true from decide_eq_true hc] at hcy
    simp only [Bool.and_self] at hcy
    have Hi := Lib.hid hi; clear hi
    have Hs := Lib.hid hs; clear hs
    have Hcy := Lib.hid hcy; clear hcy
    have Hip := Lib.hid hip; clear hip
    go_wp2_with fail
    with_reducible refine (Hi.out _ ho1.at).mono ?_
    rintro e v2 ⟨rfl, hb2⟩
    replace ho1 := ho1.keep hb2
    replace acc := belowTrans acc hb2 (Nat.le_refl _)
    clear hb2
    go_wp2_with fail
    with_reducible refine (Hs.out _ ho1.at).mono ?_
    rintro e v3 ⟨rfl, hb3⟩
    replace ho1 := ho1.keep hb3
    replace acc := belowTrans acc hb3 (Nat.le_refl _)
    clear hb3
    go_wp2_with fail
    with_reducible refine (Hip.out _ ho1.at).mono ?_
    rintro e w' ⟨rfl, rfl⟩
    go_wp2_with fail
    with_reducible refine (Hcy.out _ ho1.at).mono ?_
    rintro e v4 ⟨rfl, hb4⟩
    replace ho1 := ho1.keep hb4
    replace acc := belowTrans acc hb4 (Nat.le_refl _)
    clear hb4
    clear Hi Hs Hcy Hip
    go_wp2
    go_ret
    exact ⟨rfl, acc⟩
  simp only [mNext_yes gx hc] at hi hs
  rw [gx, show cycB xs = false from decide_eq_false hc] at hcy
  simp only [Bool.and_false] at hcy
  have hlt := nd_lt gX hc
  have h42 := tail42 gX
  have hnd := nd_list gX hc
  have hpo := fun W h => impl_PotentialsOf p1 n1 c1 xs ((ndL xs + 1 : Nat) : Int) W h
  simp only [mPots_yes gx (show ndL xs + 1 ≤ 1000 by omega)] at hpo
  rw [show ((ndL xs + 1 : Nat) : Int) = (ndL xs : Int) + 1 by omega] at hpo
  have hlen := potsL_length xs (ndL xs + 1)
  have ht := fun W h => impl_TailOf p1 n1 c1 xs W h
  simp only [mTail_yes gx] at ht
  generalize potsL xs (ndL xs + 1) = L at hpo hnd hlen
  generalize ndL xs = m at hi hs hlt hnd hpo hlen
  generalize tailL xs = t at hlt h42 ht
  generalize pot xs = q at hnd
  have hm8 : (m : Int) ≤ 41 := by omega
  have ht8 : (t : Int) ≤ 42 := by omega
  have Hi := Lib.hid hi; clear hi
  have Hs := Lib.hid hs; clear hs
  have Hcy := Lib.hid hcy; clear hcy
  have Hip := Lib.hid hip; clear hip
  have Hpo := Lib.hid hpo; clear hpo
  have Ht := Lib.hid ht; clear ht
  have Hnd := Lib.hid hnd; clear hnd
  have Hlen := Lib.hid hlen; clear hlen
  go_wp2_with fail
  with_reducible refine (Hi.out _ ho1.at).mono ?_
  rintro e v2 ⟨rfl, hb2⟩
  replace ho1 := ho1.keep hb2
  replace acc := belowTrans acc hb2 (Nat.le_refl _)
  clear hb2
  go_wp2_with fail
  with_reducible refine (Hs.out _ ho1.at).mono ?_
  rintro e v3 ⟨rfl, hb3⟩
  replace ho1 := ho1.keep hb3
  replace acc := belowTrans acc hb3 (Nat.le_refl _)
  clear hb3
  go_wp2_with fail
  with_reducible refine (Hip.out _ ho1.at).mono ?_
  rintro e w' ⟨rfl, rfl⟩
  go_wp2_with fail
  with_reducible refine (Hcy.out _ ho1.at).mono ?_
  rintro e v4 ⟨rfl, hb4⟩
  replace ho1 := ho1.keep hb4
  replace acc := belowTrans acc hb4 (Nat.le_refl _)
  clear hb4
  clear Hi Hs Hcy Hip
  go_wp2_with fail
  with_reducible refine (Hpo.out _ ho1.at).mono ?_
  rintro e v5 ⟨pl, nl, cl, rfl, hol, hb5⟩
  replace ho1 := ho1.keep hb5
  replace acc := belowTrans acc hb5 (Nat.le_refl _)
  clear hb5
  go_wp2_with fail
  with_reducible refine (Ht.out _ ho1.at).mono ?_
  rintro e v6 ⟨rfl, hb6⟩
  replace ho1 := ho1.keep hb6
  replace hol := hol.keep hb6
  replace acc := belowTrans acc hb6 (Nat.le_refl _)
  clear hb6
  have hnl : nl = m + 2 := by rw [← hol.length, Hlen.out]
  have hn8 := hol.at.lenInt
  obtain ⟨b, o, rfl, hbl, hcells⟩ := hol.at.cell 0 (by omega)
  have hA := hcells (m + 1) (by omega)
  have hB := hcells m (by omega)
  have hAB := Hnd.out.1
  have hQ := Hnd.out.2
  have e0 : L.getD 0 0 = q := hQ 0 (by omega)
  have hZ := hcells 0 (by omega)
  rw [e0, Nat.add_zero] at hZ
  have hB2 := hQ m (by omega)
  rw [hB2] at hB hAB
  generalize L.getD (m + 1) 0 = y at hA hAB
  have hC : ∀ i, i ≤ m → v6.cell? ⟨b, o + i, none⟩ = some (.int .i64 q) := fun i hi => by rw [hcells i (by omega), hQ i hi]
  clear hcells e0 hQ hB2 hol ho1 Hpo Ht Hlen Hnd
  have HC := Lib.hid hC; clear hC
  have Hnl := Lib.hid hnl
  have h1 : ((m : Int) + 1) < nl := by omega
  have h0 : (0 : Int) < nl := by omega
  have h2 : (m : Int) < nl := by omega
  clear hnl
  have f1 : decide ((m : Int) + 1 < 1) = false := decide_eq_false (by omega)
  have f2 : decide ((t : Int) < (m : Int) + 1) = false := decide_eq_false (by omega)
  have f3 : decide ((m : Int) + 1 > t) = false := decide_eq_false (by omega)
  have f4 : decide (q ≤ y) = false := decide_eq_false (by omega)
  have f5 : decide (y ≥ q) = false := decide_eq_false (by omega)
  go_wp2_with fail
  go_quiet (fail)
  go_wp2_with fail
  go_loopw [14] (fun i wr => ∃ (j u : Nat), 1 ≤ j ∧ j ≤ m + 1 ∧ i = .int .i64 j ∧ wr = v6.drewN u) (fun i _ => m + 1 - (intOf i).toNat)
  case atStart => exact ⟨1, _, by omega, by omega, rfl, rfl⟩
  case round =>
    obtain ⟨j, u, h1j, hj, rfl, rfl⟩ := hrel
    by_cases hlt : j < m + 1
    · have hJ := HC.out j (by omega)
      have hjn : (j : Int) < nl := by have := Hnl.out; omega
      have hjm : (j : Int) < (m : Int) + 1 := by omega
      clear hA hB
      go_wp2_with fail
      go_quiet (fail)
      go_wp2_with fail
      go_roundw
      case rel => exact ⟨j + 1, _, by omega, by omega, valI (by omega), by first | rfl | exact World.drewN_drewN _ _ _⟩
      case measure => simp [intOf]; omega
    · have hjm : ¬ (j : Int) < (m : Int) + 1 := by omega
      go_wp2_with fail
      go_ret
      exact ⟨rfl, belowDrewN acc _⟩

/-! ### THE ROW's STEP: WRITTEN OUT: LEAVE IT -/
set_option maxRecDepth 100000 in
theorem lifted (os : Os) (started : os.Started) (H : Type) (enc : TypeId × Value → H) :
    ReturnsInHanded {} Try.checked os 6 .any (Rows.fnNextDropsSpec.pre6 enc Try.prog Try.f6 Rows.fnNextDropsRow.domain false) (Rows.fnNextDropsSpec.post enc Try.prog Try.f6 false true false false) := by
  refine returnsInHanded_of_change (C := Try.checked) own started (by kernel_rfl) Try.func6
    (ChangeSpec.witness6 (enc := enc) (C := Try.checked) false ⟨#[], #[.slice none 0 0, .slice none 0 0], []⟩ 8 (by kernel_rfl) (by kernel_rfl) (by kernel_rfl) (by kernel_rfl)) ?_
  intro W base args ds gs before hval0 hW hcnd _
  have hval : ∀ (j : Nat) t v, Try.f6.params[j]? = some t → args[j]? = some v → Value.okWide Try.prog W .any base t v := hval0
  have hW' := hW
  obtain ⟨p, q, hA0, hV, rfl, hfz, hnd⟩ := hW
  have hA : DataW.TrodAll enc Try.prog W 0 (fun _ => true) true Try.f6.params.toList args.toList ds p := hA0
  rw [Try.params6] at hA hval
  obtain ⟨v0, vs0, d0, ds0, p0, q0, hargs, rfl, rfl, h0, r0⟩ := trodAll_cons hA
  obtain ⟨v1, vs1, d1, ds1, p1, q1, rfl, rfl, rfl, h1, r1⟩ := trodAll_cons r0
  obtain ⟨rfl, rfl, rfl⟩ := trodAll_nil r1
  obtain rfl : args = #[v0, v1] := by cases args; simp_all
  obtain ⟨rfl, rfl⟩ := trodVars_none hV
  obtain ⟨a0, len0, cap0, rfl⟩ := okWide_slice Try.underlying22 (hval 0 22 v0 rfl rfl)
  have k0 := h0
  have lt0 : ∀ x ∈ p0, x.block < W.heap.size := by obtain ⟨m, hm⟩ := k0; exact DataW.trod_lt m _ _ _ hm
  obtain ⟨z0, w0⟩ : ∃ zs, IsRow .u8 W a0 len0 cap0 zs := by
    obtain ⟨fuel, hf⟩ := h0
    rcases open_ints Try.underlying22 Try.underlying5 (by kernel_rfl) hf with ⟨hcs, _⟩ | ⟨x, l, c, zs, hcs, _, hl, hm, hz, _, hcell, hwz⟩
    · simp [Value.cells] at hcs
      obtain ⟨rfl, rfl, rfl⟩ := hcs
      exact ⟨[], .inl ⟨rfl, rfl, rfl, rfl⟩⟩
    · simp [Value.cells] at hcs
      obtain ⟨rfl, rfl, rfl⟩ := hcs
      exact ⟨zs, .inr ⟨_, rfl, hl, hm, by simpa using hz, hcell, hwz⟩⟩
  obtain ⟨a1, len1, cap1, rfl⟩ := okWide_slice Try.underlying22 (hval 1 22 v1 rfl rfl)
  have k1 := h1
  have lt1 : ∀ x ∈ p1, x.block < W.heap.size := by obtain ⟨m, hm⟩ := k1; exact DataW.trod_lt m _ _ _ hm
  obtain ⟨z1, w1⟩ : ∃ zs, IsRow .u8 W a1 len1 cap1 zs := by
    obtain ⟨fuel, hf⟩ := h1
    rcases open_ints Try.underlying22 Try.underlying5 (by kernel_rfl) hf with ⟨hcs, _⟩ | ⟨x, l, c, zs, hcs, _, hl, hm, hz, _, hcell, hwz⟩
    · simp [Value.cells] at hcs
      obtain ⟨rfl, rfl, rfl⟩ := hcs
      exact ⟨[], .inl ⟨rfl, rfl, rfl, rfl⟩⟩
    · simp [Value.cells] at hcs
      obtain ⟨rfl, rfl, rfl⟩ := hcs
      exact ⟨zs, .inr ⟨_, rfl, hl, hm, by simpa using hz, hcell, hwz⟩⟩
  clear hA0 hval0
  refine (walk a0 len0 cap0 z0 a1 len1 cap1 z1 W w0 w1).mono fun e W' ⟨he, bel⟩ => ?_
  subst he
  exact ⟨_, rfl, _, _, _, [], _, [], hW', trodAll_mk1 (shut_bool Try.underlying4 _), (trodAll_cons_mk (Below.trod laidOut (by kernel_rfl) (of_decide_eq_true (by kernel_rfl)) k0 bel lt0) (trodAll_cons_mk (Below.trod laidOut (by kernel_rfl) (of_decide_eq_true (by kernel_rfl)) k1 bel lt1) trodAll_mk0)), rfl, bel.frame _, fun h => by cases h⟩

theorem closedFacts : joinedFacts Try.prog 6 Try.f6 Rows.fnNextDropsSpec Rows.fnNextDropsRow = true := by
  unfold joinedFacts
  rw [head_enter, head_lifts, head_make]
  kernel_rfl
theorem closedHere : joinedFacts Try.pinned.checked.prog 6 Try.f6 Rows.fnNextDropsSpec Rows.fnNextDropsRow = true := by
  rw [progEq]
  exact closedFacts
theorem over : Rows.fnNextDropsRow.holds Try.pinned (OpenSpec.ofChange Rows.fnNextDropsSpec) :=
  OpenClaim.holds_of_wide 6 Try.f6 rfl rfl rfl rfl rfl rfl rfl ⟨rfl, rfl, rfl, rfl, rfl⟩ rfl rfl rfl rfl rfl (by kernel_rfl) Try.func6 closedHere
    (of_decide_eq_true (by kernel_rfl)) (by unfold Func.isWrapper; first | (rw [if_pos (by decide +kernel)]; kernel_rfl) | (rw [if_neg (by decide +kernel)]; exact ⟨rfl, rfl⟩))
    (fun os started H enc _ => lifted os started H enc)

/-- ████ THE STATEMENT ████ -/
theorem proved : Rows.FnNextDropsSaid := over
#print axioms proved
end Go.Proofs.Ytmfdimdcoeapoaa.fnNextDrops
