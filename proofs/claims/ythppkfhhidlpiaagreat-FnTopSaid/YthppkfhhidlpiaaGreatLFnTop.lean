/- FnTop: for every input the law returns true and leaves its arguments as they were. No condition. -/
import Derived.Test.YthppkfhhidlpiaaGreatRows
import Derived.WalkKit
import Derived.ProofKit
import Derived.OpenShut
import Derived.ShutString
import Derived.ChangeOld
import Derived.Below
import Derived.Test.YthppkfhhidlpiaaGreatHead
import Derived.Test.YthppkfhhidlpiaaGreatGe
import Derived.Test.YthppkfhhidlpiaaGreatGd
import Derived.Test.YthppkfhhidlpiaaGreatLongP
import Derived.Test.YthppkfhhidlpiaaGreatGs
import Derived.Test.YthppkfhhidlpiaaGreatGi
import Derived.Test.YthppkfhhidlpiaaGreatGw
import Derived.Test.YthppkfhhidlpiaaGreatRingF
import Derived.Test.YthppkfhhidlpiaaGreatOrbC
import Derived.Test.YthppkfhhidlpiaaGreatTail42
import Derived.Test.YthppkfhhidlpiaaGreatLawe
namespace Go.Proofs.YthppkfhhidlpiaaGreat.fnTop
set_option linter.unusedSimpArgs false
open Go.ChangeShapes Go.WideShapes Go.ChangeAt Go.RowKit
open Go.ChangeMaps (open_string shut_string)
set_option linter.unusedVariables false

theorem own : ownKnob Tryz.prog.godebug = none := by kernel_rfl
theorem laidOut : laidOutB Tryz.prog = true := by kernel_rfl

/-- WHAT THE WALK IS TOLD OF A SLICE OF INTEGERS THAT CAME IN: it is nil; or it leads to a row of 'cap' cells, the numbers 'zs' (the first 'len' are its elements, the rest its spare room), each fitting its kind. -/
def IsRow (k : IntKind) (w : World) (a : Option Addr) (len cap : Nat) (zs : List Int) : Prop :=
  (a = none ∧ len = 0 ∧ cap = 0 ∧ zs = []) ∨
  ∃ x, a = some x ∧ len ≤ cap ∧ cap ≤ maxLen ∧ zs.length = cap ∧ (∀ i, i < zs.length → w.cell? (x.add i) = some (.int k (zs.getD i 0))) ∧ ∀ n ∈ zs, (Lit.int k n).wf = true

/-! ### THE WALK: the Go text returns true, AND WRITES NOTHING THAT WAS THERE: 'Below w.heap.size w w'' (Derived/Below.lean: '.refl', '.alloc', '.drew', '.setCell' at a new block, '.trans'). Open each 'IsRow' by 'rcases' AHEAD of 'go_enter'; part every test ahead of the walk. -/
set_option maxHeartbeats 4000000 in
set_option maxRecDepth 100000 in
theorem walk (a0 : Option Addr) (len0 cap0 : Nat) (z0 : List Int) (a1 : Option Addr) (len1 cap1 : Nat) (z1 : List Int) (w : World) (w0 : IsRow .u8 w a0 len0 cap0 z0) (w1 : IsRow .u8 w a1 len1 cap1 z1) :
    Calls Tryz.prog 4 #[.slice a0 len0 cap0, .slice a1 len1 cap1] w fun e w' => e = .returned (.bool true) ∧ Below w.heap.size w w' := by
  have by0 := byteIn_row w0
  have by1 := byteIn_row w1
  have hl0 : len0 ≤ maxLen := by
    rcases w0 with ⟨_, h, _⟩ | ⟨x, _, h, h', _⟩
    · rw [h]; exact Nat.zero_le _
    · exact Nat.le_trans h h'
  clear w0 w1
  by_cases hbig : 1048576 < len0 ∨ (1048576 : Int) - len0 < len1
  · have hb := big_yes a0 a1 len0 len1 cap0 cap1 w hbig hl0
    have Hb := Lib.hid hb; clear hb
    go_enter Tryz.func4, Tryz.ntmps4
    go_wp2_with fail
    with_reducible refine (Hb.out).mono ?_
    rintro e w' ⟨rfl, rfl⟩
    go_wp2
    go_ret
    exact ⟨rfl, Below.refl _ _⟩
  have hb := big_no a0 a1 len0 len1 cap0 cap1 w (by omega) (by omega)
  have hd := DrawTailOf_any a0 len0 cap0 w (by omega) by0
  have Hb := Lib.hid hb; clear hb
  have Hd := Lib.hid hd; clear hd
  clear by0 by1 hl0 hbig
  have acc : Below w.heap.size w w := Below.refl _ _
  go_enter Tryz.func4, Tryz.ntmps4
  go_wp2_with fail
  with_reducible refine (Hb.out).mono ?_
  rintro e w' ⟨rfl, rfl⟩
  clear Hb
  go_wp2_with fail
  with_reducible refine (Hd.out).mono ?_
  rintro e v1 ⟨p1, n1, c1, xs, rfl, ho1, hnear, hb1⟩
  replace acc := belowTrans acc hb1 (Nat.le_refl _)
  clear hb1
  clear Hd hnear
  have hi := fun W h => impl_TailOf p1 n1 c1 xs W h
  have hs := fun W h => spec_TailOf p1 n1 c1 xs W h
  cases gx : goodB xs
  · simp only [mTail_no gx] at hi hs
    have Hi := Lib.hid hi; clear hi
    have Hs := Lib.hid hs; clear hs
    go_wp2_with fail
    with_reducible refine (Hi.out _ ho1.at).mono ?_
    rintro e v2 ⟨rfl, hb2⟩
    replace ho1 := ho1.keep hb2
    replace acc := belowTrans acc hb2 (Nat.le_refl _)
    clear hb2
    go_wp2_with fail
    with_reducible refine (Hs.out _ ho1.at).mono ?_
    rintro e v3 ⟨rfl, hb3⟩
    replace ho1 := ho1.keep hb3
    replace acc := belowTrans acc hb3 (Nat.le_refl _)
    clear hb3
    go_wp2
    go_ret
    exact ⟨rfl, acc⟩
  have gX := good_iff.1 gx
  simp only [mTail_yes gx] at hi hs
  have hsm := fun W h => pSum_any p1 n1 c1 xs W h gX
  have h0 := good_sum0 gX
  have h1 := gX.2.2
  obtain ⟨S, hS⟩ : ∃ S : Nat, xs.sum = S := ⟨xs.sum.toNat, by omega⟩
  have hS8 : S ≤ 28 := by omega
  rw [hS] at hsm
  obtain ⟨f1, f2, f3, f4, f5, f6, f7⟩ := top_facts gX
  obtain ⟨g1, g2, g3⟩ := top_tree gX
  have g4 := top_long gX hS
  have h42 := tail42 gX
  have hst := fun W h => impl_StepsFrom p1 n1 c1 xs (tailL xs) W h
  simp only [mSteps_yes gx (show tailL xs ≤ 1000 by omega)] at hst
  simp only [show stepsL (tailL xs) xs = endL xs from rfl] at hst
  have hbi := fun a n c W h => impl_BitsOf a n c (endL xs) W h
  simp only [f2] at hbi
  have hle := fun a n c W h => impl_IsLeast a n c (endL xs) W h
  simp only [f6] at hle
  have hro := fun (k : Nat) (hk : k = (bitsL (endL xs)).length) (hk8 : k ≤ 1000) a n c W h => impl_StepsFrom a n c (endL xs) k W h
  have hsy := fun (k : Nat) (hk : k = (bitsL (endL xs)).length) (hk8 : k ≤ 1000) => (mSteps_yes (k := k) f1 hk8).trans (by rw [hk, f5] : (stepsL k (endL xs), true) = (endL xs, true))
  have htu := fun a n c W h => impl_TurnBits a n c (bitsL (endL xs)) ((1 : Nat) : Int) W h
  simp only [mTurn_yes f3 (show 1 ≤ 1000 by omega)] at htu
  simp only [show ((1 : Nat) : Int) = 1 from rfl] at htu
  have hsp := fun a n c W h => impl_StepPiles a n c (endL xs) W h
  simp only [mStep_yes f1] at hsp
  have hfb := fun a n c W h => impl_FromBits a n c (rotN 1 (bitsL (endL xs))) W h
  simp only [f7] at hfb
  have hlo := fun W => impl_LongestTail S W
  simp only [mLong_yes S hS8] at hlo
  have hdp := fun a n c W h => impl_DepthOf a n c (endL xs) W h
  simp only [mDep_yes f1] at hdp
  have htr := fun a n c W h => impl_TreeOf a n c (endL xs) W h
  simp only [mTree_yes f1] at htr
  generalize (longF (allL S)).1 = l at hlo g4
  obtain ⟨d, hd⟩ : ∃ d : Int, (depN (endL xs) : Int) - 1 = d := ⟨_, rfl⟩
  rw [hd] at g1
  simp only [hd] at hdp
  have hd8 : d ≤ 3718 := by omega
  generalize treeL (endL xs) = T at htr g3
  generalize rotN 1 (bitsL (endL xs)) = R at htu hfb
  generalize stepL (endL xs) = Y at hsp hfb
  generalize bitsL (endL xs) = B at hbi htu hro hsy f4
  generalize endL xs = Z at hst hbi hle hro hsy hsp hdp htr
  generalize tailL xs = t at hi hs hst g1 g4 h42
  have hti : (t : Int) ≤ 42 := by omega
  have hd1 : decide ((t : Int) ≤ l) = true := decide_eq_true g4
  have hd2 : decide ((t : Int) ≤ d) = true := decide_eq_true g1
  clear f1 f2 f3 f5 f6 f7 g2 hd h0 h1 hS gX gx
  have Hi := Lib.hid hi; clear hi
  have Hs := Lib.hid hs; clear hs
  have Hsm := Lib.hid hsm; clear hsm
  have Hst := Lib.hid hst; clear hst
  have Hbi := Lib.hid hbi; clear hbi
  have Hle := Lib.hid hle; clear hle
  have Hro := Lib.hid hro; clear hro
  have Hsy := Lib.hid hsy; clear hsy
  have Htu := Lib.hid htu; clear htu
  have Hsp := Lib.hid hsp; clear hsp
  have Hfb := Lib.hid hfb; clear hfb
  have Hlo := Lib.hid hlo; clear hlo
  have Hdp := Lib.hid hdp; clear hdp
  have Htr := Lib.hid htr; clear htr
  have G3 := Lib.hid g3; clear g3
  go_wp2_with fail
  with_reducible refine (Hi.out _ ho1.at).mono ?_
  rintro e v2 ⟨rfl, hb2⟩
  replace ho1 := ho1.keep hb2
  replace acc := belowTrans acc hb2 (Nat.le_refl _)
  clear hb2
  go_wp2_with fail
  with_reducible refine (Hs.out _ ho1.at).mono ?_
  rintro e v3 ⟨rfl, hb3⟩
  replace ho1 := ho1.keep hb3
  replace acc := belowTrans acc hb3 (Nat.le_refl _)
  clear hb3
  go_wp2_with fail
  with_reducible refine (Hsm.out _ ho1.at).mono ?_
  rintro e w' ⟨rfl, rfl⟩
  go_wp2_with fail
  with_reducible refine (Hst.out _ ho1.at).mono ?_
  rintro e v4 ⟨pz, nz, cz, rfl, hoz, hb4⟩
  replace ho1 := ho1.keep hb4
  replace acc := belowTrans acc hb4 (Nat.le_refl _)
  clear hb4
  go_wp2_with fail
  with_reducible refine (Hbi.out _ _ _ _ hoz.at).mono ?_
  rintro e v5 ⟨pb, nb, cb, rfl, hob, hb5⟩
  replace ho1 := ho1.keep hb5
  replace hoz := hoz.keep hb5
  replace acc := belowTrans acc hb5 (Nat.le_refl _)
  clear hb5
  go_wp2_with fail
  with_reducible refine (Hle.out _ _ _ _ hoz.at).mono ?_
  rintro e v6 ⟨rfl, hb6⟩
  replace ho1 := ho1.keep hb6
  replace hoz := hoz.keep hb6
  replace hob := hob.keep hb6
  replace acc := belowTrans acc hb6 (Nat.le_refl _)
  clear hb6
  have hlb := hob.length
  have hnb8 : nb ≤ 1000 := by omega
  have hnbi : (nb : Int) ≤ 1000 := by omega
  have hcr := Hro.out nb hlb.symm hnb8 pz nz cz v6 hoz.at
  simp only [Hsy.out nb hlb.symm hnb8] at hcr
  clear f4
  have Hlb := Lib.hid hlb; clear hlb
  have Hcr := Lib.hid hcr; clear hcr
  go_wp2_with fail
  with_reducible refine (Hcr.out).mono ?_
  rintro e v7 ⟨pr, nr, cr, rfl, hor, hb7⟩
  replace ho1 := ho1.keep hb7
  replace hoz := hoz.keep hb7
  replace hob := hob.keep hb7
  replace acc := belowTrans acc hb7 (Nat.le_refl _)
  clear hb7
  clear Hi Hs Hsm Hst Hbi Hle Hro Hsy Hcr
  have hc := pSame_any _ _ _ _ _ _ _ _ _ hor.at hoz.at
  rw [decide_eq_true rfl] at hc
  have Hc := Lib.hid hc; clear hc
  go_wp2_with fail
  with_reducible refine (Hc.out).mono ?_
  rintro e v8 ⟨rfl, hb8⟩
  replace ho1 := ho1.keep hb8
  replace hoz := hoz.keep hb8
  replace hob := hob.keep hb8
  replace hor := hor.keep hb8
  replace acc := belowTrans acc hb8 (Nat.le_refl _)
  clear hb8
  clear Hc
  clear hor
  go_wp2_with fail
  with_reducible refine (Htu.out _ _ _ _ hob.at).mono ?_
  rintro e v9 ⟨pt, nt, ct, rfl, hot, hb9⟩
  replace ho1 := ho1.keep hb9
  replace hoz := hoz.keep hb9
  replace hob := hob.keep hb9
  replace acc := belowTrans acc hb9 (Nat.le_refl _)
  clear hb9
  go_wp2_with fail
  with_reducible refine (Hsp.out _ _ _ _ hoz.at).mono ?_
  rintro e v10 ⟨py, ny, cy, rfl, hoy, hb10⟩
  replace ho1 := ho1.keep hb10
  replace hoz := hoz.keep hb10
  replace hob := hob.keep hb10
  replace hot := hot.keep hb10
  replace acc := belowTrans acc hb10 (Nat.le_refl _)
  clear hb10
  go_wp2_with fail
  with_reducible refine (Hfb.out _ _ _ _ hot.at).mono ?_
  rintro e v11 ⟨pf, nf, cf, rfl, hof, hb11⟩
  replace ho1 := ho1.keep hb11
  replace hoz := hoz.keep hb11
  replace hob := hob.keep hb11
  replace hot := hot.keep hb11
  replace hoy := hoy.keep hb11
  replace acc := belowTrans acc hb11 (Nat.le_refl _)
  clear hb11
  have hc := pSame_any _ _ _ _ _ _ _ _ _ hof.at hoy.at
  rw [decide_eq_true rfl] at hc
  have Hc := Lib.hid hc; clear hc
  go_wp2_with fail
  with_reducible refine (Hc.out).mono ?_
  rintro e v12 ⟨rfl, hb12⟩
  replace ho1 := ho1.keep hb12
  replace hoz := hoz.keep hb12
  replace hob := hob.keep hb12
  replace hot := hot.keep hb12
  replace hoy := hoy.keep hb12
  replace hof := hof.keep hb12
  replace acc := belowTrans acc hb12 (Nat.le_refl _)
  clear hb12
  clear Hc
  clear hof
  clear hoy
  clear hot
  clear hob
  clear Htu Hsp Hfb
  by_cases h12 : 12 < S
  · have h12i : (12 : Int) < S := by omega
    go_wp2
    go_ret
    exact ⟨rfl, acc⟩
  have h12i : ¬ ((12 : Int) < S) := by omega
  go_wp2_with fail
  with_reducible refine (Hlo.out _).mono ?_
  rintro e v13 ⟨rfl, hb13⟩
  replace ho1 := ho1.keep hb13
  replace hoz := hoz.keep hb13
  replace acc := belowTrans acc hb13 (Nat.le_refl _)
  clear hb13
  go_wp2_with fail
  with_reducible refine (Hdp.out _ _ _ _ hoz.at).mono ?_
  rintro e v14 ⟨rfl, hb14⟩
  replace ho1 := ho1.keep hb14
  replace hoz := hoz.keep hb14
  replace acc := belowTrans acc hb14 (Nat.le_refl _)
  clear hb14
  go_wp2_with fail
  with_reducible refine (Htr.out _ _ _ _ hoz.at).mono ?_
  rintro e v15 ⟨pw, nw, cw, rfl, how, hb15⟩
  replace ho1 := ho1.keep hb15
  replace hoz := hoz.keep hb15
  replace acc := belowTrans acc hb15 (Nat.le_refl _)
  clear hb15
  have hh := pHasList_any _ _ _ _ _ _ _ _ _ how.at ho1.at
  rw [decide_eq_true G3.out] at hh
  have Hh := Lib.hid hh; clear hh
  go_wp2_with fail
  with_reducible refine (Hh.out).mono ?_
  rintro e v16 ⟨rfl, hb16⟩
  replace ho1 := ho1.keep hb16
  replace hoz := hoz.keep hb16
  replace how := how.keep hb16
  replace acc := belowTrans acc hb16 (Nat.le_refl _)
  clear hb16
  go_wp2
  go_ret
  exact ⟨rfl, acc⟩

/-! ### THE ROW's STEP: WRITTEN OUT: LEAVE IT -/
set_option maxRecDepth 100000 in
theorem lifted (os : Os) (started : os.Started) (H : Type) (enc : TypeId × Value → H) :
    ReturnsInHanded {} Tryz.checked os 4 .any (Rows.fnTopSpec.pre6 enc Tryz.prog Tryz.f4 Rows.fnTopRow.domain false) (Rows.fnTopSpec.post enc Tryz.prog Tryz.f4 false true false false) := by
  refine returnsInHanded_of_change (C := Tryz.checked) own started (by kernel_rfl) Tryz.func4
    (ChangeSpec.witness6 (enc := enc) (C := Tryz.checked) false ⟨#[], #[.slice none 0 0, .slice none 0 0], []⟩ 8 (by kernel_rfl) (by kernel_rfl) (by kernel_rfl) (by kernel_rfl)) ?_
  intro W base args ds gs before hval0 hW hcnd _
  have hval : ∀ (j : Nat) t v, Tryz.f4.params[j]? = some t → args[j]? = some v → Value.okWide Tryz.prog W .any base t v := hval0
  have hW' := hW
  obtain ⟨p, q, hA0, hV, rfl, hfz, hnd⟩ := hW
  have hA : DataW.TrodAll enc Tryz.prog W 0 (fun _ => true) true Tryz.f4.params.toList args.toList ds p := hA0
  rw [Tryz.params4] at hA hval
  obtain ⟨v0, vs0, d0, ds0, p0, q0, hargs, rfl, rfl, h0, r0⟩ := trodAll_cons hA
  obtain ⟨v1, vs1, d1, ds1, p1, q1, rfl, rfl, rfl, h1, r1⟩ := trodAll_cons r0
  obtain ⟨rfl, rfl, rfl⟩ := trodAll_nil r1
  obtain rfl : args = #[v0, v1] := by cases args; simp_all
  obtain ⟨rfl, rfl⟩ := trodVars_none hV
  obtain ⟨a0, len0, cap0, rfl⟩ := okWide_slice Tryz.underlying22 (hval 0 22 v0 rfl rfl)
  have k0 := h0
  have lt0 : ∀ x ∈ p0, x.block < W.heap.size := by obtain ⟨m, hm⟩ := k0; exact DataW.trod_lt m _ _ _ hm
  obtain ⟨z0, w0⟩ : ∃ zs, IsRow .u8 W a0 len0 cap0 zs := by
    obtain ⟨fuel, hf⟩ := h0
    rcases open_ints Tryz.underlying22 Tryz.underlying5 (by kernel_rfl) hf with ⟨hcs, _⟩ | ⟨x, l, c, zs, hcs, _, hl, hm, hz, _, hcell, hwz⟩
    · simp [Value.cells] at hcs
      obtain ⟨rfl, rfl, rfl⟩ := hcs
      exact ⟨[], .inl ⟨rfl, rfl, rfl, rfl⟩⟩
    · simp [Value.cells] at hcs
      obtain ⟨rfl, rfl, rfl⟩ := hcs
      exact ⟨zs, .inr ⟨_, rfl, hl, hm, by simpa using hz, hcell, hwz⟩⟩
  obtain ⟨a1, len1, cap1, rfl⟩ := okWide_slice Tryz.underlying22 (hval 1 22 v1 rfl rfl)
  have k1 := h1
  have lt1 : ∀ x ∈ p1, x.block < W.heap.size := by obtain ⟨m, hm⟩ := k1; exact DataW.trod_lt m _ _ _ hm
  obtain ⟨z1, w1⟩ : ∃ zs, IsRow .u8 W a1 len1 cap1 zs := by
    obtain ⟨fuel, hf⟩ := h1
    rcases open_ints Tryz.underlying22 Tryz.underlying5 (by kernel_rfl) hf with ⟨hcs, _⟩ | ⟨x, l, c, zs, hcs, _, hl, hm, hz, _, hcell, hwz⟩
    · simp [Value.cells] at hcs
      obtain ⟨rfl, rfl, rfl⟩ := hcs
      exact ⟨[], .inl ⟨rfl, rfl, rfl, rfl⟩⟩
    · simp [Value.cells] at hcs
      obtain ⟨rfl, rfl, rfl⟩ := hcs
      exact ⟨zs, .inr ⟨_, rfl, hl, hm, by simpa using hz, hcell, hwz⟩⟩
  clear hA0 hval0
  refine (walk a0 len0 cap0 z0 a1 len1 cap1 z1 W w0 w1).mono fun e W' ⟨he, bel⟩ => ?_
  subst he
  exact ⟨_, rfl, _, _, _, [], _, [], hW', trodAll_mk1 (shut_bool Tryz.underlying4 _), (trodAll_cons_mk (Below.trod laidOut (by kernel_rfl) (of_decide_eq_true (by kernel_rfl)) k0 bel lt0) (trodAll_cons_mk (Below.trod laidOut (by kernel_rfl) (of_decide_eq_true (by kernel_rfl)) k1 bel lt1) trodAll_mk0)), rfl, bel.frame _, fun h => by cases h⟩

theorem closedFacts : joinedFacts Tryz.prog 4 Tryz.f4 Rows.fnTopSpec Rows.fnTopRow = true := by
  unfold joinedFacts
  rw [head_enter, head_lifts, head_make]
  kernel_rfl
theorem closedHere : joinedFacts Tryz.pinned.checked.prog 4 Tryz.f4 Rows.fnTopSpec Rows.fnTopRow = true := by
  rw [progEq]
  exact closedFacts
theorem over : Rows.fnTopRow.holds Tryz.pinned (OpenSpec.ofChange Rows.fnTopSpec) :=
  OpenClaim.holds_of_wide 4 Tryz.f4 rfl rfl rfl rfl rfl rfl rfl ⟨rfl, rfl, rfl, rfl, rfl⟩ rfl rfl rfl rfl rfl (by kernel_rfl) Tryz.func4 closedHere
    (of_decide_eq_true (by kernel_rfl)) (by unfold Func.isWrapper; first | (rw [if_pos (by decide +kernel)]; kernel_rfl) | (rw [if_neg (by decide +kernel)]; exact ⟨rfl, rfl⟩))
    (fun os started H enc _ => lifted os started H enc)

/-- ████ THE STATEMENT ████ -/
theorem proved : Rows.FnTopSaid := over
#print axioms proved
end Go.Proofs.YthppkfhhidlpiaaGreat.fnTop
