/- FnPastsAtSteps: for every input the law returns true and leaves its arguments as they were. No condition. -/
import Derived.Test.YtmfdimdcoeapoaaGreatRows
import Derived.WalkKit
import Derived.ProofKit
import Derived.OpenShut
import Derived.ShutString
import Derived.ChangeOld
import Derived.Below
import Derived.Test.YtmfdimdcoeapoaaGreatHead
import Derived.Test.YtmfdimdcoeapoaaGreatGe
import Derived.Test.YtmfdimdcoeapoaaGreatGd
import Derived.Test.YtmfdimdcoeapoaaGreatGx
import Derived.Test.YtmfdimdcoeapoaaGreatGs
import Derived.Test.YtmfdimdcoeapoaaGreatGi
import Derived.Test.YtmfdimdcoeapoaaGreatDrawR
namespace Go.Proofs.YtmfdimdcoeapoaaGreat.fnPastsAtSteps
set_option linter.unusedSimpArgs false
open Go.ChangeShapes Go.WideShapes Go.ChangeAt Go.RowKit
open Go.ChangeMaps (open_string shut_string)
set_option linter.unusedVariables false

theorem own : ownKnob Tryz.prog.godebug = none := by kernel_rfl
theorem laidOut : laidOutB Tryz.prog = true := by kernel_rfl

/-- WHAT THE WALK IS TOLD OF A SLICE OF INTEGERS THAT CAME IN: it is nil; or it leads to a row of 'cap' cells, the numbers 'zs' (the first 'len' are its elements, the rest its spare room), each fitting its kind. -/
def IsRow (k : IntKind) (w : World) (a : Option Addr) (len cap : Nat) (zs : List Int) : Prop :=
  (a = none ∧ len = 0 ∧ cap = 0 ∧ zs = []) ∨
  ∃ x, a = some x ∧ len ≤ cap ∧ cap ≤ maxLen ∧ zs.length = cap ∧ (∀ i, i < zs.length → w.cell? (x.add i) = some (.int k (zs.getD i 0))) ∧ ∀ n ∈ zs, (Lit.int k n).wf = true

/-! ### THE WALK: the Go text returns true, AND WRITES NOTHING THAT WAS THERE: 'Below w.heap.size w w'' (Derived/Below.lean: '.refl', '.alloc', '.drew', '.setCell' at a new block, '.trans'). Open each 'IsRow' by 'rcases' AHEAD of 'go_enter'; part every test ahead of the walk. -/
set_option maxHeartbeats 4000000 in
set_option maxRecDepth 100000 in
theorem walk (a0 : Option Addr) (len0 cap0 : Nat) (z0 : List Int) (a1 : Option Addr) (len1 cap1 : Nat) (z1 : List Int) (w : World) (w0 : IsRow .u8 w a0 len0 cap0 z0) (w1 : IsRow .u8 w a1 len1 cap1 z1) :
    Calls Tryz.prog 3 #[.slice a0 len0 cap0, .slice a1 len1 cap1] w fun e w' => e = .returned (.bool true) ∧ Below w.heap.size w w' := by
  have by0 := byteIn_row w0
  have by1 := byteIn_row w1
  have hl0 : len0 ≤ maxLen := by
    rcases w0 with ⟨_, h, _⟩ | ⟨x, _, h, h', _⟩
    · rw [h]; exact Nat.zero_le _
    · exact Nat.le_trans h h'
  clear w0 w1
  by_cases hbig : 1048576 < len0 ∨ (1048576 : Int) - len0 < len1
  · have hb := big_yes a0 a1 len0 len1 cap0 cap1 w hbig hl0
    have Hb := Lib.hid hb; clear hb
    go_enter Tryz.func3, Tryz.ntmps3
    go_wp2_with fail
    with_reducible refine (Hb.out).mono ?_
    rintro e w' ⟨rfl, rfl⟩
    go_wp2
    go_ret
    exact ⟨rfl, Below.refl _ _⟩
  have hb := big_no a0 a1 len0 len1 cap0 cap1 w (by omega) (by omega)
  have hd := DrawPastsAt_any a0 len0 cap0 w (by omega) by0
  have hf := fun W (h : Below w.heap.size w W) => DrawCountAt_any a1 len1 cap1 W (by omega) (by1.up (Nat.le_refl _) h h.size)
  have Hb := Lib.hid hb; clear hb
  have Hd := Lib.hid hd; clear hd
  have Hf := Lib.hid hf; clear hf
  clear by0 by1 hl0 hbig
  have acc : Below w.heap.size w w := Below.refl _ _
  go_enter Tryz.func3, Tryz.ntmps3
  go_wp2_with fail
  with_reducible refine (Hb.out).mono ?_
  rintro e w' ⟨rfl, rfl⟩
  clear Hb
  go_wp2_with fail
  with_reducible refine (Hd.out).mono ?_
  rintro e v1 ⟨p1, n1, c1, xs, k, rfl, ho1, hnear, hk0, hk1, hb1⟩
  replace acc := belowTrans acc hb1 (Nat.le_refl _)
  clear hb1
  clear Hd hnear
  have hi := fun W h => impl_PastsAt p1 n1 c1 xs k W h
  have hs := fun W h => spec_PastsAt p1 n1 c1 xs k W h
  by_cases hx : goodB xs = true ∧ 0 ≤ k ∧ k ≤ 60
  · skip
    obtain ⟨gx, hk2, hk3⟩ := hx
    obtain ⟨K, hKK⟩ : ∃ K : Nat, k = K := ⟨k.toNat, by omega⟩
    have hK : K ≤ 60 := by omega
    have e1 : mPastsAt xs k = (atL xs K, true) := by rw [hKK]; exact mPA_yes gx hK
    have e2 : mCountAt xs k = ((((atL xs K).length : Nat) : Int), true) := by rw [hKK]; exact mCA_yes gx hK
    simp only [e1] at hi hs
    have hown := fun W h => impl_CountAt p1 n1 c1 xs k W h
    simp only [e2] at hown
    obtain ⟨a1, a2, a3, a4, a5⟩ := at_facts (good_iff.1 gx) hK
    have hlat : ∃ q : Bool, ∃ z : Int, mCountAt xs (k + 1) = (z, q) ∧ (q = true → z = (((atL xs (K + 1)).length : Nat) : Int)) := by
      by_cases h60 : K + 1 ≤ 60
      · exact ⟨true, _, by rw [hKK]; exact mCA_yes gx h60, fun _ => rfl⟩
      · exact ⟨false, 0, mCA_no2 (by omega), fun h => by cases h⟩
    obtain ⟨q, z, hlq, hlz⟩ := hlat
    have hlater := fun W h => impl_CountAt p1 n1 c1 xs (k + 1) W h
    simp only [hlq] at hlater
    have hst := fun a n c zs (hz : goodB zs = true) W h => impl_StepsFrom a n c zs k W h
    have hsy : ∀ zs, goodB zs = true → mStepsFrom zs k = (stepsL K zs, true) := fun zs hz => by rw [hKK]; exact mSteps_yes hz (by omega)
    generalize (atL xs (K + 1)).length = L2 at a3 a5 hlz
    generalize atL xs K = L at hi hs hown a1 a2 a3 a4
    clear e1 e2 gx hKK hlq
    have Hi := Lib.hid hi; clear hi
    have Hs := Lib.hid hs; clear hs
    have A1 := Lib.hid a1; clear a1
    have A2 := Lib.hid a2; clear a2
    have A3 := Lib.hid a3; clear a3
    have Hown := Lib.hid hown; clear hown
    have Hlater := Lib.hid hlater; clear hlater
    have Hst := Lib.hid hst; clear hst
    have Hsy := Lib.hid hsy; clear hsy
    have Hlz := Lib.hid hlz; clear hlz
    go_wp2_with fail
    with_reducible refine (Hi.out _ ho1.at).mono ?_
    rintro e v2 ⟨pi, ni, ci, rfl, hoi, hb2⟩
    replace ho1 := ho1.keep hb2
    replace acc := belowTrans acc hb2 (Nat.le_refl _)
    clear hb2
    go_wp2_with fail
    with_reducible refine (Hs.out _ ho1.at).mono ?_
    rintro e v3 ⟨ps, ns, cs, rfl, hos, hb3⟩
    replace ho1 := ho1.keep hb3
    replace hoi := hoi.keep hb3
    replace acc := belowTrans acc hb3 (Nat.le_refl _)
    clear hb3
    clear Hi Hs
    have hc := pSameLists_any _ _ _ _ _ _ _ _ _ hoi.at hos.at
    rw [decide_eq_true rfl] at hc
    have Hc := Lib.hid hc; clear hc
    go_wp2_with fail
    with_reducible refine (Hc.out).mono ?_
    rintro e v4 ⟨rfl, hb4⟩
    replace ho1 := ho1.keep hb4
    replace hoi := hoi.keep hb4
    replace hos := hos.keep hb4
    replace acc := belowTrans acc hb4 (Nat.le_refl _)
    clear hb4
    clear Hc
    clear hos
    go_wp2_with fail
    with_reducible refine (Hf.out _ acc).mono ?_
    rintro e v5 ⟨p2, n2, c2, ys, j2, rfl, ho2, hnear, hj0, hj1, hb5⟩
    replace ho1 := ho1.keep hb5
    replace hoi := hoi.keep hb5
    replace acc := belowTrans acc hb5 (Nat.le_refl _)
    clear hb5
    clear Hf hnear
    have hi := fun W h => impl_CountAt p2 n2 c2 ys j2 W h
    have hs := fun W h => spec_CountAt p2 n2 c2 ys j2 W h
    generalize (mCountAt ys j2).1 = F at hi hs
    generalize (mCountAt ys j2).2 = B at hi hs
    have Hi := Lib.hid hi; clear hi
    have Hs := Lib.hid hs; clear hs
    go_wp2_with fail
    with_reducible refine (Hi.out _ ho2.at).mono ?_
    rintro e v6 ⟨rfl, hb6⟩
    replace ho1 := ho1.keep hb6
    replace hoi := hoi.keep hb6
    replace ho2 := ho2.keep hb6
    replace acc := belowTrans acc hb6 (Nat.le_refl _)
    clear hb6
    go_wp2_with fail
    with_reducible refine (Hs.out _ ho2.at).mono ?_
    rintro e v7 ⟨rfl, hb7⟩
    replace ho1 := ho1.keep hb7
    replace hoi := hoi.keep hb7
    replace ho2 := ho2.keep hb7
    replace acc := belowTrans acc hb7 (Nat.le_refl _)
    clear hb7
    clear Hi Hs
    clear ho2
    go_wp2_with fail
    with_reducible refine (Hown.out _ ho1.at).mono ?_
    rintro e v8 ⟨rfl, hb8⟩
    replace ho1 := ho1.keep hb8
    replace hoi := hoi.keep hb8
    replace acc := belowTrans acc hb8 (Nat.le_refl _)
    clear hb8
    have hl := hoi.length
    rw [hl]
    have hni8 : ni ≤ 3718 := by omega
    have hni9 : (ni : Int) ≤ 3718 := by omega
    have hoo := pOrdered_any _ _ _ _ _ hoi.at
    rw [A1.out] at hoo
    have Hl := Lib.hid hl; clear hl
    have Hoo := Lib.hid hoo; clear hoo
    go_wp2_with fail
    with_reducible refine (Hoo.out).mono ?_
    rintro e v9 ⟨rfl, hb9⟩
    replace ho1 := ho1.keep hb9
    replace hoi := hoi.keep hb9
    replace acc := belowTrans acc hb9 (Nat.le_refl _)
    clear hb9
    clear Hoo Hown A1
    have hrows := hoi.at
    clear hoi
    obtain ⟨wo, hwo⟩ : ∃ wo : World, wo = v9 := ⟨_, rfl⟩
    subst hwo
    go_wp2_with fail
    go_loopw [19, 105] (fun s i wr => ∃ j : Nat, j ≤ ni ∧ i = .int .i64 j ∧ s = .int .i64 (pasS L j) ∧ 0 ≤ pasS L j ∧ pasS L j ≤ 29 * j ∧ Below w.heap.size w wr ∧ Below wo.heap.size wo wr) (fun _ i _ => ni - (intOf i).toNat)
    case atStart => exact ⟨0, Nat.zero_le _, rfl, rfl, Int.le_refl _, Int.le_refl _, acc, Below.refl _ _⟩
    case round =>
      obtain ⟨j, hj, rfl, rfl, hs0, hs1, hbw, hbo⟩ := hrel
      by_cases hlt : j < ni
      · skip
        replace ho1 := ho1.keep hbo
        replace hrows := hrows.keep hbo
        obtain ⟨g1, g2, g3⟩ := A2.out j (by rw [Hl.out]; exact hlt)
        have hs2 := pasS_succ (l := L) (k := j) (by rw [Hl.out]; exact hlt)
        obtain ⟨b1, o1, e_, _, hc_⟩ := hrows.cell j hlt
        cases e_
        obtain ⟨a1_, m1, d1, hcell, hat⟩ := hc_ j hlt
        clear hc_
        have hsf := Hst.out a1_ m1 d1 (L.getD j []) g1 wr hat
        simp only [Hsy.out _ g1, g2] at hsf
        have hpc := fun W h => impl_PastCount a1_ m1 d1 (L.getD j []) W h
        simp only [mPastCount_yes g1] at hpc
        simp only [show (pastsL (L.getD j [])).length = pasN (L.getD j []) from rfl] at hpc
        generalize L.getD j [] = X at hat hsf hpc hs2 g3
        generalize pasN X = c at hpc hs2 g3
        generalize pasS L j = s at hs0 hs1 hs2
        clear g1 g2
        have Hsf := Lib.hid hsf; clear hsf
        have Hpc := Lib.hid hpc; clear hpc
        have Hs2 := Lib.hid hs2; clear hs2
        go_wp2_with fail
        with_reducible refine (Hsf.out).mono ?_
        rintro e v10 ⟨pz, nz, cz, rfl, hoz, hb10⟩
        replace ho1 := ho1.keep hb10
        replace hrows := hrows.keep hb10
        replace hat := hat.keep hb10
        replace hbw := belowTrans hbw hb10 (Nat.le_refl _)
        replace hbo := belowTrans hbo hb10 (Nat.le_refl _)
        clear hb10
        go_wp2_with fail
        with_reducible refine (Hpc.out _ hat).mono ?_
        rintro e v11 ⟨rfl, hb11⟩
        replace ho1 := ho1.keep hb11
        replace hrows := hrows.keep hb11
        replace hat := hat.keep hb11
        replace hoz := hoz.keep hb11
        replace hbw := belowTrans hbw hb11 (Nat.le_refl _)
        replace hbo := belowTrans hbo hb11 (Nat.le_refl _)
        clear hb11
        have hc := pSame_any _ _ _ _ _ _ _ _ _ hoz.at ho1.at
        rw [decide_eq_true rfl] at hc
        have Hc := Lib.hid hc; clear hc
        go_wp2_with fail
        with_reducible refine (Hc.out).mono ?_
        rintro e v12 ⟨rfl, hb12⟩
        replace ho1 := ho1.keep hb12
        replace hrows := hrows.keep hb12
        replace hat := hat.keep hb12
        replace hoz := hoz.keep hb12
        replace hbw := belowTrans hbw hb12 (Nat.le_refl _)
        replace hbo := belowTrans hbo hb12 (Nat.le_refl _)
        clear hb12
        clear Hc
        go_wp2
        go_roundw
        case rel => exact ⟨j + 1, by omega, by go_num, by rw [Hs2.out], by rw [Hs2.out]; omega, by rw [Hs2.out]; omega, hbw, hbo⟩
        case measure => simp [intOf] <;> omega
      · skip
        replace ho1 := ho1.keep hbo
        replace hrows := hrows.keep hbo
        clear hbo hs0 hs1
        obtain rfl : ni = j := by omega
        have a3 := A3.out
        rw [Hl.out] at a3
        rw [a3]
        clear a3
        cases q
        · skip
          go_wp2_with fail
          with_reducible refine (Hlater.out _ ho1.at).mono ?_
          rintro e v10 ⟨rfl, hb10⟩
          replace ho1 := ho1.keep hb10
          replace hrows := hrows.keep hb10
          replace hbw := belowTrans hbw hb10 (Nat.le_refl _)
          clear hb10
          go_wp2
          go_ret
          exact ⟨rfl, hbw⟩
        have hz := Hlz.out rfl
        subst hz
        go_wp2_with fail
        with_reducible refine (Hlater.out _ ho1.at).mono ?_
        rintro e v10 ⟨rfl, hb10⟩
        replace ho1 := ho1.keep hb10
        replace hrows := hrows.keep hb10
        replace hbw := belowTrans hbw hb10 (Nat.le_refl _)
        clear hb10
        go_wp2
        go_ret
        exact ⟨rfl, hbw⟩
  have e1 : mPastsAt xs k = ([], false) := by
    cases gx : goodB xs
    · exact mPA_no1 gx
    · exact mPA_no2 (fun h => hx ⟨gx, h⟩)
  simp only [e1] at hi hs
  clear e1 hx
  have Hi := Lib.hid hi; clear hi
  have Hs := Lib.hid hs; clear hs
  go_wp2_with fail
  with_reducible refine (Hi.out _ ho1.at).mono ?_
  rintro e v2 ⟨pi, ni, ci, rfl, hoi, hb2⟩
  replace ho1 := ho1.keep hb2
  replace acc := belowTrans acc hb2 (Nat.le_refl _)
  clear hb2
  go_wp2_with fail
  with_reducible refine (Hs.out _ ho1.at).mono ?_
  rintro e v3 ⟨ps, ns, cs, rfl, hos, hb3⟩
  replace ho1 := ho1.keep hb3
  replace hoi := hoi.keep hb3
  replace acc := belowTrans acc hb3 (Nat.le_refl _)
  clear hb3
  clear Hi Hs
  have hc := pSameLists_any _ _ _ _ _ _ _ _ _ hoi.at hos.at
  rw [decide_eq_true rfl] at hc
  have Hc := Lib.hid hc; clear hc
  go_wp2_with fail
  with_reducible refine (Hc.out).mono ?_
  rintro e v4 ⟨rfl, hb4⟩
  replace ho1 := ho1.keep hb4
  replace hoi := hoi.keep hb4
  replace hos := hos.keep hb4
  replace acc := belowTrans acc hb4 (Nat.le_refl _)
  clear hb4
  clear Hc
  clear hos
  go_wp2_with fail
  with_reducible refine (Hf.out _ acc).mono ?_
  rintro e v5 ⟨p2, n2, c2, ys, j2, rfl, ho2, hnear, hj0, hj1, hb5⟩
  replace ho1 := ho1.keep hb5
  replace hoi := hoi.keep hb5
  replace acc := belowTrans acc hb5 (Nat.le_refl _)
  clear hb5
  clear Hf hnear
  have hi := fun W h => impl_CountAt p2 n2 c2 ys j2 W h
  have hs := fun W h => spec_CountAt p2 n2 c2 ys j2 W h
  generalize (mCountAt ys j2).1 = F at hi hs
  generalize (mCountAt ys j2).2 = B at hi hs
  have Hi := Lib.hid hi; clear hi
  have Hs := Lib.hid hs; clear hs
  go_wp2_with fail
  with_reducible refine (Hi.out _ ho2.at).mono ?_
  rintro e v6 ⟨rfl, hb6⟩
  replace ho1 := ho1.keep hb6
  replace hoi := hoi.keep hb6
  replace ho2 := ho2.keep hb6
  replace acc := belowTrans acc hb6 (Nat.le_refl _)
  clear hb6
  go_wp2_with fail
  with_reducible refine (Hs.out _ ho2.at).mono ?_
  rintro e v7 ⟨rfl, hb7⟩
  replace ho1 := ho1.keep hb7
  replace hoi := hoi.keep hb7
  replace ho2 := ho2.keep hb7
  replace acc := belowTrans acc hb7 (Nat.le_refl _)
  clear hb7
  clear Hi Hs
  clear ho2
  go_wp2
  go_ret
  exact ⟨rfl, acc⟩

/-! ### THE ROW's STEP: WRITTEN OUT: LEAVE IT -/
set_option maxRecDepth 100000 in
theorem lifted (os : Os) (started : os.Started) (H : Type) (enc : TypeId × Value → H) :
    ReturnsInHanded {} Tryz.checked os 3 .any (Rows.fnPastsAtStepsSpec.pre6 enc Tryz.prog Tryz.f3 Rows.fnPastsAtStepsRow.domain false) (Rows.fnPastsAtStepsSpec.post enc Tryz.prog Tryz.f3 false true false false) := by
  refine returnsInHanded_of_change (C := Tryz.checked) own started (by kernel_rfl) Tryz.func3
    (ChangeSpec.witness6 (enc := enc) (C := Tryz.checked) false ⟨#[], #[.slice none 0 0, .slice none 0 0], []⟩ 8 (by kernel_rfl) (by kernel_rfl) (by kernel_rfl) (by kernel_rfl)) ?_
  intro W base args ds gs before hval0 hW hcnd _
  have hval : ∀ (j : Nat) t v, Tryz.f3.params[j]? = some t → args[j]? = some v → Value.okWide Tryz.prog W .any base t v := hval0
  have hW' := hW
  obtain ⟨p, q, hA0, hV, rfl, hfz, hnd⟩ := hW
  have hA : DataW.TrodAll enc Tryz.prog W 0 (fun _ => true) true Tryz.f3.params.toList args.toList ds p := hA0
  rw [Tryz.params3] at hA hval
  obtain ⟨v0, vs0, d0, ds0, p0, q0, hargs, rfl, rfl, h0, r0⟩ := trodAll_cons hA
  obtain ⟨v1, vs1, d1, ds1, p1, q1, rfl, rfl, rfl, h1, r1⟩ := trodAll_cons r0
  obtain ⟨rfl, rfl, rfl⟩ := trodAll_nil r1
  obtain rfl : args = #[v0, v1] := by cases args; simp_all
  obtain ⟨rfl, rfl⟩ := trodVars_none hV
  obtain ⟨a0, len0, cap0, rfl⟩ := okWide_slice Tryz.underlying22 (hval 0 22 v0 rfl rfl)
  have k0 := h0
  have lt0 : ∀ x ∈ p0, x.block < W.heap.size := by obtain ⟨m, hm⟩ := k0; exact DataW.trod_lt m _ _ _ hm
  obtain ⟨z0, w0⟩ : ∃ zs, IsRow .u8 W a0 len0 cap0 zs := by
    obtain ⟨fuel, hf⟩ := h0
    rcases open_ints Tryz.underlying22 Tryz.underlying5 (by kernel_rfl) hf with ⟨hcs, _⟩ | ⟨x, l, c, zs, hcs, _, hl, hm, hz, _, hcell, hwz⟩
    · simp [Value.cells] at hcs
      obtain ⟨rfl, rfl, rfl⟩ := hcs
      exact ⟨[], .inl ⟨rfl, rfl, rfl, rfl⟩⟩
    · simp [Value.cells] at hcs
      obtain ⟨rfl, rfl, rfl⟩ := hcs
      exact ⟨zs, .inr ⟨_, rfl, hl, hm, by simpa using hz, hcell, hwz⟩⟩
  obtain ⟨a1, len1, cap1, rfl⟩ := okWide_slice Tryz.underlying22 (hval 1 22 v1 rfl rfl)
  have k1 := h1
  have lt1 : ∀ x ∈ p1, x.block < W.heap.size := by obtain ⟨m, hm⟩ := k1; exact DataW.trod_lt m _ _ _ hm
  obtain ⟨z1, w1⟩ : ∃ zs, IsRow .u8 W a1 len1 cap1 zs := by
    obtain ⟨fuel, hf⟩ := h1
    rcases open_ints Tryz.underlying22 Tryz.underlying5 (by kernel_rfl) hf with ⟨hcs, _⟩ | ⟨x, l, c, zs, hcs, _, hl, hm, hz, _, hcell, hwz⟩
    · simp [Value.cells] at hcs
      obtain ⟨rfl, rfl, rfl⟩ := hcs
      exact ⟨[], .inl ⟨rfl, rfl, rfl, rfl⟩⟩
    · simp [Value.cells] at hcs
      obtain ⟨rfl, rfl, rfl⟩ := hcs
      exact ⟨zs, .inr ⟨_, rfl, hl, hm, by simpa using hz, hcell, hwz⟩⟩
  clear hA0 hval0
  refine (walk a0 len0 cap0 z0 a1 len1 cap1 z1 W w0 w1).mono fun e W' ⟨he, bel⟩ => ?_
  subst he
  exact ⟨_, rfl, _, _, _, [], _, [], hW', trodAll_mk1 (shut_bool Tryz.underlying4 _), (trodAll_cons_mk (Below.trod laidOut (by kernel_rfl) (of_decide_eq_true (by kernel_rfl)) k0 bel lt0) (trodAll_cons_mk (Below.trod laidOut (by kernel_rfl) (of_decide_eq_true (by kernel_rfl)) k1 bel lt1) trodAll_mk0)), rfl, bel.frame _, fun h => by cases h⟩

theorem closedFacts : joinedFacts Tryz.prog 3 Tryz.f3 Rows.fnPastsAtStepsSpec Rows.fnPastsAtStepsRow = true := by
  unfold joinedFacts
  rw [head_enter, head_lifts, head_make]
  kernel_rfl
theorem closedHere : joinedFacts Tryz.pinned.checked.prog 3 Tryz.f3 Rows.fnPastsAtStepsSpec Rows.fnPastsAtStepsRow = true := by
  rw [progEq]
  exact closedFacts
theorem over : Rows.fnPastsAtStepsRow.holds Tryz.pinned (OpenSpec.ofChange Rows.fnPastsAtStepsSpec) :=
  OpenClaim.holds_of_wide 3 Tryz.f3 rfl rfl rfl rfl rfl rfl rfl ⟨rfl, rfl, rfl, rfl, rfl⟩ rfl rfl rfl rfl rfl (by kernel_rfl) Tryz.func3 closedHere
    (of_decide_eq_true (by kernel_rfl)) (by unfold Func.isWrapper; first | (rw [if_pos (by decide +kernel)]; kernel_rfl) | (rw [if_neg (by decide +kernel)]; exact ⟨rfl, rfl⟩))
    (fun os started H enc _ => lifted os started H enc)

/-- ████ THE STATEMENT ████ -/
theorem proved : Rows.FnPastsAtStepsSaid := over
#print axioms proved
end Go.Proofs.YtmfdimdcoeapoaaGreat.fnPastsAtSteps
