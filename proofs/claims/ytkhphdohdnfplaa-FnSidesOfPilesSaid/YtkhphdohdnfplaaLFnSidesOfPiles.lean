/- FnSidesOfPiles: for every input the law returns true and leaves its arguments as they were. No condition. -/
import Derived.Test.YtkhphdohdnfplaaRows
import Derived.WalkKit
import Derived.ProofKit
import Derived.OpenShut
import Derived.ShutString
import Derived.ChangeOld
import Derived.Below
import Derived.Test.YtkhphdohdnfplaaHead
import Derived.Test.YtkhphdohdnfplaaLawp
import Derived.Test.YtkhphdohdnfplaaLawq
import Derived.Test.YtkhphdohdnfplaaLawr
import Derived.Test.YtkhphdohdnfplaaDrawC
import Derived.Test.YtkhphdohdnfplaaSideS
import Derived.Test.YtkhphdohdnfplaaSteps
import Derived.Test.YtkhphdohdnfplaaPileF
namespace Go.Proofs.Ytkhphdohdnfplaa.fnSidesOfPiles
set_option linter.unusedSimpArgs false
open Go.ChangeShapes Go.WideShapes Go.ChangeAt Go.RowKit
open Go.ChangeMaps (open_string shut_string)
set_option linter.unusedVariables false

theorem own : ownKnob Try.prog.godebug = none := by kernel_rfl
theorem laidOut : laidOutB Try.prog = true := by kernel_rfl

/-- WHAT THE WALK IS TOLD OF A SLICE OF INTEGERS THAT CAME IN: it is nil; or it leads to a row of 'cap' cells, the numbers 'zs' (the first 'len' are its elements, the rest its spare room), each fitting its kind. -/
def IsRow (k : IntKind) (w : World) (a : Option Addr) (len cap : Nat) (zs : List Int) : Prop :=
  (a = none ∧ len = 0 ∧ cap = 0 ∧ zs = []) ∨
  ∃ x, a = some x ∧ len ≤ cap ∧ cap ≤ maxLen ∧ zs.length = cap ∧ (∀ i, i < zs.length → w.cell? (x.add i) = some (.int k (zs.getD i 0))) ∧ ∀ n ∈ zs, (Lit.int k n).wf = true

/-! ### THE WALK: the Go text returns true, AND WRITES NOTHING THAT WAS THERE: 'Below w.heap.size w w'' (Derived/Below.lean: '.refl', '.alloc', '.drew', '.setCell' at a new block, '.trans'). Open each 'IsRow' by 'rcases' AHEAD of 'go_enter'; part every test ahead of the walk. -/
set_option maxHeartbeats 4000000 in
set_option maxRecDepth 100000 in
theorem walk (a0 : Option Addr) (len0 cap0 : Nat) (z0 : List Int) (a1 : Option Addr) (len1 cap1 : Nat) (z1 : List Int) (w : World) (w0 : IsRow .u8 w a0 len0 cap0 z0) (w1 : IsRow .u8 w a1 len1 cap1 z1) :
    Calls Try.prog 5 #[.slice a0 len0 cap0, .slice a1 len1 cap1] w fun e w' => e = .returned (.bool true) ∧ Below w.heap.size w w' := by
  have by0 := byteIn_row w0
  have by1 := byteIn_row w1
  have hl0 : len0 ≤ maxLen := by
    rcases w0 with ⟨_, h, _⟩ | ⟨x, _, h, h', _⟩
    · rw [h]; exact Nat.zero_le _
    · exact Nat.le_trans h h'
  clear w0 w1
  by_cases hbig : 1048576 < len0 ∨ (1048576 : Int) - len0 < len1
  · have hb := big_yes a0 a1 len0 len1 cap0 cap1 w hbig hl0
    have Hb := Lib.hid hb; clear hb
    go_enter Try.func5, Try.ntmps5
    go_wp2_with fail
    with_reducible refine (Hb.out).mono ?_
    rintro e w' ⟨rfl, rfl⟩
    go_wp2
    go_ret
    exact ⟨rfl, Below.refl _ _⟩
  have hb := big_no a0 a1 len0 len1 cap0 cap1 w (by omega) (by omega)
  have hd := DrawSideStep_any a0 len0 cap0 w (by omega) by0
  have Hb := Lib.hid hb; clear hb
  have Hd := Lib.hid hd; clear hd
  clear by0 by1 hl0 hbig
  have acc : Below w.heap.size w w := Below.refl _ _
  go_enter Try.func5, Try.ntmps5
  go_wp2_with fail
  with_reducible refine (Hb.out).mono ?_
  rintro e w' ⟨rfl, rfl⟩
  clear Hb
  go_wp2_with fail
  with_reducible refine (Hd.out).mono ?_
  rintro e v1 ⟨p1, n1, c1, xs, rfl, ho1, hnear, hb1⟩
  replace acc := belowTrans acc hb1 (Nat.le_refl _)
  clear hb1
  clear Hd hnear
  have hi := fun W h => impl_SideStep p1 n1 c1 xs W h
  have hs := fun W h => spec_SideStep p1 n1 c1 xs W h
  have hj := fun W h => impl_SideOf p1 n1 c1 xs W h
  have hk := fun W h => spec_SideOf p1 n1 c1 xs W h
  cases gx : goodB xs
  · simp only [mSideStep_no gx] at hi hs
    have hm : mSideOf xs = ([], false) := by unfold mSideOf; rw [gx]; rfl
    simp only [hm] at hj hk
    have Hi := Lib.hid hi; clear hi
    have Hs := Lib.hid hs; clear hs
    have Hj := Lib.hid hj; clear hj
    have Hk := Lib.hid hk; clear hk
    go_wp2_with fail
    with_reducible refine (Hi.out _ ho1.at).mono ?_
    rintro e v2 ⟨pi, ni, ci, rfl, hoi, hb2⟩
    replace ho1 := ho1.keep hb2
    replace acc := belowTrans acc hb2 (Nat.le_refl _)
    clear hb2
    go_wp2_with fail
    with_reducible refine (Hs.out _ ho1.at).mono ?_
    rintro e v3 ⟨ps, ns, cs, rfl, hos, hb3⟩
    replace ho1 := ho1.keep hb3
    replace hoi := hoi.keep hb3
    replace acc := belowTrans acc hb3 (Nat.le_refl _)
    clear hb3
    go_wp2_with fail
    with_reducible refine (Hj.out _ ho1.at).mono ?_
    rintro e v4 ⟨pj, nj, cj, rfl, hoj, hb4⟩
    replace ho1 := ho1.keep hb4
    replace hoi := hoi.keep hb4
    replace hos := hos.keep hb4
    replace acc := belowTrans acc hb4 (Nat.le_refl _)
    clear hb4
    go_wp2_with fail
    with_reducible refine (Hk.out _ ho1.at).mono ?_
    rintro e v5 ⟨pk, nk, ck, rfl, hok, hb5⟩
    replace ho1 := ho1.keep hb5
    replace hoi := hoi.keep hb5
    replace hos := hos.keep hb5
    replace hoj := hoj.keep hb5
    replace acc := belowTrans acc hb5 (Nat.le_refl _)
    clear hb5
    have hc := pSame_any _ _ _ _ _ _ _ _ _ hoi.at hos.at
    rw [decide_eq_true rfl] at hc
    have Hc := Lib.hid hc; clear hc
    go_wp2_with fail
    with_reducible refine (Hc.out).mono ?_
    rintro e v6 ⟨rfl, hb6⟩
    replace ho1 := ho1.keep hb6
    replace hoi := hoi.keep hb6
    replace hos := hos.keep hb6
    replace hoj := hoj.keep hb6
    replace hok := hok.keep hb6
    replace acc := belowTrans acc hb6 (Nat.le_refl _)
    clear hb6
    clear Hc
    have hc := pSame_any _ _ _ _ _ _ _ _ _ hoj.at hok.at
    rw [decide_eq_true rfl] at hc
    have Hc := Lib.hid hc; clear hc
    go_wp2_with fail
    with_reducible refine (Hc.out).mono ?_
    rintro e v7 ⟨rfl, hb7⟩
    replace ho1 := ho1.keep hb7
    replace hoi := hoi.keep hb7
    replace hos := hos.keep hb7
    replace hoj := hoj.keep hb7
    replace hok := hok.keep hb7
    replace acc := belowTrans acc hb7 (Nat.le_refl _)
    clear hb7
    clear Hc
    clear hos
    clear hok
    clear Hi Hs Hj Hk
    go_wp2
    go_ret
    exact ⟨rfl, acc⟩
  have gX := good_iff.1 gx
  have hm : mSideOf xs = (sideL xs, true) := by unfold mSideOf; rw [gx]; rfl
  simp only [mSideStep_yes gx] at hi hs
  simp only [hm] at hj hk
  have gD := side_good gX
  have hb2 := fun a n c W h => impl_SideOf a n c (sideL xs) W h
  have hm2 : mSideOf (sideL xs) = (xs, true) := by unfold mSideOf; rw [good_iff.2 gD, if_pos rfl, side_side gX]
  simp only [hm2] at hb2
  have ht := fun a n c W h => impl_StepPiles a n c (sideL xs) W h
  simp only [mStep_yes (good_iff.2 gD)] at ht
  have hu := fun a n c W h => impl_SideOf a n c (stepL (sideL xs)) W h
  have hm3 : mSideOf (stepL (sideL xs)) = (sideStepL xs, true) := by unfold mSideOf; rw [good_iff.2 (stepL_good gD), if_pos rfl, sideStep_eq gX]
  simp only [hm3] at hu
  have hpx := fun W h => pSum_any p1 n1 c1 xs W h gX
  have hpd := fun a n c W h => pSum_any a n c (sideL xs) W h gD
  simp only [side_sum gX] at hpd
  generalize xs.sum = S at hpx hpd
  have hN : ∀ k, k < (sideStepL xs).length → (sideStepL xs).getD k 0 = xs.getD (k + 1) 0 + (if (k : Int) < xs.getD 0 0 then 1 else 0) := sideStep_at gX
  have hN0 : xs.length = 0 → (sideStepL xs).length = 0 := by
    intro h
    have : xs = [] := List.eq_nil_of_length_eq_zero h
    subst this; rfl
  have hb : ∀ k, k < xs.length → 1 ≤ xs.getD k 0 ∧ xs.getD k 0 ≤ 28 := fun k hk => gX.mem (getD_mem rfl hk rfl)
  generalize sideStepL xs = N at hi hs hu hN hN0
  generalize stepL (sideL xs) = St at ht hu
  generalize sideL xs = D at hj hk hb2 ht hpd
  clear hm hm2 hm3 gD
  have Hi := Lib.hid hi; clear hi
  have Hs := Lib.hid hs; clear hs
  have Hj := Lib.hid hj; clear hj
  have Hk := Lib.hid hk; clear hk
  have Hb2 := Lib.hid hb2; clear hb2
  have Ht := Lib.hid ht; clear ht
  have Hu := Lib.hid hu; clear hu
  have Hpx := Lib.hid hpx; clear hpx
  have Hpd := Lib.hid hpd; clear hpd
  go_wp2_with fail
  with_reducible refine (Hi.out _ ho1.at).mono ?_
  rintro e v2 ⟨pi, ni, ci, rfl, hoi, hb2⟩
  replace ho1 := ho1.keep hb2
  replace acc := belowTrans acc hb2 (Nat.le_refl _)
  clear hb2
  go_wp2_with fail
  with_reducible refine (Hs.out _ ho1.at).mono ?_
  rintro e v3 ⟨ps, ns, cs, rfl, hos, hb3⟩
  replace ho1 := ho1.keep hb3
  replace hoi := hoi.keep hb3
  replace acc := belowTrans acc hb3 (Nat.le_refl _)
  clear hb3
  go_wp2_with fail
  with_reducible refine (Hj.out _ ho1.at).mono ?_
  rintro e v4 ⟨pj, nj, cj, rfl, hoj, hb4⟩
  replace ho1 := ho1.keep hb4
  replace hoi := hoi.keep hb4
  replace hos := hos.keep hb4
  replace acc := belowTrans acc hb4 (Nat.le_refl _)
  clear hb4
  go_wp2_with fail
  with_reducible refine (Hk.out _ ho1.at).mono ?_
  rintro e v5 ⟨pk, nk, ck, rfl, hok, hb5⟩
  replace ho1 := ho1.keep hb5
  replace hoi := hoi.keep hb5
  replace hos := hos.keep hb5
  replace hoj := hoj.keep hb5
  replace acc := belowTrans acc hb5 (Nat.le_refl _)
  clear hb5
  have hc := pSame_any _ _ _ _ _ _ _ _ _ hoi.at hos.at
  rw [decide_eq_true rfl] at hc
  have Hc := Lib.hid hc; clear hc
  go_wp2_with fail
  with_reducible refine (Hc.out).mono ?_
  rintro e v6 ⟨rfl, hb6⟩
  replace ho1 := ho1.keep hb6
  replace hoi := hoi.keep hb6
  replace hos := hos.keep hb6
  replace hoj := hoj.keep hb6
  replace hok := hok.keep hb6
  replace acc := belowTrans acc hb6 (Nat.le_refl _)
  clear hb6
  clear Hc
  have hc := pSame_any _ _ _ _ _ _ _ _ _ hoj.at hok.at
  rw [decide_eq_true rfl] at hc
  have Hc := Lib.hid hc; clear hc
  go_wp2_with fail
  with_reducible refine (Hc.out).mono ?_
  rintro e v7 ⟨rfl, hb7⟩
  replace ho1 := ho1.keep hb7
  replace hoi := hoi.keep hb7
  replace hos := hos.keep hb7
  replace hoj := hoj.keep hb7
  replace hok := hok.keep hb7
  replace acc := belowTrans acc hb7 (Nat.le_refl _)
  clear hb7
  clear Hc
  clear hos
  clear hok
  clear Hi Hs Hj Hk
  go_wp2_with fail
  with_reducible refine (Hb2.out _ _ _ _ hoj.at).mono ?_
  rintro e v8 ⟨pb, nb, cb, rfl, hob, hb8⟩
  replace ho1 := ho1.keep hb8
  replace hoi := hoi.keep hb8
  replace hoj := hoj.keep hb8
  replace acc := belowTrans acc hb8 (Nat.le_refl _)
  clear hb8
  go_wp2_with fail
  with_reducible refine (Ht.out _ _ _ _ hoj.at).mono ?_
  rintro e v9 ⟨pt, nt, ct, rfl, hot, hb9⟩
  replace ho1 := ho1.keep hb9
  replace hoi := hoi.keep hb9
  replace hoj := hoj.keep hb9
  replace hob := hob.keep hb9
  replace acc := belowTrans acc hb9 (Nat.le_refl _)
  clear hb9
  go_wp2_with fail
  with_reducible refine (Hu.out _ _ _ _ hot.at).mono ?_
  rintro e v10 ⟨pu, nu, cu, rfl, hou, hb10⟩
  replace ho1 := ho1.keep hb10
  replace hoi := hoi.keep hb10
  replace hoj := hoj.keep hb10
  replace hob := hob.keep hb10
  replace hot := hot.keep hb10
  replace acc := belowTrans acc hb10 (Nat.le_refl _)
  clear hb10
  have hc := pSame_any _ _ _ _ _ _ _ _ _ hob.at ho1.at
  rw [decide_eq_true rfl] at hc
  have Hc := Lib.hid hc; clear hc
  go_wp2_with fail
  with_reducible refine (Hc.out).mono ?_
  rintro e v11 ⟨rfl, hb11⟩
  replace ho1 := ho1.keep hb11
  replace hoi := hoi.keep hb11
  replace hoj := hoj.keep hb11
  replace hob := hob.keep hb11
  replace hot := hot.keep hb11
  replace hou := hou.keep hb11
  replace acc := belowTrans acc hb11 (Nat.le_refl _)
  clear hb11
  clear Hc
  have hc := pSame_any _ _ _ _ _ _ _ _ _ hou.at hoi.at
  rw [decide_eq_true rfl] at hc
  have Hc := Lib.hid hc; clear hc
  go_wp2_with fail
  with_reducible refine (Hc.out).mono ?_
  rintro e v12 ⟨rfl, hb12⟩
  replace ho1 := ho1.keep hb12
  replace hoi := hoi.keep hb12
  replace hoj := hoj.keep hb12
  replace hob := hob.keep hb12
  replace hot := hot.keep hb12
  replace hou := hou.keep hb12
  replace acc := belowTrans acc hb12 (Nat.le_refl _)
  clear hb12
  clear Hc
  go_wp2_with fail
  with_reducible refine (Hpd.out _ _ _ _ hoj.at).mono ?_
  rintro e w' ⟨rfl, rfl⟩
  go_wp2_with fail
  with_reducible refine (Hpx.out _ ho1.at).mono ?_
  rintro e w' ⟨rfl, rfl⟩
  clear hob
  clear hot
  clear hou
  clear hoj
  clear Hb2 Ht Hu Hpx Hpd
  have hl1 := ho1.length
  have hlN := hoi.length
  have hn1 := ho1.at.lenInt
  have hnN := hoi.at.lenInt
  have hat1 := ho1.at
  have hatN := hoi.at
  clear ho1 hoi
  by_cases h0 : n1 = 0
  · have hz := hN0 (by omega)
    obtain rfl : ni = 0 := by omega
    subst h0
    clear hN hb
    go_wp2
    go_ret
    exact ⟨rfl, acc⟩
  clear hN0
  obtain ⟨b1, o1, rfl, hbl1, hc1⟩ := hat1.cell 0 (by omega)
  have hc0 := hc1 0 (by omega)
  have hb0 := hb 0 (by omega)
  generalize xs.getD 0 0 = m at hc0 hb0 hN
  rw [Nat.add_zero] at hc0
  have h1 : (0 : Int) < n1 := by omega
  have h1n : 0 < n1 := by omega
  have HN := Lib.hid hN; clear hN
  have Hb := Lib.hid hb; clear hb
  have Hc1 := Lib.hid hc1; clear hc1
  have Hgx := Lib.hid gX; clear gX
  have Hl1 := Lib.hid hl1; clear hl1
  have HlN := Lib.hid hlN; clear hlN
  clear gx hat1
  go_wp2
  go_loop [21] (fun i => ∃ k : Nat, k ≤ ni ∧ i = .int .i64 k) (fun i => ni - (intOf i).toNat)
  case atStart => exact ⟨0, Nat.zero_le _, rfl⟩
  case round =>
    obtain ⟨k, hk, rfl⟩ := hrel
    by_cases hlt : k < ni
    · obtain ⟨bn, on, rfl, hbln, hcn⟩ := hatN.cell k hlt
      have hckn := hcn k hlt
      have hv := HN.out k (by rw [HlN.out]; exact hlt)
      clear hcn
      have hk1 : (0 : Int) ≤ (k : Int) + 1 := by omega
      by_cases h2 : k + 1 < n1
      · have hck1 := Hc1.out (k + 1) h2
        have hby := Hb.out (k + 1) (by rw [Hl1.out]; exact h2)
        generalize xs.getD (k + 1) 0 = y at hv hck1 hby
        by_cases h3 : (k : Int) < m
        · rw [if_pos h3] at hv
          rw [hv] at hckn
          clear hv
          go_wp2
          go_round
          case rel => exact ⟨k + 1, by omega, by go_num⟩
          case measure => simp [intOf]; omega
        · rw [if_neg h3, Int.add_zero] at hv
          rw [hv] at hckn
          clear hv
          go_wp2
          go_round
          case rel => exact ⟨k + 1, by omega, by go_num⟩
          case measure => simp [intOf]; omega
      · have hy : xs.getD (k + 1) 0 = 0 := by
          rw [List.getD_eq_getElem?_getD, List.getElem?_eq_none (by rw [Hl1.out]; omega)]; rfl
        rw [hy] at hv
        clear hy
        by_cases h3 : (k : Int) < m
        · rw [if_pos h3] at hv
          rw [hv, show (0 : Int) + 1 = 1 from rfl] at hckn
          clear hv
          go_wp2
          go_round
          case rel => exact ⟨k + 1, by omega, by go_num⟩
          case measure => simp [intOf]; omega
        · rw [if_neg h3] at hv
          rw [hv, show (0 : Int) + 0 = 0 from rfl] at hckn
          clear hv
          go_wp2
          go_round
          case rel => exact ⟨k + 1, by omega, by go_num⟩
          case measure => simp [intOf]; omega
    · go_wp2
      go_ret
      exact ⟨rfl, acc⟩

/-! ### THE ROW's STEP: WRITTEN OUT: LEAVE IT -/
set_option maxRecDepth 100000 in
theorem lifted (os : Os) (started : os.Started) (H : Type) (enc : TypeId × Value → H) :
    ReturnsInHanded {} Try.checked os 5 .any (Rows.fnSidesOfPilesSpec.pre6 enc Try.prog Try.f5 Rows.fnSidesOfPilesRow.domain false) (Rows.fnSidesOfPilesSpec.post enc Try.prog Try.f5 false true false false) := by
  refine returnsInHanded_of_change (C := Try.checked) own started (by kernel_rfl) Try.func5
    (ChangeSpec.witness6 (enc := enc) (C := Try.checked) false ⟨#[], #[.slice none 0 0, .slice none 0 0], []⟩ 8 (by kernel_rfl) (by kernel_rfl) (by kernel_rfl) (by kernel_rfl)) ?_
  intro W base args ds gs before hval0 hW hcnd _
  have hval : ∀ (j : Nat) t v, Try.f5.params[j]? = some t → args[j]? = some v → Value.okWide Try.prog W .any base t v := hval0
  have hW' := hW
  obtain ⟨p, q, hA0, hV, rfl, hfz, hnd⟩ := hW
  have hA : DataW.TrodAll enc Try.prog W 0 (fun _ => true) true Try.f5.params.toList args.toList ds p := hA0
  rw [Try.params5] at hA hval
  obtain ⟨v0, vs0, d0, ds0, p0, q0, hargs, rfl, rfl, h0, r0⟩ := trodAll_cons hA
  obtain ⟨v1, vs1, d1, ds1, p1, q1, rfl, rfl, rfl, h1, r1⟩ := trodAll_cons r0
  obtain ⟨rfl, rfl, rfl⟩ := trodAll_nil r1
  obtain rfl : args = #[v0, v1] := by cases args; simp_all
  obtain ⟨rfl, rfl⟩ := trodVars_none hV
  obtain ⟨a0, len0, cap0, rfl⟩ := okWide_slice Try.underlying22 (hval 0 22 v0 rfl rfl)
  have k0 := h0
  have lt0 : ∀ x ∈ p0, x.block < W.heap.size := by obtain ⟨m, hm⟩ := k0; exact DataW.trod_lt m _ _ _ hm
  obtain ⟨z0, w0⟩ : ∃ zs, IsRow .u8 W a0 len0 cap0 zs := by
    obtain ⟨fuel, hf⟩ := h0
    rcases open_ints Try.underlying22 Try.underlying5 (by kernel_rfl) hf with ⟨hcs, _⟩ | ⟨x, l, c, zs, hcs, _, hl, hm, hz, _, hcell, hwz⟩
    · simp [Value.cells] at hcs
      obtain ⟨rfl, rfl, rfl⟩ := hcs
      exact ⟨[], .inl ⟨rfl, rfl, rfl, rfl⟩⟩
    · simp [Value.cells] at hcs
      obtain ⟨rfl, rfl, rfl⟩ := hcs
      exact ⟨zs, .inr ⟨_, rfl, hl, hm, by simpa using hz, hcell, hwz⟩⟩
  obtain ⟨a1, len1, cap1, rfl⟩ := okWide_slice Try.underlying22 (hval 1 22 v1 rfl rfl)
  have k1 := h1
  have lt1 : ∀ x ∈ p1, x.block < W.heap.size := by obtain ⟨m, hm⟩ := k1; exact DataW.trod_lt m _ _ _ hm
  obtain ⟨z1, w1⟩ : ∃ zs, IsRow .u8 W a1 len1 cap1 zs := by
    obtain ⟨fuel, hf⟩ := h1
    rcases open_ints Try.underlying22 Try.underlying5 (by kernel_rfl) hf with ⟨hcs, _⟩ | ⟨x, l, c, zs, hcs, _, hl, hm, hz, _, hcell, hwz⟩
    · simp [Value.cells] at hcs
      obtain ⟨rfl, rfl, rfl⟩ := hcs
      exact ⟨[], .inl ⟨rfl, rfl, rfl, rfl⟩⟩
    · simp [Value.cells] at hcs
      obtain ⟨rfl, rfl, rfl⟩ := hcs
      exact ⟨zs, .inr ⟨_, rfl, hl, hm, by simpa using hz, hcell, hwz⟩⟩
  clear hA0 hval0
  refine (walk a0 len0 cap0 z0 a1 len1 cap1 z1 W w0 w1).mono fun e W' ⟨he, bel⟩ => ?_
  subst he
  exact ⟨_, rfl, _, _, _, [], _, [], hW', trodAll_mk1 (shut_bool Try.underlying4 _), (trodAll_cons_mk (Below.trod laidOut (by kernel_rfl) (of_decide_eq_true (by kernel_rfl)) k0 bel lt0) (trodAll_cons_mk (Below.trod laidOut (by kernel_rfl) (of_decide_eq_true (by kernel_rfl)) k1 bel lt1) trodAll_mk0)), rfl, bel.frame _, fun h => by cases h⟩

theorem closedFacts : joinedFacts Try.prog 5 Try.f5 Rows.fnSidesOfPilesSpec Rows.fnSidesOfPilesRow = true := by
  unfold joinedFacts
  rw [head_enter, head_lifts, head_make]
  kernel_rfl
theorem closedHere : joinedFacts Try.pinned.checked.prog 5 Try.f5 Rows.fnSidesOfPilesSpec Rows.fnSidesOfPilesRow = true := by
  rw [progEq]
  exact closedFacts
theorem over : Rows.fnSidesOfPilesRow.holds Try.pinned (OpenSpec.ofChange Rows.fnSidesOfPilesSpec) :=
  OpenClaim.holds_of_wide 5 Try.f5 rfl rfl rfl rfl rfl rfl rfl ⟨rfl, rfl, rfl, rfl, rfl⟩ rfl rfl rfl rfl rfl (by kernel_rfl) Try.func5 closedHere
    (of_decide_eq_true (by kernel_rfl)) (by unfold Func.isWrapper; first | (rw [if_pos (by decide +kernel)]; kernel_rfl) | (rw [if_neg (by decide +kernel)]; exact ⟨rfl, rfl⟩))
    (fun os started H enc _ => lifted os started H enc)

/-- ████ THE STATEMENT ████ -/
theorem proved : Rows.FnSidesOfPilesSaid := over
#print axioms proved
end Go.Proofs.Ytkhphdohdnfplaa.fnSidesOfPiles
