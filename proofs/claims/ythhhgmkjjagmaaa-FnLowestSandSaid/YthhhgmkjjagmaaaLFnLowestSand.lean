/- FnLowestSand: for every input the law returns true and leaves its arguments as they were. No condition. -/
import Derived.Test.YthhhgmkjjagmaaaRows
import Derived.WalkKit
import Derived.ProofKit
import Derived.OpenShut
import Derived.ShutString
import Derived.ChangeOld
import Derived.Below
import Derived.Test.YthhhgmkjjagmaaaHead
import Derived.Test.YthhhgmkjjagmaaaLawp
import Derived.Test.YthhhgmkjjagmaaaLawq
import Derived.Test.YthhhgmkjjagmaaaSbD
import Derived.Test.YthhhgmkjjagmaaaGj
import Derived.Test.YthhhgmkjjagmaaaSaW
import Derived.Test.YthhhgmkjjagmaaaSaU
import Derived.Test.YthhhgmkjjagmaaaSaZ
import Derived.Test.YthhhgmkjjagmaaaSaY
namespace Go.Proofs.Ythhhgmkjjagmaaa.fnLowestSand
set_option linter.unusedSimpArgs false
open Go.ChangeShapes Go.WideShapes Go.ChangeAt Go.RowKit
open Go.ChangeMaps (open_string shut_string)
set_option linter.unusedVariables false

theorem own : ownKnob Try.prog.godebug = none := by kernel_rfl
theorem laidOut : laidOutB Try.prog = true := by kernel_rfl

/-- WHAT THE WALK IS TOLD OF A SLICE OF INTEGERS THAT CAME IN: it is nil; or it leads to a row of 'cap' cells, the numbers 'zs' (the first 'len' are its elements, the rest its spare room), each fitting its kind. -/
def IsRow (k : IntKind) (w : World) (a : Option Addr) (len cap : Nat) (zs : List Int) : Prop :=
  (a = none ∧ len = 0 ∧ cap = 0 ∧ zs = []) ∨
  ∃ x, a = some x ∧ len ≤ cap ∧ cap ≤ maxLen ∧ zs.length = cap ∧ (∀ i, i < zs.length → w.cell? (x.add i) = some (.int k (zs.getD i 0))) ∧ ∀ n ∈ zs, (Lit.int k n).wf = true

/-! ### THE WALK: the Go text returns true, AND WRITES NOTHING THAT WAS THERE: 'Below w.heap.size w w'' (Derived/Below.lean: '.refl', '.alloc', '.drew', '.setCell' at a new block, '.trans'). Open each 'IsRow' by 'rcases' AHEAD of 'go_enter'; part every test ahead of the walk. -/
set_option maxHeartbeats 4000000 in
set_option maxRecDepth 100000 in
theorem walk (a0 : Option Addr) (len0 cap0 : Nat) (z0 : List Int) (a1 : Option Addr) (len1 cap1 : Nat) (z1 : List Int) (w : World) (w0 : IsRow .u8 w a0 len0 cap0 z0) (w1 : IsRow .u8 w a1 len1 cap1 z1) :
    Calls Try.prog 6 #[.slice a0 len0 cap0, .slice a1 len1 cap1] w fun e w' => e = .returned (.bool true) ∧ Below w.heap.size w w' := by
  have by0 := byteIn_row w0
  have by1 := byteIn_row w1
  have hl0 : len0 ≤ maxLen := by
    rcases w0 with ⟨_, h, _⟩ | ⟨x, _, h, h', _⟩
    · rw [h]; exact Nat.zero_le _
    · exact Nat.le_trans h h'
  clear w0 w1
  by_cases hbig : 1048576 < len0 ∨ (1048576 : Int) - len0 < len1
  · have hb := big_yes a0 a1 len0 len1 cap0 cap1 w hbig hl0
    have Hb := Lib.hid hb; clear hb
    go_enter Try.func6, Try.ntmps6
    go_wp2_with fail
    with_reducible refine (Hb.out).mono ?_
    rintro e w' ⟨rfl, rfl⟩
    go_wp2
    go_ret
    exact ⟨rfl, Below.refl _ _⟩
  have hb := big_no a0 a1 len0 len1 cap0 cap1 w (by omega) (by omega)
  have hd := DrawLowestOf_any a0 len0 cap0 w (by omega) by0
  have Hb := Lib.hid hb; clear hb
  have Hd := Lib.hid hd; clear hd
  clear by0 by1 hl0 hbig
  have acc : Below w.heap.size w w := Below.refl _ _
  go_enter Try.func6, Try.ntmps6
  go_wp2_with fail
  with_reducible refine (Hb.out).mono ?_
  rintro e w' ⟨rfl, rfl⟩
  clear Hb
  go_wp2_with fail
  with_reducible refine (Hd.out).mono ?_
  rintro e v1 ⟨pa, na, ca, xs, pb, nb, cb, ys, rfl, hoa, hn1, hob, hn2, hb1⟩
  replace acc := belowTrans acc hb1 (Nat.le_refl _)
  clear hb1
  clear Hd hn1 hn2
  have hi := fun W h h' => impl_LowestOf pa na ca xs pb nb cb ys W h h'
  have hs := fun W h h' => spec_LowestOf pa na ca xs pb nb cb ys W h h'
  by_cases hlo : lowOk xs ys
  · skip
    obtain ⟨c, L, dr, hm, hca, hcb, hre, h400, hab, hdr, hsx, hall⟩ := low_law hlo
    simp only [hm] at hi hs
    have h1 := fun a n cc W h h' => impl_CanReach a n cc c pa na ca xs W h h'
    simp only [hca] at h1
    have h2 := fun a n cc W h h' => impl_CanReach a n cc c pb nb cb ys W h h'
    simp only [hcb] at h2
    have h3 := fun a n cc W h => impl_ReachSand a n cc [xs.sum] W h
    simp only [hre] at h3
    have h4 := fun W h h' => impl_CanReach pa na ca xs pb nb cb ys W h h'
    simp only [hab] at h4
    have h5 := fun W h => pSum_any pa na ca xs W h hsx.good
    have h6 := fun a n cc d W h h' => impl_CanReach a n cc d pa na ca xs W h h'
    have h7 := fun a n cc d W h h' => impl_CanReach a n cc d pb nb cb ys W h h'
    have h8 := fun a n cc d p m e W h h' => impl_CanReach a n cc d p m e c W h h'
    clear hm hca hcb hre hab hsx hlo
    generalize xs.sum = S at h3 h5
    have Hi := Lib.hid hi; clear hi
    have Hs := Lib.hid hs; clear hs
    have H1 := Lib.hid h1; clear h1
    have H2 := Lib.hid h2; clear h2
    have H3 := Lib.hid h3; clear h3
    have H4 := Lib.hid h4; clear h4
    have H5 := Lib.hid h5; clear h5
    have H6 := Lib.hid h6; clear h6
    have H7 := Lib.hid h7; clear h7
    have H8 := Lib.hid h8; clear h8
    have Hdr := Lib.hid hdr; clear hdr
    have Hall := Lib.hid hall; clear hall
    go_wp2_with fail
    with_reducible refine (Hi.out _ hoa.at hob.at).mono ?_
    rintro e v2 ⟨pi, ni, ci, rfl, hoi, hb2⟩
    replace hoa := hoa.keep hb2
    replace hob := hob.keep hb2
    replace acc := belowTrans acc hb2 (Nat.le_refl _)
    clear hb2
    go_wp2_with fail
    with_reducible refine (Hs.out _ hoa.at hob.at).mono ?_
    rintro e v3 ⟨ps, ns, cs, rfl, hos, hb3⟩
    replace hoa := hoa.keep hb3
    replace hob := hob.keep hb3
    replace hoi := hoi.keep hb3
    replace acc := belowTrans acc hb3 (Nat.le_refl _)
    clear hb3
    have hc := pSame_any _ _ _ _ _ _ _ _ _ hoi.at hos.at
    rw [decide_eq_true rfl] at hc
    have Hc := Lib.hid hc; clear hc
    go_wp2_with fail
    with_reducible refine (Hc.out).mono ?_
    rintro e v4 ⟨rfl, hb4⟩
    replace hoa := hoa.keep hb4
    replace hob := hob.keep hb4
    replace hoi := hoi.keep hb4
    replace hos := hos.keep hb4
    replace acc := belowTrans acc hb4 (Nat.le_refl _)
    clear hb4
    clear Hc
    clear hos
    clear Hi Hs
    go_wp2_with fail
    with_reducible refine (H1.out _ _ _ _ hoi.at hoa.at).mono ?_
    rintro e v5 ⟨rfl, hb5⟩
    replace hoa := hoa.keep hb5
    replace hob := hob.keep hb5
    replace hoi := hoi.keep hb5
    replace acc := belowTrans acc hb5 (Nat.le_refl _)
    clear hb5
    go_wp2_with fail
    with_reducible refine (H2.out _ _ _ _ hoi.at hob.at).mono ?_
    rintro e v6 ⟨rfl, hb6⟩
    replace hoa := hoa.keep hb6
    replace hob := hob.keep hb6
    replace hoi := hoi.keep hb6
    replace acc := belowTrans acc hb6 (Nat.le_refl _)
    clear hb6
    go_wp2_with fail
    with_reducible refine (H5.out _ hoa.at).mono ?_
    rintro e w' ⟨rfl, rfl⟩
    have hal := belowAlloc v6 (.cells #[.int .i64 S] 3)
    have hcx := H3.out _ _ _ _ (ownInt_one v6 S).at
    have hoi2 := hoi.keep hal
    have hoa2 := hoa.keep hal
    have hob2 := hob.keep hal
    have acc2 := belowTrans acc hal (Nat.le_refl _)
    clear hal hoi hoa hob acc H1 H2 H3 H5
    have acc := acc2
    clear acc2
    have Hcx := Lib.hid hcx; clear hcx
    go_wp2_with fail
    with_reducible refine (Hcx.out).mono ?_
    rintro e v7 ⟨pl, nl, cl, rfl, hol, hb7⟩
    replace hoi2 := hoi2.keep hb7
    replace hoa2 := hoa2.keep hb7
    replace hob2 := hob2.keep hb7
    replace acc := belowTrans acc hb7 (Nat.le_refl _)
    clear hb7
    have hlL := hol.length
    rw [hlL] at h400
    have hnl8 : (nl : Int) ≤ 400 := by omega
    have HLL := Lib.hid hlL; clear hlL Hcx
    have hrows := hol.at
    clear hol
    go_wp2_with fail
    with_reducible refine (H4.out _ hoa2.at hob2.at).mono ?_
    rintro e v8 ⟨rfl, hb8⟩
    replace hoi2 := hoi2.keep hb8
    replace hoa2 := hoa2.keep hb8
    replace hob2 := hob2.keep hb8
    replace hrows := hrows.keep hb8
    replace acc := belowTrans acc hb8 (Nat.le_refl _)
    clear hb8
    clear H4
    cases dr
    · skip
      by_cases h70 : (70 : Int) < (nl : Int)
      · skip
        go_wp2
        go_ret
        exact ⟨rfl, acc⟩
      · skip
        obtain ⟨wo, hwo⟩ : ∃ wo : World, wo = v8 := ⟨_, rfl⟩
        subst hwo
        go_wp2_with fail
        go_loopw [117] (fun i wr => ∃ j : Nat, j ≤ nl ∧ i = .int .i64 j ∧ Below w.heap.size w wr ∧ Below wo.heap.size wo wr) (fun i _ => nl - (intOf i).toNat)
        case atStart => exact ⟨0, Nat.zero_le _, rfl, acc, Below.refl _ _⟩
        case round =>
          obtain ⟨j, hj, rfl, hbw, hbo⟩ := hrel
          by_cases hlt : j < nl
          · skip
            replace hoi2 := hoi2.keep hbo
            replace hoa2 := hoa2.keep hbo
            replace hob2 := hob2.keep hbo
            replace hrows := hrows.keep hbo
            obtain ⟨b2, o2, e_, _, hc_⟩ := hrows.cell j hlt
            cases e_
            obtain ⟨a2_, m2, d2, hcell, hat⟩ := hc_ j hlt
            clear hc_
            obtain ⟨u, v, t, hu, hv, ht, huv⟩ := Hall.out j (by rw [HLL.out]; exact hlt)
            have g1 := fun W h h' => H6.out a2_ m2 d2 (L.getD j []) W h h'
            simp only [hu] at g1
            have g2 := fun W h h' => H7.out a2_ m2 d2 (L.getD j []) W h h'
            simp only [hv] at g2
            have g3 := fun p m e W h h' => H8.out a2_ m2 d2 (L.getD j []) p m e W h h'
            simp only [ht] at g3
            clear hu hv ht
            have G1 := Lib.hid g1; clear g1
            have G2 := Lib.hid g2; clear g2
            have G3 := Lib.hid g3; clear g3
            have Huv := Lib.hid huv; clear huv
            go_wp2_with fail
            with_reducible refine (G1.out _ hat hoa2.at).mono ?_
            rintro e v9 ⟨rfl, hb9⟩
            replace hoi2 := hoi2.keep hb9
            replace hoa2 := hoa2.keep hb9
            replace hob2 := hob2.keep hb9
            replace hrows := hrows.keep hb9
            replace hat := hat.keep hb9
            replace hbw := belowTrans hbw hb9 (Nat.le_refl _)
            replace hbo := belowTrans hbo hb9 (Nat.le_refl _)
            clear hb9
            clear hcell
            go_wp2_with fail
            with_reducible refine (G2.out _ hat hob2.at).mono ?_
            rintro e v10 ⟨rfl, hb10⟩
            replace hoi2 := hoi2.keep hb10
            replace hoa2 := hoa2.keep hb10
            replace hob2 := hob2.keep hb10
            replace hrows := hrows.keep hb10
            replace hat := hat.keep hb10
            replace hbw := belowTrans hbw hb10 (Nat.le_refl _)
            replace hbo := belowTrans hbo hb10 (Nat.le_refl _)
            clear hb10
            go_wp2_with fail
            with_reducible refine (G3.out _ _ _ _ hat hoi2.at).mono ?_
            rintro e v11 ⟨rfl, hb11⟩
            replace hoi2 := hoi2.keep hb11
            replace hoa2 := hoa2.keep hb11
            replace hob2 := hob2.keep hb11
            replace hrows := hrows.keep hb11
            replace hat := hat.keep hb11
            replace hbw := belowTrans hbw hb11 (Nat.le_refl _)
            replace hbo := belowTrans hbo hb11 (Nat.le_refl _)
            clear hb11
            clear G1 G2 G3
            cases u
            · skip
              go_wp2
              go_roundw
              case rel => exact ⟨j + 1, by omega, by go_num, hbw, hbo⟩
              case measure => simp [intOf] <;> omega
            · cases v
              · skip
                go_wp2
                go_roundw
                case rel => exact ⟨j + 1, by omega, by go_num, hbw, hbo⟩
                case measure => simp [intOf] <;> omega
              · obtain rfl : t = true := Huv.out rfl rfl
                go_wp2
                go_roundw
                case rel => exact ⟨j + 1, by omega, by go_num, hbw, hbo⟩
                case measure => simp [intOf] <;> omega
          · go_wp2
            go_ret
            exact ⟨rfl, hbw⟩
    · skip
      have hce := Hdr.out rfl
      have hc := pSame_any _ _ _ _ _ _ _ _ _ hoi2.at hoa2.at
      rw [decide_eq_true hce] at hc
      have Hc := Lib.hid hc; clear hc
      go_wp2_with fail
      with_reducible refine (Hc.out).mono ?_
      rintro e v9 ⟨rfl, hb9⟩
      replace hoi2 := hoi2.keep hb9
      replace hoa2 := hoa2.keep hb9
      replace hob2 := hob2.keep hb9
      replace hrows := hrows.keep hb9
      replace acc := belowTrans acc hb9 (Nat.le_refl _)
      clear hb9
      clear Hc
      clear hce
      by_cases h70 : (70 : Int) < (nl : Int)
      · skip
        go_wp2
        go_ret
        exact ⟨rfl, acc⟩
      · skip
        obtain ⟨wo, hwo⟩ : ∃ wo : World, wo = v9 := ⟨_, rfl⟩
        subst hwo
        go_wp2_with fail
        go_loopw [117] (fun i wr => ∃ j : Nat, j ≤ nl ∧ i = .int .i64 j ∧ Below w.heap.size w wr ∧ Below wo.heap.size wo wr) (fun i _ => nl - (intOf i).toNat)
        case atStart => exact ⟨0, Nat.zero_le _, rfl, acc, Below.refl _ _⟩
        case round =>
          obtain ⟨j, hj, rfl, hbw, hbo⟩ := hrel
          by_cases hlt : j < nl
          · skip
            replace hoi2 := hoi2.keep hbo
            replace hoa2 := hoa2.keep hbo
            replace hob2 := hob2.keep hbo
            replace hrows := hrows.keep hbo
            obtain ⟨b2, o2, e_, _, hc_⟩ := hrows.cell j hlt
            cases e_
            obtain ⟨a2_, m2, d2, hcell, hat⟩ := hc_ j hlt
            clear hc_
            obtain ⟨u, v, t, hu, hv, ht, huv⟩ := Hall.out j (by rw [HLL.out]; exact hlt)
            have g1 := fun W h h' => H6.out a2_ m2 d2 (L.getD j []) W h h'
            simp only [hu] at g1
            have g2 := fun W h h' => H7.out a2_ m2 d2 (L.getD j []) W h h'
            simp only [hv] at g2
            have g3 := fun p m e W h h' => H8.out a2_ m2 d2 (L.getD j []) p m e W h h'
            simp only [ht] at g3
            clear hu hv ht
            have G1 := Lib.hid g1; clear g1
            have G2 := Lib.hid g2; clear g2
            have G3 := Lib.hid g3; clear g3
            have Huv := Lib.hid huv; clear huv
            go_wp2_with fail
            with_reducible refine (G1.out _ hat hoa2.at).mono ?_
            rintro e v10 ⟨rfl, hb10⟩
            replace hoi2 := hoi2.keep hb10
            replace hoa2 := hoa2.keep hb10
            replace hob2 := hob2.keep hb10
            replace hrows := hrows.keep hb10
            replace hat := hat.keep hb10
            replace hbw := belowTrans hbw hb10 (Nat.le_refl _)
            replace hbo := belowTrans hbo hb10 (Nat.le_refl _)
            clear hb10
            clear hcell
            go_wp2_with fail
            with_reducible refine (G2.out _ hat hob2.at).mono ?_
            rintro e v11 ⟨rfl, hb11⟩
            replace hoi2 := hoi2.keep hb11
            replace hoa2 := hoa2.keep hb11
            replace hob2 := hob2.keep hb11
            replace hrows := hrows.keep hb11
            replace hat := hat.keep hb11
            replace hbw := belowTrans hbw hb11 (Nat.le_refl _)
            replace hbo := belowTrans hbo hb11 (Nat.le_refl _)
            clear hb11
            go_wp2_with fail
            with_reducible refine (G3.out _ _ _ _ hat hoi2.at).mono ?_
            rintro e v12 ⟨rfl, hb12⟩
            replace hoi2 := hoi2.keep hb12
            replace hoa2 := hoa2.keep hb12
            replace hob2 := hob2.keep hb12
            replace hrows := hrows.keep hb12
            replace hat := hat.keep hb12
            replace hbw := belowTrans hbw hb12 (Nat.le_refl _)
            replace hbo := belowTrans hbo hb12 (Nat.le_refl _)
            clear hb12
            clear G1 G2 G3
            cases u
            · skip
              go_wp2
              go_roundw
              case rel => exact ⟨j + 1, by omega, by go_num, hbw, hbo⟩
              case measure => simp [intOf] <;> omega
            · cases v
              · skip
                go_wp2
                go_roundw
                case rel => exact ⟨j + 1, by omega, by go_num, hbw, hbo⟩
                case measure => simp [intOf] <;> omega
              · obtain rfl : t = true := Huv.out rfl rfl
                go_wp2
                go_roundw
                case rel => exact ⟨j + 1, by omega, by go_num, hbw, hbo⟩
                case measure => simp [intOf] <;> omega
          · go_wp2
            go_ret
            exact ⟨rfl, hbw⟩
  · simp only [mLow_no hlo] at hi hs
    clear hlo
    have Hi := Lib.hid hi; clear hi
    have Hs := Lib.hid hs; clear hs
    go_wp2_with fail
    with_reducible refine (Hi.out _ hoa.at hob.at).mono ?_
    rintro e v2 ⟨pi, ni, ci, rfl, hoi, hb2⟩
    replace hoa := hoa.keep hb2
    replace hob := hob.keep hb2
    replace acc := belowTrans acc hb2 (Nat.le_refl _)
    clear hb2
    go_wp2_with fail
    with_reducible refine (Hs.out _ hoa.at hob.at).mono ?_
    rintro e v3 ⟨ps, ns, cs, rfl, hos, hb3⟩
    replace hoa := hoa.keep hb3
    replace hob := hob.keep hb3
    replace hoi := hoi.keep hb3
    replace acc := belowTrans acc hb3 (Nat.le_refl _)
    clear hb3
    have hc := pSame_any _ _ _ _ _ _ _ _ _ hoi.at hos.at
    rw [decide_eq_true rfl] at hc
    have Hc := Lib.hid hc; clear hc
    go_wp2_with fail
    with_reducible refine (Hc.out).mono ?_
    rintro e v4 ⟨rfl, hb4⟩
    replace hoa := hoa.keep hb4
    replace hob := hob.keep hb4
    replace hoi := hoi.keep hb4
    replace hos := hos.keep hb4
    replace acc := belowTrans acc hb4 (Nat.le_refl _)
    clear hb4
    clear Hc
    clear hos
    clear Hi Hs
    go_wp2
    go_ret
    exact ⟨rfl, acc⟩

/-! ### THE ROW's STEP: WRITTEN OUT: LEAVE IT -/
set_option maxRecDepth 100000 in
theorem lifted (os : Os) (started : os.Started) (H : Type) (enc : TypeId × Value → H) :
    ReturnsInHanded {} Try.checked os 6 .any (Rows.fnLowestSandSpec.pre6 enc Try.prog Try.f6 Rows.fnLowestSandRow.domain false) (Rows.fnLowestSandSpec.post enc Try.prog Try.f6 false true false false) := by
  refine returnsInHanded_of_change (C := Try.checked) own started (by kernel_rfl) Try.func6
    (ChangeSpec.witness6 (enc := enc) (C := Try.checked) false ⟨#[], #[.slice none 0 0, .slice none 0 0], []⟩ 8 (by kernel_rfl) (by kernel_rfl) (by kernel_rfl) (by kernel_rfl)) ?_
  intro W base args ds gs before hval0 hW hcnd _
  have hval : ∀ (j : Nat) t v, Try.f6.params[j]? = some t → args[j]? = some v → Value.okWide Try.prog W .any base t v := hval0
  have hW' := hW
  obtain ⟨p, q, hA0, hV, rfl, hfz, hnd⟩ := hW
  have hA : DataW.TrodAll enc Try.prog W 0 (fun _ => true) true Try.f6.params.toList args.toList ds p := hA0
  rw [Try.params6] at hA hval
  obtain ⟨v0, vs0, d0, ds0, p0, q0, hargs, rfl, rfl, h0, r0⟩ := trodAll_cons hA
  obtain ⟨v1, vs1, d1, ds1, p1, q1, rfl, rfl, rfl, h1, r1⟩ := trodAll_cons r0
  obtain ⟨rfl, rfl, rfl⟩ := trodAll_nil r1
  obtain rfl : args = #[v0, v1] := by cases args; simp_all
  obtain ⟨rfl, rfl⟩ := trodVars_none hV
  obtain ⟨a0, len0, cap0, rfl⟩ := okWide_slice Try.underlying22 (hval 0 22 v0 rfl rfl)
  have k0 := h0
  have lt0 : ∀ x ∈ p0, x.block < W.heap.size := by obtain ⟨m, hm⟩ := k0; exact DataW.trod_lt m _ _ _ hm
  obtain ⟨z0, w0⟩ : ∃ zs, IsRow .u8 W a0 len0 cap0 zs := by
    obtain ⟨fuel, hf⟩ := h0
    rcases open_ints Try.underlying22 Try.underlying5 (by kernel_rfl) hf with ⟨hcs, _⟩ | ⟨x, l, c, zs, hcs, _, hl, hm, hz, _, hcell, hwz⟩
    · simp [Value.cells] at hcs
      obtain ⟨rfl, rfl, rfl⟩ := hcs
      exact ⟨[], .inl ⟨rfl, rfl, rfl, rfl⟩⟩
    · simp [Value.cells] at hcs
      obtain ⟨rfl, rfl, rfl⟩ := hcs
      exact ⟨zs, .inr ⟨_, rfl, hl, hm, by simpa using hz, hcell, hwz⟩⟩
  obtain ⟨a1, len1, cap1, rfl⟩ := okWide_slice Try.underlying22 (hval 1 22 v1 rfl rfl)
  have k1 := h1
  have lt1 : ∀ x ∈ p1, x.block < W.heap.size := by obtain ⟨m, hm⟩ := k1; exact DataW.trod_lt m _ _ _ hm
  obtain ⟨z1, w1⟩ : ∃ zs, IsRow .u8 W a1 len1 cap1 zs := by
    obtain ⟨fuel, hf⟩ := h1
    rcases open_ints Try.underlying22 Try.underlying5 (by kernel_rfl) hf with ⟨hcs, _⟩ | ⟨x, l, c, zs, hcs, _, hl, hm, hz, _, hcell, hwz⟩
    · simp [Value.cells] at hcs
      obtain ⟨rfl, rfl, rfl⟩ := hcs
      exact ⟨[], .inl ⟨rfl, rfl, rfl, rfl⟩⟩
    · simp [Value.cells] at hcs
      obtain ⟨rfl, rfl, rfl⟩ := hcs
      exact ⟨zs, .inr ⟨_, rfl, hl, hm, by simpa using hz, hcell, hwz⟩⟩
  clear hA0 hval0
  refine (walk a0 len0 cap0 z0 a1 len1 cap1 z1 W w0 w1).mono fun e W' ⟨he, bel⟩ => ?_
  subst he
  exact ⟨_, rfl, _, _, _, [], _, [], hW', trodAll_mk1 (shut_bool Try.underlying4 _), (trodAll_cons_mk (Below.trod laidOut (by kernel_rfl) (of_decide_eq_true (by kernel_rfl)) k0 bel lt0) (trodAll_cons_mk (Below.trod laidOut (by kernel_rfl) (of_decide_eq_true (by kernel_rfl)) k1 bel lt1) trodAll_mk0)), rfl, bel.frame _, fun h => by cases h⟩

theorem closedFacts : joinedFacts Try.prog 6 Try.f6 Rows.fnLowestSandSpec Rows.fnLowestSandRow = true := by
  unfold joinedFacts
  rw [head_enter, head_lifts, head_make]
  kernel_rfl
theorem closedHere : joinedFacts Try.pinned.checked.prog 6 Try.f6 Rows.fnLowestSandSpec Rows.fnLowestSandRow = true := by
  rw [progEq]
  exact closedFacts
theorem over : Rows.fnLowestSandRow.holds Try.pinned (OpenSpec.ofChange Rows.fnLowestSandSpec) :=
  OpenClaim.holds_of_wide 6 Try.f6 rfl rfl rfl rfl rfl rfl rfl ⟨rfl, rfl, rfl, rfl, rfl⟩ rfl rfl rfl rfl rfl (by kernel_rfl) Try.func6 closedHere
    (of_decide_eq_true (by kernel_rfl)) (by unfold Func.isWrapper; first | (rw [if_pos (by decide +kernel)]; kernel_rfl) | (rw [if_neg (by decide +kernel)]; exact ⟨rfl, rfl⟩))
    (fun os started H enc _ => lifted os started H enc)

/-- ████ THE STATEMENT ████ -/
theorem proved : Rows.FnLowestSandSaid := over
#print axioms proved
end Go.Proofs.Ythhhgmkjjagmaaa.fnLowestSand
