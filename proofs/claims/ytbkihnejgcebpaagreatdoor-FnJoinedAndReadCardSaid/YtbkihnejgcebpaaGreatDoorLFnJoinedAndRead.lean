/- FnJoinedAndRead: for every input the law returns true and leaves its arguments as they were. No condition. -/
import Derived.Test.YtbkihnejgcebpaaGreatDoorRows
import Derived.Test.YtbkihnejgcebpaaGreatDoorCards
import Derived.Test.YtbkihnejgcebpaaGreatDoorTie
import Derived.LaidMore
import Derived.Lay
import Derived.LaidOnce
import Derived.MakeChecks
import Derived.Stop.LaidErr
import Derived.Stop.Joined
import Derived.SevenTiedAt
import Derived.WalkKit
import Derived.ProofKit
import Derived.OpenShut
import Derived.ShutString
import Derived.ChangeOld
import Derived.Below
import Derived.Test.YtbkihnejgcebpaaGreatDoorHead
import Derived.Test.YtbkihnejgcebpaaGreatDoorLawp
import Derived.Test.YtbkihnejgcebpaaGreatDoorDsB
import Derived.Test.YtbkihnejgcebpaaGreatDoorJrM
import Derived.Test.YtbkihnejgcebpaaGreatDoorParseI
import Derived.Test.YtbkihnejgcebpaaGreatDoorPileF
import Derived.Test.YtbkihnejgcebpaaGreatDoorExA
import Derived.Test.YtbkihnejgcebpaaGreatDoorJoin
import Derived.Test.YtbkihnejgcebpaaGreatDoorHelp
namespace Go.Proofs.YtbkihnejgcebpaaGreatDoor.fnJoinedAndRead
set_option linter.unusedSimpArgs false
open Go.ChangeShapes Go.WideShapes Go.ChangeAt Go.RowKit
open Go.ChangeMaps (open_string shut_string)
set_option linter.unusedVariables false

theorem own : ownKnob Tryz.prog.godebug = none := by kernel_rfl
theorem laidOut : laidOutB Tryz.prog = true := by kernel_rfl

/-- WHAT THE WALK IS TOLD OF A SLICE OF INTEGERS THAT CAME IN: it is nil; or it leads to a row of 'cap' cells, the numbers 'zs' (the first 'len' are its elements, the rest its spare room), each fitting its kind. -/
def IsRow (k : IntKind) (w : World) (a : Option Addr) (len cap : Nat) (zs : List Int) : Prop :=
  (a = none ∧ len = 0 ∧ cap = 0 ∧ zs = []) ∨
  ∃ x, a = some x ∧ len ≤ cap ∧ cap ≤ maxLen ∧ zs.length = cap ∧ (∀ i, i < zs.length → w.cell? (x.add i) = some (.int k (zs.getD i 0))) ∧ ∀ n ∈ zs, (Lit.int k n).wf = true

/-! ### What the library's variables hold -/
theorem cellsStruct : Tryz.prog.cellsOf 204 = 1 := by kernel_rfl
theorem cellsString : Tryz.prog.cellsOf 9 = 1 := by kernel_rfl
theorem star : "*" ++ "errors.errorString" = "*errors.errorString" := by decide
theorem rowOf (u : TypeId) (h : Tryz.prog.typeName? 3 u = some "*errors.errorString") : u = 202 :=
  typeName_ptr_named (nm := "errors.errorString") (by rw [star]; kernel_rfl) (by kernel_rfl) (by decide) u (by rw [star]; exact h)
theorem libOk_of {W : World} (hL : laidMetH Tryz.prog Rows.fnJoinedAndReadRow.laid W) (hsh : W.ShapedOpen Tryz.prog) : LibOk W := by
  rw [MakeChecks.laidMetH_plain _ _ _ (by kernel_rfl)] at hL
  have hL4 := hL.tail.tail.tail.tail
  obtain ⟨a0, s0, hv0, -, -, -⟩ := laid_sentinel hL4 (show Tryz.prog.globalNamed "strconv.ErrRange" = some 2 by kernel_rfl) (show (Tryz.prog.globals[2]?).map (·.type) = some 113 by kernel_rfl) Tryz.underlying113 rowOf Tryz.underlying202 Tryz.underlying204 rfl rfl Tryz.underlying9 cellsStruct cellsString
  obtain ⟨a1, s1, hv1, -, -, -⟩ := laid_sentinel hL4.tail (show Tryz.prog.globalNamed "strconv.ErrSyntax" = some 1 by kernel_rfl) (show (Tryz.prog.globals[1]?).map (·.type) = some 113 by kernel_rfl) Tryz.underlying113 rowOf Tryz.underlying202 Tryz.underlying204 rfl rfl Tryz.underlying9 cellsStruct cellsString
  have htab : Lib.TabIs Tryz.prog W "internal/strconv.uint64pow10" .u64 Lib.pow10Tab := Lib.tabIs_of_head (show Tryz.prog.globalNamed "internal/strconv.uint64pow10" = some 3 by kernel_rfl) (show (Tryz.prog.globals[3]?).map (·.type) = some 206 by kernel_rfl) Tryz.underlying206 Tryz.underlying60 (by kernel_rfl) (by kernel_rfl) hL.tail.tail
  exact ⟨hsh, ⟨_, _, hv1⟩, ⟨_, _, hv0⟩, htab⟩

/-! ### THE WALK: the Go text returns true, AND WRITES NOTHING THAT WAS THERE: 'Below w.heap.size w w'' (Derived/Below.lean: '.refl', '.alloc', '.drew', '.setCell' at a new block, '.trans'). Open each 'IsRow' by 'rcases' AHEAD of 'go_enter'; part every test ahead of the walk. -/
set_option maxHeartbeats 4000000 in
set_option maxRecDepth 100000 in
theorem walk (a0 : Option Addr) (len0 cap0 : Nat) (z0 : List Int) (a1 : Option Addr) (len1 cap1 : Nat) (z1 : List Int) (w : World) (w0 : IsRow .u8 w a0 len0 cap0 z0) (w1 : IsRow .u8 w a1 len1 cap1 z1) (hL : LibOk w) :
    Calls Tryz.prog 3 #[.slice a0 len0 cap0, .slice a1 len1 cap1] w fun e w' => e = .returned (.bool true) ∧ Below w.heap.size w w' := by
  have by0 := byteIn_row w0
  have by1 := byteIn_row w1
  have hl0 : len0 ≤ maxLen := by
    rcases w0 with ⟨_, h, _⟩ | ⟨x, _, h, h', _⟩
    · rw [h]; exact Nat.zero_le _
    · exact Nat.le_trans h h'
  clear w0 w1
  by_cases hbig : 1048576 < len0 ∨ (1048576 : Int) - len0 < len1
  · have hb := big_yes a0 a1 len0 len1 cap0 cap1 w hbig hl0
    have Hb := Lib.hid hb; clear hb
    go_enter Tryz.func3, Tryz.ntmps3
    go_wp2_with fail
    with_reducible refine (Hb.out).mono ?_
    rintro e w' ⟨rfl, rfl⟩
    go_wp2
    go_ret
    exact ⟨rfl, Below.refl _ _⟩
  have hb := big_no a0 a1 len0 len1 cap0 cap1 w (by omega) (by omega)
  have hd := DrawJoinPiles_any a0 len0 cap0 w (by omega) by0
  have hf := fun W (h : Below w.heap.size w W) => DrawParsePiles_any a1 len1 cap1 W (by omega) (by1.up (Nat.le_refl _) h h.size)
  have Hb := Lib.hid hb; clear hb
  have Hd := Lib.hid hd; clear hd
  have Hf := Lib.hid hf; clear hf
  clear by0 by1 hl0 hbig
  have acc : Below w.heap.size w w := Below.refl _ _
  go_enter Tryz.func3, Tryz.ntmps3
  go_wp2_with fail
  with_reducible refine (Hb.out).mono ?_
  rintro e w' ⟨rfl, rfl⟩
  clear Hb
  go_wp2_with fail
  with_reducible refine (Hd.out).mono ?_
  rintro e v1 ⟨p1, n1, c1, xs, p2, n2, c2, ys, rfl, ho1, ho2, hnx, hny, hb1⟩
  replace acc := belowTrans acc hb1 (Nat.le_refl _)
  clear hb1
  clear Hd hnx hny
  have hi := fun W h k => impl_JoinPiles p1 n1 c1 xs p2 n2 c2 ys W h k
  have hs := fun W h k => spec_JoinPiles p1 n1 c1 xs p2 n2 c2 ys W h k
  by_cases hj : JoinOk xs ys
  · skip
    simp only [mJoin_yes hj] at hi hs
    have gz := join_good hj
    have gx := good_iff.1 hj.1
    have gy := good_iff.1 hj.2.1
    have hlz := join_length xs ys
    have hsj := side_join hj
    have hsx := side_all gx
    have hsy := side_all gy
    have hlx := gx.len
    have hly := gy.len
    have hlx0 := ho1.length
    have hly0 := ho2.length
    have hax := fun i : Nat => above_le xs i
    have hay := fun i : Nat => above_le ys i
    have m1 : mSideOf xs = (sideL xs, true) := by unfold mSideOf; rw [hj.1]; rfl
    have m2 : mSideOf ys = (sideL ys, true) := by unfold mSideOf; rw [hj.2.1]; rfl
    have m3 : mSideOf (sortD (xs ++ ys)) = (sideL (sortD (xs ++ ys)), true) := by unfold mSideOf; rw [good_iff.2 gz]; rfl
    have hpz := parse_text gz
    have htz := mText_yes (good_iff.2 gz)
    have hgz := good_iff.2 gz
    have htl := textL_small gz.len (fun x hx => (gz.mem hx).2)
    generalize sortD (xs ++ ys) = Z at *
    clear hj
    have hXb : ∀ i, 0 ≤ (sideL xs).getD i 0 ∧ (sideL xs).getD i 0 ≤ 28 := fun i => by rw [hsx]; have := hax i; omega
    have hYb : ∀ i, 0 ≤ (sideL ys).getD i 0 ∧ (sideL ys).getD i 0 ≤ 28 := fun i => by rw [hsy]; have := hay i; omega
    clear hsx hsy hax hay gz gx gy
    generalize sideL xs = SX at *
    generalize sideL ys = SY at *
    generalize sideL Z = SZ at *
    have Hlz := Lib.hid hlz; clear hlz
    have Hsj := Lib.hid hsj; clear hsj
    have HXb := Lib.hid hXb; clear hXb
    have HYb := Lib.hid hYb; clear hYb
    have M1 := Lib.hid m1; clear m1
    have M2 := Lib.hid m2; clear m2
    have M3 := Lib.hid m3; clear m3
    have Hpz := Lib.hid hpz; clear hpz
    have Htz := Lib.hid htz; clear htz
    have Hgz := Lib.hid hgz; clear hgz
    have Htl := Lib.hid htl; clear htl
    have Hlx := Lib.hid hlx; clear hlx
    have Hly := Lib.hid hly; clear hly
    have Hlx0 := Lib.hid hlx0; clear hlx0
    have Hly0 := Lib.hid hly0; clear hly0
    have Hi := Lib.hid hi; clear hi
    have Hs := Lib.hid hs; clear hs
    go_wp2_with fail
    with_reducible refine (Hi.out _ ho1.at ho2.at).mono ?_
    rintro e v2 ⟨pz, nz, cz, rfl, hoz, hb2⟩
    replace ho1 := ho1.keep hb2
    replace ho2 := ho2.keep hb2
    replace acc := belowTrans acc hb2 (Nat.le_refl _)
    clear hb2
    go_wp2_with fail
    with_reducible refine (Hs.out _ ho1.at ho2.at).mono ?_
    rintro e v3 ⟨ps, ns, cs, rfl, hos, hb3⟩
    replace ho1 := ho1.keep hb3
    replace ho2 := ho2.keep hb3
    replace hoz := hoz.keep hb3
    replace acc := belowTrans acc hb3 (Nat.le_refl _)
    clear hb3
    have hc := pSame_any _ _ _ _ _ _ _ _ _ hoz.at hos.at
    rw [decide_eq_true rfl] at hc
    have Hc := Lib.hid hc; clear hc
    go_wp2_with fail
    with_reducible refine (Hc.out).mono ?_
    rintro e v4 ⟨rfl, hb4⟩
    replace ho1 := ho1.keep hb4
    replace ho2 := ho2.keep hb4
    replace hoz := hoz.keep hb4
    replace hos := hos.keep hb4
    replace acc := belowTrans acc hb4 (Nat.le_refl _)
    clear hb4
    clear Hc
    clear hos
    clear Hi Hs
    go_wp2_with fail
    with_reducible refine (Hf.out _ acc).mono ?_
    rintro e v5 ⟨s, rfl, hss, hb5⟩
    replace ho1 := ho1.keep hb5
    replace ho2 := ho2.keep hb5
    replace hoz := hoz.keep hb5
    replace acc := belowTrans acc hb5 (Nat.le_refl _)
    clear hb5
    clear Hf
    have hi := fun W h => impl_ParsePiles s W (by omega) h
    have hs := fun W => spec_ParsePiles s W (by omega)
    cases hp : (mParsePiles s).2
    · skip
      simp only [hp] at hi hs
      clear hp
      generalize (mParsePiles s).1 = P at hi hs
      have Hi := Lib.hid hi; clear hi
      have Hs := Lib.hid hs; clear hs
      go_wp2_with fail
      with_reducible refine (Hi.out _ (hL.keep acc)).mono ?_
      rintro e v6 ⟨pp, np, cp, rfl, hop, hb6⟩
      replace ho1 := ho1.keep hb6
      replace ho2 := ho2.keep hb6
      replace hoz := hoz.keep hb6
      replace acc := belowTrans acc hb6 (Nat.le_refl _)
      clear hb6
      go_wp2_with fail
      with_reducible refine (Hs.out _).mono ?_
      rintro e v7 ⟨pw, nw, cw, rfl, how, hb7⟩
      replace ho1 := ho1.keep hb7
      replace ho2 := ho2.keep hb7
      replace hoz := hoz.keep hb7
      replace hop := hop.keep hb7
      replace acc := belowTrans acc hb7 (Nat.le_refl _)
      clear hb7
      have hc := pSame_any _ _ _ _ _ _ _ _ _ hop.at how.at
      rw [decide_eq_true rfl] at hc
      have Hc := Lib.hid hc; clear hc
      go_wp2_with fail
      with_reducible refine (Hc.out).mono ?_
      rintro e v8 ⟨rfl, hb8⟩
      replace ho1 := ho1.keep hb8
      replace ho2 := ho2.keep hb8
      replace hoz := hoz.keep hb8
      replace hop := hop.keep hb8
      replace how := how.keep hb8
      replace acc := belowTrans acc hb8 (Nat.le_refl _)
      clear hb8
      clear Hc
      clear hop
      clear how
      clear Hi Hs
      have h1 := fun W h => impl_SideOf p1 n1 c1 xs W h
      have h2 := fun W h => impl_SideOf p2 n2 c2 ys W h
      have h3 := fun W h => impl_SideOf pz nz cz Z W h
      have h4 := fun W h => impl_PilesText pz nz cz Z W h
      have h5 := fun W h => impl_ParsePiles ⟨(textL Z).toArray⟩ W (by show (textL Z).toArray.size ≤ _; rw [List.size_toArray]; have := Htl.out; omega) h
      have h6 := fun W h => impl_IsPiles pz nz cz Z W h
      have m6 : mIsPiles Z = true := Hgz.out
      simp only [M1.out] at h1
      simp only [M2.out] at h2
      simp only [M3.out] at h3
      simp only [Htz.out] at h4
      simp only [Hpz.out] at h5
      simp only [m6] at h6
      have hnz := hoz.length
      rw [Hlz.out, Hlx0.out, Hly0.out] at hnz
      subst hnz
      have hn1 : (n1 : Int) ≤ 28 := by have := Hlx.out; rw [Hlx0.out] at this; omega
      have hn2 : (n2 : Int) ≤ 28 := by have := Hly.out; rw [Hly0.out] at this; omega
      clear m6
      have H1 := Lib.hid h1; clear h1
      have H2 := Lib.hid h2; clear h2
      have H3 := Lib.hid h3; clear h3
      have H4 := Lib.hid h4; clear h4
      have H5 := Lib.hid h5; clear h5
      have H6 := Lib.hid h6; clear h6
      go_wp2_with fail
      with_reducible refine (H1.out _ ho1.at).mono ?_
      rintro e v9 ⟨px, nx, cx, rfl, hox, hb9⟩
      replace ho1 := ho1.keep hb9
      replace ho2 := ho2.keep hb9
      replace hoz := hoz.keep hb9
      replace acc := belowTrans acc hb9 (Nat.le_refl _)
      clear hb9
      go_wp2_with fail
      with_reducible refine (H2.out _ ho2.at).mono ?_
      rintro e v10 ⟨py, ny, cy, rfl, hoy, hb10⟩
      replace ho1 := ho1.keep hb10
      replace ho2 := ho2.keep hb10
      replace hoz := hoz.keep hb10
      replace hox := hox.keep hb10
      replace acc := belowTrans acc hb10 (Nat.le_refl _)
      clear hb10
      go_wp2_with fail
      with_reducible refine (H3.out _ hoz.at).mono ?_
      rintro e v11 ⟨pv, nv, cv, rfl, hov, hb11⟩
      replace ho1 := ho1.keep hb11
      replace ho2 := ho2.keep hb11
      replace hoz := hoz.keep hb11
      replace hox := hox.keep hb11
      replace hoy := hoy.keep hb11
      replace acc := belowTrans acc hb11 (Nat.le_refl _)
      clear hb11
      go_wp2_with fail
      with_reducible refine (H4.out _ hoz.at).mono ?_
      rintro e v12 ⟨rfl, hb12⟩
      replace ho1 := ho1.keep hb12
      replace ho2 := ho2.keep hb12
      replace hoz := hoz.keep hb12
      replace hox := hox.keep hb12
      replace hoy := hoy.keep hb12
      replace hov := hov.keep hb12
      replace acc := belowTrans acc hb12 (Nat.le_refl _)
      clear hb12
      go_wp2_with fail
      with_reducible refine (H5.out _ (hL.keep acc)).mono ?_
      rintro e v13 ⟨pb, nb, cb, rfl, hob, hb13⟩
      replace ho1 := ho1.keep hb13
      replace ho2 := ho2.keep hb13
      replace hoz := hoz.keep hb13
      replace hox := hox.keep hb13
      replace hoy := hoy.keep hb13
      replace hov := hov.keep hb13
      replace acc := belowTrans acc hb13 (Nat.le_refl _)
      clear hb13
      have hc := pSame_any _ _ _ _ _ _ _ _ _ hob.at hoz.at
      rw [decide_eq_true rfl] at hc
      have Hc := Lib.hid hc; clear hc
      go_wp2_with fail
      with_reducible refine (Hc.out).mono ?_
      rintro e v14 ⟨rfl, hb14⟩
      replace ho1 := ho1.keep hb14
      replace ho2 := ho2.keep hb14
      replace hoz := hoz.keep hb14
      replace hox := hox.keep hb14
      replace hoy := hoy.keep hb14
      replace hov := hov.keep hb14
      replace hob := hob.keep hb14
      replace acc := belowTrans acc hb14 (Nat.le_refl _)
      clear hb14
      clear Hc
      go_wp2_with fail
      with_reducible refine (H6.out _ hoz.at).mono ?_
      rintro e v15 ⟨rfl, hb15⟩
      replace ho1 := ho1.keep hb15
      replace ho2 := ho2.keep hb15
      replace hoz := hoz.keep hb15
      replace hox := hox.keep hb15
      replace hoy := hoy.keep hb15
      replace hov := hov.keep hb15
      replace hob := hob.keep hb15
      replace acc := belowTrans acc hb15 (Nat.le_refl _)
      clear hb15
      clear hob
      clear ho1
      clear ho2
      clear hoz
      clear H1 H2 H3 H4 H5 H6 hn1 hn2
      have hlx1 := hox.length
      have hly1 := hoy.length
      have hvi := hov.at.lenInt
      have hxi := hox.at.lenInt
      have hyi := hoy.at.lenInt
      have hx9 := hox.at
      have hy9 := hoy.at
      have hv9 := hov.at
      clear hox hoy hov
      have Hlx1 := Lib.hid hlx1; clear hlx1
      have Hly1 := Lib.hid hly1; clear hly1
      obtain ⟨wo, hwo⟩ : ∃ wo : World, wo = v15 := ⟨_, rfl⟩
      subst hwo
      go_wp2_with fail
      go_loopw [162] (fun i wr => ∃ j : Nat, j ≤ nv ∧ i = .int .i64 j ∧ Below w.heap.size w wr ∧ Below wo.heap.size wo wr) (fun i _ => nv - (intOf i).toNat)
      case atStart => exact ⟨0, Nat.zero_le _, rfl, acc, Below.refl _ _⟩
      case round =>
        obtain ⟨j, hj, rfl, hbw, hbo⟩ := hrel
        by_cases hlt : j < nv
        · skip
          replace hx9 := hx9.keep hbo
          replace hy9 := hy9.keep hbo
          replace hv9 := hv9.keep hbo
          obtain ⟨bv, ov, e_, _, hc_⟩ := hv9.cell j hlt
          cases e_
          have hcv := hc_ j hlt
          clear hc_
          rw [Hsj.out j] at hcv
          obtain ⟨hx0, hx1⟩ := HXb.out j
          obtain ⟨hy0, hy1⟩ := HYb.out j
          by_cases qx : j < nx
          · skip
            obtain ⟨bx, ox, e_, _, hc_⟩ := hx9.cell j qx
            cases e_
            have hcx := hc_ j qx
            clear hc_
            by_cases qy : j < ny
            · skip
              obtain ⟨by_, oy, e_, _, hc_⟩ := hy9.cell j qy
              cases e_
              have hcy := hc_ j qy
              clear hc_
              generalize SX.getD j 0 = X at *
              generalize SY.getD j 0 = Y at *
              go_wp2
              go_roundw
              case rel => exact ⟨j + 1, by omega, by go_num, hbw, hbo⟩
              case measure => simp [intOf] <;> omega
            · skip
              have hY0 : SY.getD j 0 = 0 := by rw [List.getD_eq_getElem?_getD, List.getElem?_eq_none (by have := Hly1.out; omega)]; rfl
              rw [hY0] at hcv hy0 hy1
              clear hY0
              generalize SX.getD j 0 = X at *
              generalize SY.getD j 0 = Y at *
              go_wp2
              go_roundw
              case rel => exact ⟨j + 1, by omega, by go_num, hbw, hbo⟩
              case measure => simp [intOf] <;> omega
          · skip
            have hX0 : SX.getD j 0 = 0 := by rw [List.getD_eq_getElem?_getD, List.getElem?_eq_none (by have := Hlx1.out; omega)]; rfl
            rw [hX0] at hcv hx0 hx1
            clear hX0
            by_cases qy : j < ny
            · skip
              obtain ⟨by_, oy, e_, _, hc_⟩ := hy9.cell j qy
              cases e_
              have hcy := hc_ j qy
              clear hc_
              generalize SX.getD j 0 = X at *
              generalize SY.getD j 0 = Y at *
              go_wp2
              go_roundw
              case rel => exact ⟨j + 1, by omega, by go_num, hbw, hbo⟩
              case measure => simp [intOf] <;> omega
            · skip
              have hY0 : SY.getD j 0 = 0 := by rw [List.getD_eq_getElem?_getD, List.getElem?_eq_none (by have := Hly1.out; omega)]; rfl
              rw [hY0] at hcv hy0 hy1
              clear hY0
              generalize SX.getD j 0 = X at *
              generalize SY.getD j 0 = Y at *
              go_wp2
              go_roundw
              case rel => exact ⟨j + 1, by omega, by go_num, hbw, hbo⟩
              case measure => simp [intOf] <;> omega
        · go_wp2
          go_ret
          exact ⟨rfl, hbw⟩
    · skip
      have hbk := text_back hp
      have hgP := (mPP_cases s hp).2
      simp only [hp] at hi hs
      clear hp
      generalize (mParsePiles s).1 = P at hi hs hbk hgP
      have ht := fun pp np cp W h => impl_PilesText pp np cp P W h
      simp only [mText_yes hgP, hbk] at ht
      clear hbk hgP
      have Hi := Lib.hid hi; clear hi
      have Hs := Lib.hid hs; clear hs
      have Ht := Lib.hid ht; clear ht
      go_wp2_with fail
      with_reducible refine (Hi.out _ (hL.keep acc)).mono ?_
      rintro e v6 ⟨pp, np, cp, rfl, hop, hb6⟩
      replace ho1 := ho1.keep hb6
      replace ho2 := ho2.keep hb6
      replace hoz := hoz.keep hb6
      replace acc := belowTrans acc hb6 (Nat.le_refl _)
      clear hb6
      go_wp2_with fail
      with_reducible refine (Hs.out _).mono ?_
      rintro e v7 ⟨pw, nw, cw, rfl, how, hb7⟩
      replace ho1 := ho1.keep hb7
      replace ho2 := ho2.keep hb7
      replace hoz := hoz.keep hb7
      replace hop := hop.keep hb7
      replace acc := belowTrans acc hb7 (Nat.le_refl _)
      clear hb7
      have hc := pSame_any _ _ _ _ _ _ _ _ _ hop.at how.at
      rw [decide_eq_true rfl] at hc
      have Hc := Lib.hid hc; clear hc
      go_wp2_with fail
      with_reducible refine (Hc.out).mono ?_
      rintro e v8 ⟨rfl, hb8⟩
      replace ho1 := ho1.keep hb8
      replace ho2 := ho2.keep hb8
      replace hoz := hoz.keep hb8
      replace hop := hop.keep hb8
      replace how := how.keep hb8
      replace acc := belowTrans acc hb8 (Nat.le_refl _)
      clear hb8
      clear Hc
      go_wp2_with fail
      with_reducible refine (Ht.out _ _ _ _ hop.at).mono ?_
      rintro e v9 ⟨rfl, hb9⟩
      replace ho1 := ho1.keep hb9
      replace ho2 := ho2.keep hb9
      replace hoz := hoz.keep hb9
      replace hop := hop.keep hb9
      replace how := how.keep hb9
      replace acc := belowTrans acc hb9 (Nat.le_refl _)
      clear hb9
      clear hop
      clear how
      clear Hi Hs Ht
      have h1 := fun W h => impl_SideOf p1 n1 c1 xs W h
      have h2 := fun W h => impl_SideOf p2 n2 c2 ys W h
      have h3 := fun W h => impl_SideOf pz nz cz Z W h
      have h4 := fun W h => impl_PilesText pz nz cz Z W h
      have h5 := fun W h => impl_ParsePiles ⟨(textL Z).toArray⟩ W (by show (textL Z).toArray.size ≤ _; rw [List.size_toArray]; have := Htl.out; omega) h
      have h6 := fun W h => impl_IsPiles pz nz cz Z W h
      have m6 : mIsPiles Z = true := Hgz.out
      simp only [M1.out] at h1
      simp only [M2.out] at h2
      simp only [M3.out] at h3
      simp only [Htz.out] at h4
      simp only [Hpz.out] at h5
      simp only [m6] at h6
      have hnz := hoz.length
      rw [Hlz.out, Hlx0.out, Hly0.out] at hnz
      subst hnz
      have hn1 : (n1 : Int) ≤ 28 := by have := Hlx.out; rw [Hlx0.out] at this; omega
      have hn2 : (n2 : Int) ≤ 28 := by have := Hly.out; rw [Hly0.out] at this; omega
      clear m6
      have H1 := Lib.hid h1; clear h1
      have H2 := Lib.hid h2; clear h2
      have H3 := Lib.hid h3; clear h3
      have H4 := Lib.hid h4; clear h4
      have H5 := Lib.hid h5; clear h5
      have H6 := Lib.hid h6; clear h6
      go_wp2_with fail
      with_reducible refine (H1.out _ ho1.at).mono ?_
      rintro e v10 ⟨px, nx, cx, rfl, hox, hb10⟩
      replace ho1 := ho1.keep hb10
      replace ho2 := ho2.keep hb10
      replace hoz := hoz.keep hb10
      replace acc := belowTrans acc hb10 (Nat.le_refl _)
      clear hb10
      go_wp2_with fail
      with_reducible refine (H2.out _ ho2.at).mono ?_
      rintro e v11 ⟨py, ny, cy, rfl, hoy, hb11⟩
      replace ho1 := ho1.keep hb11
      replace ho2 := ho2.keep hb11
      replace hoz := hoz.keep hb11
      replace hox := hox.keep hb11
      replace acc := belowTrans acc hb11 (Nat.le_refl _)
      clear hb11
      go_wp2_with fail
      with_reducible refine (H3.out _ hoz.at).mono ?_
      rintro e v12 ⟨pv, nv, cv, rfl, hov, hb12⟩
      replace ho1 := ho1.keep hb12
      replace ho2 := ho2.keep hb12
      replace hoz := hoz.keep hb12
      replace hox := hox.keep hb12
      replace hoy := hoy.keep hb12
      replace acc := belowTrans acc hb12 (Nat.le_refl _)
      clear hb12
      go_wp2_with fail
      with_reducible refine (H4.out _ hoz.at).mono ?_
      rintro e v13 ⟨rfl, hb13⟩
      replace ho1 := ho1.keep hb13
      replace ho2 := ho2.keep hb13
      replace hoz := hoz.keep hb13
      replace hox := hox.keep hb13
      replace hoy := hoy.keep hb13
      replace hov := hov.keep hb13
      replace acc := belowTrans acc hb13 (Nat.le_refl _)
      clear hb13
      go_wp2_with fail
      with_reducible refine (H5.out _ (hL.keep acc)).mono ?_
      rintro e v14 ⟨pb, nb, cb, rfl, hob, hb14⟩
      replace ho1 := ho1.keep hb14
      replace ho2 := ho2.keep hb14
      replace hoz := hoz.keep hb14
      replace hox := hox.keep hb14
      replace hoy := hoy.keep hb14
      replace hov := hov.keep hb14
      replace acc := belowTrans acc hb14 (Nat.le_refl _)
      clear hb14
      have hc := pSame_any _ _ _ _ _ _ _ _ _ hob.at hoz.at
      rw [decide_eq_true rfl] at hc
      have Hc := Lib.hid hc; clear hc
      go_wp2_with fail
      with_reducible refine (Hc.out).mono ?_
      rintro e v15 ⟨rfl, hb15⟩
      replace ho1 := ho1.keep hb15
      replace ho2 := ho2.keep hb15
      replace hoz := hoz.keep hb15
      replace hox := hox.keep hb15
      replace hoy := hoy.keep hb15
      replace hov := hov.keep hb15
      replace hob := hob.keep hb15
      replace acc := belowTrans acc hb15 (Nat.le_refl _)
      clear hb15
      clear Hc
      go_wp2_with fail
      with_reducible refine (H6.out _ hoz.at).mono ?_
      rintro e v16 ⟨rfl, hb16⟩
      replace ho1 := ho1.keep hb16
      replace ho2 := ho2.keep hb16
      replace hoz := hoz.keep hb16
      replace hox := hox.keep hb16
      replace hoy := hoy.keep hb16
      replace hov := hov.keep hb16
      replace hob := hob.keep hb16
      replace acc := belowTrans acc hb16 (Nat.le_refl _)
      clear hb16
      clear hob
      clear ho1
      clear ho2
      clear hoz
      clear H1 H2 H3 H4 H5 H6 hn1 hn2
      have hlx1 := hox.length
      have hly1 := hoy.length
      have hvi := hov.at.lenInt
      have hxi := hox.at.lenInt
      have hyi := hoy.at.lenInt
      have hx9 := hox.at
      have hy9 := hoy.at
      have hv9 := hov.at
      clear hox hoy hov
      have Hlx1 := Lib.hid hlx1; clear hlx1
      have Hly1 := Lib.hid hly1; clear hly1
      obtain ⟨wo, hwo⟩ : ∃ wo : World, wo = v16 := ⟨_, rfl⟩
      subst hwo
      go_wp2_with fail
      go_loopw [162] (fun i wr => ∃ j : Nat, j ≤ nv ∧ i = .int .i64 j ∧ Below w.heap.size w wr ∧ Below wo.heap.size wo wr) (fun i _ => nv - (intOf i).toNat)
      case atStart => exact ⟨0, Nat.zero_le _, rfl, acc, Below.refl _ _⟩
      case round =>
        obtain ⟨j, hj, rfl, hbw, hbo⟩ := hrel
        by_cases hlt : j < nv
        · skip
          replace hx9 := hx9.keep hbo
          replace hy9 := hy9.keep hbo
          replace hv9 := hv9.keep hbo
          obtain ⟨bv, ov, e_, _, hc_⟩ := hv9.cell j hlt
          cases e_
          have hcv := hc_ j hlt
          clear hc_
          rw [Hsj.out j] at hcv
          obtain ⟨hx0, hx1⟩ := HXb.out j
          obtain ⟨hy0, hy1⟩ := HYb.out j
          by_cases qx : j < nx
          · skip
            obtain ⟨bx, ox, e_, _, hc_⟩ := hx9.cell j qx
            cases e_
            have hcx := hc_ j qx
            clear hc_
            by_cases qy : j < ny
            · skip
              obtain ⟨by_, oy, e_, _, hc_⟩ := hy9.cell j qy
              cases e_
              have hcy := hc_ j qy
              clear hc_
              generalize SX.getD j 0 = X at *
              generalize SY.getD j 0 = Y at *
              go_wp2
              go_roundw
              case rel => exact ⟨j + 1, by omega, by go_num, hbw, hbo⟩
              case measure => simp [intOf] <;> omega
            · skip
              have hY0 : SY.getD j 0 = 0 := by rw [List.getD_eq_getElem?_getD, List.getElem?_eq_none (by have := Hly1.out; omega)]; rfl
              rw [hY0] at hcv hy0 hy1
              clear hY0
              generalize SX.getD j 0 = X at *
              generalize SY.getD j 0 = Y at *
              go_wp2
              go_roundw
              case rel => exact ⟨j + 1, by omega, by go_num, hbw, hbo⟩
              case measure => simp [intOf] <;> omega
          · skip
            have hX0 : SX.getD j 0 = 0 := by rw [List.getD_eq_getElem?_getD, List.getElem?_eq_none (by have := Hlx1.out; omega)]; rfl
            rw [hX0] at hcv hx0 hx1
            clear hX0
            by_cases qy : j < ny
            · skip
              obtain ⟨by_, oy, e_, _, hc_⟩ := hy9.cell j qy
              cases e_
              have hcy := hc_ j qy
              clear hc_
              generalize SX.getD j 0 = X at *
              generalize SY.getD j 0 = Y at *
              go_wp2
              go_roundw
              case rel => exact ⟨j + 1, by omega, by go_num, hbw, hbo⟩
              case measure => simp [intOf] <;> omega
            · skip
              have hY0 : SY.getD j 0 = 0 := by rw [List.getD_eq_getElem?_getD, List.getElem?_eq_none (by have := Hly1.out; omega)]; rfl
              rw [hY0] at hcv hy0 hy1
              clear hY0
              generalize SX.getD j 0 = X at *
              generalize SY.getD j 0 = Y at *
              go_wp2
              go_roundw
              case rel => exact ⟨j + 1, by omega, by go_num, hbw, hbo⟩
              case measure => simp [intOf] <;> omega
        · go_wp2
          go_ret
          exact ⟨rfl, hbw⟩
  · skip
    simp only [mJoin_no hj] at hi hs
    clear hj
    have Hi := Lib.hid hi; clear hi
    have Hs := Lib.hid hs; clear hs
    go_wp2_with fail
    with_reducible refine (Hi.out _ ho1.at ho2.at).mono ?_
    rintro e v2 ⟨pz, nz, cz, rfl, hoz, hb2⟩
    replace ho1 := ho1.keep hb2
    replace ho2 := ho2.keep hb2
    replace acc := belowTrans acc hb2 (Nat.le_refl _)
    clear hb2
    go_wp2_with fail
    with_reducible refine (Hs.out _ ho1.at ho2.at).mono ?_
    rintro e v3 ⟨ps, ns, cs, rfl, hos, hb3⟩
    replace ho1 := ho1.keep hb3
    replace ho2 := ho2.keep hb3
    replace hoz := hoz.keep hb3
    replace acc := belowTrans acc hb3 (Nat.le_refl _)
    clear hb3
    have hc := pSame_any _ _ _ _ _ _ _ _ _ hoz.at hos.at
    rw [decide_eq_true rfl] at hc
    have Hc := Lib.hid hc; clear hc
    go_wp2_with fail
    with_reducible refine (Hc.out).mono ?_
    rintro e v4 ⟨rfl, hb4⟩
    replace ho1 := ho1.keep hb4
    replace ho2 := ho2.keep hb4
    replace hoz := hoz.keep hb4
    replace hos := hos.keep hb4
    replace acc := belowTrans acc hb4 (Nat.le_refl _)
    clear hb4
    clear Hc
    clear hos
    clear Hi Hs
    go_wp2_with fail
    with_reducible refine (Hf.out _ acc).mono ?_
    rintro e v5 ⟨s, rfl, hss, hb5⟩
    replace ho1 := ho1.keep hb5
    replace ho2 := ho2.keep hb5
    replace hoz := hoz.keep hb5
    replace acc := belowTrans acc hb5 (Nat.le_refl _)
    clear hb5
    clear Hf
    have hi := fun W h => impl_ParsePiles s W (by omega) h
    have hs := fun W => spec_ParsePiles s W (by omega)
    cases hp : (mParsePiles s).2
    · skip
      simp only [hp] at hi hs
      clear hp
      generalize (mParsePiles s).1 = P at hi hs
      have Hi := Lib.hid hi; clear hi
      have Hs := Lib.hid hs; clear hs
      go_wp2_with fail
      with_reducible refine (Hi.out _ (hL.keep acc)).mono ?_
      rintro e v6 ⟨pp, np, cp, rfl, hop, hb6⟩
      replace ho1 := ho1.keep hb6
      replace ho2 := ho2.keep hb6
      replace hoz := hoz.keep hb6
      replace acc := belowTrans acc hb6 (Nat.le_refl _)
      clear hb6
      go_wp2_with fail
      with_reducible refine (Hs.out _).mono ?_
      rintro e v7 ⟨pw, nw, cw, rfl, how, hb7⟩
      replace ho1 := ho1.keep hb7
      replace ho2 := ho2.keep hb7
      replace hoz := hoz.keep hb7
      replace hop := hop.keep hb7
      replace acc := belowTrans acc hb7 (Nat.le_refl _)
      clear hb7
      have hc := pSame_any _ _ _ _ _ _ _ _ _ hop.at how.at
      rw [decide_eq_true rfl] at hc
      have Hc := Lib.hid hc; clear hc
      go_wp2_with fail
      with_reducible refine (Hc.out).mono ?_
      rintro e v8 ⟨rfl, hb8⟩
      replace ho1 := ho1.keep hb8
      replace ho2 := ho2.keep hb8
      replace hoz := hoz.keep hb8
      replace hop := hop.keep hb8
      replace how := how.keep hb8
      replace acc := belowTrans acc hb8 (Nat.le_refl _)
      clear hb8
      clear Hc
      clear hop
      clear how
      clear Hi Hs
      go_wp2
      go_ret
      exact ⟨rfl, acc⟩
    · skip
      have hbk := text_back hp
      have hgP := (mPP_cases s hp).2
      simp only [hp] at hi hs
      clear hp
      generalize (mParsePiles s).1 = P at hi hs hbk hgP
      have ht := fun pp np cp W h => impl_PilesText pp np cp P W h
      simp only [mText_yes hgP, hbk] at ht
      clear hbk hgP
      have Hi := Lib.hid hi; clear hi
      have Hs := Lib.hid hs; clear hs
      have Ht := Lib.hid ht; clear ht
      go_wp2_with fail
      with_reducible refine (Hi.out _ (hL.keep acc)).mono ?_
      rintro e v6 ⟨pp, np, cp, rfl, hop, hb6⟩
      replace ho1 := ho1.keep hb6
      replace ho2 := ho2.keep hb6
      replace hoz := hoz.keep hb6
      replace acc := belowTrans acc hb6 (Nat.le_refl _)
      clear hb6
      go_wp2_with fail
      with_reducible refine (Hs.out _).mono ?_
      rintro e v7 ⟨pw, nw, cw, rfl, how, hb7⟩
      replace ho1 := ho1.keep hb7
      replace ho2 := ho2.keep hb7
      replace hoz := hoz.keep hb7
      replace hop := hop.keep hb7
      replace acc := belowTrans acc hb7 (Nat.le_refl _)
      clear hb7
      have hc := pSame_any _ _ _ _ _ _ _ _ _ hop.at how.at
      rw [decide_eq_true rfl] at hc
      have Hc := Lib.hid hc; clear hc
      go_wp2_with fail
      with_reducible refine (Hc.out).mono ?_
      rintro e v8 ⟨rfl, hb8⟩
      replace ho1 := ho1.keep hb8
      replace ho2 := ho2.keep hb8
      replace hoz := hoz.keep hb8
      replace hop := hop.keep hb8
      replace how := how.keep hb8
      replace acc := belowTrans acc hb8 (Nat.le_refl _)
      clear hb8
      clear Hc
      go_wp2_with fail
      with_reducible refine (Ht.out _ _ _ _ hop.at).mono ?_
      rintro e v9 ⟨rfl, hb9⟩
      replace ho1 := ho1.keep hb9
      replace ho2 := ho2.keep hb9
      replace hoz := hoz.keep hb9
      replace hop := hop.keep hb9
      replace how := how.keep hb9
      replace acc := belowTrans acc hb9 (Nat.le_refl _)
      clear hb9
      clear hop
      clear how
      clear Hi Hs Ht
      go_wp2
      go_ret
      exact ⟨rfl, acc⟩

/-! ### The row's step -/
set_option maxRecDepth 100000 in
/-- The contract, at a world that is shaped and holds what the row lists. -/
theorem step {H : Type} {enc : TypeId × Value → H} (W : World) (base : Nat) (args : Array Value) (ds gs : List (DataW H)) (before : List MemPlace)
    (hval0 : ∀ (j : Nat) t v, Tryz.f3.params[j]? = some t → args[j]? = some v → Value.okWide Tryz.prog W .any base t v)
    (hW : DataW.Whole enc Tryz.prog Tryz.f3.params.toList Rows.fnJoinedAndReadSpec.vars false W args.toList ds gs before)
    (hL : laidMetH Tryz.prog Rows.fnJoinedAndReadRow.laid W) (hsh : W.ShapedOpen Tryz.prog) :
    Calls Tryz.prog 3 args W fun e W' => ∃ v, e = .returned v ∧ Rows.fnJoinedAndReadSpec.post enc Tryz.prog Tryz.f3 false true false false W args v W' := by
  have hval : ∀ (j : Nat) t v, Tryz.f3.params[j]? = some t → args[j]? = some v → Value.okWide Tryz.prog W .any base t v := hval0
  have hW' := hW
  obtain ⟨p, q, hA0, hV, rfl, hfz, hnd⟩ := hW
  have hA : DataW.TrodAll enc Tryz.prog W 0 (fun _ => true) true Tryz.f3.params.toList args.toList ds p := hA0
  rw [Tryz.params3] at hA hval
  obtain ⟨v0, vs0, d0, ds0, p0, q0, hargs, rfl, rfl, h0, r0⟩ := trodAll_cons hA
  obtain ⟨v1, vs1, d1, ds1, p1, q1, rfl, rfl, rfl, h1, r1⟩ := trodAll_cons r0
  obtain ⟨rfl, rfl, rfl⟩ := trodAll_nil r1
  obtain rfl : args = #[v0, v1] := by cases args; simp_all
  obtain ⟨rfl, rfl⟩ := trodVars_none hV
  obtain ⟨a0, len0, cap0, rfl⟩ := okWide_slice Tryz.underlying22 (hval 0 22 v0 rfl rfl)
  have k0 := h0
  have lt0 : ∀ x ∈ p0, x.block < W.heap.size := by obtain ⟨m, hm⟩ := k0; exact DataW.trod_lt m _ _ _ hm
  obtain ⟨z0, w0⟩ : ∃ zs, IsRow .u8 W a0 len0 cap0 zs := by
    obtain ⟨fuel, hf⟩ := h0
    rcases open_ints Tryz.underlying22 Tryz.underlying5 (by kernel_rfl) hf with ⟨hcs, _⟩ | ⟨x, l, c, zs, hcs, _, hl, hm, hz, _, hcell, hwz⟩
    · simp [Value.cells] at hcs
      obtain ⟨rfl, rfl, rfl⟩ := hcs
      exact ⟨[], .inl ⟨rfl, rfl, rfl, rfl⟩⟩
    · simp [Value.cells] at hcs
      obtain ⟨rfl, rfl, rfl⟩ := hcs
      exact ⟨zs, .inr ⟨_, rfl, hl, hm, by simpa using hz, hcell, hwz⟩⟩
  obtain ⟨a1, len1, cap1, rfl⟩ := okWide_slice Tryz.underlying22 (hval 1 22 v1 rfl rfl)
  have k1 := h1
  have lt1 : ∀ x ∈ p1, x.block < W.heap.size := by obtain ⟨m, hm⟩ := k1; exact DataW.trod_lt m _ _ _ hm
  obtain ⟨z1, w1⟩ : ∃ zs, IsRow .u8 W a1 len1 cap1 zs := by
    obtain ⟨fuel, hf⟩ := h1
    rcases open_ints Tryz.underlying22 Tryz.underlying5 (by kernel_rfl) hf with ⟨hcs, _⟩ | ⟨x, l, c, zs, hcs, _, hl, hm, hz, _, hcell, hwz⟩
    · simp [Value.cells] at hcs
      obtain ⟨rfl, rfl, rfl⟩ := hcs
      exact ⟨[], .inl ⟨rfl, rfl, rfl, rfl⟩⟩
    · simp [Value.cells] at hcs
      obtain ⟨rfl, rfl, rfl⟩ := hcs
      exact ⟨zs, .inr ⟨_, rfl, hl, hm, by simpa using hz, hcell, hwz⟩⟩
  clear hA0 hval0
  refine (walk a0 len0 cap0 z0 a1 len1 cap1 z1 W w0 w1 (libOk_of hL hsh)).mono fun e W' ⟨he, bel⟩ => ?_
  subst he
  exact ⟨_, rfl, _, _, _, [], _, [], hW', trodAll_mk1 (shut_bool Tryz.underlying4 _), (trodAll_cons_mk (Below.trod laidOut (by kernel_rfl) (of_decide_eq_true (by kernel_rfl)) k0 bel lt0) (trodAll_cons_mk (Below.trod laidOut (by kernel_rfl) (of_decide_eq_true (by kernel_rfl)) k1 bel lt1) trodAll_mk0)), rfl, bel.frame _, fun h => by cases h⟩

set_option maxRecDepth 100000 in
theorem met (os : Os) (args : Array Value) : laidMetH Tryz.prog Rows.fnJoinedAndReadRow.laid ((World.laidAll Tryz.prog os Rows.fnJoinedAndReadRow.laid).forCall (fun _ _ => 0) ⟨#[], args, []⟩).memory := by
  rw [MakeChecks.laidMetH_plain _ _ _ (by kernel_rfl)]
  exact laidMet_laidAll _ (by kernel_rfl) (by kernel_rfl)

set_option maxRecDepth 100000 in
theorem lifted (os : Os) (started : os.Started) (H : Type) (enc : TypeId × Value → H) :
    ReturnsInHanded {} Tryz.checked os 3 .any (fun w args => (Rows.fnJoinedAndReadSpec.pre enc Tryz.prog Tryz.f3 [] false w args ∧ laidMetH Tryz.prog Rows.fnJoinedAndReadRow.laid w) ∧ sizedMet enc Tryz.prog Tryz.f3 (OpenSpec.ofChange Rows.fnJoinedAndReadSpec) false w args)
      (Rows.fnJoinedAndReadSpec.post enc Tryz.prog Tryz.f3 false true false false) := by
  refine returnsInHanded_of_calls (C := Tryz.checked) own started (by kernel_rfl)
    (ChangeSpec.witness_shaped (enc := enc) (C := Tryz.checked) (os := os) (X := fun w _ => laidMetH Tryz.prog Rows.fnJoinedAndReadRow.laid w) false (World.laidAll Tryz.prog os Rows.fnJoinedAndReadRow.laid) #[.slice none 0 0, .slice none 0 0] 8 (World.laidAll_os _ _ _)
      (World.shaped_of_ZipB (by kernel_rfl) (by kernel_rfl)) (by kernel_rfl) (by kernel_rfl) (by kernel_rfl) (met os _)) ?_
  intro w tape i _ hsh _ hok hpre _
  obtain ⟨_, _, _, fn', hfn', _, _, _, _, hval⟩ := hok
  have e : fn' = Tryz.f3 := Option.some.inj (hfn'.symm.trans Tryz.func3)
  subst e
  obtain ⟨⟨⟨ds, gs, before, hw, _⟩, hx⟩, _⟩ := hpre
  have hw' := DataW.Whole.of_heap (w' := w.forCall tape i) (by rfl) hw
  refine (step (enc := enc) (w.forCall tape i) w.heap.size i.args ds gs before hval hw' (hx.of_heap (by rfl)) hsh).mono fun e W' ⟨v, he, hp⟩ => ?_
  subst he
  exact ChangeSpec.post_blind hp

theorem closedFacts : joinedFacts Tryz.prog 3 Tryz.f3 Rows.fnJoinedAndReadSpec Rows.fnJoinedAndReadRow = true := by
  unfold joinedFacts
  rw [head_enter, head_lifts, head_make]
  kernel_rfl
theorem closedHere : joinedFacts Tryz.pinned.checked.prog 3 Tryz.f3 Rows.fnJoinedAndReadSpec Rows.fnJoinedAndReadRow = true := by
  rw [progEq]
  exact closedFacts
theorem over : Rows.fnJoinedAndReadRow.holds Tryz.pinned (OpenSpec.ofChange Rows.fnJoinedAndReadSpec) :=
  OpenClaim.holds_of_wide 3 Tryz.f3 rfl rfl rfl rfl rfl rfl rfl ⟨rfl, rfl, rfl, rfl, rfl⟩ rfl rfl rfl rfl rfl (by kernel_rfl) Tryz.func3 closedHere
    (of_decide_eq_true (by kernel_rfl)) (by unfold Func.isWrapper; first | (rw [if_pos (by decide +kernel)]; kernel_rfl) | (rw [if_neg (by decide +kernel)]; exact ⟨rfl, rfl⟩))
    (fun os started H enc _ => lifted os started H enc)

/-- the tied card -/
theorem proved : Rows.FnJoinedAndReadCardSaid :=
  Claim7.holds_tied_plain_at .later [] [.data, .data, .data, .data, .sentinel, .sentinel, .pinned] true (true, "1a04b5e77c7f71d2e33ef89a2a2d4e331c6365554e03c4304bb321d7a8e50813") true
    over (fun _ h => by cases h) (by kernel_rfl) (fun _ h => by cases h) fnJoinedAndRead_row_tie rfl ⟨rfl, rfl⟩ (by kernel_rfl) rfl
    (fun f fn hf hfn => by
      obtain rfl : f = 3 := Option.some.inj ((show Tryz.prog.funcNamed "loop.example/g01114/laws.FnJoinedAndRead" = some 3 by kernel_rfl).symm.trans hf) |>.symm
      obtain rfl : fn = Tryz.f3 := (Option.some.inj (Tryz.func3.symm.trans hfn)).symm
      exact ⟨by kernel_rfl, fun j t ht => by
        rw [Tryz.params3] at ht
        have hm : t ∈ [22] := by simpa using Array.mem_of_getElem? ht
        have hall : ([22].all fun u => !Tryz.prog.wantsStandIn u) = true := by kernel_rfl
        exact (show Tryz.prog.wantsStandIn t = false by simpa using List.all_eq_true.1 hall t hm)⟩)
    (by kernel_rfl)
#print axioms proved
end Go.Proofs.YtbkihnejgcebpaaGreatDoor.fnJoinedAndRead
