/- FnRowsOfPiles: for every input the law returns true and leaves its arguments as they were. No condition. -/
import Derived.Test.YtjaodhjiibdbdaaGreatDoorRows
import Derived.Test.YtjaodhjiibdbdaaGreatDoorCards
import Derived.Test.YtjaodhjiibdbdaaGreatDoorTie
import Derived.LaidMore
import Derived.Lay
import Derived.LaidOnce
import Derived.MakeChecks
import Derived.Stop.LaidErr
import Derived.Stop.Joined
import Derived.SevenTiedAt
import Derived.WalkKit
import Derived.ProofKit
import Derived.OpenShut
import Derived.ShutString
import Derived.ChangeOld
import Derived.Below
import Derived.Test.YtjaodhjiibdbdaaGreatDoorHead
import Derived.Test.YtjaodhjiibdbdaaGreatDoorLawp
import Derived.Test.YtjaodhjiibdbdaaGreatDoorRwL
import Derived.Test.YtjaodhjiibdbdaaGreatDoorRpD
import Derived.Test.YtjaodhjiibdbdaaGreatDoorRowO
import Derived.Test.YtjaodhjiibdbdaaGreatDoorRankW
import Derived.Test.YtjaodhjiibdbdaaGreatDoorRowQ
import Derived.Test.YtjaodhjiibdbdaaGreatDoorGj
import Derived.Test.YtjaodhjiibdbdaaGreatDoorRtA
import Derived.Test.YtjaodhjiibdbdaaGreatDoorHelp
namespace Go.Proofs.YtjaodhjiibdbdaaGreatDoor.fnRowsOfPiles
set_option linter.unusedSimpArgs false
open Go.ChangeShapes Go.WideShapes Go.ChangeAt Go.RowKit
open Go.ChangeMaps (open_string shut_string)
set_option linter.unusedVariables false

theorem own : ownKnob Tryz.prog.godebug = none := by kernel_rfl
theorem laidOut : laidOutB Tryz.prog = true := by kernel_rfl

/-- WHAT THE WALK IS TOLD OF A SLICE OF INTEGERS THAT CAME IN: it is nil; or it leads to a row of 'cap' cells, the numbers 'zs' (the first 'len' are its elements, the rest its spare room), each fitting its kind. -/
def IsRow (k : IntKind) (w : World) (a : Option Addr) (len cap : Nat) (zs : List Int) : Prop :=
  (a = none ∧ len = 0 ∧ cap = 0 ∧ zs = []) ∨
  ∃ x, a = some x ∧ len ≤ cap ∧ cap ≤ maxLen ∧ zs.length = cap ∧ (∀ i, i < zs.length → w.cell? (x.add i) = some (.int k (zs.getD i 0))) ∧ ∀ n ∈ zs, (Lit.int k n).wf = true

/-! ### What the library's variables hold -/
theorem cellsStruct : Tryz.prog.cellsOf 163 = 1 := by kernel_rfl
theorem cellsString : Tryz.prog.cellsOf 9 = 1 := by kernel_rfl
theorem star : "*" ++ "errors.errorString" = "*errors.errorString" := by decide
theorem rowOf (u : TypeId) (h : Tryz.prog.typeName? 3 u = some "*errors.errorString") : u = 161 :=
  typeName_ptr_named (nm := "errors.errorString") (by rw [star]; kernel_rfl) (by kernel_rfl) (by decide) u (by rw [star]; exact h)
theorem libOk_of {W : World} (hL : laidMetH Tryz.prog Rows.fnRowsOfPilesRow.laid W) (hsh : W.ShapedOpen Tryz.prog) : LibOk W := by
  rw [MakeChecks.laidMetH_plain _ _ _ (by kernel_rfl)] at hL
  have hL4 := hL.tail.tail.tail.tail
  obtain ⟨a0, s0, hv0, -, -, -⟩ := laid_sentinel hL4 (show Tryz.prog.globalNamed "strconv.ErrRange" = some 2 by kernel_rfl) (show (Tryz.prog.globals[2]?).map (·.type) = some 90 by kernel_rfl) Tryz.underlying90 rowOf Tryz.underlying161 Tryz.underlying163 rfl rfl Tryz.underlying9 cellsStruct cellsString
  obtain ⟨a1, s1, hv1, -, -, -⟩ := laid_sentinel hL4.tail (show Tryz.prog.globalNamed "strconv.ErrSyntax" = some 1 by kernel_rfl) (show (Tryz.prog.globals[1]?).map (·.type) = some 90 by kernel_rfl) Tryz.underlying90 rowOf Tryz.underlying161 Tryz.underlying163 rfl rfl Tryz.underlying9 cellsStruct cellsString
  have htab : Lib.TabIs Tryz.prog W "internal/strconv.uint64pow10" .u64 Lib.pow10Tab := Lib.tabIs_of_head (show Tryz.prog.globalNamed "internal/strconv.uint64pow10" = some 3 by kernel_rfl) (show (Tryz.prog.globals[3]?).map (·.type) = some 157 by kernel_rfl) Tryz.underlying157 Tryz.underlying53 (by kernel_rfl) (by kernel_rfl) hL.tail.tail
  exact ⟨hsh, ⟨_, _, hv1⟩, ⟨_, _, hv0⟩, htab⟩

/-! ### THE WALK: the Go text returns true, AND WRITES NOTHING THAT WAS THERE: 'Below w.heap.size w w'' (Derived/Below.lean: '.refl', '.alloc', '.drew', '.setCell' at a new block, '.trans'). Open each 'IsRow' by 'rcases' AHEAD of 'go_enter'; part every test ahead of the walk. -/
set_option maxHeartbeats 4000000 in
set_option maxRecDepth 100000 in
theorem walk (a0 : Option Addr) (len0 cap0 : Nat) (z0 : List Int) (a1 : Option Addr) (len1 cap1 : Nat) (z1 : List Int) (w : World) (w0 : IsRow .u8 w a0 len0 cap0 z0) (w1 : IsRow .u8 w a1 len1 cap1 z1) (hL : LibOk w) :
    Calls Tryz.prog 3 #[.slice a0 len0 cap0, .slice a1 len1 cap1] w fun e w' => e = .returned (.bool true) ∧ Below w.heap.size w w' := by
  have by0 := byteIn_row w0
  have by1 := byteIn_row w1
  have hl0 : len0 ≤ maxLen := by
    rcases w0 with ⟨_, h, _⟩ | ⟨x, _, h, h', _⟩
    · rw [h]; exact Nat.zero_le _
    · exact Nat.le_trans h h'
  clear w0 w1
  by_cases hbig : 1048576 < len0 ∨ (1048576 : Int) - len0 < len1
  · have hb := big_yes a0 a1 len0 len1 cap0 cap1 w hbig hl0
    have Hb := Lib.hid hb; clear hb
    go_enter Tryz.func3, Tryz.ntmps3
    go_wp2_with fail
    with_reducible refine (Hb.out).mono ?_
    rintro e w' ⟨rfl, rfl⟩
    go_wp2
    go_ret
    exact ⟨rfl, Below.refl _ _⟩
  have hb := big_no a0 a1 len0 len1 cap0 cap1 w (by omega) (by omega)
  have hd := DrawRowsOfPiles_any a0 len0 cap0 w (by omega) by0
  have he := fun W (h : Below w.heap.size w W) => DrawRowText_any a1 len1 cap1 W (by omega) (by1.up (Nat.le_refl _) h h.size)
  have hf := fun W (h : Below w.heap.size w W) => DrawParseRow_any a1 len1 cap1 W (by omega) (by1.up (Nat.le_refl _) h h.size)
  have Hb := Lib.hid hb; clear hb
  have Hd := Lib.hid hd; clear hd
  have He := Lib.hid he; clear he
  have Hf := Lib.hid hf; clear hf
  clear by0 by1 hl0 hbig
  have acc : Below w.heap.size w w := Below.refl _ _
  go_enter Tryz.func3, Tryz.ntmps3
  go_wp2_with fail
  with_reducible refine (Hb.out).mono ?_
  rintro e w' ⟨rfl, rfl⟩
  clear Hb
  go_wp2_with fail
  with_reducible refine (Hd.out).mono ?_
  rintro e v1 ⟨p1, n1, c1, xs, rfl, ho1, hn1, hb1⟩
  replace acc := belowTrans acc hb1 (Nat.le_refl _)
  clear hb1
  clear Hd
  have hi := fun W h => impl_RowsOfPiles p1 n1 c1 xs W h
  have hs := fun W h => spec_RowsOfPiles p1 n1 c1 xs W h
  have hp := fun W h => impl_IsPiles p1 n1 c1 xs W h
  simp only [mIsPiles] at hp
  cases hb : goodB xs
  · skip
    simp only [mROP_no hb] at hi hs
    simp only [hb] at hp
    clear hb
    have hm := xSum_some p1 n1 c1 xs
    have Hm := Lib.hid hm; clear hm
    have Hi := Lib.hid hi; clear hi
    have Hs := Lib.hid hs; clear hs
    have Hp := Lib.hid hp; clear hp
    go_wp2_with fail
    with_reducible refine (Hi.out _ ho1.at).mono ?_
    rintro e v2 ⟨rfl, hb2⟩
    replace ho1 := ho1.keep hb2
    replace acc := belowTrans acc hb2 (Nat.le_refl _)
    clear hb2
    go_wp2_with fail
    with_reducible refine (Hs.out _ ho1.at).mono ?_
    rintro e v3 ⟨rfl, hb3⟩
    replace ho1 := ho1.keep hb3
    replace acc := belowTrans acc hb3 (Nat.le_refl _)
    clear hb3
    go_wp2_with fail
    with_reducible refine (Hp.out _ ho1.at).mono ?_
    rintro e v4 ⟨rfl, hb4⟩
    replace ho1 := ho1.keep hb4
    replace acc := belowTrans acc hb4 (Nat.le_refl _)
    clear hb4
    clear Hi Hs Hp
    go_wp2_with fail
    with_reducible refine (Hm.out _ ho1.at).mono ?_
    rintro e w' ⟨⟨zsum, rfl⟩, rfl⟩
    clear ho1
    clear Hm hn1
    go_wp2_with fail
    with_reducible refine (He.out _ acc).mono ?_
    rintro e v5 ⟨p6, n6, c6, zs, rfl, ho6, hn6, hb5⟩
    replace acc := belowTrans acc hb5 (Nat.le_refl _)
    clear hb5
    clear He
    have hbt := fun W hA => impl_RowText p6 n6 c6 zs W hA
    have hst := fun W hA => spec_RowText p6 n6 c6 zs W hA
    cases hk6 : rowB zs
    · skip
      simp only [mRText_no hk6] at hbt hst
      clear hk6
      have Hbt := Lib.hid hbt; clear hbt
      have Hst := Lib.hid hst; clear hst
      go_wp2_with fail
      with_reducible refine (Hbt.out _ ho6.at).mono ?_
      rintro e v6 ⟨rfl, hb6⟩
      replace ho6 := ho6.keep hb6
      replace acc := belowTrans acc hb6 (Nat.le_refl _)
      clear hb6
      go_wp2_with fail
      with_reducible refine (Hst.out _ ho6.at).mono ?_
      rintro e v7 ⟨rfl, hb7⟩
      replace ho6 := ho6.keep hb7
      replace acc := belowTrans acc hb7 (Nat.le_refl _)
      clear hb7
      clear Hbt Hst
      clear ho6
      go_wp2_with fail
      with_reducible refine (Hf.out _ acc).mono ?_
      rintro e v8 ⟨t, rfl, ht, hb8⟩
      replace acc := belowTrans acc hb8 (Nat.le_refl _)
      clear hb8
      clear Hf
      have hi := fun W (q : LibOk W) => impl_ParseRow t W (by omega) q
      have hs := fun W => spec_ParseRow t W (by omega)
      have hfact := row_back (s := t)
      cases hq : (mParseRow t).2
      · skip
        simp only [hq] at hi hs
        clear hq hfact
        generalize (mParseRow t).1 = D at *
        have Hi := Lib.hid hi; clear hi
        have Hs := Lib.hid hs; clear hs
        go_wp2_with fail
        with_reducible refine (Hi.out _ (hL.keep acc)).mono ?_
        rintro e v9 ⟨pi, ni, ci, rfl, hoi, hb9⟩
        replace acc := belowTrans acc hb9 (Nat.le_refl _)
        clear hb9
        go_wp2_with fail
        with_reducible refine (Hs.out _).mono ?_
        rintro e v10 ⟨ps, ns, cs, rfl, hos, hb10⟩
        replace hoi := hoi.keep hb10
        replace acc := belowTrans acc hb10 (Nat.le_refl _)
        clear hb10
        have hc := xSame_any _ _ _ _ _ _ _ _ _ hoi.at hos.at
        rw [decide_eq_true rfl] at hc
        have Hc := Lib.hid hc; clear hc
        go_wp2_with fail
        with_reducible refine (Hc.out).mono ?_
        rintro e v11 ⟨rfl, hb11⟩
        replace hoi := hoi.keep hb11
        replace hos := hos.keep hb11
        replace acc := belowTrans acc hb11 (Nat.le_refl _)
        clear hb11
        clear Hc
        go_wp2
        go_ret
        exact ⟨rfl, acc⟩
      · skip
        simp only [hq] at hi hs
        obtain ⟨hk3, htx⟩ := hfact hq
        clear hq hfact
        generalize (mParseRow t).1 = D at *
        have hbt := fun a n c W h => impl_RowText a n c D W h
        simp only [mRText_yes hk3, htx] at hbt
        clear hk3 htx
        have Hbt := Lib.hid hbt; clear hbt
        have Hi := Lib.hid hi; clear hi
        have Hs := Lib.hid hs; clear hs
        go_wp2_with fail
        with_reducible refine (Hi.out _ (hL.keep acc)).mono ?_
        rintro e v9 ⟨pi, ni, ci, rfl, hoi, hb9⟩
        replace acc := belowTrans acc hb9 (Nat.le_refl _)
        clear hb9
        go_wp2_with fail
        with_reducible refine (Hs.out _).mono ?_
        rintro e v10 ⟨ps, ns, cs, rfl, hos, hb10⟩
        replace hoi := hoi.keep hb10
        replace acc := belowTrans acc hb10 (Nat.le_refl _)
        clear hb10
        have hc := xSame_any _ _ _ _ _ _ _ _ _ hoi.at hos.at
        rw [decide_eq_true rfl] at hc
        have Hc := Lib.hid hc; clear hc
        go_wp2_with fail
        with_reducible refine (Hc.out).mono ?_
        rintro e v11 ⟨rfl, hb11⟩
        replace hoi := hoi.keep hb11
        replace hos := hos.keep hb11
        replace acc := belowTrans acc hb11 (Nat.le_refl _)
        clear hb11
        clear Hc
        go_wp2_with fail
        with_reducible refine (Hbt.out _ _ _ _ hoi.at).mono ?_
        rintro e v12 ⟨rfl, hb12⟩
        replace hoi := hoi.keep hb12
        replace hos := hos.keep hb12
        replace acc := belowTrans acc hb12 (Nat.le_refl _)
        clear hb12
        go_wp2
        go_ret
        exact ⟨by simp, acc⟩
    · skip
      simp only [mRText_yes hk6] at hbt hst
      have hpb := fun W (q : LibOk W) => impl_ParseRow ⟨(textW zs).toArray⟩ W (by have := textW_small (row_iff.1 hk6); show (textW zs).toArray.size ≤ _; rw [List.size_toArray]; omega) q
      simp only [parse_row hk6] at hpb
      generalize (⟨(textW zs).toArray⟩ : ByteArray) = T at *
      clear hk6
      have Hpb := Lib.hid hpb; clear hpb
      have Hbt := Lib.hid hbt; clear hbt
      have Hst := Lib.hid hst; clear hst
      go_wp2_with fail
      with_reducible refine (Hbt.out _ ho6.at).mono ?_
      rintro e v6 ⟨rfl, hb6⟩
      replace ho6 := ho6.keep hb6
      replace acc := belowTrans acc hb6 (Nat.le_refl _)
      clear hb6
      go_wp2_with fail
      with_reducible refine (Hst.out _ ho6.at).mono ?_
      rintro e v7 ⟨rfl, hb7⟩
      replace ho6 := ho6.keep hb7
      replace acc := belowTrans acc hb7 (Nat.le_refl _)
      clear hb7
      clear Hbt Hst
      go_wp2_with fail
      with_reducible refine (Hpb.out _ (hL.keep acc)).mono ?_
      rintro e v8 ⟨pk, nk, ck, rfl, hok, hb8⟩
      replace ho6 := ho6.keep hb8
      replace acc := belowTrans acc hb8 (Nat.le_refl _)
      clear hb8
      have hc := xSame_any _ _ _ _ _ _ _ _ _ hok.at ho6.at
      rw [decide_eq_true rfl] at hc
      have Hc := Lib.hid hc; clear hc
      go_wp2_with fail
      with_reducible refine (Hc.out).mono ?_
      rintro e v9 ⟨rfl, hb9⟩
      replace ho6 := ho6.keep hb9
      replace hok := hok.keep hb9
      replace acc := belowTrans acc hb9 (Nat.le_refl _)
      clear hb9
      clear Hc
      clear hok
      clear Hpb
      clear ho6
      go_wp2_with fail
      with_reducible refine (Hf.out _ acc).mono ?_
      rintro e v10 ⟨t, rfl, ht, hb10⟩
      replace acc := belowTrans acc hb10 (Nat.le_refl _)
      clear hb10
      clear Hf
      have hi := fun W (q : LibOk W) => impl_ParseRow t W (by omega) q
      have hs := fun W => spec_ParseRow t W (by omega)
      have hfact := row_back (s := t)
      cases hq : (mParseRow t).2
      · skip
        simp only [hq] at hi hs
        clear hq hfact
        generalize (mParseRow t).1 = D at *
        have Hi := Lib.hid hi; clear hi
        have Hs := Lib.hid hs; clear hs
        go_wp2_with fail
        with_reducible refine (Hi.out _ (hL.keep acc)).mono ?_
        rintro e v11 ⟨pi, ni, ci, rfl, hoi, hb11⟩
        replace acc := belowTrans acc hb11 (Nat.le_refl _)
        clear hb11
        go_wp2_with fail
        with_reducible refine (Hs.out _).mono ?_
        rintro e v12 ⟨ps, ns, cs, rfl, hos, hb12⟩
        replace hoi := hoi.keep hb12
        replace acc := belowTrans acc hb12 (Nat.le_refl _)
        clear hb12
        have hc := xSame_any _ _ _ _ _ _ _ _ _ hoi.at hos.at
        rw [decide_eq_true rfl] at hc
        have Hc := Lib.hid hc; clear hc
        go_wp2_with fail
        with_reducible refine (Hc.out).mono ?_
        rintro e v13 ⟨rfl, hb13⟩
        replace hoi := hoi.keep hb13
        replace hos := hos.keep hb13
        replace acc := belowTrans acc hb13 (Nat.le_refl _)
        clear hb13
        clear Hc
        go_wp2
        go_ret
        exact ⟨rfl, acc⟩
      · skip
        simp only [hq] at hi hs
        obtain ⟨hk3, htx⟩ := hfact hq
        clear hq hfact
        generalize (mParseRow t).1 = D at *
        have hbt := fun a n c W h => impl_RowText a n c D W h
        simp only [mRText_yes hk3, htx] at hbt
        clear hk3 htx
        have Hbt := Lib.hid hbt; clear hbt
        have Hi := Lib.hid hi; clear hi
        have Hs := Lib.hid hs; clear hs
        go_wp2_with fail
        with_reducible refine (Hi.out _ (hL.keep acc)).mono ?_
        rintro e v11 ⟨pi, ni, ci, rfl, hoi, hb11⟩
        replace acc := belowTrans acc hb11 (Nat.le_refl _)
        clear hb11
        go_wp2_with fail
        with_reducible refine (Hs.out _).mono ?_
        rintro e v12 ⟨ps, ns, cs, rfl, hos, hb12⟩
        replace hoi := hoi.keep hb12
        replace acc := belowTrans acc hb12 (Nat.le_refl _)
        clear hb12
        have hc := xSame_any _ _ _ _ _ _ _ _ _ hoi.at hos.at
        rw [decide_eq_true rfl] at hc
        have Hc := Lib.hid hc; clear hc
        go_wp2_with fail
        with_reducible refine (Hc.out).mono ?_
        rintro e v13 ⟨rfl, hb13⟩
        replace hoi := hoi.keep hb13
        replace hos := hos.keep hb13
        replace acc := belowTrans acc hb13 (Nat.le_refl _)
        clear hb13
        clear Hc
        go_wp2_with fail
        with_reducible refine (Hbt.out _ _ _ _ hoi.at).mono ?_
        rintro e v14 ⟨rfl, hb14⟩
        replace hoi := hoi.keep hb14
        replace hos := hos.keep hb14
        replace acc := belowTrans acc hb14 (Nat.le_refl _)
        clear hb14
        go_wp2
        go_ret
        exact ⟨by simp, acc⟩
  · skip
    have gX := good_iff.1 hb
    obtain ⟨S, hS⟩ : ∃ S : Nat, xs.sum = S := ⟨xs.sum.toNat, by have := sum_nonneg gX.1; omega⟩
    have hS28 : S ≤ 28 := by have := gX.2.2; omega
    have hlen := gX.len
    have hl1 := ho1.length
    have hsm := fun W h => xSum_any p1 n1 c1 xs W h (by omega) (fun x hx => gX.mem hx)
    rw [hS] at hsm
    simp only [mROP_yes hb] at hi hs
    simp only [hb] at hp
    have hcr := fun W => impl_CountRows (S : Int) W
    simp only [mCR_yes S hS28] at hcr
    have hRR : (rowsR xs xs.length != rowsR xs xs.length) = false := by simp
    by_cases h10 : S ≤ 10
    · skip
      have hfin := rows_found gX hS h10
      rw [← hfin] at hi hs hRR
      have hC := cntR_le S (by omega)
      have hround : ∀ r, r < cntR S → ∀ W, Hid (Calls Tryz.prog 12 #[.int .i64 S, .int .i64 r] W fun e w' => ∃ ao' n' cap', e = .returned (.tuple #[.slice ao' n' cap', .bool true]) ∧ Own W.heap.size w'.heap.size w' ao' n' cap' (rowAt S r) ∧ Below W.heap.size W w') := fun r hr W => by
        have := impl_RowWith (S : Int) (r : Int) W
        have e : mRowWith (S : Int) (r : Int) = (rowAt S r, true) := mRW_yes hS28 hr
        rw [e] at this
        exact Lib.hid this
      have hsort : ∀ r a n c W, IntsAt W a n c (rowAt S r) → Hid (Calls Tryz.prog 13 #[.slice a n c] W fun e w' => ∃ ao' n' cap', e = .returned (.tuple #[.slice ao' n' cap', .bool true]) ∧ Own W.heap.size w'.heap.size w' ao' n' cap' (isort (rowAt S r)) ∧ Below W.heap.size W w') := fun r a n c W h => by
        have := impl_SortRow a n c (rowAt S r) W h
        rw [mSortR_yes (row_iff.2 (rowAt_row hS28).1), isort_eq] at this
        exact Lib.hid this
      have hFs := foundR_succ xs S
      have hFle := foundR_le xs S
      clear hfin gX hS hb hlen hl1 hn1
      generalize foundR xs S = F at *
      generalize hCC : cntR S = C at *
      clear hCC
      have HFs := Lib.hid hFs; clear hFs
      have HFle := Lib.hid hFle; clear hFle
      have Hsm := Lib.hid hsm; clear hsm
      have Hcr := Lib.hid hcr; clear hcr
      have Hi := Lib.hid hi; clear hi
      have Hs := Lib.hid hs; clear hs
      have Hp := Lib.hid hp; clear hp
      go_wp2_with fail
      with_reducible refine (Hi.out _ ho1.at).mono ?_
      rintro e v2 ⟨rfl, hb2⟩
      replace ho1 := ho1.keep hb2
      replace acc := belowTrans acc hb2 (Nat.le_refl _)
      clear hb2
      go_wp2_with fail
      with_reducible refine (Hs.out _ ho1.at).mono ?_
      rintro e v3 ⟨rfl, hb3⟩
      replace ho1 := ho1.keep hb3
      replace acc := belowTrans acc hb3 (Nat.le_refl _)
      clear hb3
      go_wp2_with fail
      with_reducible refine (Hp.out _ ho1.at).mono ?_
      rintro e v4 ⟨rfl, hb4⟩
      replace ho1 := ho1.keep hb4
      replace acc := belowTrans acc hb4 (Nat.le_refl _)
      clear hb4
      clear Hi Hs Hp
      go_wp2_with fail
      with_reducible refine (Hsm.out _ ho1.at).mono ?_
      rintro e w' ⟨rfl, rfl⟩
      go_wp2_with fail
      with_reducible refine (Hcr.out _).mono ?_
      rintro e v5 ⟨rfl, hb5⟩
      replace ho1 := ho1.keep hb5
      replace acc := belowTrans acc hb5 (Nat.le_refl _)
      clear hb5
      clear Hsm Hcr
      obtain ⟨wo, hwo⟩ : ∃ wo : World, wo = v5 := ⟨_, rfl⟩
      subst hwo
      have ho9 := ho1
      go_wp2_with fail
      go_loopw [13, 14] (fun f i wr => ∃ J : Nat, J ≤ C ∧ f = .int .i64 (F J : Nat) ∧ i = .int .i64 J ∧ Below w.heap.size w wr ∧ Below wo.heap.size wo wr) (fun _ i _ => C - (intOf i).toNat)
      case atStart => exact ⟨0, Nat.zero_le _, by rw [show F 0 = 0 by have := HFle.out 0; omega]; rfl, rfl, acc, Below.refl _ _⟩
      case round =>
        obtain ⟨J, hJ, rfl, rfl, hbw, hbo⟩ := hrel
        have hF1 := HFle.out J
        by_cases hlt : J < C
        · skip
          replace ho1 := ho1.keep hbo
          have Hrw := hround J hlt
          have Hso := hsort J
          have hstep := HFs.out J
          generalize rowAt S J = us at Hrw Hso hstep
          generalize isort us = vs at Hso hstep
          clear hround hsort
          go_wp2_with fail
          with_reducible refine ((Hrw _).out).mono ?_
          rintro e v6 ⟨pu, nu, cu, rfl, hou, hb6⟩
          replace ho1 := ho1.keep hb6
          replace hbw := belowTrans hbw hb6 (Nat.le_refl _)
          replace hbo := belowTrans hbo hb6 (Nat.le_refl _)
          clear hb6
          go_wp2_with fail
          with_reducible refine ((Hso _ _ _ _ hou.at).out).mono ?_
          rintro e v7 ⟨pv, nv, cv, rfl, hov, hb7⟩
          replace ho1 := ho1.keep hb7
          replace hou := hou.keep hb7
          replace hbw := belowTrans hbw hb7 (Nat.le_refl _)
          replace hbo := belowTrans hbo hb7 (Nat.le_refl _)
          clear hb7
          clear Hrw Hso
          have hc := xSame_any _ _ _ _ _ _ _ _ _ hov.at ho1.at
          by_cases hvx : vs = xs
          · rw [decide_eq_true hvx] at hc
            rw [if_pos hvx] at hstep
            have hY : F (J + 1) = F J + 1 := hstep
            clear hstep hvx
            have Hc := Lib.hid hc; clear hc
            go_wp2_with fail
            with_reducible refine (Hc.out).mono ?_
            rintro e v8 ⟨rfl, hb8⟩
            replace ho1 := ho1.keep hb8
            replace hou := hou.keep hb8
            replace hov := hov.keep hb8
            replace hbw := belowTrans hbw hb8 (Nat.le_refl _)
            replace hbo := belowTrans hbo hb8 (Nat.le_refl _)
            clear hb8
            go_wp2
            go_roundw
            case rel => exact ⟨J + 1, by omega, by rw [hY]; go_num, by go_num, hbw, hbo⟩
            case measure => simp [intOf] <;> omega
          · rw [decide_eq_false hvx] at hc
            rw [if_neg hvx] at hstep
            have hY : F (J + 1) = F J := hstep
            clear hstep hvx
            have Hc := Lib.hid hc; clear hc
            go_wp2_with fail
            with_reducible refine (Hc.out).mono ?_
            rintro e v8 ⟨rfl, hb8⟩
            replace ho1 := ho1.keep hb8
            replace hou := hou.keep hb8
            replace hov := hov.keep hb8
            replace hbw := belowTrans hbw hb8 (Nat.le_refl _)
            replace hbo := belowTrans hbo hb8 (Nat.le_refl _)
            clear hb8
            go_wp2
            go_roundw
            case rel => exact ⟨J + 1, by omega, by rw [hY], by go_num, hbw, hbo⟩
            case measure => simp [intOf] <;> omega
        · skip
          obtain rfl : C = J := by omega
          generalize F C = X at *
          clear ho1 ho9 hround hsort hbo HFs HFle hC
          have acc := hbw
          clear hbw
          go_wp2_with fail
          with_reducible refine (He.out _ acc).mono ?_
          rintro e v6 ⟨p6, n6, c6, zs, rfl, ho6, hn6, hb6⟩
          replace acc := belowTrans acc hb6 (Nat.le_refl _)
          clear hb6
          clear He
          have hbt := fun W hA => impl_RowText p6 n6 c6 zs W hA
          have hst := fun W hA => spec_RowText p6 n6 c6 zs W hA
          cases hk6 : rowB zs
          · skip
            simp only [mRText_no hk6] at hbt hst
            clear hk6
            have Hbt := Lib.hid hbt; clear hbt
            have Hst := Lib.hid hst; clear hst
            go_wp2_with fail
            with_reducible refine (Hbt.out _ ho6.at).mono ?_
            rintro e v7 ⟨rfl, hb7⟩
            replace ho6 := ho6.keep hb7
            replace acc := belowTrans acc hb7 (Nat.le_refl _)
            clear hb7
            go_wp2_with fail
            with_reducible refine (Hst.out _ ho6.at).mono ?_
            rintro e v8 ⟨rfl, hb8⟩
            replace ho6 := ho6.keep hb8
            replace acc := belowTrans acc hb8 (Nat.le_refl _)
            clear hb8
            clear Hbt Hst
            clear ho6
            go_wp2_with fail
            with_reducible refine (Hf.out _ acc).mono ?_
            rintro e v9 ⟨t, rfl, ht, hb9⟩
            replace acc := belowTrans acc hb9 (Nat.le_refl _)
            clear hb9
            clear Hf
            have hi := fun W (q : LibOk W) => impl_ParseRow t W (by omega) q
            have hs := fun W => spec_ParseRow t W (by omega)
            have hfact := row_back (s := t)
            cases hq : (mParseRow t).2
            · skip
              simp only [hq] at hi hs
              clear hq hfact
              generalize (mParseRow t).1 = D at *
              have Hi := Lib.hid hi; clear hi
              have Hs := Lib.hid hs; clear hs
              go_wp2_with fail
              with_reducible refine (Hi.out _ (hL.keep acc)).mono ?_
              rintro e v10 ⟨pi, ni, ci, rfl, hoi, hb10⟩
              replace acc := belowTrans acc hb10 (Nat.le_refl _)
              clear hb10
              go_wp2_with fail
              with_reducible refine (Hs.out _).mono ?_
              rintro e v11 ⟨ps, ns, cs, rfl, hos, hb11⟩
              replace hoi := hoi.keep hb11
              replace acc := belowTrans acc hb11 (Nat.le_refl _)
              clear hb11
              have hc := xSame_any _ _ _ _ _ _ _ _ _ hoi.at hos.at
              rw [decide_eq_true rfl] at hc
              have Hc := Lib.hid hc; clear hc
              go_wp2_with fail
              with_reducible refine (Hc.out).mono ?_
              rintro e v12 ⟨rfl, hb12⟩
              replace hoi := hoi.keep hb12
              replace hos := hos.keep hb12
              replace acc := belowTrans acc hb12 (Nat.le_refl _)
              clear hb12
              clear Hc
              go_wp2
              go_ret
              exact ⟨rfl, acc⟩
            · skip
              simp only [hq] at hi hs
              obtain ⟨hk3, htx⟩ := hfact hq
              clear hq hfact
              generalize (mParseRow t).1 = D at *
              have hbt := fun a n c W h => impl_RowText a n c D W h
              simp only [mRText_yes hk3, htx] at hbt
              clear hk3 htx
              have Hbt := Lib.hid hbt; clear hbt
              have Hi := Lib.hid hi; clear hi
              have Hs := Lib.hid hs; clear hs
              go_wp2_with fail
              with_reducible refine (Hi.out _ (hL.keep acc)).mono ?_
              rintro e v10 ⟨pi, ni, ci, rfl, hoi, hb10⟩
              replace acc := belowTrans acc hb10 (Nat.le_refl _)
              clear hb10
              go_wp2_with fail
              with_reducible refine (Hs.out _).mono ?_
              rintro e v11 ⟨ps, ns, cs, rfl, hos, hb11⟩
              replace hoi := hoi.keep hb11
              replace acc := belowTrans acc hb11 (Nat.le_refl _)
              clear hb11
              have hc := xSame_any _ _ _ _ _ _ _ _ _ hoi.at hos.at
              rw [decide_eq_true rfl] at hc
              have Hc := Lib.hid hc; clear hc
              go_wp2_with fail
              with_reducible refine (Hc.out).mono ?_
              rintro e v12 ⟨rfl, hb12⟩
              replace hoi := hoi.keep hb12
              replace hos := hos.keep hb12
              replace acc := belowTrans acc hb12 (Nat.le_refl _)
              clear hb12
              clear Hc
              go_wp2_with fail
              with_reducible refine (Hbt.out _ _ _ _ hoi.at).mono ?_
              rintro e v13 ⟨rfl, hb13⟩
              replace hoi := hoi.keep hb13
              replace hos := hos.keep hb13
              replace acc := belowTrans acc hb13 (Nat.le_refl _)
              clear hb13
              go_wp2
              go_ret
              exact ⟨by simp, acc⟩
          · skip
            simp only [mRText_yes hk6] at hbt hst
            have hpb := fun W (q : LibOk W) => impl_ParseRow ⟨(textW zs).toArray⟩ W (by have := textW_small (row_iff.1 hk6); show (textW zs).toArray.size ≤ _; rw [List.size_toArray]; omega) q
            simp only [parse_row hk6] at hpb
            generalize (⟨(textW zs).toArray⟩ : ByteArray) = T at *
            clear hk6
            have Hpb := Lib.hid hpb; clear hpb
            have Hbt := Lib.hid hbt; clear hbt
            have Hst := Lib.hid hst; clear hst
            go_wp2_with fail
            with_reducible refine (Hbt.out _ ho6.at).mono ?_
            rintro e v7 ⟨rfl, hb7⟩
            replace ho6 := ho6.keep hb7
            replace acc := belowTrans acc hb7 (Nat.le_refl _)
            clear hb7
            go_wp2_with fail
            with_reducible refine (Hst.out _ ho6.at).mono ?_
            rintro e v8 ⟨rfl, hb8⟩
            replace ho6 := ho6.keep hb8
            replace acc := belowTrans acc hb8 (Nat.le_refl _)
            clear hb8
            clear Hbt Hst
            go_wp2_with fail
            with_reducible refine (Hpb.out _ (hL.keep acc)).mono ?_
            rintro e v9 ⟨pk, nk, ck, rfl, hok, hb9⟩
            replace ho6 := ho6.keep hb9
            replace acc := belowTrans acc hb9 (Nat.le_refl _)
            clear hb9
            have hc := xSame_any _ _ _ _ _ _ _ _ _ hok.at ho6.at
            rw [decide_eq_true rfl] at hc
            have Hc := Lib.hid hc; clear hc
            go_wp2_with fail
            with_reducible refine (Hc.out).mono ?_
            rintro e v10 ⟨rfl, hb10⟩
            replace ho6 := ho6.keep hb10
            replace hok := hok.keep hb10
            replace acc := belowTrans acc hb10 (Nat.le_refl _)
            clear hb10
            clear Hc
            clear hok
            clear Hpb
            clear ho6
            go_wp2_with fail
            with_reducible refine (Hf.out _ acc).mono ?_
            rintro e v11 ⟨t, rfl, ht, hb11⟩
            replace acc := belowTrans acc hb11 (Nat.le_refl _)
            clear hb11
            clear Hf
            have hi := fun W (q : LibOk W) => impl_ParseRow t W (by omega) q
            have hs := fun W => spec_ParseRow t W (by omega)
            have hfact := row_back (s := t)
            cases hq : (mParseRow t).2
            · skip
              simp only [hq] at hi hs
              clear hq hfact
              generalize (mParseRow t).1 = D at *
              have Hi := Lib.hid hi; clear hi
              have Hs := Lib.hid hs; clear hs
              go_wp2_with fail
              with_reducible refine (Hi.out _ (hL.keep acc)).mono ?_
              rintro e v12 ⟨pi, ni, ci, rfl, hoi, hb12⟩
              replace acc := belowTrans acc hb12 (Nat.le_refl _)
              clear hb12
              go_wp2_with fail
              with_reducible refine (Hs.out _).mono ?_
              rintro e v13 ⟨ps, ns, cs, rfl, hos, hb13⟩
              replace hoi := hoi.keep hb13
              replace acc := belowTrans acc hb13 (Nat.le_refl _)
              clear hb13
              have hc := xSame_any _ _ _ _ _ _ _ _ _ hoi.at hos.at
              rw [decide_eq_true rfl] at hc
              have Hc := Lib.hid hc; clear hc
              go_wp2_with fail
              with_reducible refine (Hc.out).mono ?_
              rintro e v14 ⟨rfl, hb14⟩
              replace hoi := hoi.keep hb14
              replace hos := hos.keep hb14
              replace acc := belowTrans acc hb14 (Nat.le_refl _)
              clear hb14
              clear Hc
              go_wp2
              go_ret
              exact ⟨rfl, acc⟩
            · skip
              simp only [hq] at hi hs
              obtain ⟨hk3, htx⟩ := hfact hq
              clear hq hfact
              generalize (mParseRow t).1 = D at *
              have hbt := fun a n c W h => impl_RowText a n c D W h
              simp only [mRText_yes hk3, htx] at hbt
              clear hk3 htx
              have Hbt := Lib.hid hbt; clear hbt
              have Hi := Lib.hid hi; clear hi
              have Hs := Lib.hid hs; clear hs
              go_wp2_with fail
              with_reducible refine (Hi.out _ (hL.keep acc)).mono ?_
              rintro e v12 ⟨pi, ni, ci, rfl, hoi, hb12⟩
              replace acc := belowTrans acc hb12 (Nat.le_refl _)
              clear hb12
              go_wp2_with fail
              with_reducible refine (Hs.out _).mono ?_
              rintro e v13 ⟨ps, ns, cs, rfl, hos, hb13⟩
              replace hoi := hoi.keep hb13
              replace acc := belowTrans acc hb13 (Nat.le_refl _)
              clear hb13
              have hc := xSame_any _ _ _ _ _ _ _ _ _ hoi.at hos.at
              rw [decide_eq_true rfl] at hc
              have Hc := Lib.hid hc; clear hc
              go_wp2_with fail
              with_reducible refine (Hc.out).mono ?_
              rintro e v14 ⟨rfl, hb14⟩
              replace hoi := hoi.keep hb14
              replace hos := hos.keep hb14
              replace acc := belowTrans acc hb14 (Nat.le_refl _)
              clear hb14
              clear Hc
              go_wp2_with fail
              with_reducible refine (Hbt.out _ _ _ _ hoi.at).mono ?_
              rintro e v15 ⟨rfl, hb15⟩
              replace hoi := hoi.keep hb15
              replace hos := hos.keep hb15
              replace acc := belowTrans acc hb15 (Nat.le_refl _)
              clear hb15
              go_wp2
              go_ret
              exact ⟨by simp, acc⟩
    · skip
      have hS10 : ¬ (S : Int) ≤ 10 := by omega
      clear gX hS hb hlen hl1 hn1 h10
      generalize rowsR xs xs.length = R at *
      have Hsm := Lib.hid hsm; clear hsm
      have Hi := Lib.hid hi; clear hi
      have Hs := Lib.hid hs; clear hs
      have Hp := Lib.hid hp; clear hp
      go_wp2_with fail
      with_reducible refine (Hi.out _ ho1.at).mono ?_
      rintro e v2 ⟨rfl, hb2⟩
      replace ho1 := ho1.keep hb2
      replace acc := belowTrans acc hb2 (Nat.le_refl _)
      clear hb2
      go_wp2_with fail
      with_reducible refine (Hs.out _ ho1.at).mono ?_
      rintro e v3 ⟨rfl, hb3⟩
      replace ho1 := ho1.keep hb3
      replace acc := belowTrans acc hb3 (Nat.le_refl _)
      clear hb3
      go_wp2_with fail
      with_reducible refine (Hp.out _ ho1.at).mono ?_
      rintro e v4 ⟨rfl, hb4⟩
      replace ho1 := ho1.keep hb4
      replace acc := belowTrans acc hb4 (Nat.le_refl _)
      clear hb4
      clear Hi Hs Hp
      go_wp2_with fail
      with_reducible refine (Hsm.out _ ho1.at).mono ?_
      rintro e w' ⟨rfl, rfl⟩
      clear ho1
      clear Hsm hcr
      go_wp2_with fail
      with_reducible refine (He.out _ acc).mono ?_
      rintro e v5 ⟨p6, n6, c6, zs, rfl, ho6, hn6, hb5⟩
      replace acc := belowTrans acc hb5 (Nat.le_refl _)
      clear hb5
      clear He
      have hbt := fun W hA => impl_RowText p6 n6 c6 zs W hA
      have hst := fun W hA => spec_RowText p6 n6 c6 zs W hA
      cases hk6 : rowB zs
      · skip
        simp only [mRText_no hk6] at hbt hst
        clear hk6
        have Hbt := Lib.hid hbt; clear hbt
        have Hst := Lib.hid hst; clear hst
        go_wp2_with fail
        with_reducible refine (Hbt.out _ ho6.at).mono ?_
        rintro e v6 ⟨rfl, hb6⟩
        replace ho6 := ho6.keep hb6
        replace acc := belowTrans acc hb6 (Nat.le_refl _)
        clear hb6
        go_wp2_with fail
        with_reducible refine (Hst.out _ ho6.at).mono ?_
        rintro e v7 ⟨rfl, hb7⟩
        replace ho6 := ho6.keep hb7
        replace acc := belowTrans acc hb7 (Nat.le_refl _)
        clear hb7
        clear Hbt Hst
        clear ho6
        go_wp2_with fail
        with_reducible refine (Hf.out _ acc).mono ?_
        rintro e v8 ⟨t, rfl, ht, hb8⟩
        replace acc := belowTrans acc hb8 (Nat.le_refl _)
        clear hb8
        clear Hf
        have hi := fun W (q : LibOk W) => impl_ParseRow t W (by omega) q
        have hs := fun W => spec_ParseRow t W (by omega)
        have hfact := row_back (s := t)
        cases hq : (mParseRow t).2
        · skip
          simp only [hq] at hi hs
          clear hq hfact
          generalize (mParseRow t).1 = D at *
          have Hi := Lib.hid hi; clear hi
          have Hs := Lib.hid hs; clear hs
          go_wp2_with fail
          with_reducible refine (Hi.out _ (hL.keep acc)).mono ?_
          rintro e v9 ⟨pi, ni, ci, rfl, hoi, hb9⟩
          replace acc := belowTrans acc hb9 (Nat.le_refl _)
          clear hb9
          go_wp2_with fail
          with_reducible refine (Hs.out _).mono ?_
          rintro e v10 ⟨ps, ns, cs, rfl, hos, hb10⟩
          replace hoi := hoi.keep hb10
          replace acc := belowTrans acc hb10 (Nat.le_refl _)
          clear hb10
          have hc := xSame_any _ _ _ _ _ _ _ _ _ hoi.at hos.at
          rw [decide_eq_true rfl] at hc
          have Hc := Lib.hid hc; clear hc
          go_wp2_with fail
          with_reducible refine (Hc.out).mono ?_
          rintro e v11 ⟨rfl, hb11⟩
          replace hoi := hoi.keep hb11
          replace hos := hos.keep hb11
          replace acc := belowTrans acc hb11 (Nat.le_refl _)
          clear hb11
          clear Hc
          go_wp2
          go_ret
          exact ⟨rfl, acc⟩
        · skip
          simp only [hq] at hi hs
          obtain ⟨hk3, htx⟩ := hfact hq
          clear hq hfact
          generalize (mParseRow t).1 = D at *
          have hbt := fun a n c W h => impl_RowText a n c D W h
          simp only [mRText_yes hk3, htx] at hbt
          clear hk3 htx
          have Hbt := Lib.hid hbt; clear hbt
          have Hi := Lib.hid hi; clear hi
          have Hs := Lib.hid hs; clear hs
          go_wp2_with fail
          with_reducible refine (Hi.out _ (hL.keep acc)).mono ?_
          rintro e v9 ⟨pi, ni, ci, rfl, hoi, hb9⟩
          replace acc := belowTrans acc hb9 (Nat.le_refl _)
          clear hb9
          go_wp2_with fail
          with_reducible refine (Hs.out _).mono ?_
          rintro e v10 ⟨ps, ns, cs, rfl, hos, hb10⟩
          replace hoi := hoi.keep hb10
          replace acc := belowTrans acc hb10 (Nat.le_refl _)
          clear hb10
          have hc := xSame_any _ _ _ _ _ _ _ _ _ hoi.at hos.at
          rw [decide_eq_true rfl] at hc
          have Hc := Lib.hid hc; clear hc
          go_wp2_with fail
          with_reducible refine (Hc.out).mono ?_
          rintro e v11 ⟨rfl, hb11⟩
          replace hoi := hoi.keep hb11
          replace hos := hos.keep hb11
          replace acc := belowTrans acc hb11 (Nat.le_refl _)
          clear hb11
          clear Hc
          go_wp2_with fail
          with_reducible refine (Hbt.out _ _ _ _ hoi.at).mono ?_
          rintro e v12 ⟨rfl, hb12⟩
          replace hoi := hoi.keep hb12
          replace hos := hos.keep hb12
          replace acc := belowTrans acc hb12 (Nat.le_refl _)
          clear hb12
          go_wp2
          go_ret
          exact ⟨by simp, acc⟩
      · skip
        simp only [mRText_yes hk6] at hbt hst
        have hpb := fun W (q : LibOk W) => impl_ParseRow ⟨(textW zs).toArray⟩ W (by have := textW_small (row_iff.1 hk6); show (textW zs).toArray.size ≤ _; rw [List.size_toArray]; omega) q
        simp only [parse_row hk6] at hpb
        generalize (⟨(textW zs).toArray⟩ : ByteArray) = T at *
        clear hk6
        have Hpb := Lib.hid hpb; clear hpb
        have Hbt := Lib.hid hbt; clear hbt
        have Hst := Lib.hid hst; clear hst
        go_wp2_with fail
        with_reducible refine (Hbt.out _ ho6.at).mono ?_
        rintro e v6 ⟨rfl, hb6⟩
        replace ho6 := ho6.keep hb6
        replace acc := belowTrans acc hb6 (Nat.le_refl _)
        clear hb6
        go_wp2_with fail
        with_reducible refine (Hst.out _ ho6.at).mono ?_
        rintro e v7 ⟨rfl, hb7⟩
        replace ho6 := ho6.keep hb7
        replace acc := belowTrans acc hb7 (Nat.le_refl _)
        clear hb7
        clear Hbt Hst
        go_wp2_with fail
        with_reducible refine (Hpb.out _ (hL.keep acc)).mono ?_
        rintro e v8 ⟨pk, nk, ck, rfl, hok, hb8⟩
        replace ho6 := ho6.keep hb8
        replace acc := belowTrans acc hb8 (Nat.le_refl _)
        clear hb8
        have hc := xSame_any _ _ _ _ _ _ _ _ _ hok.at ho6.at
        rw [decide_eq_true rfl] at hc
        have Hc := Lib.hid hc; clear hc
        go_wp2_with fail
        with_reducible refine (Hc.out).mono ?_
        rintro e v9 ⟨rfl, hb9⟩
        replace ho6 := ho6.keep hb9
        replace hok := hok.keep hb9
        replace acc := belowTrans acc hb9 (Nat.le_refl _)
        clear hb9
        clear Hc
        clear hok
        clear Hpb
        clear ho6
        go_wp2_with fail
        with_reducible refine (Hf.out _ acc).mono ?_
        rintro e v10 ⟨t, rfl, ht, hb10⟩
        replace acc := belowTrans acc hb10 (Nat.le_refl _)
        clear hb10
        clear Hf
        have hi := fun W (q : LibOk W) => impl_ParseRow t W (by omega) q
        have hs := fun W => spec_ParseRow t W (by omega)
        have hfact := row_back (s := t)
        cases hq : (mParseRow t).2
        · skip
          simp only [hq] at hi hs
          clear hq hfact
          generalize (mParseRow t).1 = D at *
          have Hi := Lib.hid hi; clear hi
          have Hs := Lib.hid hs; clear hs
          go_wp2_with fail
          with_reducible refine (Hi.out _ (hL.keep acc)).mono ?_
          rintro e v11 ⟨pi, ni, ci, rfl, hoi, hb11⟩
          replace acc := belowTrans acc hb11 (Nat.le_refl _)
          clear hb11
          go_wp2_with fail
          with_reducible refine (Hs.out _).mono ?_
          rintro e v12 ⟨ps, ns, cs, rfl, hos, hb12⟩
          replace hoi := hoi.keep hb12
          replace acc := belowTrans acc hb12 (Nat.le_refl _)
          clear hb12
          have hc := xSame_any _ _ _ _ _ _ _ _ _ hoi.at hos.at
          rw [decide_eq_true rfl] at hc
          have Hc := Lib.hid hc; clear hc
          go_wp2_with fail
          with_reducible refine (Hc.out).mono ?_
          rintro e v13 ⟨rfl, hb13⟩
          replace hoi := hoi.keep hb13
          replace hos := hos.keep hb13
          replace acc := belowTrans acc hb13 (Nat.le_refl _)
          clear hb13
          clear Hc
          go_wp2
          go_ret
          exact ⟨rfl, acc⟩
        · skip
          simp only [hq] at hi hs
          obtain ⟨hk3, htx⟩ := hfact hq
          clear hq hfact
          generalize (mParseRow t).1 = D at *
          have hbt := fun a n c W h => impl_RowText a n c D W h
          simp only [mRText_yes hk3, htx] at hbt
          clear hk3 htx
          have Hbt := Lib.hid hbt; clear hbt
          have Hi := Lib.hid hi; clear hi
          have Hs := Lib.hid hs; clear hs
          go_wp2_with fail
          with_reducible refine (Hi.out _ (hL.keep acc)).mono ?_
          rintro e v11 ⟨pi, ni, ci, rfl, hoi, hb11⟩
          replace acc := belowTrans acc hb11 (Nat.le_refl _)
          clear hb11
          go_wp2_with fail
          with_reducible refine (Hs.out _).mono ?_
          rintro e v12 ⟨ps, ns, cs, rfl, hos, hb12⟩
          replace hoi := hoi.keep hb12
          replace acc := belowTrans acc hb12 (Nat.le_refl _)
          clear hb12
          have hc := xSame_any _ _ _ _ _ _ _ _ _ hoi.at hos.at
          rw [decide_eq_true rfl] at hc
          have Hc := Lib.hid hc; clear hc
          go_wp2_with fail
          with_reducible refine (Hc.out).mono ?_
          rintro e v13 ⟨rfl, hb13⟩
          replace hoi := hoi.keep hb13
          replace hos := hos.keep hb13
          replace acc := belowTrans acc hb13 (Nat.le_refl _)
          clear hb13
          clear Hc
          go_wp2_with fail
          with_reducible refine (Hbt.out _ _ _ _ hoi.at).mono ?_
          rintro e v14 ⟨rfl, hb14⟩
          replace hoi := hoi.keep hb14
          replace hos := hos.keep hb14
          replace acc := belowTrans acc hb14 (Nat.le_refl _)
          clear hb14
          go_wp2
          go_ret
          exact ⟨by simp, acc⟩

/-! ### The row's step -/
set_option maxRecDepth 100000 in
/-- The contract, at a world that is shaped and holds what the row lists. -/
theorem step {H : Type} {enc : TypeId × Value → H} (W : World) (base : Nat) (args : Array Value) (ds gs : List (DataW H)) (before : List MemPlace)
    (hval0 : ∀ (j : Nat) t v, Tryz.f3.params[j]? = some t → args[j]? = some v → Value.okWide Tryz.prog W .any base t v)
    (hW : DataW.Whole enc Tryz.prog Tryz.f3.params.toList Rows.fnRowsOfPilesSpec.vars false W args.toList ds gs before)
    (hL : laidMetH Tryz.prog Rows.fnRowsOfPilesRow.laid W) (hsh : W.ShapedOpen Tryz.prog) :
    Calls Tryz.prog 3 args W fun e W' => ∃ v, e = .returned v ∧ Rows.fnRowsOfPilesSpec.post enc Tryz.prog Tryz.f3 false true false false W args v W' := by
  have hval : ∀ (j : Nat) t v, Tryz.f3.params[j]? = some t → args[j]? = some v → Value.okWide Tryz.prog W .any base t v := hval0
  have hW' := hW
  obtain ⟨p, q, hA0, hV, rfl, hfz, hnd⟩ := hW
  have hA : DataW.TrodAll enc Tryz.prog W 0 (fun _ => true) true Tryz.f3.params.toList args.toList ds p := hA0
  rw [Tryz.params3] at hA hval
  obtain ⟨v0, vs0, d0, ds0, p0, q0, hargs, rfl, rfl, h0, r0⟩ := trodAll_cons hA
  obtain ⟨v1, vs1, d1, ds1, p1, q1, rfl, rfl, rfl, h1, r1⟩ := trodAll_cons r0
  obtain ⟨rfl, rfl, rfl⟩ := trodAll_nil r1
  obtain rfl : args = #[v0, v1] := by cases args; simp_all
  obtain ⟨rfl, rfl⟩ := trodVars_none hV
  obtain ⟨a0, len0, cap0, rfl⟩ := okWide_slice Tryz.underlying22 (hval 0 22 v0 rfl rfl)
  have k0 := h0
  have lt0 : ∀ x ∈ p0, x.block < W.heap.size := by obtain ⟨m, hm⟩ := k0; exact DataW.trod_lt m _ _ _ hm
  obtain ⟨z0, w0⟩ : ∃ zs, IsRow .u8 W a0 len0 cap0 zs := by
    obtain ⟨fuel, hf⟩ := h0
    rcases open_ints Tryz.underlying22 Tryz.underlying5 (by kernel_rfl) hf with ⟨hcs, _⟩ | ⟨x, l, c, zs, hcs, _, hl, hm, hz, _, hcell, hwz⟩
    · simp [Value.cells] at hcs
      obtain ⟨rfl, rfl, rfl⟩ := hcs
      exact ⟨[], .inl ⟨rfl, rfl, rfl, rfl⟩⟩
    · simp [Value.cells] at hcs
      obtain ⟨rfl, rfl, rfl⟩ := hcs
      exact ⟨zs, .inr ⟨_, rfl, hl, hm, by simpa using hz, hcell, hwz⟩⟩
  obtain ⟨a1, len1, cap1, rfl⟩ := okWide_slice Tryz.underlying22 (hval 1 22 v1 rfl rfl)
  have k1 := h1
  have lt1 : ∀ x ∈ p1, x.block < W.heap.size := by obtain ⟨m, hm⟩ := k1; exact DataW.trod_lt m _ _ _ hm
  obtain ⟨z1, w1⟩ : ∃ zs, IsRow .u8 W a1 len1 cap1 zs := by
    obtain ⟨fuel, hf⟩ := h1
    rcases open_ints Tryz.underlying22 Tryz.underlying5 (by kernel_rfl) hf with ⟨hcs, _⟩ | ⟨x, l, c, zs, hcs, _, hl, hm, hz, _, hcell, hwz⟩
    · simp [Value.cells] at hcs
      obtain ⟨rfl, rfl, rfl⟩ := hcs
      exact ⟨[], .inl ⟨rfl, rfl, rfl, rfl⟩⟩
    · simp [Value.cells] at hcs
      obtain ⟨rfl, rfl, rfl⟩ := hcs
      exact ⟨zs, .inr ⟨_, rfl, hl, hm, by simpa using hz, hcell, hwz⟩⟩
  clear hA0 hval0
  refine (walk a0 len0 cap0 z0 a1 len1 cap1 z1 W w0 w1 (libOk_of hL hsh)).mono fun e W' ⟨he, bel⟩ => ?_
  subst he
  exact ⟨_, rfl, _, _, _, [], _, [], hW', trodAll_mk1 (shut_bool Tryz.underlying4 _), (trodAll_cons_mk (Below.trod laidOut (by kernel_rfl) (of_decide_eq_true (by kernel_rfl)) k0 bel lt0) (trodAll_cons_mk (Below.trod laidOut (by kernel_rfl) (of_decide_eq_true (by kernel_rfl)) k1 bel lt1) trodAll_mk0)), rfl, bel.frame _, fun h => by cases h⟩

set_option maxRecDepth 100000 in
theorem met (os : Os) (args : Array Value) : laidMetH Tryz.prog Rows.fnRowsOfPilesRow.laid ((World.laidAll Tryz.prog os Rows.fnRowsOfPilesRow.laid).forCall (fun _ _ => 0) ⟨#[], args, []⟩).memory := by
  rw [MakeChecks.laidMetH_plain _ _ _ (by kernel_rfl)]
  exact laidMet_laidAll _ (by kernel_rfl) (by kernel_rfl)

set_option maxRecDepth 100000 in
theorem lifted (os : Os) (started : os.Started) (H : Type) (enc : TypeId × Value → H) :
    ReturnsInHanded {} Tryz.checked os 3 .any (fun w args => (Rows.fnRowsOfPilesSpec.pre enc Tryz.prog Tryz.f3 [] false w args ∧ laidMetH Tryz.prog Rows.fnRowsOfPilesRow.laid w) ∧ sizedMet enc Tryz.prog Tryz.f3 (OpenSpec.ofChange Rows.fnRowsOfPilesSpec) false w args)
      (Rows.fnRowsOfPilesSpec.post enc Tryz.prog Tryz.f3 false true false false) := by
  refine returnsInHanded_of_calls (C := Tryz.checked) own started (by kernel_rfl)
    (ChangeSpec.witness_shaped (enc := enc) (C := Tryz.checked) (os := os) (X := fun w _ => laidMetH Tryz.prog Rows.fnRowsOfPilesRow.laid w) false (World.laidAll Tryz.prog os Rows.fnRowsOfPilesRow.laid) #[.slice none 0 0, .slice none 0 0] 8 (World.laidAll_os _ _ _)
      (World.shaped_of_ZipB (by kernel_rfl) (by kernel_rfl)) (by kernel_rfl) (by kernel_rfl) (by kernel_rfl) (met os _)) ?_
  intro w tape i _ hsh _ hok hpre _
  obtain ⟨_, _, _, fn', hfn', _, _, _, _, hval⟩ := hok
  have e : fn' = Tryz.f3 := Option.some.inj (hfn'.symm.trans Tryz.func3)
  subst e
  obtain ⟨⟨⟨ds, gs, before, hw, _⟩, hx⟩, _⟩ := hpre
  have hw' := DataW.Whole.of_heap (w' := w.forCall tape i) (by rfl) hw
  refine (step (enc := enc) (w.forCall tape i) w.heap.size i.args ds gs before hval hw' (hx.of_heap (by rfl)) hsh).mono fun e W' ⟨v, he, hp⟩ => ?_
  subst he
  exact ChangeSpec.post_blind hp

theorem closedFacts : joinedFacts Tryz.prog 3 Tryz.f3 Rows.fnRowsOfPilesSpec Rows.fnRowsOfPilesRow = true := by
  unfold joinedFacts
  rw [head_enter, head_lifts, head_make]
  kernel_rfl
theorem closedHere : joinedFacts Tryz.pinned.checked.prog 3 Tryz.f3 Rows.fnRowsOfPilesSpec Rows.fnRowsOfPilesRow = true := by
  rw [progEq]
  exact closedFacts
theorem over : Rows.fnRowsOfPilesRow.holds Tryz.pinned (OpenSpec.ofChange Rows.fnRowsOfPilesSpec) :=
  OpenClaim.holds_of_wide 3 Tryz.f3 rfl rfl rfl rfl rfl rfl rfl ⟨rfl, rfl, rfl, rfl, rfl⟩ rfl rfl rfl rfl rfl (by kernel_rfl) Tryz.func3 closedHere
    (of_decide_eq_true (by kernel_rfl)) (by unfold Func.isWrapper; first | (rw [if_pos (by decide +kernel)]; kernel_rfl) | (rw [if_neg (by decide +kernel)]; exact ⟨rfl, rfl⟩))
    (fun os started H enc _ => lifted os started H enc)

/-- the tied card -/
theorem proved : Rows.FnRowsOfPilesCardSaid :=
  Claim7.holds_tied_plain_at .later [] [.data, .data, .data, .data, .sentinel, .sentinel, .pinned] true (true, "53a09c86195c9674181170a53441fa63100f20b6a1e3eaba0f946b599e989e86") true
    over (fun _ h => by cases h) (by kernel_rfl) (fun _ h => by cases h) fnRowsOfPiles_row_tie rfl ⟨rfl, rfl⟩ (by kernel_rfl) rfl
    (fun f fn hf hfn => by
      obtain rfl : f = 3 := Option.some.inj ((show Tryz.prog.funcNamed "loop.example/g01114/laws.FnRowsOfPiles" = some 3 by kernel_rfl).symm.trans hf) |>.symm
      obtain rfl : fn = Tryz.f3 := (Option.some.inj (Tryz.func3.symm.trans hfn)).symm
      exact ⟨by kernel_rfl, fun j t ht => by
        rw [Tryz.params3] at ht
        have hm : t ∈ [22] := by simpa using Array.mem_of_getElem? ht
        have hall : ([22].all fun u => !Tryz.prog.wantsStandIn u) = true := by kernel_rfl
        exact (show Tryz.prog.wantsStandIn t = false by simpa using List.all_eq_true.1 hall t hm)⟩)
    (by kernel_rfl)
#print axioms proved
end Go.Proofs.YtjaodhjiibdbdaaGreatDoor.fnRowsOfPiles
