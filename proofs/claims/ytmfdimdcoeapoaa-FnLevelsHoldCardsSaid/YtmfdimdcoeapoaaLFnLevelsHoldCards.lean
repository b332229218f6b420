/- FnLevelsHoldCards: for every input the law returns true and leaves its arguments as they were. No condition. -/
import Derived.Test.YtmfdimdcoeapoaaRows
import Derived.WalkKit
import Derived.ProofKit
import Derived.OpenShut
import Derived.ShutString
import Derived.ChangeOld
import Derived.Below
import Derived.Test.YtmfdimdcoeapoaaHead
import Derived.Test.YtmfdimdcoeapoaaGe
import Derived.Test.YtmfdimdcoeapoaaLawu
import Derived.Test.YtmfdimdcoeapoaaLawv
import Derived.Test.YtmfdimdcoeapoaaDrawO
import Derived.Test.YtmfdimdcoeapoaaLevR
import Derived.Test.YtmfdimdcoeapoaaGw
import Derived.Test.YtmfdimdcoeapoaaLevU
namespace Go.Proofs.Ytmfdimdcoeapoaa.fnLevelsHoldCards
set_option linter.unusedSimpArgs false
open Go.ChangeShapes Go.WideShapes Go.ChangeAt Go.RowKit
open Go.ChangeMaps (open_string shut_string)
set_option linter.unusedVariables false

theorem own : ownKnob Try.prog.godebug = none := by kernel_rfl
theorem laidOut : laidOutB Try.prog = true := by kernel_rfl

/-- WHAT THE WALK IS TOLD OF A SLICE OF INTEGERS THAT CAME IN: it is nil; or it leads to a row of 'cap' cells, the numbers 'zs' (the first 'len' are its elements, the rest its spare room), each fitting its kind. -/
def IsRow (k : IntKind) (w : World) (a : Option Addr) (len cap : Nat) (zs : List Int) : Prop :=
  (a = none ∧ len = 0 ∧ cap = 0 ∧ zs = []) ∨
  ∃ x, a = some x ∧ len ≤ cap ∧ cap ≤ maxLen ∧ zs.length = cap ∧ (∀ i, i < zs.length → w.cell? (x.add i) = some (.int k (zs.getD i 0))) ∧ ∀ n ∈ zs, (Lit.int k n).wf = true

/-! ### THE WALK: the Go text returns true, AND WRITES NOTHING THAT WAS THERE: 'Below w.heap.size w w'' (Derived/Below.lean: '.refl', '.alloc', '.drew', '.setCell' at a new block, '.trans'). Open each 'IsRow' by 'rcases' AHEAD of 'go_enter'; part every test ahead of the walk. -/
set_option maxHeartbeats 4000000 in
set_option maxRecDepth 100000 in
theorem walk (a0 : Option Addr) (len0 cap0 : Nat) (z0 : List Int) (a1 : Option Addr) (len1 cap1 : Nat) (z1 : List Int) (w : World) (w0 : IsRow .u8 w a0 len0 cap0 z0) (w1 : IsRow .u8 w a1 len1 cap1 z1) :
    Calls Try.prog 5 #[.slice a0 len0 cap0, .slice a1 len1 cap1] w fun e w' => e = .returned (.bool true) ∧ Below w.heap.size w w' := by
  have by0 := byteIn_row w0
  have by1 := byteIn_row w1
  have hl0 : len0 ≤ maxLen := by
    rcases w0 with ⟨_, h, _⟩ | ⟨x, _, h, h', _⟩
    · rw [h]; exact Nat.zero_le _
    · exact Nat.le_trans h h'
  clear w0 w1
  by_cases hbig : 1048576 < len0 ∨ (1048576 : Int) - len0 < len1
  · have hb := big_yes a0 a1 len0 len1 cap0 cap1 w hbig hl0
    have Hb := Lib.hid hb; clear hb
    go_enter Try.func5, Try.ntmps5
    go_wp2_with fail
    with_reducible refine (Hb.out).mono ?_
    rintro e w' ⟨rfl, rfl⟩
    go_wp2
    go_ret
    exact ⟨rfl, Below.refl _ _⟩
  have hb := big_no a0 a1 len0 len1 cap0 cap1 w (by omega) (by omega)
  have hd := DrawLevelsOf_any a0 len0 cap0 w (by omega) by0
  have Hb := Lib.hid hb; clear hb
  have Hd := Lib.hid hd; clear hd
  clear by0 by1 hl0 hbig
  have acc : Below w.heap.size w w := Below.refl _ _
  go_enter Try.func5, Try.ntmps5
  go_wp2_with fail
  with_reducible refine (Hb.out).mono ?_
  rintro e w' ⟨rfl, rfl⟩
  clear Hb
  go_wp2_with fail
  with_reducible refine (Hd.out).mono ?_
  rintro e v1 ⟨p1, n1, c1, xs, rfl, ho1, hnear, hb1⟩
  replace acc := belowTrans acc hb1 (Nat.le_refl _)
  clear hb1
  clear Hd hnear
  have hi := fun W h => impl_LevelsOf p1 n1 c1 xs W h
  have hs := fun W h => spec_LevelsOf p1 n1 c1 xs W h
  have hj := fun W h => impl_HoleOf p1 n1 c1 xs W h
  have hk := fun W h => spec_HoleOf p1 n1 c1 xs W h
  have hp := fun W h => impl_SpillOf p1 n1 c1 xs W h
  have hq := fun W h => spec_SpillOf p1 n1 c1 xs W h
  cases gx : goodB xs
  · skip
    simp only [mLevels_no gx] at hi hs
    simp only [mHole_no gx] at hj hk
    simp only [mSpill_no1 gx] at hp hq
    have Hi := Lib.hid hi; clear hi
    have Hs := Lib.hid hs; clear hs
    have Hj := Lib.hid hj; clear hj
    have Hk := Lib.hid hk; clear hk
    have Hp := Lib.hid hp; clear hp
    have Hq := Lib.hid hq; clear hq
    go_wp2_with fail
    with_reducible refine (Hi.out _ ho1.at).mono ?_
    rintro e v2 ⟨pi, ni, ci, rfl, hoi, hb2⟩
    replace ho1 := ho1.keep hb2
    replace acc := belowTrans acc hb2 (Nat.le_refl _)
    clear hb2
    go_wp2_with fail
    with_reducible refine (Hs.out _ ho1.at).mono ?_
    rintro e v3 ⟨ps, ns, cs, rfl, hos, hb3⟩
    replace ho1 := ho1.keep hb3
    replace hoi := hoi.keep hb3
    replace acc := belowTrans acc hb3 (Nat.le_refl _)
    clear hb3
    clear Hi Hs
    have hc := pSame_any _ _ _ _ _ _ _ _ _ hoi.at hos.at
    rw [decide_eq_true rfl] at hc
    have Hc := Lib.hid hc; clear hc
    go_wp2_with fail
    with_reducible refine (Hc.out).mono ?_
    rintro e v4 ⟨rfl, hb4⟩
    replace ho1 := ho1.keep hb4
    replace hoi := hoi.keep hb4
    replace hos := hos.keep hb4
    replace acc := belowTrans acc hb4 (Nat.le_refl _)
    clear hb4
    clear Hc
    clear hos
    go_wp2_with fail
    with_reducible refine (Hj.out _ ho1.at).mono ?_
    rintro e v5 ⟨rfl, hb5⟩
    replace ho1 := ho1.keep hb5
    replace hoi := hoi.keep hb5
    replace acc := belowTrans acc hb5 (Nat.le_refl _)
    clear hb5
    go_wp2_with fail
    with_reducible refine (Hk.out _ ho1.at).mono ?_
    rintro e v6 ⟨rfl, hb6⟩
    replace ho1 := ho1.keep hb6
    replace hoi := hoi.keep hb6
    replace acc := belowTrans acc hb6 (Nat.le_refl _)
    clear hb6
    go_wp2_with fail
    with_reducible refine (Hp.out _ ho1.at).mono ?_
    rintro e v7 ⟨rfl, hb7⟩
    replace ho1 := ho1.keep hb7
    replace hoi := hoi.keep hb7
    replace acc := belowTrans acc hb7 (Nat.le_refl _)
    clear hb7
    go_wp2_with fail
    with_reducible refine (Hq.out _ ho1.at).mono ?_
    rintro e v8 ⟨rfl, hb8⟩
    replace ho1 := ho1.keep hb8
    replace hoi := hoi.keep hb8
    replace acc := belowTrans acc hb8 (Nat.le_refl _)
    clear hb8
    clear Hj Hk Hp Hq
    go_wp2
    go_ret
    exact ⟨rfl, acc⟩
  have gX := good_iff.1 gx
  simp only [mLevels_yes gx] at hi hs
  simp only [mHole_yes gx] at hj hk
  have hcy := fun W h => pCyclic_any p1 n1 c1 xs W h
  have hpo := fun W h => impl_PotentialOf p1 n1 c1 xs W h
  simp only [mPot_yes gx] at hpo
  have hl1 := ho1.length
  by_cases hne : xs = []
  · skip
    subst hne
    simp only [mSpill_no2 rfl] at hp hq
    have e1 : lvsL [] = [] := rfl
    have e2 : holeN [] = 0 := by decide
    have e3 : holeP [] = 0 := by decide
    have e4 : pot [] = 0 := rfl
    have e5 : (goodB [] && cycB []) = true := by decide
    simp only [e1] at hi hs
    simp only [e2, e3] at hj hk
    simp only [e4] at hpo
    simp only [e5] at hcy
    obtain rfl : n1 = 0 := hl1.symm
    have hs1 := fun W h => pSum_any p1 0 c1 [] W h gX
    have Hi := Lib.hid hi; clear hi
    have Hs := Lib.hid hs; clear hs
    have Hj := Lib.hid hj; clear hj
    have Hk := Lib.hid hk; clear hk
    have Hp := Lib.hid hp; clear hp
    have Hq := Lib.hid hq; clear hq
    have Hcy := Lib.hid hcy; clear hcy
    have Hpo := Lib.hid hpo; clear hpo
    have Hs1 := Lib.hid hs1; clear hs1
    go_wp2_with fail
    with_reducible refine (Hi.out _ ho1.at).mono ?_
    rintro e v2 ⟨pi, ni, ci, rfl, hoi, hb2⟩
    replace ho1 := ho1.keep hb2
    replace acc := belowTrans acc hb2 (Nat.le_refl _)
    clear hb2
    go_wp2_with fail
    with_reducible refine (Hs.out _ ho1.at).mono ?_
    rintro e v3 ⟨ps, ns, cs, rfl, hos, hb3⟩
    replace ho1 := ho1.keep hb3
    replace hoi := hoi.keep hb3
    replace acc := belowTrans acc hb3 (Nat.le_refl _)
    clear hb3
    clear Hi Hs
    have hc := pSame_any _ _ _ _ _ _ _ _ _ hoi.at hos.at
    rw [decide_eq_true rfl] at hc
    have Hc := Lib.hid hc; clear hc
    go_wp2_with fail
    with_reducible refine (Hc.out).mono ?_
    rintro e v4 ⟨rfl, hb4⟩
    replace ho1 := ho1.keep hb4
    replace hoi := hoi.keep hb4
    replace hos := hos.keep hb4
    replace acc := belowTrans acc hb4 (Nat.le_refl _)
    clear hb4
    clear Hc
    clear hos
    go_wp2_with fail
    with_reducible refine (Hj.out _ ho1.at).mono ?_
    rintro e v5 ⟨rfl, hb5⟩
    replace ho1 := ho1.keep hb5
    replace hoi := hoi.keep hb5
    replace acc := belowTrans acc hb5 (Nat.le_refl _)
    clear hb5
    go_wp2_with fail
    with_reducible refine (Hk.out _ ho1.at).mono ?_
    rintro e v6 ⟨rfl, hb6⟩
    replace ho1 := ho1.keep hb6
    replace hoi := hoi.keep hb6
    replace acc := belowTrans acc hb6 (Nat.le_refl _)
    clear hb6
    go_wp2_with fail
    with_reducible refine (Hp.out _ ho1.at).mono ?_
    rintro e v7 ⟨rfl, hb7⟩
    replace ho1 := ho1.keep hb7
    replace hoi := hoi.keep hb7
    replace acc := belowTrans acc hb7 (Nat.le_refl _)
    clear hb7
    go_wp2_with fail
    with_reducible refine (Hq.out _ ho1.at).mono ?_
    rintro e v8 ⟨rfl, hb8⟩
    replace ho1 := ho1.keep hb8
    replace hoi := hoi.keep hb8
    replace acc := belowTrans acc hb8 (Nat.le_refl _)
    clear hb8
    clear Hj Hk Hp Hq
    obtain rfl : ni = 0 := hoi.length.symm
    have hs2 := fun W h => pSum_any pi 0 ci [] W h gX
    have Hs2 := Lib.hid hs2; clear hs2
    go_wp2_with fail
    refine wp_loop_rounds 1 ?_
    rw [rounds_succ]
    go_wp2_with fail
    with_reducible refine (Hpo.out _ ho1.at).mono ?_
    rintro e v9 ⟨rfl, hb9⟩
    replace ho1 := ho1.keep hb9
    replace hoi := hoi.keep hb9
    replace acc := belowTrans acc hb9 (Nat.le_refl _)
    clear hb9
    go_wp2_with fail
    with_reducible refine (Hs2.out _ hoi.at).mono ?_
    rintro e w' ⟨rfl, rfl⟩
    go_wp2_with fail
    with_reducible refine (Hs1.out _ ho1.at).mono ?_
    rintro e w' ⟨rfl, rfl⟩
    go_wp2_with fail
    with_reducible refine (Hcy.out _ ho1.at).mono ?_
    rintro e v10 ⟨rfl, hb10⟩
    replace ho1 := ho1.keep hb10
    replace hoi := hoi.keep hb10
    replace acc := belowTrans acc hb10 (Nat.le_refl _)
    clear hb10
    go_wp2
    go_ret
    exact ⟨rfl, acc⟩
  simp only [mSpill_yes gx hne] at hp hq
  have hpl := place_spill gX hne
  have hle := lvsL_le gX
  have hlv := fun l (h : l < (lvsL xs).length) => lvs_pos gX h
  have hhs := hole_spec gX
  have hful : ∀ l, l < holeN xs → (lvsL xs).getD l 0 = (l : Int) + 1 := fun l hl => by rw [lvsL_getD gX]; exact hhs.2.2 l hl
  have hfree : ¬ (lvsL xs).getD (holeN xs) 0 = (holeN xs : Int) + 1 := by rw [lvsL_getD gX]; exact hhs.2.1
  have hws : ∀ j, wsumN (lvsL xs) (j + 1) = wsumN (lvsL xs) j + (j : Int) * (lvsL xs).getD j 0 := fun j => rfl
  have hwb := fun j hj => wsum_all gX (j := j) hj
  have hwm := fun j hj => lvl_mul gX (j := j) hj
  have hpw : pot xs = wsumN (lvsL xs) (lvsL xs).length := rfl
  have hsm := lvs_sum gX
  have hcs := cyc_spill gX hne
  rw [gx, Bool.true_and, hcs] at hcy
  have hN : spillN xs = (lvsL xs).length - 1 := rfl
  have htop := (lvsL_top gX hne).1
  have hs1 := fun W h => pSum_any p1 n1 c1 xs W h gX
  have hn0 : 0 < n1 := by rw [← hl1]; exact List.length_pos_iff.2 hne
  have hsb : ∀ x ∈ lvsL xs, 0 ≤ x ∧ x ≤ 1000 := fun x hx => by
    obtain ⟨i, hi, rfl⟩ := List.mem_iff_getElem.1 hx
    have := hlv i hi
    rw [List.getD_eq_getElem?_getD, List.getElem?_eq_getElem hi] at this
    simp only [Option.getD_some] at this
    omega
  have hn28 := gX.len
  obtain ⟨k, _, hk1, hk2, _, hs28, _, _⟩ := hpl
  rw [hk2] at hp hq
  have hH28 := hhs.1
  generalize lvsL xs = L at hi hs hle hlv hful hfree hws hwb hwm hpw hsm hN htop hsb
  generalize holeN xs = H at hj hk hful hfree hcy hH28
  generalize holeP xs = Q at hj hk
  generalize spillN xs = S at hp hq hk1 hN hcy hs28
  generalize pot xs = p at hpo hpw
  rw [← hsm] at hs1
  clear hhs hcs hsm gX hk2 hne gx
  have Hi := Lib.hid hi; clear hi
  have Hs := Lib.hid hs; clear hs
  have Hj := Lib.hid hj; clear hj
  have Hk := Lib.hid hk; clear hk
  have Hp := Lib.hid hp; clear hp
  have Hq := Lib.hid hq; clear hq
  have Hcy := Lib.hid hcy; clear hcy
  have Hpo := Lib.hid hpo; clear hpo
  have Hs1 := Lib.hid hs1; clear hs1
  have Hlv := Lib.hid hlv; clear hlv
  have Hful := Lib.hid hful; clear hful
  have Hfree := Lib.hid hfree; clear hfree
  have Hws := Lib.hid hws; clear hws
  have Hwb := Lib.hid hwb; clear hwb
  have Hwm := Lib.hid hwm; clear hwm
  have Hpw := Lib.hid hpw; clear hpw
  have Hsb := Lib.hid hsb; clear hsb
  have HN := Lib.hid hN; clear hN
  go_wp2_with fail
  with_reducible refine (Hi.out _ ho1.at).mono ?_
  rintro e v2 ⟨pi, ni, ci, rfl, hoi, hb2⟩
  replace ho1 := ho1.keep hb2
  replace acc := belowTrans acc hb2 (Nat.le_refl _)
  clear hb2
  go_wp2_with fail
  with_reducible refine (Hs.out _ ho1.at).mono ?_
  rintro e v3 ⟨ps, ns, cs, rfl, hos, hb3⟩
  replace ho1 := ho1.keep hb3
  replace hoi := hoi.keep hb3
  replace acc := belowTrans acc hb3 (Nat.le_refl _)
  clear hb3
  clear Hi Hs
  have hc := pSame_any _ _ _ _ _ _ _ _ _ hoi.at hos.at
  rw [decide_eq_true rfl] at hc
  have Hc := Lib.hid hc; clear hc
  go_wp2_with fail
  with_reducible refine (Hc.out).mono ?_
  rintro e v4 ⟨rfl, hb4⟩
  replace ho1 := ho1.keep hb4
  replace hoi := hoi.keep hb4
  replace hos := hos.keep hb4
  replace acc := belowTrans acc hb4 (Nat.le_refl _)
  clear hb4
  clear Hc
  clear hos
  go_wp2_with fail
  with_reducible refine (Hj.out _ ho1.at).mono ?_
  rintro e v5 ⟨rfl, hb5⟩
  replace ho1 := ho1.keep hb5
  replace hoi := hoi.keep hb5
  replace acc := belowTrans acc hb5 (Nat.le_refl _)
  clear hb5
  go_wp2_with fail
  with_reducible refine (Hk.out _ ho1.at).mono ?_
  rintro e v6 ⟨rfl, hb6⟩
  replace ho1 := ho1.keep hb6
  replace hoi := hoi.keep hb6
  replace acc := belowTrans acc hb6 (Nat.le_refl _)
  clear hb6
  go_wp2_with fail
  with_reducible refine (Hp.out _ ho1.at).mono ?_
  rintro e v7 ⟨rfl, hb7⟩
  replace ho1 := ho1.keep hb7
  replace hoi := hoi.keep hb7
  replace acc := belowTrans acc hb7 (Nat.le_refl _)
  clear hb7
  go_wp2_with fail
  with_reducible refine (Hq.out _ ho1.at).mono ?_
  rintro e v8 ⟨rfl, hb8⟩
  replace ho1 := ho1.keep hb8
  replace hoi := hoi.keep hb8
  replace acc := belowTrans acc hb8 (Nat.le_refl _)
  clear hb8
  clear Hj Hk Hp Hq
  have hnl : L.length = ni := hoi.length
  have hs2 := fun W h => pSumB_any pi ni ci L W h Hsb.out (by omega)
  have hatL := hoi.at
  have Hnl := Lib.hid hnl
  rw [hnl] at hle htop HN
  clear hnl
  have Hs2 := Lib.hid hs2; clear hs2
  obtain ⟨wo, hwo⟩ : ∃ wo : World, wo = v8 := ⟨_, rfl⟩
  subst hwo
  have hni28 : (ni : Int) ≤ 28 := by omega
  go_wp2_with fail
  go_loop [22, 112] (fun s i => ∃ (j : Nat) (t : Int), j ≤ ni ∧ i = .int .i64 j ∧ s = .int .i64 t ∧ wsumN L j = t) (fun _ i => ni - (intOf i).toNat)
  case atStart => exact ⟨0, 0, Nat.zero_le _, rfl, rfl, rfl⟩
  case round =>
    obtain ⟨j, t, hj, rfl, rfl, ht⟩ := hrel
    have hwj := Hwb.out j (by rw [Hnl.out]; exact hj)
    rw [ht] at hwj
    by_cases hlt : j < ni
    · obtain ⟨b, o, rfl, hbl, hc⟩ := hatL.cell j hlt
      have hck := hc j hlt
      clear hc
      have hx := Hlv.out j (by rw [Hnl.out]; exact hlt)
      have hm := Hwm.out j (by rw [Hnl.out]; exact hlt)
      have e := Hws.out j
      have hf := Hful.out j
      rw [ht] at e
      generalize L.getD j 0 = x at hck hx hm e hf
      have f1 : decide (x > (j : Int) + 1) = false := decide_eq_false (by omega)
      have f2 : decide ((j : Int) + 1 < x) = false := decide_eq_false (by omega)
      have f3 : decide (x < 1) = false := decide_eq_false (by omega)
      by_cases hjH : j < H
      · obtain rfl : x = (j : Int) + 1 := hf hjH
        clear hf f1 f2 f3
        generalize hpp : (j : Int) * ((j : Int) + 1) = pp at *
        have hjH8 : (j : Int) < H := by omega
        have He := Lib.hid e; clear e
        have Ht := Lib.hid ht; clear ht
        go_wp2_with fail
        go_round
        case rel => exact ⟨j + 1, t + pp, by omega, valI (by omega), valI (by go_num), He.out⟩
        case measure => simp [intOf]; omega
      · clear hf
        generalize hpp : (j : Int) * x = pp at *
        have hjH8 : decide ((j : Int) < H) = false := decide_eq_false (by omega)
        have hjH9 : ¬ (j : Int) < H := by omega
        have He := Lib.hid e; clear e
        have Ht := Lib.hid ht; clear ht
        go_wp2_with fail
        go_round
        case rel => exact ⟨j + 1, t + pp, by omega, valI (by omega), valI (by go_num), He.out⟩
        case measure => simp [intOf]; omega
    · obtain rfl : t = p := by
        have : j = L.length := by rw [Hnl.out]; omega
        rw [← ht, this, Hpw.out]
      clear ht hwj Hwb Hwm Hws Hpw Hlv Hful
      go_wp2_with fail
      with_reducible refine (Hpo.out _ ho1.at).mono ?_
      rintro e v9 ⟨rfl, hb9⟩
      replace ho1 := ho1.keep hb9
      replace hoi := hoi.keep hb9
      replace acc := belowTrans acc hb9 (Nat.le_refl _)
      clear hb9
      go_wp2_with fail
      with_reducible refine (Hs2.out _ hoi.at).mono ?_
      rintro e w' ⟨rfl, rfl⟩
      go_wp2_with fail
      with_reducible refine (Hs1.out _ ho1.at).mono ?_
      rintro e w' ⟨rfl, rfl⟩
      have hN := HN.out
      have g0 : decide ((n1 : Int) > 0) = true := decide_eq_true (by omega)
      have g1 : decide (0 < (n1 : Int)) = true := decide_eq_true (by omega)
      have g2 : ((S : Int) == (ni : Int) - 1) = true := by simp; omega
      have g3 : decide ((S : Int) = (ni : Int) - 1) = true := decide_eq_true (by omega)
      have g4 : decide ((k : Int) ≤ (S : Int)) = true := decide_eq_true (by omega)
      have g5 : (k : Int) ≤ (S : Int) := by omega
      clear Hpo Hs1 Hs2 hN
      by_cases hHn : H < ni
      · skip
        obtain ⟨b, o, rfl, hbl, hc⟩ := hatL.cell H hHn
        have hckH : v9.cell? ⟨b, o + H, none⟩ = some (.int .i64 (L.getD H 0)) := by
          obtain ⟨b2, o2, e2, _, hc2⟩ := hoi.at.cell H hHn
          cases e2
          exact hc2 H hHn
        clear hc
        have hfr := Hfree.out
        generalize L.getD H 0 = y at hckH hfr
        have f1 : (y == (H : Int) + 1) = false := by simpa using hfr
        have f2 : decide (y = (H : Int) + 1) = false := decide_eq_false hfr
        have hHn8 : (H : Int) < ni := by omega
        by_cases hSH : S ≤ H
        · skip
          rw [decide_eq_true hSH] at Hcy
          have g6 : decide ((S : Int) ≤ (H : Int)) = true := decide_eq_true (by omega)
          have g7 : (S : Int) ≤ (H : Int) := by omega
          go_wp2_with fail
          with_reducible refine (Hcy.out _ ho1.at).mono ?_
          rintro e v10 ⟨rfl, hb10⟩
          replace ho1 := ho1.keep hb10
          replace hoi := hoi.keep hb10
          replace acc := belowTrans acc hb10 (Nat.le_refl _)
          clear hb10
          go_wp2
          go_ret
          exact ⟨rfl, acc⟩
        · skip
          rw [decide_eq_false hSH] at Hcy
          have g6 : decide ((S : Int) ≤ (H : Int)) = false := decide_eq_false (by omega)
          have g7 : ¬ (S : Int) ≤ (H : Int) := by omega
          go_wp2_with fail
          with_reducible refine (Hcy.out _ ho1.at).mono ?_
          rintro e v10 ⟨rfl, hb10⟩
          replace ho1 := ho1.keep hb10
          replace hoi := hoi.keep hb10
          replace acc := belowTrans acc hb10 (Nat.le_refl _)
          clear hb10
          go_wp2
          go_ret
          exact ⟨rfl, acc⟩
      · skip
        have hSH : S ≤ H := by have := HN.out; omega
        have hHn8 : ¬ (H : Int) < ni := by omega
        have hHn9 : decide ((H : Int) < ni) = false := decide_eq_false hHn8
        rw [decide_eq_true hSH] at Hcy
        have g6 : decide ((S : Int) ≤ (H : Int)) = true := decide_eq_true (by omega)
        have g7 : (S : Int) ≤ (H : Int) := by omega
        go_wp2_with fail
        with_reducible refine (Hcy.out _ ho1.at).mono ?_
        rintro e v10 ⟨rfl, hb10⟩
        replace ho1 := ho1.keep hb10
        replace hoi := hoi.keep hb10
        replace acc := belowTrans acc hb10 (Nat.le_refl _)
        clear hb10
        go_wp2
        go_ret
        exact ⟨rfl, acc⟩

/-! ### THE ROW's STEP: WRITTEN OUT: LEAVE IT -/
set_option maxRecDepth 100000 in
theorem lifted (os : Os) (started : os.Started) (H : Type) (enc : TypeId × Value → H) :
    ReturnsInHanded {} Try.checked os 5 .any (Rows.fnLevelsHoldCardsSpec.pre6 enc Try.prog Try.f5 Rows.fnLevelsHoldCardsRow.domain false) (Rows.fnLevelsHoldCardsSpec.post enc Try.prog Try.f5 false true false false) := by
  refine returnsInHanded_of_change (C := Try.checked) own started (by kernel_rfl) Try.func5
    (ChangeSpec.witness6 (enc := enc) (C := Try.checked) false ⟨#[], #[.slice none 0 0, .slice none 0 0], []⟩ 8 (by kernel_rfl) (by kernel_rfl) (by kernel_rfl) (by kernel_rfl)) ?_
  intro W base args ds gs before hval0 hW hcnd _
  have hval : ∀ (j : Nat) t v, Try.f5.params[j]? = some t → args[j]? = some v → Value.okWide Try.prog W .any base t v := hval0
  have hW' := hW
  obtain ⟨p, q, hA0, hV, rfl, hfz, hnd⟩ := hW
  have hA : DataW.TrodAll enc Try.prog W 0 (fun _ => true) true Try.f5.params.toList args.toList ds p := hA0
  rw [Try.params5] at hA hval
  obtain ⟨v0, vs0, d0, ds0, p0, q0, hargs, rfl, rfl, h0, r0⟩ := trodAll_cons hA
  obtain ⟨v1, vs1, d1, ds1, p1, q1, rfl, rfl, rfl, h1, r1⟩ := trodAll_cons r0
  obtain ⟨rfl, rfl, rfl⟩ := trodAll_nil r1
  obtain rfl : args = #[v0, v1] := by cases args; simp_all
  obtain ⟨rfl, rfl⟩ := trodVars_none hV
  obtain ⟨a0, len0, cap0, rfl⟩ := okWide_slice Try.underlying22 (hval 0 22 v0 rfl rfl)
  have k0 := h0
  have lt0 : ∀ x ∈ p0, x.block < W.heap.size := by obtain ⟨m, hm⟩ := k0; exact DataW.trod_lt m _ _ _ hm
  obtain ⟨z0, w0⟩ : ∃ zs, IsRow .u8 W a0 len0 cap0 zs := by
    obtain ⟨fuel, hf⟩ := h0
    rcases open_ints Try.underlying22 Try.underlying5 (by kernel_rfl) hf with ⟨hcs, _⟩ | ⟨x, l, c, zs, hcs, _, hl, hm, hz, _, hcell, hwz⟩
    · simp [Value.cells] at hcs
      obtain ⟨rfl, rfl, rfl⟩ := hcs
      exact ⟨[], .inl ⟨rfl, rfl, rfl, rfl⟩⟩
    · simp [Value.cells] at hcs
      obtain ⟨rfl, rfl, rfl⟩ := hcs
      exact ⟨zs, .inr ⟨_, rfl, hl, hm, by simpa using hz, hcell, hwz⟩⟩
  obtain ⟨a1, len1, cap1, rfl⟩ := okWide_slice Try.underlying22 (hval 1 22 v1 rfl rfl)
  have k1 := h1
  have lt1 : ∀ x ∈ p1, x.block < W.heap.size := by obtain ⟨m, hm⟩ := k1; exact DataW.trod_lt m _ _ _ hm
  obtain ⟨z1, w1⟩ : ∃ zs, IsRow .u8 W a1 len1 cap1 zs := by
    obtain ⟨fuel, hf⟩ := h1
    rcases open_ints Try.underlying22 Try.underlying5 (by kernel_rfl) hf with ⟨hcs, _⟩ | ⟨x, l, c, zs, hcs, _, hl, hm, hz, _, hcell, hwz⟩
    · simp [Value.cells] at hcs
      obtain ⟨rfl, rfl, rfl⟩ := hcs
      exact ⟨[], .inl ⟨rfl, rfl, rfl, rfl⟩⟩
    · simp [Value.cells] at hcs
      obtain ⟨rfl, rfl, rfl⟩ := hcs
      exact ⟨zs, .inr ⟨_, rfl, hl, hm, by simpa using hz, hcell, hwz⟩⟩
  clear hA0 hval0
  refine (walk a0 len0 cap0 z0 a1 len1 cap1 z1 W w0 w1).mono fun e W' ⟨he, bel⟩ => ?_
  subst he
  exact ⟨_, rfl, _, _, _, [], _, [], hW', trodAll_mk1 (shut_bool Try.underlying4 _), (trodAll_cons_mk (Below.trod laidOut (by kernel_rfl) (of_decide_eq_true (by kernel_rfl)) k0 bel lt0) (trodAll_cons_mk (Below.trod laidOut (by kernel_rfl) (of_decide_eq_true (by kernel_rfl)) k1 bel lt1) trodAll_mk0)), rfl, bel.frame _, fun h => by cases h⟩

theorem closedFacts : joinedFacts Try.prog 5 Try.f5 Rows.fnLevelsHoldCardsSpec Rows.fnLevelsHoldCardsRow = true := by
  unfold joinedFacts
  rw [head_enter, head_lifts, head_make]
  kernel_rfl
theorem closedHere : joinedFacts Try.pinned.checked.prog 5 Try.f5 Rows.fnLevelsHoldCardsSpec Rows.fnLevelsHoldCardsRow = true := by
  rw [progEq]
  exact closedFacts
theorem over : Rows.fnLevelsHoldCardsRow.holds Try.pinned (OpenSpec.ofChange Rows.fnLevelsHoldCardsSpec) :=
  OpenClaim.holds_of_wide 5 Try.f5 rfl rfl rfl rfl rfl rfl rfl ⟨rfl, rfl, rfl, rfl, rfl⟩ rfl rfl rfl rfl rfl (by kernel_rfl) Try.func5 closedHere
    (of_decide_eq_true (by kernel_rfl)) (by unfold Func.isWrapper; first | (rw [if_pos (by decide +kernel)]; kernel_rfl) | (rw [if_neg (by decide +kernel)]; exact ⟨rfl, rfl⟩))
    (fun os started H enc _ => lifted os started H enc)

/-- ████ THE STATEMENT ████ -/
theorem proved : Rows.FnLevelsHoldCardsSaid := over
#print axioms proved
end Go.Proofs.Ytmfdimdcoeapoaa.fnLevelsHoldCards
