/- Chapter 2: BasinSize. No condition. -/
import Derived.Test.YthppkfhhidlpiaaByTail
import Derived.Test.YthppkfhhidlpiaaAll
namespace Go.Proofs.Ythppkfhhidlpiaa
open Go.RowKit
set_option linter.unusedVariables false
set_option linter.unusedSimpArgs false
set_option maxRecDepth 20000

theorem cyc_cyclics {xs : List Int} (hg : Good xs) : ∃ s : Nat, xs.sum = s ∧ s ≤ 28 ∧ Cyclics (cycL xs) s := by
  obtain ⟨s, hs, h28⟩ := sum_toNat hg
  have hz := endL_good hg
  have hzc := endL_cyc hg
  refine ⟨s, hs, h28, h28, cycL_good hg, fun x hx => ?_, fun x hx => ?_, ?_⟩
  · obtain ⟨i, _, rfl⟩ := runL_mem.1 hx
    exact cyc_steps hz hzc i
  · obtain ⟨i, _, rfl⟩ := runL_mem.1 hx
    rw [stepsL_sum hz, end_sum hg, hs]
  · unfold cycL runL List.Nodup
    rw [List.pairwise_map]
    refine List.Pairwise.imp_of_mem ?_ (List.pairwise_lt_range (n := perL (endL xs)))
    intro i j hi hj hij
    exact per_distinct hz hzc hij (List.mem_range.1 hj)
def basinL (xs : List Int) : Nat := ((allL xs.sum.toNat).filter fun b => decide (endL b ∈ cycL xs)).length
def mBasinSize (xs : List Int) : Int × Bool := (if goodB xs then (basinL xs : Int) else 0, goodB xs)
theorem mBasin_yes {xs : List Int} (h : goodB xs = true) : mBasinSize xs = ((basinL xs : Int), true) := by unfold mBasinSize; rw [h]; rfl
theorem mBasin_no {xs : List Int} (h : goodB xs = false) : mBasinSize xs = (0, false) := by unfold mBasinSize; rw [h]; rfl

/-! ### By the model -/
set_option maxHeartbeats 800000 in
theorem piStepsX_any (ao : Option Addr) (n cap : Nat) (xs : List Int) (k : Nat) (w : World) (h : IntsAt w ao n cap xs) (hg : Good xs) (hk : k ≤ 4000) :
    Calls Try.prog 144 #[.slice ao n cap, .int .i64 k] w fun e w' => ∃ ao' n' cap', e = .returned (.slice ao' n' cap') ∧ Own w.heap.size w'.heap.size w' ao' n' cap' (stepsL k xs) ∧ Below w.heap.size w w' := by
  have hlen := hg.len
  have hl0 := h.length
  have hcon := l1Own_any ao n cap xs w h (by omega)
  have Hg := Lib.hid hg; clear hg
  have Hl0 := Lib.hid hl0; clear hl0
  have Hcon := Lib.hid hcon; clear hcon
  go_enter Try.func144, Try.ntmps144
  go_wp2_with fail
  with_reducible refine (Hcon.out).mono ?_
  rintro e w1 ⟨a1, c1, rfl, ho1, hb1⟩
  go_wp2_with fail
  go_loopw [1, 5] (fun i v wr => ∃ (j : Nat) (a : Option Addr) (m c : Nat), j ≤ k ∧ i = .int .i64 (k - j : Nat) ∧ v = .slice a m c ∧ Own w.heap.size wr.heap.size wr a m c (stepsL j xs) ∧ Below w.heap.size w wr) (fun i _ _ => (intOf i).toNat)
  case atStart => exact ⟨0, a1, n, c1, Nat.zero_le _, rfl, rfl, ho1, hb1⟩
  case round =>
    obtain ⟨j, a, m, c, hj, rfl, rfl, hown, hb⟩ := hrel
    have hG := stepsL_good Hg.out j
    by_cases hlt : j < k
    · have hkj : 0 < k - j := by omega
      have hcon := piStep_any a m c _ wr hown.at hG
      have Hcon := Lib.hid hcon; clear hcon
      have HG := Lib.hid hG; clear hG
      go_wp2_with fail
      with_reducible refine (Hcon.out).mono ?_
      rintro e w2 ⟨a2, m2, c2, rfl, ho2, hb2⟩
      go_wp2
      go_roundw
      case rel => exact ⟨j + 1, a2, m2, c2, by omega, valI (by omega), rfl, ho2.mono hb.size (Nat.le_refl _), belowTrans hb hb2 (Nat.le_refl _)⟩
      case measure => simp [intOf]; omega
    · obtain rfl : k = j := by omega
      go_wp2
      go_ret
      exact ⟨_, _, _, rfl, hown, hb⟩
set_option maxHeartbeats 800000 in
theorem orStepsB_any (ao : Option Addr) (n cap : Nat) (xs : List Int) (w : World) (h : IntsAt w ao n cap xs) (hg : Good xs) :
    Calls Try.prog 145 #[.slice ao n cap] w fun e w' => e = .returned (.int .i64 (tailL xs)) ∧ Below w.heap.size w w' := by
  have hlen := hg.len
  have hl := h.length
  have hcp := l1Own_any ao n cap xs w h (by omega)
  have Hg := Lib.hid hg; clear hg
  have Hcp := Lib.hid hcp; clear hcp
  have Hl := Lib.hid hl; clear hl
  go_enter Try.func145, Try.ntmps145
  go_wp2_with fail
  with_reducible refine (Hcp.out).mono ?_
  rintro e w1 ⟨a1, c1, rfl, ho1, hb1⟩
  have hx1 := ho1.at
  clear ho1
  go_wp2_with fail
  go_loopw [3, 4] (fun t v wr => ∃ (j : Nat) (a : Option Addr) (m c : Nat), t = .int .i64 j ∧ v = .slice a m c ∧ IntsAt wr a m c (stepsL j xs) ∧ (∀ i, i < j → ¬ Cyc (stepsL i xs)) ∧ Below w.heap.size w wr) (fun t _ _ => 3719 - (intOf t).toNat)
  case atStart => exact ⟨0, _, _, _, rfl, rfl, hx1, fun i hi => by omega, hb1⟩
  case round =>
    obtain ⟨j, a, m, c, rfl, rfl, hx, hno, hb⟩ := hrel
    clear hx1
    have hG := stepsL_good Hg.out j
    have hjt := tail_least Hg.out hno
    have htl := (tailL_spec Hg.out).1
    have hcon := orCyclic_any a m c _ wr hx hG
    by_cases hc : Cyc (stepsL j xs)
    · have hj : tailL xs = j := tailL_unique Hg.out hc hno
      rw [cyc_iff.2 hc] at hcon
      have HG := Lib.hid hG; clear hG
      have Hc := Lib.hid hc; clear hc
      have Hno := Lib.hid hno; clear hno
      have Hj := Lib.hid hj; clear hj
      have Hcon := Lib.hid hcon; clear hcon
      clear hjt
      go_wp2_with fail
      with_reducible refine (Hcon.out).mono ?_
      rintro e w' ⟨rfl, rfl⟩
      go_wp2_with fail
      go_ret
      rw [Hj.out]
      exact ⟨rfl, hb⟩
    · rw [cycBF hc] at hcon
      have hno2 : ∀ i, i < j + 1 → ¬ Cyc (stepsL i xs) := fun i hi => by
        by_cases e : i = j
        · subst e; exact hc
        · exact hno i (by omega)
      have hjt2 := tail_least Hg.out hno2
      have HG := Lib.hid hG; clear hG
      have Hc := Lib.hid hc; clear hc
      have Hno := Lib.hid hno; clear hno
      have Hno2 := Lib.hid hno2; clear hno2
      have Hcon := Lib.hid hcon; clear hcon
      go_wp2_with fail
      with_reducible refine (Hcon.out).mono ?_
      rintro e w' ⟨rfl, rfl⟩
      go_wp2_with fail
      with_reducible refine (piStep_any _ _ _ _ _ hx HG.out).mono ?_
      rintro e w5 ⟨a5, m5, c5, rfl, ho5, hb5⟩
      go_wp2_with fail
      go_roundw
      case rel => exact ⟨j + 1, _, _, _, valI (by omega), rfl, ho5.at, Hno2.out, belowTrans hb hb5 (Nat.le_refl _)⟩
      case measure => simp [intOf]; omega
theorem place_inB {l : List (List Int)} {ys : List Int} {r : Int} (h : PlaceIs l ys r) : (r = -1 ∧ ys ∉ l) ∨ (0 ≤ r ∧ ys ∈ l) := by
  rcases h with ⟨h1, h2⟩ | ⟨i, h1, h2, h3, _⟩
  · exact .inl ⟨h1, h2⟩
  · refine .inr ⟨by omega, ?_⟩
    rw [← h3, List.getD_eq_getElem?_getD, List.getElem?_eq_getElem h2]
    exact List.getElem_mem _

set_option maxHeartbeats 1600000 in
theorem spec_BasinSize (ao : Option Addr) (n cap : Nat) (xs : List Int) (w : World) (h : IntsAt w ao n cap xs) :
    Calls Try.prog 65 #[.slice ao n cap] w fun e w' => e = .returned (.tuple #[.int .i64 (mBasinSize xs).1, .bool (mBasinSize xs).2]) ∧ Below w.heap.size w w' := by
  cases hg : goodB xs
  · have hm := mBasin_no hg
    have Hg := Lib.hid hg; clear hg
    have Hm := Lib.hid hm; clear hm
    go_enter Try.func65, Try.ntmps65
    go_wp2_with fail
    with_reducible refine (piGood_no _ _ _ _ _ h Hg.out).mono ?_
    rintro e w' ⟨rfl, rfl⟩
    go_wp2
    go_ret2
    rw [Hm.out]
    exact ⟨rfl, Below.refl _ _⟩
  · have hG := good_iff.1 hg
    have hm := mBasin_yes hg
    obtain ⟨s, hs, h28⟩ := sum_toNat hG
    have hbas : basinL xs = ((allL s).filter fun b => decide (endL b ∈ cycL xs)).length := by unfold basinL; rw [hs]; rfl
    have hor := orTail_any ao n cap xs w h hG
    have hall := fun w => piAll_any 28 s s w h28 h28 h28
    rw [show allF 28 s s = allL s from rfl] at hall
    have hgood : ∀ x ∈ allL s, Good x := fun x hx => (allL_good h28 hx).1
    have hll := allL_length h28
    have hcn := cnt_le s (by omega) s (by omega)
    have hsum := fun w (h : IntsAt w ao n cap xs) => piSum_any ao n cap xs w h hG
    rw [hs] at hsum
    generalize allL s = A at *
    generalize cycL xs = C at *
    have Hg := Lib.hid hg; clear hg
    have Hm := Lib.hid hm; clear hm
    have HG := Lib.hid hG; clear hG
    have Hs := Lib.hid hs; clear hs
    have Hbas := Lib.hid hbas; clear hbas
    have Hor := Lib.hid hor; clear hor
    have Hall := Lib.hid hall; clear hall
    have Hgood := Lib.hid hgood; clear hgood
    have Hll := Lib.hid hll; clear hll
    have Hsum := Lib.hid hsum; clear hsum
    go_enter Try.func65, Try.ntmps65
    go_wp2_with fail
    with_reducible refine (piGood_yes _ _ _ _ _ h HG.out).mono ?_
    rintro e w' ⟨rfl, rfl⟩
    go_wp2_with fail
    with_reducible refine (Hor.out).mono ?_
    rintro e w1 ⟨a1, m1, c1, rfl, hr1, hb1⟩
    have h1 := h.keep hb1
    go_wp2_with fail
    with_reducible refine (Hsum.out w1 h1).mono ?_
    rintro e w' ⟨rfl, rfl⟩
    clear h1
    go_wp2_with fail
    with_reducible refine (Hall.out w1).mono ?_
    rintro e w2 ⟨a2, n2, c2, rfl, ho2, hb2⟩
    have hr2 := hr1.keep hb2
    have hn2 := ho2.length
    have hn2b : n2 ≤ 3718 := by have := Hll.out; omega
    have hbw2 := belowTrans hb1 hb2 (Nat.le_refl _)
    have Hn2 := Lib.hid hn2; clear hn2
    clear hr1 hb1 hb2
    go_wp2_with fail
    go_loopw [6, 25] (fun v i wr => ∃ (j z : Nat), j ≤ n2 ∧ z ≤ j ∧ i = .int .i64 j ∧ v = .int .i64 z ∧ ((A.take j).filter fun b => decide (endL b ∈ C)).length = z ∧ Below w2.heap.size w2 wr) (fun _ i _ => n2 - (intOf i).toNat)
    case atStart => exact ⟨0, 0, Nat.zero_le _, Nat.le_refl _, rfl, rfl, rfl, Below.refl _ _⟩
    case round =>
      obtain ⟨j, z, hj, hzj, rfl, rfl, hcnt, hb⟩ := hrel
      by_cases hlt : j < n2
      · have hrs := ho2.keep hb
        have hcyc := hr2.keep hb
        obtain ⟨bl, oo, rfl, hbl, hc⟩ := hrs.at.cell j hlt
        obtain ⟨a3, m3, c3, hck, hi3⟩ := hc j hlt
        have hmem : A.getD j [] ∈ A := by
          rw [List.getD_eq_getElem?_getD, List.getElem?_eq_getElem (by rw [Hn2.out]; exact hlt)]; exact List.getElem_mem _
        have htk := take_snocR (xs := A) (k := j) (n := n2) (x := A.getD j []) rfl hlt Hn2.out
        have hGx := Hgood.out _ hmem
        generalize A.getD j [] = x at *
        have hcon3 := orStepsB_any a3 m3 c3 x wr hi3 hGx
        have htl := (tailL_spec hGx).1
        have hend : endL x = stepsL (tailL x) x := rfl
        generalize hT : tailL x = T at *
        clear hc hrs
        have Hmem := Lib.hid hmem; clear hmem
        have Htk := Lib.hid htk; clear htk
        have HGx := Lib.hid hGx; clear hGx
        have Hcon3 := Lib.hid hcon3; clear hcon3
        have HT := Lib.hid hT; clear hT
        have Hend := Lib.hid hend; clear hend
        have Hcnt := Lib.hid hcnt; clear hcnt
        go_wp2_with fail
        with_reducible refine (Hcon3.out).mono ?_
        rintro e w4 ⟨rfl, hb4⟩
        have hi4 := hi3.keep hb4
        have hcyc4 := hcyc.keep hb4
        have hbw4 := belowTrans hb hb4 (Nat.le_refl _)
        clear hi3 hcyc hb4
        go_wp2_with fail
        with_reducible refine (piStepsX_any a3 m3 c3 x T w4 hi4 HGx.out (by omega)).mono ?_
        rintro e w5 ⟨a5, m5, c5, rfl, ho5, hb5⟩
        have hcyc5 := hcyc4.keep hb5
        have hbw5 := belowTrans hbw4 hb5 (Nat.le_refl _)
        rw [← Hend.out] at ho5
        clear hi4 hcyc4 hb5
        go_wp2_with fail
        with_reducible refine (orPlace_any _ _ _ _ _ _ _ _ _ hcyc5.at ho5.at).mono ?_
        rintro e w6 ⟨r, rfl, hpl, hb6⟩
        have hbw6 := belowTrans hbw5 hb6 (Nat.le_refl _)
        rcases place_inB hpl with ⟨rfl, hnot⟩ | ⟨hr0, hin⟩
        · have hnew : ((A.take (j + 1)).filter fun b => decide (endL b ∈ C)).length = z := by
            rw [Htk.out, List.filter_append, List.filter_cons_of_neg (by simpa using hnot)]
            simpa using Hcnt.out
          have Hnot := Lib.hid hnot; clear hnot
          have Hnew := Lib.hid hnew; clear hnew
          have Hpl := Lib.hid hpl; clear hpl
          go_wp2_with fail
          go_roundw
          case rel => exact ⟨j + 1, z, by omega, by omega, by go_num, rfl, Hnew.out, hbw6⟩
          case measure => simp [intOf]; omega
        · have hnew : ((A.take (j + 1)).filter fun b => decide (endL b ∈ C)).length = z + 1 := by
            rw [Htk.out, List.filter_append, List.filter_cons_of_pos (by simpa using hin), List.length_append, Hcnt.out]
            simp
          have Hin := Lib.hid hin; clear hin
          have Hnew := Lib.hid hnew; clear hnew
          have Hpl := Lib.hid hpl; clear hpl
          go_wp2_with fail
          go_roundw
          case rel => exact ⟨j + 1, z + 1, by omega, by omega, by go_num, valI (by omega), Hnew.out, hbw6⟩
          case measure => simp [intOf]; omega
      · obtain rfl : n2 = j := by omega
        rw [List.take_of_length_le (by rw [Hn2.out]; exact Nat.le_refl _), ← Hbas.out] at hcnt
        have Hcnt := Lib.hid hcnt; clear hcnt
        go_wp2_with fail
        go_ret2
        rw [Hm.out, Hcnt.out]
        exact ⟨rfl, belowTrans hbw2 hb (Nat.le_refl _)⟩
end Go.Proofs.Ythppkfhhidlpiaa
