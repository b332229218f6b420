/- Chapter 1: SideStep and JoinPiles, by the model and by the program. No condition. -/
import Derived.Test.YtkhphdohdnfplaaSteps
namespace Go.Proofs.Ytkhphdohdnfplaa
open Go.RowKit
set_option linter.unusedVariables false
set_option linter.unusedSimpArgs false

def padP (xs : List Int) (p j : Nat) : List Int := (List.range p).map fun (i : Nat) => xs.getD (i + 1) 0 + if i < j then 1 else 0
theorem padP_length (xs : List Int) (p j : Nat) : (padP xs p j).length = p := by simp [padP]
theorem padP_start (xs : List Int) : xs.drop 1 = padP xs (xs.length - 1) 0 := by
  apply List.ext_getElem
  · simp [padP_length]
  · intro i h1 h2
    simp at h1
    simp [padP, List.getD_eq_getElem?_getD, List.getElem?_eq_getElem (show i + 1 < xs.length by omega), Nat.add_comm]
theorem padP_more (xs : List Int) (p : Nat) (h : xs.length - 1 ≤ p) : padP xs p 0 ++ [0] = padP xs (p + 1) 0 := by
  unfold padP
  rw [List.range_succ, List.map_append]
  congr 1
  simp only [List.map_cons, List.map_nil, Nat.not_lt_zero, if_false]
  rw [List.getD_eq_getElem?_getD, List.getElem?_eq_none (by omega)]
  rfl
theorem padP_getD (xs : List Int) (p j i : Nat) (h : i < p) : (padP xs p j).getD i 0 = xs.getD (i + 1) 0 + if i < j then 1 else 0 := by
  unfold padP
  rw [List.getD_eq_getElem?_getD, List.getElem?_map, List.getElem?_range h]
  rfl
theorem padP_set (xs : List Int) (p j : Nat) (h : j < p) (q : Int) (hq : q = xs.getD (j + 1) 0 + 1) : (padP xs p j).set j q = padP xs p (j + 1) := by
  subst hq
  apply List.ext_getElem
  · simp [padP_length]
  · intro r h1 h2
    simp [padP_length] at h2
    rw [List.getElem_set]
    split
    · next e => subst e; simp only [padP, List.getElem_map, List.getElem_range]; rw [if_pos (by omega)]
    · next e =>
      simp only [padP, List.getElem_map, List.getElem_range]
      by_cases hr : r < j
      · rw [if_pos hr, if_pos (by omega)]
      · rw [if_neg hr, if_neg (by omega)]
theorem padP_end (xs : List Int) (m n : Nat) (hm : (xs.headD 0).toNat = m) (hl : xs.length = n) : padP xs (max (n - 1) m) m = sideStepL xs := by
  subst hm hl; rfl

def mSideStep (xs : List Int) : List Int × Bool := (if goodB xs then sideStepL xs else [], goodB xs)
theorem mSideStep_yes {xs : List Int} (h : goodB xs = true) : mSideStep xs = (sideStepL xs, true) := by unfold mSideStep; rw [h]; rfl
theorem mSideStep_no {xs : List Int} (h : goodB xs = false) : mSideStep xs = ([], false) := by unfold mSideStep; rw [h]; rfl
theorem mSideStep_bound (xs : List Int) : (mSideStep xs).1.length ≤ 1048576 := by
  cases h : goodB xs
  · rw [mSideStep_no h]; simp
  · rw [mSideStep_yes h]
    have hG := good_iff.1 h
    have := hG.len; have := hG.head
    show (sideStepL xs).length ≤ _
    simp only [sideStepL, List.length_map, List.length_range]
    omega

theorem spec_SideStep (ao : Option Addr) (n cap : Nat) (xs : List Int) (w : World) (h : IntsAt w ao n cap xs) :
    Calls Try.prog 49 #[.slice ao n cap] w fun e w' => ∃ ao' n' cap', e = .returned (.tuple #[.slice ao' n' cap', .bool (mSideStep xs).2]) ∧ Own w.heap.size w'.heap.size w' ao' n' cap' (mSideStep xs).1 ∧ Below w.heap.size w w' := by
  cases hg : goodB xs
  · have hm := mSideStep_no hg
    have Hg := Lib.hid hg; clear hg
    have Hm := Lib.hid hm; clear hm
    go_enter Try.func49, Try.ntmps49
    go_wp2_with fail
    with_reducible refine (piGood_no _ _ _ _ _ h Hg.out).mono ?_
    rintro e w' ⟨rfl, rfl⟩
    go_wp2
    go_ret2
    rw [Hm.out]
    exact ⟨none, 0, 0, rfl, Own.nil _ _ _, Below.refl _ _⟩
  · have hm := mSideStep_yes hg
    have hG := good_iff.1 hg
    have hG1 := side_good hG
    have hG2 := stepL_good hG1
    have he := sideStep_eq hG
    have Hg := Lib.hid hg; clear hg
    have Hm := Lib.hid hm; clear hm
    have HG := Lib.hid hG; clear hG
    have HG1 := Lib.hid hG1; clear hG1
    have HG2 := Lib.hid hG2; clear hG2
    have He := Lib.hid he; clear he
    go_enter Try.func49, Try.ntmps49
    go_wp2_with fail
    with_reducible refine (piGood_yes _ _ _ _ _ h HG.out).mono ?_
    rintro e w' ⟨rfl, rfl⟩
    go_wp2_with fail
    with_reducible refine (piSide_any _ _ _ _ _ h HG.out).mono ?_
    rintro e w1 ⟨a1, n1, c1, rfl, ho1, hb1⟩
    go_wp2_with fail
    with_reducible refine (piStep_any _ _ _ _ _ ho1.at HG1.out).mono ?_
    rintro e w2 ⟨a2, n2, c2, rfl, ho2, hb2⟩
    go_wp2_with fail
    with_reducible refine (piSide_any _ _ _ _ _ ho2.at HG2.out).mono ?_
    rintro e w3 ⟨a3, n3, c3, rfl, ho3, hb3⟩
    go_wp2
    go_ret2
    rw [Hm.out]
    rw [He.out] at ho3
    exact ⟨_, _, _, rfl, ho3.mono (Nat.le_trans hb1.size hb2.size) (Nat.le_refl _), belowTrans (belowTrans hb1 hb2 (Nat.le_refl _)) hb3 (Nat.le_refl _)⟩

set_option maxHeartbeats 1600000 in
theorem impl_SideStep (ao : Option Addr) (n cap : Nat) (xs : List Int) (w : World) (h : IntsAt w ao n cap xs) :
    Calls Try.prog 48 #[.slice ao n cap] w fun e w' => ∃ ao' n' cap', e = .returned (.tuple #[.slice ao' n' cap', .bool (mSideStep xs).2]) ∧ Own w.heap.size w'.heap.size w' ao' n' cap' (mSideStep xs).1 ∧ Below w.heap.size w w' := by
  cases hg : goodB xs
  · have hm := mSideStep_no hg
    have Hg := Lib.hid hg; clear hg
    have Hm := Lib.hid hm; clear hm
    go_enter Try.func48, Try.ntmps48
    go_wp2_with fail
    with_reducible refine (isPiles_no _ _ _ _ _ h Hg.out).mono ?_
    rintro e w' ⟨rfl, rfl⟩
    go_wp2
    go_ret2
    rw [Hm.out]
    exact ⟨none, 0, 0, rfl, Own.nil _ _ _, Below.refl _ _⟩
  · have hr := mSideStep_yes hg
    have hG := good_iff.1 hg
    have hlen := hG.len
    have hl := h.length
    have Hg := Lib.hid hg; clear hg
    have Hr := Lib.hid hr; clear hr
    by_cases hz : n = 0
    · have hxs : xs = [] := List.eq_nil_of_length_eq_zero (by omega)
      subst hz
      subst hxs
      go_enter Try.func48, Try.ntmps48
      go_wp2_with fail
      with_reducible refine (isPiles_yes _ _ _ _ _ h hG).mono ?_
      rintro e w' ⟨rfl, rfl⟩
      go_wp2
      go_ret2
      rw [Hr.out]
      exact ⟨_, _, _, rfl, Own.empty w, belowAlloc w _⟩
    · have hn : (n : Int) ≤ 28 := by omega
      have hne : ((n : Int) == 0) = false := by simp; omega
      have hh := hG.head
      generalize hm : (xs.headD 0).toNat = m at *
      have hm28 : m ≤ 28 := by omega
      have hx0 : xs.getD 0 0 = (m : Int) := by rw [← head_getD]; omega
      have hm1 : 1 ≤ m := by
        have := hG.1 (xs.getD 0 0) (getD_mem rfl (show 0 < n by omega) hl)
        omega
      obtain ⟨a1, hsl, hi1⟩ := slFrom w xs h 1 (by omega) .i64
      rw [show ((1 : Nat) : Int) = 1 from rfl] at hsl
      have hcp := copyOf_any a1 (n - 1) (cap - 1) _ w hi1 (by omega)
      rw [padP_start, hl] at hcp
      obtain ⟨b, oo, rfl, hbl, hc⟩ := h.cell 0 (by omega)
      clear hc
      have Hm := Lib.hid hm; clear hm
      have HG := Lib.hid hG; clear hG
      have Hx0 := Lib.hid hx0; clear hx0
      have Hh := Lib.hid hh; clear hh
      have Hcp := Lib.hid hcp; clear hcp
      have Hi1 := Lib.hid hi1; clear hi1
      have Hl := Lib.hid hl; clear hl
      go_enter Try.func48, Try.ntmps48
      go_wp2_with fail
      with_reducible refine (isPiles_yes _ _ _ _ _ h HG.out).mono ?_
      rintro e w' ⟨rfl, rfl⟩
      go_wp2_with fail
      with_reducible refine (Hcp.out).mono ?_
      rintro e w1 ⟨a2, c2, rfl, ho1, hb1⟩
      go_wp2_with fail
      clear hsl
      go_loopw [4] (fun v wr => ∃ (p : Nat) (a : Option Addr) (c : Nat), n - 1 ≤ p ∧ p ≤ max (n - 1) m ∧ v = .slice a p c ∧ Own w.heap.size wr.heap.size wr a p c (padP xs p 0) ∧ Below w.heap.size w wr) (fun v _ => match v with | .slice _ p _ => 100 - p | _ => 0)
      case atStart => exact ⟨n - 1, a2, c2, Nat.le_refl _, by omega, rfl, ho1, hb1⟩
      case round =>
        obtain ⟨p, a, c, hp1, hp2, rfl, hown, hb⟩ := hrel
        have h1 := h.keep hb
        obtain ⟨b', oo', e', hbl', hc⟩ := h1.cell 0 (by omega)
        cases e'
        have hc0 := hc 0 (by omega)
        rw [Hx0.out] at hc0
        simp only [Nat.add_zero] at hc0
        clear hc h1
        by_cases hlt : p < m
        · have hmore := padP_more xs p (by rw [Hl.out]; omega)
          have Hmore := Lib.hid hmore; clear hmore
          go_wp2_with (at_builtin; refine wpList_push wr rfl _ _ rfl w.heap.size wr.heap.size a p c _ rfl hown _ rfl (by omega) hb.size ?_)
          intro a3 c3 w3 ho3 hc3
          have hb3 := hb.trans (hown.chgBelow hc3 hb.size)
          clear hown hc3 hc0
          go_wp2
          go_roundw
          case rel => exact ⟨p + 1, a3, c3, by omega, by omega, rfl, by rw [← Hmore.out]; exact ho3, hb3⟩
          case measure => simp; omega
        · obtain rfl : p = max (n - 1) m := by omega
          generalize hP : max (n - 1) m = P at *
          rcases hown.cases with ⟨_, hz', _⟩ | ⟨g, rfl, hg1, hg2, hg3⟩
          · omega
          clear hb1 ho1
          obtain ⟨wo, hwo⟩ : ∃ wo : World, wo = wr := ⟨_, rfl⟩
          subst hwo
          go_wp2
          go_loopw [28] (fun i wq => ∃ j : Nat, j ≤ m ∧ i = .int .i64 j ∧ Own w.heap.size wo.heap.size wq (some ⟨g, 0, none⟩) P c (padP xs P j) ∧ Below w.heap.size w wq ∧ wo.heap.size ≤ wq.heap.size) (fun i _ => m - (intOf i).toNat)
          case atStart => exact ⟨0, Nat.zero_le _, rfl, hown, hb, Nat.le_refl _⟩
          case round =>
            obtain ⟨j, hj, rfl, hoq, hbq, hsq⟩ := hrel
            clear hown hb
            by_cases hlt2 : j < m
            · have hcell := getD_cells hoq j (by omega)
              rw [padP_getD xs P j j (by omega), if_neg (by omega), Int.add_zero] at hcell
              have hfz := hoq.frozenAt j
              have hbd : 0 ≤ xs.getD (j + 1) 0 ∧ xs.getD (j + 1) 0 ≤ 28 := by
                have := getD_le_head HG.out.2.1 (fun x hx => by have := HG.out.1 x hx; omega) (j + 1)
                have := HG.out.head
                omega
              have hst := hoq.set j (xs.getD (j + 1) 0 + 1)
              rw [padP_set xs P j (by omega) _ rfl] at hst
              generalize xs.getD (j + 1) 0 = y at *
              have Hst := Lib.hid hst; clear hst
              clear hoq
              go_wp2
              go_roundw
              case rel => exact ⟨j + 1, by omega, by go_num, Hst.out.1, hbq.setCell (by omega) _, Nat.le_trans hsq (Hst.out.2).size⟩
              case measure => simp [intOf]; omega
            · obtain rfl : m = j := by omega
              have he := padP_end xs m n Hm.out Hl.out
              rw [hP] at he
              rw [he] at hoq
              have He := Lib.hid he; clear he
              have HP := Lib.hid hP; clear hP
              go_wp2
              go_ret2
              rw [Hr.out]
              exact ⟨_, _, _, rfl, hoq.mono (Nat.le_refl _) hsq, hbq⟩
end Go.Proofs.Ytkhphdohdnfplaa
