/- Chapter 3: CardBehind, NextDrop, HoleOf, SpillOf by the model. No condition. -/
import Derived.Test.YtmfdimdcoeapoaaLevQ
namespace Go.Proofs.Ytmfdimdcoeapoaa
open Go.RowKit
set_option linter.unusedVariables false
set_option linter.unusedSimpArgs false
set_option maxRecDepth 20000

set_option maxHeartbeats 1600000 in
theorem spec_NextDrop (ao : Option Addr) (n cap : Nat) (xs : List Int) (w : World) (h : IntsAt w ao n cap xs) :
    Calls Try.prog 37 #[.slice ao n cap] w fun e w' => e = .returned (.tuple #[.int .i64 (mNextDrop xs).1, .bool (mNextDrop xs).2]) ∧ Below w.heap.size w w' := by
  cases hg : goodB xs
  · have hm := mNext_no1 hg
    have Hg := Lib.hid hg; clear hg
    have Hm := Lib.hid hm; clear hm
    go_enter Try.func37, Try.ntmps37
    go_wp2_with fail
    with_reducible refine (piGood_no _ _ _ _ _ h Hg.out).mono ?_
    rintro e w' ⟨rfl, rfl⟩
    go_wp2_with fail
    go_ret2
    rw [Hm.out]
    exact ⟨rfl, Below.refl _ _⟩
  · have hG := good_iff.1 hg
    have horc := fun w h => orCyclic_any ao n cap xs w h hG
    by_cases hc : Cyc xs
    · have hm := mNext_no2 hc
      rw [show cycB xs = true from decide_eq_true hc] at horc
      have Hg := Lib.hid hg; clear hg
      have Hm := Lib.hid hm; clear hm
      have HG := Lib.hid hG; clear hG
      have Horc := Lib.hid horc; clear horc
      have Hc := Lib.hid hc; clear hc
      go_enter Try.func37, Try.ntmps37
      go_wp2_with fail
      with_reducible refine (piGood_yes _ _ _ _ _ h HG.out).mono ?_
      rintro e w' ⟨rfl, rfl⟩
      go_wp2_with fail
      with_reducible refine (Horc.out _ h).mono ?_
      rintro e w' ⟨rfl, rfl⟩
      go_wp2_with fail
      go_ret2
      rw [Hm.out]
      exact ⟨rfl, Below.refl _ _⟩
    · have hm := mNext_yes hg hc
      rw [show cycB xs = false from decide_eq_false hc] at horc
      have hlen := hG.len
      have hl := h.length
      have hcp := l1Own_any ao n cap xs w h (by omega)
      have hnd := (nd_spec hG hc).2.2
      have Hg := Lib.hid hg; clear hg
      have Hm := Lib.hid hm; clear hm
      have Hc := Lib.hid hc; clear hc
      have HG := Lib.hid hG; clear hG
      have Hcp := Lib.hid hcp; clear hcp
      have Hl := Lib.hid hl; clear hl
      have Horc := Lib.hid horc; clear horc
      go_enter Try.func37, Try.ntmps37
      go_wp2_with fail
      with_reducible refine (piGood_yes _ _ _ _ _ h HG.out).mono ?_
      rintro e w' ⟨rfl, rfl⟩
      go_wp2_with fail
      with_reducible refine (Horc.out _ h).mono ?_
      rintro e w' ⟨rfl, rfl⟩
      clear h
      go_wp2_with fail
      with_reducible refine (Hcp.out).mono ?_
      rintro e w1 ⟨a1, c1, rfl, ho1, hb1⟩
      go_wp2_with fail
      go_loopw [4, 5] (fun v k wr => ∃ (j : Nat) (a : Option Addr) (m c : Nat), k = .int .i64 (j + 1 : Nat) ∧ v = .slice a m c ∧ Own w.heap.size wr.heap.size wr a m c (stepsL j xs) ∧ (∀ r, r < j → dropL (stepsL r xs) = 0) ∧ Below w.heap.size w wr) (fun _ k _ => ndL xs + 1 - (intOf k).toNat)
      case atStart => exact ⟨0, a1, n, c1, rfl, rfl, ho1, fun r hr => by omega, hb1⟩
      case round =>
        obtain ⟨j, a, m, c, rfl, rfl, hown, hz, hbj⟩ := hrel
        clear ho1 hb1
        have hGj := stepsL_good HG.out j
        have hGj1 := stepsL_good HG.out (j + 1)
        have hdn := drop_next HG.out Hc.out hz
        have hpd := pot_drop hGj
        rw [show stepL (stepsL j xs) = stepsL (j + 1) xs from rfl] at hpd
        have hst := fun w h => piStep_any a m c (stepsL j xs) w h hGj
        rw [show stepL (stepsL j xs) = stepsL (j + 1) xs from rfl] at hst
        have hp1 := fun (a : Option Addr) (m c : Nat) w h => lePotential_any a m c (stepsL (j + 1) xs) w h hGj1
        have hp0 := fun (a : Option Addr) (m c : Nat) w h => lePotential_any a m c (stepsL j xs) w h hGj
        have hr0 := pot_range hGj
        have hr1 := pot_range hGj1
        have hd0 := (dropN_bound hGj (k := (stepsL j xs).length) (Nat.le_refl _)).1
        have hd0' : 0 ≤ dropL (stepsL j xs) := hd0
        have hz2 : dropL (stepsL j xs) = 0 → ∀ r, r < j + 1 → dropL (stepsL r xs) = 0 := fun h0 r hr => by
          by_cases e : r = j
          · rw [e]; exact h0
          · exact hz r (by omega)
        clear hd0
        have hd1 := hdn.1
        have hd2 := hdn.2.1
        have hd3 := hdn.2.2
        clear hdn
        generalize dropL (stepsL j xs) = d at *
        generalize pot (stepsL (j + 1) xs) = q at *
        generalize pot (stepsL j xs) = p at *
        by_cases h0 : q < p
        · have hje := hd3 (by omega)
          clear hz2 hd2 hd3 hd1
          have Hst := Lib.hid hst; clear hst
          have Hp1 := Lib.hid hp1; clear hp1
          have Hp0 := Lib.hid hp0; clear hp0
          have Hz := Lib.hid hz; clear hz
          have HGj := Lib.hid hGj; clear hGj
          have HGj1 := Lib.hid hGj1; clear hGj1
          have Hje := Lib.hid hje; clear hje
          have Hpd := Lib.hid hpd; clear hpd
          go_wp2_with fail
          with_reducible refine (Hst.out _ hown.at).mono ?_
          rintro e w3 ⟨a3, m3, c3, rfl, ho3, hb3⟩
          have hat3 := ho3.at
          have hown3 := hown.keep hb3
          have hbw3 := belowTrans hbj hb3 (Nat.le_refl _)
          clear hown ho3
          go_wp2_with fail
          with_reducible refine (Hp1.out _ _ _ _ hat3).mono ?_
          rintro e w4 ⟨rfl, hb4⟩
          have hat4 := (hown3.keep hb4).at
          have hbw4 := belowTrans hbw3 hb4 (Nat.le_refl _)
          clear hown3 hat3
          go_wp2_with fail
          with_reducible refine (Hp0.out _ _ _ _ hat4).mono ?_
          rintro e w5 ⟨rfl, hb5⟩
          go_wp2_with fail
          go_ret2
          rw [Hm.out, ← Hje.out]
          exact ⟨rfl, belowTrans hbw4 hb5 (Nat.le_refl _)⟩
        · have hd00 : d = 0 := by omega
          have hz3 := hz2 hd00
          have hlt := hd2 hd00
          clear hz2 hd2 hd3 hd1
          have Hst := Lib.hid hst; clear hst
          have Hp1 := Lib.hid hp1; clear hp1
          have Hp0 := Lib.hid hp0; clear hp0
          have Hz := Lib.hid hz; clear hz
          have HGj := Lib.hid hGj; clear hGj
          have HGj1 := Lib.hid hGj1; clear hGj1
          have Hz3 := Lib.hid hz3; clear hz3
          have Hpd := Lib.hid hpd; clear hpd
          have Hd00 := Lib.hid hd00; clear hd00
          go_wp2_with fail
          with_reducible refine (Hst.out _ hown.at).mono ?_
          rintro e w3 ⟨a3, m3, c3, rfl, ho3, hb3⟩
          have hat3 := ho3.at
          have hown3 := hown.keep hb3
          have hbw3 := belowTrans hbj hb3 (Nat.le_refl _)
          have hs3 := hbj.size
          clear hown
          go_wp2_with fail
          with_reducible refine (Hp1.out _ _ _ _ hat3).mono ?_
          rintro e w4 ⟨rfl, hb4⟩
          have hat4 := (hown3.keep hb4).at
          have hbw4 := belowTrans hbw3 hb4 (Nat.le_refl _)
          have ho4 := ho3.keep hb4
          clear hown3 hat3 ho3
          go_wp2_with fail
          with_reducible refine (Hp0.out _ _ _ _ hat4).mono ?_
          rintro e w5 ⟨rfl, hb5⟩
          have ho5 := ho4.keep hb5
          have hs4 := hb4.size
          have hs5 := hb5.size
          clear ho4 hat4
          go_wp2_with fail
          go_roundw
          case rel => exact ⟨j + 1, a3, m3, c3, valI (by omega), rfl, ho5.mono hs3 (by omega), Hz3.out, belowTrans hbw4 hb5 (Nat.le_refl _)⟩
          case measure => simp [intOf]; omega

set_option maxHeartbeats 1600000 in
theorem spec_CardBehind (ao : Option Addr) (n cap : Nat) (xs : List Int) (pile place : Int) (w : World) (h : IntsAt w ao n cap xs) :
    Calls Try.prog 41 #[.slice ao n cap, .int .i64 pile, .int .i64 place] w fun e w' => e = .returned (.tuple #[.int .i64 (mCardBehind xs pile place).1, .int .i64 (mCardBehind xs pile place).2.1, .bool (mCardBehind xs pile place).2.2]) ∧ Below w.heap.size w w' := by
  cases hg : goodB xs
  · have hm := mCard_no (xs := xs) (pile := pile) (place := place) (by rw [hg]; simp)
    have Hg := Lib.hid hg; clear hg
    have Hm := Lib.hid hm; clear hm
    go_enter Try.func41, Try.ntmps41
    go_wp2_with fail
    with_reducible refine (piGood_no _ _ _ _ _ h Hg.out).mono ?_
    rintro e w' ⟨rfl, rfl⟩
    go_wp2
    go_ret3
    rw [Hm.out]
    exact ⟨rfl, Below.refl _ _⟩
  · have hG := good_iff.1 hg
    have hl := h.length
    have hlen := hG.len
    by_cases hp : 0 ≤ pile ∧ pile ≤ (n : Int) - 1
    · obtain ⟨k, rfl⟩ := Int.eq_ofNat_of_zero_le hp.1
      have hlt : k < n := by omega
      obtain ⟨b, o, rfl, hb, hc⟩ := h.cell k hlt
      have hck := hc k hlt
      clear hc
      generalize hx : xs.getD k 0 = x at hck
      have Hx := Lib.hid hx; clear hx
      have hx := good_at hG (k := k) (by omega)
      rw [Hx.out] at hx
      have hcb : cardB xs k place = decide (0 ≤ place ∧ place ≤ x - 1) := by
        unfold cardB
        rw [show ((k : Int)).toNat = k by omega, Hx.out]
        congr 1
        exact propext ⟨fun hh => by omega, fun hh => by omega⟩
      have hn28 : n ≤ 28 := by omega
      by_cases hc : 0 ≤ place ∧ place ≤ x - 1
      · rw [decide_eq_true hc] at hcb
        by_cases h0 : place = 0
        · subst h0
          have hm := mCard_yes0 hg hcb
          have Hp := Lib.hid hp; clear hp
          have Hg := Lib.hid hg; clear hg
          have Hcb := Lib.hid hcb; clear hcb
          have Hc := Lib.hid hc; clear hc
          have HG := Lib.hid hG; clear hG
          have Hm := Lib.hid hm; clear hm
          go_enter Try.func41, Try.ntmps41
          go_wp2_with fail
          with_reducible refine (piGood_yes _ _ _ _ _ h HG.out).mono ?_
          rintro e w' ⟨rfl, rfl⟩
          go_wp2_with fail
          with_reducible refine (l1In_yes _ _ _ _ Hp.out).mono ?_
          rintro e w' ⟨rfl, rfl⟩
          go_wp2_with fail
          with_reducible refine (l1In_yes _ _ _ _ Hc.out).mono ?_
          rintro e w' ⟨rfl, rfl⟩
          go_wp2_with fail
          go_ret3
          rw [Hm.out]
          exact ⟨rfl, Below.refl _ _⟩
        · have hm := mCard_yes1 hg hcb h0
          have h01 : (place == 0) = false := by simpa using h0
          have h02 : decide (place = 0) = false := decide_eq_false h0
          have hc2 := hc
          have Hp := Lib.hid hp; clear hp
          have Hg := Lib.hid hg; clear hg
          have Hcb := Lib.hid hcb; clear hcb
          have Hc2 := Lib.hid hc2; clear hc2
          have HG := Lib.hid hG; clear hG
          have Hm := Lib.hid hm; clear hm
          have H0 := Lib.hid h0; clear h0
          go_enter Try.func41, Try.ntmps41
          go_wp2_with fail
          with_reducible refine (piGood_yes _ _ _ _ _ h HG.out).mono ?_
          rintro e w' ⟨rfl, rfl⟩
          go_wp2_with fail
          with_reducible refine (l1In_yes _ _ _ _ Hp.out).mono ?_
          rintro e w' ⟨rfl, rfl⟩
          go_wp2_with fail
          with_reducible refine (l1In_yes _ _ _ _ Hc2.out).mono ?_
          rintro e w' ⟨rfl, rfl⟩
          go_wp2_with fail
          go_ret3
          rw [Hm.out]
          exact ⟨rfl, Below.refl _ _⟩
      · rw [decide_eq_false hc] at hcb
        have hm := mCard_no (xs := xs) (pile := k) (place := place) (by rw [hcb]; simp)
        have Hp := Lib.hid hp; clear hp
        have Hg := Lib.hid hg; clear hg
        have Hcb := Lib.hid hcb; clear hcb
        have Hc := Lib.hid hc; clear hc
        have HG := Lib.hid hG; clear hG
        have Hm := Lib.hid hm; clear hm
        go_enter Try.func41, Try.ntmps41
        go_wp2_with fail
        with_reducible refine (piGood_yes _ _ _ _ _ h HG.out).mono ?_
        rintro e w' ⟨rfl, rfl⟩
        go_wp2_with fail
        with_reducible refine (l1In_yes _ _ _ _ Hp.out).mono ?_
        rintro e w' ⟨rfl, rfl⟩
        go_wp2_with fail
        with_reducible refine (l1In_no _ _ _ _ Hc.out).mono ?_
        rintro e w' ⟨rfl, rfl⟩
        go_wp2_with fail
        go_ret3
        rw [Hm.out]
        exact ⟨rfl, Below.refl _ _⟩
    · have hcb : cardB xs pile place = false := by
        unfold cardB
        exact decide_eq_false (fun hh => hp ⟨hh.1.1, by omega⟩)
      have hm := mCard_no (xs := xs) (pile := pile) (place := place) (by rw [hcb]; simp)
      have Hp := Lib.hid hp; clear hp
      have Hg := Lib.hid hg; clear hg
      have Hcb := Lib.hid hcb; clear hcb
      have HG := Lib.hid hG; clear hG
      have Hm := Lib.hid hm; clear hm
      go_enter Try.func41, Try.ntmps41
      go_wp2_with fail
      with_reducible refine (piGood_yes _ _ _ _ _ h HG.out).mono ?_
      rintro e w' ⟨rfl, rfl⟩
      go_wp2_with fail
      with_reducible refine (l1In_no _ _ _ _ Hp.out).mono ?_
      rintro e w' ⟨rfl, rfl⟩
      go_wp2_with fail
      go_ret3
      rw [Hm.out]
      exact ⟨rfl, Below.refl _ _⟩

/-! ### The first place without a card, the last one with one -/
set_option maxHeartbeats 800000 in
theorem leCard_any (ao : Option Addr) (n cap : Nat) (xs : List Int) (l k : Nat) (w : World) (h : IntsAt w ao n cap xs) (hg : Good xs) (hl : l ≤ 1000) (hk : k ≤ 1000) :
    Calls Try.prog 72 #[.slice ao n cap, .int .i64 l, .int .i64 k] w fun e w' => e = .returned (.bool (decide (k < n) && celB xs l k)) ∧ w = w' := by
  have hln := h.length
  have hlen := hg.len
  by_cases hlt : k < n
  · obtain ⟨b, o, rfl, hb, hc⟩ := h.cell k hlt
    have hck := hc k hlt
    clear hc
    generalize hx : xs.getD k 0 = x at hck
    have Hx := Lib.hid hx; clear hx
    have hx := good_at hg (k := k) (by omega)
    rw [Hx.out] at hx
    have hcb : (decide (k < n) && celB xs l k) = decide ((l : Int) - k < x) := by
      rw [decide_eq_true hlt]; unfold celB; rw [Hx.out]; simp
    rw [hcb]
    have Hg := Lib.hid hg; clear hg
    have Hcb := Lib.hid hcb; clear hcb
    go_enter Try.func72, Try.ntmps72
    go_wp2_with fail
    all_goals first | (go_ret; exact ⟨rfl, rfl⟩) | (go_ret; exact ⟨retB (by simp; omega), rfl⟩)
  · have hcb : (decide (k < n) && celB xs l k) = false := by rw [decide_eq_false hlt]; rfl
    rw [hcb]
    have Hg := Lib.hid hg; clear hg
    have Hcb := Lib.hid hcb; clear hcb
    go_enter Try.func72, Try.ntmps72
    go_wp2_with fail
    all_goals first | (go_ret; exact ⟨rfl, rfl⟩) | (go_ret; exact ⟨retB (by simp; omega), rfl⟩)
theorem cel_short {xs : List Int} (hg : Good xs) {l k n : Nat} (hn : xs.length = n) (h : k ≤ l) : (decide (k < n) && celB xs l k) = celB xs l k := by
  by_cases hk : k < n
  · rw [decide_eq_true hk]; rfl
  · rw [decide_eq_false hk]
    unfold celB
    have := (getD_nonneg hg.1 k).1
    rw [getD_past (by omega)]
    exact (decide_eq_false (by omega)).symm
theorem leCardYes (ao : Option Addr) (n cap : Nat) (xs : List Int) (l k : Nat) (w : World) (h : IntsAt w ao n cap xs) (hg : Good xs) (hl : l ≤ 1000) (hk : k ≤ l) (hc : celB xs l k = true) :
    Calls Try.prog 72 #[.slice ao n cap, .int .i64 l, .int .i64 k] w fun e w' => e = .returned (.bool true) ∧ w = w' := by
  have := leCard_any ao n cap xs l k w h hg hl (by omega)
  rw [cel_short hg h.length hk, hc] at this
  exact this
theorem leCardNo (ao : Option Addr) (n cap : Nat) (xs : List Int) (l k : Nat) (w : World) (h : IntsAt w ao n cap xs) (hg : Good xs) (hl : l ≤ 1000) (hk : k ≤ l) (hc : celB xs l k = false) :
    Calls Try.prog 72 #[.slice ao n cap, .int .i64 l, .int .i64 k] w fun e w' => e = .returned (.bool false) ∧ w = w' := by
  have := leCard_any ao n cap xs l k w h hg hl (by omega)
  rw [cel_short hg h.length hk, hc] at this
  exact this

set_option maxHeartbeats 1600000 in
theorem leHole_any (ao : Option Addr) (n cap : Nat) (xs : List Int) (w : World) (h : IntsAt w ao n cap xs) (hg : Good xs) :
    Calls Try.prog 71 #[.slice ao n cap] w fun e w' => e = .returned (.tuple #[.int .i64 (holeN xs : Nat), .int .i64 (holeP xs : Nat)]) ∧ w = w' := by
  have hsp := hole_spec hg
  have hsp1 := hsp.1
  have Hg := Lib.hid hg; clear hg
  have Hsp := Lib.hid hsp; clear hsp
  go_enter Try.func71, Try.ntmps71
  go_wp2_with fail
  go_loop [4] (fun l => ∃ j : Nat, j ≤ holeN xs ∧ l = .int .i64 j ∧ (∀ k, k < j → lev xs k xs.length = (k : Int) + 1)) (fun l => holeN xs - (intOf l).toNat)
  case atStart => exact ⟨0, Nat.zero_le _, rfl, fun k hk => by omega⟩
  case round =>
    obtain ⟨j, hj, rfl, hf⟩ := hrel
    have Hf := Lib.hid hf; clear hf
    go_wp2_with fail
    go_loop [5] (fun p => ∃ q : Nat, q ≤ j + 1 ∧ p = .int .i64 q ∧ (∀ i, i < q → celB xs j i = true)) (fun p => j + 1 - (intOf p).toNat)
    case atStart => exact ⟨0, Nat.zero_le _, rfl, fun i hi => by omega⟩
    case round =>
      obtain ⟨q, hq, rfl, hall⟩ := hrel
      by_cases hlt : q ≤ j
      · cases hc : celB xs j q
        · have hh := hole_at Hg.out Hf.out hlt hc hall
          have hcall := leCardNo ao n cap xs j q w h Hg.out (by omega) hlt hc
          have Hall := Lib.hid hall; clear hall
          have Hcall := Lib.hid hcall; clear hcall
          have Hc := Lib.hid hc; clear hc
          have Hh := Lib.hid hh; clear hh
          go_wp2_with fail
          with_reducible refine (Hcall.out).mono ?_
          rintro e w' ⟨rfl, rfl⟩
          go_wp2_with fail
          go_ret2
          rw [(Hh.out).1, (Hh.out).2]
          exact ⟨rfl, rfl⟩
        · have hcall := leCardYes ao n cap xs j q w h Hg.out (by omega) hlt hc
          have hall2 : ∀ i, i < q + 1 → celB xs j i = true := fun i hi => by
            by_cases e : i = q
            · rw [e]; exact hc
            · exact hall i (by omega)
          have Hall := Lib.hid hall; clear hall
          have Hcall := Lib.hid hcall; clear hcall
          have Hc := Lib.hid hc; clear hc
          have Hall2 := Lib.hid hall2; clear hall2
          go_wp2_with fail
          with_reducible refine (Hcall.out).mono ?_
          rintro e w' ⟨rfl, rfl⟩
          go_wp2_with fail
          go_round
          case rel => exact ⟨q + 1, by omega, valI (by omega), Hall2.out⟩
          case measure => simp [intOf]; omega
      · have hful := full_of Hg.out (l := j) (fun i hi => hall i (by omega))
        have hjl : j < holeN xs := by
          rcases Nat.lt_or_eq_of_le hj with hl | he
          · exact hl
          · exact absurd (he ▸ hful) Hsp.out.2.1
        have hf2 : ∀ k, k < j + 1 → lev xs k xs.length = (k : Int) + 1 := fun k hk => by
          by_cases e : k = j
          · rw [e]; exact hful
          · exact Hf.out k (by omega)
        have Hall := Lib.hid hall; clear hall
        have Hful := Lib.hid hful; clear hful
        have Hf2 := Lib.hid hf2; clear hf2
        go_wp2_with fail
        go_round
        case rel => exact ⟨j + 1, by omega, valI (by omega), Hf2.out⟩
        case measure => simp [intOf]; omega

set_option maxHeartbeats 800000 in
theorem spec_HoleOf (ao : Option Addr) (n cap : Nat) (xs : List Int) (w : World) (h : IntsAt w ao n cap xs) :
    Calls Try.prog 32 #[.slice ao n cap] w fun e w' => e = .returned (.tuple #[.int .i64 (mHoleOf xs).1, .int .i64 (mHoleOf xs).2.1, .bool (mHoleOf xs).2.2]) ∧ Below w.heap.size w w' := by
  cases hg : goodB xs
  · have hm := mHole_no hg
    have Hg := Lib.hid hg; clear hg
    have Hm := Lib.hid hm; clear hm
    go_enter Try.func32, Try.ntmps32
    go_wp2_with fail
    with_reducible refine (piGood_no _ _ _ _ _ h Hg.out).mono ?_
    rintro e w' ⟨rfl, rfl⟩
    go_wp2_with fail
    go_ret3
    rw [Hm.out]
    exact ⟨rfl, Below.refl _ _⟩
  · have hm := mHole_yes hg
    have hG := good_iff.1 hg
    have hcon := leHole_any ao n cap xs w h hG
    generalize holeN xs = a at *
    generalize holeP xs = b at *
    have Hg := Lib.hid hg; clear hg
    have Hm := Lib.hid hm; clear hm
    have HG := Lib.hid hG; clear hG
    have Hcon := Lib.hid hcon; clear hcon
    go_enter Try.func32, Try.ntmps32
    go_wp2_with fail
    with_reducible refine (piGood_yes _ _ _ _ _ h HG.out).mono ?_
    rintro e w' ⟨rfl, rfl⟩
    go_wp2_with fail
    with_reducible refine (Hcon.out).mono ?_
    rintro e w' ⟨rfl, rfl⟩
    go_wp2_with fail
    go_ret3
    rw [Hm.out]
    exact ⟨rfl, Below.refl _ _⟩

set_option maxHeartbeats 1600000 in
theorem spec_SpillOf (ao : Option Addr) (n cap : Nat) (xs : List Int) (w : World) (h : IntsAt w ao n cap xs) :
    Calls Try.prog 34 #[.slice ao n cap] w fun e w' => e = .returned (.tuple #[.int .i64 (mSpillOf xs).1, .int .i64 (mSpillOf xs).2.1, .bool (mSpillOf xs).2.2]) ∧ Below w.heap.size w w' := by
  cases hg : goodB xs
  · have hm := mSpill_no1 hg
    have Hg := Lib.hid hg; clear hg
    have Hm := Lib.hid hm; clear hm
    go_enter Try.func34, Try.ntmps34
    go_wp2_with fail
    with_reducible refine (piGood_no _ _ _ _ _ h Hg.out).mono ?_
    rintro e w' ⟨rfl, rfl⟩
    go_wp2_with fail
    go_ret3
    rw [Hm.out]
    exact ⟨rfl, Below.refl _ _⟩
  · have hG := good_iff.1 hg
    have hl := h.length
    have hlen := hG.len
    by_cases hne : xs = []
    · have hm := mSpill_no2 hne
      have hn0 : n = 0 := by rw [← hl, hne]; rfl
      subst hn0
      have Hg := Lib.hid hg; clear hg
      have Hm := Lib.hid hm; clear hm
      have HG := Lib.hid hG; clear hG
      have Hne := Lib.hid hne; clear hne
      have Hl := Lib.hid hl; clear hl
      go_enter Try.func34, Try.ntmps34
      go_wp2_with fail
      with_reducible refine (piGood_yes _ _ _ _ _ h HG.out).mono ?_
      rintro e w' ⟨rfl, rfl⟩
      go_wp2_with fail
      go_ret3
      rw [Hm.out]
      exact ⟨rfl, Below.refl _ _⟩
    · have hm := mSpill_yes hg hne
      have hn0 : 0 < n := by rw [← hl]; exact List.length_pos_iff.2 hne
      have hcon := leLevels_any ao n cap xs w h hG
      obtain ⟨k, hpk, hkl, hpe, hkn, hs28, hck, hmin⟩ := place_spill hG hne
      have hN : spillN xs = (lvsL xs).length - 1 := rfl
      have htop := (lvsL_top hG hne).1
      rw [hpe] at hm
      have hle := lvsL_le hG
      generalize spillN xs = s at *
      generalize lvsL xs = ls at *
      have hn1 : ¬ n = 0 := by omega
      have Hg := Lib.hid hg; clear hg
      have Hm := Lib.hid hm; clear hm
      have HG := Lib.hid hG; clear hG
      have Hcon := Lib.hid hcon; clear hcon
      have Hne := Lib.hid hne; clear hne
      have Hck := Lib.hid hck; clear hck
      have Hmin := Lib.hid hmin; clear hmin
      clear hpk hpe
      go_enter Try.func34, Try.ntmps34
      go_wp2_with fail
      with_reducible refine (piGood_yes _ _ _ _ _ h HG.out).mono ?_
      rintro e w' ⟨rfl, rfl⟩
      go_wp2_with fail
      with_reducible refine (Hcon.out).mono ?_
      rintro e w1 ⟨a1, m1, c1, rfl, ho1, hb⟩
      have hm1 : ls.length = m1 := ho1.length
      have hms : m1 = s + 1 := by omega
      subst hms
      have h1 := h.keep hb
      clear h ho1
      have Hm1 := Lib.hid hm1; clear hm1
      have HN := Lib.hid hN; clear hN
      go_wp2_with fail
      go_loop [6] (fun p => ∃ j : Nat, j ≤ k ∧ p = .int .i64 j) (fun p => k - (intOf p).toNat)
      case atStart => exact ⟨0, Nat.zero_le _, rfl⟩
      case round =>
        obtain ⟨j, hj, rfl⟩ := hrel
        by_cases hlt : j < k
        · have hcall := leCardNo ao n cap xs s j w1 h1 HG.out (by omega) (by omega) (Hmin.out j hlt)
          have Hcall := Lib.hid hcall; clear hcall
          go_wp2_with fail
          with_reducible refine (Hcall.out).mono ?_
          rintro e w' ⟨rfl, rfl⟩
          go_wp2_with fail
          go_round
          case rel => exact ⟨j + 1, by omega, valI (by omega)⟩
          case measure => simp [intOf]; omega
        · have hjk : j = k := by omega
          subst hjk
          have hcall := leCardYes ao n cap xs s j w1 h1 HG.out (by omega) (by omega) Hck.out
          have Hcall := Lib.hid hcall; clear hcall
          go_wp2_with fail
          with_reducible refine (Hcall.out).mono ?_
          rintro e w' ⟨rfl, rfl⟩
          go_wp2_with fail
          go_ret3
          rw [Hm.out]
          exact ⟨rfl, hb⟩
end Go.Proofs.Ytmfdimdcoeapoaa
