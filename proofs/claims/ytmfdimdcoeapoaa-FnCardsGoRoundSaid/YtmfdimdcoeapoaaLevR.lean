/- Chapter 3: places of cards: CardBehind, HoleOf, SpillOf by the program. No condition. -/
import Derived.Test.YtmfdimdcoeapoaaGw
namespace Go.Proofs.Ytmfdimdcoeapoaa
open Go.RowKit Go.Maps
set_option linter.unusedVariables false
set_option linter.unusedSimpArgs false
set_option maxRecDepth 20000

theorem placesQuiet (l : Nat) (w : World) (h : l ≤ 1000000) :
    Calls Try.prog 57 #[.int .i64 l] w fun e w' => e = .returned (.int .i64 ((l : Int) + 1)) ∧ ∃ q, w' = w.drewN q :=
  (placesOn_any l w h).mono fun e w' ⟨h1, h2⟩ => ⟨h1, 0, h2.symm⟩
set_option maxHeartbeats 800000 in
theorem hasCard_any (ao : Option Addr) (n cap : Nat) (xs : List Int) (pile place : Int) (w : World) (h : IntsAt w ao n cap xs) (hg : Good xs) :
    Calls Try.prog 78 #[.slice ao n cap, .int .i64 pile, .int .i64 place] w fun e w' => e = .returned (.bool (cardB xs pile place)) ∧ w = w' := by
  have hl := h.length
  have hlen := hg.len
  have hn28 : n ≤ 28 := by omega
  by_cases hp : 0 ≤ pile ∧ pile ≤ (n : Int) - 1
  · obtain ⟨k, rfl⟩ := Int.eq_ofNat_of_zero_le hp.1
    have hlt : k < n := by omega
    obtain ⟨b, o, rfl, hb, hc⟩ := h.cell k hlt
    have hck := hc k hlt
    clear hc
    generalize hx : xs.getD k 0 = x at hck
    have Hx := Lib.hid hx; clear hx
    have hx := good_at hg (k := k) (by omega)
    rw [Hx.out] at hx
    have hcb : cardB xs k place = decide (0 ≤ place ∧ place ≤ x - 1) := by
      unfold cardB
      rw [show ((k : Int)).toNat = k by omega, Hx.out]
      congr 1
      exact propext ⟨fun hh => by omega, fun hh => by omega⟩
    by_cases hc : 0 ≤ place ∧ place ≤ x - 1
    · rw [decide_eq_true hc] at hcb
      rw [hcb]
      have Hp := Lib.hid hp; clear hp
      have Hg := Lib.hid hg; clear hg
      have Hcb := Lib.hid hcb; clear hcb
      have Hc := Lib.hid hc; clear hc
      go_enter Try.func78, Try.ntmps78
      go_wp2_with fail
      with_reducible refine (inRange_yes _ _ _ Hp.out).mono ?_
      rintro e w' ⟨rfl, rfl⟩
      go_wp2_with fail
      with_reducible refine (inRange_yes _ _ _ Hc.out).mono ?_
      rintro e w' ⟨rfl, rfl⟩
      go_wp2_with fail
      go_ret
      exact ⟨rfl, rfl⟩
    · rw [decide_eq_false hc] at hcb
      rw [hcb]
      have Hp := Lib.hid hp; clear hp
      have Hg := Lib.hid hg; clear hg
      have Hcb := Lib.hid hcb; clear hcb
      have Hc := Lib.hid hc; clear hc
      go_enter Try.func78, Try.ntmps78
      go_wp2_with fail
      with_reducible refine (inRange_yes _ _ _ Hp.out).mono ?_
      rintro e w' ⟨rfl, rfl⟩
      go_wp2_with fail
      with_reducible refine (inRange_no _ _ _ Hc.out).mono ?_
      rintro e w' ⟨rfl, rfl⟩
      go_wp2_with fail
      go_ret
      exact ⟨rfl, rfl⟩
  · have hcb : cardB xs pile place = false := by
      unfold cardB
      exact decide_eq_false (fun hh => hp ⟨hh.1.1, by omega⟩)
    rw [hcb]
    have Hp := Lib.hid hp; clear hp
    have Hg := Lib.hid hg; clear hg
    have Hcb := Lib.hid hcb; clear hcb
    go_enter Try.func78, Try.ntmps78
    go_wp2_with fail
    with_reducible refine (inRange_no _ _ _ Hp.out).mono ?_
    rintro e w' ⟨rfl, rfl⟩
    go_wp2_with fail
    go_ret
    exact ⟨rfl, rfl⟩

theorem cardB_cel {xs : List Int} (hg : Good xs) {l k : Nat} (h : k ≤ l) : cardB xs k ((l : Int) - k) = celB xs l k := by
  unfold cardB celB
  congr 1
  rw [show ((k : Int)).toNat = k by omega]
  have := getD_nonneg hg.1 k
  exact propext ⟨fun hh => by omega, fun hh => ⟨⟨by omega, by have := this.2.1 (by omega); omega⟩, by omega, by omega⟩⟩

set_option maxHeartbeats 1600000 in
theorem firstPlace_any (ao : Option Addr) (n cap : Nat) (xs : List Int) (l : Nat) (c : Bool) (w : World) (h : IntsAt w ao n cap xs) (hg : Good xs) (hl : l ≤ 1000) :
    Calls Try.prog 70 #[.slice ao n cap, .int .i64 l, .bool c] w fun e w' => e = .returned (.tuple #[.int .i64 ((placeL xs l c).getD 0 : Nat), .bool (placeL xs l c).isSome]) ∧ Below w.heap.size w w' := by
  have hpl := fun w => placesOn_any l w (by omega)
  have Hpl := Lib.hid hpl; clear hpl
  have Hg := Lib.hid hg; clear hg
  go_enter Try.func70, Try.ntmps70
  go_wp2_with fail
  with_reducible refine (Hpl.out _).mono ?_
  rintro e w' ⟨rfl, rfl⟩
  go_wp2_with fail
  go_loopw [11] (fun i wr => ∃ j : Nat, j ≤ l + 1 ∧ i = .int .i64 j ∧ (∀ q, q < j → celB xs l q = !c) ∧ Below w.heap.size w wr) (fun i _ => l + 1 - (intOf i).toNat)
  case atStart => exact ⟨0, Nat.zero_le _, rfl, fun q hq => by omega, Below.refl _ _⟩
  case round =>
    obtain ⟨j, hj, rfl, hno, hb⟩ := hrel
    by_cases hlt : j < l + 1
    · have hcd := hasCard_any ao n cap xs j ((l : Int) - j) wr (h.keep hb) Hg.out
      rw [cardB_cel Hg.out (by omega)] at hcd
      by_cases heq : celB xs l j = c
      · have hp := place_some (by omega) heq hno
        rw [heq] at hcd
        have Hcd := Lib.hid hcd; clear hcd
        have Hno := Lib.hid hno; clear hno
        have Heq := Lib.hid heq; clear heq
        have Hp := Lib.hid hp; clear hp
        go_wp2_with fail
        with_reducible refine (Hcd.out).mono ?_
        rintro e w' ⟨rfl, rfl⟩
        have hcc : (c == c) = true := by cases c <;> rfl
        go_wp2_with fail
        go_ret2
        rw [Hp.out]
        exact ⟨rfl, hb⟩
      · have hne : celB xs l j = !c := by cases hcc : celB xs l j <;> cases c <;> simp_all
        rw [hne] at hcd
        have hno2 : ∀ q, q < j + 1 → celB xs l q = !c := fun q hq => by
          by_cases e : q = j
          · rw [e]; exact hne
          · exact hno q (by omega)
        have Hcd := Lib.hid hcd; clear hcd
        have Hno := Lib.hid hno; clear hno
        have Heq := Lib.hid heq; clear heq
        have Hno2 := Lib.hid hno2; clear hno2
        have Hne := Lib.hid hne; clear hne
        cases c
        all_goals
          go_wp2_with fail
          with_reducible refine (Hcd.out).mono ?_
          rintro e w' ⟨rfl, rfl⟩
          go_wp2_with fail
          go_roundw
          case rel => exact ⟨j + 1, by omega, valI (by omega), Hno2.out, hb⟩
          case measure => simp [intOf]; omega
    · have hp := place_none (fun q hq => hno q (by omega))
      have Hno := Lib.hid hno; clear hno
      have Hp := Lib.hid hp; clear hp
      go_wp2_with fail
      go_ret2
      rw [Hp.out]
      exact ⟨rfl, hb⟩

set_option maxHeartbeats 1600000 in
theorem impl_CardBehind (ao : Option Addr) (n cap : Nat) (xs : List Int) (pile place : Int) (w : World) (h : IntsAt w ao n cap xs) :
    Calls Try.prog 40 #[.slice ao n cap, .int .i64 pile, .int .i64 place] w fun e w' => e = .returned (.tuple #[.int .i64 (mCardBehind xs pile place).1, .int .i64 (mCardBehind xs pile place).2.1, .bool (mCardBehind xs pile place).2.2]) ∧ Below w.heap.size w w' := by
  cases hg : goodB xs
  · have hm := mCard_no (xs := xs) (pile := pile) (place := place) (by rw [hg]; simp)
    have Hg := Lib.hid hg; clear hg
    have Hm := Lib.hid hm; clear hm
    go_enter Try.func40, Try.ntmps40
    go_wp2_with fail
    with_reducible refine (isPiles_no _ _ _ _ _ h Hg.out).mono ?_
    rintro e w' ⟨rfl, rfl⟩
    go_wp2
    go_ret3
    rw [Hm.out]
    exact ⟨rfl, Below.refl _ _⟩
  · have hG := good_iff.1 hg
    have hcd := hasCard_any ao n cap xs pile place w h hG
    have hl := h.length
    have hlen := hG.len
    cases hc : cardB xs pile place
    · have hm := mCard_no (xs := xs) (pile := pile) (place := place) (by rw [hc]; simp)
      rw [hc] at hcd
      have Hg := Lib.hid hg; clear hg
      have Hm := Lib.hid hm; clear hm
      have HG := Lib.hid hG; clear hG
      have Hcd := Lib.hid hcd; clear hcd
      have Hc := Lib.hid hc; clear hc
      go_enter Try.func40, Try.ntmps40
      go_wp2_with fail
      with_reducible refine (isPiles_yes _ _ _ _ _ h HG.out).mono ?_
      rintro e w' ⟨rfl, rfl⟩
      go_wp2_with fail
      with_reducible refine (Hcd.out).mono ?_
      rintro e w' ⟨rfl, rfl⟩
      go_wp2_with fail
      go_ret3
      rw [Hm.out]
      exact ⟨rfl, Below.refl _ _⟩
    · have hbd := hc
      unfold cardB at hbd
      rw [decide_eq_true_iff] at hbd
      have hx28 : xs.getD pile.toNat 0 ≤ 28 := (good_at hG (k := pile.toNat) (by omega)).2
      have hb1 : 0 ≤ pile ∧ pile ≤ 28 := by omega
      have hb2 : 0 ≤ place ∧ place ≤ 28 := by omega
      clear hbd hx28
      by_cases h0 : place = 0
      · subst h0
        have hm := mCard_yes0 hg hc
        rw [hc] at hcd
        have Hg := Lib.hid hg; clear hg
        have Hm := Lib.hid hm; clear hm
        have HG := Lib.hid hG; clear hG
        have Hcd := Lib.hid hcd; clear hcd
        have Hc := Lib.hid hc; clear hc
        go_enter Try.func40, Try.ntmps40
        go_wp2_with fail
        with_reducible refine (isPiles_yes _ _ _ _ _ h HG.out).mono ?_
        rintro e w' ⟨rfl, rfl⟩
        go_wp2_with fail
        with_reducible refine (Hcd.out).mono ?_
        rintro e w' ⟨rfl, rfl⟩
        go_wp2_with fail
        go_ret3
        rw [Hm.out]
        exact ⟨rfl, Below.refl _ _⟩
      · have hm := mCard_yes1 hg hc h0
        have h01 : (place == 0) = false := by simpa using h0
        have h02 : decide (place = 0) = false := decide_eq_false h0
        rw [hc] at hcd
        have Hg := Lib.hid hg; clear hg
        have Hm := Lib.hid hm; clear hm
        have HG := Lib.hid hG; clear hG
        have Hcd := Lib.hid hcd; clear hcd
        have Hc := Lib.hid hc; clear hc
        have H0 := Lib.hid h0; clear h0
        go_enter Try.func40, Try.ntmps40
        go_wp2_with fail
        with_reducible refine (isPiles_yes _ _ _ _ _ h HG.out).mono ?_
        rintro e w' ⟨rfl, rfl⟩
        go_wp2_with fail
        with_reducible refine (Hcd.out).mono ?_
        rintro e w' ⟨rfl, rfl⟩
        go_wp2_with fail
        go_ret3
        rw [Hm.out]
        exact ⟨rfl, Below.refl _ _⟩

set_option maxHeartbeats 1600000 in
theorem impl_HoleOf (ao : Option Addr) (n cap : Nat) (xs : List Int) (w : World) (h : IntsAt w ao n cap xs) :
    Calls Try.prog 31 #[.slice ao n cap] w fun e w' => e = .returned (.tuple #[.int .i64 (mHoleOf xs).1, .int .i64 (mHoleOf xs).2.1, .bool (mHoleOf xs).2.2]) ∧ Below w.heap.size w w' := by
  cases hg : goodB xs
  · have hm := mHole_no hg
    have Hg := Lib.hid hg; clear hg
    have Hm := Lib.hid hm; clear hm
    go_enter Try.func31, Try.ntmps31
    go_wp2_with fail
    with_reducible refine (isPiles_no _ _ _ _ _ h Hg.out).mono ?_
    rintro e w' ⟨rfl, rfl⟩
    go_wp2
    go_ret3
    rw [Hm.out]
    exact ⟨rfl, Below.refl _ _⟩
  · have hm := mHole_yes hg
    have hG := good_iff.1 hg
    have hcon := cardsByLevel_any ao n cap xs w h hG
    have hsp := hole_spec hG
    obtain ⟨k, hpk, hkl, hpe⟩ := place_hole hG
    have hfp := fun (w : World) (h : IntsAt w ao n cap xs) => firstPlace_any ao n cap xs (holeN xs) false w h hG (by have := hsp.1; omega)
    rw [hpk] at hfp
    rw [hpe] at hm
    have hsp2 := hsp.1
    have hlv : ∀ j, (lvsL xs).getD j 0 = lev xs j xs.length := fun j => lvsL_getD hG j
    have hlb : ∀ j, 0 ≤ (lvsL xs).getD j 0 ∧ (lvsL xs).getD j 0 ≤ 28 := fun j => ⟨(lvsL_at hG j).1, (lvsL_at hG j).2.1⟩
    have Hg := Lib.hid hg; clear hg
    have Hm := Lib.hid hm; clear hm
    have HG := Lib.hid hG; clear hG
    have Hcon := Lib.hid hcon; clear hcon
    have Hsp := Lib.hid hsp; clear hsp
    have Hfp := Lib.hid hfp; clear hfp
    have Hlv := Lib.hid hlv; clear hlv
    have Hlb := Lib.hid hlb; clear hlb
    clear hpk
    go_enter Try.func31, Try.ntmps31
    go_wp2_with fail
    with_reducible refine (isPiles_yes _ _ _ _ _ h HG.out).mono ?_
    rintro e w' ⟨rfl, rfl⟩
    go_wp2_with fail
    with_reducible refine (Hcon.out).mono ?_
    rintro e w1 ⟨rfl, hmap, hb⟩
    obtain ⟨D, hown, hr⟩ := hmap
    have h1 := h.keep hb
    clear h
    go_wp2_with fail
    go_loopw [6] (fun i wr => ∃ j : Nat, j ≤ holeN xs ∧ i = .int .i64 j ∧ wr.ownsMap Try.prog 3 (plainElem (H := Unit) Try.prog 3) w.heap.size (lvsL xs).length D ∧ Below w1.heap.size w1 wr) (fun i _ => holeN xs - (intOf i).toNat)
    case atStart => exact ⟨0, Nat.zero_le _, rfl, hown, Below.refl _ _⟩
    case round =>
      obtain ⟨j, hj, rfl, hownr, hbr⟩ := hrel
      have hkey := mapKey (l := j) (by omega)
      have hat0 := hr.at_ j
      have hpl := fun nq => placesQuiet j (wr.drewN nq) (by omega)
      have hb1 := Hlb.out j
      have hlj := Hlv.out j
      generalize hc : (lvsL xs).getD j 0 = c at hb1 hlj hat0
      have hrun : ∀ nq, (Instr.lookup 68 (.map (some w.heap.size)) (.int .i64 (j : Int)) false).run Try.prog (wr.drewN nq) = .ok (.int .i64 c) (wr.drewN nq) := fun nq => by
        have hown2 : (wr.drewN nq).ownsMap Try.prog 3 (plainElem (H := Unit) Try.prog 3) w.heap.size (lvsL xs).length D := hownr
        obtain ⟨c2, hrun, hat, _⟩ := hown2.lookup_int mapK Try.underlying68 Try.underlying3 (mapZ _) hkey
        rw [litI (hat0.symm.trans hat)]
        exact hrun
      clear hown
      have Hkey := Lib.hid hkey; clear hkey
      have Hat0 := Lib.hid hat0; clear hat0
      have Hpl := Lib.hid hpl; clear hpl
      have Hlj := Lib.hid hlj; clear hlj
      have Hc := Lib.hid hc; clear hc
      by_cases hlt : j < holeN xs
      · have hful : c = (j : Int) + 1 := by rw [Hlj.out]; exact Hsp.out.2.2 j hlt
        subst hful
        go_wp2_with fail
        go_quiet ((go_at_call 57; exact Calls.quiet_of (Hpl.out _)))
        go_wp2_with fail
        go_roundw
        case rel => exact ⟨j + 1, by omega, valI (by omega), hownr, belowDrewN hbr _⟩
        case measure => simp [intOf]; omega
      · have hjn : j = holeN xs := by omega
        have hne : ¬ c = (j : Int) + 1 := by rw [Hlj.out, hjn]; exact Hsp.out.2.1
        have hne1 : (c == (j : Int) + 1) = false := by simpa using hne
        have hne2 : decide (c = (j : Int) + 1) = false := decide_eq_false hne
        rw [← hjn] at Hfp Hm
        have Hjn := Lib.hid hjn; clear hjn
        have Hne := Lib.hid hne; clear hne
        go_wp2_with fail
        go_quiet ((go_at_call 57; exact Calls.quiet_of (Hpl.out _)))
        go_wp2_with fail
        with_reducible refine (Hfp.out _ (h1.keep (belowDrewN hbr _))).mono ?_
        rintro e w3 ⟨rfl, hb3⟩
        go_wp2_with fail
        go_ret3
        rw [Hm.out]
        exact ⟨rfl, belowTrans (belowTrans hb (belowDrewN hbr _) (Nat.le_refl _)) hb3 (Nat.le_refl _)⟩

set_option maxHeartbeats 1600000 in
theorem impl_SpillOf (ao : Option Addr) (n cap : Nat) (xs : List Int) (w : World) (h : IntsAt w ao n cap xs) :
    Calls Try.prog 33 #[.slice ao n cap] w fun e w' => e = .returned (.tuple #[.int .i64 (mSpillOf xs).1, .int .i64 (mSpillOf xs).2.1, .bool (mSpillOf xs).2.2]) ∧ Below w.heap.size w w' := by
  cases hg : goodB xs
  · have hm := mSpill_no1 hg
    have Hg := Lib.hid hg; clear hg
    have Hm := Lib.hid hm; clear hm
    go_enter Try.func33, Try.ntmps33
    go_wp2_with fail
    with_reducible refine (isPiles_no _ _ _ _ _ h Hg.out).mono ?_
    rintro e w' ⟨rfl, rfl⟩
    go_wp2
    go_ret3
    rw [Hm.out]
    exact ⟨rfl, Below.refl _ _⟩
  · have hG := good_iff.1 hg
    have hl := h.length
    have hlen := hG.len
    by_cases hne : xs = []
    · have hm := mSpill_no2 hne
      have hn0 : n = 0 := by rw [← hl, hne]; rfl
      subst hn0
      have Hg := Lib.hid hg; clear hg
      have Hm := Lib.hid hm; clear hm
      have HG := Lib.hid hG; clear hG
      have Hne := Lib.hid hne; clear hne
      have Hl := Lib.hid hl; clear hl
      go_enter Try.func33, Try.ntmps33
      go_wp2_with fail
      with_reducible refine (isPiles_yes _ _ _ _ _ h HG.out).mono ?_
      rintro e w' ⟨rfl, rfl⟩
      go_wp2_with fail
      go_ret3
      rw [Hm.out]
      exact ⟨rfl, Below.refl _ _⟩
    · have hm := mSpill_yes hg hne
      have hn0 : 0 < n := by rw [← hl]; exact List.length_pos_iff.2 hne
      have hcon := cardsByLevel_any ao n cap xs w h hG
      obtain ⟨k, hpk, hkl, hpe, _, hs28, _⟩ := place_spill hG hne
      have hfp := fun (w : World) (h : IntsAt w ao n cap xs) => firstPlace_any ao n cap xs (spillN xs) true w h hG (by omega)
      rw [hpk] at hfp
      rw [hpe] at hm
      have htop := (lvsL_top hG hne).1
      have hle := lvsL_le hG
      have hN : spillN xs = (lvsL xs).length - 1 := rfl
      have hN2 : (((lvsL xs).length : Nat) : Int) - 1 = ((spillN xs : Nat) : Int) := by omega
      generalize spillN xs = s at *
      generalize lvsL xs = ls at *
      have hn1 : ¬ n = 0 := by omega
      simp only [← hN2] at hfp
      have hls1 : 0 < ls.length := htop
      have Hg := Lib.hid hg; clear hg
      have Hm := Lib.hid hm; clear hm
      have HG := Lib.hid hG; clear hG
      have Hcon := Lib.hid hcon; clear hcon
      have Hfp := Lib.hid hfp; clear hfp
      have HN2 := Lib.hid hN2; clear hN2
      have Hne := Lib.hid hne; clear hne
      have Hl := Lib.hid hl; clear hl
      clear hpk hN
      go_enter Try.func33, Try.ntmps33
      go_wp2_with fail
      with_reducible refine (isPiles_yes _ _ _ _ _ h HG.out).mono ?_
      rintro e w' ⟨rfl, rfl⟩
      go_wp2_with fail
      with_reducible refine (Hcon.out).mono ?_
      rintro e w1 ⟨rfl, hmap, hb⟩
      obtain ⟨D, hown, hr⟩ := hmap
      have h1 := h.keep hb
      clear h
      have hsz := hr.size
      go_wp2_with (at_len; refine wpList_len_own w1 rfl _ 68 rfl 3 3 Try.underlying68 _ w.heap.size _ D rfl hown ?_; rw [hsz])
      clear hown hr
      with_reducible refine (Hfp.out _ h1).mono ?_
      rintro e w3 ⟨rfl, hb3⟩
      go_wp2_with fail
      go_ret3
      rw [Hm.out]
      exact ⟨by first | rfl | (rw [← HN2.out]; rfl), belowTrans hb hb3 (Nat.le_refl _)⟩
end Go.Proofs.Ytmfdimdcoeapoaa
