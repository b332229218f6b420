/- Chapter 1: ranks of piles. No condition. -/
import Derived.Test.YtkhphdohdnfplaaPileF
import Derived.Test.YtkhphdohdnfplaaGa
namespace Go.Proofs.Ytkhphdohdnfplaa
open Go.RowKit
set_option linter.unusedVariables false
set_option linter.unusedSimpArgs false

theorem highestNext_any (left : Int) (ao : Option Addr) (n cap : Nat) (xs : List Int) (w : World) (h : IntsAt w ao n cap xs) :
    Calls Try.prog 100 #[.int .i64 left, .slice ao n cap] w fun e w' => e = .returned (.int .i64 (if n = 0 then left else min left (xs.getD (n - 1) 0))) ∧ w = w' := by
  have hn := h.lenInt
  by_cases hz : n = 0
  · subst hz
    go_enter Try.func100, Try.ntmps100
    go_wp2
    go_ret
    exact ⟨rfl, rfl⟩
  · have hne : ((n : Int) == 0) = false := by simp; omega
    obtain ⟨b, o, rfl, hb, hc⟩ := h.cell 0 (by omega)
    have hck := hc (n - 1) (by omega)
    clear hc
    generalize hx : xs.getD (n - 1) 0 = y at hck ⊢
    have Hx := Lib.hid hx; clear hx
    go_enter Try.func100, Try.ntmps100
    go_wp2
    all_goals (go_ret; exact ⟨retI (by omega), rfl⟩)

def mRankPiles (xs : List Int) : Int × Bool := (if goodB xs then rankL xs else 0, goodB xs)
theorem mRank_yes {xs : List Int} (h : goodB xs = true) : mRankPiles xs = (rankL xs, true) := by unfold mRankPiles; rw [h]; rfl
theorem mRank_no {xs : List Int} (h : goodB xs = false) : mRankPiles xs = (0, false) := by unfold mRankPiles; rw [h]; rfl
set_option maxHeartbeats 1600000 in
set_option maxRecDepth 100000 in
theorem impl_RankPiles (ao : Option Addr) (n cap : Nat) (xs : List Int) (w : World) (h : IntsAt w ao n cap xs) :
    Calls Try.prog 59 #[.slice ao n cap] w fun e w' => e = .returned (.tuple #[.int .i64 (mRankPiles xs).1, .bool (mRankPiles xs).2]) ∧ Below w.heap.size w w' := by
  cases hg : goodB xs
  · have hgg := Lib.hid hg
    go_enter Try.func59, Try.ntmps59
    go_wp2_with (go_at_call 60; refine (isPiles_no _ _ _ _ _ h hgg.out).mono ?_; rintro e w' ⟨rfl, rfl⟩)
    go_ret2
    rw [mRank_no hgg.out]
    exact ⟨rfl, Below.refl _ _⟩
  · have hG := good_iff.1 hg
    have hlen := hG.len
    have hl := h.length
    have hn : (n : Int) ≤ 28 := by omega
    have Hg := Lib.hid hg; clear hg
    have HG := Lib.hid hG; clear hG
    have Hl := Lib.hid hl; clear hl
    go_enter Try.func59, Try.ntmps59
    go_wp2_with (first | (go_at_call 60; refine (isPiles_yes _ _ _ _ _ h HG.out).mono ?_; rintro e w' ⟨rfl, rfl⟩) | (go_at_call 92; refine (sumOf_any _ _ _ _ _ h HG.out).mono ?_; rintro e w' ⟨rfl, rfl⟩))
    go_loopw [4, 5, 15] (fun r l i wr => ∃ k : Nat, k ≤ n ∧ i = .int .i64 k ∧ r = .int .i64 (rankTo xs k) ∧ l = .int .i64 (leftAt xs k) ∧ Below w.heap.size w wr) (fun _ _ i _ => n - (intOf i).toNat)
    case atStart => exact ⟨0, Nat.zero_le _, rfl, rfl, by unfold leftAt; simp, Below.refl _ _⟩
    case round =>
      obtain ⟨k, hk, rfl, rfl, rfl, hb⟩ := hrel
      by_cases hlt : k < n
      · have h1 := h.keep hb
        obtain ⟨b, o, rfl, hbl, hc⟩ := h1.cell k hlt
        have hck := hc k hlt
        clear hc
        generalize hx : xs.getD k 0 = x at hck
        obtain ⟨g1, g2, g3, g4, g5, g6⟩ := left_bounds HG.out hlt Hl.out hx
        have hr := rankTo_bounds HG.out hk Hl.out
        have hr2 := rankTo_bounds HG.out (show k + 1 ≤ n by omega) Hl.out
        have ht := rankT_bounds HG.out hlt Hl.out
        have hmo : (if k = 0 then leftAt xs k else min (leftAt xs k) (xs.getD (k - 1) 0)) = min (leftAt xs k) (mostAt xs k) := by
          unfold mostAt leftAt
          split
          · next e => subst e; simp
          · rfl
        have hrec : rankTo xs (k + 1) = rankTo xs k + rankT xs k := rfl
        have hdef : rankT xs k = (cnt (min (leftAt xs k) (mostAt xs k)).toNat (leftAt xs k).toNat : Int) - (cnt (xs.getD k 0).toNat (leftAt xs k).toNat : Int) := rfl
        rw [hx] at hdef
        obtain ⟨a2, hsl, hi2⟩ := slUpto wr xs h1 k (by omega) .i64
        have hhn := fun W (hb' : Below wr.heap.size wr W) => highestNext_any (leftAt xs k) a2 k _ _ W (hi2.keep hb')
        have hgt : (xs.take k).getD (k - 1) 0 = xs.getD (k - 1) 0 ∨ k = 0 := by
          by_cases h0 : k = 0
          · exact .inr h0
          · refine .inl ?_
            rw [List.getD_eq_getElem?_getD, List.getD_eq_getElem?_getD, List.getElem?_take, if_pos (by omega)]
        have hv : (if k = 0 then leftAt xs k else min (leftAt xs k) ((xs.take k).getD (k - 1) 0)) = min (leftAt xs k) (mostAt xs k) := by
          rw [← hmo]
          rcases hgt with h | h
          · rw [h]
          · rw [if_pos h, if_pos h]
        simp only [hv] at hhn
        clear hgt hv hmo
        generalize hL : leftAt xs k = L at *
        generalize hM : mostAt xs k = M at *
        obtain ⟨L', rfl⟩ := Int.eq_ofNat_of_zero_le (show 0 ≤ L by omega)
        obtain ⟨Q, hQ⟩ := Int.eq_ofNat_of_zero_le (show 0 ≤ min (L' : Int) M by omega)
        obtain ⟨X, rfl⟩ := Int.eq_ofNat_of_zero_le (show 0 ≤ x by omega)
        rw [hQ] at hdef
        simp only [hQ, Int.toNat_natCast] at hdef hhn
        have hc1 := fun W => countUpTo_any L' Q W (by omega) (by omega)
        have hc2 := fun W => countUpTo_any L' X W (by omega) (by omega)
        have l1 := cnt_le Q (by omega) L' (by omega)
        have l2 := cnt_le X (by omega) L' (by omega)
        generalize cnt Q L' = c1 at *
        generalize cnt X L' = c2 at *
        generalize rankTo xs k = R at *
        generalize hR1 : rankTo xs (k + 1) = R1 at *
        have Hhn := Lib.hid (hhn wr (Below.refl _ _))
        clear hhn
        have Hx := Lib.hid hx; clear hx
        have Hrec := Lib.hid hrec; clear hrec
        have Hdef := Lib.hid hdef; clear hdef
        have Hc1 := Lib.hid hc1; clear hc1
        have Hc2 := Lib.hid hc2; clear hc2
        have HR1 := Lib.hid hR1; clear hR1
        have HL := Lib.hid hL; clear hL
        have HM := Lib.hid hM; clear hM
        have HQ := Lib.hid hQ; clear hQ
        have G6 := Lib.hid g6; clear g6
        go_wp2_with fail
        refine (Hhn.out).mono ?_
        rintro e w' ⟨rfl, rfl⟩
        go_wp2_with fail
        refine (Hc1.out _).mono ?_
        rintro e w1 ⟨rfl, hb1⟩
        go_wp2_with fail
        refine (Hc2.out _).mono ?_
        rintro e w2 ⟨rfl, hb2⟩
        go_wp2
        have e1 := Hrec.out
        have e2 := Hdef.out
        have e3 := G6.out
        go_roundw
        case rel => exact ⟨k + 1, by omega, by go_num, by rw [HR1.out]; exact valI (by omega), valI (by omega), (hb.trans (hb1.mono hb.size)).trans (hb2.mono (Nat.le_trans hb.size hb1.size))⟩
        case measure => simp [intOf]; omega
      · go_wp2
        go_ret2
        obtain rfl : n = k := by omega
        refine ⟨?_, hb⟩
        rw [mRank_yes Hg.out]
        unfold rankL
        rw [Hl.out] <;> rfl

set_option maxHeartbeats 1600000 in
set_option maxRecDepth 100000 in
theorem piRank_any (ao : Option Addr) (n cap : Nat) (xs : List Int) (w : World) (h : IntsAt w ao n cap xs) (hG : Good xs) :
    Calls Try.prog 113 #[.slice ao n cap] w fun e w' => e = .returned (.int .i64 (rankL xs)) ∧ Below w.heap.size w w' := by
  have hlen := hG.len
  have hl := h.length
  have hn : (n : Int) ≤ 28 := by omega
  have hs28 := hG.2.2
  have hs0 := sum_nonneg hG.1
  have HG := Lib.hid hG; clear hG
  have Hl := Lib.hid hl; clear hl
  go_enter Try.func113, Try.ntmps113
  go_wp2_with (go_at_call 112; refine (piSum_any _ _ _ _ _ h HG.out).mono ?_; rintro e w' ⟨rfl, rfl⟩)
  go_loopw [3, 4, 5, 14] (fun r l m i wr => ∃ k : Nat, k ≤ n ∧ i = .int .i64 k ∧ r = .int .i64 (rankTo xs k) ∧ l = .int .i64 (leftAt xs k) ∧ m = .int .i64 (mostAt xs k) ∧ Below w.heap.size w wr) (fun _ _ _ i _ => n - (intOf i).toNat)
  case atStart => exact ⟨0, Nat.zero_le _, rfl, rfl, by unfold leftAt; simp, rfl, Below.refl _ _⟩
  case round =>
    obtain ⟨k, hk, rfl, rfl, rfl, rfl, hb⟩ := hrel
    by_cases hlt : k < n
    · have h1 := h.keep hb
      obtain ⟨b, o, rfl, hbl, hc⟩ := h1.cell k hlt
      have hck := hc k hlt
      clear hc
      generalize hx : xs.getD k 0 = x at hck
      obtain ⟨g1, g2, g3, g4, g5, g6⟩ := left_bounds HG.out hlt Hl.out hx
      have hr := rankTo_bounds HG.out hk Hl.out
      have hr2 := rankTo_bounds HG.out (show k + 1 ≤ n by omega) Hl.out
      have ht := rankT_bounds HG.out hlt Hl.out
      have hrec : rankTo xs (k + 1) = rankTo xs k + rankT xs k := rfl
      have hdef : rankT xs k = (cnt (min (leftAt xs k) (mostAt xs k)).toNat (leftAt xs k).toNat : Int) - (cnt (xs.getD k 0).toNat (leftAt xs k).toNat : Int) := rfl
      have hmn : mostAt xs (k + 1) = x := by unfold mostAt; rw [if_neg (by omega)]; exact hx
      rw [hx] at hdef
      generalize hL : leftAt xs k = L at *
      generalize hM : mostAt xs k = M at *
      obtain ⟨L', rfl⟩ := Int.eq_ofNat_of_zero_le (show 0 ≤ L by omega)
      obtain ⟨Q, hQ⟩ := Int.eq_ofNat_of_zero_le (show 0 ≤ min (L' : Int) M by omega)
      obtain ⟨X, rfl⟩ := Int.eq_ofNat_of_zero_le (show 0 ≤ x by omega)
      simp only [hQ, Int.toNat_natCast] at hdef
      have l1 := cnt_le Q (by omega) L' (by omega)
      generalize hR : rankTo xs k = R at *
      generalize hR1 : rankTo xs (k + 1) = R1 at *
      have Hx := Lib.hid hx; clear hx
      have Hrec := Lib.hid hrec; clear hrec
      have Hdef := Lib.hid hdef; clear hdef
      have HR := Lib.hid hR; clear hR
      have HR1 := Lib.hid hR1; clear hR1
      have HL := Lib.hid hL; clear hL
      have HM := Lib.hid hM; clear hM
      have G6 := Lib.hid g6; clear g6
      have Hmn := Lib.hid hmn; clear hmn
      go_wp2_with fail
      refine (l1Least_any _ _ _).mono ?_
      rintro e w' ⟨rfl, rfl⟩
      rw [hQ]
      have HQ := Lib.hid hQ; clear hQ
      go_wp2_with fail
      go_loopw [3, 8] (fun r y wq => ∃ Y : Nat, X ≤ Y ∧ Y ≤ Q ∧ y = .int .i64 Y ∧ r = .int .i64 (R + ((cnt Q L' : Nat) : Int) - ((cnt Y L' : Nat) : Int)) ∧ Below w.heap.size w wq) (fun _ y _ => (intOf y).toNat)
      case atStart => exact ⟨Q, by have := HQ.out; omega, Nat.le_refl _, rfl, valI (by omega), hb⟩
      case round =>
        obtain ⟨Y, hY1, hY2, rfl, rfl, hbq⟩ := hrel
        have hQ' := HQ.out
        have hQL : Q ≤ L' := by omega
        by_cases hlt2 : X < Y
        · have hc1 := piCount_any (L' - Y) Y wr (by omega) (by omega)
          have hcr := cnt_rec (Y - 1) (by omega) L' (by omega)
          rw [show Y - 1 + 1 = Y by omega, if_pos (by omega)] at hcr
          have l2 := cnt_le Y (by omega) L' (by omega)
          have l3 := cnt_le Y (by omega) (L' - Y) (by omega)
          have l4 := cnt_mono_le (a := Y) (b := Q) (n := L') hY2 (by omega) (by omega)
          have ecast : ((L' - Y : Nat) : Int) = (L' : Int) - (Y : Int) := by omega
          rw [ecast] at hc1
          generalize cnt Q L' = c1 at *
          generalize cnt Y L' = c2 at *
          generalize hc3 : cnt (Y - 1) L' = c3 at *
          generalize cnt Y (L' - Y) = c4 at *
          have Hc1 := Lib.hid hc1; clear hc1
          have Hcr := Lib.hid hcr; clear hcr
          have Hc3 := Lib.hid hc3; clear hc3
          have Ecast := Lib.hid ecast; clear ecast
          clear hQ'
          go_wp2_with fail
          with_reducible refine (Hc1.out).mono ?_
          rintro e w1 ⟨rfl, hb1⟩
          go_wp2
          have e1 := Hcr.out
          go_roundw
          case rel => exact ⟨Y - 1, by omega, by omega, valI (by omega), by rw [Hc3.out]; exact valI (by omega), hbq.trans (hb1.mono hbq.size)⟩
          case measure => simp [intOf]; omega
        · obtain rfl : X = Y := by omega
          have l2 := cnt_le X (by omega) L' (by omega)
          have e1 := Hrec.out
          have e2 := Hdef.out
          have e3 := G6.out
          generalize cnt Q L' = c1 at *
          generalize cnt X L' = c2 at *
          have hfin : R + (c1 : Int) - c2 = R1 := by omega
          have E1 := Lib.hid e1; clear e1
          have E2 := Lib.hid e2; clear e2
          have E3 := Lib.hid e3; clear e3
          have Hfin := Lib.hid hfin; clear hfin
          clear hQ'
          go_wp2
          have e1 := E1.out
          have e3 := E3.out
          have e4 := Hfin.out
          go_roundw
          case rel => exact ⟨k + 1, by omega, by go_num, by rw [HR1.out]; exact valI (by omega), valI (by omega), by rw [Hmn.out], hbq⟩
          case measure => simp [intOf]; omega
    · go_wp2
      go_ret
      obtain rfl : n = k := by omega
      refine ⟨?_, hb⟩
      unfold rankL
      rw [Hl.out] <;> rfl

theorem spec_RankPiles (ao : Option Addr) (n cap : Nat) (xs : List Int) (w : World) (h : IntsAt w ao n cap xs) :
    Calls Try.prog 79 #[.slice ao n cap] w fun e w' => e = .returned (.tuple #[.int .i64 (mRankPiles xs).1, .bool (mRankPiles xs).2]) ∧ Below w.heap.size w w' := by
  cases hg : goodB xs
  · have hgg := Lib.hid hg
    go_enter Try.func79, Try.ntmps79
    go_wp2_with (go_at_call 87; refine (piGood_no _ _ _ _ _ h hgg.out).mono ?_; rintro e w' ⟨rfl, rfl⟩)
    go_ret2
    rw [mRank_no hgg.out]
    exact ⟨rfl, Below.refl _ _⟩
  · have Hg := Lib.hid hg; clear hg
    go_enter Try.func79, Try.ntmps79
    go_wp2_with (first | (go_at_call 87; refine (piGood_yes _ _ _ _ _ h (good_iff.1 Hg.out)).mono ?_; rintro e w' ⟨rfl, rfl⟩) | (go_at_call 113; refine (piRank_any _ _ _ _ _ h (good_iff.1 Hg.out)).mono ?_; rintro e w' ⟨rfl, hb⟩))
    go_ret2
    rw [mRank_yes Hg.out]
    exact ⟨rfl, hb⟩
end Go.Proofs.Ytkhphdohdnfplaa
