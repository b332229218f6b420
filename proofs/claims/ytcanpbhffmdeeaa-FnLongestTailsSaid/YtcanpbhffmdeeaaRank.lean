/- Chapter 1: ranks of piles. No condition. -/
import Derived.Test.YtcanpbhffmdeeaaPileF
import Derived.Test.YtcanpbhffmdeeaaGa
namespace Go.Proofs.Ytcanpbhffmdeeaa
open Go.RowKit
set_option linter.unusedVariables false
set_option linter.unusedSimpArgs false

theorem highestNext_any (left : Int) (ao : Option Addr) (n cap : Nat) (xs : List Int) (w : World) (h : IntsAt w ao n cap xs) :
    Calls Try.prog 110 #[.int .i64 left, .slice ao n cap] w fun e w' => e = .returned (.int .i64 (if n = 0 then left else min left (xs.getD (n - 1) 0))) ∧ w = w' := by
  have hn := h.lenInt
  by_cases hz : n = 0
  · subst hz
    go_enter Try.func110, Try.ntmps110
    go_wp2
    go_ret
    exact ⟨rfl, rfl⟩
  · have hne : ((n : Int) == 0) = false := by simp; omega
    obtain ⟨b, o, rfl, hb, hc⟩ := h.cell 0 (by omega)
    have hck := hc (n - 1) (by omega)
    clear hc
    generalize hx : xs.getD (n - 1) 0 = y at hck ⊢
    have Hx := Lib.hid hx; clear hx
    go_enter Try.func110, Try.ntmps110
    go_wp2
    all_goals (go_ret; exact ⟨retI (by omega), rfl⟩)

def mRankPiles (xs : List Int) : Int × Bool := (if goodB xs then rankL xs else 0, goodB xs)
theorem mRank_yes {xs : List Int} (h : goodB xs = true) : mRankPiles xs = (rankL xs, true) := by unfold mRankPiles; rw [h]; rfl
theorem mRank_no {xs : List Int} (h : goodB xs = false) : mRankPiles xs = (0, false) := by unfold mRankPiles; rw [h]; rfl
set_option maxHeartbeats 1600000 in
set_option maxRecDepth 100000 in
theorem impl_RankPiles (ao : Option Addr) (n cap : Nat) (xs : List Int) (w : World) (h : IntsAt w ao n cap xs) :
    Calls Try.prog 48 #[.slice ao n cap] w fun e w' => e = .returned (.tuple #[.int .i64 (mRankPiles xs).1, .bool (mRankPiles xs).2]) ∧ Below w.heap.size w w' := by
  cases hg : goodB xs
  · have hgg := Lib.hid hg
    go_enter Try.func48, Try.ntmps48
    go_wp2_with (go_at_call 49; refine (isPiles_no _ _ _ _ _ h hgg.out).mono ?_; rintro e w' ⟨rfl, rfl⟩)
    go_ret2
    rw [mRank_no hgg.out]
    exact ⟨rfl, Below.refl _ _⟩
  · have hG := good_iff.1 hg
    have hlen := hG.len
    have hl := h.length
    have hn : (n : Int) ≤ 28 := by omega
    have Hg := Lib.hid hg; clear hg
    have HG := Lib.hid hG; clear hG
    have Hl := Lib.hid hl; clear hl
    go_enter Try.func48, Try.ntmps48
    go_wp2_with (first | (go_at_call 49; refine (isPiles_yes _ _ _ _ _ h HG.out).mono ?_; rintro e w' ⟨rfl, rfl⟩) | (go_at_call 102; refine (sumOf_any _ _ _ _ _ h HG.out).mono ?_; rintro e w' ⟨rfl, rfl⟩))
    go_loopw [4, 5, 15] (fun r l i wr => ∃ k : Nat, k ≤ n ∧ i = .int .i64 k ∧ r = .int .i64 (rankTo xs k) ∧ l = .int .i64 (leftAt xs k) ∧ Below w.heap.size w wr) (fun _ _ i _ => n - (intOf i).toNat)
    case atStart => exact ⟨0, Nat.zero_le _, rfl, rfl, by unfold leftAt; simp, Below.refl _ _⟩
    case round =>
      obtain ⟨k, hk, rfl, rfl, rfl, hb⟩ := hrel
      by_cases hlt : k < n
      · have h1 := h.keep hb
        obtain ⟨b, o, rfl, hbl, hc⟩ := h1.cell k hlt
        have hck := hc k hlt
        clear hc
        generalize hx : xs.getD k 0 = x at hck
        obtain ⟨g1, g2, g3, g4, g5, g6⟩ := left_bounds HG.out hlt Hl.out hx
        have hr := rankTo_bounds HG.out hk Hl.out
        have hr2 := rankTo_bounds HG.out (show k + 1 ≤ n by omega) Hl.out
        have ht := rankT_bounds HG.out hlt Hl.out
        have hmo : (if k = 0 then leftAt xs k else min (leftAt xs k) (xs.getD (k - 1) 0)) = min (leftAt xs k) (mostAt xs k) := by
          unfold mostAt leftAt
          split
          · next e => subst e; simp
          · rfl
        have hrec : rankTo xs (k + 1) = rankTo xs k + rankT xs k := rfl
        have hdef : rankT xs k = (cnt (min (leftAt xs k) (mostAt xs k)).toNat (leftAt xs k).toNat : Int) - (cnt (xs.getD k 0).toNat (leftAt xs k).toNat : Int) := rfl
        rw [hx] at hdef
        obtain ⟨a2, hsl, hi2⟩ := slUpto wr xs h1 k (by omega) .i64
        have hhn := fun W (hb' : Below wr.heap.size wr W) => highestNext_any (leftAt xs k) a2 k _ _ W (hi2.keep hb')
        have hgt : (xs.take k).getD (k - 1) 0 = xs.getD (k - 1) 0 ∨ k = 0 := by
          by_cases h0 : k = 0
          · exact .inr h0
          · refine .inl ?_
            rw [List.getD_eq_getElem?_getD, List.getD_eq_getElem?_getD, List.getElem?_take, if_pos (by omega)]
        have hv : (if k = 0 then leftAt xs k else min (leftAt xs k) ((xs.take k).getD (k - 1) 0)) = min (leftAt xs k) (mostAt xs k) := by
          rw [← hmo]
          rcases hgt with h | h
          · rw [h]
          · rw [if_pos h, if_pos h]
        simp only [hv] at hhn
        clear hgt hv hmo
        generalize hL : leftAt xs k = L at *
        generalize hM : mostAt xs k = M at *
        obtain ⟨L', rfl⟩ := Int.eq_ofNat_of_zero_le (show 0 ≤ L by omega)
        obtain ⟨Q, hQ⟩ := Int.eq_ofNat_of_zero_le (show 0 ≤ min (L' : Int) M by omega)
        obtain ⟨X, rfl⟩ := Int.eq_ofNat_of_zero_le (show 0 ≤ x by omega)
        rw [hQ] at hdef
        simp only [hQ, Int.toNat_natCast] at hdef hhn
        have hc1 := fun W => countUpTo_any L' Q W (by omega) (by omega)
        have hc2 := fun W => countUpTo_any L' X W (by omega) (by omega)
        have l1 := cnt_le Q (by omega) L' (by omega)
        have l2 := cnt_le X (by omega) L' (by omega)
        generalize cnt Q L' = c1 at *
        generalize cnt X L' = c2 at *
        generalize rankTo xs k = R at *
        generalize hR1 : rankTo xs (k + 1) = R1 at *
        have Hhn := Lib.hid (hhn wr (Below.refl _ _))
        clear hhn
        have Hx := Lib.hid hx; clear hx
        have Hrec := Lib.hid hrec; clear hrec
        have Hdef := Lib.hid hdef; clear hdef
        have Hc1 := Lib.hid hc1; clear hc1
        have Hc2 := Lib.hid hc2; clear hc2
        have HR1 := Lib.hid hR1; clear hR1
        have HL := Lib.hid hL; clear hL
        have HM := Lib.hid hM; clear hM
        have HQ := Lib.hid hQ; clear hQ
        have G6 := Lib.hid g6; clear g6
        go_wp2_with fail
        refine (Hhn.out).mono ?_
        rintro e w' ⟨rfl, rfl⟩
        go_wp2_with fail
        refine (Hc1.out _).mono ?_
        rintro e w1 ⟨rfl, hb1⟩
        go_wp2_with fail
        refine (Hc2.out _).mono ?_
        rintro e w2 ⟨rfl, hb2⟩
        go_wp2
        have e1 := Hrec.out
        have e2 := Hdef.out
        have e3 := G6.out
        go_roundw
        case rel => exact ⟨k + 1, by omega, by go_num, by rw [HR1.out]; exact valI (by omega), valI (by omega), (hb.trans (hb1.mono hb.size)).trans (hb2.mono (Nat.le_trans hb.size hb1.size))⟩
        case measure => simp [intOf]; omega
      · go_wp2
        go_ret2
        obtain rfl : n = k := by omega
        refine ⟨?_, hb⟩
        rw [mRank_yes Hg.out]
        unfold rankL
        rw [Hl.out] <;> rfl

end Go.Proofs.Ytcanpbhffmdeeaa
