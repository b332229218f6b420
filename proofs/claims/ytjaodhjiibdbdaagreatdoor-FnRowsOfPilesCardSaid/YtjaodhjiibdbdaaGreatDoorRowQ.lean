/- Chapter 5: RowsOfPiles by the model and by the program. No condition. -/
import Derived.Test.YtjaodhjiibdbdaaGreatDoorGm
namespace Go.Proofs.YtjaodhjiibdbdaaGreatDoor
open Go.RowKit
set_option linter.unusedVariables false
set_option linter.unusedSimpArgs false
set_option maxRecDepth 20000

def sameR (xs : List Int) : Nat → Nat
  | 0 => 1
  | i + 1 => if xs.getD (i + 1) 0 = xs.getD i 0 then sameR xs i + 1 else 1
def rowsR (xs : List Int) : Nat → Int
  | 0 => 1
  | i + 1 => wrap64 (Int.tdiv (wrap64 (rowsR xs i * ((i : Int) + 1))) (sameR xs i))
theorem sameR_le (xs : List Int) (i : Nat) : 1 ≤ sameR xs i ∧ sameR xs i ≤ i + 1 := by
  induction i with
  | zero => exact ⟨Nat.le_refl _, Nat.le_refl _⟩
  | succ i ih => unfold sameR; split <;> omega
theorem rowsR_succ (xs : List Int) (i : Nat) : rowsR xs (i + 1) = wrap64 (Int.tdiv (wrap64 (rowsR xs i * ((i : Int) + 1))) (sameR xs i)) := rfl
theorem sameR_succ (xs : List Int) (i : Nat) : sameR xs (i + 1) = if xs.getD (i + 1) 0 = xs.getD i 0 then sameR xs i + 1 else 1 := rfl
def mRowsOfPiles (xs : List Int) : Int × Bool := (if goodB xs then rowsR xs xs.length else 0, goodB xs)
theorem mROP_yes {xs : List Int} (h : goodB xs = true) : mRowsOfPiles xs = (rowsR xs xs.length, true) := by unfold mRowsOfPiles; rw [h]; rfl
theorem mROP_no {xs : List Int} (h : goodB xs = false) : mRowsOfPiles xs = (0, false) := by unfold mRowsOfPiles; rw [h]; rfl
/-- how many of the same stand at the end of the first k -/
def sameN (xs : List Int) (k : Nat) : Nat := if k = 0 then 0 else sameR xs (k - 1)
theorem sameN_succ (xs : List Int) (k : Nat) : sameN xs (k + 1) = sameR xs k := by unfold sameN; rw [if_neg (by omega)]; rfl
theorem sameN_next {xs : List Int} {k : Nat} (hk : k ≠ 0) : sameR xs k = if xs.getD k 0 = xs.getD (k - 1) 0 then sameN xs k + 1 else 1 := by
  obtain ⟨i, rfl⟩ : ∃ i, k = i + 1 := ⟨k - 1, by omega⟩
  rw [sameR_succ, sameN_succ]; rfl
theorem sameN_le (xs : List Int) (k : Nat) : sameN xs k ≤ k := by
  unfold sameN; split
  · omega
  · have := sameR_le xs (k - 1); omega

set_option maxHeartbeats 1600000 in
theorem impl_RowsOfPiles (ao : Option Addr) (n cap : Nat) (xs : List Int) (w : World) (h : IntsAt w ao n cap xs) :
    Calls Tryz.prog 7 #[.slice ao n cap] w fun e w' => e = .returned (.tuple #[.int .i64 (mRowsOfPiles xs).1, .bool (mRowsOfPiles xs).2]) ∧ Below w.heap.size w w' := by
  cases hg : goodB xs
  · have hm := mROP_no hg
    have Hg := Lib.hid hg; clear hg
    have Hm := Lib.hid hm; clear hm
    go_enter Tryz.func7, Tryz.ntmps7
    go_wp2_with fail
    with_reducible refine (isPiles_no _ _ _ _ _ h Hg.out).mono ?_
    rintro e w' ⟨rfl, rfl⟩
    go_wp2
    go_ret2
    rw [Hm.out]
    exact ⟨rfl, Below.refl _ _⟩
  · have hm := mROP_yes hg
    have hG := good_iff.1 hg
    have hl := h.length
    have hlen := hG.len
    have hn28 : (n : Int) ≤ 28 := by omega
    rw [hl] at hm
    have Hg := Lib.hid hg; clear hg
    have Hm := Lib.hid hm; clear hm
    have HG := Lib.hid hG; clear hG
    have Hl := Lib.hid hl; clear hl
    have Hlen := Lib.hid hlen; clear hlen
    go_enter Tryz.func7, Tryz.ntmps7
    go_wp2_with fail
    with_reducible refine (isPiles_yes _ _ _ _ _ h HG.out).mono ?_
    rintro e w' ⟨rfl, rfl⟩
    go_wp2_with fail
    go_loop [4, 5, 13] (fun rv sv iv => ∃ k : Nat, k ≤ n ∧ iv = .int .i64 k ∧ rv = .int .i64 (rowsR xs k) ∧ sv = .int .i64 (sameN xs k : Nat)) (fun _ _ i => n - (intOf i).toNat)
    case atStart => exact ⟨0, Nat.zero_le _, rfl, rfl, rfl⟩
    case round =>
      obtain ⟨k, hk, rfl, rfl, rfl⟩ := hrel
      have hsl := sameN_le xs k
      by_cases hlt : k < n
      · have hrs := rowsR_succ xs k
        have hsu := sameN_succ xs k
        have hse := sameR_le xs k
        obtain ⟨b, o, rfl, hb, hc⟩ := h.cell k hlt
        have hck := hc k hlt
        have hki : (k : Int) ≤ 28 := by omega
        by_cases hk0 : k = 0
        · subst hk0
          rw [Nat.add_zero] at hck
          rw [show sameR xs 0 = 1 from rfl] at hrs hsu
          rw [show rowsR xs 0 = 1 from rfl, show ((1 : Nat) : Int) = 1 from rfl, Int.tdiv_one, show (1 : Int) * (((0 : Nat) : Int) + 1) = 1 from rfl] at hrs
          generalize xs.getD 0 0 = x at hck
          clear hc
          have Hrs := Lib.hid hrs; clear hrs
          have Hsu := Lib.hid hsu; clear hsu
          go_wp2
          go_round
          case rel => exact ⟨1, by omega, rfl, by rw [Hrs.out, show rowsR xs 0 = 1 from rfl, show ((sameN xs 0 : Nat) : Int) = 0 from rfl]; exact valI (by decide +kernel), by rw [Hsu.out]; rfl⟩
          case measure => simp [intOf]; omega
        · have hnx := sameN_next (xs := xs) hk0
          have hcp := hc (k - 1) (by omega)
          have hk1 : (0 : Int) < k := by omega
          generalize xs.getD k 0 = x at hck hnx
          generalize xs.getD (k - 1) 0 = y at hcp hnx
          generalize rowsR xs k = r at *
          generalize sameR xs k = s at *
          generalize sameN xs k = t at *
          clear hc
          by_cases hxy : x = y
          · rw [if_pos hxy] at hnx
            subst hxy
            subst hnx
            have hz : (((t : Int) + 1) == 0) = false := by rw [beq_eq_false_iff_ne]; omega
            have Hrs := Lib.hid hrs; clear hrs
            have Hsu := Lib.hid hsu; clear hsu
            go_wp2
            go_round
            case rel => exact ⟨k + 1, by omega, by go_num, by rw [Hrs.out]; rfl, by rw [Hsu.out]; go_num⟩
            case measure => simp [intOf]; omega
          · rw [if_neg hxy] at hnx
            subst hnx
            rw [show ((1 : Nat) : Int) = 1 from rfl, Int.tdiv_one] at hrs
            have hxb : (x == y) = false := by rw [beq_eq_false_iff_ne]; exact hxy
            have Hrs := Lib.hid hrs; clear hrs
            have Hsu := Lib.hid hsu; clear hsu
            go_wp2
            go_round
            case rel => exact ⟨k + 1, by omega, by go_num, by rw [Hrs.out], by rw [Hsu.out]; rfl⟩
            case measure => simp [intOf]; omega
      · obtain rfl : n = k := by omega
        go_wp2
        go_ret2
        rw [Hm.out]
        exact ⟨rfl, Below.refl _ _⟩
set_option maxHeartbeats 1600000 in
theorem spec_RowsOfPiles (ao : Option Addr) (n cap : Nat) (xs : List Int) (w : World) (h : IntsAt w ao n cap xs) :
    Calls Tryz.prog 8 #[.slice ao n cap] w fun e w' => e = .returned (.tuple #[.int .i64 (mRowsOfPiles xs).1, .bool (mRowsOfPiles xs).2]) ∧ Below w.heap.size w w' := by
  cases hg : goodB xs
  · have hm := mROP_no hg
    have Hg := Lib.hid hg; clear hg
    have Hm := Lib.hid hm; clear hm
    go_enter Tryz.func8, Tryz.ntmps8
    go_wp2_with fail
    with_reducible refine (piGood_no _ _ _ _ _ h Hg.out).mono ?_
    rintro e w' ⟨rfl, rfl⟩
    go_wp2
    go_ret2
    rw [Hm.out]
    exact ⟨rfl, Below.refl _ _⟩
  · have hm := mROP_yes hg
    have hG := good_iff.1 hg
    have hl := h.length
    have hlen := hG.len
    have hn28 : (n : Int) ≤ 28 := by omega
    rw [hl] at hm
    have Hg := Lib.hid hg; clear hg
    have Hm := Lib.hid hm; clear hm
    have HG := Lib.hid hG; clear hG
    have Hl := Lib.hid hl; clear hl
    have Hlen := Lib.hid hlen; clear hlen
    go_enter Tryz.func8, Tryz.ntmps8
    go_wp2_with fail
    with_reducible refine (piGood_yes _ _ _ _ _ h HG.out).mono ?_
    rintro e w' ⟨rfl, rfl⟩
    go_wp2_with fail
    go_loop [4, 5, 6, 14] (fun rv pv sv iv => ∃ k : Nat, k ≤ n ∧ iv = .int .i64 k ∧ pv = .int .i64 k ∧ rv = .int .i64 (rowsR xs k) ∧ sv = .int .i64 (sameN xs k : Nat)) (fun _ _ _ i => n - (intOf i).toNat)
    case atStart => exact ⟨0, Nat.zero_le _, rfl, rfl, rfl, rfl⟩
    case round =>
      obtain ⟨k, hk, rfl, rfl, rfl, rfl⟩ := hrel
      have hsl := sameN_le xs k
      by_cases hlt : k < n
      · have hrs := rowsR_succ xs k
        have hsu := sameN_succ xs k
        have hse := sameR_le xs k
        obtain ⟨b, o, rfl, hb, hc⟩ := h.cell k hlt
        have hck := hc k hlt
        have hki : (k : Int) ≤ 28 := by omega
        by_cases hk0 : k = 0
        · subst hk0
          rw [Nat.add_zero] at hck
          rw [show sameR xs 0 = 1 from rfl] at hrs hsu
          rw [show rowsR xs 0 = 1 from rfl, show ((1 : Nat) : Int) = 1 from rfl, Int.tdiv_one, show (1 : Int) * (((0 : Nat) : Int) + 1) = 1 from rfl] at hrs
          generalize xs.getD 0 0 = x at hck
          clear hc
          have Hrs := Lib.hid hrs; clear hrs
          have Hsu := Lib.hid hsu; clear hsu
          go_wp2
          go_round
          case rel => exact ⟨1, by omega, rfl, rfl, by rw [Hrs.out, show rowsR xs 0 = 1 from rfl], by rw [Hsu.out]; rfl⟩
          case measure => simp [intOf]; omega
        · have hnx := sameN_next (xs := xs) hk0
          have hcp := hc (k - 1) (by omega)
          have hk1 : (0 : Int) < k := by omega
          generalize xs.getD k 0 = x at hck hnx
          generalize xs.getD (k - 1) 0 = y at hcp hnx
          generalize rowsR xs k = r at *
          generalize sameR xs k = s at *
          generalize sameN xs k = t at *
          clear hc
          by_cases hxy : x = y
          · rw [if_pos hxy] at hnx
            subst hxy
            subst hnx
            have hz : (((t : Int) + 1) == 0) = false := by rw [beq_eq_false_iff_ne]; omega
            have Hrs := Lib.hid hrs; clear hrs
            have Hsu := Lib.hid hsu; clear hsu
            go_wp2
            go_round
            case rel => exact ⟨k + 1, by omega, by go_num, by go_num, by rw [Hrs.out]; rfl, by rw [Hsu.out]; go_num⟩
            case measure => simp [intOf]; omega
          · rw [if_neg hxy] at hnx
            subst hnx
            rw [show ((1 : Nat) : Int) = 1 from rfl, Int.tdiv_one] at hrs
            have hyb : (y == x) = false := by rw [beq_eq_false_iff_ne]; exact fun e => hxy e.symm
            have Hrs := Lib.hid hrs; clear hrs
            have Hsu := Lib.hid hsu; clear hsu
            go_wp2
            go_round
            case rel => exact ⟨k + 1, by omega, by go_num, by go_num, by rw [Hrs.out], by rw [Hsu.out]; rfl⟩
            case measure => simp [intOf]; omega
      · obtain rfl : n = k := by omega
        go_wp2
        go_ret2
        rw [Hm.out]
        exact ⟨rfl, Below.refl _ _⟩
end Go.Proofs.YtjaodhjiibdbdaaGreatDoor
