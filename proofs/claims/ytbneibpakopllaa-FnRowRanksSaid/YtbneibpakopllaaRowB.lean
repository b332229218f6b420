/- Chapter 5: CountRows, RowPastCount, by the model and by the program. No condition. -/
import Derived.Test.YtbneibpakopllaaRowA
namespace Go.Proofs.Ytbneibpakopllaa
open Go.RowKit
set_option linter.unusedVariables false
set_option linter.unusedSimpArgs false
set_option maxRecDepth 20000

theorem pow_fin : ∀ m : Nat, m < 28 → wrap64 (2 ^ m) = (cntR (m + 1) : Int) := by decide +kernel
theorem roCount_any (n : Nat) (w : World) (hn : n ≤ 28) :
    Calls Try.prog 127 #[.int .i64 n] w fun e w' => e = .returned (.int .i64 (cntR n : Nat)) ∧ w = w' := by
  by_cases h : n = 0
  · subst h
    go_enter Try.func127, Try.ntmps127
    go_wp2
    go_ret
    exact ⟨rfl, rfl⟩
  · obtain ⟨m, rfl⟩ : ∃ m, n = m + 1 := ⟨n - 1, by omega⟩
    have hp := pow_fin m (by omega)
    have hb : (((m + 1 : Nat) : Int) == 0) = false := by rw [beq_eq_false_iff_ne]; omega
    have em : (((m + 1 : Nat) : Int) - 1).toNat = m := by omega
    have hm0 : (0 : Int) ≤ ((m + 1 : Nat) : Int) - 1 := by omega
    have hm1 : ((m + 1 : Nat) : Int) - 1 ≤ 64 := by omega
    have Hp := Lib.hid hp; clear hp
    have Em := Lib.hid em; clear em
    go_enter Try.func127, Try.ntmps127
    go_wp2
    go_ret
    exact ⟨retI (by rw [← Hp.out]), rfl⟩
theorem spec_CountRows (n : Int) (w : World) :
    Calls Try.prog 75 #[.int .i64 n] w fun e w' => e = .returned (.tuple #[.int .i64 (mCountRows n).1, .bool (mCountRows n).2]) ∧ Below w.heap.size w w' := by
  by_cases hn : 0 ≤ n ∧ n ≤ 28
  · have hin := hn
    obtain ⟨m, rfl⟩ := Int.eq_ofNat_of_zero_le hn.1
    have hm := mCR_yes m (by omega)
    have hcon := fun W => roCount_any m W (by omega)
    have Hn := Lib.hid hn; clear hn
    have Hm := Lib.hid hm; clear hm
    have Hin := Lib.hid hin; clear hin
    have Hcon := Lib.hid hcon; clear hcon
    go_enter Try.func75, Try.ntmps75
    go_wp2_with fail
    with_reducible refine (piCards_yes _ _ Hin.out).mono ?_
    rintro e w' ⟨rfl, rfl⟩
    go_wp2_with fail
    with_reducible refine (Hcon.out _).mono ?_
    rintro e w' ⟨rfl, rfl⟩
    go_wp2
    go_ret2
    rw [Hm.out]
    exact ⟨rfl, Below.refl _ _⟩
  · have hm := mCR_no n hn
    have Hn := Lib.hid hn; clear hn
    have Hm := Lib.hid hm; clear hm
    go_enter Try.func75, Try.ntmps75
    go_wp2_with fail
    with_reducible refine (piCards_no _ _ Hn.out).mono ?_
    rintro e w' ⟨rfl, rfl⟩
    go_wp2
    go_ret2
    rw [Hm.out]
    exact ⟨rfl, Below.refl _ _⟩
theorem countRows_any (m : Nat) (w : World) (h28 : m ≤ 28) :
    Calls Try.prog 74 #[.int .i64 m] w fun e w' => e = .returned (.tuple #[.int .i64 (cntR m : Nat), .bool true]) ∧ w = w' := by
  have hin : (0 : Int) ≤ (m : Int) ∧ (m : Int) ≤ 28 := by omega
  by_cases h : m = 0
  · subst h
    have hir := inRange_yes 0 28 w (by omega)
    have Hir := Lib.hid hir; clear hir
    go_enter Try.func74, Try.ntmps74
    go_wp2_with fail
    with_reducible refine (Hir.out).mono ?_
    rintro e w' ⟨rfl, rfl⟩
    go_wp2
    go_ret2
    exact ⟨rfl, rfl⟩
  · obtain ⟨q, rfl⟩ : ∃ q, m = q + 1 := ⟨m - 1, by omega⟩
    have hp := pow_fin q (by omega)
    have hb : (((q + 1 : Nat) : Int) == 0) = false := by rw [beq_eq_false_iff_ne]; omega
    have em : (((q + 1 : Nat) : Int) - 1).toNat = q := by omega
    have hm0 : (0 : Int) ≤ ((q + 1 : Nat) : Int) - 1 := by omega
    have hm1 : ((q + 1 : Nat) : Int) - 1 ≤ 64 := by omega
    have hir := inRange_yes ((q : Int) + 1) 28 w (by omega)
    have Hp := Lib.hid hp; clear hp
    have Em := Lib.hid em; clear em
    have Hir := Lib.hid hir; clear hir
    go_enter Try.func74, Try.ntmps74
    go_wp2_with fail
    with_reducible refine (Hir.out).mono ?_
    rintro e w' ⟨rfl, rfl⟩
    go_wp2
    go_ret2
    exact ⟨retIB (by rw [← Hp.out]) rfl, rfl⟩
theorem impl_CountRows (n : Int) (w : World) :
    Calls Try.prog 74 #[.int .i64 n] w fun e w' => e = .returned (.tuple #[.int .i64 (mCountRows n).1, .bool (mCountRows n).2]) ∧ Below w.heap.size w w' := by
  by_cases hn : 0 ≤ n ∧ n ≤ 28
  · obtain ⟨m, rfl⟩ := Int.eq_ofNat_of_zero_le hn.1
    rw [mCR_yes m (by omega)]
    exact callsBelow (countRows_any m w (by omega))
  · have hm := mCR_no n hn
    have Hn := Lib.hid hn; clear hn
    have Hm := Lib.hid hm; clear hm
    go_enter Try.func74, Try.ntmps74
    go_wp2_with fail
    with_reducible refine (inRange_no _ _ _ Hn.out).mono ?_
    rintro e w' ⟨rfl, rfl⟩
    go_wp2
    go_ret2
    rw [Hm.out]
    exact ⟨rfl, Below.refl _ _⟩

/-! ### Ways to choose -/
set_option maxHeartbeats 800000 in
theorem waysToChoose_any (k : Nat) (n : Int) (w : World) (h0 : 0 ≤ n) (h1 : n ≤ 28) (hk : k ≤ 28) :
    Calls Try.prog 126 #[.int .i64 k, .int .i64 n] w fun e w' => e = .returned (.int .i64 (chI n k)) ∧ w = w' := by
  have hin := fun i (hi : i ≤ 28) => chI_in h0 h1 hi
  have Hin := Lib.hid hin; clear hin
  go_enter Try.func126, Try.ntmps126
  go_wp2
  go_loop [5, 8] (fun v i => ∃ j : Nat, j ≤ k ∧ i = .int .i64 j ∧ v = .int .i64 (chI n j)) (fun _ i => k - (intOf i).toNat)
  case atStart => exact ⟨0, Nat.zero_le _, rfl, rfl⟩
  case round =>
    obtain ⟨j, hj, rfl, rfl⟩ := hrel
    by_cases hlt : j < k
    · have hb := Hin.out j (by omega)
      have hs := chI_succ n j
      generalize chI n j = c at hb hs
      have hp : -2246529600 ≤ c * (n - (j : Int)) ∧ c * (n - (j : Int)) ≤ 2246529600 := by
        have hd1 : -28 ≤ n - (j : Int) := by omega
        have hd2 : n - (j : Int) ≤ 28 := by omega
        generalize n - (j : Int) = d at hd1 hd2
        constructor
        · have := Int.mul_le_mul_of_nonneg_left hd1 hb.1; omega
        · have := Int.mul_le_mul_of_nonneg_left hd2 hb.1; omega
      have hz : (((j : Int) + 1) == 0) = false := by rw [beq_eq_false_iff_ne]; omega
      have Hs := Lib.hid hs; clear hs
      go_wp2
      go_round
      case rel => exact ⟨j + 1, by omega, by go_num, by rw [Hs.out]⟩
      case measure => simp [intOf]; omega
    · obtain rfl : k = j := by omega
      go_wp2
      go_ret
      exact ⟨rfl, rfl⟩
set_option maxHeartbeats 800000 in
theorem roChoose_any (n : Int) (k : Nat) (w : World) (h0 : 0 ≤ n) (h1 : n ≤ 28) (hk : k ≤ 28) :
    Calls Try.prog 144 #[.int .i64 n, .int .i64 k] w fun e w' => e = .returned (.int .i64 (chI n k)) ∧ w = w' := by
  by_cases hkn : n < (k : Int)
  · have hz := chI_none h0 h1 hk hkn
    have Hz := Lib.hid hz; clear hz
    go_enter Try.func144, Try.ntmps144
    go_wp2
    go_ret
    exact ⟨retI (by rw [Hz.out]), rfl⟩
  have hin := fun i (hi : i ≤ 28) => chI_in h0 h1 hi
  have Hin := Lib.hid hin; clear hin
  go_enter Try.func144, Try.ntmps144
  go_wp2
  go_loop [5, 6] (fun v i => ∃ j : Nat, j ≤ k ∧ i = .int .i64 j ∧ v = .int .i64 (chI n j)) (fun _ i => k - (intOf i).toNat)
  case atStart => exact ⟨0, Nat.zero_le _, rfl, rfl⟩
  case round =>
    obtain ⟨j, hj, rfl, rfl⟩ := hrel
    by_cases hlt : j < k
    · have hb := Hin.out j (by omega)
      have hs := chI_succ n j
      generalize chI n j = c at hb hs
      have hp : -2246529600 ≤ c * (n - (j : Int)) ∧ c * (n - (j : Int)) ≤ 2246529600 := by
        have hd1 : -28 ≤ n - (j : Int) := by omega
        have hd2 : n - (j : Int) ≤ 28 := by omega
        generalize n - (j : Int) = d at hd1 hd2
        constructor
        · have := Int.mul_le_mul_of_nonneg_left hd1 hb.1; omega
        · have := Int.mul_le_mul_of_nonneg_left hd2 hb.1; omega
      have hz : (((j : Int) + 1) == 0) = false := by rw [beq_eq_false_iff_ne]; omega
      have Hs := Lib.hid hs; clear hs
      go_wp2
      go_round
      case rel => exact ⟨j + 1, by omega, by go_num, by rw [Hs.out]⟩
      case measure => simp [intOf]; omega
    · obtain rfl : k = j := by omega
      go_wp2
      go_ret
      exact ⟨rfl, rfl⟩
set_option maxHeartbeats 800000 in
theorem roPastCount_any (ao : Option Addr) (n cap : Nat) (xs : List Int) (w : World) (h : IntsAt w ao n cap xs) (hg : RowOk xs) :
    Calls Try.prog 113 #[.slice ao n cap] w fun e w' => e = .returned (.int .i64 (pastC xs)) ∧ w = w' := by
  have hl := h.length
  have hlen := hg.len
  by_cases hz : n = 0
  · have hxs : xs = [] := List.eq_nil_of_length_eq_zero (by omega)
    subst hz
    subst hxs
    go_enter Try.func113, Try.ntmps113
    go_wp2
    go_ret
    exact ⟨rfl, rfl⟩
  · have hxs : xs ≠ [] := fun e => hz (by rw [← hl, e]; rfl)
    have hp := pastC_cons hxs
    rw [hl] at hp
    obtain ⟨b, o, rfl, hb, hc⟩ := h.cell 0 (by omega)
    have hck := hc 0 (by omega)
    rw [Nat.add_zero] at hck
    have hm := hg.mem (mem_getD0 hxs)
    generalize xs.getD 0 0 = x at hck hp hm
    have hn0 : (0 : Int) < n := by omega
    have hn1 : (n : Int) ≤ 28 := by omega
    have hnb : ((n : Int) == 0) = false := by rw [beq_eq_false_iff_ne]; omega
    have hcon := roChoose_any x (n - 1) w (by omega) (by omega) (by omega)
    rw [show ((n - 1 : Nat) : Int) = (n : Int) - 1 by omega] at hcon
    have Hxs := Lib.hid hxs; clear hxs
    have Hp := Lib.hid hp; clear hp
    have Hl := Lib.hid hl; clear hl
    have Hcon := Lib.hid hcon; clear hcon
    have Hlen := Lib.hid hlen; clear hlen
    clear h hc
    go_enter Try.func113, Try.ntmps113
    go_wp2_with fail
    with_reducible refine (Hcon.out).mono ?_
    rintro e w' ⟨rfl, rfl⟩
    go_wp2
    go_ret
    exact ⟨retI (by rw [Hp.out]), rfl⟩
theorem spec_RowPastCount (ao : Option Addr) (n cap : Nat) (xs : List Int) (w : World) (h : IntsAt w ao n cap xs) :
    Calls Try.prog 69 #[.slice ao n cap] w fun e w' => e = .returned (.tuple #[.int .i64 (mRowPastCount xs).1, .bool (mRowPastCount xs).2]) ∧ Below w.heap.size w w' := by
  cases hg : rowB xs
  · have hm := mRPC_no hg
    have Hg := Lib.hid hg; clear hg
    have Hm := Lib.hid hm; clear hm
    go_enter Try.func69, Try.ntmps69
    go_wp2_with fail
    with_reducible refine (roGood_no _ _ _ _ _ h Hg.out).mono ?_
    rintro e w' ⟨rfl, rfl⟩
    go_wp2
    go_ret2
    rw [Hm.out]
    exact ⟨rfl, Below.refl _ _⟩
  · have hm := mRPC_yes hg
    have hG := row_iff.1 hg
    have hcon := roPastCount_any ao n cap xs w h hG
    have Hg := Lib.hid hg; clear hg
    have Hm := Lib.hid hm; clear hm
    have HG := Lib.hid hG; clear hG
    have Hcon := Lib.hid hcon; clear hcon
    go_enter Try.func69, Try.ntmps69
    go_wp2_with fail
    with_reducible refine (roGood_yes _ _ _ _ _ h HG.out).mono ?_
    rintro e w' ⟨rfl, rfl⟩
    go_wp2_with fail
    with_reducible refine (Hcon.out).mono ?_
    rintro e w' ⟨rfl, rfl⟩
    go_wp2
    go_ret2
    rw [Hm.out]
    exact ⟨rfl, Below.refl _ _⟩
set_option maxHeartbeats 800000 in
theorem rowPastCount_any (ao : Option Addr) (n cap : Nat) (xs : List Int) (w : World) (h : IntsAt w ao n cap xs) :
    Calls Try.prog 68 #[.slice ao n cap] w fun e w' => e = .returned (.tuple #[.int .i64 (mRowPastCount xs).1, .bool (mRowPastCount xs).2]) ∧ w = w' := by
  cases hg : rowB xs
  · have hm := mRPC_no hg
    have Hg := Lib.hid hg; clear hg
    have Hm := Lib.hid hm; clear hm
    go_enter Try.func68, Try.ntmps68
    go_wp2_with fail
    with_reducible refine (isRow_no _ _ _ _ _ h Hg.out).mono ?_
    rintro e w' ⟨rfl, rfl⟩
    go_wp2
    go_ret2
    rw [Hm.out]
    exact ⟨rfl, rfl⟩
  · have hm := mRPC_yes hg
    have hG := row_iff.1 hg
    have hl := h.length
    have hlen := hG.len
    have hir := isRow_yes _ _ _ _ _ h hG
    by_cases hz : n = 0
    · have hxs : xs = [] := List.eq_nil_of_length_eq_zero (by omega)
      subst hz
      subst hxs
      have Hg := Lib.hid hg; clear hg
      have Hm := Lib.hid hm; clear hm
      have HG := Lib.hid hG; clear hG
      have Hir := Lib.hid hir; clear hir
      go_enter Try.func68, Try.ntmps68
      go_wp2_with fail
      with_reducible refine (Hir.out).mono ?_
      rintro e w' ⟨rfl, rfl⟩
      go_wp2
      go_ret2
      rw [Hm.out]
      exact ⟨rfl, rfl⟩
    · have hxs : xs ≠ [] := fun e => hz (by rw [← hl, e]; rfl)
      have hp := pastC_cons hxs
      rw [hl] at hp
      obtain ⟨b, o, rfl, hb, hc⟩ := h.cell 0 (by omega)
      have hck := hc 0 (by omega)
      rw [Nat.add_zero] at hck
      have hx := hG.mem (mem_getD0 hxs)
      generalize xs.getD 0 0 = x at hck hp hx
      have hn0 : (0 : Int) < n := by omega
      have hn1 : (n : Int) ≤ 28 := by omega
      have hnb : ((n : Int) == 0) = false := by rw [beq_eq_false_iff_ne]; omega
      have hcon := waysToChoose_any (n - 1) x w (by omega) (by omega) (by omega)
      rw [show ((n - 1 : Nat) : Int) = (n : Int) - 1 by omega] at hcon
      have Hxs := Lib.hid hxs; clear hxs
      have Hp := Lib.hid hp; clear hp
      have Hl := Lib.hid hl; clear hl
      have Hcon := Lib.hid hcon; clear hcon
      have Hlen := Lib.hid hlen; clear hlen
      have Hg := Lib.hid hg; clear hg
      have Hm := Lib.hid hm; clear hm
      have HG := Lib.hid hG; clear hG
      have Hir := Lib.hid hir; clear hir
      clear h hc
      go_enter Try.func68, Try.ntmps68
      go_wp2_with fail
      with_reducible refine (Hir.out).mono ?_
      rintro e w' ⟨rfl, rfl⟩
      go_wp2_with fail
      with_reducible refine (Hcon.out).mono ?_
      rintro e w' ⟨rfl, rfl⟩
      go_wp2
      go_ret2
      rw [Hm.out, ← Hp.out]
      exact ⟨rfl, rfl⟩
theorem impl_RowPastCount (ao : Option Addr) (n cap : Nat) (xs : List Int) (w : World) (h : IntsAt w ao n cap xs) :
    Calls Try.prog 68 #[.slice ao n cap] w fun e w' => e = .returned (.tuple #[.int .i64 (mRowPastCount xs).1, .bool (mRowPastCount xs).2]) ∧ Below w.heap.size w w' := callsBelow (rowPastCount_any ao n cap xs w h)
end Go.Proofs.Ytbneibpakopllaa
