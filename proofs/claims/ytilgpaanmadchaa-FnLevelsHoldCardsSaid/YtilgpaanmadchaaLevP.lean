/- Chapter 3: PotentialOf, DropOf, LeastPotential, GreatestPotential, IsLeast, RoundOf by the program. No condition. -/
import Derived.Test.YtilgpaanmadchaaLevJ
namespace Go.Proofs.Ytilgpaanmadchaa
open Go.RowKit
set_option linter.unusedVariables false
set_option linter.unusedSimpArgs false
set_option maxRecDepth 20000

set_option maxHeartbeats 800000 in
theorem impl_PotentialOf (ao : Option Addr) (n cap : Nat) (xs : List Int) (w : World) (h : IntsAt w ao n cap xs) :
    Calls Try.prog 62 #[.slice ao n cap] w fun e w' => e = .returned (.tuple #[.int .i64 (mPotentialOf xs).1, .bool (mPotentialOf xs).2]) ∧ Below w.heap.size w w' := by
  cases hg : goodB xs
  · have hm := mPot_no hg
    have Hg := Lib.hid hg; clear hg
    have Hm := Lib.hid hm; clear hm
    go_enter Try.func62, Try.ntmps62
    go_wp2_with fail
    with_reducible refine (isPiles_no _ _ _ _ _ h Hg.out).mono ?_
    rintro e w' ⟨rfl, rfl⟩
    go_wp2
    go_ret2
    rw [Hm.out]
    exact ⟨rfl, Below.refl _ _⟩
  · have hm := mPot_yes hg
    have hG := good_iff.1 hg
    have hcon := potentialOf_any ao n cap xs w h hG
    have Hg := Lib.hid hg; clear hg
    have Hm := Lib.hid hm; clear hm
    have HG := Lib.hid hG; clear hG
    have Hcon := Lib.hid hcon; clear hcon
    go_enter Try.func62, Try.ntmps62
    go_wp2_with fail
    with_reducible refine (isPiles_yes _ _ _ _ _ h HG.out).mono ?_
    rintro e w' ⟨rfl, rfl⟩
    go_wp2_with fail
    with_reducible refine (Hcon.out).mono ?_
    rintro e w1 ⟨rfl, hb1⟩
    go_wp2_with fail
    go_ret2
    rw [Hm.out]
    exact ⟨rfl, hb1⟩

set_option maxHeartbeats 800000 in
theorem impl_DropOf (ao : Option Addr) (n cap : Nat) (xs : List Int) (w : World) (h : IntsAt w ao n cap xs) :
    Calls Try.prog 59 #[.slice ao n cap] w fun e w' => e = .returned (.tuple #[.int .i64 (mDropOf xs).1, .bool (mDropOf xs).2]) ∧ Below w.heap.size w w' := by
  cases hg : goodB xs
  · have hm := mDrop_no hg
    have Hg := Lib.hid hg; clear hg
    have Hm := Lib.hid hm; clear hm
    go_enter Try.func59, Try.ntmps59
    go_wp2_with fail
    with_reducible refine (isPiles_no _ _ _ _ _ h Hg.out).mono ?_
    rintro e w' ⟨rfl, rfl⟩
    go_wp2
    go_ret2
    rw [Hm.out]
    exact ⟨rfl, Below.refl _ _⟩
  · have hm := mDrop_yes hg
    have hG := good_iff.1 hg
    have hcon := dropOf_any ao n cap xs w h hG
    have Hg := Lib.hid hg; clear hg
    have Hm := Lib.hid hm; clear hm
    have HG := Lib.hid hG; clear hG
    have Hcon := Lib.hid hcon; clear hcon
    go_enter Try.func59, Try.ntmps59
    go_wp2_with fail
    with_reducible refine (isPiles_yes _ _ _ _ _ h HG.out).mono ?_
    rintro e w' ⟨rfl, rfl⟩
    go_wp2_with fail
    with_reducible refine (Hcon.out).mono ?_
    rintro e w1 ⟨rfl, rfl⟩
    go_wp2_with fail
    go_ret2
    rw [Hm.out]
    exact ⟨rfl, Below.refl _ _⟩

set_option maxHeartbeats 1600000 in
theorem impl_LeastPotential (n : Int) (w : World) :
    Calls Try.prog 61 #[.int .i64 n] w fun e w' => e = .returned (.tuple #[.int .i64 (mLeastPotential n).1, .bool (mLeastPotential n).2]) ∧ Below w.heap.size w w' := by
  have hcon := impl_HeightFor n w
  by_cases hn : 0 ≤ n ∧ n ≤ 28
  · have hh : mHeightFor n = (((hgt n.toNat : Nat) : Int), n - ((tri (hgt n.toNat) : Nat) : Int), true) := by unfold mHeightFor; rw [if_pos hn]
    obtain ⟨m, rfl⟩ := Int.eq_ofNat_of_zero_le hn.1
    have hm28 : m ≤ 28 := by omega
    have hm := mLeast_yes hm28
    have hms := more_small m (by omega)
    have h7 := hgt_le m
    rw [hh] at hcon
    rw [show ((m : Int)).toNat = m by omega] at hcon
    have hls : leastI m = fullN (hgt m) + (hgt m : Int) * ((m : Int) - tri (hgt m)) := rfl
    rw [hls] at hm
    have hfs : ∀ k, k < 8 → (0 ≤ fullN k ∧ fullN k ≤ 1000) ∧ 0 ≤ (k : Int) * ((k : Int) + 1) ∧ (k : Int) * ((k : Int) + 1) ≤ 1000 := full_small
    clear hn hh hls
    generalize hgt m = f at *
    generalize (m : Int) - tri f = r at *
    generalize hp : (f : Int) * r = p at *
    have Hcon := Lib.hid hcon; clear hcon
    have Hm := Lib.hid hm; clear hm
    have Hfs := Lib.hid hfs; clear hfs
    have Hp := Lib.hid hp; clear hp
    go_enter Try.func61, Try.ntmps61
    go_wp2_with fail
    with_reducible refine (Hcon.out).mono ?_
    rintro e w1 ⟨rfl, hb⟩
    have hp2 : (f : Int) * r = p := Hp.out
    go_wp2_with fail
    go_loop [7, 21] (fun s i => ∃ (j : Nat) (t : Int), j ≤ f ∧ i = .int .i64 j ∧ s = .int .i64 (t + p) ∧ fullN j = t) (fun _ i => f - (intOf i).toNat)
    case atStart => exact ⟨0, 0, Nat.zero_le _, rfl, valI (by omega), rfl⟩
    case round =>
      obtain ⟨j, t, hj, rfl, rfl, ht⟩ := hrel
      have h1 := Hfs.out j (by omega)
      rw [ht] at h1
      by_cases hlt : j < f
      · have hcp := fun w => placesOn_any j w (by omega)
        have e : fullN (j + 1) = t + (j : Int) * ((j : Int) + 1) := by rw [fullN, ht]
        generalize hq : (j : Int) * ((j : Int) + 1) = q at *
        have Hcp := Lib.hid hcp; clear hcp
        have E := Lib.hid e; clear e
        have Ht := Lib.hid ht; clear ht
        go_wp2_with fail
        with_reducible refine (Hcp.out _).mono ?_
        rintro e w2 ⟨rfl, rfl⟩
        go_wp2_with fail
        go_round
        case rel => exact ⟨j + 1, t + q, by omega, valI (by omega), valI (by go_num), E.out⟩
        case measure => simp [intOf]; omega
      · have hjf : j = f := by omega
        subst hjf
        have Ht := Lib.hid ht; clear ht
        go_wp2_with fail
        go_ret2
        rw [Hm.out, Ht.out]
        exact ⟨rfl, hb⟩
  · have hh : mHeightFor n = (0, 0, false) := by unfold mHeightFor; rw [if_neg hn]
    have hm := mLeast_no hn
    rw [hh] at hcon
    have Hcon := Lib.hid hcon; clear hcon
    have Hm := Lib.hid hm; clear hm
    have Hn := Lib.hid hn; clear hn
    clear hh
    go_enter Try.func61, Try.ntmps61
    go_wp2_with fail
    with_reducible refine (Hcon.out).mono ?_
    rintro e w1 ⟨rfl, hb⟩
    go_wp2_with fail
    go_ret2
    rw [Hm.out]
    exact ⟨rfl, hb⟩

set_option maxHeartbeats 800000 in
theorem impl_GreatestPotential (n : Int) (w : World) :
    Calls Try.prog 67 #[.int .i64 n] w fun e w' => e = .returned (.tuple #[.int .i64 (mGreatestPotential n).1, .bool (mGreatestPotential n).2]) ∧ Below w.heap.size w w' := by
  by_cases hn : 0 ≤ n ∧ n ≤ 28
  · have hin := hn
    have hm := mGreat_yes hn
    obtain ⟨m, rfl⟩ := Int.eq_ofNat_of_zero_le hn.1
    have hgs := great_small m (by omega)
    have hm28 : m ≤ 28 := by omega
    generalize hp : (m : Int) * ((m : Int) - 1) = p at *
    generalize hq : Int.tdiv p 2 = q at *
    have Hn := Lib.hid hn; clear hn
    have Hm := Lib.hid hm; clear hm
    have Hin := Lib.hid hin; clear hin
    go_enter Try.func67, Try.ntmps67
    go_wp2_with fail
    with_reducible refine (inRange_yes _ _ _ Hin.out).mono ?_
    rintro e w' ⟨rfl, rfl⟩
    go_wp2_with fail
    go_ret2
    rw [Hm.out]
    exact ⟨rfl, Below.refl _ _⟩
  · have hin := hn
    have hm := mGreat_no hn
    have Hn := Lib.hid hn; clear hn
    have Hm := Lib.hid hm; clear hm
    have Hin := Lib.hid hin; clear hin
    go_enter Try.func67, Try.ntmps67
    go_wp2_with fail
    with_reducible refine (inRange_no _ _ _ Hin.out).mono ?_
    rintro e w' ⟨rfl, rfl⟩
    go_wp2_with fail
    go_ret2
    rw [Hm.out]
    exact ⟨rfl, Below.refl _ _⟩

set_option maxHeartbeats 800000 in
theorem impl_RoundOf (l k : Int) (w : World) :
    Calls Try.prog 86 #[.int .i64 l, .int .i64 k] w fun e w' => e = .returned (.tuple #[.int .i64 (mRoundOf l k).1, .bool (mRoundOf l k).2]) ∧ Below w.heap.size w w' := by
  by_cases hl : 0 ≤ l ∧ l ≤ 28
  · have hin := hl
    by_cases hk : 0 ≤ k ∧ k ≤ 1000
    · have hin2 := hk
      have hm := mRound_yes hl hk
      obtain ⟨m, rfl⟩ := Int.eq_ofNat_of_zero_le hl.1
      have hcp := fun w => placesOn_any m w (by omega)
      have hr1 := Int.tmod_nonneg ((m : Int) + 1) hk.1
      have hr2 := Int.tmod_lt_of_pos k (show 0 < (m : Int) + 1 by omega)
      have hm1 : ¬ ((m : Int) + 1 = 0) := by omega
      generalize hq : Int.tmod k ((m : Int) + 1) = q at *
      have Hl := Lib.hid hl; clear hl
      have Hk := Lib.hid hk; clear hk
      have Hm := Lib.hid hm; clear hm
      have Hin := Lib.hid hin; clear hin
      have Hin2 := Lib.hid hin2; clear hin2
      have Hcp := Lib.hid hcp; clear hcp
      go_enter Try.func86, Try.ntmps86
      go_wp2_with fail
      with_reducible refine (inRange_yes _ _ _ Hin.out).mono ?_
      rintro e w' ⟨rfl, rfl⟩
      go_wp2_with fail
      with_reducible refine (inRange_yes _ _ _ Hin2.out).mono ?_
      rintro e w' ⟨rfl, rfl⟩
      go_wp2_with fail
      with_reducible refine (Hcp.out _).mono ?_
      rintro e w' ⟨rfl, rfl⟩
      go_wp2_with fail
      go_ret2
      rw [Hm.out]
      exact ⟨rfl, Below.refl _ _⟩
    · have hin2 := hk
      have hm := mRound_no2 (l := l) hk
      have Hl := Lib.hid hl; clear hl
      have Hk := Lib.hid hk; clear hk
      have Hm := Lib.hid hm; clear hm
      have Hin := Lib.hid hin; clear hin
      have Hin2 := Lib.hid hin2; clear hin2
      go_enter Try.func86, Try.ntmps86
      go_wp2_with fail
      with_reducible refine (inRange_yes _ _ _ Hin.out).mono ?_
      rintro e w' ⟨rfl, rfl⟩
      go_wp2_with fail
      with_reducible refine (inRange_no _ _ _ Hin2.out).mono ?_
      rintro e w' ⟨rfl, rfl⟩
      go_wp2_with fail
      go_ret2
      rw [Hm.out]
      exact ⟨rfl, Below.refl _ _⟩
  · have hin := hl
    have hm := mRound_no1 (k := k) hl
    have Hl := Lib.hid hl; clear hl
    have Hm := Lib.hid hm; clear hm
    have Hin := Lib.hid hin; clear hin
    go_enter Try.func86, Try.ntmps86
    go_wp2_with fail
    with_reducible refine (inRange_no _ _ _ Hin.out).mono ?_
    rintro e w' ⟨rfl, rfl⟩
    go_wp2_with fail
    go_ret2
    rw [Hm.out]
    exact ⟨rfl, Below.refl _ _⟩

set_option maxHeartbeats 800000 in
theorem impl_IsLeast (ao : Option Addr) (n cap : Nat) (xs : List Int) (w : World) (h : IntsAt w ao n cap xs) :
    Calls Try.prog 64 #[.slice ao n cap] w fun e w' => e = .returned (.tuple #[.bool (mIsLeast xs).1, .bool (mIsLeast xs).2]) ∧ Below w.heap.size w w' := by
  cases hg : goodB xs
  · have hm := mIsLeast_no hg
    have Hg := Lib.hid hg; clear hg
    have Hm := Lib.hid hm; clear hm
    go_enter Try.func64, Try.ntmps64
    go_wp2_with fail
    with_reducible refine (isPiles_no _ _ _ _ _ h Hg.out).mono ?_
    rintro e w' ⟨rfl, rfl⟩
    go_wp2
    go_ret2
    rw [Hm.out]
    exact ⟨rfl, Below.refl _ _⟩
  · have hm := mIsLeast_yes hg
    have hG := good_iff.1 hg
    have hcon := fun (w : World) (h : IntsAt w ao n cap xs) => potentialOf_any ao n cap xs w h hG
    have hs := sum_nonneg hG.1
    have hs2 := hG.2.2
    have hle := fun w => impl_LeastPotential xs.sum w
    have hsm : mLeastPotential xs.sum = (leastI xs.sum.toNat, true) := by unfold mLeastPotential; rw [if_pos (by omega)]
    rw [hsm] at hle
    rw [← leastB hG] at hm
    have hsum := sumOf_any ao n cap xs w h hG
    generalize leastI xs.sum.toNat = q at *
    generalize pot xs = p at *
    by_cases hpq : p = q
    · subst hpq
      rw [decide_eq_true rfl] at hm
      have Hg := Lib.hid hg; clear hg
      have Hm := Lib.hid hm; clear hm
      have HG := Lib.hid hG; clear hG
      have Hcon := Lib.hid hcon; clear hcon
      have Hle := Lib.hid hle; clear hle
      have Hsum := Lib.hid hsum; clear hsum
      clear hsm
      go_enter Try.func64, Try.ntmps64
      go_wp2_with fail
      with_reducible refine (isPiles_yes _ _ _ _ _ h HG.out).mono ?_
      rintro e w' ⟨rfl, rfl⟩
      go_wp2_with fail
      with_reducible refine (Hsum.out).mono ?_
      rintro e w' ⟨rfl, rfl⟩
      go_wp2_with fail
      with_reducible refine (Hle.out _).mono ?_
      rintro e w1 ⟨rfl, hb1⟩
      have h1 := h.keep hb1
      go_wp2_with fail
      with_reducible refine (Hcon.out _ h1).mono ?_
      rintro e w2 ⟨rfl, hb2⟩
      go_wp2_with fail
      go_ret2
      rw [Hm.out]
      exact ⟨rfl, belowTrans hb1 hb2 (Nat.le_refl _)⟩
    · rw [decide_eq_false hpq] at hm
      have hd : decide (p = q) = false := decide_eq_false hpq
      have hd2 : (p == q) = false := by simpa using hpq
      have Hg := Lib.hid hg; clear hg
      have Hm := Lib.hid hm; clear hm
      have HG := Lib.hid hG; clear hG
      have Hcon := Lib.hid hcon; clear hcon
      have Hle := Lib.hid hle; clear hle
      have Hsum := Lib.hid hsum; clear hsum
      have Hpq := Lib.hid hpq; clear hpq
      clear hsm
      go_enter Try.func64, Try.ntmps64
      go_wp2_with fail
      with_reducible refine (isPiles_yes _ _ _ _ _ h HG.out).mono ?_
      rintro e w' ⟨rfl, rfl⟩
      go_wp2_with fail
      with_reducible refine (Hsum.out).mono ?_
      rintro e w' ⟨rfl, rfl⟩
      go_wp2_with fail
      with_reducible refine (Hle.out _).mono ?_
      rintro e w1 ⟨rfl, hb1⟩
      have h1 := h.keep hb1
      go_wp2_with fail
      with_reducible refine (Hcon.out _ h1).mono ?_
      rintro e w2 ⟨rfl, hb2⟩
      go_wp2_with fail
      go_ret2
      rw [Hm.out]
      exact ⟨by first | rfl | rw [hd], belowTrans hb1 hb2 (Nat.le_refl _)⟩
end Go.Proofs.Ytilgpaanmadchaa
