/- Chapter 3: the functions of the model. No condition. -/
import Derived.Test.YtmfdimdcoeapoaaLevS
import Derived.Test.YtmfdimdcoeapoaaGv
import Derived.Test.YtmfdimdcoeapoaaSteps
import Derived.Test.YtmfdimdcoeapoaaOrbB
namespace Go.Proofs.Ytmfdimdcoeapoaa
open Go.RowKit
set_option linter.unusedVariables false
set_option linter.unusedSimpArgs false
set_option maxRecDepth 20000

set_option maxHeartbeats 800000 in
theorem spec_LevelsOf (ao : Option Addr) (n cap : Nat) (xs : List Int) (w : World) (h : IntsAt w ao n cap xs) :
    Calls Try.prog 30 #[.slice ao n cap] w fun e w' => ∃ ao' n' cap', e = .returned (.tuple #[.slice ao' n' cap', .bool (mLevelsOf xs).2]) ∧ Own w.heap.size w'.heap.size w' ao' n' cap' (mLevelsOf xs).1 ∧ Below w.heap.size w w' := by
  cases hg : goodB xs
  · have hm := mLevels_no hg
    have Hg := Lib.hid hg; clear hg
    have Hm := Lib.hid hm; clear hm
    go_enter Try.func30, Try.ntmps30
    go_wp2_with fail
    with_reducible refine (piGood_no _ _ _ _ _ h Hg.out).mono ?_
    rintro e w' ⟨rfl, rfl⟩
    go_wp2
    go_ret2
    rw [Hm.out]
    exact ⟨none, 0, 0, rfl, Own.nil _ _ _, Below.refl _ _⟩
  · have hm := mLevels_yes hg
    have hG := good_iff.1 hg
    have hcon := leLevels_any ao n cap xs w h hG
    have Hg := Lib.hid hg; clear hg
    have Hm := Lib.hid hm; clear hm
    have HG := Lib.hid hG; clear hG
    have Hcon := Lib.hid hcon; clear hcon
    go_enter Try.func30, Try.ntmps30
    go_wp2_with fail
    with_reducible refine (piGood_yes _ _ _ _ _ h HG.out).mono ?_
    rintro e w' ⟨rfl, rfl⟩
    go_wp2_with fail
    with_reducible refine (Hcon.out).mono ?_
    rintro e w1 ⟨a1, m1, c1, rfl, ho, hb⟩
    go_wp2_with fail
    go_ret2
    rw [Hm.out]
    exact ⟨_, _, _, rfl, ho, hb⟩

set_option maxHeartbeats 800000 in
theorem spec_DropOf (ao : Option Addr) (n cap : Nat) (xs : List Int) (w : World) (h : IntsAt w ao n cap xs) :
    Calls Try.prog 15 #[.slice ao n cap] w fun e w' => e = .returned (.tuple #[.int .i64 (mDropOf xs).1, .bool (mDropOf xs).2]) ∧ Below w.heap.size w w' := by
  cases hg : goodB xs
  · have hm := mDrop_no hg
    have Hg := Lib.hid hg; clear hg
    have Hm := Lib.hid hm; clear hm
    go_enter Try.func15, Try.ntmps15
    go_wp2_with fail
    with_reducible refine (piGood_no _ _ _ _ _ h Hg.out).mono ?_
    rintro e w' ⟨rfl, rfl⟩
    go_wp2
    go_ret2
    rw [Hm.out]
    exact ⟨rfl, Below.refl _ _⟩
  · have hm := mDrop_yes hg
    have hG := good_iff.1 hg
    have hG2 := stepL_good hG
    have h1 := pot_range hG
    have h2 := pot_range hG2
    have hcon := lePotential_any ao n cap xs w h hG
    have hst := fun w h => piStep_any ao n cap xs w h hG
    have hcon2 := fun (a : Option Addr) (m c : Nat) w h => lePotential_any a m c (stepL xs) w h hG2
    rw [← pot_drop hG] at hm
    generalize pot xs = p at *
    generalize pot (stepL xs) = q at *
    have Hg := Lib.hid hg; clear hg
    have Hm := Lib.hid hm; clear hm
    have HG := Lib.hid hG; clear hG
    have Hcon := Lib.hid hcon; clear hcon
    have Hst := Lib.hid hst; clear hst
    have Hcon2 := Lib.hid hcon2; clear hcon2
    have HG2 := Lib.hid hG2; clear hG2
    go_enter Try.func15, Try.ntmps15
    go_wp2_with fail
    with_reducible refine (piGood_yes _ _ _ _ _ h HG.out).mono ?_
    rintro e w' ⟨rfl, rfl⟩
    go_wp2_with fail
    with_reducible refine (Hcon.out).mono ?_
    rintro e w1 ⟨rfl, hb1⟩
    have h3 := h.keep hb1
    go_wp2_with fail
    with_reducible refine (Hst.out _ h3).mono ?_
    rintro e w2 ⟨a2, m2, c2, rfl, ho2, hb2⟩
    have hat2 := ho2.at
    have hb12 := belowTrans hb1 hb2 (Nat.le_refl _)
    clear ho2 hb1 hb2
    go_wp2_with fail
    with_reducible refine (Hcon2.out _ _ _ _ hat2).mono ?_
    rintro e w3 ⟨rfl, hb3⟩
    go_wp2_with fail
    go_ret2
    rw [Hm.out]
    exact ⟨rfl, belowTrans hb12 hb3 (Nat.le_refl _)⟩

set_option maxHeartbeats 1600000 in
set_option maxRecDepth 100000 in
theorem spec_PotentialsOf (ao : Option Addr) (n cap : Nat) (xs : List Int) (k : Int) (w : World) (h : IntsAt w ao n cap xs) :
    Calls Try.prog 11 #[.slice ao n cap, .int .i64 k] w fun e w' => ∃ ao' n' cap', e = .returned (.tuple #[.slice ao' n' cap', .bool (mPotentialsOf xs k).2]) ∧ Own w.heap.size w'.heap.size w' ao' n' cap' (mPotentialsOf xs k).1 ∧ Below w.heap.size w w' := by
  cases hg : goodB xs
  · have hm := mPots_no1 (k := k) hg
    have Hg := Lib.hid hg; clear hg
    have Hm := Lib.hid hm; clear hm
    go_enter Try.func11, Try.ntmps11
    go_wp2_with fail
    with_reducible refine (piGood_no _ _ _ _ _ h Hg.out).mono ?_
    rintro e w' ⟨rfl, rfl⟩
    go_wp2
    go_ret2
    rw [Hm.out]
    exact ⟨none, 0, 0, rfl, Own.nil _ _ _, Below.refl _ _⟩
  · by_cases hk : 0 ≤ k ∧ k ≤ 1000
    · obtain ⟨q, rfl⟩ := Int.eq_ofNat_of_zero_le hk.1
      have hq : q ≤ 1000 := by omega
      have hm := mPots_yes hg hq
      have hG := good_iff.1 hg
      have hlen := hG.len
      have hl := h.length
      have hcp := l1Own_any ao n cap xs w h (by omega)
      have hpr := pot_range hG
      have hp0 : potsL xs 0 = [pot xs] := rfl
      have hcon := fun (a : Option Addr) (m c : Nat) w h => lePotential_any a m c xs w h hG
      have Hg := Lib.hid hg; clear hg
      have Hm := Lib.hid hm; clear hm
      have Hk := Lib.hid hk; clear hk
      have HG := Lib.hid hG; clear hG
      have Hcp := Lib.hid hcp; clear hcp
      have Hl := Lib.hid hl; clear hl
      have Hcon := Lib.hid hcon; clear hcon
      have Hp0 := Lib.hid hp0; clear hp0
      go_enter Try.func11, Try.ntmps11
      go_wp2_with fail
      with_reducible refine (piGood_yes _ _ _ _ _ h HG.out).mono ?_
      rintro e w' ⟨rfl, rfl⟩
      go_wp2_with fail
      with_reducible refine (l1In_yes _ _ _ _ Hk.out).mono ?_
      rintro e w' ⟨rfl, rfl⟩
      clear h
      go_wp2_with fail
      with_reducible refine (Hcp.out).mono ?_
      rintro e w1 ⟨a1, c1, rfl, ho1, hb1⟩
      have hat1 := ho1.at
      go_wp2_with fail
      with_reducible refine (Hcon.out _ _ _ _ hat1).mono ?_
      rintro e w2 ⟨rfl, hb2⟩
      have hb12 := belowTrans hb1 hb2 (Nat.le_refl _)
      have ho2 := ho1.keep hb2
      have hone : Own w2.heap.size (w2.alloc (.cells #[.int .i64 (pot xs)] 3)).heap.size (w2.alloc (.cells #[.int .i64 (pot xs)] 3)) (some ⟨w2.heap.size, 0, none⟩) 1 1 [pot xs] :=
        Own.of (World.ownsRow_lit w2 #[.int .i64 (pot xs)] 1 (Nat.le_refl _) (by unfold maxLen; omega) rfl)
      have hb3 := hb12.alloc hb12.size (.cells #[.int .i64 (pot xs)] 3)
      have ho2' : Own w.heap.size w1.heap.size (w2.alloc (.cells #[.int .i64 (pot xs)] 3)) a1 n c1 xs := ho2.keep ((Below.refl _ _).alloc (Nat.le_refl _) _)
      have hs2 := hb2.size
      have hb1w : w.heap.size ≤ w2.heap.size := hb12.size
      have Hb1w := Lib.hid hb1w; clear hb1w
      clear ho1 hb1 hb2 hb12 hat1 ho2
      go_wp2_with fail
      go_loopw [1, 6, 7] (fun i v o wr => ∃ (j : Nat) (a : Option Addr) (m c : Nat) (a' : Option Addr) (c' : Nat), j ≤ q ∧ i = .int .i64 (q - j : Nat) ∧ v = .slice a m c ∧ o = .slice a' (j + 1) c' ∧ IntsAt wr a m c (stepsL j xs) ∧ Own w2.heap.size wr.heap.size wr a' (j + 1) c' (potsL xs j) ∧ w2.heap.size ≤ wr.heap.size ∧ Below w.heap.size w wr) (fun i _ _ _ => (intOf i).toNat)
      case atStart => exact ⟨0, _, _, _, _, 1, Nat.zero_le _, rfl, rfl, rfl, ho2'.at, by rw [Hp0.out]; exact hone, by simp, hb3⟩
      case round =>
        obtain ⟨j, a, m, c, a', c', hj, rfl, rfl, rfl, hi, hout, hsz, hb⟩ := hrel
        clear hone hb3 ho2'
        have hs1w := Hb1w.out
        by_cases hlt : j < q
        · have hkj : 0 < q - j := by omega
          have hGj := stepsL_good HG.out j
          have hst := fun w h => piStep_any a m c (stepsL j xs) w h hGj
          have hcon2 := fun (a : Option Addr) (m c : Nat) w h => lePotential_any a m c (stepsL (j + 1) xs) w h (stepsL_good HG.out (j + 1))
          have hpr2 := pot_range (stepsL_good HG.out (j + 1))
          have hsucc := potsL_succ xs j
          have es : stepL (stepsL j xs) = stepsL (j + 1) xs := rfl
          rw [es] at hsucc
          rw [es] at hst
          have ej : (((j + 1 : Nat)) : Int) - 1 = (j : Int) := by omega
          generalize pot (stepsL (j + 1) xs) = p at *
          have Hst := Lib.hid hst; clear hst
          have Hcon2 := Lib.hid hcon2; clear hcon2
          have Hsucc := Lib.hid hsucc; clear hsucc
          have HGj := Lib.hid hGj; clear hGj
          clear es
          go_wp2_with fail
          with_reducible refine (Hst.out _ hi).mono ?_
          rintro e w3 ⟨a3, m3, c3, rfl, ho3, hb3⟩
          have hat3 := ho3.at
          have hout3 := hout.keep hb3
          have hbw3 := belowTrans hb hb3 (Nat.le_refl _)
          have hs3 := hb3.size
          clear hi
          go_wp2_with fail
          with_reducible refine (Hcon2.out _ _ _ _ hat3).mono ?_
          rintro e w4 ⟨rfl, hb4⟩
          have ho4 := ho3.keep hb4
          have hout4 := hout3.keep hb4
          have hbw4 := belowTrans hbw3 hb4 (Nat.le_refl _)
          have hs4 := hb4.size
          clear ho3 hout3 hat3 hbw3
          go_wp2_with (at_builtin; refine wpList_push w4 rfl _ _ rfl w2.heap.size wr.heap.size _ (j + 1) c' _ rfl hout4 p rfl (by omega) (by omega) ?_)
          intro a5 c5 w5 ho5 hc5
          have hb5 := hbw4.trans ((hout4.mono hs1w (Nat.le_refl _)).chgBelow hc5 hbw4.size)
          have ho45 := ho4.chg hc5 (fun g h1 _ _ h3 => by have := hout4.2 g h3; omega)
          have hs5 := hc5.size
          clear hout4 hc5 ho4
          go_wp2_with fail
          go_roundw
          case rel => exact ⟨j + 1, a3, m3, c3, a5, c5, by omega, valI (by omega), rfl, rfl, ho45.at, by rw [← Hsucc.out]; exact ho5, by omega, hb5⟩
          case measure => simp [intOf] <;> omega
        · obtain rfl : q = j := by omega
          go_wp2_with fail
          go_ret2
          rw [Hm.out]
          exact ⟨_, _, _, rfl, hout.mono Hb1w.out (Nat.le_refl _), hb⟩
    · have hm := mPots_no2 (xs := xs) hk
      have Hg := Lib.hid hg; clear hg
      have Hm := Lib.hid hm; clear hm
      have Hk := Lib.hid hk; clear hk
      go_enter Try.func11, Try.ntmps11
      go_wp2_with fail
      with_reducible refine (piGood_yes _ _ _ _ _ h (good_iff.1 Hg.out)).mono ?_
      rintro e w' ⟨rfl, rfl⟩
      go_wp2_with fail
      with_reducible refine (l1In_no _ _ _ _ Hk.out).mono ?_
      rintro e w' ⟨rfl, rfl⟩
      go_wp2
      go_ret2
      rw [Hm.out]
      exact ⟨none, 0, 0, rfl, Own.nil _ _ _, Below.refl _ _⟩

/-! ### The least potential, the greatest one -/
set_option maxHeartbeats 1600000 in
theorem leLeast_any (n : Nat) (w : World) (hn : n ≤ 28) :
    Calls Try.prog 61 #[.int .i64 n] w fun e w' => e = .returned (.int .i64 (leastI n)) ∧ w = w' := by
  have hsm := ls_small n (by omega)
  have hfin := ls_fin n (by omega)
  have Hsm := Lib.hid hsm; clear hsm
  have Hfin := Lib.hid hfin; clear hfin
  go_enter Try.func61, Try.ntmps61
  go_wp2_with fail
  go_loop [0, 3, 4] (fun a s l => ∃ (k : Nat) (t : Int), k ≤ 7 ∧ a = .int .i64 ((n : Int) - tri k) ∧ s = .int .i64 t ∧ l = .int .i64 k ∧ lsN n k = t ∧ (k = 0 ∨ tri (k - 1) < n)) (fun _ _ l => 8 - (intOf l).toNat)
  case atStart => exact ⟨0, 0, by omega, valI (by simp [tri]), rfl, rfl, rfl, .inl rfl⟩
  case round =>
    obtain ⟨k, t, hk, rfl, rfl, rfl, ht, hor⟩ := hrel
    have h1 := Hsm.out k (by omega)
    have h2 := tri_small k (by omega)
    rw [ht] at h1
    by_cases hlt : tri k < n
    · have hk7 : k < 7 := by
        rcases Nat.lt_or_ge k 7 with hl | hg
        · exact hl
        · have e : k = 7 := by omega
          have : tri 7 = 28 := by decide
          rw [e] at hlt; omega
      have hle := fun w => l1Least_any ((n : Int) - tri k) ((k : Int) + 1) w
      have et : tri (k + 1) = tri k + (k + 1) := by
        have : ∀ k, k < 8 → tri (k + 1) = tri k + (k + 1) := by decide
        exact this k (by omega)
      have e : lsN n (k + 1) = t + (k : Int) * min ((n : Int) - tri k) (k + 1) := by rw [lsN, ht]
      have hor2 : k + 1 = 0 ∨ tri (k + 1 - 1) < n := .inr (by simpa using hlt)
      generalize hmn : min ((n : Int) - tri k) (k + 1) = y at *
      generalize hp : (k : Int) * y = p at *
      have hy : 0 ≤ y ∧ y ≤ 28 := by omega
      generalize tri k = tk at *
      have Hle := Lib.hid hle; clear hle
      have E := Lib.hid e; clear e
      have Ht := Lib.hid ht; clear ht
      have Hor2 := Lib.hid hor2; clear hor2
      have Et := Lib.hid et; clear et
      have Hmn := Lib.hid hmn; clear hmn
      clear hor
      go_wp2_with fail
      with_reducible refine (Hle.out _).mono ?_
      rintro e w2 ⟨rfl, rfl⟩
      go_wp2_with fail
      go_round
      case rel => exact ⟨k + 1, t + p, by omega, valI (by rw [Et.out]; go_num), valI (by go_num), valI (by go_num), E.out, Hor2.out⟩
      case measure => simp [intOf]; omega
    · have he := Hfin.out k (by omega) (by omega) hor
      rw [ht] at he
      generalize tri k = tk at *
      have He := Lib.hid he; clear he
      have Ht := Lib.hid ht; clear ht
      clear hor
      go_wp2_with fail
      go_ret
      exact ⟨by first | (rw [← He.out]; rfl) | (rw [He.out]; rfl), rfl⟩

set_option maxHeartbeats 800000 in
theorem spec_LeastPotential (n : Int) (w : World) :
    Calls Try.prog 25 #[.int .i64 n] w fun e w' => e = .returned (.tuple #[.int .i64 (mLeastPotential n).1, .bool (mLeastPotential n).2]) ∧ Below w.heap.size w w' := by
  by_cases hn : 0 ≤ n ∧ n ≤ 28
  · have hin := hn
    obtain ⟨m, rfl⟩ := Int.eq_ofNat_of_zero_le hn.1
    have hm28 : m ≤ 28 := by omega
    have hm := mLeast_yes hm28
    have hle := leLeast_any m w hm28
    have Hn := Lib.hid hn; clear hn
    have Hm := Lib.hid hm; clear hm
    have Hin := Lib.hid hin; clear hin
    have Hle := Lib.hid hle; clear hle
    go_enter Try.func25, Try.ntmps25
    go_wp2_with fail
    with_reducible refine (piCards_yes _ _ Hin.out).mono ?_
    rintro e w' ⟨rfl, rfl⟩
    go_wp2_with fail
    with_reducible refine (Hle.out).mono ?_
    rintro e w' ⟨rfl, rfl⟩
    go_wp2_with fail
    go_ret2
    rw [Hm.out]
    exact ⟨rfl, Below.refl _ _⟩
  · have hin := hn
    have hm := mLeast_no hn
    have Hn := Lib.hid hn; clear hn
    have Hm := Lib.hid hm; clear hm
    have Hin := Lib.hid hin; clear hin
    go_enter Try.func25, Try.ntmps25
    go_wp2_with fail
    with_reducible refine (piCards_no _ _ Hin.out).mono ?_
    rintro e w' ⟨rfl, rfl⟩
    go_wp2_with fail
    go_ret2
    rw [Hm.out]
    exact ⟨rfl, Below.refl _ _⟩

set_option maxHeartbeats 800000 in
theorem spec_GreatestPotential (n : Int) (w : World) :
    Calls Try.prog 24 #[.int .i64 n] w fun e w' => e = .returned (.tuple #[.int .i64 (mGreatestPotential n).1, .bool (mGreatestPotential n).2]) ∧ Below w.heap.size w w' := by
  by_cases hn : 0 ≤ n ∧ n ≤ 28
  · have hin := hn
    have hm := mGreat_yes hn
    obtain ⟨m, rfl⟩ := Int.eq_ofNat_of_zero_le hn.1
    have hgs := great_small m (by omega)
    have hm28 : m ≤ 28 := by omega
    generalize hp : (m : Int) * ((m : Int) - 1) = p at *
    generalize hq : Int.tdiv p 2 = q at *
    have Hn := Lib.hid hn; clear hn
    have Hm := Lib.hid hm; clear hm
    have Hin := Lib.hid hin; clear hin
    go_enter Try.func24, Try.ntmps24
    go_wp2_with fail
    with_reducible refine (piCards_yes _ _ Hin.out).mono ?_
    rintro e w' ⟨rfl, rfl⟩
    go_wp2_with fail
    go_ret2
    rw [Hm.out]
    exact ⟨rfl, Below.refl _ _⟩
  · have hin := hn
    have hm := mGreat_no hn
    have Hn := Lib.hid hn; clear hn
    have Hm := Lib.hid hm; clear hm
    have Hin := Lib.hid hin; clear hin
    go_enter Try.func24, Try.ntmps24
    go_wp2_with fail
    with_reducible refine (piCards_no _ _ Hin.out).mono ?_
    rintro e w' ⟨rfl, rfl⟩
    go_wp2_with fail
    go_ret2
    rw [Hm.out]
    exact ⟨rfl, Below.refl _ _⟩

set_option maxHeartbeats 800000 in
theorem spec_RoundOf (l k : Int) (w : World) :
    Calls Try.prog 44 #[.int .i64 l, .int .i64 k] w fun e w' => e = .returned (.tuple #[.int .i64 (mRoundOf l k).1, .bool (mRoundOf l k).2]) ∧ Below w.heap.size w w' := by
  by_cases hl : 0 ≤ l ∧ l ≤ 28
  · have hin := hl
    by_cases hk : 0 ≤ k ∧ k ≤ 1000
    · have hin2 := hk
      have hm := mRound_yes hl hk
      obtain ⟨m, rfl⟩ := Int.eq_ofNat_of_zero_le hl.1
      have hr1 := Int.tmod_nonneg ((m : Int) + 1) hk.1
      have hr2 := Int.tmod_lt_of_pos k (show 0 < (m : Int) + 1 by omega)
      have hm1 : ¬ ((m : Int) + 1 = 0) := by omega
      generalize hq : Int.tmod k ((m : Int) + 1) = q at *
      have hm28 : m ≤ 28 := by omega
      have Hl := Lib.hid hl; clear hl
      have Hk := Lib.hid hk; clear hk
      have Hm := Lib.hid hm; clear hm
      have Hin := Lib.hid hin; clear hin
      have Hin2 := Lib.hid hin2; clear hin2
      go_enter Try.func44, Try.ntmps44
      go_wp2_with fail
      with_reducible refine (l1In_yes _ _ _ _ Hin.out).mono ?_
      rintro e w' ⟨rfl, rfl⟩
      go_wp2_with fail
      with_reducible refine (l1In_yes _ _ _ _ Hin2.out).mono ?_
      rintro e w' ⟨rfl, rfl⟩
      go_wp2_with fail
      go_ret2
      rw [Hm.out]
      exact ⟨rfl, Below.refl _ _⟩
    · have hin2 := hk
      have hm := mRound_no2 (l := l) hk
      have Hl := Lib.hid hl; clear hl
      have Hk := Lib.hid hk; clear hk
      have Hm := Lib.hid hm; clear hm
      have Hin := Lib.hid hin; clear hin
      have Hin2 := Lib.hid hin2; clear hin2
      go_enter Try.func44, Try.ntmps44
      go_wp2_with fail
      with_reducible refine (l1In_yes _ _ _ _ Hin.out).mono ?_
      rintro e w' ⟨rfl, rfl⟩
      go_wp2_with fail
      with_reducible refine (l1In_no _ _ _ _ Hin2.out).mono ?_
      rintro e w' ⟨rfl, rfl⟩
      go_wp2_with fail
      go_ret2
      rw [Hm.out]
      exact ⟨rfl, Below.refl _ _⟩
  · have hin := hl
    have hm := mRound_no1 (k := k) hl
    have Hl := Lib.hid hl; clear hl
    have Hm := Lib.hid hm; clear hm
    have Hin := Lib.hid hin; clear hin
    go_enter Try.func44, Try.ntmps44
    go_wp2_with fail
    with_reducible refine (l1In_no _ _ _ _ Hin.out).mono ?_
    rintro e w' ⟨rfl, rfl⟩
    go_wp2_with fail
    go_ret2
    rw [Hm.out]
    exact ⟨rfl, Below.refl _ _⟩

set_option maxHeartbeats 800000 in
theorem spec_IsLeast (ao : Option Addr) (n cap : Nat) (xs : List Int) (w : World) (h : IntsAt w ao n cap xs) :
    Calls Try.prog 21 #[.slice ao n cap] w fun e w' => e = .returned (.tuple #[.bool (mIsLeast xs).1, .bool (mIsLeast xs).2]) ∧ Below w.heap.size w w' := by
  cases hg : goodB xs
  · have hm := mIsLeast_no hg
    have Hg := Lib.hid hg; clear hg
    have Hm := Lib.hid hm; clear hm
    go_enter Try.func21, Try.ntmps21
    go_wp2_with fail
    with_reducible refine (piGood_no _ _ _ _ _ h Hg.out).mono ?_
    rintro e w' ⟨rfl, rfl⟩
    go_wp2
    go_ret2
    rw [Hm.out]
    exact ⟨rfl, Below.refl _ _⟩
  · have hm := mIsLeast_yes hg
    have hG := good_iff.1 hg
    have hcon := lePotential_any ao n cap xs w h hG
    have hs := sum_nonneg hG.1
    have hs2 := hG.2.2
    have hs0 : 0 ≤ xs.sum := by omega
    have hle := fun w => leLeast_any xs.sum.toNat w (by omega)
    rw [show ((xs.sum.toNat : Nat) : Int) = xs.sum by omega] at hle
    rw [← leastB hG] at hm
    have hsum := fun w h => piSum_any ao n cap xs w h hG
    generalize leastI xs.sum.toNat = q at *
    generalize pot xs = p at *
    by_cases hpq : p = q
    · subst hpq
      rw [decide_eq_true rfl] at hm
      have Hg := Lib.hid hg; clear hg
      have Hm := Lib.hid hm; clear hm
      have HG := Lib.hid hG; clear hG
      have Hcon := Lib.hid hcon; clear hcon
      have Hle := Lib.hid hle; clear hle
      have Hsum := Lib.hid hsum; clear hsum
      go_enter Try.func21, Try.ntmps21
      go_wp2_with fail
      with_reducible refine (piGood_yes _ _ _ _ _ h HG.out).mono ?_
      rintro e w' ⟨rfl, rfl⟩
      go_wp2_with fail
      with_reducible refine (Hcon.out).mono ?_
      rintro e w1 ⟨rfl, hb1⟩
      have h1 := h.keep hb1
      go_wp2_with fail
      with_reducible refine (Hsum.out _ h1).mono ?_
      rintro e w' ⟨rfl, rfl⟩
      go_wp2_with fail
      with_reducible refine (Hle.out _).mono ?_
      rintro e w2 ⟨rfl, rfl⟩
      go_wp2_with fail
      go_ret2
      rw [Hm.out]
      exact ⟨by first | rfl | simp, hb1⟩
    · rw [decide_eq_false hpq] at hm
      have hd : decide (p = q) = false := decide_eq_false hpq
      have hd2 : (p == q) = false := by simpa using hpq
      have Hg := Lib.hid hg; clear hg
      have Hm := Lib.hid hm; clear hm
      have HG := Lib.hid hG; clear hG
      have Hcon := Lib.hid hcon; clear hcon
      have Hle := Lib.hid hle; clear hle
      have Hsum := Lib.hid hsum; clear hsum
      have Hpq := Lib.hid hpq; clear hpq
      go_enter Try.func21, Try.ntmps21
      go_wp2_with fail
      with_reducible refine (piGood_yes _ _ _ _ _ h HG.out).mono ?_
      rintro e w' ⟨rfl, rfl⟩
      go_wp2_with fail
      with_reducible refine (Hcon.out).mono ?_
      rintro e w1 ⟨rfl, hb1⟩
      have h1 := h.keep hb1
      go_wp2_with fail
      with_reducible refine (Hsum.out _ h1).mono ?_
      rintro e w' ⟨rfl, rfl⟩
      go_wp2_with fail
      with_reducible refine (Hle.out _).mono ?_
      rintro e w2 ⟨rfl, rfl⟩
      go_wp2_with fail
      go_ret2
      rw [Hm.out]
      exact ⟨by first | rfl | rw [hd], hb1⟩
end Go.Proofs.Ytmfdimdcoeapoaa
