/- Chapter 1: JoinPiles, by the model and by the program. No condition. -/
import Derived.Test.YtbkihnejgcebpaaGreatDoorSteps
namespace Go.Proofs.YtbkihnejgcebpaaGreatDoor
open Go.RowKit
set_option linter.unusedVariables false
set_option linter.unusedSimpArgs false

def JoinOk (xs ys : List Int) : Prop := goodB xs = true ∧ goodB ys = true ∧ xs.sum + ys.sum ≤ 28
instance (xs ys : List Int) : Decidable (JoinOk xs ys) := by unfold JoinOk; infer_instance
def mJoinPiles (xs ys : List Int) : List Int × Bool := if JoinOk xs ys then (sortD (xs ++ ys), true) else ([], false)
theorem mJoin_yes {xs ys : List Int} (h : JoinOk xs ys) : mJoinPiles xs ys = (sortD (xs ++ ys), true) := by unfold mJoinPiles; rw [if_pos h]
theorem mJoin_no {xs ys : List Int} (h : ¬ JoinOk xs ys) : mJoinPiles xs ys = ([], false) := by unfold mJoinPiles; rw [if_neg h]
theorem mJoinPiles_bound (xs ys : List Int) : (mJoinPiles xs ys).1.length ≤ 1048576 := by
  unfold mJoinPiles
  split
  · next h => have := (good_iff.1 h.1).len; have := (good_iff.1 h.2.1).len; show (sortD (xs ++ ys)).length ≤ _; rw [sortD_length, List.length_append]; omega
  · simp

theorem sortD_snoc (xs ys : List Int) (y : Int) : sortD (sortD (xs ++ ys) ++ [y]) = sortD (xs ++ (ys ++ [y])) := by
  rw [← List.append_assoc]
  exact sortD_perm_eq ((sortD_perm _).append_right _)

set_option maxHeartbeats 800000 in
theorem spec_JoinPiles (ao : Option Addr) (n cap : Nat) (xs : List Int) (bo : Option Addr) (m cap' : Nat) (ys : List Int) (w : World) (h : IntsAt w ao n cap xs) (k : IntsAt w bo m cap' ys) :
    Calls Tryz.prog 10 #[.slice ao n cap, .slice bo m cap'] w fun e w' => ∃ ao' n' cap', e = .returned (.tuple #[.slice ao' n' cap', .bool (mJoinPiles xs ys).2]) ∧ Own w.heap.size w'.heap.size w' ao' n' cap' (mJoinPiles xs ys).1 ∧ Below w.heap.size w w' := by
  cases hg : goodB xs
  · have hm := mJoin_no (xs := xs) (ys := ys) (fun hh => Bool.false_ne_true (hg.symm.trans hh.1))
    have Hg := Lib.hid hg; clear hg
    have Hm := Lib.hid hm; clear hm
    go_enter Tryz.func10, Tryz.ntmps10
    go_wp2_with fail
    with_reducible refine (piGood_no _ _ _ _ _ h Hg.out).mono ?_
    rintro e w' ⟨rfl, rfl⟩
    go_wp2
    go_ret2
    rw [Hm.out]
    exact ⟨none, 0, 0, rfl, Own.nil _ _ _, Below.refl _ _⟩
  cases hg2 : goodB ys
  · have hm := mJoin_no (xs := xs) (ys := ys) (fun hh => Bool.false_ne_true (hg2.symm.trans hh.2.1))
    have Hg := Lib.hid hg; clear hg
    have Hg2 := Lib.hid hg2; clear hg2
    have Hm := Lib.hid hm; clear hm
    go_enter Tryz.func10, Tryz.ntmps10
    go_wp2_with fail
    with_reducible refine (piGood_yes _ _ _ _ _ h (good_iff.1 Hg.out)).mono ?_
    rintro e w' ⟨rfl, rfl⟩
    go_wp2_with fail
    with_reducible refine (piGood_no _ _ _ _ _ k Hg2.out).mono ?_
    rintro e w' ⟨rfl, rfl⟩
    go_wp2
    go_ret2
    rw [Hm.out]
    exact ⟨none, 0, 0, rfl, Own.nil _ _ _, Below.refl _ _⟩
  have G1 := good_iff.1 hg
  have G2 := good_iff.1 hg2
  have s1 := G1.2.2
  have s2 := G2.2.2
  have t1 := sum_nonneg G1.1
  have t2 := sum_nonneg G2.1
  by_cases hs : xs.sum + ys.sum ≤ 28
  · have hm := mJoin_yes (xs := xs) (ys := ys) ⟨hg, hg2, hs⟩
    have hl1 := h.length
    have hl2 := k.length
    have q1 := G1.len
    have q2 := G2.len
    have hcp := l1Own_any ao n cap xs w h (by omega)
    have hm28 : (m : Int) ≤ 28 := by omega
    have Hg := Lib.hid hg; clear hg
    have Hg2 := Lib.hid hg2; clear hg2
    have Hm := Lib.hid hm; clear hm
    have Hcp := Lib.hid hcp; clear hcp
    have Hl1 := Lib.hid hl1; clear hl1
    have Hl2 := Lib.hid hl2; clear hl2
    clear G1 G2
    have g1 := Lib.hid (good_iff.1 Hg.out)
    have g2 := Lib.hid (good_iff.1 Hg2.out)
    go_enter Tryz.func10, Tryz.ntmps10
    go_wp2_with fail
    with_reducible refine (piGood_yes _ _ _ _ _ h g1.out).mono ?_
    rintro e w' ⟨rfl, rfl⟩
    go_wp2_with fail
    with_reducible refine (piGood_yes _ _ _ _ _ k g2.out).mono ?_
    rintro e w' ⟨rfl, rfl⟩
    go_wp2_with fail
    with_reducible refine (piSum_any _ _ _ _ _ h g1.out).mono ?_
    rintro e w' ⟨rfl, rfl⟩
    go_wp2_with fail
    with_reducible refine (piSum_any _ _ _ _ _ k g2.out).mono ?_
    rintro e w' ⟨rfl, rfl⟩
    go_wp2_with fail
    with_reducible refine (Hcp.out).mono ?_
    rintro e w1 ⟨a1, c1, rfl, ho1, hb1⟩
    go_wp2_with fail
    go_loopw [6, 29] (fun v i wr => ∃ (j : Nat) (a : Option Addr) (p c : Nat), j ≤ m ∧ i = .int .i64 j ∧ v = .slice a p c ∧ Own w.heap.size wr.heap.size wr a p c (sortD (xs ++ ys.take j)) ∧ Below w.heap.size w wr) (fun _ i _ => m - (intOf i).toNat)
    case atStart => exact ⟨0, a1, n, c1, Nat.zero_le _, rfl, rfl, by rw [List.take_zero, List.append_nil, sortD_of_sorted g1.out.2.1]; exact ho1, hb1⟩
    case round =>
      obtain ⟨j, a, p, c, hj, rfl, rfl, hown, hb⟩ := hrel
      clear ho1 hb1
      have hp := hown.length
      have hp2 : (sortD (xs ++ ys.take j)).length ≤ 56 := by rw [sortD_length, List.length_append, List.length_take]; omega
      by_cases hlt : j < m
      · have k1 := k.keep hb
        obtain ⟨b, oo, rfl, hbl, hc⟩ := k1.cell j hlt
        have hck := hc j hlt
        clear hc k1
        generalize hx : ys.getD j 0 = x at hck
        have e := sortD_snoc xs (ys.take j) x
        rw [← take_snoc hx hlt Hl2.out] at e
        have hcon := piPut_any a p c _ x wr hown.at (sortD_sorted _) (by omega)
        rw [e] at hcon
        have Hcon := Lib.hid hcon; clear hcon
        have E := Lib.hid e; clear e
        have Hx := Lib.hid hx; clear hx
        have Hp := Lib.hid hp; clear hp
        go_wp2_with fail
        with_reducible refine (Hcon.out).mono ?_
        rintro e w2 ⟨a2, m2, c2, rfl, ho2, hb2⟩
        go_wp2
        go_roundw
        case rel => exact ⟨j + 1, a2, m2, c2, by omega, by go_num, rfl, ho2.mono hb.size (Nat.le_refl _), belowTrans hb hb2 (Nat.le_refl _)⟩
        case measure => simp [intOf]; omega
      · obtain rfl : m = j := by omega
        rw [take_all Hl2.out] at hown
        go_wp2
        go_ret2
        rw [Hm.out]
        exact ⟨_, _, _, rfl, hown, hb⟩
  · have hm := mJoin_no (xs := xs) (ys := ys) (fun hh => hs hh.2.2)
    have Hg := Lib.hid hg; clear hg
    have Hg2 := Lib.hid hg2; clear hg2
    have Hm := Lib.hid hm; clear hm
    clear G1 G2
    have g1 := Lib.hid (good_iff.1 Hg.out)
    have g2 := Lib.hid (good_iff.1 Hg2.out)
    go_enter Tryz.func10, Tryz.ntmps10
    go_wp2_with fail
    with_reducible refine (piGood_yes _ _ _ _ _ h g1.out).mono ?_
    rintro e w' ⟨rfl, rfl⟩
    go_wp2_with fail
    with_reducible refine (piGood_yes _ _ _ _ _ k g2.out).mono ?_
    rintro e w' ⟨rfl, rfl⟩
    go_wp2_with fail
    with_reducible refine (piSum_any _ _ _ _ _ h g1.out).mono ?_
    rintro e w' ⟨rfl, rfl⟩
    go_wp2_with fail
    with_reducible refine (piSum_any _ _ _ _ _ k g2.out).mono ?_
    rintro e w' ⟨rfl, rfl⟩
    go_wp2
    go_ret2
    rw [Hm.out]
    exact ⟨none, 0, 0, rfl, Own.nil _ _ _, Below.refl _ _⟩

set_option maxHeartbeats 800000 in
theorem impl_JoinPiles (ao : Option Addr) (n cap : Nat) (xs : List Int) (bo : Option Addr) (m cap' : Nat) (ys : List Int) (w : World) (h : IntsAt w ao n cap xs) (k : IntsAt w bo m cap' ys) :
    Calls Tryz.prog 9 #[.slice ao n cap, .slice bo m cap'] w fun e w' => ∃ ao' n' cap', e = .returned (.tuple #[.slice ao' n' cap', .bool (mJoinPiles xs ys).2]) ∧ Own w.heap.size w'.heap.size w' ao' n' cap' (mJoinPiles xs ys).1 ∧ Below w.heap.size w w' := by
  cases hg : goodB xs
  · have hm := mJoin_no (xs := xs) (ys := ys) (fun hh => Bool.false_ne_true (hg.symm.trans hh.1))
    have Hg := Lib.hid hg; clear hg
    have Hm := Lib.hid hm; clear hm
    go_enter Tryz.func9, Tryz.ntmps9
    go_wp2_with fail
    with_reducible refine (isPiles_no _ _ _ _ _ h Hg.out).mono ?_
    rintro e w' ⟨rfl, rfl⟩
    go_wp2
    go_ret2
    rw [Hm.out]
    exact ⟨none, 0, 0, rfl, Own.nil _ _ _, Below.refl _ _⟩
  cases hg2 : goodB ys
  · have hm := mJoin_no (xs := xs) (ys := ys) (fun hh => Bool.false_ne_true (hg2.symm.trans hh.2.1))
    have Hg := Lib.hid hg; clear hg
    have Hg2 := Lib.hid hg2; clear hg2
    have Hm := Lib.hid hm; clear hm
    go_enter Tryz.func9, Tryz.ntmps9
    go_wp2_with fail
    with_reducible refine (isPiles_yes _ _ _ _ _ h (good_iff.1 Hg.out)).mono ?_
    rintro e w' ⟨rfl, rfl⟩
    go_wp2_with fail
    with_reducible refine (isPiles_no _ _ _ _ _ k Hg2.out).mono ?_
    rintro e w' ⟨rfl, rfl⟩
    go_wp2
    go_ret2
    rw [Hm.out]
    exact ⟨none, 0, 0, rfl, Own.nil _ _ _, Below.refl _ _⟩
  have G1 := good_iff.1 hg
  have G2 := good_iff.1 hg2
  have s1 := G1.2.2
  have s2 := G2.2.2
  have t1 := sum_nonneg G1.1
  have t2 := sum_nonneg G2.1
  by_cases hs : xs.sum + ys.sum ≤ 28
  · have hm := mJoin_yes (xs := xs) (ys := ys) ⟨hg, hg2, hs⟩
    have q1 := G1.len
    have q2 := G2.len
    have hb1 := belowAlloc w (.cells #[.slice ao n cap, .slice bo m cap'] 24)
    have hcp := inOrder_any _ _ _ _ _ (rowsAt_pair h k) (by simp; omega) (by
      intro x hx
      simp only [List.flatten_cons, List.flatten_nil, List.append_nil, List.mem_append] at hx
      rcases hx with hx | hx
      · have := G1.mem hx; omega
      · have := G2.mem hx; omega)
    simp only [List.flatten_cons, List.flatten_nil, List.append_nil] at hcp
    have Hg := Lib.hid hg; clear hg
    have Hg2 := Lib.hid hg2; clear hg2
    have Hm := Lib.hid hm; clear hm
    have Hcp := Lib.hid hcp; clear hcp
    clear G1 G2
    have g1 := Lib.hid (good_iff.1 Hg.out)
    have g2 := Lib.hid (good_iff.1 Hg2.out)
    go_enter Tryz.func9, Tryz.ntmps9
    go_wp2_with fail
    with_reducible refine (isPiles_yes _ _ _ _ _ h g1.out).mono ?_
    rintro e w' ⟨rfl, rfl⟩
    go_wp2_with fail
    with_reducible refine (isPiles_yes _ _ _ _ _ k g2.out).mono ?_
    rintro e w' ⟨rfl, rfl⟩
    go_wp2_with fail
    with_reducible refine (sumOf_any _ _ _ _ _ h g1.out).mono ?_
    rintro e w' ⟨rfl, rfl⟩
    go_wp2_with fail
    with_reducible refine (sumOf_any _ _ _ _ _ k g2.out).mono ?_
    rintro e w' ⟨rfl, rfl⟩
    go_wp2_with fail
    with_reducible refine (Hcp.out).mono ?_
    rintro e w1 ⟨a1, n1, c1, rfl, ho1, hb2⟩
    go_wp2
    go_ret2
    rw [Hm.out]
    exact ⟨_, _, _, rfl, ho1.mono hb1.size (Nat.le_refl _), belowTrans hb1 hb2 (Nat.le_refl _)⟩
  · have hm := mJoin_no (xs := xs) (ys := ys) (fun hh => hs hh.2.2)
    have Hg := Lib.hid hg; clear hg
    have Hg2 := Lib.hid hg2; clear hg2
    have Hm := Lib.hid hm; clear hm
    clear G1 G2
    have g1 := Lib.hid (good_iff.1 Hg.out)
    have g2 := Lib.hid (good_iff.1 Hg2.out)
    go_enter Tryz.func9, Tryz.ntmps9
    go_wp2_with fail
    with_reducible refine (isPiles_yes _ _ _ _ _ h g1.out).mono ?_
    rintro e w' ⟨rfl, rfl⟩
    go_wp2_with fail
    with_reducible refine (isPiles_yes _ _ _ _ _ k g2.out).mono ?_
    rintro e w' ⟨rfl, rfl⟩
    go_wp2_with fail
    with_reducible refine (sumOf_any _ _ _ _ _ h g1.out).mono ?_
    rintro e w' ⟨rfl, rfl⟩
    go_wp2_with fail
    with_reducible refine (sumOf_any _ _ _ _ _ k g2.out).mono ?_
    rintro e w' ⟨rfl, rfl⟩
    go_wp2
    go_ret2
    rw [Hm.out]
    exact ⟨none, 0, 0, rfl, Own.nil _ _ _, Below.refl _ _⟩
end Go.Proofs.YtbkihnejgcebpaaGreatDoor
