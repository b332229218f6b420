/- Chapter 5: RowWith by the model and by the program. No condition. -/
import Derived.Test.YtjaodhjiibdbdaaGreatDoorRankR
namespace Go.Proofs.YtjaodhjiibdbdaaGreatDoor
open Go.RowKit
set_option linter.unusedVariables false
set_option linter.unusedSimpArgs false
set_option maxRecDepth 20000

theorem sumR_cnt {n : Nat} (h : n ≠ 0) : sumR n = cntR n := by unfold sumR cntR; rw [if_neg h, if_neg h]
theorem sumR_mono {a b : Nat} (h : a ≤ b) : sumR a ≤ sumR b := by
  obtain ⟨d, rfl⟩ : ∃ d, b = a + d := ⟨b - a, by omega⟩
  clear h
  induction d with
  | zero => exact Nat.le_refl _
  | succ d ih => rw [← Nat.add_assoc, sumR_succ]; omega
/-! ### By the program -/
theorem bitTest {E : Nat} (c : Nat) (hE : E < 4611686018427387904) : bits .and .i64 ((E : Int) / 2 ^ c) 1 = if E.testBit c then 1 else 0 := by
  have e : (E : Int) / 2 ^ c = ((E / 2 ^ c : Nat) : Int) := by rw [Int.natCast_ediv, Int.natCast_pow]; rfl
  rw [e, and_one (e := E / 2 ^ c) (Nat.lt_of_le_of_lt (Nat.div_le_self _ _) hE)]
  rw [Nat.testBit_eq_decide_div_mod_eq]
  by_cases h : E / 2 ^ c % 2 = 1
  · simp [h]
  · have : E / 2 ^ c % 2 = 0 := by omega
    simp [this]
set_option maxHeartbeats 1600000 in
theorem impl_RowWith (n rank : Int) (w : World) :
    Calls Tryz.prog 12 #[.int .i64 n, .int .i64 rank] w fun e w' => ∃ ao' n' cap', e = .returned (.tuple #[.slice ao' n' cap', .bool (mRowWith n rank).2]) ∧ Own w.heap.size w'.heap.size w' ao' n' cap' (mRowWith n rank).1 ∧ Below w.heap.size w w' := by
  have hcr := impl_CountRows n w
  by_cases hn : 0 ≤ n ∧ n ≤ 28
  · obtain ⟨m, rfl⟩ := Int.eq_ofNat_of_zero_le hn.1
    have h28 : m ≤ 28 := by omega
    have hcr := countRows_any m w h28
    have hcl := cntR_le m (by omega)
    have hcli : ((cntR m : Nat) : Int) ≤ 134217728 := by omega
    by_cases hr : 0 ≤ rank ∧ rank < cntR m
    · obtain ⟨r, rfl⟩ := Int.eq_ofNat_of_zero_le hr.1
      have hrm : r < cntR m := by omega
      have hm := mRW_yes h28 hrm
      have hor := or_one (e := r) (by omega)
      rw [show ((2 * r : Nat) : Int) = (r : Int) * 2 by omega] at hor
      have hbit := fun c => bitTest (E := 2 * r + 1) c (by omega)
      obtain ⟨E, hE⟩ : ∃ E : Nat, 2 * r + 1 = E := ⟨_, rfl⟩
      rw [hE] at hor hm
      simp only [hE] at hbit
      have hri : (r : Int) < cntR m := by omega
      have hd1 : decide ((r : Int) < 0) = false := decide_eq_false (by omega)
      have hd2 : decide (((cntR m : Nat) : Int) ≤ r) = false := decide_eq_false (by omega)
      have hd3 : decide (cntR m ≤ r) = false := decide_eq_false (by omega)
      generalize cntR m = C at *
      have Hn := Lib.hid hn; clear hn
      have Hm := Lib.hid hm; clear hm
      have Hcr := Lib.hid hcr; clear hcr
      have Hbit := Lib.hid hbit; clear hbit
      have HE := Lib.hid hE; clear hE
      go_enter Tryz.func12, Tryz.ntmps12
      go_wp2_with fail
      with_reducible refine (Hcr.out).mono ?_
      rintro e w' ⟨rfl, rfl⟩
      go_wp2_with fail
      go_loopw [8, 9, 11] (fun v pv cv wr => ∃ (c p : Nat) (a : Option Addr) (k q : Nat) (l : List Int), cv = .int .i64 ((c : Int) - 1) ∧ pv = .int .i64 p ∧ v = .slice a k q ∧ c ≤ 28 ∧ p + c ≤ 28 ∧ k + c ≤ 28 ∧ Own w.heap.size wr.heap.size wr a k q l ∧ Hid (l ++ goR E c p = goR E m 0) ∧ Below w.heap.size w wr) (fun _ _ c _ => (intOf c + 1).toNat)
      case atStart => exact ⟨m, 0, _, 0, _, [], by go_num, rfl, rfl, h28, by omega, by omega, Own.empty w, Lib.hid rfl, belowAlloc w _⟩
      case round =>
        obtain ⟨c, p, a, k, q, l, rfl, rfl, rfl, hc, hpc, hkc, hown, Hl, hb⟩ := hrel
        cases c with
        | zero =>
          have hh := Hl.out
          have hR0 : goR E 0 p = [] := rfl
          rw [hR0, List.append_nil] at hh
          have Hh := Lib.hid hh; clear hh
          have HR0 := Lib.hid hR0; clear hR0
          go_wp2
          go_ret2
          rw [Hm.out, ← Hh.out]
          exact ⟨_, _, _, rfl, hown, hb⟩
        | succ c =>
          have ec : (((c + 1 : Nat)) : Int) - 1 = (c : Int) := by omega
          rw [ec]
          have hgo := goR_cons E c p
          have hbt := Hbit.out c
          have hc0 : (0 : Int) ≤ (c : Int) := by omega
          have hc8 : (c : Int) ≤ 64 := by omega
          have hlen := hown.length
          by_cases hE1 : E.testBit c = true
          · rw [hE1, if_pos rfl] at hgo hbt
            have heq : (l ++ [((p : Int) + 1)]) ++ goR E c 0 = goR E m 0 := by
              have := Hl.out
              rw [hgo] at this
              rw [List.append_assoc]; exact this
            have Hgo := Lib.hid hgo; clear hgo
            have Heq := Lib.hid heq; clear heq
            have Hlen := Lib.hid hlen; clear hlen
            have HE1 := Lib.hid hE1; clear hE1
            go_wp2_with (at_builtin; refine wpList_push wr rfl _ _ rfl w.heap.size wr.heap.size a k q _ rfl hown _ rfl (by omega) hb.size ?_)
            intro a3 c3 w3 ho3 hc3
            have hb3 := hb.trans (hown.chgBelow hc3 hb.size)
            clear hown hc3
            go_wp2
            go_roundw
            case rel => exact ⟨c, 0, a3, k + 1, c3, _, by go_num, rfl, rfl, by omega, by omega, by omega, ho3, Lib.hid Heq.out, hb3⟩
            case measure => simp [intOf] <;> omega
          · have hE0 : E.testBit c = false := by simpa using hE1
            rw [hE0, if_neg (by simp)] at hgo hbt
            have heq : l ++ goR E c (p + 1) = goR E m 0 := by rw [← hgo]; exact Hl.out
            have Hgo := Lib.hid hgo; clear hgo
            have Heq := Lib.hid heq; clear heq
            have Hlen := Lib.hid hlen; clear hlen
            have HE1 := Lib.hid hE1; clear hE1
            have HE0 := Lib.hid hE0; clear hE0
            go_wp2
            go_roundw
            case rel => exact ⟨c, p + 1, a, k, q, _, by go_num, by go_num, rfl, by omega, by omega, by omega, hown, Lib.hid Heq.out, hb⟩
            case measure => simp [intOf] <;> omega
    · have hm := mRW_no2 (n := m) hr
      generalize cntR m = C at *
      by_cases h0 : rank < 0
      · have Hn := Lib.hid hn; clear hn
        have Hm := Lib.hid hm; clear hm
        have Hcr := Lib.hid hcr; clear hcr
        have Hr := Lib.hid hr; clear hr
        go_enter Tryz.func12, Tryz.ntmps12
        go_wp2_with fail
        with_reducible refine (Hcr.out).mono ?_
        rintro e w' ⟨rfl, rfl⟩
        go_wp2
        go_ret2
        rw [Hm.out]
        exact ⟨none, 0, 0, rfl, Own.nil _ _ _, Below.refl _ _⟩
      · have h1 : ¬ (rank < (C : Int)) := by omega
        have Hn := Lib.hid hn; clear hn
        have Hm := Lib.hid hm; clear hm
        have Hcr := Lib.hid hcr; clear hcr
        have Hr := Lib.hid hr; clear hr
        go_enter Tryz.func12, Tryz.ntmps12
        go_wp2_with fail
        with_reducible refine (Hcr.out).mono ?_
        rintro e w' ⟨rfl, rfl⟩
        go_wp2
        go_ret2
        rw [Hm.out]
        exact ⟨none, 0, 0, rfl, Own.nil _ _ _, Below.refl _ _⟩
  · have hm := mRW_no1 (rank := rank) hn
    rw [mCR_no n hn] at hcr
    have Hn := Lib.hid hn; clear hn
    have Hm := Lib.hid hm; clear hm
    have Hcr := Lib.hid hcr; clear hcr
    go_enter Tryz.func12, Tryz.ntmps12
    go_wp2_with fail
    with_reducible refine (Hcr.out).mono ?_
    rintro e w' ⟨rfl, hb⟩
    go_wp2
    go_ret2
    rw [Hm.out]
    exact ⟨none, 0, 0, rfl, Own.nil _ _ _, hb⟩
end Go.Proofs.YtjaodhjiibdbdaaGreatDoor
