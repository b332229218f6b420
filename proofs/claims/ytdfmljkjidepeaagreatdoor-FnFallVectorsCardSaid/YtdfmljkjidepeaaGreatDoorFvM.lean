/- How often each column falls between two, and how orders of falls are counted: what the law asks. No condition but sizes. -/
import Derived.Test.YtdfmljkjidepeaaGreatDoorGg
import Derived.Test.YtdfmljkjidepeaaGreatDoorGm
import Derived.Test.YtdfmljkjidepeaaGreatDoorGr
namespace Go.Proofs.YtdfmljkjidepeaaGreatDoor
open Go.RowKit
set_option linter.unusedVariables false
set_option linter.unusedSimpArgs false

set_option maxHeartbeats 400000 in
theorem pSumV_any (ao : Option Addr) (n cap : Nat) (xs : List Int) (w : World) (h : IntsAt w ao n cap xs) (hg : ∀ x ∈ xs, 0 ≤ x ∧ x ≤ 1000) (hn8 : n ≤ 1000) :
    Calls Tryz.prog 13 #[.slice ao n cap] w fun e w' => e = .returned (.int .i64 xs.sum) ∧ w = w' := by
  have hn := h.lenInt
  go_enter Tryz.func13, Tryz.ntmps13
  go_wp2
  go_loop [3, 8] (fun s i => ∃ k : Nat, ∃ t : Int, k ≤ n ∧ i = .int .i64 k ∧ s = .int .i64 t ∧ (xs.take k).sum = t ∧ 0 ≤ t ∧ t ≤ 1000 * k) (fun _ i => n - (intOf i).toNat)
  case atStart => exact ⟨0, 0, Nat.zero_le _, rfl, rfl, rfl, by omega, by omega⟩
  case round =>
    obtain ⟨k, t, hk, rfl, rfl, ht, ht0, ht1⟩ := hrel
    have Ht := Lib.hid ht; clear ht
    by_cases hlt : k < n
    · obtain ⟨b, o, rfl, hb, hc⟩ := h.cell k hlt
      have hck := hc k hlt
      clear hc
      generalize hx : xs.getD k 0 = x at hck
      have Hx := Lib.hid hx; clear hx
      have hm := hg _ (getD_mem Hx.out hlt h.length)
      have e := take_snoc Hx.out hlt h.length
      have e2 : (xs.take (k + 1)).sum = t + x := by rw [e, List.sum_append, Ht.out]; simp
      have E2 := Lib.hid e2; clear e2
      have Hg := Lib.hid hg; clear hg
      clear e h
      go_wp2
      go_round
      case rel => exact ⟨k + 1, t + x, by omega, by go_num, rfl, E2.out, by omega, by omega⟩
      case measure => simp [intOf]; omega
    · go_wp2
      go_ret
      obtain rfl : n = k := by omega
      have hh := Ht.out
      rw [take_all h.length] at hh
      exact ⟨by first | rfl | (rw [hh]; rfl), rfl⟩
theorem DrawFallVector_any (ac : Option Addr) (nc cc : Nat) (w : World) (hnc : nc ≤ 1048576) (hby : ByteIn w w.heap.size ac nc) :
    Calls Tryz.prog 5 #[.slice ac nc cc] w fun e w' => ∃ ao n cap xs bo m cap' ys, e = .returned (.tuple #[.slice ao n cap, .slice bo m cap']) ∧ Own w.heap.size w'.heap.size w' ao n cap xs ∧ Near xs ∧ Own w.heap.size w'.heap.size w' bo m cap' ys ∧ Near ys ∧ Below w.heap.size w w' := by
  have hcon := reaching_any _ _ 0 (cur_new w ac nc cc hnc hby) (by omega)
  have Hcon := Lib.hid hcon; clear hcon
  have Hby := Lib.hid hby; clear hby
  go_enter Tryz.func5, Tryz.ntmps5
  go_wp2_with fail
  with_reducible refine (Hcon.out).mono ?_
  rintro e w1 ⟨a, n, c, xs, b, m, d, ys, rfl, ho, hn, ho2, hn2, hg⟩
  go_wp2
  go_ret2
  exact ⟨_, _, _, _, _, _, _, _, rfl, ho.mono (curSize _ _) (Nat.le_refl _), hn, ho2.mono (curSize _ _) (Nat.le_refl _), hn2, hg.drawn⟩
theorem DrawCountFallPlays_any (ac : Option Addr) (nc cc : Nat) (w : World) (hnc : nc ≤ 1048576) (hby : ByteIn w w.heap.size ac nc) :
    Calls Tryz.prog 14 #[.slice ac nc cc] w fun e w' => ∃ ao n cap xs, e = .returned (.slice ao n cap) ∧ Own w.heap.size w'.heap.size w' ao n cap xs ∧ Near xs ∧ Below w.heap.size w w' := by
  have hcon := sand_any 14 _ _ 0 (cur_new w ac nc cc hnc hby) (by omega) (by omega)
  rw [show ((14 : Nat) : Int) = 14 from rfl] at hcon
  have Hcon := Lib.hid hcon; clear hcon
  have Hby := Lib.hid hby; clear hby
  go_enter Tryz.func14, Tryz.ntmps14
  go_wp2_with fail
  with_reducible refine (Hcon.out).mono ?_
  rintro e w1 ⟨a, n, c, xs, rfl, ho, hn, hc, hg⟩
  go_wp2
  go_ret
  exact ⟨_, _, _, _, rfl, ho.mono (curSize _ _) (Nat.le_refl _), hn, hg.drawn⟩
theorem trim_zero (v : List Int) : ∀ k i, trimN v k ≤ i → i < k → v.getD i 0 = 0
  | 0, i, _, h => by omega
  | k + 1, i, h, hi => by
    unfold trimN at h
    split at h
    · next h0 =>
      by_cases e : i = k
      · subst e; exact h0
      · exact trim_zero v k i h (by omega)
    · omega
theorem vecL_at {xs ys : List Int} (hl : xs.length ≤ ys.length) (hs : ys.sum = xs.sum) (i : Nat) : (vecL xs ys).getD i 0 = (xs.take (i + 1)).sum - (ys.take (i + 1)).sum := by
  have hd : diffI xs ys (i + 1) = (xs.take (i + 1)).sum - (ys.take (i + 1)).sum := by first | rfl | (unfold diffI; omega)
  rw [← hd]
  unfold vecL
  by_cases h1 : i < ys.length
  · rw [← vecT_getD xs ys h1]
    by_cases h2 : i < trimN (vecT xs ys ys.length) ys.length
    · rw [List.getD_eq_getElem?_getD, List.getElem?_take_of_lt h2, ← List.getD_eq_getElem?_getD]
    · rw [getD_past (by rw [List.length_take, vecT_length]; omega), trim_zero _ _ _ (by omega) h1]
  · rw [getD_past (by rw [List.length_take, vecT_length]; omega), hd, List.take_of_length_le (by omega), List.take_of_length_le (by omega)]; omega
theorem vec_cases (xs ys : List Int) : (mFallVector xs ys = ([], false) ∧ mFallsBetween xs ys = (0, false) ∧ mCanReach xs ys = (false, false)) ∨ (mFallVector xs ys = ([], false) ∧ mFallsBetween xs ys = (0, false) ∧ mCanReach xs ys = (false, true)) ∨
    ∃ V X Y, mFallVector xs ys = (V, true) ∧ mFallsBetween xs ys = (V.sum, true) ∧ mCanReach xs ys = (true, true) ∧ mFallCounts xs = (X, true) ∧ mFallCounts ys = (Y, true) ∧ X.sum = Y.sum + V.sum ∧ 0 ≤ V.sum ∧ V.sum ≤ 576 ∧ 0 ≤ Y.sum ∧ Y.sum ≤ 576 ∧
      (∀ x ∈ X, 0 ≤ x ∧ x ≤ 1000) ∧ (∀ x ∈ Y, 0 ≤ x ∧ x ≤ 1000) ∧ X.length ≤ 24 ∧ Y.length ≤ 24 ∧ V.length ≤ 24 ∧ ∀ i : Nat, X.getD i 0 = V.getD i 0 + Y.getD i 0 ∧ 0 ≤ V.getD i 0 ∧ V.getD i 0 ≤ 1000 ∧ 0 ≤ Y.getD i 0 ∧ Y.getD i 0 ≤ 1000 := by
  by_cases hs : sandB xs = true ∧ sandB ys = true
  · have hx := sand_iff.1 hs.1
    have hy := sand_iff.1 hs.2
    cases hc : canB xs ys
    · have hr : reaB xs ys = false := by rw [reaB_yes hs.1 hs.2, hc]
      have e := mCan_yes hs.1 hs.2
      rw [hc] at e
      cases hk : decide (okR xs)
      · rw [hk] at e; exact .inl ⟨mFV_no hr, mFB_no hr, e⟩
      · rw [hk] at e; exact .inr (.inl ⟨mFV_no hr, mFB_no hr, e⟩)
    · obtain ⟨hok, hm⟩ := canB_iff.1 hc
      have hr : reaB xs ys = true := reaB_iff.2 ⟨hx, hy, hok, hm⟩
      have e := mCan_yes hs.1 hs.2
      rw [hc, decide_eq_true hok] at e
      obtain ⟨v1, v2, v3⟩ := vecL_facts hx.grains hm
      obtain ⟨n, hn⟩ := (rch_to hx.grains).1 hm
      obtain ⟨g, g2, g3⟩ := hn.grains hx.grains
      have hse := settle_same hn hx.grains
      obtain ⟨a1, a2, a3⟩ := counts_at hx.grains
      obtain ⟨b1, b2, b3⟩ := counts_at hy.grains
      obtain ⟨t, h1, _⟩ := settle_to hy.grains
      obtain ⟨u1, _, u3⟩ := h1.grains hy.grains
      have u4 := u1.wt
      have w1 := hx.grains.wt
      have w2 := hy.grains.wt
      have hl := hy.grains.len
      have cx := (settle_good hx.grains).2
      have cy := (settle_good hy.grains).2
      have hv := vecL_at hn.longer g2
      have k1 := mCounts_yes hs.1
      have k2 := mCounts_yes hs.2
      clear h1
      generalize settleL ys = z' at hse a1 a2 b1 b2 u1 u3 u4
      generalize settleL xs = z at hse a1 a2 b1 b2 u1 u3 u4
      subst hse
      generalize countsL xs = X at a1 a2 a3 cx k1
      generalize countsL ys = Y at b1 b2 b3 cy k2
      have k3 := mFB_yes hr
      rw [← v1] at k3
      have k4 := mFV_yes hr
      generalize vecL xs ys = V at v1 v2 v3 hv k3 k4
      refine .inr (.inr ⟨V, X, Y, k4, k3, e, k1, k2, by omega, by omega, by omega, by omega, by omega, fun x h => ?_, fun x h => ?_, cx, cy, by omega, fun i => ?_⟩)
      · have := mem_bd a3 x h; omega
      · have := mem_bd b3 x h; omega
      · have q := hv i
        have q1 := a1 i
        have q2 := b1 i
        have q3 := b3 i
        have q4 := a3 i
        have q5 : 0 ≤ V.getD i 0 ∧ V.getD i 0 ≤ 24 := by
          by_cases hi : i < V.length
          · exact v2 _ (mem_of_getD hi)
          · rw [getD_past (by omega)]; omega
        generalize (xs.take (i + 1)).sum = A at *
        generalize (ys.take (i + 1)).sum = B at *
        omega
  · have hr : reaB xs ys = false := by
      cases h : reaB xs ys with
      | false => rfl
      | true => exact absurd ⟨sand_iff.2 (reaB_iff.1 h).1, sand_iff.2 (reaB_iff.1 h).2.1⟩ hs
    have e : mCanReach xs ys = (false, false) := by unfold mCanReach; rw [if_neg hs]
    exact .inl ⟨mFV_no hr, mFB_no hr, e⟩
theorem wP_up {a : List Int} {k : Nat} : ∀ d, k + d ≤ (behL a).length → wP a k ≤ wP a (k + d)
  | 0, _ => Nat.le_refl _
  | d + 1, h => by
    have h1 := wP_up (a := a) (k := k) d (by omega)
    have h2 := wP_succ (a := a) (k := k + d) (by omega)
    have h3 := wP_le a (k + d)
    show _ ≤ wP a (k + d + 1)
    rw [h2]; omega
theorem plays_cases (a : List Int) : mCountFallPlays a = (0, false) ∨
    ∃ (P : Nat) (F : List Int) (S : Nat → Nat), mCountFallPlays a = ((P : Int), true) ∧ P ≤ 1000000000 ∧ mFallsOf a = (F, true) ∧ F.length ≤ 24 ∧ S 0 = 0 ∧ (∀ q, q ≤ F.length → S q ≤ 1000000000) ∧ (F.length = 0 → P = 1) ∧ (F.length ≠ 0 → P = S F.length) ∧
      ∀ q, q < F.length → ∃ k : Nat, F.getD q 0 = (k : Int) ∧ k ≤ 24 ∧ ∃ y, mFallGrain a (k : Int) = (y, true) ∧ ∃ p : Nat, mCountFallPlays y = ((p : Int), true) ∧ p ≤ 1000000000 ∧ S (q + 1) = S q + p := by
  by_cases h : sandB a = true ∧ (mSettleSand a).2 = true ∧ wL a ≤ 1000000000
  · obtain ⟨h1, h2, h3⟩ := h
    have hs := sand_iff.1 h1
    have hg := hs.grains
    have hok := (ok_settle hs).2 h2
    have hlen := falls_len a
    have hl24 : (fallsL a).length ≤ 24 := by
      have q1 := fallsT_length a a.length
      have q2 := hg.len
      show (fallsT a a.length).length ≤ 24
      omega
    have hb0 : (behL a).length = 0 ↔ behL a = [] := List.length_eq_zero_iff
    have hall : ∀ q, q ≤ (behL a).length → 0 < (behL a).length → wP a q ≤ 1000000000 := fun q hq h0 => by
      have q1 := wP_up (a := a) (k := q) ((behL a).length - q) (by omega)
      rw [show q + ((behL a).length - q) = (behL a).length by omega] at q1
      have q2 := wL_more hg (fun e => by rw [hb0.2 e] at h0; omega)
      omega
    refine .inr ⟨wL a, fallsL a, wP a, mPlays_yes h1 h2 h3, h3, mFallsOf_yes h1, hl24, rfl, fun q hq => ?_, fun h0 => wL_end hg (hb0.1 (by omega)), fun h0 => by rw [hlen]; exact wL_more hg (fun e => h0 (by rw [hlen]; exact hb0.2 e)), fun q hq => ?_⟩
    · by_cases h0 : (behL a).length = 0
      · obtain rfl : q = 0 := by omega
        rw [wP_zero]; omega
      · exact hall q (by omega) (by omega)
    · rw [hlen] at hq
      obtain ⟨i, e1, e2, e3, e4⟩ := falls_atW hq
      have hil := hg.len
      have hw := wP_succ hq
      have hw2 := hall (q + 1) (by omega) (by omega)
      rw [e4] at hw
      have hto : FallTo 1 a (fallL a i) := .step i e2 e3 (.refl _)
      have hy : Sand (fallL a i) := hok.2 _ ((rch_to hg).2 ⟨1, hto⟩)
      have hys := sand_iff.2 hy
      have hse : (mSettleSand (fallL a i)).2 = true := by
        rw [settle_snd hy, settle_same hto hg, ← settle_snd hs]; exact h2
      have f1 : mFallGrain a (i : Int) = ifSand (fall1 a (i : Int)) := mPlayF_yes h1 (by simp)
      have f2 : fall1 a (i : Int) = some (fallL a i) := by unfold fall1; rw [if_pos ⟨by omega, by omega, by simpa using e3⟩]; simp
      refine ⟨i, e1, by omega, fallL a i, by rw [f1, f2]; exact ifSand_yes hys, wL (fallL a i), mPlays_yes hys hse (by omega), by omega, by omega⟩
  · left
    unfold mCountFallPlays
    exact if_neg h
end Go.Proofs.YtdfmljkjidepeaaGreatDoor
