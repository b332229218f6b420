/- Chapter 2: what the model says of cyclic piles and bits. No condition. -/
import Derived.Test.YtmfdimdcoeapoaaOrbA
import Derived.Test.YtmfdimdcoeapoaaSteps
namespace Go.Proofs.Ytmfdimdcoeapoaa
open Go.RowKit
set_option linter.unusedVariables false
set_option linter.unusedSimpArgs false
set_option maxRecDepth 20000

theorem tmod_nat (a b : Nat) : Int.tmod (a : Int) (b : Int) = ((a % b : Nat) : Int) := by
  rw [Int.natCast_emod]; exact Int.tmod_eq_emod_of_nonneg (by omega)

theorem goodBF {xs : List Int} (h : ¬ Good xs) : goodB xs = false := by
  cases hb : goodB xs with
  | false => rfl
  | true => exact absurd (good_iff.1 hb) h
theorem cycBF {xs : List Int} (h : ¬ Cyc xs) : cycB xs = false := by
  cases hb : cycB xs with
  | false => rfl
  | true => exact absurd (cyc_iff.1 hb) h
theorem sum_toNat {xs : List Int} (h : Good xs) : ∃ s : Nat, xs.sum = s ∧ s ≤ 28 := by
  have := sum_nonneg h.1; have := h.2.2
  exact ⟨xs.sum.toNat, by omega, by omega⟩

/-- height of these piles -/
theorem piHeight_of (xs : List Int) (w : World) (hg : Good xs) : Calls Try.prog 91 #[.int .i64 xs.sum] w fun e w' => e = .returned (.int .i64 (hL xs)) ∧ w = w' := by
  obtain ⟨s, hs, h28⟩ := sum_toNat hg
  have := piHeight_any s w h28
  unfold hL
  rw [hs]
  exact this

set_option maxHeartbeats 800000 in
theorem orCyclic_any (ao : Option Addr) (n cap : Nat) (xs : List Int) (w : World) (h : IntsAt w ao n cap xs) (hg : Good xs) :
    Calls Try.prog 75 #[.slice ao n cap] w fun e w' => e = .returned (.bool (cycB xs)) ∧ w = w' := by
  have hl0 := h.length
  have hlen := hg.len
  have hsum := piSum_any ao n cap xs w h hg
  have hhgt := piHeight_of xs w hg
  have hL7 := hL_le xs
  have hCy : Cyc xs ↔ xs.length ≤ hL xs + 1 ∧ ∀ i, i < hL xs + 1 → (xs.getD i 0 - (hL xs - i) = 0 ∨ xs.getD i 0 - (hL xs - i) = 1) := Iff.rfl
  generalize hK : hL xs = K at hhgt hL7 hCy
  by_cases hlong : (K : Int) + 1 < n
  · have hb : cycB xs = false := cycBF (fun hc => by have := (hCy.1 hc).1; omega)
    have Hg := Lib.hid hg; clear hg
    have Hl0 := Lib.hid hl0; clear hl0
    have Hsum := Lib.hid hsum; clear hsum
    have Hhgt := Lib.hid hhgt; clear hhgt
    have HCy := Lib.hid hCy; clear hCy
    have Hb := Lib.hid hb; clear hb
    have HK := Lib.hid hK; clear hK
    go_enter Try.func75, Try.ntmps75
    go_wp2_with (first | (go_at_call 62; refine (Hsum.out).mono ?_; rintro e w' ⟨rfl, rfl⟩) | (go_at_call 91; refine (Hhgt.out).mono ?_; rintro e w' ⟨rfl, rfl⟩))
    go_ret
    exact ⟨by rw [Hb.out]; rfl, rfl⟩
  · have hn28 : (n : Int) ≤ 28 := by omega
    have Hg := Lib.hid hg; clear hg
    have Hl0 := Lib.hid hl0; clear hl0
    have Hsum := Lib.hid hsum; clear hsum
    have Hhgt := Lib.hid hhgt; clear hhgt
    have HCy := Lib.hid hCy; clear hCy
    have HK := Lib.hid hK; clear hK
    go_enter Try.func75, Try.ntmps75
    go_wp2_with (first | (go_at_call 62; refine (Hsum.out).mono ?_; rintro e w' ⟨rfl, rfl⟩) | (go_at_call 91; refine (Hhgt.out).mono ?_; rintro e w' ⟨rfl, rfl⟩))
    go_loop [4] (fun i => ∃ k : Nat, k ≤ K + 1 ∧ i = .int .i64 k ∧ ∀ j, j < k → (xs.getD j 0 - (K - j) = 0 ∨ xs.getD j 0 - (K - j) = 1)) (fun i => K + 1 - (intOf i).toNat)
    case atStart => exact ⟨0, Nat.zero_le _, rfl, fun j hj => by omega⟩
    case round =>
      obtain ⟨k, hk, rfl, hall⟩ := hrel
      have Hall := Lib.hid hall; clear hall
      by_cases hlt : k < K + 1
      · obtain ⟨x, hx⟩ : ∃ x, xs.getD k 0 = x := ⟨_, rfl⟩
        have hxb := getD_nonneg Hg.out.1 k
        rw [hx] at hxb
        have hx28 : x ≤ 28 := by
          by_cases hkn : k < n
          · exact (Hg.out.mem (getD_mem hx hkn Hl0.out)).2
          · have : xs.getD k 0 = 0 := by rw [List.getD_eq_getElem?_getD, List.getElem?_eq_none (by rw [Hl0.out]; omega)]; rfl
            omega
        have hx0 := hxb.1
        clear hxb
        have hstep : ∀ hin : 0 ≤ x - (K - k) ∧ x - (K - k) ≤ 1, ∀ j, j < k + 1 → (xs.getD j 0 - (K - j) = 0 ∨ xs.getD j 0 - (K - j) = 1) := by
          intro hin j hj
          by_cases hjk : j = k
          · subst hjk; rw [hx]; omega
          · exact Hall.out j (by omega)
        have hbad : ¬ (0 ≤ x - (K - k) ∧ x - (K - k) ≤ 1) → cycB xs = false := fun hin => cycBF (fun hc => by
          have := (HCy.out.1 hc).2 k hlt
          rw [hx] at this
          omega)
        by_cases hin : (0 : Int) ≤ x - (K - k) ∧ x - (K - k) ≤ (1 : Int)
        · have hst := hstep hin
          have hcon := l1In_yes (x - (K - k)) 0 1 w hin
          by_cases hkn : k < n
          · obtain ⟨b, oo, rfl, hbl, hc⟩ := h.cell k hkn
            have hck := hc k hkn
            rw [hx] at hck
            clear hc hstep hbad h
            have Hst := Lib.hid hst; clear hst
            have Hx := Lib.hid hx; clear hx
            have Hcon := Lib.hid hcon; clear hcon
            go_wp2_with (go_at_call 51; with_reducible refine (Hcon.out).mono ?_; rintro e w' ⟨rfl, rfl⟩)
            go_round
            case rel => exact ⟨k + 1, by omega, by go_num, Hst.out⟩
            case measure => simp [intOf]; omega
          · have hx00 : x = 0 := by rw [← hx, List.getD_eq_getElem?_getD, List.getElem?_eq_none (by rw [Hl0.out]; omega)]; rfl
            have hcon2 := l1In_yes (-((K : Int) - k)) 0 1 w (by omega)
            clear hstep hbad h
            have Hst := Lib.hid hst; clear hst
            have Hx := Lib.hid hx; clear hx
            have Hcon := Lib.hid hcon; clear hcon
            have Hcon2 := Lib.hid hcon2; clear hcon2
            have Hx00 := Lib.hid hx00; clear hx00
            go_wp2_with (go_at_call 51; with_reducible refine (Hcon2.out).mono ?_; rintro e w' ⟨rfl, rfl⟩)
            go_round
            case rel => exact ⟨k + 1, by omega, by go_num, Hst.out⟩
            case measure => simp [intOf]; omega
        · have hb := hbad hin
          have hcon := l1In_no (x - (K - k)) 0 1 w hin
          by_cases hkn : k < n
          · obtain ⟨b, oo, rfl, hbl, hc⟩ := h.cell k hkn
            have hck := hc k hkn
            rw [hx] at hck
            clear hc hstep hbad h
            have Hb := Lib.hid hb; clear hb
            have Hx := Lib.hid hx; clear hx
            have Hcon := Lib.hid hcon; clear hcon
            have Hin := Lib.hid hin; clear hin
            go_wp2_with (go_at_call 51; with_reducible refine (Hcon.out).mono ?_; rintro e w' ⟨rfl, rfl⟩)
            go_ret
            exact ⟨by rw [Hb.out]; rfl, rfl⟩
          · have hx00 : x = 0 := by rw [← hx, List.getD_eq_getElem?_getD, List.getElem?_eq_none (by rw [Hl0.out]; omega)]; rfl
            have hcon2 := l1In_no (-((K : Int) - k)) 0 1 w (by omega)
            clear hstep hbad h
            have Hb := Lib.hid hb; clear hb
            have Hx := Lib.hid hx; clear hx
            have Hcon := Lib.hid hcon; clear hcon
            have Hin := Lib.hid hin; clear hin
            have Hcon2 := Lib.hid hcon2; clear hcon2
            have Hx00 := Lib.hid hx00; clear hx00
            go_wp2_with (go_at_call 51; with_reducible refine (Hcon2.out).mono ?_; rintro e w' ⟨rfl, rfl⟩)
            go_ret
            exact ⟨by rw [Hb.out]; rfl, rfl⟩
      · have hk' : k = K + 1 := by omega
        subst hk'
        have hln : n ≤ K + 1 := by omega
        have hb : cycB xs = true := by
          rw [cyc_iff, HCy.out]
          exact ⟨by rw [Hl0.out]; exact hln, Hall.out⟩
        have Hb := Lib.hid hb; clear hb
        go_wp2
        go_ret
        exact ⟨by rw [Hb.out]; rfl, rfl⟩
end Go.Proofs.Ytmfdimdcoeapoaa
