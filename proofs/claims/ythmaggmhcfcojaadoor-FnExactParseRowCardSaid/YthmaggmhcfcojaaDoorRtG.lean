/- Rows are told, without what plays need. No condition. -/
import Derived.Test.YthmaggmhcfcojaaDoorPileA
namespace Go.Proofs.YthmaggmhcfcojaaDoor
open Go.RowKit
set_option linter.unusedVariables false
set_option linter.unusedSimpArgs false

theorem row_farT {xs : List Int} (h : 28 < xs.length) : rowB xs = false := by
  cases hr : rowB xs
  · rfl
  · have := (row_iff.1 hr).len; omega
set_option maxHeartbeats 400000 in
theorem piSumB_any (ao : Option Addr) (n cap : Nat) (xs : List Int) (w : World) (h : IntsAt w ao n cap xs) (hn28 : n ≤ 28) (hg : ∀ x ∈ xs, 1 ≤ x ∧ x ≤ 28) :
    Calls Tryd.prog 40 #[.slice ao n cap] w fun e w' => e = .returned (.int .i64 xs.sum) ∧ w = w' := by
  have hn := h.lenInt
  go_enter Tryd.func40, Tryd.ntmps40
  go_wp2
  go_loop [3, 8] (fun s i => ∃ k : Nat, ∃ t : Int, k ≤ n ∧ i = .int .i64 k ∧ s = .int .i64 t ∧ (xs.take k).sum = t ∧ 0 ≤ t ∧ t ≤ 28 * k) (fun _ i => n - (intOf i).toNat)
  case atStart => exact ⟨0, 0, Nat.zero_le _, rfl, rfl, rfl, by omega, by omega⟩
  case round =>
    obtain ⟨k, t, hk, rfl, rfl, ht, ht0, ht1⟩ := hrel
    have Ht := Lib.hid ht; clear ht
    by_cases hlt : k < n
    · obtain ⟨b, o, rfl, hb, hc⟩ := h.cell k hlt
      have hck := hc k hlt
      clear hc
      generalize hx : xs.getD k 0 = x at hck
      have Hx := Lib.hid hx; clear hx
      have hm := hg _ (getD_mem Hx.out hlt h.length)
      have e := take_snoc Hx.out hlt h.length
      have e2 : (xs.take (k + 1)).sum = t + x := by rw [e, List.sum_append, Ht.out]; simp
      have E2 := Lib.hid e2; clear e2
      have Hg := Lib.hid hg; clear hg
      clear e h
      go_wp2
      go_round
      case rel => exact ⟨k + 1, t + x, by omega, by go_num, rfl, E2.out, by omega, by omega⟩
      case measure => simp [intOf]; omega
    · go_wp2
      go_ret
      obtain rfl : n = k := by omega
      have hh := Ht.out
      rw [take_all h.length] at hh
      exact ⟨by first | rfl | (rw [hh]; rfl), rfl⟩

set_option maxHeartbeats 1000000 in
theorem roGood_any (ao : Option Addr) (n cap : Nat) (xs : List Int) (w : World) (h : IntsAt w ao n cap xs) :
    Calls Tryd.prog 24 #[.slice ao n cap] w fun e w' => e = .returned (.bool (rowB xs)) ∧ w = w' := by
  have hn := h.lenInt
  by_cases hlen : 28 < n
  · have hbad : rowB xs = false := row_farT (by rw [h.length]; exact hlen)
    go_enter Tryd.func24, Tryd.ntmps24
    go_wp2
    go_ret
    exact ⟨by first | rfl | (rw [hbad]; rfl), rfl⟩
  by_cases hall : ∀ x ∈ xs, 1 ≤ x ∧ x ≤ 28
  · have hd : decide (∀ x ∈ xs, 1 ≤ x ∧ x ≤ 28) = true := decide_eq_true hall
    have hfin : rowB xs = decide (xs.sum ≤ 28) := by
      unfold rowB
      rw [decide_eq_decide]
      exact ⟨fun h => h.2, fun h' => ⟨fun x hx => (hall x hx).1, h'⟩⟩
    have hc1 := l1All_any ao n cap xs 1 28 w h
    rw [hd] at hc1
    have hc2 := piSumB_any ao n cap xs w h (by omega) hall
    generalize xs.sum = S at *
    have Hall := Lib.hid hall; clear hall
    have Hc1 := Lib.hid hc1; clear hc1
    have Hc2 := Lib.hid hc2; clear hc2
    have Hfin := Lib.hid hfin; clear hfin
    have Hd := Lib.hid hd; clear hd
    go_enter Tryd.func24, Tryd.ntmps24
    go_wp2_with fail
    with_reducible refine (Hc1.out).mono ?_
    rintro e w' ⟨rfl, rfl⟩
    go_wp2_with fail
    with_reducible refine (Hc2.out).mono ?_
    rintro e w' ⟨rfl, rfl⟩
    go_wp2
    go_ret
    exact ⟨by rw [Hfin.out]; rfl, rfl⟩
  · have hd : decide (∀ x ∈ xs, 1 ≤ x ∧ x ≤ 28) = false := decide_eq_false hall
    have hbad : rowB xs = false := by
      unfold rowB; rw [decide_eq_false_iff_not]
      intro hh
      exact hall fun x hx => RowOk.mem hh hx
    have hc1 := l1All_any ao n cap xs 1 28 w h
    rw [hd] at hc1
    have Hall := Lib.hid hall; clear hall
    have Hbad := Lib.hid hbad; clear hbad
    have Hc1 := Lib.hid hc1; clear hc1
    have Hd := Lib.hid hd; clear hd
    go_enter Tryd.func24, Tryd.ntmps24
    go_wp2_with fail
    with_reducible refine (Hc1.out).mono ?_
    rintro e w' ⟨rfl, rfl⟩
    go_wp2
    go_ret
    exact ⟨by first | rfl | (rw [Hbad.out]; rfl), rfl⟩
theorem roGood_yes (ao : Option Addr) (n cap : Nat) (xs : List Int) (w : World) (h : IntsAt w ao n cap xs) (hg : RowOk xs) :
    Calls Tryd.prog 24 #[.slice ao n cap] w fun e w' => e = .returned (.bool true) ∧ w = w' := by
  have := roGood_any ao n cap xs w h; rw [row_iff.2 hg] at this; exact this
theorem roGood_no (ao : Option Addr) (n cap : Nat) (xs : List Int) (w : World) (h : IntsAt w ao n cap xs) (hg : rowB xs = false) :
    Calls Tryd.prog 24 #[.slice ao n cap] w fun e w' => e = .returned (.bool false) ∧ w = w' := by
  have := roGood_any ao n cap xs w h; rw [hg] at this; exact this
end Go.Proofs.YthmaggmhcfcojaaDoor
