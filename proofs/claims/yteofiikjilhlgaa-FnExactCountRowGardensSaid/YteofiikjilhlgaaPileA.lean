/- Chapter 1, first contracts: IsPiles, CardsOf and what they call. No condition. -/
import Derived.Test.YteofiikjilhlgaaBase
import Derived.Test.YteofiikjilhlgaaGa
namespace Go.Proofs.Yteofiikjilhlgaa
open Go.RowKit
set_option linter.unusedVariables false
set_option linter.unusedSimpArgs false

set_option maxHeartbeats 800000 in
theorem isRow_any (ao : Option Addr) (n cap : Nat) (xs : List Int) (w : World) (h : IntsAt w ao n cap xs) :
    Calls Try.prog 25 #[.slice ao n cap] w fun e w' => e = .returned (.bool (rowB xs)) ∧ w = w' := by
  have hn := h.lenInt
  go_enter Try.func25, Try.ntmps25
  go_wp2
  go_loop [3, 8] (fun s i => ∃ k : Nat, ∃ t : Int, k ≤ n ∧ i = .int .i64 k ∧ s = .int .i64 t ∧ (xs.take k).sum = t ∧ 0 ≤ t ∧ t ≤ 28 ∧ RowOk (xs.take k))
     (fun _ i => n - (intOf i).toNat)
  case atStart => exact ⟨0, 0, Nat.zero_le _, rfl, rfl, rfl, by omega, by omega, row_nil⟩
  case round =>
    obtain ⟨k, t, hk, rfl, rfl, ht, ht0, ht1, hg⟩ := hrel
    by_cases hlt : k < n
    · obtain ⟨b, o, rfl, hb, hc⟩ := h.cell k hlt
      have hck := hc k hlt
      clear hc
      generalize hx : xs.getD k 0 = x at hck
      have Hx := Lib.hid hx; clear hx
      have Hl := Lib.hid h.length; clear h
      have e := take_snoc Hx.out hlt Hl.out
      have e2 : (xs.take (k + 1)).sum = t + x := by rw [e, List.sum_append, ht]; simp
      have hs := row_snoc (x := x) hg
      rw [ht, ← e] at hs
      by_cases hin : 1 ≤ x ∧ x ≤ 28 - t
      · have hr := hs.2 hin
        have E := Lib.hid e; clear e
        have E2 := Lib.hid e2; clear e2
        have Hs := Lib.hid hs; clear hs
        have Ht := Lib.hid ht; clear ht
        have Hg := Lib.hid hg; clear hg
        have Hr := Lib.hid hr; clear hr
        go_wp2
        go_round
        case rel => exact ⟨k + 1, t + x, by omega, by go_num, rfl, E2.out, by omega, by omega, Hr.out⟩
        case measure => simp [intOf]; omega
      · have hbad : rowB xs = false := by
          unfold rowB; rw [decide_eq_false_iff_not]
          exact fun hh => hin (hs.1 (hh.take (k + 1)))
        have E := Lib.hid e; clear e
        have E2 := Lib.hid e2; clear e2
        have Hs := Lib.hid hs; clear hs
        have Ht := Lib.hid ht; clear ht
        have Hg := Lib.hid hg; clear hg
        have Hbad := Lib.hid hbad; clear hbad
        go_wp2
        all_goals
          go_ret
          exact ⟨by first | rfl | (rw [Hbad.out]; rfl), rfl⟩
    · go_wp2
      go_ret
      obtain rfl : n = k := by omega
      rw [take_all h.length] at hg
      exact ⟨by first | rfl | (rw [row_iff.2 hg]; rfl), rfl⟩
theorem isRow_yes (ao : Option Addr) (n cap : Nat) (xs : List Int) (w : World) (h : IntsAt w ao n cap xs) (hg : RowOk xs) :
    Calls Try.prog 25 #[.slice ao n cap] w fun e w' => e = .returned (.bool true) ∧ w = w' := by
  have := isRow_any ao n cap xs w h; rw [row_iff.2 hg] at this; exact this
theorem isRow_no (ao : Option Addr) (n cap : Nat) (xs : List Int) (w : World) (h : IntsAt w ao n cap xs) (hg : rowB xs = false) :
    Calls Try.prog 25 #[.slice ao n cap] w fun e w' => e = .returned (.bool false) ∧ w = w' := by
  have := isRow_any ao n cap xs w h; rw [hg] at this; exact this

set_option maxHeartbeats 400000 in
theorem l1In_any (a lo hi : Int) (w : World) :
    Calls Try.prog 12 #[.int .i64 a, .int .i64 lo, .int .i64 hi] w fun e w' => e = .returned (.bool (decide (lo ≤ a ∧ a ≤ hi))) ∧ w = w' := by
  go_enter Try.func12, Try.ntmps12
  go_wp2
  all_goals (go_ret; exact ⟨by congr 2; simp; omega, rfl⟩)

/-- what a function of good piles comes to, that fails for others: a number -/
def ifGoodI (xs : List Int) (v : Int) : Value := .tuple #[.int .i64 (if goodB xs then v else 0), .bool (goodB xs)]

end Go.Proofs.Yteofiikjilhlgaa
