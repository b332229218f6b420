/- Chapter 5 by the model: IsRow, StepRow, RowSteps, PlayRow, SortRow; and what the program does for IsRow and SortRow. No condition. -/
import Derived.Test.YtbkihnejgcebpaaPlay
import Derived.Test.YtbkihnejgcebpaaPut
import Derived.Test.YtbkihnejgcebpaaRowM
namespace Go.Proofs.Ytbkihnejgcebpaa
open Go.RowKit
set_option linter.unusedVariables false
set_option linter.unusedSimpArgs false
set_option maxRecDepth 20000

theorem mPlayRow_bound (xs : List Int) (k : Int) : (mPlayRow xs k).1.length ≤ 1048576 ∧ total (mPlayRow xs k).1 ≤ 1048576 := by
  unfold mPlayRow
  split
  · next h =>
    have h1 := playR_length k.toNat xs
    have h3 := total_le (playR k.toNat xs) 28 (fun ys hy => (playR_row (row_iff.1 h.1) _ ys hy).len)
    exact ⟨by show (playR k.toNat xs).length ≤ _; omega, by show total (playR k.toNat xs) ≤ _; omega⟩
  · simp [total]

set_option maxHeartbeats 400000 in
theorem piSumB_any (ao : Option Addr) (n cap : Nat) (xs : List Int) (w : World) (h : IntsAt w ao n cap xs) (hn28 : n ≤ 28) (hg : ∀ x ∈ xs, 1 ≤ x ∧ x ≤ 28) :
    Calls Try.prog 41 #[.slice ao n cap] w fun e w' => e = .returned (.int .i64 xs.sum) ∧ w = w' := by
  have hn := h.lenInt
  go_enter Try.func41, Try.ntmps41
  go_wp2
  go_loop [3, 8] (fun s i => ∃ k : Nat, ∃ t : Int, k ≤ n ∧ i = .int .i64 k ∧ s = .int .i64 t ∧ (xs.take k).sum = t ∧ 0 ≤ t ∧ t ≤ 28 * k) (fun _ i => n - (intOf i).toNat)
  case atStart => exact ⟨0, 0, Nat.zero_le _, rfl, rfl, rfl, by omega, by omega⟩
  case round =>
    obtain ⟨k, t, hk, rfl, rfl, ht, ht0, ht1⟩ := hrel
    have Ht := Lib.hid ht; clear ht
    by_cases hlt : k < n
    · obtain ⟨b, o, rfl, hb, hc⟩ := h.cell k hlt
      have hck := hc k hlt
      clear hc
      generalize hx : xs.getD k 0 = x at hck
      have Hx := Lib.hid hx; clear hx
      have hm := hg _ (getD_mem Hx.out hlt h.length)
      have e := take_snoc Hx.out hlt h.length
      have e2 : (xs.take (k + 1)).sum = t + x := by rw [e, List.sum_append, Ht.out]; simp
      have E2 := Lib.hid e2; clear e2
      have Hg := Lib.hid hg; clear hg
      clear e h
      go_wp2
      go_round
      case rel => exact ⟨k + 1, t + x, by omega, by go_num, rfl, E2.out, by omega, by omega⟩
      case measure => simp [intOf]; omega
    · go_wp2
      go_ret
      obtain rfl : n = k := by omega
      have hh := Ht.out
      rw [take_all h.length] at hh
      exact ⟨by first | rfl | (rw [hh]; rfl), rfl⟩

theorem impl_IsRow (ao : Option Addr) (n cap : Nat) (xs : List Int) (w : World) (h : IntsAt w ao n cap xs) :
    Calls Try.prog 75 #[.slice ao n cap] w fun e w' => e = .returned (.bool (mIsRow xs)) ∧ Below w.heap.size w w' := callsBelow (isRow_any ao n cap xs w h)
/-! ### Sorted -/
end Go.Proofs.Ytbkihnejgcebpaa
