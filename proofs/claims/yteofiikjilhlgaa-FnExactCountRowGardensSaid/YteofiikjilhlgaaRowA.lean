/- Chapter 5 by the model: IsRow, StepRow, RowSteps, PlayRow, SortRow; and what the program does for IsRow and SortRow. No condition. -/
import Derived.Test.YteofiikjilhlgaaPlay
import Derived.Test.YteofiikjilhlgaaPut
import Derived.Test.YteofiikjilhlgaaRowM
namespace Go.Proofs.Yteofiikjilhlgaa
open Go.RowKit
set_option linter.unusedVariables false
set_option linter.unusedSimpArgs false
set_option maxRecDepth 20000

theorem mPlayRow_bound (xs : List Int) (k : Int) : (mPlayRow xs k).1.length ≤ 1048576 ∧ total (mPlayRow xs k).1 ≤ 1048576 := by
  unfold mPlayRow
  split
  · next h =>
    have h1 := playR_length k.toNat xs
    have h3 := total_le (playR k.toNat xs) 28 (fun ys hy => (playR_row (row_iff.1 h.1) _ ys hy).len)
    exact ⟨by show (playR k.toNat xs).length ≤ _; omega, by show total (playR k.toNat xs) ≤ _; omega⟩
  · simp [total]

theorem impl_IsRow (ao : Option Addr) (n cap : Nat) (xs : List Int) (w : World) (h : IntsAt w ao n cap xs) :
    Calls Try.prog 25 #[.slice ao n cap] w fun e w' => e = .returned (.bool (mIsRow xs)) ∧ Below w.heap.size w w' := callsBelow (isRow_any ao n cap xs w h)
set_option maxHeartbeats 1600000 in
theorem roStep_any (ao : Option Addr) (n cap : Nat) (xs : List Int) (w : World) (h : IntsAt w ao n cap xs) (hg : RowOk xs) :
    Calls Try.prog 27 #[.slice ao n cap] w fun e w' => ∃ ao' n' cap', e = .returned (.slice ao' n' cap') ∧ Own w.heap.size w'.heap.size w' ao' n' cap' (rowStepL xs) ∧ Below w.heap.size w w' := by
  have hlen := hg.len
  have hl0 := h.length
  by_cases hz : n = 0
  · have hxs : xs = [] := List.eq_nil_of_length_eq_zero (by omega)
    subst hz
    subst hxs
    go_enter Try.func27, Try.ntmps27
    go_wp2
    go_ret
    exact ⟨none, 0, 0, rfl, Own.nil _ _ _, Below.refl _ _⟩
  · have hn : (n : Int) ≤ 28 := by omega
    have hne : ((n : Int) == 0) = false := by simp; omega
    have hxs : xs ≠ [] := fun e => hz (by rw [← hl0, e]; rfl)
    have hsg := Own.single w (n : Int)
    have hba := belowAlloc w (.cells #[.int .i64 (n : Int)] 3)
    have Hxs := Lib.hid hxs; clear hxs
    have Hg := Lib.hid hg; clear hg
    have Hl0 := Lib.hid hl0; clear hl0
    have Hsg := Lib.hid hsg; clear hsg
    have Hba := Lib.hid hba; clear hba
    go_enter Try.func27, Try.ntmps27
    go_wp2
    go_loopw [3, 14] (fun v i wr => ∃ (k : Nat) (a : Option Addr) (m c : Nat), k ≤ n ∧ i = .int .i64 k ∧ v = .slice a m c ∧ Own w.heap.size wr.heap.size wr a m c ((n : Int) :: lowL (xs.take k)) ∧ Below w.heap.size w wr) (fun _ i _ => n - (intOf i).toNat)
    case atStart => exact ⟨0, _, _, _, Nat.zero_le _, rfl, rfl, Hsg.out, Hba.out⟩
    case round =>
      obtain ⟨k, a, m, c, hk, rfl, rfl, hown, hb⟩ := hrel
      have hm := hown.length
      have hml := lowL_length (xs.take k)
      have htl : (xs.take k).length ≤ 28 := by rw [List.length_take]; omega
      rw [List.length_cons] at hm
      have Hm := Lib.hid hm; clear hm
      by_cases hlt : k < n
      · have h1 := h.keep hb
        obtain ⟨b, oo, rfl, hbl, hc⟩ := h1.cell k hlt
        have hck := hc k hlt
        clear hc h1
        generalize hx : xs.getD k 0 = x at hck
        have hxm := Hg.out.mem (getD_mem hx hlt Hl0.out)
        have e := lowL_snoc (xs.take k) x
        rw [← take_snoc hx hlt Hl0.out] at e
        have hm28 : m ≤ 29 := by have := Hm.out; omega
        have Hx := Lib.hid hx; clear hx
        by_cases hx1 : 1 < x
        · rw [if_pos hx1] at e
          have E := Lib.hid e; clear e
          go_wp2_with (at_builtin; refine wpList_push wr rfl _ _ rfl w.heap.size wr.heap.size a m c _ rfl hown _ rfl (by omega) hb.size ?_)
          intro ao2 cap2 w2 ho2 hc2
          have hb2 := hown.chgBelow hc2 hb.size
          clear hown
          go_wp2
          go_roundw
          case rel => exact ⟨k + 1, ao2, _, cap2, by omega, by go_num, rfl, by rw [E.out]; exact ho2, hb.trans hb2⟩
          case measure => simp [intOf]; omega
        · rw [if_neg hx1, List.append_nil] at e
          have E := Lib.hid e; clear e
          go_wp2
          go_roundw
          case rel => exact ⟨k + 1, a, m, c, by omega, by go_num, rfl, by rw [E.out]; exact hown, hb⟩
          case measure => simp [intOf]; omega
      · obtain rfl : n = k := by omega
        rw [take_all Hl0.out] at hown
        go_wp2
        go_ret
        refine ⟨_, _, _, rfl, ?_, hb⟩
        rw [rowStepL_cons Hxs.out, Hl0.out]
        exact hown

/-! ### Sorted -/
end Go.Proofs.Yteofiikjilhlgaa
