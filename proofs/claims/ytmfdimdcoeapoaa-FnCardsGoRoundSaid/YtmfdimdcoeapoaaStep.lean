/- Chapter 1: steps of piles, by the model and by the program. No condition. -/
import Derived.Test.YtmfdimdcoeapoaaPut
import Derived.Test.YtmfdimdcoeapoaaGa
namespace Go.Proofs.Ytmfdimdcoeapoaa
open Go.RowKit
set_option linter.unusedVariables false
set_option maxRecDepth 20000
set_option linter.unusedSimpArgs false

set_option maxHeartbeats 1600000 in
theorem piStep_any (ao : Option Addr) (n cap : Nat) (xs : List Int) (w : World) (h : IntsAt w ao n cap xs) (hg : Good xs) :
    Calls Try.prog 54 #[.slice ao n cap] w fun e w' => ∃ ao' n' cap', e = .returned (.slice ao' n' cap') ∧ Own w.heap.size w'.heap.size w' ao' n' cap' (stepL xs) ∧ Below w.heap.size w w' := by
  have hlen := hg.len
  have hl0 := h.length
  have hn : (n : Int) ≤ 28 := by omega
  have Hg := Lib.hid hg; clear hg
  have Hl0 := Lib.hid hl0; clear hl0
  go_enter Try.func54, Try.ntmps54
  go_wp2
  go_loopw [3, 8] (fun v i wr => ∃ (k : Nat) (a : Option Addr) (m c : Nat), k ≤ n ∧ i = .int .i64 k ∧ v = .slice a m c ∧ Own w.heap.size wr.heap.size wr a m c (lowL (xs.take k)) ∧ Below w.heap.size w wr) (fun _ i _ => n - (intOf i).toNat)
  case atStart => exact ⟨0, none, 0, 0, Nat.zero_le _, rfl, rfl, Own.nil _ _ _, Below.refl _ _⟩
  case round =>
    obtain ⟨k, a, m, c, hk, rfl, rfl, hown, hb⟩ := hrel
    have hm := hown.length
    have hml := lowL_length (xs.take k)
    have htl : (xs.take k).length ≤ 28 := by rw [List.length_take]; omega
    rw [hm] at hml
    have Hm := Lib.hid hm; clear hm
    by_cases hlt : k < n
    · have h1 := h.keep hb
      obtain ⟨b, oo, rfl, hbl, hc⟩ := h1.cell k hlt
      have hck := hc k hlt
      clear hc h1
      generalize hx : xs.getD k 0 = x at hck
      have hxm := Hg.out.mem (getD_mem hx hlt Hl0.out)
      have e := lowL_snoc (xs.take k) x
      rw [← take_snoc hx hlt Hl0.out] at e
      have Hx := Lib.hid hx; clear hx
      by_cases hx1 : 1 < x
      · rw [if_pos hx1] at e
        have E := Lib.hid e; clear e
        go_wp2_with (at_builtin; refine wpList_push wr rfl _ _ rfl w.heap.size wr.heap.size a m c _ rfl hown _ rfl (by omega) hb.size ?_)
        intro ao2 cap2 w2 ho2 hc2
        have hb2 := hown.chgBelow hc2 hb.size
        clear hown
        go_wp2
        go_roundw
        case rel => exact ⟨k + 1, ao2, _, cap2, by omega, by go_num, rfl, by rw [E.out]; exact ho2, hb.trans hb2⟩
        case measure => simp [intOf]; omega
      · rw [if_neg hx1, List.append_nil] at e
        have E := Lib.hid e; clear e
        go_wp2
        go_roundw
        case rel => exact ⟨k + 1, a, m, c, by omega, by go_num, rfl, by rw [E.out]; exact hown, hb⟩
        case measure => simp [intOf]; omega
    · obtain rfl : n = k := by omega
      rw [take_all Hl0.out] at hown
      by_cases hz : n = 0
      · subst hz
        have hxs : xs = [] := List.eq_nil_of_length_eq_zero Hl0.out
        subst hxs
        go_wp2
        go_ret
        exact ⟨none, 0, 0, rfl, Own.nil _ _ _, hb⟩
      · have hne : ((n : Int) == 0) = false := by simp; omega
        have hxs : xs ≠ [] := fun e => hz (by rw [← Hl0.out, e]; rfl)
        have hcon := piPut_any a m c (lowL xs) (n : Int) wr hown.at (lowL_sorted Hg.out.2.1) (by omega)
        have e := stepL_cons hxs
        rw [Hl0.out] at e
        rw [← e] at hcon
        have Hcon := Lib.hid hcon; clear hcon
        have E := Lib.hid e; clear e
        have Hxs := Lib.hid hxs; clear hxs
        go_wp2_with fail
        with_reducible refine (Hcon.out).mono ?_
        rintro e w2 ⟨a2, m2, c2, rfl, ho2, hb2⟩
        go_wp2
        go_ret
        exact ⟨_, _, _, rfl, ho2.mono hb.size (Nat.le_refl _), belowTrans hb hb2 (Nat.le_refl _)⟩

end Go.Proofs.Ytmfdimdcoeapoaa
