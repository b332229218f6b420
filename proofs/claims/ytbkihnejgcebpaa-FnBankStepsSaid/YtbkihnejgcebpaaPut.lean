/- spec: one number put in its place, a step, steps. No condition. -/
import Derived.Test.YtbkihnejgcebpaaOrder
namespace Go.Proofs.Ytbkihnejgcebpaa
open Go.RowKit Go.Shelf
set_option linter.unusedVariables false
set_option linter.unusedSimpArgs false

set_option maxHeartbeats 3200000 in
set_option maxRecDepth 100000 in
theorem piPut_any (ao : Option Addr) (n cap : Nat) (xs : List Int) (x : Int) (w : World) (h : IntsAt w ao n cap xs) (hs : xs.Pairwise (· ≥ ·)) (hn : n ≤ 1048576) :
    Calls Try.prog 79 #[.slice ao n cap, .int .i64 x] w fun e w' => ∃ ao' n' cap', e = .returned (.slice ao' n' cap') ∧ Own w.heap.size w'.heap.size w' ao' n' cap' (sortD (xs ++ [x])) ∧ Below w.heap.size w w' := by
  have hn' : (n : Int) ≤ 1048576 := by omega
  have hl := Lib.hid h.length
  have Hs := Lib.hid hs; clear hs
  go_enter Try.func79, Try.ntmps79
  go_wp2
  go_loop [5] (fun i => ∃ k : Nat, k ≤ n ∧ i = .int .i64 k ∧ ∀ y ∈ xs.take k, x ≤ y) (fun i => n - (intOf i).toNat)
  case atStart => exact ⟨0, Nat.zero_le _, rfl, by simp⟩
  case round =>
    obtain ⟨k, hk, rfl, hall⟩ := hrel
    have Hall := Lib.hid hall; clear hall
    by_cases hgo : k < n ∧ x ≤ xs.getD k 0
    · obtain ⟨hlt, hge⟩ := hgo
      generalize hx : xs.getD k 0 = y at hge
      obtain ⟨b, oo, rfl, hb, hc⟩ := h.cell k hlt
      have hck := hc k hlt
      rw [hx] at hck
      have Hx := Lib.hid hx; clear hx
      clear hc
      go_wp2
      go_round
      case rel =>
        refine ⟨k + 1, by omega, by go_num, fun z hz => ?_⟩
        rw [take_snoc Hx.out hlt hl.out] at hz
        rcases List.mem_append.1 hz with h' | h'
        · exact Hall.out z h'
        · rw [List.mem_singleton.1 h']; omega
      case measure => simp [intOf]; omega
    · have hput : xs.take k ++ [x] ++ xs.drop k = sortD (xs ++ [x]) := by
        refine put_eq Hs.out Hall.out fun z hz => ?_
        by_cases hlt : k < n
        · have hlt' : ¬ x ≤ xs.getD k 0 := fun hh => hgo ⟨hlt, hh⟩
          rw [List.drop_eq_getElem_cons (by rw [hl.out]; exact hlt)] at hz
          rw [List.getD_eq_getElem?_getD, List.getElem?_eq_getElem (by rw [hl.out]; exact hlt)] at hlt'
          simp only [Option.getD_some] at hlt'
          rcases List.mem_cons.1 hz with rfl | hz
          · omega
          · have hp := Hs.out
            rw [← List.take_append_drop k xs, List.pairwise_append, List.drop_eq_getElem_cons (by rw [hl.out]; exact hlt), List.pairwise_cons] at hp
            have := hp.2.1.1 z hz
            omega
        · rw [List.drop_of_length_le (by rw [hl.out]; omega)] at hz
          cases hz
      have Hput := Lib.hid hput; clear hput
      have hstop : k < n → xs.getD k 0 < x := fun hh => by
        have : ¬ x ≤ xs.getD k 0 := fun h2 => hgo ⟨hh, h2⟩
        omega
      clear hgo
      obtain ⟨a2, hsl2, hi2⟩ := slUpto w xs h k (by omega) .i64
      obtain ⟨a3, hsl3, hi3⟩ := slFrom w xs h k (by omega) .i64
      have hblk := intsAt_one w x
      have hal := belowAlloc w (.cells #[.int .i64 x] 3)
      have hi2' : IntsAt (w.alloc (.cells #[.int .i64 x] 3)).drew a2 k cap (xs.take k) := (hi2.keep hal).drewN 1
      have hi2'' : IntsAt w.drew a2 k cap (xs.take k) := hi2.drewN 1
      have hal' : Below w.heap.size w (w.alloc (.cells #[.int .i64 x] 3)).drew := belowDrewN hal 1
      have hrefl : Below w.heap.size w w.drew := belowDrewN (Below.refl w.heap.size w) 1
      have hblk' : IntsAt (w.alloc (.cells #[.int .i64 x] 3)).drew (some ⟨w.heap.size, 0, none⟩) 1 1 [x] := hblk.drewN 1
      clear hblk hal
      by_cases hlt : k < n
      · have hst := hstop hlt
        clear hstop
        obtain ⟨b, oo, rfl, hb, hc⟩ := h.cell k hlt
        have hck := hc k hlt
        generalize hx : xs.getD k 0 = y at hck hst
        have Hx := Lib.hid hx; clear hx
        clear hc
        go_wp2
        clear hck
        go_region_law (first | (go_simp; with_reducible refine (l1Own_any _ _ _ (xs.take k) _ hi2'' (by omega)).mono ?_; rintro e w1 ⟨a1, c1, rfl, ho1, hb1⟩; have hac1 : Below w.heap.size w w1 := belowTrans hrefl hb1 (Nat.le_refl _); have ho1' : Own w.heap.size w1.heap.size w1 a1 k c1 (xs.take k) := ho1.mono hrefl.size (Nat.le_refl _); have tokA : True := trivial) | (go_simp; with_reducible refine (l1Own_any _ _ _ (xs.take k) _ hi2' (by omega)).mono ?_; rintro e w1 ⟨a1, c1, rfl, ho1, hb1⟩; have hac1 : Below w.heap.size w w1 := belowTrans hal' hb1 (Nat.le_refl _); have ho1' : Own w.heap.size w1.heap.size w1 a1 k c1 (xs.take k) := ho1.mono hal'.size (Nat.le_refl _); have tokB : True := trivial; have hx1 := hblk'.keep hb1) | (have _t := tokA; refine step_catB w (w1.alloc (.cells #[.int .i64 x] 3)) rfl (.tmp 23) (.tmp 25) rfl w1.heap.size a1 k c1 (xs.take k) rfl (some ⟨w1.heap.size, 0, none⟩) 1 1 [x] rfl (hac1.alloc hac1.size _) (ho1'.keep (belowAlloc _ _)) (intsAt_one w1 x) (by omega) ?_; intro a4 c4 w4 ho4 hac4) | (have _t := tokB; refine step_catB w w1 rfl (.tmp 23) (.tmp 25) rfl w1.heap.size a1 k c1 (xs.take k) rfl (some ⟨w.heap.size, 0, none⟩) 1 1 [x] rfl hac1 ho1' hx1 (by omega) ?_; intro a4 c4 w4 ho4 hac4) | (refine step_catB w w4 rfl (.tmp 26) (.tmp 29) rfl w4.heap.size a4 (k + 1) c4 (xs.take k ++ [x]) rfl a3 (n - k) (cap - k) (xs.drop k) rfl hac4 ho4 (hi3.keep hac4) (by omega) ?_; intro a5 c5 w5 ho5 hac5))
        all_goals
          go_wp2
          go_ret
          rw [← Hput.out]
          exact ⟨_, _, _, rfl, ho5, hac5⟩
      · go_wp2
        go_region_law (first | (go_simp; with_reducible refine (l1Own_any _ _ _ (xs.take k) _ hi2'' (by omega)).mono ?_; rintro e w1 ⟨a1, c1, rfl, ho1, hb1⟩; have hac1 : Below w.heap.size w w1 := belowTrans hrefl hb1 (Nat.le_refl _); have ho1' : Own w.heap.size w1.heap.size w1 a1 k c1 (xs.take k) := ho1.mono hrefl.size (Nat.le_refl _); have tokA : True := trivial) | (go_simp; with_reducible refine (l1Own_any _ _ _ (xs.take k) _ hi2' (by omega)).mono ?_; rintro e w1 ⟨a1, c1, rfl, ho1, hb1⟩; have hac1 : Below w.heap.size w w1 := belowTrans hal' hb1 (Nat.le_refl _); have ho1' : Own w.heap.size w1.heap.size w1 a1 k c1 (xs.take k) := ho1.mono hal'.size (Nat.le_refl _); have tokB : True := trivial; have hx1 := hblk'.keep hb1) | (have _t := tokA; refine step_catB w (w1.alloc (.cells #[.int .i64 x] 3)) rfl (.tmp 23) (.tmp 25) rfl w1.heap.size a1 k c1 (xs.take k) rfl (some ⟨w1.heap.size, 0, none⟩) 1 1 [x] rfl (hac1.alloc hac1.size _) (ho1'.keep (belowAlloc _ _)) (intsAt_one w1 x) (by omega) ?_; intro a4 c4 w4 ho4 hac4) | (have _t := tokB; refine step_catB w w1 rfl (.tmp 23) (.tmp 25) rfl w1.heap.size a1 k c1 (xs.take k) rfl (some ⟨w.heap.size, 0, none⟩) 1 1 [x] rfl hac1 ho1' hx1 (by omega) ?_; intro a4 c4 w4 ho4 hac4) | (refine step_catB w w4 rfl (.tmp 26) (.tmp 29) rfl w4.heap.size a4 (k + 1) c4 (xs.take k ++ [x]) rfl a3 (n - k) (cap - k) (xs.drop k) rfl hac4 ho4 (hi3.keep hac4) (by omega) ?_; intro a5 c5 w5 ho5 hac5))
        all_goals
          go_wp2
          go_ret
          rw [← Hput.out]
          exact ⟨_, _, _, rfl, ho5, hac5⟩
end Go.Proofs.Ytbkihnejgcebpaa
