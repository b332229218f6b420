/- Chapter 1: copies and sides. No condition but a bound on lengths. -/
import Derived.Test.YtbkihnejgcebpaaPileD
namespace Go.Proofs.Ytbkihnejgcebpaa
open Go.RowKit
set_option linter.unusedVariables false
set_option linter.unusedSimpArgs false

theorem belowAlloc (w : World) (o : Obj) : Below w.heap.size w (w.alloc o) := (Below.refl _ _).alloc (Nat.le_refl _) o

set_option maxHeartbeats 800000 in
theorem l1Own_any (ao : Option Addr) (n cap : Nat) (xs : List Int) (w : World) (h : IntsAt w ao n cap xs) (hn : n ≤ 1048576) :
    Calls Try.prog 66 #[.slice ao n cap] w fun e w' => ∃ ao' cap', e = .returned (.slice ao' n cap') ∧ Own w.heap.size w'.heap.size w' ao' n cap' xs ∧ Below w.heap.size w w' := by
  have h1 := h.keep (belowAlloc w (.cells #[] 3))
  have he := Own.empty w
  go_enter Try.func66, Try.ntmps66
  go_wp2_with (at_builtin; refine wpList_cat _ rfl _ _ rfl w.heap.size _ _ 0 0 [] rfl he ao n cap xs rfl h1 (by omega) (by simp) ?_)
  intro ao' cap' w1 ho hc
  have hb := he.chgBelow hc (by simp)
  try simp only [Nat.zero_add, List.nil_append] at ho ⊢
  go_wp2
  go_ret
  exact ⟨_, _, rfl, ho, (belowAlloc w _).trans hb⟩

set_option maxHeartbeats 800000 in
theorem copyOf_any (ao : Option Addr) (n cap : Nat) (xs : List Int) (w : World) (h : IntsAt w ao n cap xs) (hn : n ≤ 1048576) :
    Calls Try.prog 48 #[.slice ao n cap] w fun e w' => ∃ ao' cap', e = .returned (.slice ao' n cap') ∧ Own w.heap.size w'.heap.size w' ao' n cap' xs ∧ Below w.heap.size w w' := by
  obtain ⟨i0, hi, hz0, hz1, hz2⟩ := info_parts Try.infoInt
  have hn' : (n : Int) ≤ 1048576 := by omega
  by_cases hz : n = 0
  · subst hz
    have hxs : xs = [] := List.eq_nil_of_length_eq_zero h.length
    subst hxs
    go_enter Try.func48, Try.ntmps48
    go_wp2_with (at_make; refine wpList_make_full w rfl _ _ _ rfl w.heap.size 3 i0 _ 1 Try.underlying28 hi hz0 hz1 _ _ _ _ 0 rfl rfl rfl rfl (by omega) (Nat.zero_le _) (Nat.le_refl _) ?_)
    intro w1 hown hgrow
    have ho : Own w.heap.size w1.heap.size w1 (some ⟨w.heap.size, 0, none⟩) 0 0 [] := Own.of (by simpa [madeCells] using hown)
    have hb1 : Below w.heap.size w w1 := (Below.refl _ _).grown hgrow (Nat.le_refl _) (fun k hk => by cases hk)
    clear hown hgrow
    generalize hBe : w.heap.size = B at *
    have HBe := Lib.hid hBe; clear hBe
    go_wp2_with (first | (refine wpList_copy_nothing rfl _ _ _ _ rfl 3 Try.underlying28 (by kernel_rfl) _ _ _ _ _ _ rfl rfl (by simp) ?_))
    go_ret
    exact ⟨_, _, rfl, HBe.out ▸ ho, HBe.out ▸ hb1⟩
  · obtain ⟨b, oo, rfl, hb, hc⟩ := h.cell 0 (by omega)
    clear hc
    go_enter Try.func48, Try.ntmps48
    go_wp2_with (at_make; refine wpList_make_full w rfl _ _ _ rfl w.heap.size 3 i0 _ 1 Try.underlying28 hi hz0 hz1 _ _ _ _ n rfl rfl rfl rfl ?_ ?_ (Nat.le_refl _) ?_)
    · rw [hz2]; omega
    · unfold maxLen; omega
    intro w1 hown hgrow
    rw [madeZeros] at hown
    have ho : Own w.heap.size w1.heap.size w1 (some ⟨w.heap.size, 0, none⟩) n n (List.replicate n 0) := Own.of hown
    have hb1 : Below w.heap.size w w1 := (Below.refl _ _).grown hgrow (Nat.le_refl _) (fun k hk => by cases hk)
    have hx := h.keep hb1
    clear hown hgrow hi hz0 hz1 hz2 h
    generalize hBe : w.heap.size = B at *
    have HBe := Lib.hid hBe; clear hBe
    go_wp2_with (refine wpList_copyAll w1 rfl _ _ rfl B _ B n n _ rfl ho ⟨b, oo, none⟩ cap xs rfl hx ?_)
    intro w2 ho2 hc2
    have hb2 : Below B w w2 := hb1.trans (hc2.below (by have := ho.1.lt B rfl; omega) (fun k hk => by omega))
    go_wp2
    go_ret
    exact ⟨_, _, rfl, HBe.out ▸ ho2.mono (Nat.le_refl _) hc2.size, HBe.out ▸ hb2⟩
end Go.Proofs.Ytbkihnejgcebpaa
