/- Chapter 1: the side. No condition. -/
import Derived.Test.YtbkihnejgcebpaaGreatDoorPileE
import Derived.Test.YtbkihnejgcebpaaGreatDoorGa
namespace Go.Proofs.YtbkihnejgcebpaaGreatDoor
open Go.RowKit
set_option linter.unusedVariables false
set_option linter.unusedSimpArgs false

theorem isPiles_yes (ao : Option Addr) (n cap : Nat) (xs : List Int) (w : World) (h : IntsAt w ao n cap xs) (hg : Good xs) :
    Calls Tryz.prog 17 #[.slice ao n cap] w fun e w' => e = .returned (.bool true) ∧ w = w' := by
  have := isPiles_any ao n cap xs w h; rw [good_iff.2 hg] at this; exact this
theorem isPiles_no (ao : Option Addr) (n cap : Nat) (xs : List Int) (w : World) (h : IntsAt w ao n cap xs) (hg : goodB xs = false) :
    Calls Tryz.prog 17 #[.slice ao n cap] w fun e w' => e = .returned (.bool false) ∧ w = w' := by
  have := isPiles_any ao n cap xs w h; rw [hg] at this; exact this
theorem piGood_yes (ao : Option Addr) (n cap : Nat) (xs : List Int) (w : World) (h : IntsAt w ao n cap xs) (hg : Good xs) :
    Calls Tryz.prog 60 #[.slice ao n cap] w fun e w' => e = .returned (.bool true) ∧ w = w' := by
  have := piGood_any ao n cap xs w h; rw [good_iff.2 hg] at this; exact this
theorem piGood_no (ao : Option Addr) (n cap : Nat) (xs : List Int) (w : World) (h : IntsAt w ao n cap xs) (hg : goodB xs = false) :
    Calls Tryz.prog 60 #[.slice ao n cap] w fun e w' => e = .returned (.bool false) ∧ w = w' := by
  have := piGood_any ao n cap xs w h; rw [hg] at this; exact this

set_option maxHeartbeats 1600000 in
theorem impl_SideOf (ao : Option Addr) (n cap : Nat) (xs : List Int) (w : World) (h : IntsAt w ao n cap xs) :
    Calls Tryz.prog 16 #[.slice ao n cap] w fun e w' => ∃ ao' n' cap', e = .returned (.tuple #[.slice ao' n' cap', .bool (mSideOf xs).2]) ∧ Own w.heap.size w'.heap.size w' ao' n' cap' (mSideOf xs).1 ∧ Below w.heap.size w w' := by
  cases hg : goodB xs
  · have hm : mSideOf xs = ([], false) := by unfold mSideOf; rw [hg]; rfl
    have Hg := Lib.hid hg; clear hg
    have Hm := Lib.hid hm; clear hm
    go_enter Tryz.func16, Tryz.ntmps16
    go_wp2_with (go_at_call 17; refine (isPiles_no _ _ _ _ _ h Hg.out).mono ?_; rintro e w' ⟨rfl, rfl⟩)
    go_ret2
    rw [Hm.out]
    exact ⟨none, 0, 0, rfl, Own.nil _ _ _, Below.refl _ _⟩
  · have hr : mSideOf xs = (sideL xs, true) := by unfold mSideOf; rw [hg]; rfl
    have hG := good_iff.1 hg
    have hlen := hG.len
    have hl0 := h.length
    have hh := hG.head
    have Hg := Lib.hid hg; clear hg
    have Hr := Lib.hid hr; clear hr
    by_cases hz : n = 0
    · have hxs : xs = [] := List.eq_nil_of_length_eq_zero (by omega)
      subst hz
      subst hxs
      go_enter Tryz.func16, Tryz.ntmps16
      go_wp2_with (go_at_call 17; refine (isPiles_yes _ _ _ _ _ h hG).mono ?_; rintro e w' ⟨rfl, rfl⟩)
      go_ret2
      rw [Hr.out]
      exact ⟨_, _, _, rfl, Own.empty w, belowAlloc w _⟩
    · have hn : (n : Int) ≤ 28 := by omega
      have hne : ((n : Int) == 0) = false := by simp; omega
      obtain ⟨i0, hi, hz0, hz1, hz2⟩ := info_parts Tryz.infoInt
      generalize hm : (xs.headD 0).toNat = m at *
      have hm28 : m ≤ 28 := by omega
      have hx0 : xs.getD 0 0 = (m : Int) := by rw [← head_getD]; omega
      have hle : ∀ x ∈ xs, 1 ≤ x ∧ x ≤ m := fun x hx => ⟨(hG.mem hx).1, by have := good_le_head hG hx; omega⟩
      have hl1 := Lib.hid hl0
      obtain ⟨b, oo, rfl, hbl, hc⟩ := h.cell 0 (by omega)
      have hc0 := hc 0 (by omega)
      rw [hx0] at hc0
      simp only [Nat.add_zero] at hc0
      clear hc hl0
      have Hm := Lib.hid hm; clear hm
      have HG := Lib.hid hG; clear hG
      have Hx0 := Lib.hid hx0; clear hx0
      have Hh := Lib.hid hh; clear hh
      have Hle := Lib.hid hle; clear hle
      go_enter Tryz.func16, Tryz.ntmps16
      go_wp2_with (first | (go_at_call 17; refine (isPiles_yes _ _ _ _ _ h HG.out).mono ?_; rintro e w' ⟨rfl, rfl⟩) | (at_make; refine wpList_make_full w rfl _ _ _ rfl w.heap.size 3 i0 _ 1 Tryz.underlying24 hi hz0 hz1 _ _ _ _ m rfl rfl rfl rfl ?_ ?_ (Nat.le_refl _) ?_))
      · rw [hz2]; omega
      · unfold maxLen; omega
      intro w1 hown hgrow
      rw [madeZeros, sideT_zero xs m] at hown
      have ho : Own w.heap.size w1.heap.size w1 (some ⟨w.heap.size, 0, none⟩) m m (sideT xs m 0 0) := Own.of hown
      have hb1 : Below w.heap.size w w1 := (Below.refl _ _).grown hgrow (Nat.le_refl _) (fun k hk => by cases hk)
      clear hown hgrow hi hz0 hz1 hz2 hc0
      generalize hBe : w.heap.size = B at *
      have HBe := Lib.hid hBe; clear hBe
      go_wp2
      go_loopw [21] (fun i wr => ∃ j : Nat, j ≤ n ∧ i = .int .i64 j ∧ Own B w1.heap.size wr (some ⟨B, 0, none⟩) m m (sideT xs m j 0) ∧ Below B w wr ∧ w1.heap.size ≤ wr.heap.size) (fun i _ => n - (intOf i).toNat)
      case atStart => exact ⟨0, Nat.zero_le _, rfl, ho, hb1, Nat.le_refl _⟩
      case round =>
        obtain ⟨j, hj, rfl, hown, hb, hsz⟩ := hrel
        clear ho hb1
        by_cases hlt : j < n
        · have h1 := h.below hb (by intro b' o' e; cases e; have := HBe.out; omega)
          obtain ⟨b', oo', e', hbl', hc⟩ := h1.cell j hlt
          cases e'
          have hck := hc j hlt
          clear hc h1
          generalize hx : xs.getD j 0 = x at hck
          have hxm := Hle.out x (getD_mem hx hlt hl1.out)
          have Hx := Lib.hid hx; clear hx
          go_wp2
          go_loopw [26] (fun i wq => ∃ k : Nat, (k : Int) ≤ x ∧ i = .int .i64 k ∧ Own B w1.heap.size wq (some ⟨B, 0, none⟩) m m (sideT xs m j k) ∧ Below B w wq ∧ w1.heap.size ≤ wq.heap.size) (fun i _ => (x - intOf i).toNat)
          case atStart => exact ⟨0, by omega, rfl, hown, hb, hsz⟩
          case round =>
            obtain ⟨k, hk, rfl, hoq, hbq, hszq⟩ := hrel
            clear hown hb hsz hck
            by_cases hlt2 : (k : Int) < x
            · have hcell := getD_cells hoq k (by omega)
              rw [sideT_getD xs m j k k (by omega), if_neg (by omega)] at hcell
              simp only [Nat.add_zero] at hcell
              have hfz := hoq.frozenAt k
              have hal := above_le (xs.take j) k
              have hal2 : (xs.take j).length ≤ 28 := by have := HG.out.len; simp; omega
              have hst := hoq.set k (((above (xs.take j) k : Nat) : Int) + 1)
              rw [sideT_set xs m j k (by omega) _ rfl] at hst
              generalize above (xs.take j) (k : Int) = q at *
              have Hst := Lib.hid hst; clear hst
              have Hoq := Lib.hid hoq; clear hoq
              go_wp2
              go_roundw
              case rel => exact ⟨k + 1, by omega, by go_num, Hst.out.1, hbq.setCell (Nat.le_refl _) _, Nat.le_trans hszq (Hst.out.2).size⟩
              case measure => simp [intOf]; omega
            · obtain rfl : x = k := by omega
              have hnext := sideT_next xs m j n (k : Int) hlt hl1.out Hx.out (by omega)
              simp only [Int.toNat_natCast] at hnext
              rw [hnext] at hoq
              clear hnext
              go_wp2
              go_roundw
              case rel => exact ⟨j + 1, by omega, by go_num, hoq, hbq, hszq⟩
              case measure => simp [intOf]; omega
        · go_wp2
          go_ret2
          obtain rfl : n = j := by omega
          have e := sideT_all xs n hl1.out
          rw [Hm.out] at e
          rw [e] at hown
          obtain rfl := HBe.out
          rw [Hr.out]
          exact ⟨_, _, _, rfl, hown.mono (Nat.le_refl _) hsz, hb⟩
end Go.Proofs.YtbkihnejgcebpaaGreatDoor
