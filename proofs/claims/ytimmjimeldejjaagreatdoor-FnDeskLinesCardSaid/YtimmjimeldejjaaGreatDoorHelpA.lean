/- The laws' own helpers: a copy and an equality. No condition but a bound on lengths. -/
import Derived.Test.YtimmjimeldejjaaGreatDoorBase
namespace Go.Proofs.YtimmjimeldejjaaGreatDoor
open Go.RowKit
set_option linter.unusedVariables false
set_option linter.unusedSimpArgs false

theorem madeZeros (n : Nat) : (madeCells #[Value.int .i64 0] n).toList = (List.replicate n (0 : Int)).map (Value.int .i64) := by
  apply List.ext_getElem
  · simp [size_madeCells]
  · intro i h1 h2
    simp [madeCells, Value.cells, Nat.mod_one]

theorem set_zeros (xs : List Int) (k n : Nat) (x : Int) (hx : xs.getD k 0 = x) (hk : k < n) (hl : xs.length = n) :
    (((xs.take k ++ List.replicate (n - k) 0).map (Value.int .i64)).set k (Value.int .i64 x)) = (xs.take (k + 1) ++ List.replicate (n - (k + 1)) 0).map (Value.int .i64) := by
  subst hx
  apply List.ext_getElem
  · simp; omega
  · intro i h1 h2
    simp at h1
    rw [List.getElem_set]
    split
    · next h => subst h; simp [List.getElem_append, List.getElem_take, show k < min (k+1) xs.length by omega, List.getD_eq_getElem?_getD, show k < xs.length by omega]
    · next h =>
      simp only [List.getElem_map, List.getElem_append, List.length_take, List.getElem_take, List.getElem_replicate]
      by_cases hi : i < k
      · simp [show i < min k xs.length by omega, show i < min (k+1) xs.length by omega]
      · simp [show ¬ i < min k xs.length by omega, show ¬ i < min (k+1) xs.length by omega]

set_option maxHeartbeats 400000 in
theorem toIntS_any (ao : Option Addr) (n cap : Nat) (xs : List Int) (w : World) (h : IntsAt w ao n cap xs) (hn : n ≤ 1048576) :
    Calls Tryz.prog 24 #[.slice ao n cap] w fun e w' => ∃ ao' cap', e = .returned (.slice ao' n cap') ∧ Own w.heap.size w'.heap.size w' ao' n cap' xs ∧ Below w.heap.size w w' := by
  have hn' : (n : Int) ≤ 1048576 := by omega
  obtain ⟨i0, hi, hz0, hz1, hz2⟩ := info_parts Tryz.infoInt
  go_enter Tryz.func24, Tryz.ntmps24
  go_wp2_with (at_make; refine wpList_make_full w rfl _ _ _ rfl w.heap.size 3 i0 _ 1 Tryz.underlying24 hi hz0 hz1 _ _ _ _ n rfl rfl rfl rfl ?_ ?_ (Nat.le_refl _) ?_)
  · rw [hz2]; omega
  · unfold maxLen; omega
  · intro w1 hown hgrow
    rw [madeZeros] at hown
    have hb1 : Below w.heap.size w w1 := (Below.refl _ _).grown hgrow (Nat.le_refl _) (fun k hk => by cases hk)
    have hg1 : w.heap.size < w1.heap.size := by
      have := hown.lt w.heap.size rfl
      exact this.2
    generalize hB : w.heap.size = B at *
    have HB := Lib.hid hB; clear hB
    clear hi hz0 hz1 hz2 hgrow
    go_wp2
    go_loopw [4] (fun i wr => ∃ k : Nat, k ≤ n ∧ i = .int .i64 k ∧ wr.ownsRow B 3 1 (.slice (some ⟨B, 0, none⟩) n n) n ((xs.take k ++ List.replicate (n - k) 0).map (Value.int .i64)) ∧ Below B w wr)
      (fun i _ => n - (intOf i).toNat)
    case atStart => exact ⟨0, Nat.zero_le _, rfl, by simpa using hown, hb1⟩
    case round =>
      obtain ⟨k, hk, rfl, hown, hb⟩ := hrel
      by_cases hlt : k < n
      · have h1 := h.below hb (by intro b o e; obtain ⟨b', o', e', hl, _⟩ := h.cell k hlt; rw [e] at e'; cases e'; rw [HB.out] at hl; exact hl)
        obtain ⟨b, o, rfl, hb', hc⟩ := h1.cell k hlt
        have hck := hc k hlt
        have hfz := hown.frozenAt k
        have hcell := hown.cellAt k (by omega)
        have hst := fun x : Int => hown.stored k (Value.int .i64 x)
        generalize hx : xs.getD k 0 = x at hck
        have Hx := Lib.hid hx; clear hx
        have Hst := Lib.hid (hst x); clear hst
        have Hown := Lib.hid hown; clear hown
        rw [List.getElem?_map, List.getElem?_eq_getElem (by simp; have := h.length; omega)] at hcell
        generalize (xs.take k ++ List.replicate (n - k) 0)[k]'(by simp; have := h.length; omega) = y at hcell
        simp only [Option.map_some] at hcell
        clear hc
        go_wp2
        go_roundw
        case rel =>
          refine ⟨k + 1, by omega, by go_num, ?_, hb.setCell (Nat.le_refl _) _⟩
          have := (Hst.out).1
          rw [set_zeros xs k n x Hx.out hlt h.length] at this
          exact this
        case measure => simp [intOf]; omega
      · go_wp2
        go_ret
        obtain rfl : n = k := by omega
        obtain rfl := HB.out
        refine ⟨_, _, rfl, ?_, hb⟩
        have e : xs.take n ++ List.replicate (n - n) 0 = xs := by simp [List.take_of_length_le (Nat.le_of_eq h.length)]
        rw [e] at hown
        exact Own.of hown

theorem IntsAt.drewN {w ao n cap xs} (h : IntsAt w ao n cap xs) (q : Nat) : IntsAt (w.drewN q) ao n cap xs := ⟨h.length, h.le, h.max, h.isNil, h.cell⟩

set_option maxHeartbeats 400000 in
theorem eqIntS_quiet (ao bo : Option Addr) (n m cap cap' : Nat) (xs ys : List Int) (w : World) (hx : IntsAt w ao n cap xs) (hy : IntsAt w bo m cap' ys) :
    Calls Tryz.prog 25 #[.slice ao n cap, .slice bo m cap'] w fun e w' => e = .returned (.bool (decide (xs = ys))) ∧ ∃ q, w' = w.drewN q := by
  have hn' := hx.lenInt
  have hm' := hy.lenInt
  by_cases hnm : n = m
  · subst hnm
    go_enter Tryz.func25, Tryz.ntmps25
    go_wp2
    go_loopw [5] (fun i wr => ∃ k : Nat, k ≤ n ∧ i = .int .i64 k ∧ xs.take k = ys.take k ∧ ∃ q, wr = w.drewN q)
      (fun i _ => n - (intOf i).toNat)
    case atStart => exact ⟨0, Nat.zero_le _, rfl, rfl, 0, rfl⟩
    case round =>
      obtain ⟨k, hk, rfl, heq, q, rfl⟩ := hrel
      have Heq := Lib.hid heq; clear heq
      by_cases hlt : k < n
      · have hl1 := Lib.hid hx.length
        have hl2 := Lib.hid hy.length
        obtain ⟨b1, o1, rfl, hb1, hc1⟩ := hx.cell k hlt
        have hck1 := hc1 k hlt
        clear hc1
        generalize hx1 : xs.getD k 0 = x at hck1
        have Hx1 := Lib.hid hx1; clear hx1
        obtain ⟨b2, o2, rfl, hb2, hc2⟩ := hy.cell k hlt
        have hck2 := hc2 k hlt
        clear hc2
        generalize hx2 : ys.getD k 0 = y at hck2
        have Hx2 := Lib.hid hx2; clear hx2
        go_wp2
        go_quiet (fail)
        go_wp2
        · go_ret
          have hne : xs ≠ ys := fun e => by
            have h3 := Hx1.out; have h4 := Hx2.out
            rw [e, h4] at h3; subst h3; simp at *
          exact ⟨by simp [hne], _, World.drewN_drewN _ _ _⟩
        · have hxy : x = y := by rename_i hh; simpa using hh
          go_roundw
          case rel => exact ⟨k + 1, by omega, by go_num, by rw [take_snoc Hx1.out hlt hl1.out, take_snoc Hx2.out hlt hl2.out, Heq.out, hxy], _, rfl⟩
          case measure => simp [intOf]; omega
      · go_wp2
        go_ret
        obtain rfl : n = k := by omega
        have e := Heq.out
        rw [take_all hx.length, take_all hy.length] at e
        exact ⟨by simp [e], _, rfl⟩
  · have hne : ((n : Int) != (m : Int)) = true := by simp; omega
    have hxy : xs ≠ ys := fun e => hnm (by rw [← hx.length, ← hy.length, e])
    go_enter Tryz.func25, Tryz.ntmps25
    go_wp2
    go_ret
    exact ⟨by simp [hxy], 0, rfl⟩

theorem eqIntS_any (ao bo : Option Addr) (n m cap cap' : Nat) (xs ys : List Int) (w : World) (hx : IntsAt w ao n cap xs) (hy : IntsAt w bo m cap' ys) :
    Calls Tryz.prog 25 #[.slice ao n cap, .slice bo m cap'] w fun e w' => e = .returned (.bool (decide (xs = ys))) ∧ Below w.heap.size w w' :=
  (eqIntS_quiet ao bo n m cap cap' xs ys w hx hy).mono fun e w' ⟨a, q, b⟩ => ⟨a, b ▸ belowDrewN (Below.refl _ _) q⟩

end Go.Proofs.YtimmjimeldejjaaGreatDoor
