/- Chapter 1: how many piles some cards make, by the table. No condition. -/
import Derived.Test.YtmlkgnjenfonfaaPileB
namespace Go.Proofs.Ytmlkgnjenfonfaa
open Go.RowKit
set_option linter.unusedVariables false
set_option linter.unusedSimpArgs false

theorem getD_cells {B E w g n cap xs} (h : Own B E w (some ⟨g, 0, none⟩) n cap xs) (i : Nat) (hi : i < n) : w.cell? ⟨g, i, none⟩ = some (.int .i64 (xs.getD i 0)) := by
  have h1 := World.ownsRow.cellAt h.1 i (by omega)
  have hl := h.length
  rw [h1, List.getElem?_map, List.getElem?_eq_getElem (by omega), List.getD_eq_getElem?_getD, List.getElem?_eq_getElem (by omega)]
  rfl
theorem Own.set {B E w g n cap xs} (h : Own B E w (some ⟨g, 0, none⟩) n cap xs) (i : Nat) (x : Int) :
    Own B E (w.setCell ⟨g, i, none⟩ (.int .i64 x)) (some ⟨g, 0, none⟩) n cap (xs.set i x) ∧ w.grownBy (w.setCell ⟨g, i, none⟩ (.int .i64 x)) (some g) := by
  obtain ⟨h1, h2⟩ := World.ownsRow.stored h.1 i (.int .i64 x)
  exact ⟨⟨by rw [List.map_set]; exact h1, h.2⟩, h2⟩
theorem Own.frozenAt {B E w g n cap xs} (h : Own B E w (some ⟨g, 0, none⟩) n cap xs) (i : Nat) : w.frozen? ⟨g, i, none⟩ = false := World.ownsRow.frozenAt h.1 i
theorem Own.drewN {B E w ao n cap xs} (h : Own B E w ao n cap xs) (q : Nat) : Own B E (w.drewN q) ao n cap xs := h
theorem Own.drew {B E w ao n cap xs} (h : Own B E w ao n cap xs) : Own B E w.drew ao n cap xs := h


set_option maxHeartbeats 1600000 in
set_option maxRecDepth 100000 in
theorem countUpTo_any (n m : Nat) (w : World) (hn : n ≤ 28) (hm : m ≤ 28) :
    Calls Try.prog 64 #[.int .i64 n, .int .i64 m] w fun e w' => e = .returned (.int .i64 (cnt m n)) ∧ Below w.heap.size w w' := by
  obtain ⟨i0, hi, hz0, hz1, hz2⟩ := info_parts Try.infoInt
  have ec : ((n : Int) + 1) = ((n + 1 : Nat) : Int) := by omega
  have Ec := Lib.hid ec; clear ec
  go_enter Try.func64, Try.ntmps64
  go_wp2_with (at_make; refine wpList_make_full w rfl _ _ _ rfl w.heap.size 3 i0 _ 1 Try.underlying22 hi hz0 hz1 _ _ _ _ (n + 1) rfl rfl Ec.out Ec.out ?_ ?_ (Nat.le_refl _) ?_)
  · rw [hz2]; omega
  · unfold maxLen; omega
  · intro w1 hown hgrow
    rw [madeZeros] at hown
    have ho : Own w.heap.size w1.heap.size w1 (some ⟨w.heap.size, 0, none⟩) (n + 1) (n + 1) (List.replicate (n + 1) 0) := Own.of hown
    have hb1 : Below w.heap.size w w1 := (Below.refl _ _).grown hgrow (Nat.le_refl _) (fun k hk => by cases hk)
    generalize hBe : w.heap.size = B at *
    have HBe := Lib.hid hBe; clear hBe
    have hc0 := getD_cells ho 0 (by omega)
    have hf0 := ho.frozenAt 0
    have hst := ho.set 0 1
    rw [tabP_zero n (by omega)] at hst
    clear hi hz0 hz1 hz2 hgrow hown
    have Hst := Lib.hid hst; clear hst
    go_wp2
    clear hc0 hf0
    have ho1 := Hst.out.1
    have hb2 : Below B w (w1.setCell ⟨B, 0, none⟩ (.int .i64 1)) := hb1.setCell (Nat.le_refl _) _
    generalize w1.setCell ⟨B, 0, none⟩ (.int .i64 1) = w2 at *
    clear Hst ho hb1
    go_loopw [6] (fun p wr => ∃ k : Nat, 1 ≤ k ∧ k ≤ m + 1 ∧ p = .int .i64 k ∧ Own B w1.heap.size wr (some ⟨B, 0, none⟩) (n + 1) (n + 1) (tabP (k - 1) (n + 1) n) ∧ Below B w wr) (fun p _ => m + 1 - (intOf p).toNat)
    case atStart => exact ⟨1, by omega, by omega, rfl, ho1, hb2⟩
    case round =>
      obtain ⟨p, hp1, hpm, rfl, ho, hb⟩ := hrel
      clear ho1 hb2
      by_cases hlt : p ≤ m
      · rw [← tabP_start p n hp1 (by omega) (by omega)] at ho
        go_wp2
        go_loopw [7] (fun c wq => ∃ k : Nat, p ≤ k ∧ (k ≤ n + 1 ∨ k = p) ∧ c = .int .i64 k ∧ Own B w1.heap.size wq (some ⟨B, 0, none⟩) (n + 1) (n + 1) (tabP p k n) ∧ Below B w wq) (fun c _ => n + 1 - (intOf c).toNat)
        case atStart => exact ⟨p, by omega, .inr rfl, rfl, ho, hb⟩
        case round =>
          obtain ⟨c, hpc, hcn, rfl, hoc, hbc⟩ := hrel
          by_cases hlt2 : c ≤ n
          · have hc1 := getD_cells hoc c (by omega)
            have hc2 := getD_cells hoc (c - p) (by omega)
            rw [tabP_getD p c n c (by omega), if_neg (by omega)] at hc1
            rw [tabP_getD p c n (c - p) (by omega), if_pos (by omega)] at hc2
            have hfz := hoc.frozenAt c
            have l1 := cnt_le (p - 1) (by omega) c (by omega)
            have l2 := cnt_le p (by omega) (c - p) (by omega)
            have hst := hoc.set c ((cnt (p - 1) c : Int) + (cnt p (c - p) : Int))
            rw [tabP_set p c n hp1 (by omega) hpc hlt2 (by omega) _ rfl] at hst
            generalize cnt (p - 1) c = x at *
            generalize cnt p (c - p) = y at *
            have Hst := Lib.hid hst; clear hst
            have Hoc := Lib.hid hoc; clear hoc
            have Ho := Lib.hid ho; clear ho
            go_wp2
            go_region
            all_goals
              go_wp2
              go_roundw
              case rel => exact ⟨c + 1, by omega, .inl (by omega), by go_num, Hst.out.1, (hbc.setCell (Nat.le_refl _) _).drew⟩
              case measure => simp [intOf]; omega
          · go_wp2
            go_roundw
            case rel => exact ⟨p + 1, by omega, by omega, by go_num, by rw [tabP_high p c n (by omega)] at hoc; exact hoc, hbc⟩
            case measure => simp [intOf]; omega
      · have hcell := getD_cells ho n (by omega)
        obtain rfl : p = m + 1 := by omega
        rw [tabP_getD _ _ n n (by omega), if_pos (by omega), show m + 1 - 1 = m by omega] at hcell
        have Ho := Lib.hid ho; clear ho
        go_wp2
        go_ret
        exact ⟨rfl, HBe.out ▸ hb⟩

def mCountPiles (n : Int) : Int × Bool := if 0 ≤ n ∧ n ≤ 28 then (cnt n.toNat n.toNat, true) else (0, false)
/-! ### Staircases -/
def stairs (k : Nat) : List Int := (List.range k).map fun i => ((k - i : Nat) : Int)
theorem stairs_length (k : Nat) : (stairs k).length = k := by simp [stairs]
def mStaircase (k : Int) : List Int × Bool := if 0 ≤ k ∧ k ≤ 7 then (stairs k.toNat, true) else ([], false)
theorem mStaircase_bound (k : Int) : (mStaircase k).1.length ≤ 1048576 := by
  unfold mStaircase
  split
  · simp [stairs]; omega
  · simp
end Go.Proofs.Ytmlkgnjenfonfaa
