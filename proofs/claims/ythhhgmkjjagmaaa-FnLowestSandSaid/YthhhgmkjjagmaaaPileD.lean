/- Chapter 1: staircases. No condition. -/
import Derived.Test.YthhhgmkjjagmaaaPileC
import Derived.Test.YthhhgmkjjagmaaaPush
namespace Go.Proofs.Ythhhgmkjjagmaaa
open Go.RowKit
set_option linter.unusedVariables false
set_option linter.unusedSimpArgs false

theorem fill_set (xs : List Int) (k n : Nat) (x : Int) (hx : xs.getD k 0 = x) (hk : k < n) (hl : xs.length = n) :
    (xs.take k ++ List.replicate (n - k) 0).set k x = xs.take (k + 1) ++ List.replicate (n - (k + 1)) 0 := by
  subst hx
  apply List.ext_getElem
  · simp; omega
  · intro i h1 h2
    simp at h1
    rw [List.getElem_set]
    split
    · next h => subst h; simp [List.getElem_append, List.getElem_take, show k < min (k+1) xs.length by omega, List.getD_eq_getElem?_getD, show k < xs.length by omega]
    · next h =>
      simp only [List.getElem_append, List.length_take, List.getElem_take, List.getElem_replicate]
      by_cases hi : i < k
      · simp [show i < min k xs.length by omega, show i < min (k+1) xs.length by omega]
      · simp [show ¬ i < min k xs.length by omega, show ¬ i < min (k+1) xs.length by omega]
theorem fill_all (xs : List Int) (n : Nat) (hl : xs.length = n) : xs.take n ++ List.replicate (n - n) 0 = xs := by
  simp [List.take_of_length_le (Nat.le_of_eq hl)]

theorem stairs_getD (k i : Nat) (h : i < k) : (stairs k).getD i 0 = (k : Int) - i := by
  unfold stairs
  rw [List.getD_eq_getElem?_getD, List.getElem?_map, List.getElem?_range h]
  simp; omega

set_option maxHeartbeats 800000 in
theorem piStairs_any (k : Nat) (w : World) (hk : k ≤ 7) :
    Calls Try.prog 66 #[.int .i64 k] w fun e w' => ∃ ao cap, e = .returned (.slice ao k cap) ∧ Own w.heap.size w'.heap.size w' ao k cap (stairs k) ∧ Below w.heap.size w w' := by
  go_enter Try.func66, Try.ntmps66
  go_wp2
  go_loopw [0, 3] (fun q v wr => ∃ j ao cap, j ≤ k ∧ q = .int .i64 ((k : Int) - (j : Nat)) ∧ v = .slice ao j cap ∧ Own w.heap.size wr.heap.size wr ao j cap ((stairs k).take j) ∧ Below w.heap.size w wr) (fun q _ _ => (intOf q).toNat)
  case atStart => exact ⟨0, none, 0, Nat.zero_le _, by simp, rfl, Own.nil _ _ _, Below.refl _ _⟩
  case round =>
    obtain ⟨j, ao, cap, hj, rfl, rfl, hown, hb⟩ := hrel
    by_cases hlt : j < k
    · have hx := stairs_getD k j hlt
      have htk := take_snoc hx hlt (stairs_length k)
      have Hx := Lib.hid hx; clear hx
      have Htk := Lib.hid htk; clear htk
      go_wp2_with (at_builtin; refine wpList_push wr rfl _ _ rfl w.heap.size wr.heap.size ao j cap _ rfl hown _ rfl (by omega) hb.size ?_)
      intro ao' cap' w1 ho1 hc1
      have hb1 := hown.chgBelow hc1 hb.size
      clear hown
      go_wp2
      go_roundw
      case rel => exact ⟨j + 1, ao', cap', by omega, valI (by omega), rfl, by rw [Htk.out]; exact ho1, hb.trans hb1⟩
      case measure => simp [intOf]; omega
    · go_wp2
      go_ret
      obtain rfl : k = j := by omega
      rw [take_all (stairs_length k)] at hown
      exact ⟨ao, cap, rfl, hown, hb⟩

end Go.Proofs.Ythhhgmkjjagmaaa
