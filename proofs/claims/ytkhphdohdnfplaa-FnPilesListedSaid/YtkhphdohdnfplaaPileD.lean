/- Chapter 1: staircases. No condition. -/
import Derived.Test.YtkhphdohdnfplaaPileC
import Derived.Test.YtkhphdohdnfplaaPush
namespace Go.Proofs.Ytkhphdohdnfplaa
open Go.RowKit
set_option linter.unusedVariables false
set_option linter.unusedSimpArgs false

theorem fill_set (xs : List Int) (k n : Nat) (x : Int) (hx : xs.getD k 0 = x) (hk : k < n) (hl : xs.length = n) :
    (xs.take k ++ List.replicate (n - k) 0).set k x = xs.take (k + 1) ++ List.replicate (n - (k + 1)) 0 := by
  subst hx
  apply List.ext_getElem
  · simp; omega
  · intro i h1 h2
    simp at h1
    rw [List.getElem_set]
    split
    · next h => subst h; simp [List.getElem_append, List.getElem_take, show k < min (k+1) xs.length by omega, List.getD_eq_getElem?_getD, show k < xs.length by omega]
    · next h =>
      simp only [List.getElem_append, List.length_take, List.getElem_take, List.getElem_replicate]
      by_cases hi : i < k
      · simp [show i < min k xs.length by omega, show i < min (k+1) xs.length by omega]
      · simp [show ¬ i < min k xs.length by omega, show ¬ i < min (k+1) xs.length by omega]
theorem fill_all (xs : List Int) (n : Nat) (hl : xs.length = n) : xs.take n ++ List.replicate (n - n) 0 = xs := by
  simp [List.take_of_length_le (Nat.le_of_eq hl)]

theorem stairs_getD (k i : Nat) (h : i < k) : (stairs k).getD i 0 = (k : Int) - i := by
  unfold stairs
  rw [List.getD_eq_getElem?_getD, List.getElem?_map, List.getElem?_range h]
  simp; omega

set_option maxHeartbeats 800000 in
theorem piStairs_any (k : Nat) (w : World) (hk : k ≤ 7) :
    Calls Try.prog 110 #[.int .i64 k] w fun e w' => ∃ ao cap, e = .returned (.slice ao k cap) ∧ Own w.heap.size w'.heap.size w' ao k cap (stairs k) ∧ Below w.heap.size w w' := by
  go_enter Try.func110, Try.ntmps110
  go_wp2
  go_loopw [0, 3] (fun q v wr => ∃ j ao cap, j ≤ k ∧ q = .int .i64 ((k : Int) - (j : Nat)) ∧ v = .slice ao j cap ∧ Own w.heap.size wr.heap.size wr ao j cap ((stairs k).take j) ∧ Below w.heap.size w wr) (fun q _ _ => (intOf q).toNat)
  case atStart => exact ⟨0, none, 0, Nat.zero_le _, by simp, rfl, Own.nil _ _ _, Below.refl _ _⟩
  case round =>
    obtain ⟨j, ao, cap, hj, rfl, rfl, hown, hb⟩ := hrel
    by_cases hlt : j < k
    · have hx := stairs_getD k j hlt
      have htk := take_snoc hx hlt (stairs_length k)
      have Hx := Lib.hid hx; clear hx
      have Htk := Lib.hid htk; clear htk
      go_wp2_with (at_builtin; refine wpList_push wr rfl _ _ rfl w.heap.size wr.heap.size ao j cap _ rfl hown _ rfl (by omega) hb.size ?_)
      intro ao' cap' w1 ho1 hc1
      have hb1 := hown.chgBelow hc1 hb.size
      clear hown
      go_wp2
      go_roundw
      case rel => exact ⟨j + 1, ao', cap', by omega, valI (by omega), rfl, by rw [Htk.out]; exact ho1, hb.trans hb1⟩
      case measure => simp [intOf]; omega
    · go_wp2
      go_ret
      obtain rfl : k = j := by omega
      rw [take_all (stairs_length k)] at hown
      exact ⟨ao, cap, rfl, hown, hb⟩

theorem spec_Staircase (k : Int) (w : World) :
    Calls Try.prog 64 #[.int .i64 k] w fun e w' => ∃ ao n cap, e = .returned (.tuple #[.slice ao n cap, .bool (mStaircase k).2]) ∧ Own w.heap.size w'.heap.size w' ao n cap (mStaircase k).1 ∧ Below w.heap.size w w' := by
  by_cases hn : 0 ≤ k ∧ k ≤ 7
  · have hin := decide_eq_true hn
    obtain ⟨m, rfl⟩ := Int.eq_ofNat_of_zero_le hn.1
    have hm : mStaircase m = (stairs m, true) := by unfold mStaircase; rw [if_pos hn]; rfl
    have hcon : Calls Try.prog 88 #[.int .i64 m, .int .i64 0, .int .i64 7] w fun e w' => e = .returned (.bool true) ∧ w = w' := by
      have := l1In_any m 0 7 w; rw [hin] at this; exact this
    have Hn := Lib.hid hn; clear hn
    have Hm := Lib.hid hm; clear hm
    have Hin := Lib.hid hin; clear hin
    have Hcon := Lib.hid hcon; clear hcon
    go_enter Try.func64, Try.ntmps64
    go_wp2_with (first | (go_at_call 88; refine (Hcon.out).mono ?_; rintro e w' ⟨rfl, rfl⟩) | (go_at_call 110; refine (piStairs_any m _ (by have := Hn.out; omega)).mono ?_; rintro e w' ⟨ao, cap, rfl, ho, hb⟩))
    go_ret2
    rw [Hm.out]
    exact ⟨ao, _, cap, rfl, ho, hb⟩
  · have hin := decide_eq_false hn
    have hm : mStaircase k = ([], false) := by unfold mStaircase; rw [if_neg hn]
    have hcon : Calls Try.prog 88 #[.int .i64 k, .int .i64 0, .int .i64 7] w fun e w' => e = .returned (.bool false) ∧ w = w' := by
      have := l1In_any k 0 7 w; rw [hin] at this; exact this
    have Hn := Lib.hid hn; clear hn
    have Hm := Lib.hid hm; clear hm
    have Hin := Lib.hid hin; clear hin
    have Hcon := Lib.hid hcon; clear hcon
    go_enter Try.func64, Try.ntmps64
    go_wp2_with (go_at_call 88; refine (Hcon.out).mono ?_; rintro e w' ⟨rfl, rfl⟩)
    go_ret2
    rw [Hm.out]
    exact ⟨none, 0, 0, rfl, Own.nil _ _ _, Below.refl _ _⟩

set_option maxHeartbeats 800000 in
theorem impl_Staircase (k : Int) (w : World) :
    Calls Try.prog 63 #[.int .i64 k] w fun e w' => ∃ ao n cap, e = .returned (.tuple #[.slice ao n cap, .bool (mStaircase k).2]) ∧ Own w.heap.size w'.heap.size w' ao n cap (mStaircase k).1 ∧ Below w.heap.size w w' := by
  have hhf : ∀ w : World, Calls Try.prog 66 #[.int .i64 28] w fun e w' => e = .returned (.tuple #[.int .i64 7, .int .i64 0, .bool true]) ∧ Below w.heap.size w w' := fun w => impl_HeightFor 28 w
  have Hhf := Lib.hid hhf; clear hhf
  by_cases hn : 0 ≤ k ∧ k ≤ 7
  · obtain ⟨m, rfl⟩ := Int.eq_ofNat_of_zero_le hn.1
    have hm : mStaircase m = (stairs m, true) := by unfold mStaircase; rw [if_pos hn]; rfl
    have hm7 : m ≤ 7 := by omega
    have Hn := Lib.hid hn; clear hn
    have Hm := Lib.hid hm; clear hm
    obtain ⟨i0, hi, hz0, hz1, hz2⟩ := info_parts Try.infoInt
    go_enter Try.func63, Try.ntmps63
    go_wp2_with (first | (go_at_call 66; refine (Hhf.out _).mono ?_; rintro e w1 ⟨rfl, hb1⟩) | (go_at_call 84; refine (inRange_yes _ _ _ Hn.out).mono ?_; rintro e w' ⟨rfl, rfl⟩) | (at_make; refine wpList_make_full w1 rfl _ _ _ rfl w1.heap.size 3 i0 _ 1 Try.underlying24 hi hz0 hz1 _ _ _ _ m rfl rfl rfl rfl ?_ ?_ (Nat.le_refl _) ?_))
    · rw [hz2]; omega
    · unfold maxLen; omega
    · intro w2 hown hgrow
      rw [madeZeros] at hown
      have ho : Own w1.heap.size w2.heap.size w2 (some ⟨w1.heap.size, 0, none⟩) m m (List.replicate m 0) := Own.of hown
      have hb2 : Below w.heap.size w w2 := belowTrans hb1 ((Below.refl _ _).grown hgrow (Nat.le_refl _) (fun k hk => by cases hk)) (Nat.le_refl _)
      have hsz := hb1.size
      clear hown hgrow hi hz0 hz1 hz2 hb1
      generalize hBe : w1.heap.size = B at *
      have HBe := Lib.hid hBe; clear hBe
      go_wp2
      go_loopw [22] (fun i wr => ∃ j : Nat, j ≤ m ∧ i = .int .i64 j ∧ Own B w2.heap.size wr (some ⟨B, 0, none⟩) m m ((stairs m).take j ++ List.replicate (m - j) 0) ∧ Below w.heap.size w wr ∧ w2.heap.size ≤ wr.heap.size) (fun i _ => m - (intOf i).toNat)
      case atStart => exact ⟨0, Nat.zero_le _, rfl, by simpa using ho, hb2, Nat.le_refl _⟩
      case round =>
        obtain ⟨j, hj, rfl, hown, hb, hsz2⟩ := hrel
        by_cases hlt : j < m
        · have hfz := hown.frozenAt j
          have hcell := getD_cells hown j hlt
          have hst := hown.set j ((m : Int) - j)
          rw [fill_set (stairs m) j m _ (stairs_getD m j hlt) hlt (stairs_length m)] at hst
          generalize ((stairs m).take j ++ List.replicate (m - j) 0).getD j 0 = y at *
          have Hst := Lib.hid hst; clear hst
          have Hown := Lib.hid hown; clear hown
          clear ho hb2
          go_wp2
          go_roundw
          case rel => exact ⟨j + 1, by omega, by go_num, Hst.out.1, hb.setCell hsz _, Nat.le_trans hsz2 (Hst.out.2).size⟩
          case measure => simp [intOf]; omega
        · go_wp2
          go_ret2
          obtain rfl : m = j := by omega
          rw [fill_all _ _ (stairs_length m)] at hown
          rw [Hm.out]
          exact ⟨_, _, _, rfl, hown.mono hsz hsz2, hb⟩
  · have hm : mStaircase k = ([], false) := by unfold mStaircase; rw [if_neg hn]
    have Hn := Lib.hid hn; clear hn
    have Hm := Lib.hid hm; clear hm
    go_enter Try.func63, Try.ntmps63
    go_wp2_with (first | (go_at_call 66; refine (Hhf.out _).mono ?_; rintro e w1 ⟨rfl, hb1⟩) | (go_at_call 84; refine (inRange_no _ _ _ Hn.out).mono ?_; rintro e w' ⟨rfl, rfl⟩))
    go_ret2
    rw [Hm.out]
    exact ⟨none, 0, 0, rfl, Own.nil _ _ _, hb1⟩
end Go.Proofs.Ytkhphdohdnfplaa
