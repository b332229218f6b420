/- Chapter 7: slices.Repeat of one number. No condition but a bound. -/
import Derived.Test.YtbkihnejgcebpaaPush
import Derived.Test.YtbkihnejgcebpaaPileE
import Derived.Laws.CopyOwn
import Derived.Deep.RegionLaw
namespace Go.Proofs.Ytbkihnejgcebpaa
open Go.RowKit
set_option linter.unusedVariables false
set_option linter.unusedSimpArgs false
set_option maxRecDepth 20000

set_option maxHeartbeats 3200000 in
theorem mul64_any (y : Nat) (w : World) (hy : y ≤ 28) :
    Calls Try.prog 81 #[.int .u64 1, .int .u64 y] w fun e w' => e = .returned (.tuple #[.int .u64 0, .int .u64 y]) ∧ w = w' := by
  have hc : y = 0 ∨ y = 1 ∨ y = 2 ∨ y = 3 ∨ y = 4 ∨ y = 5 ∨ y = 6 ∨ y = 7 ∨ y = 8 ∨ y = 9 ∨ y = 10 ∨ y = 11 ∨ y = 12 ∨ y = 13 ∨ y = 14 ∨ y = 15 ∨ y = 16 ∨ y = 17 ∨ y = 18 ∨ y = 19 ∨ y = 20 ∨ y = 21 ∨ y = 22 ∨ y = 23 ∨ y = 24 ∨ y = 25 ∨ y = 26 ∨ y = 27 ∨ y = 28 := by omega
  rcases hc with rfl | rfl | rfl | rfl | rfl | rfl | rfl | rfl | rfl | rfl | rfl | rfl | rfl | rfl | rfl | rfl | rfl | rfl | rfl | rfl | rfl | rfl | rfl | rfl | rfl | rfl | rfl | rfl | rfl
  all_goals
    go_enter Try.func81, Try.ntmps81
    go_wp2
    go_ret2
    exact ⟨rfl, rfl⟩

set_option maxHeartbeats 800000 in
theorem mul_any (y : Nat) (w : World) (hy : y ≤ 28) :
    Calls Try.prog 76 #[.int .u64 1, .int .u64 y] w fun e w' => e = .returned (.tuple #[.int .u64 0, .int .u64 y]) ∧ w = w' := by
  have hcon := fun W => mul64_any y W hy
  have Hcon := Lib.hid hcon; clear hcon
  go_enter Try.func76, Try.ntmps76
  go_wp2_with fail
  with_reducible refine ((Hcon.out _)).mono ?_
  rintro e w' ⟨rfl, rfl⟩
  go_wp2
  go_ret2
  exact ⟨rfl, rfl⟩
/-- the first k of c cells hold h, the others 0 -/
def repR (h : Int) (c k : Nat) : List Value := List.replicate k (.int .i64 h) ++ List.replicate (c - k) (.int .i64 0)
theorem repR_length (h : Int) (c k : Nat) (hk : k ≤ c) : (repR h c k).length = c := by simp [repR]; omega
theorem repR_splice (h : Int) (c k m : Nat) (hk : k + m ≤ c) : splice (repR h c k) k (List.replicate m (.int .i64 h)) = repR h c (k + m) := by
  unfold splice repR
  rw [List.length_replicate]
  have e1 : (List.replicate k (Value.int .i64 h) ++ List.replicate (c - k) (Value.int .i64 0)).take k = List.replicate k (Value.int .i64 h) := List.take_left' (by simp)
  have e2 : (List.replicate k (Value.int .i64 h) ++ List.replicate (c - k) (Value.int .i64 0)).drop (k + m) = List.replicate (c - (k + m)) (Value.int .i64 0) := by
    rw [List.drop_append, List.drop_of_length_le (by simp), List.drop_replicate]; simp
    omega
  rw [e1, e2, ← List.append_assoc, List.replicate_append_replicate]
theorem repR_full (h : Int) (c : Nat) : repR h c c = (List.replicate c h).map (Value.int .i64) := by simp [repR]
theorem repR_zero (h : Int) (c : Nat) : repR h c 0 = List.replicate c (.int .i64 0) := by simp [repR]
theorem repR_cell {w : World} {B c k : Nat} {h : Int} {ty : TypeId} (hg : w.heap[B]? = some (.cells (repR h c k).toArray ty (0, 0))) (j : Nat) (hj : j < k) : w.cell? ⟨B, j, none⟩ = some (.int .i64 h) := by
  simp [World.cell?, hg, repR, List.getElem?_append, hj]
theorem sizeIntR (w : World) : (sizeOf (Try.prog.elem 28)).run Try.prog w = .ok 1 w := by kernel_rfl
theorem slFromI (g n cap lo : Nat) (h1 : lo < n) (h2 : n ≤ cap) (k : IntKind) (w : World) : (Instr.sliceAt 28 (.slice (some ⟨g, 0, none⟩) n cap) (some (.int k (lo : Int))) none none).run Try.prog w = .ok (.slice (some ⟨g, lo, none⟩) (n - lo) (cap - lo)) w := by
  have hrun := run_slice_l (P := Try.prog) (w := w) 28 (some ⟨g, 0, none⟩) n cap Try.underlying28 k (lo : Int) (by omega) (by omega)
  rw [sizeIntR] at hrun
  rw [run_sliceAt_slice _ _ _ _ _ _ Try.underlying28, hrun]
  have : ¬ cap = lo := by omega
  simp [Result.andThen, sliced, this, Addr.add_lit]
theorem slUptoI (g n cap hi : Nat) (h1 : hi ≤ n) (h2 : n ≤ cap) (h3 : 0 < cap) (k : IntKind) (w : World) : (Instr.sliceAt 28 (.slice (some ⟨g, 0, none⟩) n cap) none (some (.int k (hi : Int))) none).run Try.prog w = .ok (.slice (some ⟨g, 0, none⟩) hi cap) w := by
  have hrun := run_slice_h (P := Try.prog) (w := w) 28 (some ⟨g, 0, none⟩) n cap Try.underlying28 k (hi : Int) (by omega) (by omega)
  rw [sizeIntR] at hrun
  rw [run_sliceAt_slice _ _ _ _ _ _ Try.underlying28, hrun]
  have : ¬ cap = 0 := by omega
  simp [Result.andThen, sliced, this, Addr.add_lit]
theorem copyPos {w1 : World} {g m : Nat} {h : Int} (B : Nat) (hg' : w1.cell? ⟨g, 0, none⟩ = some (.int .i64 h)) (hm : m ≤ 1) :
    0 < (List.replicate m (Value.int .i64 h)).length → (some ⟨B, 0, none⟩ : Option Addr) = some ⟨B, 0, none⟩ ∧ ∃ ad, (some ⟨g, 0, none⟩ : Option Addr) = some ad ∧ ∀ j v, (List.replicate m (Value.int .i64 h))[j]? = some v → w1.cell? (ad.add j) = some v := by
  intro _
  refine ⟨rfl, _, rfl, fun j v hj => ?_⟩
  obtain ⟨hlt, hv⟩ := List.getElem?_eq_some_iff.1 hj
  rw [List.length_replicate] at hlt
  rw [List.getElem_replicate] at hv
  subst hv
  obtain rfl : j = 0 := by omega
  rw [show (⟨g, 0, none⟩ : Addr).add 0 = ⟨g, 0, none⟩ by simp [Addr.add_lit]]
  exact hg'
theorem copyRow {w1 : World} {B c k m : Nat} {h : Int} {ty : TypeId} (hg : w1.heap[B]? = some (.cells (repR h c k).toArray ty (0, 0))) (hm : m ≤ k) :
    0 < (List.replicate m (Value.int .i64 h)).length → (some ⟨B, k, none⟩ : Option Addr) = some ⟨B, k, none⟩ ∧ ∃ ad, (some ⟨B, 0, none⟩ : Option Addr) = some ad ∧ ∀ j v, (List.replicate m (Value.int .i64 h))[j]? = some v → w1.cell? (ad.add j) = some v := by
  intro _
  refine ⟨rfl, _, rfl, fun j v hj => ?_⟩
  obtain ⟨hlt, hv⟩ := List.getElem?_eq_some_iff.1 hj
  rw [List.length_replicate] at hlt
  rw [List.getElem_replicate] at hv
  subst hv
  rw [show (⟨B, 0, none⟩ : Addr).add j = ⟨B, j, none⟩ by simp [Addr.add_lit]]
  exact repR_cell hg j (by omega)
theorem oneRep (m : Nat) (h : Int) : ∀ v ∈ List.replicate m (Value.int .i64 h), v.oneCell' = true := by intro v hv; rw [List.eq_of_mem_replicate hv]; rfl
theorem copy_run (w : World) (B c k m : Nat) (h : Int) (hg : w.heap[B]? = some (.cells (repR h c k).toArray 3 (0, 0))) (hm : m = min k (c - k)) (hk : k ≤ c) :
    ∃ w', (∀ ty, (Builtin.copy_ #[28, 28] ty #[.slice (some ⟨B, k, none⟩) (c - k) (c - k), .slice (some ⟨B, 0, none⟩) k c]).run Try.prog w = .ok (.int .i64 (m : Int)) w') ∧ w'.heap[B]? = some (.cells (repR h c (k + m)).toArray 3 (0, 0)) ∧ Below B w w' := by
  obtain ⟨i0, hi, hz0, hz1, hz2⟩ := info_parts Try.infoInt
  have hsz1 : (Try.prog.info? 3).map (·.size) = some 1 := by rw [hi]; simp [hz1]
  have hr := fun ty => run_copy_row (P := Try.prog) w 28 28 ty 3 B k (c - k) (c - k) ⟨B, 0, none⟩ k c (repR h c k).toArray 3 (List.replicate m (.int .i64 h)) Try.underlying28 hsz1 hg (by rw [List.length_replicate]; exact hm)
    (fun j v hj => by
      obtain ⟨hlt, hv⟩ := List.getElem?_eq_some_iff.1 hj
      rw [List.length_replicate] at hlt
      rw [List.getElem_replicate] at hv
      subst hv
      rw [show (⟨B, 0, none⟩ : Addr).add j = ⟨B, j, none⟩ by simp [Addr.add_lit]]
      exact repR_cell hg j (by omega))
    (by rw [List.length_replicate, List.size_toArray, repR_length h c k hk]; omega) (oneRep m h)
  have hsp := repR_splice h c k m (by omega)
  unfold splice at hsp
  refine ⟨_, fun ty => by rw [hr ty, List.length_replicate]; rfl, ?_, (Below.refl _ _).trans (below_setRow (Below.refl _ _) (Nat.le_refl _) _)⟩
  rw [setRow_heap w B _ _ _ _ hg]
  simp only [List.append_assoc, List.length_replicate] at hsp ⊢
  rw [hsp]
set_option maxHeartbeats 1600000 in
theorem repeat_any (h : Int) (c g : Nat) (w : World) (hc : c ≤ 28) (hg : w.cell? ⟨g, 0, none⟩ = some (.int .i64 h)) (hgs : g < w.heap.size) :
    Calls Try.prog 54 #[.slice (some ⟨g, 0, none⟩) 1 1, .int .i64 c] w fun e w' => ∃ ao' cap', e = .returned (.slice ao' c cap') ∧ Own w.heap.size w'.heap.size w' ao' c cap' (List.replicate c h) ∧ Below w.heap.size w w' := by
  have hm := fun W => mul_any c W hc
  obtain ⟨i0, hi, hz0, hz1, hz2⟩ := info_parts Try.infoInt
  have hsz1 : (Try.prog.info? 3).map (·.size) = some 1 := by rw [hi]; simp [hz1]
  have Hm := Lib.hid hm; clear hm
  have Hsz1 := Lib.hid hsz1; clear hsz1
  go_enter Try.func54, Try.ntmps54
  go_wp2_with fail
  with_reducible refine ((Hm.out _)).mono ?_
  rintro e w' ⟨rfl, rfl⟩
  go_wp2_with (at_make; refine wpList_make_full w rfl _ _ _ rfl w.heap.size 3 i0 _ 1 Try.underlying28 hi hz0 hz1 _ _ _ _ c rfl rfl rfl rfl ?_ ?_ (Nat.le_refl _) ?_)
  · first | (rw [hz2]; omega) | omega
  · first | (unfold maxLen; omega) | omega
  · intro w1 hown hgrow
    rw [madeZeros] at hown
    have hg1 : w1.heap[w.heap.size]? = some (.cells (repR h c 0).toArray 3 (0, 0)) := by
      rcases hown.2 with ⟨h1, _⟩ | ⟨g', cap', cur, h1, _, h3, _, _, h6, h7⟩
      · simp at h1
      · simp only [Value.slice.injEq, Option.some.injEq, Addr.mk.injEq, true_and, and_true] at h1
        obtain ⟨rfl, rfl⟩ := h1
        rw [h3]
        rw [List.take_of_length_le (by simp; omega)] at h7
        rw [repR_zero, ← List.map_replicate, ← h7]
    have hb1 : Below w.heap.size w w1 := (Below.refl _ _).grown hgrow (Nat.le_refl _) (fun k hk => by cases hk)
    have hg' : w1.cell? ⟨g, 0, none⟩ = some (.int .i64 h) := by rw [hb1.cell (p := ⟨g, 0, none⟩) hgs]; exact hg
    obtain ⟨m, hmm⟩ : ∃ m, m = min 1 c := ⟨_, rfl⟩
    have hm1 : m ≤ c := by omega
    have hm2 : m = 0 → c = 0 := by omega
    have hcs : (List.replicate m (Value.int .i64 h)).length = Nat.min 1 c := by rw [List.length_replicate]; exact hmm
    have hm3 : m ≤ 1 := by omega
    have hfit : 0 + (List.replicate m (Value.int .i64 h)).length ≤ (repR h c 0).length := by rw [repR_length h c 0 (by omega), List.length_replicate]; omega
    clear hown hgrow hi hz0 hz1 hz2 hmm
    have Hg1 := Lib.hid hg1; clear hg1
    have Hb1 := Lib.hid hb1; clear hb1
    have Hg' := Lib.hid hg'; clear hg'
    have Hm2 := Lib.hid hm2; clear hm2
    have Hcs := Lib.hid hcs; clear hcs
    have Hfit := Lib.hid hfit; clear hfit
    have Hg := Lib.hid hg; clear hg
    have Hgs := Lib.hid hgs; clear hgs
    go_wp2_with (refine wpList_copy_splice rfl (.tmp 31) (.tmp 32) 28 28 rfl 3 Try.underlying28 Hsz1.out (some ⟨w.heap.size, 0, none⟩) (some ⟨g, 0, none⟩) c c 1 1 rfl rfl w.heap.size 0 (repR h c 0) _ Hg1.out (List.replicate m (Value.int .i64 h)) Hcs.out (copyPos w.heap.size Hg'.out hm3) Hfit.out (oneRep m h) w.heap.size w Hb1.out (Nat.le_refl _) ?_)
    intro w2 hg2 hb2
    rw [repR_splice h c 0 m (by omega), Nat.zero_add] at hg2
    clear Hg1 Hb1 Hg' Hcs Hfit Hg Hgs
    have Hb2 := Lib.hid hb2; clear hb2
    have Hg2 := Lib.hid hg2.out; clear hg2
    go_wp2_with fail
    go_loopw [8] (fun x wr => ∃ k : Nat, k ≤ c ∧ Hid (k = 0 → c = 0) ∧ x = .int .i64 k ∧ Hid (wr.heap[w.heap.size]? = some (.cells (repR h c k).toArray 3 (0, 0))) ∧ Below w.heap.size w wr) (fun x _ => c - (intOf x).toNat)
    case atStart => exact ⟨m, hm1, Hm2, rfl, Hg2, Hb2.out⟩
    case round =>
      obtain ⟨k, hkc, Hk0, rfl, Hgr, hbr⟩ := hrel
      clear Hg2 Hb2 Hm2 hm1 hm3
      by_cases hlt : k < c
      · have hk1 : 1 ≤ k := by have := Hk0.out; omega
        have hs1 := slFromI w.heap.size c c k hlt (Nat.le_refl _) .i64
        have hs2 := slUptoI w.heap.size c c k (by omega) (Nat.le_refl _) (by omega) .i64
        obtain ⟨m2, hmm⟩ : ∃ m2, m2 = min k (c - k) := ⟨_, rfl⟩
        have hmk : m2 ≤ k := by omega
        have hmc : k + m2 ≤ c := by omega
        have hmp : 1 ≤ m2 := by omega
        obtain ⟨w4, hrun, hg4, hb4⟩ := copy_run wr.drew w.heap.size c k m2 h Hgr.out hmm hkc
        have hb5 := hbr.drew.trans hb4
        clear hmm hb4
        have Hg4 := Lib.hid hg4; clear hg4
        have Hb5 := Lib.hid hb5; clear hb5
        have Hbr := Lib.hid hbr; clear hbr
        go_wp2
        go_region
        all_goals
          go_wp2
          go_roundw
          case rel => exact ⟨k + m2, by omega, Lib.hid (by omega), by go_num, Lib.hid Hg4.out, Hb5.out⟩
          case measure => simp [intOf]; omega
      · obtain rfl : k = c := by omega
        have Hbr := Lib.hid hbr; clear hbr
        go_wp2
        go_ret
        have hg5 := Hgr.out
        rw [repR_full] at hg5
        refine ⟨_, _, rfl, Own.of ⟨by simp, .inr ⟨w.heap.size, k, _, rfl, Nat.le_refl _, hg5, Nat.le_refl _, by unfold maxLen; omega, by simp, ?_⟩⟩, Hbr.out⟩
        simp
end Go.Proofs.Ytbkihnejgcebpaa
