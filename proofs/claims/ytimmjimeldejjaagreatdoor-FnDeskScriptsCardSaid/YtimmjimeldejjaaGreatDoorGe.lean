/- Several texts in one: BaN, BaR, BaF, BaS, BaA, BaT, BaP, BaQ. No condition. -/
import Derived.Test.YtimmjimeldejjaaGreatDoorHelp
import Derived.Test.YtimmjimeldejjaaGreatDoorGb
import Derived.Test.YtimmjimeldejjaaGreatDoorGc
import Derived.Lib.MinMax
import Derived.Laws.CopyOwn
import Derived.Deep.RegionLaw
import Derived.OneCell
import Derived.Test.YtimmjimeldejjaaGreatDoorGa
namespace Go.Proofs.YtimmjimeldejjaaGreatDoor
section
open Go.RowKit
set_option linter.unusedVariables false
set_option linter.unusedSimpArgs false
set_option maxRecDepth 20000

theorem isHeight_any (h : Int) (w : World) : Calls Tryz.prog 208 #[.int .i64 h] w fun e w' => e = .returned (.bool (decide (1 ≤ h ∧ h ≤ 10))) ∧ w = w' := by
  go_enter Tryz.func208, Tryz.ntmps208
  go_wp2
  all_goals (go_ret; exact ⟨by congr 2; simp; omega, rfl⟩)
theorem isHeight_yes (h : Int) (w : World) (hh : 1 ≤ h ∧ h ≤ 10) : Calls Tryz.prog 208 #[.int .i64 h] w fun e w' => e = .returned (.bool true) ∧ w = w' := by
  have := isHeight_any h w; rw [decide_eq_true hh] at this; exact this
theorem isHeight_no (h : Int) (w : World) (hh : ¬ (1 ≤ h ∧ h ≤ 10)) : Calls Tryz.prog 208 #[.int .i64 h] w fun e w' => e = .returned (.bool false) ∧ w = w' := by
  have := isHeight_any h w; rw [decide_eq_false hh] at this; exact this
theorem baHeight_any (h : Int) (w : World) : Calls Tryz.prog 186 #[.int .i64 h] w fun e w' => e = .returned (.bool (decide (1 ≤ h ∧ h ≤ 10))) ∧ w = w' := by
  have hcon := fun W => l1In_any h 1 10 W
  have Hcon := Lib.hid hcon; clear hcon
  go_enter Tryz.func186, Tryz.ntmps186
  go_wp2_with fail
  with_reducible refine ((Hcon.out _)).mono ?_
  rintro e w' ⟨rfl, rfl⟩
  go_wp2
  go_ret
  exact ⟨by simp, rfl⟩
theorem baHeight_yes (h : Int) (w : World) (hh : 1 ≤ h ∧ h ≤ 10) : Calls Tryz.prog 186 #[.int .i64 h] w fun e w' => e = .returned (.bool true) ∧ w = w' := by
  have := baHeight_any h w; rw [decide_eq_true hh] at this; exact this
theorem baHeight_no (h : Int) (w : World) (hh : ¬ (1 ≤ h ∧ h ≤ 10)) : Calls Tryz.prog 186 #[.int .i64 h] w fun e w' => e = .returned (.bool false) ∧ w = w' := by
  have := baHeight_any h w; rw [decide_eq_false hh] at this; exact this

/-! ### All bank states counted -/
end
end Go.Proofs.YtimmjimeldejjaaGreatDoor
namespace Go.Proofs.YtimmjimeldejjaaGreatDoor
section
open Go.RowKit
set_option linter.unusedVariables false
set_option linter.unusedSimpArgs false
set_option maxRecDepth 20000

set_option maxHeartbeats 3200000 in
theorem mul64_any (y : Nat) (w : World) (hy : y ≤ 28) :
    Calls Tryz.prog 265 #[.int .u64 1, .int .u64 y] w fun e w' => e = .returned (.tuple #[.int .u64 0, .int .u64 y]) ∧ w = w' := by
  have hc : y = 0 ∨ y = 1 ∨ y = 2 ∨ y = 3 ∨ y = 4 ∨ y = 5 ∨ y = 6 ∨ y = 7 ∨ y = 8 ∨ y = 9 ∨ y = 10 ∨ y = 11 ∨ y = 12 ∨ y = 13 ∨ y = 14 ∨ y = 15 ∨ y = 16 ∨ y = 17 ∨ y = 18 ∨ y = 19 ∨ y = 20 ∨ y = 21 ∨ y = 22 ∨ y = 23 ∨ y = 24 ∨ y = 25 ∨ y = 26 ∨ y = 27 ∨ y = 28 := by omega
  rcases hc with rfl | rfl | rfl | rfl | rfl | rfl | rfl | rfl | rfl | rfl | rfl | rfl | rfl | rfl | rfl | rfl | rfl | rfl | rfl | rfl | rfl | rfl | rfl | rfl | rfl | rfl | rfl | rfl | rfl
  all_goals
    go_enter Tryz.func265, Tryz.ntmps265
    go_wp2
    go_ret2
    exact ⟨rfl, rfl⟩

set_option maxHeartbeats 800000 in
theorem mul_any (y : Nat) (w : World) (hy : y ≤ 28) :
    Calls Tryz.prog 254 #[.int .u64 1, .int .u64 y] w fun e w' => e = .returned (.tuple #[.int .u64 0, .int .u64 y]) ∧ w = w' := by
  have hcon := fun W => mul64_any y W hy
  have Hcon := Lib.hid hcon; clear hcon
  go_enter Tryz.func254, Tryz.ntmps254
  go_wp2_with fail
  with_reducible refine ((Hcon.out _)).mono ?_
  rintro e w' ⟨rfl, rfl⟩
  go_wp2
  go_ret2
  exact ⟨rfl, rfl⟩
/-- the first k of c cells hold h, the others 0 -/
def repR (h : Int) (c k : Nat) : List Value := List.replicate k (.int .i64 h) ++ List.replicate (c - k) (.int .i64 0)
theorem repR_length (h : Int) (c k : Nat) (hk : k ≤ c) : (repR h c k).length = c := by simp [repR]; omega
theorem repR_splice (h : Int) (c k m : Nat) (hk : k + m ≤ c) : splice (repR h c k) k (List.replicate m (.int .i64 h)) = repR h c (k + m) := by
  unfold splice repR
  rw [List.length_replicate]
  have e1 : (List.replicate k (Value.int .i64 h) ++ List.replicate (c - k) (Value.int .i64 0)).take k = List.replicate k (Value.int .i64 h) := List.take_left' (by simp)
  have e2 : (List.replicate k (Value.int .i64 h) ++ List.replicate (c - k) (Value.int .i64 0)).drop (k + m) = List.replicate (c - (k + m)) (Value.int .i64 0) := by
    rw [List.drop_append, List.drop_of_length_le (by simp), List.drop_replicate]; simp
    omega
  rw [e1, e2, ← List.append_assoc, List.replicate_append_replicate]
theorem repR_full (h : Int) (c : Nat) : repR h c c = (List.replicate c h).map (Value.int .i64) := by simp [repR]
theorem repR_zero (h : Int) (c : Nat) : repR h c 0 = List.replicate c (.int .i64 0) := by simp [repR]
theorem repR_cell {w : World} {B c k : Nat} {h : Int} {ty : TypeId} (hg : w.heap[B]? = some (.cells (repR h c k).toArray ty (0, 0))) (j : Nat) (hj : j < k) : w.cell? ⟨B, j, none⟩ = some (.int .i64 h) := by
  simp [World.cell?, hg, repR, List.getElem?_append, hj]
theorem sizeIntR (w : World) : (sizeOf (Tryz.prog.elem 24)).run Tryz.prog w = .ok 1 w := by kernel_rfl
theorem slFromI (g n cap lo : Nat) (h1 : lo < n) (h2 : n ≤ cap) (k : IntKind) (w : World) : (Instr.sliceAt 24 (.slice (some ⟨g, 0, none⟩) n cap) (some (.int k (lo : Int))) none none).run Tryz.prog w = .ok (.slice (some ⟨g, lo, none⟩) (n - lo) (cap - lo)) w := by
  have hrun := run_slice_l (P := Tryz.prog) (w := w) 24 (some ⟨g, 0, none⟩) n cap Tryz.underlying24 k (lo : Int) (by omega) (by omega)
  rw [sizeIntR] at hrun
  rw [run_sliceAt_slice _ _ _ _ _ _ Tryz.underlying24, hrun]
  have : ¬ cap = lo := by omega
  simp [Result.andThen, sliced, this, Addr.add_lit]
theorem slUptoI (g n cap hi : Nat) (h1 : hi ≤ n) (h2 : n ≤ cap) (h3 : 0 < cap) (k : IntKind) (w : World) : (Instr.sliceAt 24 (.slice (some ⟨g, 0, none⟩) n cap) none (some (.int k (hi : Int))) none).run Tryz.prog w = .ok (.slice (some ⟨g, 0, none⟩) hi cap) w := by
  have hrun := run_slice_h (P := Tryz.prog) (w := w) 24 (some ⟨g, 0, none⟩) n cap Tryz.underlying24 k (hi : Int) (by omega) (by omega)
  rw [sizeIntR] at hrun
  rw [run_sliceAt_slice _ _ _ _ _ _ Tryz.underlying24, hrun]
  have : ¬ cap = 0 := by omega
  simp [Result.andThen, sliced, this, Addr.add_lit]
theorem copyPos {w1 : World} {g m : Nat} {h : Int} (B : Nat) (hg' : w1.cell? ⟨g, 0, none⟩ = some (.int .i64 h)) (hm : m ≤ 1) :
    0 < (List.replicate m (Value.int .i64 h)).length → (some ⟨B, 0, none⟩ : Option Addr) = some ⟨B, 0, none⟩ ∧ ∃ ad, (some ⟨g, 0, none⟩ : Option Addr) = some ad ∧ ∀ j v, (List.replicate m (Value.int .i64 h))[j]? = some v → w1.cell? (ad.add j) = some v := by
  intro _
  refine ⟨rfl, _, rfl, fun j v hj => ?_⟩
  obtain ⟨hlt, hv⟩ := List.getElem?_eq_some_iff.1 hj
  rw [List.length_replicate] at hlt
  rw [List.getElem_replicate] at hv
  subst hv
  obtain rfl : j = 0 := by omega
  rw [show (⟨g, 0, none⟩ : Addr).add 0 = ⟨g, 0, none⟩ by simp [Addr.add_lit]]
  exact hg'
theorem oneRep (m : Nat) (h : Int) : ∀ v ∈ List.replicate m (Value.int .i64 h), v.oneCell' = true := by intro v hv; rw [List.eq_of_mem_replicate hv]; rfl
theorem copy_run (w : World) (B c k m : Nat) (h : Int) (hg : w.heap[B]? = some (.cells (repR h c k).toArray 3 (0, 0))) (hm : m = min k (c - k)) (hk : k ≤ c) :
    ∃ w', (∀ ty, (Builtin.copy_ #[24, 24] ty #[.slice (some ⟨B, k, none⟩) (c - k) (c - k), .slice (some ⟨B, 0, none⟩) k c]).run Tryz.prog w = .ok (.int .i64 (m : Int)) w') ∧ w'.heap[B]? = some (.cells (repR h c (k + m)).toArray 3 (0, 0)) ∧ Below B w w' := by
  obtain ⟨i0, hi, hz0, hz1, hz2⟩ := info_parts Tryz.infoInt
  have hsz1 : (Tryz.prog.info? 3).map (·.size) = some 1 := by rw [hi]; simp [hz1]
  have hr := fun ty => run_copy_row (P := Tryz.prog) w 24 24 ty 3 B k (c - k) (c - k) ⟨B, 0, none⟩ k c (repR h c k).toArray 3 (List.replicate m (.int .i64 h)) Tryz.underlying24 hsz1 hg (by rw [List.length_replicate]; exact hm)
    (fun j v hj => by
      obtain ⟨hlt, hv⟩ := List.getElem?_eq_some_iff.1 hj
      rw [List.length_replicate] at hlt
      rw [List.getElem_replicate] at hv
      subst hv
      rw [show (⟨B, 0, none⟩ : Addr).add j = ⟨B, j, none⟩ by simp [Addr.add_lit]]
      exact repR_cell hg j (by omega))
    (by rw [List.length_replicate, List.size_toArray, repR_length h c k hk]; omega) (oneRep m h)
  have hsp := repR_splice h c k m (by omega)
  unfold splice at hsp
  refine ⟨_, fun ty => by rw [hr ty, List.length_replicate]; rfl, ?_, (Below.refl _ _).trans (below_setRow (Below.refl _ _) (Nat.le_refl _) _)⟩
  rw [setRow_heap w B _ _ _ _ hg]
  simp only [List.append_assoc, List.length_replicate] at hsp ⊢
  rw [hsp]
set_option maxHeartbeats 1600000 in
theorem repeat_any (h : Int) (c g : Nat) (w : World) (hc : c ≤ 28) (hg : w.cell? ⟨g, 0, none⟩ = some (.int .i64 h)) (hgs : g < w.heap.size) :
    Calls Tryz.prog 235 #[.slice (some ⟨g, 0, none⟩) 1 1, .int .i64 c] w fun e w' => ∃ ao' cap', e = .returned (.slice ao' c cap') ∧ Own w.heap.size w'.heap.size w' ao' c cap' (List.replicate c h) ∧ Below w.heap.size w w' := by
  have hm := fun W => mul_any c W hc
  obtain ⟨i0, hi, hz0, hz1, hz2⟩ := info_parts Tryz.infoInt
  have hsz1 : (Tryz.prog.info? 3).map (·.size) = some 1 := by rw [hi]; simp [hz1]
  have Hm := Lib.hid hm; clear hm
  have Hsz1 := Lib.hid hsz1; clear hsz1
  go_enter Tryz.func235, Tryz.ntmps235
  go_wp2_with fail
  with_reducible refine ((Hm.out _)).mono ?_
  rintro e w' ⟨rfl, rfl⟩
  go_wp2_with (at_make; refine wpList_make_full w rfl _ _ _ rfl w.heap.size 3 i0 _ 1 Tryz.underlying24 hi hz0 hz1 _ _ _ _ c rfl rfl rfl rfl ?_ ?_ (Nat.le_refl _) ?_)
  · first | (rw [hz2]; omega) | omega
  · first | (unfold maxLen; omega) | omega
  · intro w1 hown hgrow
    rw [madeZeros] at hown
    have hg1 : w1.heap[w.heap.size]? = some (.cells (repR h c 0).toArray 3 (0, 0)) := by
      rcases hown.2 with ⟨h1, _⟩ | ⟨g', cap', cur, h1, _, h3, _, _, h6, h7⟩
      · simp at h1
      · simp only [Value.slice.injEq, Option.some.injEq, Addr.mk.injEq, true_and, and_true] at h1
        obtain ⟨rfl, rfl⟩ := h1
        rw [h3]
        rw [List.take_of_length_le (by simp; omega)] at h7
        rw [repR_zero, ← List.map_replicate, ← h7]
    have hb1 : Below w.heap.size w w1 := (Below.refl _ _).grown hgrow (Nat.le_refl _) (fun k hk => by cases hk)
    have hg' : w1.cell? ⟨g, 0, none⟩ = some (.int .i64 h) := by rw [hb1.cell (p := ⟨g, 0, none⟩) hgs]; exact hg
    obtain ⟨m, hmm⟩ : ∃ m, m = min 1 c := ⟨_, rfl⟩
    have hm1 : m ≤ c := by omega
    have hm2 : m = 0 → c = 0 := by omega
    have hcs : (List.replicate m (Value.int .i64 h)).length = Nat.min 1 c := by rw [List.length_replicate]; exact hmm
    have hm3 : m ≤ 1 := by omega
    have hfit : 0 + (List.replicate m (Value.int .i64 h)).length ≤ (repR h c 0).length := by rw [repR_length h c 0 (by omega), List.length_replicate]; omega
    clear hown hgrow hi hz0 hz1 hz2 hmm
    have Hg1 := Lib.hid hg1; clear hg1
    have Hb1 := Lib.hid hb1; clear hb1
    have Hg' := Lib.hid hg'; clear hg'
    have Hm2 := Lib.hid hm2; clear hm2
    have Hcs := Lib.hid hcs; clear hcs
    have Hfit := Lib.hid hfit; clear hfit
    have Hg := Lib.hid hg; clear hg
    have Hgs := Lib.hid hgs; clear hgs
    go_wp2_with (refine wpList_copy_splice rfl (.tmp 31) (.tmp 32) 24 24 rfl 3 Tryz.underlying24 Hsz1.out (some ⟨w.heap.size, 0, none⟩) (some ⟨g, 0, none⟩) c c 1 1 rfl rfl w.heap.size 0 (repR h c 0) _ Hg1.out (List.replicate m (Value.int .i64 h)) Hcs.out (copyPos w.heap.size Hg'.out hm3) Hfit.out (oneRep m h) w.heap.size w Hb1.out (Nat.le_refl _) ?_)
    intro w2 hg2 hb2
    rw [repR_splice h c 0 m (by omega), Nat.zero_add] at hg2
    clear Hg1 Hb1 Hg' Hcs Hfit Hg Hgs
    have Hb2 := Lib.hid hb2; clear hb2
    have Hg2 := Lib.hid hg2.out; clear hg2
    go_wp2_with fail
    go_loopw [8] (fun x wr => ∃ k : Nat, k ≤ c ∧ Hid (k = 0 → c = 0) ∧ x = .int .i64 k ∧ Hid (wr.heap[w.heap.size]? = some (.cells (repR h c k).toArray 3 (0, 0))) ∧ Below w.heap.size w wr) (fun x _ => c - (intOf x).toNat)
    case atStart => exact ⟨m, hm1, Hm2, rfl, Hg2, Hb2.out⟩
    case round =>
      obtain ⟨k, hkc, Hk0, rfl, Hgr, hbr⟩ := hrel
      clear Hg2 Hb2 Hm2 hm1 hm3
      by_cases hlt : k < c
      · have hk1 : 1 ≤ k := by have := Hk0.out; omega
        have hs1 := slFromI w.heap.size c c k hlt (Nat.le_refl _) .i64
        have hs2 := slUptoI w.heap.size c c k (by omega) (Nat.le_refl _) (by omega) .i64
        obtain ⟨m2, hmm⟩ : ∃ m2, m2 = min k (c - k) := ⟨_, rfl⟩
        have hmk : m2 ≤ k := by omega
        have hmc : k + m2 ≤ c := by omega
        have hmp : 1 ≤ m2 := by omega
        obtain ⟨w4, hrun, hg4, hb4⟩ := copy_run wr.drew w.heap.size c k m2 h Hgr.out hmm hkc
        have hb5 := hbr.drew.trans hb4
        clear hmm hb4
        have Hg4 := Lib.hid hg4; clear hg4
        have Hb5 := Lib.hid hb5; clear hb5
        have Hbr := Lib.hid hbr; clear hbr
        go_wp2
        go_region
        all_goals
          go_wp2
          go_roundw
          case rel => exact ⟨k + m2, by omega, Lib.hid (by omega), by go_num, Lib.hid Hg4.out, Hb5.out⟩
          case measure => simp [intOf]; omega
      · obtain rfl : k = c := by omega
        have Hbr := Lib.hid hbr; clear hbr
        go_wp2
        go_ret
        have hg5 := Hgr.out
        rw [repR_full] at hg5
        refine ⟨_, _, rfl, Own.of ⟨by simp, .inr ⟨w.heap.size, k, _, rfl, Nat.le_refl _, hg5, Nat.le_refl _, by unfold maxLen; omega, by simp, ?_⟩⟩, Hbr.out⟩
        simp
end
end Go.Proofs.YtimmjimeldejjaaGreatDoor
namespace Go.Proofs.YtimmjimeldejjaaGreatDoor
section
open Go.RowKit
set_option linter.unusedVariables false
set_option linter.unusedSimpArgs false
set_option maxRecDepth 20000

theorem divs (H C : Nat) : Int.tdiv (C : Int) (H : Int) = ((C / H : Nat) : Int) ∧ Int.tmod (C : Int) (H : Int) = ((C % H : Nat) : Int) := ⟨(Int.ofNat_tdiv _ _).symm, (Int.ofNat_tmod _ _).symm⟩
theorem divN (H C : Nat) (h1 : 1 ≤ H) (hC : C ≤ 28) : C / H ≤ 28 ∧ C % H ≤ 28 := ⟨Nat.le_trans (Nat.div_le_self _ _) hC, Nat.le_trans (Nat.mod_le _ _) hC⟩
set_option maxHeartbeats 1600000 in
theorem makePiles_any (H C : Nat) (ao : Option Addr) (n cap : Nat) (xs : List Int) (w : World) (hA : IntsAt w ao n cap xs) (h1 : 1 ≤ H ∧ H ≤ 10) (hC : C ≤ 28) (hn : n ≤ 28) :
    Calls Tryz.prog 212 #[.int .i64 H, .int .i64 C, .slice ao n cap] w fun e w' => ∃ ao' n' cap', e = .returned (.tuple #[.agg #[.int .i64 H, .int .i64 ((C % H : Nat) : Int), .slice ao' n' cap'], .int .i64 ((C / H : Nat) : Int)]) ∧ Own w.heap.size w'.heap.size w' ao' n' cap' (List.replicate (C / H) (H : Int) ++ xs) ∧ Below w.heap.size w w' := by
  obtain ⟨d1, d2⟩ := divs H C
  obtain ⟨b1, b2⟩ := divN H C h1.1 hC
  have hz : ((H : Int) == 0) = false := by simp; omega
  have hz2 : ¬ (H : Int) = 0 := by omega
  have hrep := fun g W => repeat_any (H : Int) (C / H) g W b1
  generalize C / H = q at *
  generalize C % H = r at *
  have hb1 := belowAlloc w (.cells #[.int .i64 0, .int .i64 0, .slice none 0 0] 84)
  have hb2 := belowTrans hb1 (belowAlloc _ (.cells #[.int .i64 (H : Int)] 3)) (Nat.le_refl _)
  have k1 := (Blk.new w 0 0 none 0 0 84).keep (belowAlloc _ (.cells #[.int .i64 (H : Int)] 3))
  have hc2 : ((w.alloc (.cells #[.int .i64 0, .int .i64 0, .slice none 0 0] 84)).alloc (.cells #[.int .i64 (H : Int)] 3)).cell? ⟨w.heap.size + 1, 0, none⟩ = some (.int .i64 (H : Int)) := by
    rw [World.cell?_alloc_at _ _ _ _ (by simp)]; rfl
  have hA2 := hA.keep hb2
  have hcon := (hrep (w.heap.size + 1) _ hc2 (by simp)).mono (R' := fun e w1 => ∃ a c, e = .returned (.slice a q c) ∧ Own (w.heap.size + 2) w1.heap.size w1 a q c (List.replicate q (H : Int)) ∧ Below w.heap.size w w1 ∧ Blk w1 w.heap.size 0 0 none 0 0 84 ∧ IntsAt w1 ao n cap xs ∧ w.heap.size + 2 ≤ w1.heap.size)
    (fun e w1 ⟨a, c, e1, e2, e3⟩ => ⟨a, c, e1, by simpa using e2, belowTrans hb2 e3 (Nat.le_refl _), k1.keep e3, hA2.keep e3, by simpa using e3.size⟩)
  clear hrep hb1 hb2 k1 hc2 hA2
  have Hcon := Lib.hid hcon; clear hcon
  go_enter Tryz.func212, Tryz.ntmps212
  go_wp2_with fail
  with_reducible refine (Hcon.out).mono ?_
  rintro e w1 ⟨a1, c1, rfl, ho1, hb1, k1, hA1, hs1⟩
  have Hb1 := Lib.hid hb1; clear hb1
  have K1 := Lib.hid k1; clear k1
  go_wp2_with (at_builtin; refine wpList_cat w1 rfl _ _ rfl (w.heap.size + 2) _ a1 q c1 _ rfl ho1 ao n cap xs rfl hA1 (by omega) (by omega) ?_)
  intro a2 c2 w2 ho2 hch
  have hb2 : Below (w.heap.size + 2) w1 w2 := ho1.chgBelow hch (by omega)
  have k2 : Blk w2 w.heap.size 0 0 none 0 0 84 := (hb2.block w.heap.size (by omega)).trans K1.out
  have hb3 := Hb1.out.trans (hb2.mono (by omega))
  obtain ⟨⟨x0, x1, x2⟩, y0, y1, y2⟩ := k2.cells
  have ho3 := (((ho2.offCell (R := w.heap.size) (by omega) 0 (.int .i64 (H : Int))).offCell (R := w.heap.size) (by omega) 1 (.int .i64 (r : Int))).offCell (R := w.heap.size) (by omega) 2 (.slice a2 (q + n) c2)).mono (show w.heap.size ≤ w.heap.size + 2 by omega) (Nat.le_refl _)
  have hb4 := ((hb3.setCell (p := ⟨w.heap.size, 0, none⟩) (Nat.le_refl _) (.int .i64 (H : Int))).setCell (p := ⟨w.heap.size, 1, none⟩) (Nat.le_refl _) (.int .i64 (r : Int))).setCell (p := ⟨w.heap.size, 2, none⟩) (Nat.le_refl _) (.slice a2 (q + n) c2)
  clear ho1 ho2 hch hb2 hb3 k2 hA1 K1 Hb1
  have Ho3 := Lib.hid ho3; clear ho3
  have Hb4 := Lib.hid hb4; clear hb4
  go_wp2
  refine bodyPost_ret (v := .tuple #[.agg #[.int .i64 H, .int .i64 (r : Int), .slice a2 (q + n) c2], .int .i64 (q : Int)]) ?_ rfl ⟨a2, q + n, c2, rfl, by have := Ho3.out; simpa using this, Hb4.out⟩
  rw [results_cell_tmp rfl]
  simp [go_sem, asAddr, Result.andThen, loadVar, *]

theorem Blk.set2 {w g h l a n c ty} (hh : Blk w g h l a n c ty) (a' : Option Addr) (n' c' : Nat) : Blk (w.setCell ⟨g, 2, none⟩ (.slice a' n' c')) g h l a' n' c' ty := by
  have := heap_setCell_same w g 2 _ _ (.slice a' n' c') hh
  unfold Blk
  rw [this]; rfl
theorem Blk.chg {S : Nat → Prop} {w w' g h l a n c ty} (hh : Blk w g h l a n c ty) (hc : Chg S w w') (hs : ¬ S g) : Blk w' g h l a n c ty := (hc.block g hh.size hs).trans hh

set_option maxHeartbeats 1600000 in
theorem baFill_any (H C : Nat) (ao : Option Addr) (n cap : Nat) (xs : List Int) (w : World) (hA : IntsAt w ao n cap xs) (h1 : 1 ≤ H ∧ H ≤ 10) (hC : C ≤ 28) (hn : n ≤ 28) :
    Calls Tryz.prog 86 #[.int .i64 H, .int .i64 C, .slice ao n cap] w fun e w' => ∃ ao' n' cap', e = .returned (.tuple #[.agg #[.int .i64 H, .int .i64 ((C % H : Nat) : Int), .slice ao' n' cap'], .int .i64 ((C / H : Nat) : Int)]) ∧ Own w.heap.size w'.heap.size w' ao' n' cap' (List.replicate (C / H) (H : Int) ++ xs) ∧ Below w.heap.size w w' := by
  obtain ⟨d1, d2⟩ := divs H C
  obtain ⟨b1, b2⟩ := divN H C h1.1 hC
  have hz : ((H : Int) == 0) = false := by simp; omega
  have hz2 : ¬ (H : Int) = 0 := by omega
  generalize C / H = q at *
  generalize C % H = r at *
  have hb1 := belowAlloc w (.cells #[.int .i64 0, .int .i64 0, .slice none 0 0] 84)
  have hbn := belowAlloc (w.alloc (.cells #[.int .i64 0, .int .i64 0, .slice none 0 0] 84)) (.cells #[.int .i64 (H : Int), .int .i64 (r : Int), .slice none 0 0] 84)
  have hb2 := belowTrans hb1 hbn (Nat.le_refl _)
  have k1 := (Blk.new w 0 0 none 0 0 84).keep hbn
  have m1 := Blk.new (w.alloc (.cells #[.int .i64 0, .int .i64 0, .slice none 0 0] 84)) (H : Int) (r : Int) none 0 0 84
  rw [show (w.alloc (.cells #[.int .i64 0, .int .i64 0, .slice none 0 0] 84)).heap.size = w.heap.size + 1 by simp] at m1
  have hA2 := hA
  have hs2 : ((w.alloc (.cells #[.int .i64 0, .int .i64 0, .slice none 0 0] 84)).alloc (.cells #[.int .i64 (H : Int), .int .i64 (r : Int), .slice none 0 0] 84)).heap.size = w.heap.size + 2 := by simp
  have hst : ∃ W, W = ((w.alloc (.cells #[.int .i64 0, .int .i64 0, .slice none 0 0] 84)).alloc (.cells #[.int .i64 (H : Int), .int .i64 (r : Int), .slice none 0 0] 84)) := ⟨_, rfl⟩
  clear hb1 hbn
  have Hb2 := Lib.hid hb2; clear hb2
  have K1 := Lib.hid k1; clear k1
  have M1 := Lib.hid m1; clear m1
  have HA2 := Lib.hid hA2; clear hA2
  have Hs2 := Lib.hid hs2; clear hs2
  go_enter Tryz.func86, Tryz.ntmps86
  go_wp2_with fail
  go_loopw [9] (fun x wr => ∃ (k : Nat) (a : Option Addr) (p c : Nat), k ≤ q ∧ x = .int .i64 k ∧ Hid (Blk wr w.heap.size 0 0 none 0 0 84) ∧ Hid (Blk wr (w.heap.size + 1) (H : Int) (r : Int) a p c 84) ∧ Own (w.heap.size + 2) wr.heap.size wr a p c (List.replicate k (H : Int)) ∧ Hid (Below w.heap.size w wr) ∧ w.heap.size + 2 ≤ wr.heap.size) (fun x _ => q - (intOf x).toNat)
  case atStart => exact ⟨0, none, 0, 0, Nat.zero_le _, rfl, K1, M1, Own.nil _ _ _, Hb2, by rw [Hs2.out]; exact Nat.le_refl _⟩
  case round =>
    obtain ⟨k, a, p, c, hkq, rfl, Kr, Mr, hor, Hbr, hsr⟩ := hrel
    clear K1 M1 Hb2 Hs2
    have hlp := hor.length
    rw [List.length_replicate] at hlp
    subst hlp
    have hge : ∀ g, (Value.slice a k c).ownBlock = some g → w.heap.size + 2 ≤ g := fun g hg => (hor.1.lt g hg).1
    obtain ⟨⟨x0, x1, x2⟩, y0, y1, y2⟩ := Mr.out.cells
    obtain ⟨⟨u0, u1, u2⟩, v0, v1, v2⟩ := Kr.out.cells
    by_cases hlt : k < q
    · have Hge := Lib.hid hge; clear hge
      go_wp2_with (at_builtin; refine wpList_push wr rfl _ _ rfl (w.heap.size + 2) _ a k c _ rfl hor (H : Int) rfl (by omega) hsr ?_)
      intro a4 c4 w4 ho4 hch
      have hns : ∀ g, g < w.heap.size + 2 → ¬ (Value.slice a k c).ownBlock = some g := fun g hg e => by have := Hge.out g e; omega
      have k4 := Kr.out.chg hch (hns _ (by omega))
      have m4 := Mr.out.chg hch (hns _ (by omega))
      have hb4 : Below (w.heap.size + 2) wr w4 := hor.chgBelow hch hsr
      have hb5 := (Hbr.out.trans (hb4.mono (by omega))).setCell (p := ⟨w.heap.size + 1, 2, none⟩) (by show w.heap.size ≤ w.heap.size + 1; omega) (.slice a4 (k + 1) c4)
      have hs4 : w.heap.size + 2 ≤ w4.heap.size := Nat.le_trans hsr hb4.size
      have m5 := m4.set2 a4 (k + 1) c4
      have k5 := k4.chg (chgCell w4 (w.heap.size + 1) 2 (.slice a4 (k + 1) c4)) (by omega)
      have ho5 := ho4.offCell (R := w.heap.size + 1) (by omega) 2 (.slice a4 (k + 1) c4)
      rw [← List.replicate_succ'] at ho5
      clear x0 x1 x2 y0 y1 y2 u0 u1 u2 v0 v1 v2 hor ho4 hch hb4 Kr Mr Hbr k4
      obtain ⟨⟨x0, x1, x2⟩, y0, y1, y2⟩ := m4.cells
      clear m4
      have Hb5 := Lib.hid hb5; clear hb5
      have M5 := Lib.hid m5; clear m5
      have K5 := Lib.hid k5; clear k5
      have Ho5 := Lib.hid ho5; clear ho5
      have Hns := Lib.hid hns; clear hns
      go_wp2
      go_roundw
      case rel => exact ⟨k + 1, a4, k + 1, c4, by omega, by go_num, K5, M5, by have := Ho5.out; simpa using this, Hb5, by simpa using hs4⟩
      case measure => simp [intOf]; omega
    · obtain rfl : k = q := by omega
      go_wp2_with (at_builtin; refine wpList_cat wr rfl _ _ rfl (w.heap.size + 2) _ a k c _ rfl hor ao n cap xs rfl (HA2.out.keep Hbr.out) (by omega) hsr ?_)
      intro a4 c4 w4 ho4 hch
      have hns : ∀ g, g < w.heap.size + 2 → ¬ (Value.slice a k c).ownBlock = some g := fun g hg e => by have := hge g e; omega
      have k4 := Kr.out.chg hch (hns _ (by omega))
      have m4 := Mr.out.chg hch (hns _ (by omega))
      have hb4 : Below (w.heap.size + 2) wr w4 := hor.chgBelow hch hsr
      have hb5 := (Hbr.out.trans (hb4.mono (by omega))).setCell (p := ⟨w.heap.size + 1, 2, none⟩) (by show w.heap.size ≤ w.heap.size + 1; omega) (.slice a4 (k + n) c4)
      have hs4 : w.heap.size + 2 ≤ w4.heap.size := Nat.le_trans hsr hb4.size
      have m5 := m4.set2 a4 (k + n) c4
      have k5 := k4.chg (chgCell w4 (w.heap.size + 1) 2 (.slice a4 (k + n) c4)) (by omega)
      have ho5 := ho4.offCell (R := w.heap.size + 1) (by omega) 2 (.slice a4 (k + n) c4)
      clear x0 x1 x2 y0 y1 y2 u0 u1 u2 v0 v1 v2 hor ho4 hch hb4 Kr Mr Hbr k4 hge
      obtain ⟨⟨x0, x1, x2⟩, y0, y1, y2⟩ := m4.cells
      clear m4
      obtain ⟨w5, hw5⟩ : ∃ w5, w5 = w4.setCell ⟨w.heap.size + 1, 2, none⟩ (.slice a4 (k + n) c4) := ⟨_, rfl⟩
      have Hb5 := Lib.hid hb5; clear hb5
      have M5 := Lib.hid m5; clear m5
      have K5 := Lib.hid k5; clear k5
      have Ho5 := Lib.hid ho5; clear ho5
      have Hns := Lib.hid hns; clear hns
      have Hw5 := Lib.hid hw5; clear hw5
      go_wp2_with fail
      rw [← Hw5.out]
      clear x0 x1 x2 y0 y1 y2
      have k6 : Blk w5 w.heap.size 0 0 none 0 0 84 := by rw [Hw5.out]; exact K5.out
      have m6 : Blk w5 (w.heap.size + 1) (H : Int) (r : Int) a4 (k + n) c4 84 := by rw [Hw5.out]; exact M5.out
      have ho6 : Own (w.heap.size + 2) w5.heap.size w5 a4 (k + n) c4 (List.replicate k (H : Int) ++ xs) := by rw [Hw5.out]; have := Ho5.out; simpa using this
      have hb6 : Below w.heap.size w w5 := by rw [Hw5.out]; exact Hb5.out
      have ho7 := (((ho6.offCell (R := w.heap.size) (by omega) 0 (.int .i64 (H : Int))).offCell (R := w.heap.size) (by omega) 1 (.int .i64 (r : Int))).offCell (R := w.heap.size) (by omega) 2 (.slice a4 (k + n) c4)).mono (show w.heap.size ≤ w.heap.size + 2 by omega) (Nat.le_refl _)
      have hb7 := (((hb6.setCell (p := ⟨w.heap.size, 0, none⟩) (Nat.le_refl _) (.int .i64 (H : Int))).setCell (p := ⟨w.heap.size, 1, none⟩) (Nat.le_refl _) (.int .i64 (r : Int))).setCell (p := ⟨w.heap.size, 2, none⟩) (Nat.le_refl _) (.slice a4 (k + n) c4)).drew
      clear Hw5 Hb5 M5 K5 Ho5 ho6 hb6
      obtain ⟨⟨x0, x1, x2⟩, y0, y1, y2⟩ := m6.cells
      obtain ⟨⟨u0, u1, u2⟩, v0, v1, v2⟩ := k6.cells
      clear m6 k6
      have Ho7 := Lib.hid ho7; clear ho7
      have Hb7 := Lib.hid hb7; clear hb7
      go_region
      all_goals
        go_wp2
        refine bodyPost_ret (v := .tuple #[.agg #[.int .i64 H, .int .i64 (r : Int), .slice a4 (k + n) c4], .int .i64 (k : Int)]) ?_ rfl ⟨a4, k + n, c4, rfl, by have := Ho7.out.drew; simpa using this, Hb7.out⟩
        rw [results_cell_tmp rfl]
        simp [go_sem, asAddr, Result.andThen, loadVar, *]
end
end Go.Proofs.YtimmjimeldejjaaGreatDoor
namespace Go.Proofs.YtimmjimeldejjaaGreatDoor
section
open Go.RowKit
set_option linter.unusedVariables false
set_option linter.unusedSimpArgs false
set_option maxRecDepth 20000

theorem fill_nat (H C : Nat) (xs : List Int) : fillB (H : Int) (C : Int) xs = ⟨(H : Int), ((C % H : Nat) : Int), List.replicate (C / H) (H : Int) ++ xs⟩ := by
  unfold fillB
  rw [← Int.natCast_ediv, ← Int.natCast_emod, Int.toNat_natCast]
set_option maxHeartbeats 1600000 in
theorem spec_StartBank (h n : Int) (w : World) :
    Calls Tryz.prog 140 #[.int .i64 h, .int .i64 n] w fun e w' => ∃ ao n' cap', e = .returned (.tuple #[.agg #[.int .i64 (mStartBank h n).1.h, .int .i64 (mStartBank h n).1.l, .slice ao n' cap'], .bool (mStartBank h n).2]) ∧ Own w.heap.size w'.heap.size w' ao n' cap' (mStartBank h n).1.p ∧ Below w.heap.size w w' := by
  have hm := mStartBank.eq_1 h n
  have hb1 := belowAlloc w (.cells #[.int .i64 0, .int .i64 0, .slice none 0 0] 84)
  have k1 := Blk.new w 0 0 none 0 0 84
  by_cases hh : 1 ≤ h ∧ h ≤ 10
  · by_cases hn : 0 ≤ n ∧ n ≤ 28
    · rw [if_pos ⟨hh, hn⟩] at hm
      obtain ⟨H, rfl⟩ := Int.eq_ofNat_of_zero_le (show 0 ≤ h by omega)
      obtain ⟨C, rfl⟩ := Int.eq_ofNat_of_zero_le hn.1
      rw [fill_nat, List.append_nil] at hm
      have h1 := fun W => baHeight_yes (H : Int) W hh
      have h2 := fun W => piCards_yes (C : Int) W hn
      have hcon := (baFill_any H C none 0 0 [] _ (IntsAt.nil (w.alloc (.cells #[.int .i64 0, .int .i64 0, .slice none 0 0] 84))) (by omega) (by omega) (by omega)).mono (R' := fun e w1 => ∃ a m c, e = .returned (.tuple #[.agg #[.int .i64 H, .int .i64 ((C % H : Nat) : Int), .slice a m c], .int .i64 ((C / H : Nat) : Int)]) ∧ Own (w.heap.size + 1) w1.heap.size w1 a m c (List.replicate (C / H) (H : Int)) ∧ Below w.heap.size w w1 ∧ Blk w1 w.heap.size 0 0 none 0 0 84 ∧ w.heap.size + 1 ≤ w1.heap.size)
        (fun e w1 ⟨a, m, c, e1, e2, e3⟩ => ⟨a, m, c, e1, by simpa using e2, belowTrans hb1 e3 (Nat.le_refl _), k1.keep e3, by simpa using e3.size⟩)
      clear hb1 k1
      generalize C / H = q at *
      generalize C % H = r at *
      rw [hm]
      clear hm
      have H1 := Lib.hid h1; clear h1
      have H2 := Lib.hid h2; clear h2
      have Hcon := Lib.hid hcon; clear hcon
      have Hh := Lib.hid hh; clear hh
      have Hn := Lib.hid hn; clear hn
      go_enter Tryz.func140, Tryz.ntmps140
      go_wp2_with fail
      with_reducible refine ((H1.out _)).mono ?_
      rintro e w' ⟨rfl, rfl⟩
      go_wp2_with fail
      with_reducible refine ((H2.out _)).mono ?_
      rintro e w' ⟨rfl, rfl⟩
      go_wp2_with fail
      with_reducible refine (Hcon.out).mono ?_
      rintro e w1 ⟨a, m, c, rfl, ho, hb, k, hs⟩
      have hbn := belowAlloc w1 (.cells #[.int .i64 (H : Int), .int .i64 (r : Int), .slice a m c] 84)
      obtain ⟨⟨u0, u1, u2⟩, v0, v1, v2⟩ := (k.keep hbn).cells
      have ho2 := ((((ho.keep hbn).offCell (R := w.heap.size) (by omega) 0 (.int .i64 (H : Int))).offCell (R := w.heap.size) (by omega) 1 (.int .i64 (r : Int))).offCell (R := w.heap.size) (by omega) 2 (.slice a m c)).mono (show w.heap.size ≤ w.heap.size + 1 by omega) (show w1.heap.size ≤ w1.heap.size + 1 by omega)
      have hb2 := (((belowTrans hb hbn (Nat.le_refl _)).setCell (p := ⟨w.heap.size, 0, none⟩) (Nat.le_refl _) (.int .i64 (H : Int))).setCell (p := ⟨w.heap.size, 1, none⟩) (Nat.le_refl _) (.int .i64 (r : Int))).setCell (p := ⟨w.heap.size, 2, none⟩) (Nat.le_refl _) (.slice a m c)
      clear ho hb k hbn
      have Ho2 := Lib.hid ho2; clear ho2
      have Hb2 := Lib.hid hb2; clear hb2
      go_wp2
      refine bodyPost_ret (v := .tuple #[.agg #[.int .i64 H, .int .i64 (r : Int), .slice a m c], .bool true]) ?_ rfl ⟨a, m, c, rfl, by have := Ho2.out; simpa using this, by have := Hb2.out; simpa using this⟩
      rw [results_cell_tmp rfl]
      simp [go_sem, asAddr, Result.andThen, loadVar, *]
    · rw [if_neg (fun h => hn h.2)] at hm
      have h1 := fun W => baHeight_yes h W hh
      have h2 := fun W => piCards_no n W hn
      obtain ⟨⟨u0, u1, u2⟩, v0, v1, v2⟩ := k1.cells
      clear k1 u0 u1 u2 v0 v1 v2
      rw [hm]
      clear hm
      have H1 := Lib.hid h1; clear h1
      have H2 := Lib.hid h2; clear h2
      have Hb1 := Lib.hid hb1; clear hb1
      have Hh := Lib.hid hh; clear hh
      have Hn := Lib.hid hn; clear hn
      go_enter Tryz.func140, Tryz.ntmps140
      go_wp2_with fail
      with_reducible refine ((H1.out _)).mono ?_
      rintro e w' ⟨rfl, rfl⟩
      go_wp2_with fail
      with_reducible refine ((H2.out _)).mono ?_
      rintro e w' ⟨rfl, rfl⟩
      go_wp2
      refine bodyPost_ret (v := .tuple #[.agg #[.int .i64 0, .int .i64 0, .slice none 0 0], .bool false]) ?_ rfl ⟨none, 0, 0, rfl, Own.nil _ _ _, Hb1.out⟩
      rw [results_cell_tmp rfl]
      simp [go_sem, asAddr, Result.andThen, loadVar, *]
  · rw [if_neg (fun q => hh q.1)] at hm
    have h1 := fun W => baHeight_no h W hh
    clear k1
    rw [hm]
    clear hm
    have H1 := Lib.hid h1; clear h1
    have Hb1 := Lib.hid hb1; clear hb1
    have Hh := Lib.hid hh; clear hh
    go_enter Tryz.func140, Tryz.ntmps140
    go_wp2_with fail
    with_reducible refine ((H1.out _)).mono ?_
    rintro e w' ⟨rfl, rfl⟩
    go_wp2
    refine bodyPost_ret (v := .tuple #[.agg #[.int .i64 0, .int .i64 0, .slice none 0 0], .bool false]) ?_ rfl ⟨none, 0, 0, rfl, Own.nil _ _ _, Hb1.out⟩
    rw [results_cell_tmp rfl]
    simp [go_sem, asAddr, Result.andThen, loadVar, *]
set_option maxHeartbeats 1600000 in
theorem impl_StartBank (h n : Int) (w : World) :
    Calls Tryz.prog 174 #[.int .i64 h, .int .i64 n] w fun e w' => ∃ ao n' cap', e = .returned (.tuple #[.agg #[.int .i64 (mStartBank h n).1.h, .int .i64 (mStartBank h n).1.l, .slice ao n' cap'], .bool (mStartBank h n).2]) ∧ Own w.heap.size w'.heap.size w' ao n' cap' (mStartBank h n).1.p ∧ Below w.heap.size w w' := by
  have hm := mStartBank.eq_1 h n
  have hb1 := belowAlloc w (.cells #[.int .i64 0, .int .i64 0, .slice none 0 0] 84)
  have k1 := Blk.new w 0 0 none 0 0 84
  by_cases hh : 1 ≤ h ∧ h ≤ 10
  · by_cases hn : 0 ≤ n ∧ n ≤ 28
    · rw [if_pos ⟨hh, hn⟩] at hm
      obtain ⟨H, rfl⟩ := Int.eq_ofNat_of_zero_le (show 0 ≤ h by omega)
      obtain ⟨C, rfl⟩ := Int.eq_ofNat_of_zero_le hn.1
      rw [fill_nat, List.append_nil] at hm
      have h1 := fun W => isHeight_yes (H : Int) W hh
      have h2 := fun W => inRange_yes (C : Int) 28 W hn
      have hcon := (makePiles_any H C none 0 0 [] _ (IntsAt.nil (w.alloc (.cells #[.int .i64 0, .int .i64 0, .slice none 0 0] 84))) (by omega) (by omega) (by omega)).mono (R' := fun e w1 => ∃ a m c, e = .returned (.tuple #[.agg #[.int .i64 H, .int .i64 ((C % H : Nat) : Int), .slice a m c], .int .i64 ((C / H : Nat) : Int)]) ∧ Own (w.heap.size + 1) w1.heap.size w1 a m c (List.replicate (C / H) (H : Int)) ∧ Below w.heap.size w w1 ∧ Blk w1 w.heap.size 0 0 none 0 0 84 ∧ w.heap.size + 1 ≤ w1.heap.size)
        (fun e w1 ⟨a, m, c, e1, e2, e3⟩ => ⟨a, m, c, e1, by simpa using e2, belowTrans hb1 e3 (Nat.le_refl _), k1.keep e3, by simpa using e3.size⟩)
      clear hb1 k1
      generalize C / H = q at *
      generalize C % H = r at *
      rw [hm]
      clear hm
      have H1 := Lib.hid h1; clear h1
      have H2 := Lib.hid h2; clear h2
      have Hcon := Lib.hid hcon; clear hcon
      have Hh := Lib.hid hh; clear hh
      have Hn := Lib.hid hn; clear hn
      go_enter Tryz.func174, Tryz.ntmps174
      go_wp2_with fail
      with_reducible refine ((H1.out _)).mono ?_
      rintro e w' ⟨rfl, rfl⟩
      go_wp2_with fail
      with_reducible refine ((H2.out _)).mono ?_
      rintro e w' ⟨rfl, rfl⟩
      go_wp2_with fail
      with_reducible refine (Hcon.out).mono ?_
      rintro e w1 ⟨a, m, c, rfl, ho, hb, k, hs⟩
      have hbn := belowAlloc w1 (.cells #[.int .i64 (H : Int), .int .i64 (r : Int), .slice a m c] 84)
      obtain ⟨⟨u0, u1, u2⟩, v0, v1, v2⟩ := (k.keep hbn).cells
      have ho2 := ((((ho.keep hbn).offCell (R := w.heap.size) (by omega) 0 (.int .i64 (H : Int))).offCell (R := w.heap.size) (by omega) 1 (.int .i64 (r : Int))).offCell (R := w.heap.size) (by omega) 2 (.slice a m c)).mono (show w.heap.size ≤ w.heap.size + 1 by omega) (show w1.heap.size ≤ w1.heap.size + 1 by omega)
      have hb2 := (((belowTrans hb hbn (Nat.le_refl _)).setCell (p := ⟨w.heap.size, 0, none⟩) (Nat.le_refl _) (.int .i64 (H : Int))).setCell (p := ⟨w.heap.size, 1, none⟩) (Nat.le_refl _) (.int .i64 (r : Int))).setCell (p := ⟨w.heap.size, 2, none⟩) (Nat.le_refl _) (.slice a m c)
      clear ho hb k hbn
      have Ho2 := Lib.hid ho2; clear ho2
      have Hb2 := Lib.hid hb2; clear hb2
      go_wp2
      refine bodyPost_ret (v := .tuple #[.agg #[.int .i64 H, .int .i64 (r : Int), .slice a m c], .bool true]) ?_ rfl ⟨a, m, c, rfl, by have := Ho2.out; simpa using this, by have := Hb2.out; simpa using this⟩
      rw [results_cell_tmp rfl]
      simp [go_sem, asAddr, Result.andThen, loadVar, *]
    · rw [if_neg (fun h => hn h.2)] at hm
      have h1 := fun W => isHeight_yes h W hh
      have h2 := fun W => inRange_no n 28 W hn
      obtain ⟨⟨u0, u1, u2⟩, v0, v1, v2⟩ := k1.cells
      clear k1 u0 u1 u2 v0 v1 v2
      rw [hm]
      clear hm
      have H1 := Lib.hid h1; clear h1
      have H2 := Lib.hid h2; clear h2
      have Hb1 := Lib.hid hb1; clear hb1
      have Hh := Lib.hid hh; clear hh
      have Hn := Lib.hid hn; clear hn
      go_enter Tryz.func174, Tryz.ntmps174
      go_wp2_with fail
      with_reducible refine ((H1.out _)).mono ?_
      rintro e w' ⟨rfl, rfl⟩
      go_wp2_with fail
      with_reducible refine ((H2.out _)).mono ?_
      rintro e w' ⟨rfl, rfl⟩
      go_wp2
      refine bodyPost_ret (v := .tuple #[.agg #[.int .i64 0, .int .i64 0, .slice none 0 0], .bool false]) ?_ rfl ⟨none, 0, 0, rfl, Own.nil _ _ _, Hb1.out⟩
      rw [results_cell_tmp rfl]
      simp [go_sem, asAddr, Result.andThen, loadVar, *]
  · rw [if_neg (fun q => hh q.1)] at hm
    have h1 := fun W => isHeight_no h W hh
    clear k1
    rw [hm]
    clear hm
    have H1 := Lib.hid h1; clear h1
    have Hb1 := Lib.hid hb1; clear hb1
    have Hh := Lib.hid hh; clear hh
    go_enter Tryz.func174, Tryz.ntmps174
    go_wp2_with fail
    with_reducible refine ((H1.out _)).mono ?_
    rintro e w' ⟨rfl, rfl⟩
    go_wp2
    refine bodyPost_ret (v := .tuple #[.agg #[.int .i64 0, .int .i64 0, .slice none 0 0], .bool false]) ?_ rfl ⟨none, 0, 0, rfl, Own.nil _ _ _, Hb1.out⟩
    rw [results_cell_tmp rfl]
    simp [go_sem, asAddr, Result.andThen, loadVar, *]
end
end Go.Proofs.YtimmjimeldejjaaGreatDoor
namespace Go.Proofs.YtimmjimeldejjaaGreatDoor
section
open Go.RowKit
set_option linter.unusedVariables false
set_option linter.unusedSimpArgs false
set_option maxRecDepth 20000

theorem bankNo {b : Bk} (h : ¬ BankOk b) : bankB b = false := bank_no.2 h
theorem bankYes {b : Bk} (h : BankOk b) : bankB b = true := bank_iff.2 h

set_option maxHeartbeats 800000 in
theorem cardsWith_any (h l : Int) (ao : Option Addr) (n cap : Nat) (xs : List Int) (w : World) (hA : IntsAt w ao n cap xs) (hG : Good xs) (hl : 0 ≤ l ∧ l ≤ 100) :
    Calls Tryz.prog 209 #[bankV h l ao n cap] w fun e w' => e = .returned (.int .i64 (l + xs.sum)) ∧ Below w.heap.size w w' := by
  have hb := belowAlloc w (bankC h l ao n cap 84)
  have hcon := fun nq => (sumOf_any ao n cap xs _ ((hA.keep hb).drewN nq) hG).mono fun _ _ ⟨a, b⟩ => And.intro a b.symm
  have hs0 := sum_nonneg hG.1
  have hs1 := hG.2.2
  unfold bankC at hb hcon
  generalize xs.sum = S at *
  have Hcon := Lib.hid hcon; clear hcon
  have Hb := Lib.hid hb; clear hb
  unfold bankV
  go_enter Tryz.func209, Tryz.ntmps209
  go_wp2_with fail
  go_quiet ((go_at_call 164; exact Calls.quiet_of_same (Hcon.out _)))
  go_wp2
  go_ret
  exact ⟨rfl, belowDrewN Hb.out _⟩
set_option maxHeartbeats 1600000 in
theorem isBank_any (h l : Int) (ao : Option Addr) (n cap : Nat) (xs : List Int) (w : World) (hA : IntsAt w ao n cap xs) :
    Calls Tryz.prog 171 #[bankV h l ao n cap] w fun e w' => e = .returned (.bool (bankB ⟨h, l, xs⟩)) ∧ Below w.heap.size w w' := by
  have hb := belowAlloc w (bankC h l ao n cap 84)
  have hA' := hA.keep hb
  by_cases h1 : 1 ≤ h ∧ h ≤ 10
  · have c1 := fun W => isHeight_yes h W h1
    by_cases h2 : 0 ≤ l ∧ l ≤ h - 1
    · have c2 := fun W => inRange_yes l (h - 1) W h2
      by_cases h3 : Good xs
      · have c3 := isPiles_yes ao n cap xs _ hA' h3
        have hn := hA.length
        have hn28 := h3.len
        have c4 := fun W (hW : IntsAt W ao n cap xs) => cardsWith_any h l ao n cap xs W hW h3 (by omega)
        have hs0 := sum_nonneg h3.1
        have hs1 := h3.2.2
        have hbk : bankB ⟨h, l, xs⟩ = decide (xs.getD 0 0 ≤ h ∧ l + xs.sum ≤ 28) := by
          
          by_cases q : xs.getD 0 0 ≤ h ∧ l + xs.sum ≤ 28
          · rw [decide_eq_true q, bankYes ⟨h1, h2, h3, q.1, q.2⟩]
          · rw [decide_eq_false q, bankNo fun z => q ⟨z.2.2.2.1, z.2.2.2.2⟩]
        rw [hbk]
        have hdrew := fun nq => hA'.drewN nq
        unfold bankC at hb c3 hdrew hA'
        unfold bankV at c4
        generalize xs.sum = S at *
        by_cases hz : n = 0
        · subst hz
          have hg0 : xs.getD 0 0 = 0 := by rw [List.getD_eq_getElem?_getD, List.getElem?_eq_none (by omega)]; rfl
          have hd : decide (xs.getD 0 0 ≤ h ∧ l + S ≤ 28) = decide (l + S ≤ 28) := by rw [hg0]; simp; omega
          rw [hd]
          have hgt : decide ((0 : Int) > 0) = false := by decide
          clear hd hg0 hbk hA hA'
          have C1 := Lib.hid c1; clear c1
          have C2 := Lib.hid c2; clear c2
          have C3 := Lib.hid c3; clear c3
          have C4 := Lib.hid c4; clear c4
          have Hb := Lib.hid hb; clear hb
          have Hdrew := Lib.hid hdrew; clear hdrew
          have Hn := Lib.hid hn; clear hn
          have H3 := Lib.hid h3; clear h3
          unfold bankV
          go_enter Tryz.func171, Tryz.ntmps171
          go_wp2_with fail
          with_reducible refine ((C1.out _)).mono ?_
          rintro e w' ⟨rfl, rfl⟩
          go_wp2_with fail
          with_reducible refine ((C2.out _)).mono ?_
          rintro e w' ⟨rfl, rfl⟩
          go_wp2_with fail
          with_reducible refine ((C3.out)).mono ?_
          rintro e w' ⟨rfl, rfl⟩
          go_wp2_with fail
          go_quiet (fail)
          go_wp2_with fail
          with_reducible refine (C4.out _ (Hdrew.out _)).mono ?_
          rintro e w1 ⟨rfl, hb1⟩
          have hbb := belowTrans (belowDrewN Hb.out _) hb1 (Nat.le_refl _)
          have Hbb := Lib.hid hbb; clear hbb
          go_wp2
          go_ret
          exact ⟨rfl, Hbb.out⟩
        · obtain ⟨b, o, rfl, hbl, hc⟩ := hA'.cell 0 (by omega)
          have hck := hc 0 (by omega)
          rw [Nat.add_zero] at hck
          have hgt : decide (0 < n) = true := by simp; omega
          clear hc hbl
          generalize xs.getD 0 0 = x at *
          by_cases hx : x ≤ h
          · have hd : decide (x ≤ h ∧ l + S ≤ 28) = decide (l + S ≤ 28) := by simp [hx]
            have hx2 : decide (h < x) = false := by simp; omega
            rw [hd]
            clear hd hbk hA hA'
            have C1 := Lib.hid c1; clear c1
            have C2 := Lib.hid c2; clear c2
            have C3 := Lib.hid c3; clear c3
            have C4 := Lib.hid c4; clear c4
            have Hb := Lib.hid hb; clear hb
            have Hdrew := Lib.hid hdrew; clear hdrew
            have Hn := Lib.hid hn; clear hn
            have H3 := Lib.hid h3; clear h3
            unfold bankV
            go_enter Tryz.func171, Tryz.ntmps171
            go_wp2_with fail
            with_reducible refine ((C1.out _)).mono ?_
            rintro e w' ⟨rfl, rfl⟩
            go_wp2_with fail
            with_reducible refine ((C2.out _)).mono ?_
            rintro e w' ⟨rfl, rfl⟩
            go_wp2_with fail
            with_reducible refine ((C3.out)).mono ?_
            rintro e w' ⟨rfl, rfl⟩
            go_wp2_with fail
            go_quiet (fail)
            go_wp2_with fail
            with_reducible refine (C4.out _ (Hdrew.out _)).mono ?_
            rintro e w1 ⟨rfl, hb1⟩
            have hbb := belowTrans (belowDrewN Hb.out _) hb1 (Nat.le_refl _)
            have Hbb := Lib.hid hbb; clear hbb
            go_wp2
            go_ret
            exact ⟨rfl, Hbb.out⟩
          · have hd : decide (x ≤ h ∧ l + S ≤ 28) = false := by simp [hx]
            have hx2 : decide (h < x) = true := by simp; omega
            rw [hd]
            clear hd hbk hA hA'
            have C1 := Lib.hid c1; clear c1
            have C2 := Lib.hid c2; clear c2
            have C3 := Lib.hid c3; clear c3
            have C4 := Lib.hid c4; clear c4
            have Hb := Lib.hid hb; clear hb
            have Hdrew := Lib.hid hdrew; clear hdrew
            have Hn := Lib.hid hn; clear hn
            have H3 := Lib.hid h3; clear h3
            unfold bankV
            go_enter Tryz.func171, Tryz.ntmps171
            go_wp2_with fail
            with_reducible refine ((C1.out _)).mono ?_
            rintro e w' ⟨rfl, rfl⟩
            go_wp2_with fail
            with_reducible refine ((C2.out _)).mono ?_
            rintro e w' ⟨rfl, rfl⟩
            go_wp2_with fail
            with_reducible refine ((C3.out)).mono ?_
            rintro e w' ⟨rfl, rfl⟩
            go_wp2_with fail
            go_quiet (fail)
            go_wp2
            go_ret
            exact ⟨rfl, belowDrewN Hb.out _⟩
      · have c3 := isPiles_no ao n cap xs _ hA' (by cases hq : goodB xs with | false => rfl | true => exact absurd (good_iff.1 hq) h3)
        rw [bankNo fun q => h3 q.2.2.1]
        unfold bankC at hb c3
        have C1 := Lib.hid c1; clear c1
        have C2 := Lib.hid c2; clear c2
        have C3 := Lib.hid c3; clear c3
        have Hb := Lib.hid hb; clear hb
        have H3 := Lib.hid h3; clear h3
        unfold bankV
        go_enter Tryz.func171, Tryz.ntmps171
        go_wp2_with fail
        with_reducible refine ((C1.out _)).mono ?_
        rintro e w' ⟨rfl, rfl⟩
        go_wp2_with fail
        with_reducible refine ((C2.out _)).mono ?_
        rintro e w' ⟨rfl, rfl⟩
        go_wp2_with fail
        with_reducible refine ((C3.out)).mono ?_
        rintro e w' ⟨rfl, rfl⟩
        go_wp2
        go_ret
        exact ⟨rfl, Hb.out⟩
    · have c2 := fun W => inRange_no l (h - 1) W h2
      rw [bankNo fun q => h2 q.2.1]
      unfold bankC at hb
      have C1 := Lib.hid c1; clear c1
      have C2 := Lib.hid c2; clear c2
      have Hb := Lib.hid hb; clear hb
      have H2 := Lib.hid h2; clear h2
      unfold bankV
      go_enter Tryz.func171, Tryz.ntmps171
      go_wp2_with fail
      with_reducible refine ((C1.out _)).mono ?_
      rintro e w' ⟨rfl, rfl⟩
      go_wp2_with fail
      with_reducible refine ((C2.out _)).mono ?_
      rintro e w' ⟨rfl, rfl⟩
      go_wp2
      go_ret
      exact ⟨rfl, Hb.out⟩
  · have c1 := fun W => isHeight_no h W h1
    rw [bankNo fun q => h1 q.1]
    unfold bankC at hb
    have C1 := Lib.hid c1; clear c1
    have Hb := Lib.hid hb; clear hb
    have H1 := Lib.hid h1; clear h1
    unfold bankV
    go_enter Tryz.func171, Tryz.ntmps171
    go_wp2_with fail
    with_reducible refine ((C1.out _)).mono ?_
    rintro e w' ⟨rfl, rfl⟩
    go_wp2
    go_ret
    exact ⟨rfl, Hb.out⟩
theorem l1In_t (a lo hi : Int) (w : World) (h : lo ≤ a ∧ a ≤ hi) : Calls Tryz.prog 89 #[.int .i64 a, .int .i64 lo, .int .i64 hi] w fun e w' => e = .returned (.bool true) ∧ w = w' := by
  have := l1In_any a lo hi w; rw [decide_eq_true h] at this; exact this
theorem l1In_f (a lo hi : Int) (w : World) (h : ¬ (lo ≤ a ∧ a ≤ hi)) : Calls Tryz.prog 89 #[.int .i64 a, .int .i64 lo, .int .i64 hi] w fun e w' => e = .returned (.bool false) ∧ w = w' := by
  have := l1In_any a lo hi w; rw [decide_eq_false h] at this; exact this
set_option maxHeartbeats 1600000 in
theorem baGood_any (h l : Int) (ao : Option Addr) (n cap : Nat) (xs : List Int) (w : World) (hA : IntsAt w ao n cap xs) :
    Calls Tryz.prog 62 #[bankV h l ao n cap] w fun e w' => e = .returned (.bool (bankB ⟨h, l, xs⟩)) ∧ Below w.heap.size w w' := by
  have hb := belowAlloc w (bankC h l ao n cap 84)
  have hA' := hA.keep hb
  by_cases h1 : 1 ≤ h ∧ h ≤ 10
  · have c1 := fun W => l1In_t h 1 10 W h1
    by_cases h2 : 0 ≤ l ∧ l ≤ h - 1
    · have c2 := fun W => l1In_t l 0 (h - 1) W h2
      by_cases h3 : Good xs
      · have c3 := piGood_yes ao n cap xs _ hA' h3
        have hn := hA.length
        have hn28 := h3.len
        have c4 := fun nq => (piSum_any ao n cap xs _ (hA'.drewN nq) h3).mono fun _ _ ⟨a, b⟩ => And.intro a b.symm
        have hs0 := sum_nonneg h3.1
        have hs1 := h3.2.2
        have hbk : bankB ⟨h, l, xs⟩ = decide (xs.getD 0 0 ≤ h ∧ l + xs.sum ≤ 28) := by
          
          by_cases q : xs.getD 0 0 ≤ h ∧ l + xs.sum ≤ 28
          · rw [decide_eq_true q, bankYes ⟨h1, h2, h3, q.1, q.2⟩]
          · rw [decide_eq_false q, bankNo fun z => q ⟨z.2.2.2.1, z.2.2.2.2⟩]
        rw [hbk]
        unfold bankC at hb c3 c4 hA'
        generalize xs.sum = S at *
        by_cases hz : n = 0
        · subst hz
          have hg0 : xs.getD 0 0 = 0 := by rw [List.getD_eq_getElem?_getD, List.getElem?_eq_none (by omega)]; rfl
          have hd : decide (xs.getD 0 0 ≤ h ∧ l + S ≤ 28) = decide (l + S ≤ 28) := by rw [hg0]; simp; omega
          rw [hd]
          have hgt : decide ((0 : Int) = 0) = true := by decide
          clear hd hg0 hbk hA hA'
          have C1 := Lib.hid c1; clear c1
          have C2 := Lib.hid c2; clear c2
          have C3 := Lib.hid c3; clear c3
          have C4 := Lib.hid c4; clear c4
          have Hb := Lib.hid hb; clear hb
          have Hn := Lib.hid hn; clear hn
          have H3 := Lib.hid h3; clear h3
          unfold bankV
          go_enter Tryz.func62, Tryz.ntmps62
          go_wp2_with fail
          with_reducible refine ((C1.out _)).mono ?_
          rintro e w' ⟨rfl, rfl⟩
          go_wp2_with fail
          with_reducible refine ((C2.out _)).mono ?_
          rintro e w' ⟨rfl, rfl⟩
          go_wp2_with fail
          with_reducible refine ((C3.out)).mono ?_
          rintro e w' ⟨rfl, rfl⟩
          go_wp2_with fail
          go_quiet ((go_at_call 85; exact Calls.quiet_of_same (C4.out _)))
          go_wp2
          go_ret
          exact ⟨rfl, belowDrewN Hb.out _⟩
        · obtain ⟨b, o, rfl, hbl, hc⟩ := hA'.cell 0 (by omega)
          have hck := hc 0 (by omega)
          rw [Nat.add_zero] at hck
          have hgt : decide (n = 0) = false := by simp; omega
          have hgt2 : decide (0 < n) = true := by simp; omega
          have hgt3 : 0 < n := by omega
          have hwr : IntKind.i64.wrap (l + S) = l + S := IntWalk.i64_in _ (by omega)
          clear hc hbl
          generalize xs.getD 0 0 = x at *
          by_cases hx : x ≤ h
          · have hd : decide (x ≤ h ∧ l + S ≤ 28) = decide (l + S ≤ 28) := by simp [hx]
            have hx2 : decide (x ≤ h) = true := by simp; omega
            rw [hd]
            clear hd hbk hA hA'
            have C1 := Lib.hid c1; clear c1
            have C2 := Lib.hid c2; clear c2
            have C3 := Lib.hid c3; clear c3
            have C4 := Lib.hid c4; clear c4
            have Hb := Lib.hid hb; clear hb
            have Hn := Lib.hid hn; clear hn
            have H3 := Lib.hid h3; clear h3
            unfold bankV
            go_enter Tryz.func62, Tryz.ntmps62
            go_wp2_with fail
            with_reducible refine ((C1.out _)).mono ?_
            rintro e w' ⟨rfl, rfl⟩
            go_wp2_with fail
            with_reducible refine ((C2.out _)).mono ?_
            rintro e w' ⟨rfl, rfl⟩
            go_wp2_with fail
            with_reducible refine ((C3.out)).mono ?_
            rintro e w' ⟨rfl, rfl⟩
            go_wp2_with fail
            go_quiet ((go_at_call 85; exact Calls.quiet_of_same (C4.out _)))
            go_wp2
            go_ret
            exact ⟨rfl, belowDrewN Hb.out _⟩
          · have hd : decide (x ≤ h ∧ l + S ≤ 28) = false := by simp [hx]
            have hx2 : decide (x ≤ h) = false := by simp; omega
            rw [hd]
            clear hd hbk hA hA'
            have C1 := Lib.hid c1; clear c1
            have C2 := Lib.hid c2; clear c2
            have C3 := Lib.hid c3; clear c3
            have C4 := Lib.hid c4; clear c4
            have Hb := Lib.hid hb; clear hb
            have Hn := Lib.hid hn; clear hn
            have H3 := Lib.hid h3; clear h3
            unfold bankV
            go_enter Tryz.func62, Tryz.ntmps62
            go_wp2_with fail
            with_reducible refine ((C1.out _)).mono ?_
            rintro e w' ⟨rfl, rfl⟩
            go_wp2_with fail
            with_reducible refine ((C2.out _)).mono ?_
            rintro e w' ⟨rfl, rfl⟩
            go_wp2_with fail
            with_reducible refine ((C3.out)).mono ?_
            rintro e w' ⟨rfl, rfl⟩
            go_wp2_with fail
            go_quiet (fail)
            go_wp2
            go_ret
            exact ⟨rfl, belowDrewN Hb.out _⟩
      · have c3 := piGood_no ao n cap xs _ hA' (by cases hq : goodB xs with | false => rfl | true => exact absurd (good_iff.1 hq) h3)
        rw [bankNo fun q => h3 q.2.2.1]
        unfold bankC at hb c3
        have C1 := Lib.hid c1; clear c1
        have C2 := Lib.hid c2; clear c2
        have C3 := Lib.hid c3; clear c3
        have Hb := Lib.hid hb; clear hb
        have H3 := Lib.hid h3; clear h3
        unfold bankV
        go_enter Tryz.func62, Tryz.ntmps62
        go_wp2_with fail
        with_reducible refine ((C1.out _)).mono ?_
        rintro e w' ⟨rfl, rfl⟩
        go_wp2_with fail
        with_reducible refine ((C2.out _)).mono ?_
        rintro e w' ⟨rfl, rfl⟩
        go_wp2_with fail
        with_reducible refine ((C3.out)).mono ?_
        rintro e w' ⟨rfl, rfl⟩
        go_wp2
        go_ret
        exact ⟨rfl, Hb.out⟩
    · have c2 := fun W => l1In_f l 0 (h - 1) W h2
      rw [bankNo fun q => h2 q.2.1]
      unfold bankC at hb
      have C1 := Lib.hid c1; clear c1
      have C2 := Lib.hid c2; clear c2
      have Hb := Lib.hid hb; clear hb
      have H2 := Lib.hid h2; clear h2
      unfold bankV
      go_enter Tryz.func62, Tryz.ntmps62
      go_wp2_with fail
      with_reducible refine ((C1.out _)).mono ?_
      rintro e w' ⟨rfl, rfl⟩
      go_wp2_with fail
      with_reducible refine ((C2.out _)).mono ?_
      rintro e w' ⟨rfl, rfl⟩
      go_wp2
      go_ret
      exact ⟨rfl, Hb.out⟩
  · have c1 := fun W => l1In_f h 1 10 W h1
    rw [bankNo fun q => h1 q.1]
    unfold bankC at hb
    have C1 := Lib.hid c1; clear c1
    have Hb := Lib.hid hb; clear hb
    have H1 := Lib.hid h1; clear h1
    unfold bankV
    go_enter Tryz.func62, Tryz.ntmps62
    go_wp2_with fail
    with_reducible refine ((C1.out _)).mono ?_
    rintro e w' ⟨rfl, rfl⟩
    go_wp2
    go_ret
    exact ⟨rfl, Hb.out⟩

/-! ### IsBank, BankCards -/
end
end Go.Proofs.YtimmjimeldejjaaGreatDoor
namespace Go.Proofs.YtimmjimeldejjaaGreatDoor
section
open Go.RowKit
set_option linter.unusedVariables false
set_option linter.unusedSimpArgs false
set_option maxRecDepth 20000

theorem step_nat (H L0 n : Nat) (xs : List Int) (hn : xs.length = n) : stepB ⟨(H : Int), (L0 : Int), xs⟩ = ⟨(H : Int), (((L0 + n) % H : Nat) : Int), List.replicate ((L0 + n) / H) (H : Int) ++ lowL xs⟩ ∧ madeB ⟨(H : Int), (L0 : Int), xs⟩ = (((L0 + n) / H : Nat) : Int) := by
  subst hn
  refine ⟨?_, ?_⟩
  · unfold stepB
    simp only
    rw [← Int.natCast_add, fill_nat]
  · unfold madeB
    simp only
    rw [← Int.natCast_add, ← Int.natCast_ediv]

set_option maxHeartbeats 1600000 in
theorem baStep_any (h l : Int) (ao : Option Addr) (n cap : Nat) (xs : List Int) (w : World) (hA : IntsAt w ao n cap xs) (hk : BankOk ⟨h, l, xs⟩) :
    Calls Tryz.prog 87 #[.agg #[.int .i64 h, .int .i64 l, .slice ao n cap]] w fun e w' => ∃ a m c, e = .returned (.tuple #[.agg #[.int .i64 (stepB ⟨h, l, xs⟩).h, .int .i64 (stepB ⟨h, l, xs⟩).l, .slice a m c], .int .i64 (madeB ⟨h, l, xs⟩)]) ∧ Own w.heap.size w'.heap.size w' a m c (stepB ⟨h, l, xs⟩).p ∧ Below w.heap.size w w' := by
  have hl0 := hA.length
  have h1 : 1 ≤ h ∧ h ≤ 10 := hk.1
  have h2 : 0 ≤ l ∧ l ≤ h - 1 := hk.2.1
  have hsum : 0 ≤ xs.sum ∧ xs.sum ≤ 28 ∧ (xs.length : Int) ≤ xs.sum := hk.sum
  have h5 : l + xs.sum ≤ 28 := hk.2.2.2.2
  have hle := fun k (hkn : k < n) => hk.le (x := xs.getD k 0) (by rw [List.getD_eq_getElem?_getD, List.getElem?_eq_getElem (by omega)]; exact List.getElem_mem _)
  obtain ⟨H, rfl⟩ := Int.eq_ofNat_of_zero_le (show 0 ≤ h by omega)
  obtain ⟨L0, rfl⟩ := Int.eq_ofNat_of_zero_le h2.1
  have hC : L0 + n ≤ 28 := by omega
  have hn28 : n ≤ 28 := by omega
  obtain ⟨e1, e2⟩ := step_nat H L0 n xs hl0
  rw [e1, e2]
  clear e1 e2
  generalize hq : (L0 + n) / H = q
  generalize hr : (L0 + n) % H = r
  have hb1 := belowAlloc w (.cells #[.int .i64 (H : Int), .int .i64 (L0 : Int), .slice ao n cap] 84)
  have hbn := belowAlloc (w.alloc (.cells #[.int .i64 (H : Int), .int .i64 (L0 : Int), .slice ao n cap] 84)) (.cells #[.int .i64 0, .int .i64 0, .slice none 0 0] 84)
  have hb2 := belowTrans hb1 hbn (Nat.le_refl _)
  have k1 := (Blk.new w (H : Int) (L0 : Int) ao n cap 84).keep hbn
  have m1 := Blk.new (w.alloc (.cells #[.int .i64 (H : Int), .int .i64 (L0 : Int), .slice ao n cap] 84)) 0 0 none 0 0 84
  rw [show (w.alloc (.cells #[.int .i64 (H : Int), .int .i64 (L0 : Int), .slice ao n cap] 84)).heap.size = w.heap.size + 1 by simp] at m1
  have hs2 : ((w.alloc (.cells #[.int .i64 (H : Int), .int .i64 (L0 : Int), .slice ao n cap] 84)).alloc (.cells #[.int .i64 0, .int .i64 0, .slice none 0 0] 84)).heap.size = w.heap.size + 2 := by simp
  clear hb1 hbn hk hsum h5
  have hA0 := hA
  clear hA
  have Hb2 := Lib.hid hb2; clear hb2
  have K1 := Lib.hid k1; clear k1
  have M1 := Lib.hid m1; clear m1
  have HA0 := Lib.hid hA0; clear hA0
  have Hs2 := Lib.hid hs2; clear hs2
  have Hl0 := Lib.hid hl0; clear hl0
  have Hle := Lib.hid hle; clear hle
  have Hq := Lib.hid hq; clear hq
  have Hr := Lib.hid hr; clear hr
  go_enter Tryz.func87, Tryz.ntmps87
  go_wp2_with fail
  go_loopw [4, 10] (fun v x wr => ∃ (k : Nat) (a : Option Addr) (m c : Nat), k ≤ n ∧ x = .int .i64 k ∧ v = .slice a m c ∧ Hid (Blk wr w.heap.size (H : Int) (L0 : Int) ao n cap 84) ∧ Hid (Blk wr (w.heap.size + 1) 0 0 none 0 0 84) ∧ Own (w.heap.size + 2) wr.heap.size wr a m c (lowL (xs.take k)) ∧ Hid (Below w.heap.size w wr) ∧ w.heap.size + 2 ≤ wr.heap.size) (fun _ x _ => n - (intOf x).toNat)
  case atStart => exact ⟨0, none, 0, 0, Nat.zero_le _, rfl, rfl, K1, M1, Own.nil _ _ _, Hb2, by rw [Hs2.out]; exact Nat.le_refl _⟩
  case round =>
    obtain ⟨k, a, m, c, hkn, rfl, rfl, Kr, Mr, hor, Hbr, hsr⟩ := hrel
    clear K1 M1 Hb2 Hs2
    have hm := hor.length
    have hml := lowL_length (xs.take k)
    have htl : (xs.take k).length ≤ 28 := by rw [List.length_take]; omega
    rw [hm] at hml
    have hge : ∀ g, (Value.slice a m c).ownBlock = some g → w.heap.size + 2 ≤ g := fun g hg => (hor.1.lt g hg).1
    have Hm := Lib.hid hm; clear hm
    have Hge := Lib.hid hge; clear hge
    obtain ⟨⟨u0, u1, u2⟩, v0, v1, v2⟩ := Kr.out.cells
    by_cases hlt : k < n
    · obtain ⟨b, o, rfl, hbl, hc⟩ := (HA0.out.keep Hbr.out).cell k hlt
      have hck := hc k hlt
      clear hc hbl
      obtain ⟨q1, q2⟩ := Hle.out k hlt
      generalize hx : xs.getD k 0 = x at hck q1 q2
      have e := lowL_snoc (xs.take k) x
      rw [← take_snoc hx hlt Hl0.out] at e
      have Hx := Lib.hid hx; clear hx
      by_cases hx1 : 1 < x
      · rw [if_pos hx1] at e
        have E := Lib.hid e; clear e
        go_wp2_with (at_builtin; refine wpList_push wr rfl _ _ rfl (w.heap.size + 2) _ a m c _ rfl hor _ rfl (by omega) hsr ?_)
        intro a4 c4 w4 ho4 hch
        have hns : ∀ g, g < w.heap.size + 2 → ¬ (Value.slice a m c).ownBlock = some g := fun g hg e => by have := Hge.out g e; omega
        have K4 := Lib.hid (Kr.out.chg hch (hns _ (by omega)))
        have M4 := Lib.hid (Mr.out.chg hch (hns _ (by omega)))
        have hb4 : Below (w.heap.size + 2) wr w4 := hor.chgBelow hch hsr
        have Hb5 := Lib.hid (Hbr.out.trans (hb4.mono (by omega)))
        have hs4 : w.heap.size + 2 ≤ w4.heap.size := Nat.le_trans hsr hb4.size
        clear u0 u1 u2 v0 v1 v2 hor hch hb4 Kr Mr Hbr hns
        go_wp2
        go_roundw
        case rel => exact ⟨k + 1, a4, _, c4, by omega, by go_num, rfl, K4, M4, by rw [E.out]; exact ho4, Hb5, hs4⟩
        case measure => simp [intOf]; omega
      · rw [if_neg hx1, List.append_nil] at e
        have E := Lib.hid e; clear e
        go_wp2
        go_roundw
        case rel => exact ⟨k + 1, a, m, c, by omega, by go_num, rfl, Kr, Mr, by rw [E.out]; exact hor, Hbr, hsr⟩
        case measure => simp [intOf]; omega
    · obtain rfl : k = n := by omega
      have etk : xs.take k = xs := List.take_of_length_le (by have := Hl0.out; omega)
      rw [etk] at hor
      clear etk
      have hcon := baFill_any H (L0 + k) a m c (lowL xs) wr hor.at (by omega) hC (by omega)
      have ecast : ((L0 + k : Nat) : Int) = (L0 : Int) + (k : Int) := by omega
      rw [ecast] at hcon
      have hsz1 : w.heap.size < wr.heap.size := by omega
      have hcon' := hcon.mono (R' := fun e w1 => ∃ a m c, e = .returned (.tuple #[.agg #[.int .i64 (H : Int), .int .i64 (((L0 + k) % H : Nat) : Int), .slice a m c], .int .i64 (((L0 + k) / H : Nat) : Int)]) ∧ Own (w.heap.size + 2) w1.heap.size w1 a m c (List.replicate ((L0 + k) / H) (H : Int) ++ lowL xs) ∧ Below w.heap.size w w1 ∧ Blk w1 (w.heap.size + 1) 0 0 none 0 0 84)
        (fun e w1 ⟨a, m, c, e1, e2, e3⟩ => ⟨a, m, c, e1, e2.mono hsr (Nat.le_refl _), belowTrans Hbr.out e3 (by omega), Mr.out.keep e3⟩)
      clear hcon hor Mr Hbr
      rw [Hq.out, Hr.out] at hcon'
      have Hcon' := Lib.hid hcon'; clear hcon'
      have Ecast := Lib.hid ecast; clear ecast
      go_wp2_with fail
      with_reducible refine (Hcon'.out).mono ?_
      rintro e w1 ⟨a1, m1, c1, rfl, ho, hb, kz⟩
      clear u0 u1 u2 v0 v1 v2
      obtain ⟨⟨u0, u1, u2⟩, v0, v1, v2⟩ := kz.cells
      have ho2 := (((ho.offCell (R := w.heap.size + 1) (by omega) 0 (.int .i64 (H : Int))).offCell (R := w.heap.size + 1) (by omega) 1 (.int .i64 (r : Int))).offCell (R := w.heap.size + 1) (by omega) 2 (.slice a1 m1 c1)).mono (show w.heap.size ≤ w.heap.size + 2 by omega) (Nat.le_refl _)
      have hb2 := ((hb.setCell (p := ⟨w.heap.size + 1, 0, none⟩) (by show w.heap.size ≤ w.heap.size + 1; omega) (.int .i64 (H : Int))).setCell (p := ⟨w.heap.size + 1, 1, none⟩) (by show w.heap.size ≤ w.heap.size + 1; omega) (.int .i64 (r : Int))).setCell (p := ⟨w.heap.size + 1, 2, none⟩) (by show w.heap.size ≤ w.heap.size + 1; omega) (.slice a1 m1 c1)
      clear ho hb kz
      have Ho2 := Lib.hid ho2; clear ho2
      have Hb2 := Lib.hid hb2; clear hb2
      go_wp2
      refine bodyPost_ret (v := .tuple #[.agg #[.int .i64 H, .int .i64 (r : Int), .slice a1 m1 c1], .int .i64 (q : Int)]) ?_ rfl ⟨a1, m1, c1, rfl, by have := Ho2.out; simpa using this, by have := Hb2.out; simpa using this⟩
      rw [results_cell_tmp rfl]
      simp [go_sem, asAddr, Result.andThen, loadVar, *]

set_option maxHeartbeats 1600000 in
theorem stepOfBank_any (h l : Int) (ao : Option Addr) (n cap : Nat) (xs : List Int) (w : World) (hA : IntsAt w ao n cap xs) (hk : BankOk ⟨h, l, xs⟩) :
    Calls Tryz.prog 234 #[.agg #[.int .i64 h, .int .i64 l, .slice ao n cap]] w fun e w' => ∃ a m c, e = .returned (.tuple #[.agg #[.int .i64 (stepB ⟨h, l, xs⟩).h, .int .i64 (stepB ⟨h, l, xs⟩).l, .slice a m c], .int .i64 (madeB ⟨h, l, xs⟩)]) ∧ Own w.heap.size w'.heap.size w' a m c (stepB ⟨h, l, xs⟩).p ∧ Below w.heap.size w w' := by
  have hl0 := hA.length
  have h1 : 1 ≤ h ∧ h ≤ 10 := hk.1
  have h2 : 0 ≤ l ∧ l ≤ h - 1 := hk.2.1
  have hsum : 0 ≤ xs.sum ∧ xs.sum ≤ 28 ∧ (xs.length : Int) ≤ xs.sum := hk.sum
  have h5 : l + xs.sum ≤ 28 := hk.2.2.2.2
  have hle := fun k (hkn : k < n) => hk.le (x := xs.getD k 0) (by rw [List.getD_eq_getElem?_getD, List.getElem?_eq_getElem (by omega)]; exact List.getElem_mem _)
  obtain ⟨H, rfl⟩ := Int.eq_ofNat_of_zero_le (show 0 ≤ h by omega)
  obtain ⟨L0, rfl⟩ := Int.eq_ofNat_of_zero_le h2.1
  have hC : L0 + n ≤ 28 := by omega
  have hn28 : n ≤ 28 := by omega
  obtain ⟨e1, e2⟩ := step_nat H L0 n xs hl0
  rw [e1, e2]
  clear e1 e2
  generalize hq : (L0 + n) / H = q
  generalize hr : (L0 + n) % H = r
  have hb1 := belowAlloc w (.cells #[.int .i64 (H : Int), .int .i64 (L0 : Int), .slice ao n cap] 84)
  have hbn := belowAlloc (w.alloc (.cells #[.int .i64 (H : Int), .int .i64 (L0 : Int), .slice ao n cap] 84)) (.cells #[.int .i64 0, .int .i64 0, .slice none 0 0] 84)
  have hb2 := belowTrans hb1 hbn (Nat.le_refl _)
  have k1 := (Blk.new w (H : Int) (L0 : Int) ao n cap 84).keep hbn
  have m1 := Blk.new (w.alloc (.cells #[.int .i64 (H : Int), .int .i64 (L0 : Int), .slice ao n cap] 84)) 0 0 none 0 0 84
  rw [show (w.alloc (.cells #[.int .i64 (H : Int), .int .i64 (L0 : Int), .slice ao n cap] 84)).heap.size = w.heap.size + 1 by simp] at m1
  have hs2 : ((w.alloc (.cells #[.int .i64 (H : Int), .int .i64 (L0 : Int), .slice ao n cap] 84)).alloc (.cells #[.int .i64 0, .int .i64 0, .slice none 0 0] 84)).heap.size = w.heap.size + 2 := by simp
  clear hb1 hbn hk hsum h5
  have hA0 := hA
  clear hA
  have Hb2 := Lib.hid hb2; clear hb2
  have K1 := Lib.hid k1; clear k1
  have M1 := Lib.hid m1; clear m1
  have HA0 := Lib.hid hA0; clear hA0
  have Hs2 := Lib.hid hs2; clear hs2
  have Hl0 := Lib.hid hl0; clear hl0
  have Hle := Lib.hid hle; clear hle
  have Hq := Lib.hid hq; clear hq
  have Hr := Lib.hid hr; clear hr
  go_enter Tryz.func234, Tryz.ntmps234
  go_wp2_with fail
  go_loopw [4, 10] (fun v x wr => ∃ (k : Nat) (a : Option Addr) (m c : Nat), k ≤ n ∧ x = .int .i64 k ∧ v = .slice a m c ∧ Hid (Blk wr w.heap.size (H : Int) (L0 : Int) ao n cap 84) ∧ Hid (Blk wr (w.heap.size + 1) 0 0 none 0 0 84) ∧ Own (w.heap.size + 2) wr.heap.size wr a m c (lowL (xs.take k)) ∧ Hid (Below w.heap.size w wr) ∧ w.heap.size + 2 ≤ wr.heap.size) (fun _ x _ => n - (intOf x).toNat)
  case atStart => exact ⟨0, none, 0, 0, Nat.zero_le _, rfl, rfl, K1, M1, Own.nil _ _ _, Hb2, by rw [Hs2.out]; exact Nat.le_refl _⟩
  case round =>
    obtain ⟨k, a, m, c, hkn, rfl, rfl, Kr, Mr, hor, Hbr, hsr⟩ := hrel
    clear K1 M1 Hb2 Hs2
    have hm := hor.length
    have hml := lowL_length (xs.take k)
    have htl : (xs.take k).length ≤ 28 := by rw [List.length_take]; omega
    rw [hm] at hml
    have hge : ∀ g, (Value.slice a m c).ownBlock = some g → w.heap.size + 2 ≤ g := fun g hg => (hor.1.lt g hg).1
    have Hm := Lib.hid hm; clear hm
    have Hge := Lib.hid hge; clear hge
    obtain ⟨⟨u0, u1, u2⟩, v0, v1, v2⟩ := Kr.out.cells
    by_cases hlt : k < n
    · obtain ⟨b, o, rfl, hbl, hc⟩ := (HA0.out.keep Hbr.out).cell k hlt
      have hck := hc k hlt
      clear hc hbl
      obtain ⟨q1, q2⟩ := Hle.out k hlt
      generalize hx : xs.getD k 0 = x at hck q1 q2
      have e := lowL_snoc (xs.take k) x
      rw [← take_snoc hx hlt Hl0.out] at e
      have Hx := Lib.hid hx; clear hx
      by_cases hx1 : 1 < x
      · rw [if_pos hx1] at e
        have E := Lib.hid e; clear e
        go_wp2_with (at_builtin; refine wpList_push wr rfl _ _ rfl (w.heap.size + 2) _ a m c _ rfl hor _ rfl (by omega) hsr ?_)
        intro a4 c4 w4 ho4 hch
        have hns : ∀ g, g < w.heap.size + 2 → ¬ (Value.slice a m c).ownBlock = some g := fun g hg e => by have := Hge.out g e; omega
        have K4 := Lib.hid (Kr.out.chg hch (hns _ (by omega)))
        have M4 := Lib.hid (Mr.out.chg hch (hns _ (by omega)))
        have hb4 : Below (w.heap.size + 2) wr w4 := hor.chgBelow hch hsr
        have Hb5 := Lib.hid (Hbr.out.trans (hb4.mono (by omega)))
        have hs4 : w.heap.size + 2 ≤ w4.heap.size := Nat.le_trans hsr hb4.size
        clear u0 u1 u2 v0 v1 v2 hor hch hb4 Kr Mr Hbr hns
        go_wp2
        go_roundw
        case rel => exact ⟨k + 1, a4, _, c4, by omega, by go_num, rfl, K4, M4, by rw [E.out]; exact ho4, Hb5, hs4⟩
        case measure => simp [intOf]; omega
      · rw [if_neg hx1, List.append_nil] at e
        have E := Lib.hid e; clear e
        go_wp2
        go_roundw
        case rel => exact ⟨k + 1, a, m, c, by omega, by go_num, rfl, Kr, Mr, by rw [E.out]; exact hor, Hbr, hsr⟩
        case measure => simp [intOf]; omega
    · obtain rfl : k = n := by omega
      have etk : xs.take k = xs := List.take_of_length_le (by have := Hl0.out; omega)
      rw [etk] at hor
      clear etk
      have hcon := makePiles_any H (L0 + k) a m c (lowL xs) wr hor.at (by omega) hC (by omega)
      have ecast : ((L0 + k : Nat) : Int) = (L0 : Int) + (k : Int) := by omega
      rw [ecast] at hcon
      have hsz1 : w.heap.size < wr.heap.size := by omega
      have hcon' := hcon.mono (R' := fun e w1 => ∃ a m c, e = .returned (.tuple #[.agg #[.int .i64 (H : Int), .int .i64 (((L0 + k) % H : Nat) : Int), .slice a m c], .int .i64 (((L0 + k) / H : Nat) : Int)]) ∧ Own (w.heap.size + 2) w1.heap.size w1 a m c (List.replicate ((L0 + k) / H) (H : Int) ++ lowL xs) ∧ Below w.heap.size w w1 ∧ Blk w1 (w.heap.size + 1) 0 0 none 0 0 84)
        (fun e w1 ⟨a, m, c, e1, e2, e3⟩ => ⟨a, m, c, e1, e2.mono hsr (Nat.le_refl _), belowTrans Hbr.out e3 (by omega), Mr.out.keep e3⟩)
      clear hcon hor Mr Hbr
      rw [Hq.out, Hr.out] at hcon'
      have Hcon' := Lib.hid hcon'; clear hcon'
      have Ecast := Lib.hid ecast; clear ecast
      go_wp2_with fail
      with_reducible refine (Hcon'.out).mono ?_
      rintro e w1 ⟨a1, m1, c1, rfl, ho, hb, kz⟩
      clear u0 u1 u2 v0 v1 v2
      obtain ⟨⟨u0, u1, u2⟩, v0, v1, v2⟩ := kz.cells
      have ho2 := (((ho.offCell (R := w.heap.size + 1) (by omega) 0 (.int .i64 (H : Int))).offCell (R := w.heap.size + 1) (by omega) 1 (.int .i64 (r : Int))).offCell (R := w.heap.size + 1) (by omega) 2 (.slice a1 m1 c1)).mono (show w.heap.size ≤ w.heap.size + 2 by omega) (Nat.le_refl _)
      have hb2 := ((hb.setCell (p := ⟨w.heap.size + 1, 0, none⟩) (by show w.heap.size ≤ w.heap.size + 1; omega) (.int .i64 (H : Int))).setCell (p := ⟨w.heap.size + 1, 1, none⟩) (by show w.heap.size ≤ w.heap.size + 1; omega) (.int .i64 (r : Int))).setCell (p := ⟨w.heap.size + 1, 2, none⟩) (by show w.heap.size ≤ w.heap.size + 1; omega) (.slice a1 m1 c1)
      clear ho hb kz
      have Ho2 := Lib.hid ho2; clear ho2
      have Hb2 := Lib.hid hb2; clear hb2
      go_wp2
      refine bodyPost_ret (v := .tuple #[.agg #[.int .i64 H, .int .i64 (r : Int), .slice a1 m1 c1], .int .i64 (q : Int)]) ?_ rfl ⟨a1, m1, c1, rfl, by have := Ho2.out; simpa using this, by have := Hb2.out; simpa using this⟩
      rw [results_cell_tmp rfl]
      simp [go_sem, asAddr, Result.andThen, loadVar, *]
end
end Go.Proofs.YtimmjimeldejjaaGreatDoor
namespace Go.Proofs.YtimmjimeldejjaaGreatDoor
section
open Go.RowKit
set_option linter.unusedVariables false
set_option linter.unusedSimpArgs false
set_option maxRecDepth 20000

theorem Blk.set3 {w g h l a n c ty} (hh : Blk w g h l a n c ty) (h' l' : Int) (a' : Option Addr) (n' c' : Nat) : Blk (((w.setCell ⟨g, 0, none⟩ (.int .i64 h')).setCell ⟨g, 1, none⟩ (.int .i64 l')).setCell ⟨g, 2, none⟩ (.slice a' n' c')) g h' l' a' n' c' ty := by
  have e1 := heap_setCell_same w g 0 _ _ (.int .i64 h') hh
  have e2 := heap_setCell_same _ g 1 _ _ (.int .i64 l') e1
  have e3 := heap_setCell_same _ g 2 _ _ (.slice a' n' c') e2
  unfold Blk
  rw [e3]; rfl
theorem resCell3 {fn : Func} {p u v : Tmp} {ty : TypeId} (h : fn.results = #[.cell p ty, .tmp u, .tmp v]) (tmps : Array Value) (P : Program) (w : World) :
    (results fn tmps).run P w = ((asAddr (tmps.getD p undef)).run P w).andThen fun a w₁ => ((loadVar ty a).run P w₁).andThen fun x w₂ => .ok (.tuple #[x, tmps.getD u undef, tmps.getD v undef]) w₂ := by
  simp only [results, h]
  simp [Sem.run_bind, Result.andThen]
def rowN (b : Bk) (K i : Nat) : List Int := newL b i ++ List.replicate (K - i) 0
theorem rowN_zero (b : Bk) (K : Nat) : rowN b K 0 = List.replicate K 0 := by simp [rowN, newL]
theorem rowN_full (b : Bk) (K : Nat) : rowN b K K = newL b K := by simp [rowN]
theorem rowN_set (b : Bk) (K i : Nat) (hi : i < K) : (rowN b K i).set i (madeB (stepsB i b)) = rowN b K (i + 1) := by
  unfold rowN
  rw [newL_succ, List.set_append_right _ _ (by rw [newL_length]; exact Nat.le_refl _), newL_length, Nat.sub_self, show K - i = (K - (i + 1)) + 1 by omega, List.replicate_succ, List.set_cons_zero, List.append_assoc]
  rfl

set_option maxHeartbeats 3200000 in
theorem playBank_yes (h l : Int) (ao : Option Addr) (n cap : Nat) (xs : List Int) (K : Nat) (hK : K ≤ 1000) (w : World) (hA : IntsAt w ao n cap xs) (hk : BankOk ⟨h, l, xs⟩) :
    Calls Tryz.prog 210 #[.agg #[.int .i64 h, .int .i64 l, .slice ao n cap], .int .i64 K] w fun e w' => ∃ a m c a2 c2, e = .returned (.tuple #[.agg #[.int .i64 (stepsB K ⟨h, l, xs⟩).h, .int .i64 (stepsB K ⟨h, l, xs⟩).l, .slice a m c], .slice a2 K c2, .bool true]) ∧ Own w.heap.size w'.heap.size w' a m c (stepsB K ⟨h, l, xs⟩).p ∧ Own w.heap.size w'.heap.size w' a2 K c2 (newL ⟨h, l, xs⟩ K) ∧ Below w.heap.size w w' := by
  have hlen := hA.length
  have hn28 : n ≤ 28 := by have := hk.len; simp only at this; omega
  have hstep := fun i a m c W (hW : IntsAt W a m c (stepsB i ⟨h, l, xs⟩).p) => stepOfBank_any (stepsB i ⟨h, l, xs⟩).h (stepsB i ⟨h, l, xs⟩).l a m c (stepsB i ⟨h, l, xs⟩).p W hW (steps_okB hk i)
  have hset := fun i hi => rowN_set ⟨h, l, xs⟩ K i hi
  have hmb := fun i => (step_ok (steps_okB hk i)).2.2
  have hb1 := belowAlloc w (.cells #[.int .i64 h, .int .i64 l, .slice ao n cap] 84)
  have hbn := belowAlloc (w.alloc (.cells #[.int .i64 h, .int .i64 l, .slice ao n cap] 84)) (.cells #[.int .i64 0, .int .i64 0, .slice none 0 0] 84)
  have hb2 := belowTrans hb1 hbn (Nat.le_refl _)
  have k1 := (Blk.new w h l ao n cap 84).keep hbn
  have m1 := Blk.new (w.alloc (.cells #[.int .i64 h, .int .i64 l, .slice ao n cap] 84)) 0 0 none 0 0 84
  rw [show (w.alloc (.cells #[.int .i64 h, .int .i64 l, .slice ao n cap] 84)).heap.size = w.heap.size + 1 by simp] at m1
  have hA2 := hA.keep hb2
  have hcon := isBank_any h l ao n cap xs _ hA2
  rw [bankYes hk] at hcon
  unfold bankV at hcon
  have hcon' := hcon.mono (R' := fun e w1 => e = .returned (.bool true) ∧ Below w.heap.size w w1 ∧ Blk w1 w.heap.size h l ao n cap 84 ∧ Blk w1 (w.heap.size + 1) 0 0 none 0 0 84 ∧ w.heap.size + 2 ≤ w1.heap.size)
    (fun e w1 ⟨e1, e2⟩ => ⟨e1, belowTrans hb2 e2 (Nat.le_refl _), k1.keep e2, m1.keep e2, by simpa using e2.size⟩)
  have hin := fun W => inRange_yes (K : Int) 1000 W (by omega)
  have hcp := fun W (hW : IntsAt W ao n cap xs) => copyOf_any ao n cap xs W hW (by omega)
  obtain ⟨i0, hi, hz0, hz1, hz2⟩ := info_parts Tryz.infoInt
  have h0 : stepsB 0 ⟨h, l, xs⟩ = ⟨h, l, xs⟩ := rfl
  have hss := fun i => show stepB (stepsB i ⟨h, l, xs⟩) = stepsB (i + 1) ⟨h, l, xs⟩ from rfl
  have hnl := rowN_full ⟨h, l, xs⟩ K
  have hz := rowN_zero ⟨h, l, xs⟩ K
  clear hcon k1 m1 hb1 hbn hb2 hA2
  have Hcon' := Lib.hid hcon'; clear hcon'
  have Hin := Lib.hid hin; clear hin
  have Hcp := Lib.hid hcp; clear hcp
  have Hstep := Lib.hid hstep; clear hstep
  have Hset := Lib.hid hset; clear hset
  have Hmb := Lib.hid hmb; clear hmb
  have Hss := Lib.hid hss; clear hss
  have Hnl := Lib.hid hnl; clear hnl
  have Hz := Lib.hid hz; clear hz
  have H0 := Lib.hid h0; clear h0
  have Hlen := Lib.hid hlen; clear hlen
  go_enter Tryz.func210, Tryz.ntmps210
  go_wp2_with fail
  with_reducible refine (Hcon'.out).mono ?_
  rintro e w1 ⟨rfl, hb1, k1, m1, hs1⟩
  obtain ⟨⟨u0, u1, u2⟩, v0, v1, v2⟩ := k1.cells
  have hA1 := hA.keep hb1
  have Hb1 := Lib.hid hb1; clear hb1
  have M1 := Lib.hid m1; clear m1
  have HA1 := Lib.hid hA1; clear hA1
  have K1 := Lib.hid k1; clear k1
  go_wp2_with fail
  with_reducible refine (Hin.out _).mono ?_
  rintro e w1' ⟨rfl, rfl⟩
  go_wp2_with fail
  with_reducible refine (Hcp.out _ HA1.out).mono ?_
  rintro e w2 ⟨a2, c2, rfl, ho2, hb2⟩
  clear u0 u1 u2 v0 v1 v2
  have k2 := K1.out.keep hb2
  have m2 := M1.out.keep hb2
  have hs2 := hb2.size
  have hbb2 := belowTrans Hb1.out hb2 (Nat.le_refl _)
  obtain ⟨⟨u0, u1, u2⟩, v0, v1, v2⟩ := k2.cells
  have k3 := k2.set2 a2 n c2
  have m3 := m2.chg (chgCell w2 w.heap.size 2 (.slice a2 n c2)) (by omega)
  have ho3 := (ho2.offCell (R := w.heap.size) (by omega) 2 (.slice a2 n c2)).mono (show w.heap.size + 2 ≤ w1.heap.size from hs1) (Nat.le_refl _)
  have hb3 := hbb2.setCell (p := ⟨w.heap.size, 2, none⟩) (Nat.le_refl _) (.slice a2 n c2)
  have hs3 : (w2.setCell ⟨w.heap.size, 2, none⟩ (.slice a2 n c2)).heap.size = w2.heap.size := by simp
  clear k2 m2 hbb2 ho2 hb2 Hb1 M1 HA1 K1
  have K3 := Lib.hid k3; clear k3
  have M3 := Lib.hid m3; clear m3
  have Ho3 := Lib.hid ho3; clear ho3
  have Hb3 := Lib.hid hb3; clear hb3
  have Hs3 := Lib.hid hs3; clear hs3
  go_wp2_with (at_make; refine wpList_make_full (w2.setCell ⟨w.heap.size, 2, none⟩ (.slice a2 n c2)) rfl _ _ _ rfl w2.heap.size 3 i0 _ 1 Tryz.underlying24 hi hz0 hz1 _ _ _ _ K rfl rfl rfl rfl ?_ ?_ (by rw [Hs3.out]; exact Nat.le_refl _) ?_)
  · first | (rw [hz2]; omega) | omega
  · first | (unfold maxLen; omega) | omega
  · intro w3 hown hgrow
    rw [madeZeros] at hown
    have ho : Own w2.heap.size w3.heap.size w3 (some ⟨w2.heap.size, 0, none⟩) K K (List.replicate K 0) := Own.of hown
    rw [← Hz.out] at ho
    have hb4 : Below w2.heap.size (w2.setCell ⟨w.heap.size, 2, none⟩ (.slice a2 n c2)) w3 := (Below.refl _ _).grown hgrow (by rw [Hs3.out]; exact Nat.le_refl _) (fun k hk => by cases hk)
    have hb4' := hb4
    rw [← Hs3.out] at hb4'
    have hs4 : w2.heap.size ≤ w3.heap.size := by have := hb4.size; rw [Hs3.out] at this; exact this
    have k4 := K3.out.keep hb4'
    have m4 := M3.out.keep hb4'
    have ho4 := (Ho3.out.keep hb4').mono (Nat.le_refl _) hs4
    have hne4 : ∀ g, (Value.slice a2 n c2).ownBlock = some g → g ≠ w2.heap.size := fun g hg => by have := Ho3.out.2 g hg; omega
    have hb5 := belowTrans Hb3.out hb4' (by simp)
    clear hi hz0 hz1 hz2 hgrow hown hb4 hb4' u0 u1 u2 v0 v1 v2 K3 M3 Ho3 Hb3 Hs3
    have hs24 : w.heap.size + 2 ≤ w2.heap.size := by omega
    have hGt : w2.heap.size < w3.heap.size := by
      rcases ho.cases with ⟨q, _⟩ | ⟨g, q, _, q2, _⟩
      · simp at q
      · simp only [Option.some.injEq, Addr.mk.injEq, and_true] at q; omega
    clear hs1 hs2
    have K4 := Lib.hid k4; clear k4
    have M4 := Lib.hid m4; clear m4
    have Ho := Lib.hid ho; clear ho
    have Ho4 := Lib.hid ho4; clear ho4
    have Hb5 := Lib.hid hb5; clear hb5
    have Hne4 := Lib.hid hne4; clear hne4
    go_wp2_with fail
    go_loopw [25] (fun x wr => ∃ (i : Nat) (a : Option Addr) (m c : Nat), i ≤ K ∧ x = .int .i64 i ∧ Hid (Blk wr w.heap.size (stepsB i ⟨h, l, xs⟩).h (stepsB i ⟨h, l, xs⟩).l a m c 84) ∧ Hid (Blk wr (w.heap.size + 1) 0 0 none 0 0 84) ∧ Hid (Own (w.heap.size + 2) wr.heap.size wr a m c (stepsB i ⟨h, l, xs⟩).p) ∧ Hid (∀ g, (Value.slice a m c).ownBlock = some g → g ≠ w2.heap.size) ∧ Hid (Own w2.heap.size w3.heap.size wr (some ⟨w2.heap.size, 0, none⟩) K K (rowN ⟨h, l, xs⟩ K i)) ∧ Hid (Below w.heap.size w wr) ∧ w3.heap.size ≤ wr.heap.size) (fun x _ => K - (intOf x).toNat)
    case atStart => exact ⟨0, a2, n, c2, Nat.zero_le _, rfl, K4, M4, Ho4, Hne4, Ho, Hb5, Nat.le_refl _⟩
    case round =>
      obtain ⟨i, a, m, c, hiK, rfl, Kr, Mr, Hor, Hner, Hrow, Hbr, hsr⟩ := hrel
      clear K4 M4 Ho4 Hne4 Ho Hb5
      obtain ⟨⟨u0, u1, u2⟩, v0, v1, v2⟩ := Kr.out.cells
      by_cases hlt : i < K
      · have hcon := Hstep.out i a m c wr Hor.out.at
        obtain ⟨z1, z2⟩ := Hmb.out i
        have hst := Hset.out i hlt
        rw [Hss.out i] at hcon
        generalize madeB (stepsB i ⟨h, l, xs⟩) = z at *
        generalize hB1 : stepsB i (⟨h, l, xs⟩ : Bk) = B1 at *
        obtain ⟨h1', l1', p1'⟩ := B1
        generalize hB2 : stepsB (i + 1) (⟨h, l, xs⟩ : Bk) = B2 at *
        obtain ⟨h2', l2', p2'⟩ := B2
        simp only at hcon u0 u1 u2
        have Hcon := Lib.hid hcon; clear hcon
        have Hst := Lib.hid hst; clear hst
        have HB1 := Lib.hid hB1; clear hB1
        have HB2 := Lib.hid hB2; clear hB2
        go_wp2_with fail
        with_reducible refine (Hcon.out).mono ?_
        rintro e w4 ⟨a4, m4, c4, rfl, ho4, hb4⟩
        have hs5 := hb4.size
        have k4 := Kr.out.keep hb4
        have m4' := Mr.out.keep hb4
        have hr4 := Hrow.out.keep hb4
        have hbb4 := belowTrans Hbr.out hb4 (by omega)
        have hne5 : ∀ g, (Value.slice a4 m4 c4).ownBlock = some g → g ≠ w2.heap.size := fun g hg => by have := (ho4.1.lt g hg).1; omega
        clear u0 u1 u2 v0 v1 v2 Kr Mr Hor Hner Hrow Hbr hb4
        obtain ⟨⟨u0, u1, u2⟩, v0, v1, v2⟩ := k4.cells
        have k5 := k4.set3 h2' l2' a4 m4 c4
        have m5 := ((m4'.chg (chgCell w4 w.heap.size 0 (.int .i64 h2')) (by omega)).chg (chgCell _ w.heap.size 1 (.int .i64 l2')) (by omega)).chg (chgCell _ w.heap.size 2 (.slice a4 m4 c4)) (by omega)
        have ho5 := (((ho4.offCell (R := w.heap.size) (by omega) 0 (.int .i64 h2')).offCell (R := w.heap.size) (by omega) 1 (.int .i64 l2')).offCell (R := w.heap.size) (by omega) 2 (.slice a4 m4 c4)).mono (show w.heap.size + 2 ≤ wr.heap.size by omega) (Nat.le_refl _)
        have hr5 := ((hr4.offCell (R := w.heap.size) (by omega) 0 (.int .i64 h2')).offCell (R := w.heap.size) (by omega) 1 (.int .i64 l2')).offCell (R := w.heap.size) (by omega) 2 (.slice a4 m4 c4)
        have hb5 := ((hbb4.setCell (p := ⟨w.heap.size, 0, none⟩) (Nat.le_refl _) (.int .i64 h2')).setCell (p := ⟨w.heap.size, 1, none⟩) (Nat.le_refl _) (.int .i64 l2')).setCell (p := ⟨w.heap.size, 2, none⟩) (Nat.le_refl _) (.slice a4 m4 c4)
        have hs6 : w3.heap.size ≤ w4.heap.size := by omega
        clear k4 m4' ho4 hr4 hbb4
        have k6 := k5.chg (chgCell _ w2.heap.size i (.int .i64 z)) (by omega)
        have m6 := m5.chg (chgCell _ w2.heap.size i (.int .i64 z)) (by omega)
        have ho6 := ho5.chg (chgCell _ w2.heap.size i (.int .i64 z)) (fun g _ _ hg e => hne5 g hg e)
        have hr6 := (hr5.set i z).1
        rw [Hst.out] at hr6
        have hb6 := hb5.setCell (p := ⟨w2.heap.size, i, none⟩) (by show w.heap.size ≤ w2.heap.size; omega) (.int .i64 z)
        have hfz := hr5.frozenAt i
        have hcz := getD_cells hr5 i hlt
        clear k5 m5 ho5 hr5 hb5
        have K6 := Lib.hid k6; clear k6
        have M6 := Lib.hid m6; clear m6
        have Ho6 := Lib.hid ho6; clear ho6
        have Hr6 := Lib.hid hr6; clear hr6
        have Hb6 := Lib.hid hb6; clear hb6
        have Hne5 := Lib.hid hne5; clear hne5
        go_wp2
        go_roundw
        case rel => exact ⟨i + 1, a4, m4, c4, by omega, by go_num, by rw [HB2.out]; exact K6, M6, Lib.hid (by rw [HB2.out]; have := Ho6.out; simpa using this), Hne5, Hr6, Hb6, by simpa using hs6⟩
        case measure => simp [intOf]; omega
      · obtain rfl : i = K := by omega
        obtain ⟨⟨x0, x1, x2⟩, y0, y1, y2⟩ := Mr.out.cells
        have hrow := Hrow.out
        rw [Hnl.out] at hrow
        have hor := Hor.out
        have ho7 := (((hor.offCell (R := w.heap.size + 1) (by omega) 0 (.int .i64 (stepsB i ⟨h, l, xs⟩).h)).offCell (R := w.heap.size + 1) (by omega) 1 (.int .i64 (stepsB i ⟨h, l, xs⟩).l)).offCell (R := w.heap.size + 1) (by omega) 2 (.slice a m c)).mono (show w.heap.size ≤ w.heap.size + 2 by omega) (Nat.le_refl _)
        have hr7 := (((hrow.offCell (R := w.heap.size + 1) (by omega) 0 (.int .i64 (stepsB i ⟨h, l, xs⟩).h)).offCell (R := w.heap.size + 1) (by omega) 1 (.int .i64 (stepsB i ⟨h, l, xs⟩).l)).offCell (R := w.heap.size + 1) (by omega) 2 (.slice a m c)).mono (show w.heap.size ≤ w2.heap.size by omega) hsr
        have hb7 := ((Hbr.out.setCell (p := ⟨w.heap.size + 1, 0, none⟩) (by show w.heap.size ≤ w.heap.size + 1; omega) (.int .i64 (stepsB i ⟨h, l, xs⟩).h)).setCell (p := ⟨w.heap.size + 1, 1, none⟩) (by show w.heap.size ≤ w.heap.size + 1; omega) (.int .i64 (stepsB i ⟨h, l, xs⟩).l)).setCell (p := ⟨w.heap.size + 1, 2, none⟩) (by show w.heap.size ≤ w.heap.size + 1; omega) (.slice a m c)
        clear hrow hor Hrow Hor Hbr Kr Mr Hner
        have Ho7 := Lib.hid ho7; clear ho7
        have Hr7 := Lib.hid hr7; clear hr7
        have Hb7 := Lib.hid hb7; clear hb7
        go_wp2
        refine bodyPost_ret (v := .tuple #[.agg #[.int .i64 (stepsB i ⟨h, l, xs⟩).h, .int .i64 (stepsB i ⟨h, l, xs⟩).l, .slice a m c], .slice (some ⟨w2.heap.size, 0, none⟩) i i, .bool true]) ?_ rfl ⟨a, m, c, some ⟨w2.heap.size, 0, none⟩, i, rfl, by have := Ho7.out; simpa using this, by have := Hr7.out; simpa using this, by have := Hb7.out; simpa using this⟩
        rw [resCell3 rfl]
        simp [go_sem, asAddr, Result.andThen, loadVar, *]
end
end Go.Proofs.YtimmjimeldejjaaGreatDoor
namespace Go.Proofs.YtimmjimeldejjaaGreatDoor
section
open Go.RowKit
set_option linter.unusedVariables false
set_option linter.unusedSimpArgs false
set_option maxRecDepth 20000

theorem two (w : World) (h l : Int) (ao : Option Addr) (n cap : Nat) :
    Below w.heap.size w ((w.alloc (.cells #[.int .i64 h, .int .i64 l, .slice ao n cap] 84)).alloc (.cells #[.int .i64 0, .int .i64 0, .slice none 0 0] 84)) ∧
    Blk ((w.alloc (.cells #[.int .i64 h, .int .i64 l, .slice ao n cap] 84)).alloc (.cells #[.int .i64 0, .int .i64 0, .slice none 0 0] 84)) w.heap.size h l ao n cap 84 ∧
    Blk ((w.alloc (.cells #[.int .i64 h, .int .i64 l, .slice ao n cap] 84)).alloc (.cells #[.int .i64 0, .int .i64 0, .slice none 0 0] 84)) (w.heap.size + 1) 0 0 none 0 0 84 := by
  have hb1 := belowAlloc w (.cells #[.int .i64 h, .int .i64 l, .slice ao n cap] 84)
  have hbn := belowAlloc (w.alloc (.cells #[.int .i64 h, .int .i64 l, .slice ao n cap] 84)) (.cells #[.int .i64 0, .int .i64 0, .slice none 0 0] 84)
  have m1 := Blk.new (w.alloc (.cells #[.int .i64 h, .int .i64 l, .slice ao n cap] 84)) 0 0 none 0 0 84
  rw [show (w.alloc (.cells #[.int .i64 h, .int .i64 l, .slice ao n cap] 84)).heap.size = w.heap.size + 1 by simp] at m1
  exact ⟨belowTrans hb1 hbn (Nat.le_refl _), (Blk.new w h l ao n cap 84).keep hbn, m1⟩

set_option maxHeartbeats 1600000 in
theorem playBank_no (h l : Int) (ao : Option Addr) (n cap : Nat) (xs : List Int) (K : Int) (w : World) (hA : IntsAt w ao n cap xs) (hk : ¬ (BankOk ⟨h, l, xs⟩ ∧ 0 ≤ K ∧ K ≤ 1000)) :
    Calls Tryz.prog 210 #[.agg #[.int .i64 h, .int .i64 l, .slice ao n cap], .int .i64 K] w fun e w' => e = .returned (.tuple #[.agg #[.int .i64 0, .int .i64 0, .slice none 0 0], .slice none 0 0, .bool false]) ∧ Below w.heap.size w w' := by
  obtain ⟨hb2, k1, m1⟩ := two w h l ao n cap
  have hA2 := hA.keep hb2
  have hcon := isBank_any h l ao n cap xs _ hA2
  unfold bankV at hcon
  by_cases hB : BankOk ⟨h, l, xs⟩
  · have hK : ¬ (0 ≤ K ∧ K ≤ 1000) := fun q => hk ⟨hB, q⟩
    rw [bankYes hB] at hcon
    have hin := fun W => inRange_no K 1000 W hK
    have hcon' := hcon.mono (R' := fun e w1 => e = .returned (.bool true) ∧ Below w.heap.size w w1 ∧ Blk w1 (w.heap.size + 1) 0 0 none 0 0 84)
      (fun e w1 ⟨e1, e2⟩ => ⟨e1, belowTrans hb2 e2 (Nat.le_refl _), m1.keep e2⟩)
    clear hcon hb2 k1 m1 hA2 hk hB
    have Hcon' := Lib.hid hcon'; clear hcon'
    have Hin := Lib.hid hin; clear hin
    have HK := Lib.hid hK; clear hK
    go_enter Tryz.func210, Tryz.ntmps210
    go_wp2_with fail
    with_reducible refine (Hcon'.out).mono ?_
    rintro e w1 ⟨rfl, hb1, m1⟩
    go_wp2_with fail
    with_reducible refine (Hin.out _).mono ?_
    rintro e w1' ⟨rfl, rfl⟩
    obtain ⟨⟨u0, u1, u2⟩, v0, v1, v2⟩ := m1.cells
    have hb3 := ((hb1.setCell (p := ⟨w.heap.size + 1, 0, none⟩) (by show w.heap.size ≤ w.heap.size + 1; omega) (.int .i64 0)).setCell (p := ⟨w.heap.size + 1, 1, none⟩) (by show w.heap.size ≤ w.heap.size + 1; omega) (.int .i64 0)).setCell (p := ⟨w.heap.size + 1, 2, none⟩) (by show w.heap.size ≤ w.heap.size + 1; omega) (.slice none 0 0)
    clear hb1 m1
    have Hb3 := Lib.hid hb3; clear hb3
    go_wp2
    refine bodyPost_ret (v := .tuple #[.agg #[.int .i64 0, .int .i64 0, .slice none 0 0], .slice none 0 0, .bool false]) ?_ rfl ⟨rfl, by have := Hb3.out; simpa using this⟩
    rw [resCell3 rfl]
    simp [go_sem, asAddr, Result.andThen, loadVar, *]
  · rw [bankNo hB] at hcon
    have hcon' := hcon.mono (R' := fun e w1 => e = .returned (.bool false) ∧ Below w.heap.size w w1 ∧ Blk w1 (w.heap.size + 1) 0 0 none 0 0 84)
      (fun e w1 ⟨e1, e2⟩ => ⟨e1, belowTrans hb2 e2 (Nat.le_refl _), m1.keep e2⟩)
    clear hcon hb2 k1 m1 hA2 hk hB
    have Hcon' := Lib.hid hcon'; clear hcon'
    go_enter Tryz.func210, Tryz.ntmps210
    go_wp2_with fail
    with_reducible refine (Hcon'.out).mono ?_
    rintro e w1 ⟨rfl, hb1, m1⟩
    obtain ⟨⟨u0, u1, u2⟩, v0, v1, v2⟩ := m1.cells
    have hb3 := ((hb1.setCell (p := ⟨w.heap.size + 1, 0, none⟩) (by show w.heap.size ≤ w.heap.size + 1; omega) (.int .i64 0)).setCell (p := ⟨w.heap.size + 1, 1, none⟩) (by show w.heap.size ≤ w.heap.size + 1; omega) (.int .i64 0)).setCell (p := ⟨w.heap.size + 1, 2, none⟩) (by show w.heap.size ≤ w.heap.size + 1; omega) (.slice none 0 0)
    clear hb1 m1
    have Hb3 := Lib.hid hb3; clear hb3
    go_wp2
    refine bodyPost_ret (v := .tuple #[.agg #[.int .i64 0, .int .i64 0, .slice none 0 0], .slice none 0 0, .bool false]) ?_ rfl ⟨rfl, by have := Hb3.out; simpa using this⟩
    rw [resCell3 rfl]
    simp [go_sem, asAddr, Result.andThen, loadVar, *]

set_option maxHeartbeats 1600000 in
theorem impl_StepBank (h l : Int) (ao : Option Addr) (n cap : Nat) (xs : List Int) (w : World) (hA : IntsAt w ao n cap xs) :
    Calls Tryz.prog 172 #[.agg #[.int .i64 h, .int .i64 l, .slice ao n cap]] w fun e w' => ∃ a m c, e = .returned (.tuple #[.agg #[.int .i64 (mStepBank ⟨h, l, xs⟩).1.h, .int .i64 (mStepBank ⟨h, l, xs⟩).1.l, .slice a m c], .int .i64 (mStepBank ⟨h, l, xs⟩).2.1, .bool (mStepBank ⟨h, l, xs⟩).2.2]) ∧ Own w.heap.size w'.heap.size w' a m c (mStepBank ⟨h, l, xs⟩).1.p ∧ Below w.heap.size w w' := by
  have hm := mStepBank.eq_1 ⟨h, l, xs⟩
  obtain ⟨hb2, k1, m1⟩ := two w h l ao n cap
  have hA2 := hA.keep hb2
  by_cases hk : BankOk ⟨h, l, xs⟩
  · rw [if_pos (bankYes hk)] at hm
    have hcon := playBank_yes h l ao n cap xs 1 (by omega) _ hA2 hk
    have e1 : stepsB 1 ⟨h, l, xs⟩ = stepB ⟨h, l, xs⟩ := rfl
    have e2 : newL ⟨h, l, xs⟩ 1 = [madeB ⟨h, l, xs⟩] := rfl
    rw [e1, e2] at hcon
    rw [hm]
    generalize madeB ⟨h, l, xs⟩ = z at *
    generalize stepB ⟨h, l, xs⟩ = B1 at *
    obtain ⟨h', l', p'⟩ := B1
    simp only at hcon ⊢
    have hcon' : Calls Tryz.prog 210 #[.agg #[.int .i64 h, .int .i64 l, .slice ao n cap], .int .i64 1] _ (fun e w1 => ∃ a m c g c2, e = .returned (.tuple #[.agg #[.int .i64 h', .int .i64 l', .slice a m c], .slice (some ⟨g, 0, none⟩) 1 c2, .bool true]) ∧ Own (w.heap.size + 2) w1.heap.size w1 a m c p' ∧ Below w.heap.size w w1 ∧ Blk w1 (w.heap.size + 1) 0 0 none 0 0 84 ∧ w1.cell? ⟨g, 0, none⟩ = some (.int .i64 z) ∧ g < w1.heap.size ∧ w.heap.size + 2 ≤ g ∧ w.heap.size + 2 ≤ w1.heap.size) :=
      hcon.mono (fun e w1 ⟨a, m, c, a2, c2, e1, e2, e3, e4⟩ => by
        rcases e3.cases with ⟨q1, q2, _⟩ | ⟨g, rfl, q3, q4, q5⟩
        · omega
        · exact ⟨a, m, c, g, c2, e1, by simpa using e2, belowTrans hb2 e4 (Nat.le_refl _), m1.keep e4, getD_cells e3 0 (by omega), q5, by simpa using q3, by simpa using e4.size⟩)
    clear hcon hb2 k1 m1 hA2 hm hk e1 e2
    have Hcon' := Lib.hid hcon'; clear hcon'
    go_enter Tryz.func172, Tryz.ntmps172
    go_wp2_with fail
    with_reducible refine (Hcon'.out).mono ?_
    rintro e w1 ⟨a, m, c, g, c2, rfl, ho1, hb1, m1, hcz, hg1, hg2, hs1⟩
    have hne1 : ¬ g = w.heap.size + 1 := by omega
    have hne2 : ¬ w.heap.size + 1 = g := by omega
    have hbn := belowAlloc w1 (.cells #[.int .i64 h', .int .i64 l', .slice a m c] 84)
    have n3 := Blk.new w1 h' l' a m c 84
    have m3 := m1.keep hbn
    have hcz3 : (w1.alloc (.cells #[.int .i64 h', .int .i64 l', .slice a m c] 84)).cell? ⟨g, 0, none⟩ = some (.int .i64 z) := by rw [hbn.cell (p := ⟨g, 0, none⟩) hg1]; exact hcz
    have hbb := belowTrans hb1 hbn (by omega)
    have hoo := ho1.keep hbn
    obtain ⟨w3, hw3⟩ : ∃ w3, w3 = w1.alloc (.cells #[.int .i64 h', .int .i64 l', .slice a m c] 84) := ⟨_, rfl⟩
    rw [← hw3] at n3 m3 hcz3 hbb hoo
    have hs3 : w3.heap.size = w1.heap.size + 1 := by rw [hw3]; simp
    obtain ⟨⟨u0, u1, u2⟩, v0, v1, v2⟩ := m3.cells
    obtain ⟨⟨x0, x1, x2⟩, y0, y1, y2⟩ := n3.cells
    have ho3 := (((hoo.offCell (R := w.heap.size + 1) (by omega) 0 (.int .i64 h')).offCell (R := w.heap.size + 1) (by omega) 1 (.int .i64 l')).offCell (R := w.heap.size + 1) (by omega) 2 (.slice a m c)).mono (show w.heap.size ≤ w.heap.size + 2 by omega) (show w1.heap.size ≤ w3.heap.size by omega)
    have hb3 := (((hbb.setCell (p := ⟨w.heap.size + 1, 0, none⟩) (by show w.heap.size ≤ w.heap.size + 1; omega) (.int .i64 h')).setCell (p := ⟨w.heap.size + 1, 1, none⟩) (by show w.heap.size ≤ w.heap.size + 1; omega) (.int .i64 l')).setCell (p := ⟨w.heap.size + 1, 2, none⟩) (by show w.heap.size ≤ w.heap.size + 1; omega) (.slice a m c)).drew
    clear ho1 hb1 m1 hcz hbn n3 m3 hbb hoo
    have Ho3 := Lib.hid ho3; clear ho3
    have Hb3 := Lib.hid hb3; clear hb3
    have Hw3 := Lib.hid hw3; clear hw3
    have Hs3 := Lib.hid hs3; clear hs3
    go_wp2_with fail
    rw [← Hw3.out]
    go_region
    all_goals
      go_wp2
      refine bodyPost_ret (v := .tuple #[.agg #[.int .i64 h', .int .i64 l', .slice a m c], .int .i64 z, .bool true]) ?_ rfl ⟨a, m, c, rfl, by have := Ho3.out.drew; simpa using this, by have := Hb3.out; simpa using this⟩
      rw [resCell3 rfl]
      simp [go_sem, asAddr, Result.andThen, loadVar, *]
  · rw [if_neg (by rw [bankNo hk]; simp)] at hm
    have hcon := playBank_no h l ao n cap xs 1 _ hA2 (fun q => hk q.1)
    have hcon' := hcon.mono (R' := fun e w1 => e = .returned (.tuple #[.agg #[.int .i64 0, .int .i64 0, .slice none 0 0], .slice none 0 0, .bool false]) ∧ Below w.heap.size w w1 ∧ Blk w1 (w.heap.size + 1) 0 0 none 0 0 84 ∧ w.heap.size + 2 ≤ w1.heap.size)
      (fun e w1 ⟨e1, e2⟩ => ⟨e1, belowTrans hb2 e2 (Nat.le_refl _), m1.keep e2, by simpa using e2.size⟩)
    rw [hm]
    clear hcon hb2 k1 m1 hA2 hm hk
    unfold noBk
    have Hcon' := Lib.hid hcon'; clear hcon'
    go_enter Tryz.func172, Tryz.ntmps172
    go_wp2_with fail
    with_reducible refine (Hcon'.out).mono ?_
    rintro e w1 ⟨rfl, hb1, m1, hs1⟩
    have hbn := belowAlloc w1 (.cells #[.int .i64 0, .int .i64 0, .slice none 0 0] 84)
    obtain ⟨⟨u0, u1, u2⟩, v0, v1, v2⟩ := (m1.keep hbn).cells
    have hb3 := (((belowTrans hb1 hbn (by omega)).setCell (p := ⟨w.heap.size + 1, 0, none⟩) (by show w.heap.size ≤ w.heap.size + 1; omega) (.int .i64 0)).setCell (p := ⟨w.heap.size + 1, 1, none⟩) (by show w.heap.size ≤ w.heap.size + 1; omega) (.int .i64 0)).setCell (p := ⟨w.heap.size + 1, 2, none⟩) (by show w.heap.size ≤ w.heap.size + 1; omega) (.slice none 0 0)
    clear hb1 m1 hbn
    have Hb3 := Lib.hid hb3; clear hb3
    go_wp2
    refine bodyPost_ret (v := .tuple #[.agg #[.int .i64 0, .int .i64 0, .slice none 0 0], .int .i64 0, .bool false]) ?_ rfl ⟨none, 0, 0, rfl, Own.nil _ _ _, by have := Hb3.out; simpa using this⟩
    rw [resCell3 rfl]
    simp [go_sem, asAddr, Result.andThen, loadVar, *]
end
end Go.Proofs.YtimmjimeldejjaaGreatDoor
