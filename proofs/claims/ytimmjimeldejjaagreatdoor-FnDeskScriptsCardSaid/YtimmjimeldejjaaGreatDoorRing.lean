/- Chapter 2: rings of bits: an array in a struct, by value. No condition. -/
import Derived.Test.YtimmjimeldejjaaGreatDoorGa
import Derived.Test.YtimmjimeldejjaaGreatDoorGb
import Derived.Test.YtimmjimeldejjaaGreatDoorGk
import Derived.Deep.RegionWith
namespace Go.Proofs.YtimmjimeldejjaaGreatDoor
open Go.RowKit
set_option linter.unusedVariables false
set_option linter.unusedSimpArgs false
set_option maxRecDepth 20000

/-- the cells of a ring: eight numbers, then how many of them count -/
def ring9 (b0 b1 b2 b3 b4 b5 b6 b7 : Int) (n : Nat) : Array Value := #[.int .i64 b0, .int .i64 b1, .int .i64 b2, .int .i64 b3, .int .i64 b4, .int .i64 b5, .int .i64 b6, .int .i64 b7, .int .i64 n]
def ringV (bs : List Int) : Value := .agg (ring9 (bs.getD 0 0) (bs.getD 1 0) (bs.getD 2 0) (bs.getD 3 0) (bs.getD 4 0) (bs.getD 5 0) (bs.getD 6 0) (bs.getD 7 0) bs.length)

theorem ringAt (w : World) (b0 b1 b2 b3 b4 b5 b6 b7 : Int) (n : Nat) (bs : List Int) (hn : bs.length = n) (h8 : n ≤ 8)
    (h0 : bs.getD 0 0 = b0) (h1 : bs.getD 1 0 = b1) (h2 : bs.getD 2 0 = b2) (h3 : bs.getD 3 0 = b3) (h4 : bs.getD 4 0 = b4) (h5 : bs.getD 5 0 = b5) (h6 : bs.getD 6 0 = b6) (h7 : bs.getD 7 0 = b7) :
    IntsAt (w.alloc (.cells (ring9 b0 b1 b2 b3 b4 b5 b6 b7 n) 160)) (some ⟨w.heap.size, 0, none⟩) n 8 bs := by
  refine ⟨hn, h8, by unfold maxLen; omega, fun e => by simp at e, fun j hj => ⟨w.heap.size, 0, rfl, by simp, fun i hi => ?_⟩⟩
  have hc : i = 0 ∨ i = 1 ∨ i = 2 ∨ i = 3 ∨ i = 4 ∨ i = 5 ∨ i = 6 ∨ i = 7 := by omega
  rcases hc with rfl | rfl | rfl | rfl | rfl | rfl | rfl | rfl <;> (rw [World.cell?_alloc_at _ _ _ _ rfl]; simp only [*]; rfl)

theorem sizeRing (w : World) : (sizeOf (Tryz.prog.elem 158)).run Tryz.prog w = .ok 1 w := by kernel_rfl
theorem lenRing : Tryz.prog.arrayLen 158 = 8 := by kernel_rfl
theorem slRing (b n : Nat) (h8 : n ≤ 8) (w : World) : (Instr.sliceAt 158 (.pointer (some ⟨b, 0, none⟩)) none (some (.int .i64 n)) none).run Tryz.prog w = .ok (.slice (some ⟨b, 0, none⟩) n 8) w := by
  have := run_sliceAt_array_h (P := Tryz.prog) w 158 ⟨b, 0, none⟩ (by kernel_rfl) .i64 n (by omega) (by rw [lenRing]; omega)
  rw [this, sizeRing, lenRing]
  simp [Result.andThen, slicedAt, Addr.add]

theorem list_any (bs : List Int) (w : World) (h8 : bs.length ≤ 8) :
    Calls Tryz.prog 295 #[ringV bs] w fun e w' => ∃ ao cap, e = .returned (.slice ao bs.length cap) ∧ Own w.heap.size w'.heap.size w' ao bs.length cap bs ∧ Below w.heap.size w w' := by
  unfold ringV
  obtain ⟨b0, h0⟩ : ∃ x, bs.getD 0 0 = x := ⟨_, rfl⟩
  obtain ⟨b1, h1⟩ : ∃ x, bs.getD 1 0 = x := ⟨_, rfl⟩
  obtain ⟨b2, h2⟩ : ∃ x, bs.getD 2 0 = x := ⟨_, rfl⟩
  obtain ⟨b3, h3⟩ : ∃ x, bs.getD 3 0 = x := ⟨_, rfl⟩
  obtain ⟨b4, h4⟩ : ∃ x, bs.getD 4 0 = x := ⟨_, rfl⟩
  obtain ⟨b5, h5⟩ : ∃ x, bs.getD 5 0 = x := ⟨_, rfl⟩
  obtain ⟨b6, h6⟩ : ∃ x, bs.getD 6 0 = x := ⟨_, rfl⟩
  obtain ⟨b7, h7⟩ : ∃ x, bs.getD 7 0 = x := ⟨_, rfl⟩
  obtain ⟨n, hn⟩ : ∃ x, bs.length = x := ⟨_, rfl⟩
  rw [h0, h1, h2, h3, h4, h5, h6, h7, hn]
  rw [hn] at h8
  have hat := ringAt w b0 b1 b2 b3 b4 b5 b6 b7 n bs hn h8 h0 h1 h2 h3 h4 h5 h6 h7
  have hsl := slRing w.heap.size n h8
  unfold ring9 at *
  have H0 := Lib.hid h0; clear h0
  have H1 := Lib.hid h1; clear h1
  have H2 := Lib.hid h2; clear h2
  have H3 := Lib.hid h3; clear h3
  have H4 := Lib.hid h4; clear h4
  have H5 := Lib.hid h5; clear h5
  have H6 := Lib.hid h6; clear h6
  have H7 := Lib.hid h7; clear h7
  have Hn := Lib.hid hn; clear hn
  have Hat := Lib.hid hat; clear hat
  go_enter Tryz.func295, Tryz.ntmps295
  go_wp2_with (go_at_call 37; refine (copyOf_any _ _ _ _ _ Hat.out (by omega)).mono ?_; rintro e w1 ⟨ao, cap, rfl, ho, hb⟩)
  go_ret
  have hb0 := belowAlloc w (.cells #[.int .i64 b0, .int .i64 b1, .int .i64 b2, .int .i64 b3, .int .i64 b4, .int .i64 b5, .int .i64 b6, .int .i64 b7, .int .i64 n] 160)
  exact ⟨_, _, rfl, ho.mono hb0.size (Nat.le_refl _), belowTrans hb0 hb (Nat.le_refl _)⟩
end Go.Proofs.YtimmjimeldejjaaGreatDoor
