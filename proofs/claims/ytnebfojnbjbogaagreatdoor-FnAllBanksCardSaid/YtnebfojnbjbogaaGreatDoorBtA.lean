/- Texts of bank states: what both sides answer. No condition. -/
import Derived.Test.YtnebfojnbjbogaaGreatDoorGc
import Derived.Test.YtnebfojnbjbogaaGreatDoorGe
import Derived.Test.YtnebfojnbjbogaaGreatDoorText
namespace Go.Proofs.YtnebfojnbjbogaaGreatDoor
open Go.RowKit
set_option linter.unusedVariables false
set_option linter.unusedSimpArgs false
set_option maxRecDepth 20000

/-- the text of a bank state -/
def bankL (b : Bk) : List UInt8 := dd b.h ++ [58] ++ dd b.l ++ [58] ++ textL b.p
def mBankText (b : Bk) : List UInt8 × Bool := (if bankB b then bankL b else [], bankB b)
theorem mBText_yes {b : Bk} (h : bankB b = true) : mBankText b = (bankL b, true) := by unfold mBankText; rw [h]; rfl
theorem mBText_no {b : Bk} (h : bankB b = false) : mBankText b = ([], false) := by unfold mBankText; rw [h]; rfl
theorem textL_length {xs : List Int} (h : Good xs) : (textL xs).length ≤ 85 := by
  unfold textL
  by_cases hx : xs = []
  · rw [if_pos hx]; simp
  · rw [if_neg hx]
    have := joinL_length (fun x hx => (h.mem hx).2) xs.length
    rw [List.take_length] at this
    have := h.len
    omega
theorem bankL_glue (A B T : List UInt8) : (⟨A.toArray⟩ ++ ⟨#[58]⟩ ++ ⟨B.toArray⟩ ++ ⟨#[58]⟩ ++ ⟨T.toArray⟩ : ByteArray) = ⟨(A ++ [58] ++ B ++ [58] ++ T).toArray⟩ := by
  apply ByteArray.ext
  simp
theorem bankL_glue2 (D T : List UInt8) : (⟨D.toArray⟩ ++ ⟨#[58]⟩ ++ ⟨T.toArray⟩ : ByteArray) = ⟨(D ++ [58] ++ T).toArray⟩ := by
  apply ByteArray.ext
  simp
theorem jn_two {h l : Int} (h0 : 0 ≤ h) (l0 : 0 ≤ l) : jnL 58 [] [h, l] = dd h ++ [58] ++ dd l := by
  rw [jnL_cons (by simp)]
  simp [Lib.join, Lib.joinTail, itoa_dd h0, itoa_dd l0]
theorem IntsAt.drew' {w a n c xs} (h : IntsAt w a n c xs) : IntsAt w.drew a n c xs := ⟨h.length, h.le, h.max, h.isNil, h.cell⟩

set_option maxHeartbeats 1600000 in
set_option maxRecDepth 100000 in
theorem textOfBank_any (h l : Int) (ao : Option Addr) (n cap : Nat) (xs : List Int) (w : World) (hA : IntsAt w ao n cap xs) (hk : BankOk ⟨h, l, xs⟩) :
    Calls Tryz.prog 39 #[.agg #[.int .i64 h, .int .i64 l, .slice ao n cap]] w fun e w' => e = .returned (.string ⟨(bankL ⟨h, l, xs⟩).toArray⟩) ∧ Below w.heap.size w w' := by
  obtain ⟨hh, hl, hG, -, -⟩ := hk
  simp only at hh hl hG
  have hlen := hG.len
  have hnl := hA.length
  have c1 := fun W b cp (q : IntsAt W b 2 cp [h, l]) => joinNumbers_any b 2 cp [h, l] 58 [] W q (by omega) (fun x hx => itoa_small W x (by simp at hx; omega) (by simp at hx; omega)) (fun x hx => itoa_len_small (by simp at hx; omega) (by simp at hx; omega))
  have c3 := fun W (q : IntsAt W ao n cap xs) => joinNumbers_any ao n cap xs 43 [48] W q (by omega) (fun x hx => itoa_small W x (by have := hG.mem hx; omega) (by have := hG.mem hx; omega)) (fun x hx => itoa_len_small (by have := hG.mem hx; omega) (hG.mem hx).2)
  rw [jn_two (by omega) (by omega)] at c1
  rw [jnL_text (fun x hx => by have := hG.mem hx; omega)] at c3
  change ∀ W b cp, IntsAt W b 2 cp [h, l] → Calls Tryz.prog 56 #[.slice b 2 cp, .string ⟨#[58]⟩, .string ⟨#[]⟩] W _ at c1
  change ∀ W, IntsAt W ao n cap xs → Calls Tryz.prog 56 #[.slice ao n cap, .string ⟨#[43]⟩, .string ⟨#[48]⟩] W _ at c3
  have l1 := dd_length h (by omega)
  have l2 := dd_length l (by omega)
  have l3 := textL_length hG
  have hres : bankL ⟨h, l, xs⟩ = dd h ++ [58] ++ dd l ++ [58] ++ textL xs := rfl
  rw [hres]
  clear hres
  have l4 : (dd h ++ [58] ++ dd l).length ≤ 5 := by simp; omega
  generalize dd h ++ [58] ++ dd l = D at *
  generalize textL xs = T at *
  have n1 : ¬ (9223372036854775807 < D.length + 1) := by omega
  have n2 : ¬ (9223372036854775807 < D.length + 1 + T.length) := by omega
  have hbA := belowAlloc w (.cells #[.int .i64 h, .int .i64 l, .slice ao n cap] 32)
  have bA := Blk.new w h l ao n cap 32
  have hA2 := hA.keep hbA
  obtain ⟨W, hW⟩ : ∃ W, W = w.alloc (.cells #[.int .i64 h, .int .i64 l, .slice ao n cap] 32) := ⟨_, rfl⟩
  rw [← hW] at hbA bA hA2
  have hbB := belowAlloc W (.cells #[.int .i64 h, .int .i64 l] 3)
  have ho : Own W.heap.size (W.alloc (.cells #[.int .i64 h, .int .i64 l] 3)).heap.size (W.alloc (.cells #[.int .i64 h, .int .i64 l] 3)) (some ⟨W.heap.size, 0, none⟩) 2 2 [h, l] :=
    Own.of (World.ownsRow_lit W #[.int .i64 h, .int .i64 l] 2 (Nat.le_refl _) (by unfold maxLen; omega) rfl)
  have hin := ho.at.drew'
  clear ho
  have e1 := (c1 _ _ _ hin).mono (R' := fun e w1 => e = .returned (.string ⟨D.toArray⟩) ∧ Below w.heap.size w w1 ∧ Blk w1 w.heap.size h l ao n cap 32 ∧ IntsAt w1 ao n cap xs)
    (fun e w1 ⟨a, b⟩ => ⟨a, belowTrans (belowTrans hbA hbB (Nat.le_refl _)).drew b (Nat.le_refl _), (bA.keep hbB).drew.keep b, (hA2.keep hbB).drew'.keep b⟩)
  have e3 := fun W' (q1 : Below w.heap.size w W') (q3 : IntsAt W' ao n cap xs) => (c3 W' q3).mono (R' := fun e w1 => e = .returned (.string ⟨T.toArray⟩) ∧ Below w.heap.size w w1)
    (fun e w1 ⟨a, b⟩ => ⟨a, belowTrans q1 b (Nat.le_refl _)⟩)
  obtain ⟨⟨x0, x1, x2⟩, y0, y1, y2⟩ := bA.cells
  obtain ⟨⟨u0, u1, u2⟩, v0, v1, v2⟩ := (bA.keep hbB).drew.cells
  clear c1 c3 hbA bA hA2 hA hh hl hG l1 l2 l3 l4 hin hbB hlen hnl
  have E1 := Lib.hid e1; clear e1
  have E3 := Lib.hid e3; clear e3
  have HW := Lib.hid hW; clear hW
  go_enter Tryz.func39, Tryz.ntmps39
  go_wp2_with fail
  rw [← HW.out]
  go_region_law (first | (go_simp; with_reducible refine (E1.out).mono ?_; rintro e w1 ⟨rfl, hb1, k1, hA1⟩; obtain ⟨⟨p0, p1, p2⟩, q0, q1, q2⟩ := k1.cells; have Hb1 := Lib.hid hb1; have HA1 := Lib.hid hA1; clear hb1 k1 hA1) | (go_simp; with_reducible refine (E3.out w1 Hb1.out HA1.out).mono ?_; rintro e w3 ⟨rfl, hb3⟩; have Hb3 := Lib.hid hb3; clear hb3))
  all_goals
    go_wp2
    go_ret
    exact ⟨congrArg (fun s => Ending.returned (.string s)) (bankL_glue2 D T), Hb3.out⟩

end Go.Proofs.YtnebfojnbjbogaaGreatDoor
