/- Texts of bank states: what both sides answer. No condition. -/
import Derived.Test.YtjaodhjiibdbdaaGreatDoorGc
import Derived.Test.YtjaodhjiibdbdaaGreatDoorGe
import Derived.Test.YtjaodhjiibdbdaaGreatDoorText
namespace Go.Proofs.YtjaodhjiibdbdaaGreatDoor
open Go.RowKit
set_option linter.unusedVariables false
set_option linter.unusedSimpArgs false
set_option maxRecDepth 20000

/-- the text of a bank state -/
def bankL (b : Bk) : List UInt8 := dd b.h ++ [58] ++ dd b.l ++ [58] ++ textL b.p
def mBankText (b : Bk) : List UInt8 × Bool := (if bankB b then bankL b else [], bankB b)
theorem mBText_yes {b : Bk} (h : bankB b = true) : mBankText b = (bankL b, true) := by unfold mBankText; rw [h]; rfl
theorem mBText_no {b : Bk} (h : bankB b = false) : mBankText b = ([], false) := by unfold mBankText; rw [h]; rfl
theorem textL_length {xs : List Int} (h : Good xs) : (textL xs).length ≤ 85 := by
  unfold textL
  by_cases hx : xs = []
  · rw [if_pos hx]; simp
  · rw [if_neg hx]
    have := joinL_length (fun x hx => (h.mem hx).2) xs.length
    rw [List.take_length] at this
    have := h.len
    omega
theorem bankL_glue (A B T : List UInt8) : (⟨A.toArray⟩ ++ ⟨#[58]⟩ ++ ⟨B.toArray⟩ ++ ⟨#[58]⟩ ++ ⟨T.toArray⟩ : ByteArray) = ⟨(A ++ [58] ++ B ++ [58] ++ T).toArray⟩ := by
  apply ByteArray.ext
  simp
theorem bankL_glue2 (D T : List UInt8) : (⟨D.toArray⟩ ++ ⟨#[58]⟩ ++ ⟨T.toArray⟩ : ByteArray) = ⟨(D ++ [58] ++ T).toArray⟩ := by
  apply ByteArray.ext
  simp
theorem jn_two {h l : Int} (h0 : 0 ≤ h) (l0 : 0 ≤ l) : jnL 58 [] [h, l] = dd h ++ [58] ++ dd l := by
  rw [jnL_cons (by simp)]
  simp [Lib.join, Lib.joinTail, itoa_dd h0, itoa_dd l0]
theorem IntsAt.drew' {w a n c xs} (h : IntsAt w a n c xs) : IntsAt w.drew a n c xs := ⟨h.length, h.le, h.max, h.isNil, h.cell⟩

set_option maxHeartbeats 1600000 in
set_option maxRecDepth 100000 in
theorem baText_any (h l : Int) (ao : Option Addr) (n cap : Nat) (xs : List Int) (w : World) (hA : IntsAt w ao n cap xs) (hk : BankOk ⟨h, l, xs⟩) :
    Calls Tryz.prog 64 #[.agg #[.int .i64 h, .int .i64 l, .slice ao n cap]] w fun e w' => e = .returned (.string ⟨(bankL ⟨h, l, xs⟩).toArray⟩) ∧ Below w.heap.size w w' := by
  obtain ⟨hh, hl, hG, -, -⟩ := hk
  simp only at hh hl hG
  obtain ⟨X, rfl⟩ := Int.eq_ofNat_of_zero_le (show 0 ≤ h by omega)
  obtain ⟨Y, rfl⟩ := Int.eq_ofNat_of_zero_le (show 0 ≤ l by omega)
  have c1 := fun W => l1Num_any X X W (Nat.le_refl _) (by omega)
  have c2 := fun W => l1Num_any Y Y W (Nat.le_refl _) (by omega)
  have c3 := fun W (q : IntsAt W ao n cap xs) => piText_any ao n cap xs W q hG
  have d1 : dd (X : Int) = Lib.decDigits X := by simp [dd]
  have d2 : dd (Y : Int) = Lib.decDigits Y := by simp [dd]
  have l1 := dd_length (X : Int) (by omega)
  have l2 := dd_length (Y : Int) (by omega)
  have l3 := textL_length hG
  have hres : bankL ⟨(X : Int), (Y : Int), xs⟩ = dd (X : Int) ++ [58] ++ dd (Y : Int) ++ [58] ++ textL xs := rfl
  rw [hres]
  rw [← d1] at c1
  rw [← d2] at c2
  clear d1 d2 hres
  generalize dd (X : Int) = D1 at *
  generalize dd (Y : Int) = D2 at *
  generalize textL xs = T at *
  have n1 : ¬ (9223372036854775807 < D1.length + 1) := by omega
  have n2 : ¬ (9223372036854775807 < D1.length + 1 + D2.length) := by omega
  have n3 : ¬ (9223372036854775807 < D1.length + 1 + D2.length + 1) := by omega
  have n4 : ¬ (9223372036854775807 < D1.length + 1 + D2.length + 1 + T.length) := by omega
  generalize hx : (X : Int) = x at *
  generalize hy : (Y : Int) = y at *
  have hbA := belowAlloc w (.cells #[.int .i64 x, .int .i64 y, .slice ao n cap] 40)
  have bA := Blk.new w x y ao n cap 40
  have hA2 := hA.keep hbA
  obtain ⟨W, hW⟩ : ∃ W, W = w.alloc (.cells #[.int .i64 x, .int .i64 y, .slice ao n cap] 40) := ⟨_, rfl⟩
  rw [← hW] at hbA bA hA2
  have e1 := (c1 W.drew).mono (R' := fun e w1 => e = .returned (.string ⟨D1.toArray⟩) ∧ Below w.heap.size w w1 ∧ Blk w1 w.heap.size x y ao n cap 40 ∧ IntsAt w1 ao n cap xs)
    (fun e w1 ⟨a, b⟩ => ⟨a, belowTrans hbA.drew b (Nat.le_refl _), bA.drew.keep b, hA2.drew'.keep b⟩)
  have e2 := fun W' (q1 : Below w.heap.size w W') (q2 : Blk W' w.heap.size x y ao n cap 40) (q3 : IntsAt W' ao n cap xs) => (c2 W').mono (R' := fun e w1 => e = .returned (.string ⟨D2.toArray⟩) ∧ Below w.heap.size w w1 ∧ Blk w1 w.heap.size x y ao n cap 40 ∧ IntsAt w1 ao n cap xs)
    (fun e w1 ⟨a, b⟩ => ⟨a, belowTrans q1 b (Nat.le_refl _), q2.keep b, q3.keep b⟩)
  have e3 := fun W' (q1 : Below w.heap.size w W') (q3 : IntsAt W' ao n cap xs) => (c3 W' q3).mono (R' := fun e w1 => e = .returned (.string ⟨T.toArray⟩) ∧ Below w.heap.size w w1)
    (fun e w1 ⟨a, b⟩ => ⟨a, belowTrans q1 b (Nat.le_refl _)⟩)
  obtain ⟨⟨x0, x1, x2⟩, y0, y1, y2⟩ := bA.cells
  clear c1 c2 c3 hbA bA hA2 hA hh hl hG l1 l2 l3 hx hy
  have E1 := Lib.hid e1; clear e1
  have E2 := Lib.hid e2; clear e2
  have E3 := Lib.hid e3; clear e3
  have HW := Lib.hid hW; clear hW
  go_enter Tryz.func64, Tryz.ntmps64
  go_wp2_with fail
  rw [← HW.out]
  go_region_law (first | (go_simp; with_reducible refine (E1.out).mono ?_; rintro e w1 ⟨rfl, hb1, k1, hA1⟩; obtain ⟨⟨p0, p1, p2⟩, q0, q1, q2⟩ := k1.cells; have Hb1 := Lib.hid hb1; have K1 := Lib.hid k1; have HA1 := Lib.hid hA1; clear hb1 k1 hA1) | (go_simp; with_reducible refine (E2.out w1 Hb1.out K1.out HA1.out).mono ?_; rintro e w2 ⟨rfl, hb2, k2, hA2⟩; obtain ⟨⟨r0, r1, r2⟩, s0, s1, s2⟩ := k2.cells; have Hb2 := Lib.hid hb2; have HA2 := Lib.hid hA2; clear hb2 k2 hA2) | (go_simp; with_reducible refine (E3.out w2 Hb2.out HA2.out).mono ?_; rintro e w3 ⟨rfl, hb3⟩; have Hb3 := Lib.hid hb3; clear hb3))
  all_goals
    go_wp2
    go_ret
    exact ⟨congrArg (fun s => Ending.returned (.string s)) (bankL_glue D1 D2 T), Hb3.out⟩

theorem spec_BankText (h l : Int) (ao : Option Addr) (n cap : Nat) (xs : List Int) (w : World) (hA : IntsAt w ao n cap xs) :
    Calls Tryz.prog 29 #[.agg #[.int .i64 h, .int .i64 l, .slice ao n cap]] w fun e w' => e = .returned (.tuple #[.string ⟨(mBankText ⟨h, l, xs⟩).1.toArray⟩, .bool (mBankText ⟨h, l, xs⟩).2]) ∧ Below w.heap.size w w' := by
  have hbA := belowAlloc w (.cells #[.int .i64 h, .int .i64 l, .slice ao n cap] 40)
  have bA := Blk.new w h l ao n cap 40
  have hA2 := hA.keep hbA
  have hcon := (baGood_any h l ao n cap xs _ hA2).mono (R' := fun e w1 => e = .returned (.bool (bankB ⟨h, l, xs⟩)) ∧ Below w.heap.size w w1 ∧ Blk w1 w.heap.size h l ao n cap 40 ∧ IntsAt w1 ao n cap xs)
    (fun e w1 ⟨a, b⟩ => ⟨a, belowTrans hbA b (Nat.le_refl _), bA.keep b, hA2.keep b⟩)
  unfold bankV at hcon
  cases hg : bankB ⟨h, l, xs⟩
  · have hm := mBText_no hg
    rw [hg] at hcon
    clear hbA bA hA2
    have Hcon := Lib.hid hcon; clear hcon
    have Hm := Lib.hid hm; clear hm
    have Hg := Lib.hid hg; clear hg
    go_enter Tryz.func29, Tryz.ntmps29
    go_wp2_with fail
    with_reducible refine (Hcon.out).mono ?_
    rintro e w1 ⟨rfl, hb1, -, -⟩
    have Hb1 := Lib.hid hb1; clear hb1
    go_wp2
    go_ret2
    rw [Hm.out]
    exact ⟨rfl, Hb1.out⟩
  · have hm := mBText_yes hg
    rw [hg] at hcon
    have ht := fun W (q : IntsAt W ao n cap xs) => baText_any h l ao n cap xs W q (bank_iff.1 hg)
    clear hbA bA hA2
    have Hcon := Lib.hid hcon; clear hcon
    have Hm := Lib.hid hm; clear hm
    have Hg := Lib.hid hg; clear hg
    have Ht := Lib.hid ht; clear ht
    go_enter Tryz.func29, Tryz.ntmps29
    go_wp2_with fail
    with_reducible refine (Hcon.out).mono ?_
    rintro e w1 ⟨rfl, hb1, k1, hA1⟩
    obtain ⟨⟨x0, x1, x2⟩, y0, y1, y2⟩ := k1.cells
    clear k1
    have Hb1 := Lib.hid hb1; clear hb1
    have HA1 := Lib.hid hA1; clear hA1
    go_wp2_with fail
    with_reducible refine (Ht.out _ HA1.out).mono ?_
    rintro e w2 ⟨rfl, hb2⟩
    have hb3 := belowTrans Hb1.out hb2 (Nat.le_refl _)
    clear hb2
    have Hb3 := Lib.hid hb3; clear hb3
    go_wp2
    go_ret2
    rw [Hm.out]
    exact ⟨rfl, Hb3.out⟩

set_option maxHeartbeats 1600000 in
set_option maxRecDepth 100000 in
theorem textOfBank_any (h l : Int) (ao : Option Addr) (n cap : Nat) (xs : List Int) (w : World) (hA : IntsAt w ao n cap xs) (hk : BankOk ⟨h, l, xs⟩) :
    Calls Tryz.prog 63 #[.agg #[.int .i64 h, .int .i64 l, .slice ao n cap]] w fun e w' => e = .returned (.string ⟨(bankL ⟨h, l, xs⟩).toArray⟩) ∧ Below w.heap.size w w' := by
  obtain ⟨hh, hl, hG, -, -⟩ := hk
  simp only at hh hl hG
  have hlen := hG.len
  have hnl := hA.length
  have c1 := fun W b cp (q : IntsAt W b 2 cp [h, l]) => joinNumbers_any b 2 cp [h, l] 58 [] W q (by omega) (fun x hx => itoa_small W x (by simp at hx; omega) (by simp at hx; omega)) (fun x hx => itoa_len_small (by simp at hx; omega) (by simp at hx; omega))
  have c3 := fun W (q : IntsAt W ao n cap xs) => joinNumbers_any ao n cap xs 43 [48] W q (by omega) (fun x hx => itoa_small W x (by have := hG.mem hx; omega) (by have := hG.mem hx; omega)) (fun x hx => itoa_len_small (by have := hG.mem hx; omega) (hG.mem hx).2)
  rw [jn_two (by omega) (by omega)] at c1
  rw [jnL_text (fun x hx => by have := hG.mem hx; omega)] at c3
  change ∀ W b cp, IntsAt W b 2 cp [h, l] → Calls Tryz.prog 39 #[.slice b 2 cp, .string ⟨#[58]⟩, .string ⟨#[]⟩] W _ at c1
  change ∀ W, IntsAt W ao n cap xs → Calls Tryz.prog 39 #[.slice ao n cap, .string ⟨#[43]⟩, .string ⟨#[48]⟩] W _ at c3
  have l1 := dd_length h (by omega)
  have l2 := dd_length l (by omega)
  have l3 := textL_length hG
  have hres : bankL ⟨h, l, xs⟩ = dd h ++ [58] ++ dd l ++ [58] ++ textL xs := rfl
  rw [hres]
  clear hres
  have l4 : (dd h ++ [58] ++ dd l).length ≤ 5 := by simp; omega
  generalize dd h ++ [58] ++ dd l = D at *
  generalize textL xs = T at *
  have n1 : ¬ (9223372036854775807 < D.length + 1) := by omega
  have n2 : ¬ (9223372036854775807 < D.length + 1 + T.length) := by omega
  have hbA := belowAlloc w (.cells #[.int .i64 h, .int .i64 l, .slice ao n cap] 40)
  have bA := Blk.new w h l ao n cap 40
  have hA2 := hA.keep hbA
  obtain ⟨W, hW⟩ : ∃ W, W = w.alloc (.cells #[.int .i64 h, .int .i64 l, .slice ao n cap] 40) := ⟨_, rfl⟩
  rw [← hW] at hbA bA hA2
  have hbB := belowAlloc W (.cells #[.int .i64 h, .int .i64 l] 3)
  have ho : Own W.heap.size (W.alloc (.cells #[.int .i64 h, .int .i64 l] 3)).heap.size (W.alloc (.cells #[.int .i64 h, .int .i64 l] 3)) (some ⟨W.heap.size, 0, none⟩) 2 2 [h, l] :=
    Own.of (World.ownsRow_lit W #[.int .i64 h, .int .i64 l] 2 (Nat.le_refl _) (by unfold maxLen; omega) rfl)
  have hin := ho.at.drew'
  clear ho
  have e1 := (c1 _ _ _ hin).mono (R' := fun e w1 => e = .returned (.string ⟨D.toArray⟩) ∧ Below w.heap.size w w1 ∧ Blk w1 w.heap.size h l ao n cap 40 ∧ IntsAt w1 ao n cap xs)
    (fun e w1 ⟨a, b⟩ => ⟨a, belowTrans (belowTrans hbA hbB (Nat.le_refl _)).drew b (Nat.le_refl _), (bA.keep hbB).drew.keep b, (hA2.keep hbB).drew'.keep b⟩)
  have e3 := fun W' (q1 : Below w.heap.size w W') (q3 : IntsAt W' ao n cap xs) => (c3 W' q3).mono (R' := fun e w1 => e = .returned (.string ⟨T.toArray⟩) ∧ Below w.heap.size w w1)
    (fun e w1 ⟨a, b⟩ => ⟨a, belowTrans q1 b (Nat.le_refl _)⟩)
  obtain ⟨⟨x0, x1, x2⟩, y0, y1, y2⟩ := bA.cells
  obtain ⟨⟨u0, u1, u2⟩, v0, v1, v2⟩ := (bA.keep hbB).drew.cells
  clear c1 c3 hbA bA hA2 hA hh hl hG l1 l2 l3 l4 hin hbB hlen hnl
  have E1 := Lib.hid e1; clear e1
  have E3 := Lib.hid e3; clear e3
  have HW := Lib.hid hW; clear hW
  go_enter Tryz.func63, Tryz.ntmps63
  go_wp2_with fail
  rw [← HW.out]
  go_region_law (first | (go_simp; with_reducible refine (E1.out).mono ?_; rintro e w1 ⟨rfl, hb1, k1, hA1⟩; obtain ⟨⟨p0, p1, p2⟩, q0, q1, q2⟩ := k1.cells; have Hb1 := Lib.hid hb1; have HA1 := Lib.hid hA1; clear hb1 k1 hA1) | (go_simp; with_reducible refine (E3.out w1 Hb1.out HA1.out).mono ?_; rintro e w3 ⟨rfl, hb3⟩; have Hb3 := Lib.hid hb3; clear hb3))
  all_goals
    go_wp2
    go_ret
    exact ⟨congrArg (fun s => Ending.returned (.string s)) (bankL_glue2 D T), Hb3.out⟩

theorem impl_BankText (h l : Int) (ao : Option Addr) (n cap : Nat) (xs : List Int) (w : World) (hA : IntsAt w ao n cap xs) :
    Calls Tryz.prog 28 #[.agg #[.int .i64 h, .int .i64 l, .slice ao n cap]] w fun e w' => e = .returned (.tuple #[.string ⟨(mBankText ⟨h, l, xs⟩).1.toArray⟩, .bool (mBankText ⟨h, l, xs⟩).2]) ∧ Below w.heap.size w w' := by
  have hbA := belowAlloc w (.cells #[.int .i64 h, .int .i64 l, .slice ao n cap] 40)
  have bA := Blk.new w h l ao n cap 40
  have hA2 := hA.keep hbA
  have hcon := (isBank_any h l ao n cap xs _ hA2).mono (R' := fun e w1 => e = .returned (.bool (bankB ⟨h, l, xs⟩)) ∧ Below w.heap.size w w1 ∧ Blk w1 w.heap.size h l ao n cap 40 ∧ IntsAt w1 ao n cap xs)
    (fun e w1 ⟨a, b⟩ => ⟨a, belowTrans hbA b (Nat.le_refl _), bA.keep b, hA2.keep b⟩)
  unfold bankV at hcon
  cases hg : bankB ⟨h, l, xs⟩
  · have hm := mBText_no hg
    rw [hg] at hcon
    clear hbA bA hA2
    have Hcon := Lib.hid hcon; clear hcon
    have Hm := Lib.hid hm; clear hm
    have Hg := Lib.hid hg; clear hg
    go_enter Tryz.func28, Tryz.ntmps28
    go_wp2_with fail
    with_reducible refine (Hcon.out).mono ?_
    rintro e w1 ⟨rfl, hb1, -, -⟩
    have Hb1 := Lib.hid hb1; clear hb1
    go_wp2
    go_ret2
    rw [Hm.out]
    exact ⟨rfl, Hb1.out⟩
  · have hm := mBText_yes hg
    rw [hg] at hcon
    have ht := fun W (q : IntsAt W ao n cap xs) => textOfBank_any h l ao n cap xs W q (bank_iff.1 hg)
    clear hbA bA hA2
    have Hcon := Lib.hid hcon; clear hcon
    have Hm := Lib.hid hm; clear hm
    have Hg := Lib.hid hg; clear hg
    have Ht := Lib.hid ht; clear ht
    go_enter Tryz.func28, Tryz.ntmps28
    go_wp2_with fail
    with_reducible refine (Hcon.out).mono ?_
    rintro e w1 ⟨rfl, hb1, k1, hA1⟩
    obtain ⟨⟨x0, x1, x2⟩, y0, y1, y2⟩ := k1.cells
    clear k1
    have Hb1 := Lib.hid hb1; clear hb1
    have HA1 := Lib.hid hA1; clear hA1
    go_wp2_with fail
    with_reducible refine (Ht.out _ HA1.out).mono ?_
    rintro e w2 ⟨rfl, hb2⟩
    have hb3 := belowTrans Hb1.out hb2 (Nat.le_refl _)
    clear hb2
    have Hb3 := Lib.hid hb3; clear hb3
    go_wp2
    go_ret2
    rw [Hm.out]
    exact ⟨rfl, Hb3.out⟩
end Go.Proofs.YtjaodhjiibdbdaaGreatDoor
