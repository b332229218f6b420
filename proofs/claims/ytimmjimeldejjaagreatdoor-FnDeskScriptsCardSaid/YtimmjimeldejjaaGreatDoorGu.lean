/- Several texts in one: BtA, DdM, BtK, BtL, PpM, BtM. No condition. -/
import Derived.Test.YtimmjimeldejjaaGreatDoorGc
import Derived.Test.YtimmjimeldejjaaGreatDoorGe
import Derived.Test.YtimmjimeldejjaaGreatDoorText
import Derived.Test.YtimmjimeldejjaaGreatDoorGj
namespace Go.Proofs.YtimmjimeldejjaaGreatDoor
section
open Go.RowKit
set_option linter.unusedVariables false
set_option linter.unusedSimpArgs false
set_option maxRecDepth 20000

/-- the text of a bank state -/
def bankL (b : Bk) : List UInt8 := dd b.h ++ [58] ++ dd b.l ++ [58] ++ textL b.p
def mBankText (b : Bk) : List UInt8 × Bool := (if bankB b then bankL b else [], bankB b)
theorem mBText_yes {b : Bk} (h : bankB b = true) : mBankText b = (bankL b, true) := by unfold mBankText; rw [h]; rfl
theorem mBText_no {b : Bk} (h : bankB b = false) : mBankText b = ([], false) := by unfold mBankText; rw [h]; rfl
theorem textL_length {xs : List Int} (h : Good xs) : (textL xs).length ≤ 85 := by
  unfold textL
  by_cases hx : xs = []
  · rw [if_pos hx]; simp
  · rw [if_neg hx]
    have := joinL_length (fun x hx => (h.mem hx).2) xs.length
    rw [List.take_length] at this
    have := h.len
    omega
theorem bankL_glue (A B T : List UInt8) : (⟨A.toArray⟩ ++ ⟨#[58]⟩ ++ ⟨B.toArray⟩ ++ ⟨#[58]⟩ ++ ⟨T.toArray⟩ : ByteArray) = ⟨(A ++ [58] ++ B ++ [58] ++ T).toArray⟩ := by
  apply ByteArray.ext
  simp
theorem bankL_glue2 (D T : List UInt8) : (⟨D.toArray⟩ ++ ⟨#[58]⟩ ++ ⟨T.toArray⟩ : ByteArray) = ⟨(D ++ [58] ++ T).toArray⟩ := by
  apply ByteArray.ext
  simp
theorem jn_two {h l : Int} (h0 : 0 ≤ h) (l0 : 0 ≤ l) : jnL 58 [] [h, l] = dd h ++ [58] ++ dd l := by
  rw [jnL_cons (by simp)]
  simp [Lib.join, Lib.joinTail, itoa_dd h0, itoa_dd l0]
theorem IntsAt.drew' {w a n c xs} (h : IntsAt w a n c xs) : IntsAt w.drew a n c xs := ⟨h.length, h.le, h.max, h.isNil, h.cell⟩

set_option maxHeartbeats 1600000 in
set_option maxRecDepth 100000 in
theorem baText_any (h l : Int) (ao : Option Addr) (n cap : Nat) (xs : List Int) (w : World) (hA : IntsAt w ao n cap xs) (hk : BankOk ⟨h, l, xs⟩) :
    Calls Tryz.prog 63 #[.agg #[.int .i64 h, .int .i64 l, .slice ao n cap]] w fun e w' => e = .returned (.string ⟨(bankL ⟨h, l, xs⟩).toArray⟩) ∧ Below w.heap.size w w' := by
  obtain ⟨hh, hl, hG, -, -⟩ := hk
  simp only at hh hl hG
  obtain ⟨X, rfl⟩ := Int.eq_ofNat_of_zero_le (show 0 ≤ h by omega)
  obtain ⟨Y, rfl⟩ := Int.eq_ofNat_of_zero_le (show 0 ≤ l by omega)
  have c1 := fun W => l1Num_any X X W (Nat.le_refl _) (by omega)
  have c2 := fun W => l1Num_any Y Y W (Nat.le_refl _) (by omega)
  have c3 := fun W (q : IntsAt W ao n cap xs) => piText_any ao n cap xs W q hG
  have d1 : dd (X : Int) = Lib.decDigits X := by simp [dd]
  have d2 : dd (Y : Int) = Lib.decDigits Y := by simp [dd]
  have l1 := dd_length (X : Int) (by omega)
  have l2 := dd_length (Y : Int) (by omega)
  have l3 := textL_length hG
  have hres : bankL ⟨(X : Int), (Y : Int), xs⟩ = dd (X : Int) ++ [58] ++ dd (Y : Int) ++ [58] ++ textL xs := rfl
  rw [hres]
  rw [← d1] at c1
  rw [← d2] at c2
  clear d1 d2 hres
  generalize dd (X : Int) = D1 at *
  generalize dd (Y : Int) = D2 at *
  generalize textL xs = T at *
  have n1 : ¬ (9223372036854775807 < D1.length + 1) := by omega
  have n2 : ¬ (9223372036854775807 < D1.length + 1 + D2.length) := by omega
  have n3 : ¬ (9223372036854775807 < D1.length + 1 + D2.length + 1) := by omega
  have n4 : ¬ (9223372036854775807 < D1.length + 1 + D2.length + 1 + T.length) := by omega
  generalize hx : (X : Int) = x at *
  generalize hy : (Y : Int) = y at *
  have hbA := belowAlloc w (.cells #[.int .i64 x, .int .i64 y, .slice ao n cap] 84)
  have bA := Blk.new w x y ao n cap 84
  have hA2 := hA.keep hbA
  obtain ⟨W, hW⟩ : ∃ W, W = w.alloc (.cells #[.int .i64 x, .int .i64 y, .slice ao n cap] 84) := ⟨_, rfl⟩
  rw [← hW] at hbA bA hA2
  have e1 := (c1 W.drew).mono (R' := fun e w1 => e = .returned (.string ⟨D1.toArray⟩) ∧ Below w.heap.size w w1 ∧ Blk w1 w.heap.size x y ao n cap 84 ∧ IntsAt w1 ao n cap xs)
    (fun e w1 ⟨a, b⟩ => ⟨a, belowTrans hbA.drew b (Nat.le_refl _), bA.drew.keep b, hA2.drew'.keep b⟩)
  have e2 := fun W' (q1 : Below w.heap.size w W') (q2 : Blk W' w.heap.size x y ao n cap 84) (q3 : IntsAt W' ao n cap xs) => (c2 W').mono (R' := fun e w1 => e = .returned (.string ⟨D2.toArray⟩) ∧ Below w.heap.size w w1 ∧ Blk w1 w.heap.size x y ao n cap 84 ∧ IntsAt w1 ao n cap xs)
    (fun e w1 ⟨a, b⟩ => ⟨a, belowTrans q1 b (Nat.le_refl _), q2.keep b, q3.keep b⟩)
  have e3 := fun W' (q1 : Below w.heap.size w W') (q3 : IntsAt W' ao n cap xs) => (c3 W' q3).mono (R' := fun e w1 => e = .returned (.string ⟨T.toArray⟩) ∧ Below w.heap.size w w1)
    (fun e w1 ⟨a, b⟩ => ⟨a, belowTrans q1 b (Nat.le_refl _)⟩)
  obtain ⟨⟨x0, x1, x2⟩, y0, y1, y2⟩ := bA.cells
  clear c1 c2 c3 hbA bA hA2 hA hh hl hG l1 l2 l3 hx hy
  have E1 := Lib.hid e1; clear e1
  have E2 := Lib.hid e2; clear e2
  have E3 := Lib.hid e3; clear e3
  have HW := Lib.hid hW; clear hW
  go_enter Tryz.func63, Tryz.ntmps63
  go_wp2_with fail
  rw [← HW.out]
  go_region_law (first | (go_simp; with_reducible refine (E1.out).mono ?_; rintro e w1 ⟨rfl, hb1, k1, hA1⟩; obtain ⟨⟨p0, p1, p2⟩, q0, q1, q2⟩ := k1.cells; have Hb1 := Lib.hid hb1; have K1 := Lib.hid k1; have HA1 := Lib.hid hA1; clear hb1 k1 hA1) | (go_simp; with_reducible refine (E2.out w1 Hb1.out K1.out HA1.out).mono ?_; rintro e w2 ⟨rfl, hb2, k2, hA2⟩; obtain ⟨⟨r0, r1, r2⟩, s0, s1, s2⟩ := k2.cells; have Hb2 := Lib.hid hb2; have HA2 := Lib.hid hA2; clear hb2 k2 hA2) | (go_simp; with_reducible refine (E3.out w2 Hb2.out HA2.out).mono ?_; rintro e w3 ⟨rfl, hb3⟩; have Hb3 := Lib.hid hb3; clear hb3))
  all_goals
    go_wp2
    go_ret
    exact ⟨congrArg (fun s => Ending.returned (.string s)) (bankL_glue D1 D2 T), Hb3.out⟩

set_option maxHeartbeats 1600000 in
set_option maxRecDepth 100000 in
theorem textOfBank_any (h l : Int) (ao : Option Addr) (n cap : Nat) (xs : List Int) (w : World) (hA : IntsAt w ao n cap xs) (hk : BankOk ⟨h, l, xs⟩) :
    Calls Tryz.prog 211 #[.agg #[.int .i64 h, .int .i64 l, .slice ao n cap]] w fun e w' => e = .returned (.string ⟨(bankL ⟨h, l, xs⟩).toArray⟩) ∧ Below w.heap.size w w' := by
  obtain ⟨hh, hl, hG, -, -⟩ := hk
  simp only at hh hl hG
  have hlen := hG.len
  have hnl := hA.length
  have c1 := fun W b cp (q : IntsAt W b 2 cp [h, l]) => joinNumbers_any b 2 cp [h, l] 58 [] W q (by omega) (fun x hx => itoa_small W x (by simp at hx; omega) (by simp at hx; omega)) (fun x hx => itoa_len_small (by simp at hx; omega) (by simp at hx; omega))
  have c3 := fun W (q : IntsAt W ao n cap xs) => joinNumbers_any ao n cap xs 43 [48] W q (by omega) (fun x hx => itoa_small W x (by have := hG.mem hx; omega) (by have := hG.mem hx; omega)) (fun x hx => itoa_len_small (by have := hG.mem hx; omega) (hG.mem hx).2)
  rw [jn_two (by omega) (by omega)] at c1
  rw [jnL_text (fun x hx => by have := hG.mem hx; omega)] at c3
  change ∀ W b cp, IntsAt W b 2 cp [h, l] → Calls Tryz.prog 45 #[.slice b 2 cp, .string ⟨#[58]⟩, .string ⟨#[]⟩] W _ at c1
  change ∀ W, IntsAt W ao n cap xs → Calls Tryz.prog 45 #[.slice ao n cap, .string ⟨#[43]⟩, .string ⟨#[48]⟩] W _ at c3
  have l1 := dd_length h (by omega)
  have l2 := dd_length l (by omega)
  have l3 := textL_length hG
  have hres : bankL ⟨h, l, xs⟩ = dd h ++ [58] ++ dd l ++ [58] ++ textL xs := rfl
  rw [hres]
  clear hres
  have l4 : (dd h ++ [58] ++ dd l).length ≤ 5 := by simp; omega
  generalize dd h ++ [58] ++ dd l = D at *
  generalize textL xs = T at *
  have n1 : ¬ (9223372036854775807 < D.length + 1) := by omega
  have n2 : ¬ (9223372036854775807 < D.length + 1 + T.length) := by omega
  have hbA := belowAlloc w (.cells #[.int .i64 h, .int .i64 l, .slice ao n cap] 84)
  have bA := Blk.new w h l ao n cap 84
  have hA2 := hA.keep hbA
  obtain ⟨W, hW⟩ : ∃ W, W = w.alloc (.cells #[.int .i64 h, .int .i64 l, .slice ao n cap] 84) := ⟨_, rfl⟩
  rw [← hW] at hbA bA hA2
  have hbB := belowAlloc W (.cells #[.int .i64 h, .int .i64 l] 3)
  have ho : Own W.heap.size (W.alloc (.cells #[.int .i64 h, .int .i64 l] 3)).heap.size (W.alloc (.cells #[.int .i64 h, .int .i64 l] 3)) (some ⟨W.heap.size, 0, none⟩) 2 2 [h, l] :=
    Own.of (World.ownsRow_lit W #[.int .i64 h, .int .i64 l] 2 (Nat.le_refl _) (by unfold maxLen; omega) rfl)
  have hin := ho.at.drew'
  clear ho
  have e1 := (c1 _ _ _ hin).mono (R' := fun e w1 => e = .returned (.string ⟨D.toArray⟩) ∧ Below w.heap.size w w1 ∧ Blk w1 w.heap.size h l ao n cap 84 ∧ IntsAt w1 ao n cap xs)
    (fun e w1 ⟨a, b⟩ => ⟨a, belowTrans (belowTrans hbA hbB (Nat.le_refl _)).drew b (Nat.le_refl _), (bA.keep hbB).drew.keep b, (hA2.keep hbB).drew'.keep b⟩)
  have e3 := fun W' (q1 : Below w.heap.size w W') (q3 : IntsAt W' ao n cap xs) => (c3 W' q3).mono (R' := fun e w1 => e = .returned (.string ⟨T.toArray⟩) ∧ Below w.heap.size w w1)
    (fun e w1 ⟨a, b⟩ => ⟨a, belowTrans q1 b (Nat.le_refl _)⟩)
  obtain ⟨⟨x0, x1, x2⟩, y0, y1, y2⟩ := bA.cells
  obtain ⟨⟨u0, u1, u2⟩, v0, v1, v2⟩ := (bA.keep hbB).drew.cells
  clear c1 c3 hbA bA hA2 hA hh hl hG l1 l2 l3 l4 hin hbB hlen hnl
  have E1 := Lib.hid e1; clear e1
  have E3 := Lib.hid e3; clear e3
  have HW := Lib.hid hW; clear hW
  go_enter Tryz.func211, Tryz.ntmps211
  go_wp2_with fail
  rw [← HW.out]
  go_region_law (first | (go_simp; with_reducible refine (E1.out).mono ?_; rintro e w1 ⟨rfl, hb1, k1, hA1⟩; obtain ⟨⟨p0, p1, p2⟩, q0, q1, q2⟩ := k1.cells; have Hb1 := Lib.hid hb1; have HA1 := Lib.hid hA1; clear hb1 k1 hA1) | (go_simp; with_reducible refine (E3.out w1 Hb1.out HA1.out).mono ?_; rintro e w3 ⟨rfl, hb3⟩; have Hb3 := Lib.hid hb3; clear hb3))
  all_goals
    go_wp2
    go_ret
    exact ⟨congrArg (fun s => Ending.returned (.string s)) (bankL_glue2 D T), Hb3.out⟩

theorem impl_BankText (h l : Int) (ao : Option Addr) (n cap : Nat) (xs : List Int) (w : World) (hA : IntsAt w ao n cap xs) :
    Calls Tryz.prog 173 #[.agg #[.int .i64 h, .int .i64 l, .slice ao n cap]] w fun e w' => e = .returned (.tuple #[.string ⟨(mBankText ⟨h, l, xs⟩).1.toArray⟩, .bool (mBankText ⟨h, l, xs⟩).2]) ∧ Below w.heap.size w w' := by
  have hbA := belowAlloc w (.cells #[.int .i64 h, .int .i64 l, .slice ao n cap] 84)
  have bA := Blk.new w h l ao n cap 84
  have hA2 := hA.keep hbA
  have hcon := (isBank_any h l ao n cap xs _ hA2).mono (R' := fun e w1 => e = .returned (.bool (bankB ⟨h, l, xs⟩)) ∧ Below w.heap.size w w1 ∧ Blk w1 w.heap.size h l ao n cap 84 ∧ IntsAt w1 ao n cap xs)
    (fun e w1 ⟨a, b⟩ => ⟨a, belowTrans hbA b (Nat.le_refl _), bA.keep b, hA2.keep b⟩)
  unfold bankV at hcon
  cases hg : bankB ⟨h, l, xs⟩
  · have hm := mBText_no hg
    rw [hg] at hcon
    clear hbA bA hA2
    have Hcon := Lib.hid hcon; clear hcon
    have Hm := Lib.hid hm; clear hm
    have Hg := Lib.hid hg; clear hg
    go_enter Tryz.func173, Tryz.ntmps173
    go_wp2_with fail
    with_reducible refine (Hcon.out).mono ?_
    rintro e w1 ⟨rfl, hb1, -, -⟩
    have Hb1 := Lib.hid hb1; clear hb1
    go_wp2
    go_ret2
    rw [Hm.out]
    exact ⟨rfl, Hb1.out⟩
  · have hm := mBText_yes hg
    rw [hg] at hcon
    have ht := fun W (q : IntsAt W ao n cap xs) => textOfBank_any h l ao n cap xs W q (bank_iff.1 hg)
    clear hbA bA hA2
    have Hcon := Lib.hid hcon; clear hcon
    have Hm := Lib.hid hm; clear hm
    have Hg := Lib.hid hg; clear hg
    have Ht := Lib.hid ht; clear ht
    go_enter Tryz.func173, Tryz.ntmps173
    go_wp2_with fail
    with_reducible refine (Hcon.out).mono ?_
    rintro e w1 ⟨rfl, hb1, k1, hA1⟩
    obtain ⟨⟨x0, x1, x2⟩, y0, y1, y2⟩ := k1.cells
    clear k1
    have Hb1 := Lib.hid hb1; clear hb1
    have HA1 := Lib.hid hA1; clear hA1
    go_wp2_with fail
    with_reducible refine (Ht.out _ HA1.out).mono ?_
    rintro e w2 ⟨rfl, hb2⟩
    have hb3 := belowTrans Hb1.out hb2 (Nat.le_refl _)
    clear hb2
    have Hb3 := Lib.hid hb3; clear hb3
    go_wp2
    go_ret2
    rw [Hm.out]
    exact ⟨rfl, Hb3.out⟩
end
end Go.Proofs.YtimmjimeldejjaaGreatDoor
namespace Go.Proofs.YtimmjimeldejjaaGreatDoor
section
open Go.RowKit
set_option linter.unusedVariables false
set_option linter.unusedSimpArgs false

theorem read_ddI {x : Int} (h0 : 0 ≤ x) (h1 : x ≤ 28) : readL (dd x) = x := by
  unfold dd
  rw [read_dd _ (by omega)]
  omega
theorem atoi_ddI {x : Int} (h0 : 0 ≤ x) (h1 : x ≤ 28) : Lib.atoiAll (dd x) = .ok x := by
  unfold dd
  rw [atoi_dd _ (by omega)]
  congr 1
  omega
end
end Go.Proofs.YtimmjimeldejjaaGreatDoor
namespace Go.Proofs.YtimmjimeldejjaaGreatDoor
section
open Go.RowKit
set_option linter.unusedVariables false
set_option linter.unusedSimpArgs false

theorem dd_no58 {x : Int} (h : x ≤ 28) : (58 : UInt8) ∉ dd x := by
  have key : ∀ d, d < 10 → (58 : UInt8) ≠ UInt8.ofNat (48 + d) := by decide +kernel
  unfold dd
  by_cases h1 : x.toNat < 10
  · rw [Lib.decDigits_one h1]; simpa using key _ h1
  · rw [Lib.decDigits_two h1 (by omega)]
    simp only [List.mem_cons, List.mem_nil_iff, or_false, not_or]
    exact ⟨key _ (by omega), key _ (by omega)⟩
theorem join_no58 (ws : List (List UInt8)) (h : ∀ w ∈ ws, (58 : UInt8) ∉ w) : (58 : UInt8) ∉ Lib.join ws [43] := by
  have ht : ∀ l : List (List UInt8), (∀ x ∈ l, (58 : UInt8) ∉ x) → (58 : UInt8) ∉ Lib.joinTail [43] l := by
    intro l
    induction l with
    | nil => intro _; simp [Lib.joinTail]
    | cons y l ih =>
      intro hh
      have h1 := hh y (by simp)
      have h2 := ih (fun x hx => hh x (by simp [hx]))
      have e : Lib.joinTail [43] (y :: l) = [43] ++ y ++ Lib.joinTail [43] l := by simp [Lib.joinTail]
      rw [e]
      simp only [List.mem_append, not_or]
      exact ⟨⟨by decide, h1⟩, h2⟩
  cases ws with
  | nil => simp [Lib.join_nil]
  | cons w ws =>
    rw [Lib.join_cons]
    have h1 := h w (by simp)
    have h2 := ht ws (fun x hx => h x (by simp [hx]))
    simp [h1, h2]
theorem textL_no58 {p : List Int} (h : Good p) : (58 : UInt8) ∉ textL p := by
  unfold textL
  by_cases hp : p = []
  · rw [if_pos hp]; simp
  · rw [if_neg hp]
    unfold joinL
    refine join_no58 _ fun w hw => ?_
    obtain ⟨x, hx, rfl⟩ := List.mem_map.1 hw
    exact dd_no58 (h.mem hx).2
theorem splitL_last (b : UInt8) (pre post : List UInt8) (h : b ∉ post) : splitL b (pre ++ b :: post) = splitL b pre ++ [post] := by
  induction pre with
  | nil => rw [List.nil_append]; simp only [splitL, if_pos rfl, splitL_none b post h]; rfl
  | cons c pre ih =>
    rw [List.cons_append]
    by_cases hc : c = b
    · simp only [splitL, if_pos hc, ih]; rfl
    · simp only [splitL, if_neg hc, ih]
      cases hs : splitL b pre with
      | nil => exact absurd hs (splitL_ne b pre)
      | cons x t => rfl
theorem bank_split {b : Bk} (h : BankOk b) : splitL 58 (bankL b) = [dd b.h, dd b.l, textL b.p] := by
  obtain ⟨hh, hl, hG, -, -⟩ := h
  unfold bankL
  rw [List.append_assoc, List.append_assoc, List.append_assoc, List.singleton_append, splitL_app 58 _ _ (dd_no58 (by omega)), List.singleton_append, splitL_app 58 _ _ (dd_no58 (by omega)), splitL_none 58 _ (textL_no58 hG)]

end
end Go.Proofs.YtimmjimeldejjaaGreatDoor
namespace Go.Proofs.YtimmjimeldejjaaGreatDoor
section
open Go.RowKit
set_option linter.unusedVariables false
set_option linter.unusedSimpArgs false
set_option maxRecDepth 20000

/-- r is the last place of b in l, or -1 if there is none -/
def LastIs (b : UInt8) (l : List UInt8) (r : Int) : Prop := (r = -1 ∧ b ∉ l) ∨ ∃ k : Nat, k < l.length ∧ r = k ∧ l[k]? = some b ∧ b ∉ l.drop (k + 1)
theorem drop_cons' {l : List UInt8} {k : Nat} {c : UInt8} (h : l[k]? = some c) : l.drop k = c :: l.drop (k + 1) := by
  obtain ⟨hk, rfl⟩ := List.getElem?_eq_some_iff.1 h
  exact List.drop_eq_getElem_cons hk

set_option maxHeartbeats 1600000 in
set_option maxRecDepth 100000 in
theorem lastIndexByte_any (s : ByteArray) (b : UInt8) (w : World) (hs : s.size ≤ 1048576) :
    Calls Tryz.prog 206 #[.string s, .int .u8 (b.toNat : Int)] w fun e w' => (∃ r : Int, e = .returned (.int .i64 r) ∧ LastIs b s.data.toList r) ∧ w = w' := by
  have hsz : s.data.toList.length = s.size := rfl
  go_enter Tryz.func206, Tryz.ntmps206
  go_wp2
  go_loop [5] (fun i => ∃ k : Nat, k ≤ s.size ∧ i = .int .i64 ((k : Int) - 1) ∧ b ∉ s.data.toList.drop k) (fun i => (intOf i + 1).toNat)
  case atStart => exact ⟨s.size, Nat.le_refl _, rfl, by rw [List.drop_of_length_le (by omega)]; simp⟩
  case round =>
    obtain ⟨k, hk, rfl, hno⟩ := hrel
    have Hno := Lib.hid hno; clear hno
    cases k with
    | zero =>
      go_wp2
      go_ret
      exact ⟨⟨-1, rfl, .inl ⟨rfl, by simpa using Hno.out⟩⟩, rfl⟩
    | succ k =>
      have hlt : k < s.size := by omega
      have hget := data_get s k hlt
      have hdc := drop_cons' hget
      rw [show (((k + 1 : Nat) : Int) - 1) = (k : Int) by omega]
      by_cases hbk : s[k] = b
      · have heq : ((s[k].toNat : Int) == (b.toNat : Int)) = true := by rw [hbk]; simp
        have Hget := Lib.hid hget; clear hget
        have Hbk := Lib.hid hbk; clear hbk
        have Hdc := Lib.hid hdc; clear hdc
        go_wp2
        go_ret
        exact ⟨⟨k, rfl, .inr ⟨k, by omega, rfl, by rw [Hget.out, Hbk.out], Hno.out⟩⟩, rfl⟩
      · have heq : ((s[k].toNat : Int) == (b.toNat : Int)) = false := by
          have : ¬ s[k].toNat = b.toNat := fun e => hbk (UInt8.toNat_inj.1 e)
          simp; omega
        have hno2 : b ∉ s.data.toList.drop k := by
          rw [hdc]
          intro hm
          rcases List.mem_cons.1 hm with h' | h'
          · exact hbk h'.symm
          · exact Hno.out h'
        have Hget := Lib.hid hget; clear hget
        have Hbk := Lib.hid hbk; clear hbk
        have Hdc := Lib.hid hdc; clear hdc
        have Hno2 := Lib.hid hno2; clear hno2
        go_wp2
        go_round
        case rel => exact ⟨k, by omega, rfl, Hno2.out⟩
        case measure => simp [intOf] <;> omega

theorem lastIndex_any (s : ByteArray) (w : World) (hs : s.size ≤ 1048576) :
    Calls Tryz.prog 170 #[.string s, .string ⟨#[58]⟩] w fun e w' => (∃ r : Int, e = .returned (.int .i64 r) ∧ LastIs 58 s.data.toList r) ∧ w = w' := by
  have hcon := lastIndexByte_any s 58 w hs
  generalize LastIs 58 s.data.toList = R at hcon
  have Hcon := Lib.hid hcon; clear hcon
  go_enter Tryz.func170, Tryz.ntmps170
  go_wp2_with fail
  refine (Hcon.out).mono ?_
  rintro e w' ⟨⟨r, rfl, hr⟩, rfl⟩
  have Hr := Lib.hid hr; clear hr
  go_wp2
  go_ret
  exact ⟨⟨r, rfl, Hr.out⟩, rfl⟩
end
end Go.Proofs.YtimmjimeldejjaaGreatDoor
namespace Go.Proofs.YtimmjimeldejjaaGreatDoor
section
open Go.RowKit
set_option linter.unusedVariables false
set_option linter.unusedSimpArgs false

theorem mPP_cases (s : ByteArray) : (mParsePiles s).2 = true → textL (mParsePiles s).1 = s.data.toList ∧ goodB (mParsePiles s).1 = true := by
  intro h
  by_cases hz : s.data.toList = [48]
  · rw [mParse_zero hz, hz]; exact ⟨rfl, good_iff.2 good_nil⟩
  · cases hg : goodB (outL s.data.toList)
    · rw [mParse_no hz hg] at h; cases h
    · rw [mParse_yes hz hg]; exact ⟨outL_text hg, hg⟩
theorem mPP_of {p : List Int} (h : Good p) {s : ByteArray} (hs : s.data.toList = textL p) : mParsePiles s = (p, true) := by
  by_cases hp : p = []
  · subst hp
    exact mParse_zero hs
  · have hm := fun x hx => h.mem (x := x) hx
    have hsp : splitL 43 (textL p) = p.map dd := by unfold textL; rw [if_neg hp]; exact split_join hp hm
    have hv : ∀ i, i < p.length → Lib.atoiAll ((splitL 43 (textL p)).getD i []) = .ok (p.getD i 0) := by
      intro i hi
      rw [hsp, List.getD_eq_getElem?_getD, List.getD_eq_getElem?_getD, List.getElem?_map, List.getElem?_eq_getElem hi]
      have := hm _ (List.getElem_mem hi)
      exact atoi_ddI (by omega) this.2
    obtain ⟨h1, h2⟩ := (vals_out (l := textL p) (vals := p) (by rw [hsp, List.length_map]) hv).1 ⟨good_iff.2 h, rfl⟩
    have hz : s.data.toList ≠ [48] := by
      rw [hs]
      intro e
      rw [e] at hsp
      have h48 : splitL 43 [48] = [[48]] := by decide
      rw [h48] at hsp
      have hl1 : p.length = 1 := by have := congrArg List.length hsp; simpa using this.symm
      obtain ⟨x, rfl⟩ := List.length_eq_one_iff.1 hl1
      simp at hsp
      have hx := hm x (by simp)
      have := read_ddI (x := x) (by omega) hx.2
      rw [← hsp] at this
      have h0 : readL [48] = 0 := by decide +kernel
      omega
    rw [← hs] at h1 h2
    rw [mParse_yes hz h1, ← h2]
end
end Go.Proofs.YtimmjimeldejjaaGreatDoor
namespace Go.Proofs.YtimmjimeldejjaaGreatDoor
section
open Go.RowKit
set_option linter.unusedVariables false
set_option linter.unusedSimpArgs false

def bkO (l : List UInt8) : Bk := ⟨readL ((splitL 58 l).getD 0 []), readL ((splitL 58 l).getD 1 []), (mParsePiles ⟨((splitL 58 l).getD 2 []).toArray⟩).1⟩
def mParseBank (s : ByteArray) : Bk × Bool :=
  if (splitL 58 s.data.toList).length = 3 ∧ (mParsePiles ⟨((splitL 58 s.data.toList).getD 2 []).toArray⟩).2 = true ∧ bankB (bkO s.data.toList) = true ∧ bankL (bkO s.data.toList) = s.data.toList then (bkO s.data.toList, true) else (⟨0, 0, []⟩, false)
theorem mPB_yes {s : ByteArray} {b : Bk} (h : BankOk b) (e : bankL b = s.data.toList) : mParseBank s = (b, true) := by
  have hs := bank_split h
  rw [e] at hs
  have hp : mParsePiles ⟨(textL b.p).toArray⟩ = (b.p, true) := mPP_of h.2.2.1 (by simp)
  obtain ⟨hh, hl, hG, -, -⟩ := id h
  have hb : bkO s.data.toList = b := by
    unfold bkO
    rw [hs]
    show Bk.mk (readL (dd b.h)) (readL (dd b.l)) (mParsePiles ⟨(textL b.p).toArray⟩).1 = b
    rw [hp, read_ddI (by omega) (by omega), read_ddI (by omega) (by omega)]
  unfold mParseBank
  rw [hb, if_pos ⟨by rw [hs]; rfl, by rw [hs]; show (mParsePiles ⟨(textL b.p).toArray⟩).2 = true; rw [hp], bankYes h, e⟩]
theorem mPB_no {s : ByteArray} (h : ∀ b, BankOk b → bankL b ≠ s.data.toList) : mParseBank s = (⟨0, 0, []⟩, false) := by
  unfold mParseBank
  rw [if_neg]
  rintro ⟨-, -, h1, h2⟩
  exact h _ (bank_iff.1 h1) h2
/-! ### What the program finds -/
theorem last_split {b : UInt8} {l : List UInt8} {k : Nat} (h : l[k]? = some b) : l = l.take k ++ b :: l.drop (k + 1) := by
  rw [← drop_cons' h, List.take_append_drop]
theorem bank_has {b : Bk} : (58 : UInt8) ∈ bankL b := by unfold bankL; simp
theorem bank_of_split {bk : Bk} (h : BankOk bk) {pre post : List UInt8} (e : bankL bk = pre ++ 58 :: post) (hno : (58 : UInt8) ∉ post) {vals : List Int} {b : Bool} (hsp : SplitIs 58 [] pre vals b) :
    vals = [bk.h, bk.l] ∧ b = true ∧ post = textL bk.p := by
  have hs := bank_split h
  rw [e, splitL_last 58 pre post hno] at hs
  have hlen : (splitL 58 pre).length = 2 := by have := congrArg List.length hs; simpa using this
  obtain ⟨hh, hl, hG, -, -⟩ := h
  match hw : splitL 58 pre, hlen with
  | [W0, W1], _ =>
    rw [hw] at hs
    simp at hs
    obtain ⟨rfl, rfl, hpost⟩ := hs
    have hpre : dd bk.h ++ [58] ++ dd bk.l = pre := by
      have := join_split 58 pre
      rw [hw] at this
      rw [← this]
      simp [Lib.join, Lib.joinTail]
    have a0 := atoi_ddI (x := bk.h) (by omega) (by omega)
    have a1 := atoi_ddI (x := bk.l) (by omega) (by omega)
    rcases hsp with ⟨hnl, -, -⟩ | ⟨-, ⟨-, -, k, hk, hbad⟩ | ⟨hvl, hv, hb⟩⟩
    · rw [hnl] at hw
      simp [splitL] at hw
    · rw [hw] at hk hbad
      match k, hk with
      | 0, _ => exact absurd a0 (hbad _)
      | 1, _ => exact absurd a1 (hbad _)
    · rw [hw] at hvl hv
      match vals, hvl with
      | [v0, v1], _ =>
        have e0 := hv 0 (by simp)
        have e1 := hv 1 (by simp)
        change Lib.atoiAll (dd bk.h) = .ok v0 at e0
        change Lib.atoiAll (dd bk.l) = .ok v1 at e1
        rw [a0] at e0
        rw [a1] at e1
        injection e0 with e0
        injection e1 with e1
        subst e0 e1
        refine ⟨rfl, ?_, hpost⟩
        rw [hb, jn_two (by omega) (by omega), hpre]
        simp
/-- what the program does with a text that has the byte: every way it can end -/
theorem bank_ways {s : ByteArray} {pre post : List UInt8} (e : s.data.toList = pre ++ 58 :: post) (hno : (58 : UInt8) ∉ post) {vals : List Int} {b : Bool} (hsp : SplitIs 58 [] pre vals b) :
    (b = false → mParseBank s = (⟨0, 0, []⟩, false)) ∧ (vals.length ≠ 2 → mParseBank s = (⟨0, 0, []⟩, false)) ∧
    ∀ v0 v1, vals = [v0, v1] → b = true →
      ((mParsePiles ⟨post.toArray⟩).2 = false → mParseBank s = (⟨0, 0, []⟩, false)) ∧
      ((mParsePiles ⟨post.toArray⟩).2 = true → bankB ⟨v0, v1, (mParsePiles ⟨post.toArray⟩).1⟩ = false → mParseBank s = (⟨0, 0, []⟩, false)) ∧
      ((mParsePiles ⟨post.toArray⟩).2 = true → bankB ⟨v0, v1, (mParsePiles ⟨post.toArray⟩).1⟩ = true → mParseBank s = (⟨v0, v1, (mParsePiles ⟨post.toArray⟩).1⟩, true)) := by
  have key := fun bk (h : BankOk bk) (he : bankL bk = s.data.toList) => bank_of_split h (he.trans e) hno hsp
  refine ⟨fun hb => mPB_no fun bk h he => ?_, fun hl => mPB_no fun bk h he => ?_, fun v0 v1 hv hb => ⟨fun hp => mPB_no fun bk h he => ?_, fun hp hk => mPB_no fun bk h he => ?_, fun hp hk => ?_⟩⟩
  · have := (key bk h he).2.1
    rw [hb] at this; cases this
  · rw [(key bk h he).1] at hl; exact hl rfl
  · have := mPP_of h.2.2.1 (s := ⟨post.toArray⟩) (by simpa using (key bk h he).2.2)
    rw [this] at hp; cases hp
  · have h1 := mPP_of h.2.2.1 (s := ⟨post.toArray⟩) (by simpa using (key bk h he).2.2)
    have h2 := (key bk h he).1
    rw [hv] at h2
    injection h2 with h2 h3
    injection h3 with h3 _
    subst h2 h3
    rw [h1] at hk
    rw [bankYes h] at hk
    cases hk
  · refine mPB_yes (bank_iff.1 hk) ?_
    subst hv hb
    have hk' := bank_iff.1 hk
    obtain ⟨hh, hl, -, -, -⟩ := hk'
    simp only at hh hl
    rcases hsp with ⟨-, h1, -⟩ | ⟨-, ⟨h1, -, -⟩ | ⟨-, -, h1⟩⟩
    · cases h1
    · cases h1
    · have h2 := of_decide_eq_true h1.symm
      rw [jn_two (by omega) (by omega)] at h2
      have h3 := (mPP_cases _ hp).1
      rw [e, ← h2]
      show dd v0 ++ [58] ++ dd v1 ++ [58] ++ textL (mParsePiles ⟨post.toArray⟩).1 = _
      rw [h3]
      simp
end
end Go.Proofs.YtimmjimeldejjaaGreatDoor
