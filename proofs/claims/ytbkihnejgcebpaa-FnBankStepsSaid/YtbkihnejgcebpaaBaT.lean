/- Chapter 7: a step of a bank state. No condition. -/
import Derived.Test.YtbkihnejgcebpaaBaS
import Derived.Test.YtbkihnejgcebpaaBaA
import Derived.Test.YtbkihnejgcebpaaGa
namespace Go.Proofs.Ytbkihnejgcebpaa
open Go.RowKit
set_option linter.unusedVariables false
set_option linter.unusedSimpArgs false
set_option maxRecDepth 20000

theorem step_nat (H L0 n : Nat) (xs : List Int) (hn : xs.length = n) : stepB ⟨(H : Int), (L0 : Int), xs⟩ = ⟨(H : Int), (((L0 + n) % H : Nat) : Int), List.replicate ((L0 + n) / H) (H : Int) ++ lowL xs⟩ ∧ madeB ⟨(H : Int), (L0 : Int), xs⟩ = (((L0 + n) / H : Nat) : Int) := by
  subst hn
  refine ⟨?_, ?_⟩
  · unfold stepB
    simp only
    rw [← Int.natCast_add, fill_nat]
  · unfold madeB
    simp only
    rw [← Int.natCast_add, ← Int.natCast_ediv]

set_option maxHeartbeats 1600000 in
theorem baStep_any (h l : Int) (ao : Option Addr) (n cap : Nat) (xs : List Int) (w : World) (hA : IntsAt w ao n cap xs) (hk : BankOk ⟨h, l, xs⟩) :
    Calls Try.prog 42 #[.agg #[.int .i64 h, .int .i64 l, .slice ao n cap]] w fun e w' => ∃ a m c, e = .returned (.tuple #[.agg #[.int .i64 (stepB ⟨h, l, xs⟩).h, .int .i64 (stepB ⟨h, l, xs⟩).l, .slice a m c], .int .i64 (madeB ⟨h, l, xs⟩)]) ∧ Own w.heap.size w'.heap.size w' a m c (stepB ⟨h, l, xs⟩).p ∧ Below w.heap.size w w' := by
  have hl0 := hA.length
  have h1 : 1 ≤ h ∧ h ≤ 10 := hk.1
  have h2 : 0 ≤ l ∧ l ≤ h - 1 := hk.2.1
  have hsum : 0 ≤ xs.sum ∧ xs.sum ≤ 28 ∧ (xs.length : Int) ≤ xs.sum := hk.sum
  have h5 : l + xs.sum ≤ 28 := hk.2.2.2.2
  have hle := fun k (hkn : k < n) => hk.le (x := xs.getD k 0) (by rw [List.getD_eq_getElem?_getD, List.getElem?_eq_getElem (by omega)]; exact List.getElem_mem _)
  obtain ⟨H, rfl⟩ := Int.eq_ofNat_of_zero_le (show 0 ≤ h by omega)
  obtain ⟨L0, rfl⟩ := Int.eq_ofNat_of_zero_le h2.1
  have hC : L0 + n ≤ 28 := by omega
  have hn28 : n ≤ 28 := by omega
  obtain ⟨e1, e2⟩ := step_nat H L0 n xs hl0
  rw [e1, e2]
  clear e1 e2
  generalize hq : (L0 + n) / H = q
  generalize hr : (L0 + n) % H = r
  have hb1 := belowAlloc w (.cells #[.int .i64 (H : Int), .int .i64 (L0 : Int), .slice ao n cap] 33)
  have hbn := belowAlloc (w.alloc (.cells #[.int .i64 (H : Int), .int .i64 (L0 : Int), .slice ao n cap] 33)) (.cells #[.int .i64 0, .int .i64 0, .slice none 0 0] 33)
  have hb2 := belowTrans hb1 hbn (Nat.le_refl _)
  have k1 := (Blk.new w (H : Int) (L0 : Int) ao n cap 33).keep hbn
  have m1 := Blk.new (w.alloc (.cells #[.int .i64 (H : Int), .int .i64 (L0 : Int), .slice ao n cap] 33)) 0 0 none 0 0 33
  rw [show (w.alloc (.cells #[.int .i64 (H : Int), .int .i64 (L0 : Int), .slice ao n cap] 33)).heap.size = w.heap.size + 1 by simp] at m1
  have hs2 : ((w.alloc (.cells #[.int .i64 (H : Int), .int .i64 (L0 : Int), .slice ao n cap] 33)).alloc (.cells #[.int .i64 0, .int .i64 0, .slice none 0 0] 33)).heap.size = w.heap.size + 2 := by simp
  clear hb1 hbn hk hsum h5
  have hA0 := hA
  clear hA
  have Hb2 := Lib.hid hb2; clear hb2
  have K1 := Lib.hid k1; clear k1
  have M1 := Lib.hid m1; clear m1
  have HA0 := Lib.hid hA0; clear hA0
  have Hs2 := Lib.hid hs2; clear hs2
  have Hl0 := Lib.hid hl0; clear hl0
  have Hle := Lib.hid hle; clear hle
  have Hq := Lib.hid hq; clear hq
  have Hr := Lib.hid hr; clear hr
  go_enter Try.func42, Try.ntmps42
  go_wp2_with fail
  go_loopw [4, 10] (fun v x wr => ∃ (k : Nat) (a : Option Addr) (m c : Nat), k ≤ n ∧ x = .int .i64 k ∧ v = .slice a m c ∧ Hid (Blk wr w.heap.size (H : Int) (L0 : Int) ao n cap 33) ∧ Hid (Blk wr (w.heap.size + 1) 0 0 none 0 0 33) ∧ Own (w.heap.size + 2) wr.heap.size wr a m c (lowL (xs.take k)) ∧ Hid (Below w.heap.size w wr) ∧ w.heap.size + 2 ≤ wr.heap.size) (fun _ x _ => n - (intOf x).toNat)
  case atStart => exact ⟨0, none, 0, 0, Nat.zero_le _, rfl, rfl, K1, M1, Own.nil _ _ _, Hb2, by rw [Hs2.out]; exact Nat.le_refl _⟩
  case round =>
    obtain ⟨k, a, m, c, hkn, rfl, rfl, Kr, Mr, hor, Hbr, hsr⟩ := hrel
    clear K1 M1 Hb2 Hs2
    have hm := hor.length
    have hml := lowL_length (xs.take k)
    have htl : (xs.take k).length ≤ 28 := by rw [List.length_take]; omega
    rw [hm] at hml
    have hge : ∀ g, (Value.slice a m c).ownBlock = some g → w.heap.size + 2 ≤ g := fun g hg => (hor.1.lt g hg).1
    have Hm := Lib.hid hm; clear hm
    have Hge := Lib.hid hge; clear hge
    obtain ⟨⟨u0, u1, u2⟩, v0, v1, v2⟩ := Kr.out.cells
    by_cases hlt : k < n
    · obtain ⟨b, o, rfl, hbl, hc⟩ := (HA0.out.keep Hbr.out).cell k hlt
      have hck := hc k hlt
      clear hc hbl
      obtain ⟨q1, q2⟩ := Hle.out k hlt
      generalize hx : xs.getD k 0 = x at hck q1 q2
      have e := lowL_snoc (xs.take k) x
      rw [← take_snoc hx hlt Hl0.out] at e
      have Hx := Lib.hid hx; clear hx
      by_cases hx1 : 1 < x
      · rw [if_pos hx1] at e
        have E := Lib.hid e; clear e
        go_wp2_with (at_builtin; refine wpList_push wr rfl _ _ rfl (w.heap.size + 2) _ a m c _ rfl hor _ rfl (by omega) hsr ?_)
        intro a4 c4 w4 ho4 hch
        have hns : ∀ g, g < w.heap.size + 2 → ¬ (Value.slice a m c).ownBlock = some g := fun g hg e => by have := Hge.out g e; omega
        have K4 := Lib.hid (Kr.out.chg hch (hns _ (by omega)))
        have M4 := Lib.hid (Mr.out.chg hch (hns _ (by omega)))
        have hb4 : Below (w.heap.size + 2) wr w4 := hor.chgBelow hch hsr
        have Hb5 := Lib.hid (Hbr.out.trans (hb4.mono (by omega)))
        have hs4 : w.heap.size + 2 ≤ w4.heap.size := Nat.le_trans hsr hb4.size
        clear u0 u1 u2 v0 v1 v2 hor hch hb4 Kr Mr Hbr hns
        go_wp2
        go_roundw
        case rel => exact ⟨k + 1, a4, _, c4, by omega, by go_num, rfl, K4, M4, by rw [E.out]; exact ho4, Hb5, hs4⟩
        case measure => simp [intOf]; omega
      · rw [if_neg hx1, List.append_nil] at e
        have E := Lib.hid e; clear e
        go_wp2
        go_roundw
        case rel => exact ⟨k + 1, a, m, c, by omega, by go_num, rfl, Kr, Mr, by rw [E.out]; exact hor, Hbr, hsr⟩
        case measure => simp [intOf]; omega
    · obtain rfl : k = n := by omega
      have etk : xs.take k = xs := List.take_of_length_le (by have := Hl0.out; omega)
      rw [etk] at hor
      clear etk
      have hcon := baFill_any H (L0 + k) a m c (lowL xs) wr hor.at (by omega) hC (by omega)
      have ecast : ((L0 + k : Nat) : Int) = (L0 : Int) + (k : Int) := by omega
      rw [ecast] at hcon
      have hsz1 : w.heap.size < wr.heap.size := by omega
      have hcon' := hcon.mono (R' := fun e w1 => ∃ a m c, e = .returned (.tuple #[.agg #[.int .i64 (H : Int), .int .i64 (((L0 + k) % H : Nat) : Int), .slice a m c], .int .i64 (((L0 + k) / H : Nat) : Int)]) ∧ Own (w.heap.size + 2) w1.heap.size w1 a m c (List.replicate ((L0 + k) / H) (H : Int) ++ lowL xs) ∧ Below w.heap.size w w1 ∧ Blk w1 (w.heap.size + 1) 0 0 none 0 0 33)
        (fun e w1 ⟨a, m, c, e1, e2, e3⟩ => ⟨a, m, c, e1, e2.mono hsr (Nat.le_refl _), belowTrans Hbr.out e3 (by omega), Mr.out.keep e3⟩)
      clear hcon hor Mr Hbr
      rw [Hq.out, Hr.out] at hcon'
      have Hcon' := Lib.hid hcon'; clear hcon'
      have Ecast := Lib.hid ecast; clear ecast
      go_wp2_with fail
      with_reducible refine (Hcon'.out).mono ?_
      rintro e w1 ⟨a1, m1, c1, rfl, ho, hb, kz⟩
      clear u0 u1 u2 v0 v1 v2
      obtain ⟨⟨u0, u1, u2⟩, v0, v1, v2⟩ := kz.cells
      have ho2 := (((ho.offCell (R := w.heap.size + 1) (by omega) 0 (.int .i64 (H : Int))).offCell (R := w.heap.size + 1) (by omega) 1 (.int .i64 (r : Int))).offCell (R := w.heap.size + 1) (by omega) 2 (.slice a1 m1 c1)).mono (show w.heap.size ≤ w.heap.size + 2 by omega) (Nat.le_refl _)
      have hb2 := ((hb.setCell (p := ⟨w.heap.size + 1, 0, none⟩) (by show w.heap.size ≤ w.heap.size + 1; omega) (.int .i64 (H : Int))).setCell (p := ⟨w.heap.size + 1, 1, none⟩) (by show w.heap.size ≤ w.heap.size + 1; omega) (.int .i64 (r : Int))).setCell (p := ⟨w.heap.size + 1, 2, none⟩) (by show w.heap.size ≤ w.heap.size + 1; omega) (.slice a1 m1 c1)
      clear ho hb kz
      have Ho2 := Lib.hid ho2; clear ho2
      have Hb2 := Lib.hid hb2; clear hb2
      go_wp2
      refine bodyPost_ret (v := .tuple #[.agg #[.int .i64 H, .int .i64 (r : Int), .slice a1 m1 c1], .int .i64 (q : Int)]) ?_ rfl ⟨a1, m1, c1, rfl, by have := Ho2.out; simpa using this, by have := Hb2.out; simpa using this⟩
      rw [results_cell_tmp rfl]
      simp [go_sem, asAddr, Result.andThen, loadVar, *]

set_option maxHeartbeats 1600000 in
theorem stepOfBank_any (h l : Int) (ao : Option Addr) (n cap : Nat) (xs : List Int) (w : World) (hA : IntsAt w ao n cap xs) (hk : BankOk ⟨h, l, xs⟩) :
    Calls Try.prog 74 #[.agg #[.int .i64 h, .int .i64 l, .slice ao n cap]] w fun e w' => ∃ a m c, e = .returned (.tuple #[.agg #[.int .i64 (stepB ⟨h, l, xs⟩).h, .int .i64 (stepB ⟨h, l, xs⟩).l, .slice a m c], .int .i64 (madeB ⟨h, l, xs⟩)]) ∧ Own w.heap.size w'.heap.size w' a m c (stepB ⟨h, l, xs⟩).p ∧ Below w.heap.size w w' := by
  have hl0 := hA.length
  have h1 : 1 ≤ h ∧ h ≤ 10 := hk.1
  have h2 : 0 ≤ l ∧ l ≤ h - 1 := hk.2.1
  have hsum : 0 ≤ xs.sum ∧ xs.sum ≤ 28 ∧ (xs.length : Int) ≤ xs.sum := hk.sum
  have h5 : l + xs.sum ≤ 28 := hk.2.2.2.2
  have hle := fun k (hkn : k < n) => hk.le (x := xs.getD k 0) (by rw [List.getD_eq_getElem?_getD, List.getElem?_eq_getElem (by omega)]; exact List.getElem_mem _)
  obtain ⟨H, rfl⟩ := Int.eq_ofNat_of_zero_le (show 0 ≤ h by omega)
  obtain ⟨L0, rfl⟩ := Int.eq_ofNat_of_zero_le h2.1
  have hC : L0 + n ≤ 28 := by omega
  have hn28 : n ≤ 28 := by omega
  obtain ⟨e1, e2⟩ := step_nat H L0 n xs hl0
  rw [e1, e2]
  clear e1 e2
  generalize hq : (L0 + n) / H = q
  generalize hr : (L0 + n) % H = r
  have hb1 := belowAlloc w (.cells #[.int .i64 (H : Int), .int .i64 (L0 : Int), .slice ao n cap] 33)
  have hbn := belowAlloc (w.alloc (.cells #[.int .i64 (H : Int), .int .i64 (L0 : Int), .slice ao n cap] 33)) (.cells #[.int .i64 0, .int .i64 0, .slice none 0 0] 33)
  have hb2 := belowTrans hb1 hbn (Nat.le_refl _)
  have k1 := (Blk.new w (H : Int) (L0 : Int) ao n cap 33).keep hbn
  have m1 := Blk.new (w.alloc (.cells #[.int .i64 (H : Int), .int .i64 (L0 : Int), .slice ao n cap] 33)) 0 0 none 0 0 33
  rw [show (w.alloc (.cells #[.int .i64 (H : Int), .int .i64 (L0 : Int), .slice ao n cap] 33)).heap.size = w.heap.size + 1 by simp] at m1
  have hs2 : ((w.alloc (.cells #[.int .i64 (H : Int), .int .i64 (L0 : Int), .slice ao n cap] 33)).alloc (.cells #[.int .i64 0, .int .i64 0, .slice none 0 0] 33)).heap.size = w.heap.size + 2 := by simp
  clear hb1 hbn hk hsum h5
  have hA0 := hA
  clear hA
  have Hb2 := Lib.hid hb2; clear hb2
  have K1 := Lib.hid k1; clear k1
  have M1 := Lib.hid m1; clear m1
  have HA0 := Lib.hid hA0; clear hA0
  have Hs2 := Lib.hid hs2; clear hs2
  have Hl0 := Lib.hid hl0; clear hl0
  have Hle := Lib.hid hle; clear hle
  have Hq := Lib.hid hq; clear hq
  have Hr := Lib.hid hr; clear hr
  go_enter Try.func74, Try.ntmps74
  go_wp2_with fail
  go_loopw [4, 10] (fun v x wr => ∃ (k : Nat) (a : Option Addr) (m c : Nat), k ≤ n ∧ x = .int .i64 k ∧ v = .slice a m c ∧ Hid (Blk wr w.heap.size (H : Int) (L0 : Int) ao n cap 33) ∧ Hid (Blk wr (w.heap.size + 1) 0 0 none 0 0 33) ∧ Own (w.heap.size + 2) wr.heap.size wr a m c (lowL (xs.take k)) ∧ Hid (Below w.heap.size w wr) ∧ w.heap.size + 2 ≤ wr.heap.size) (fun _ x _ => n - (intOf x).toNat)
  case atStart => exact ⟨0, none, 0, 0, Nat.zero_le _, rfl, rfl, K1, M1, Own.nil _ _ _, Hb2, by rw [Hs2.out]; exact Nat.le_refl _⟩
  case round =>
    obtain ⟨k, a, m, c, hkn, rfl, rfl, Kr, Mr, hor, Hbr, hsr⟩ := hrel
    clear K1 M1 Hb2 Hs2
    have hm := hor.length
    have hml := lowL_length (xs.take k)
    have htl : (xs.take k).length ≤ 28 := by rw [List.length_take]; omega
    rw [hm] at hml
    have hge : ∀ g, (Value.slice a m c).ownBlock = some g → w.heap.size + 2 ≤ g := fun g hg => (hor.1.lt g hg).1
    have Hm := Lib.hid hm; clear hm
    have Hge := Lib.hid hge; clear hge
    obtain ⟨⟨u0, u1, u2⟩, v0, v1, v2⟩ := Kr.out.cells
    by_cases hlt : k < n
    · obtain ⟨b, o, rfl, hbl, hc⟩ := (HA0.out.keep Hbr.out).cell k hlt
      have hck := hc k hlt
      clear hc hbl
      obtain ⟨q1, q2⟩ := Hle.out k hlt
      generalize hx : xs.getD k 0 = x at hck q1 q2
      have e := lowL_snoc (xs.take k) x
      rw [← take_snoc hx hlt Hl0.out] at e
      have Hx := Lib.hid hx; clear hx
      by_cases hx1 : 1 < x
      · rw [if_pos hx1] at e
        have E := Lib.hid e; clear e
        go_wp2_with (at_builtin; refine wpList_push wr rfl _ _ rfl (w.heap.size + 2) _ a m c _ rfl hor _ rfl (by omega) hsr ?_)
        intro a4 c4 w4 ho4 hch
        have hns : ∀ g, g < w.heap.size + 2 → ¬ (Value.slice a m c).ownBlock = some g := fun g hg e => by have := Hge.out g e; omega
        have K4 := Lib.hid (Kr.out.chg hch (hns _ (by omega)))
        have M4 := Lib.hid (Mr.out.chg hch (hns _ (by omega)))
        have hb4 : Below (w.heap.size + 2) wr w4 := hor.chgBelow hch hsr
        have Hb5 := Lib.hid (Hbr.out.trans (hb4.mono (by omega)))
        have hs4 : w.heap.size + 2 ≤ w4.heap.size := Nat.le_trans hsr hb4.size
        clear u0 u1 u2 v0 v1 v2 hor hch hb4 Kr Mr Hbr hns
        go_wp2
        go_roundw
        case rel => exact ⟨k + 1, a4, _, c4, by omega, by go_num, rfl, K4, M4, by rw [E.out]; exact ho4, Hb5, hs4⟩
        case measure => simp [intOf]; omega
      · rw [if_neg hx1, List.append_nil] at e
        have E := Lib.hid e; clear e
        go_wp2
        go_roundw
        case rel => exact ⟨k + 1, a, m, c, by omega, by go_num, rfl, Kr, Mr, by rw [E.out]; exact hor, Hbr, hsr⟩
        case measure => simp [intOf]; omega
    · obtain rfl : k = n := by omega
      have etk : xs.take k = xs := List.take_of_length_le (by have := Hl0.out; omega)
      rw [etk] at hor
      clear etk
      have hcon := makePiles_any H (L0 + k) a m c (lowL xs) wr hor.at (by omega) hC (by omega)
      have ecast : ((L0 + k : Nat) : Int) = (L0 : Int) + (k : Int) := by omega
      rw [ecast] at hcon
      have hsz1 : w.heap.size < wr.heap.size := by omega
      have hcon' := hcon.mono (R' := fun e w1 => ∃ a m c, e = .returned (.tuple #[.agg #[.int .i64 (H : Int), .int .i64 (((L0 + k) % H : Nat) : Int), .slice a m c], .int .i64 (((L0 + k) / H : Nat) : Int)]) ∧ Own (w.heap.size + 2) w1.heap.size w1 a m c (List.replicate ((L0 + k) / H) (H : Int) ++ lowL xs) ∧ Below w.heap.size w w1 ∧ Blk w1 (w.heap.size + 1) 0 0 none 0 0 33)
        (fun e w1 ⟨a, m, c, e1, e2, e3⟩ => ⟨a, m, c, e1, e2.mono hsr (Nat.le_refl _), belowTrans Hbr.out e3 (by omega), Mr.out.keep e3⟩)
      clear hcon hor Mr Hbr
      rw [Hq.out, Hr.out] at hcon'
      have Hcon' := Lib.hid hcon'; clear hcon'
      have Ecast := Lib.hid ecast; clear ecast
      go_wp2_with fail
      with_reducible refine (Hcon'.out).mono ?_
      rintro e w1 ⟨a1, m1, c1, rfl, ho, hb, kz⟩
      clear u0 u1 u2 v0 v1 v2
      obtain ⟨⟨u0, u1, u2⟩, v0, v1, v2⟩ := kz.cells
      have ho2 := (((ho.offCell (R := w.heap.size + 1) (by omega) 0 (.int .i64 (H : Int))).offCell (R := w.heap.size + 1) (by omega) 1 (.int .i64 (r : Int))).offCell (R := w.heap.size + 1) (by omega) 2 (.slice a1 m1 c1)).mono (show w.heap.size ≤ w.heap.size + 2 by omega) (Nat.le_refl _)
      have hb2 := ((hb.setCell (p := ⟨w.heap.size + 1, 0, none⟩) (by show w.heap.size ≤ w.heap.size + 1; omega) (.int .i64 (H : Int))).setCell (p := ⟨w.heap.size + 1, 1, none⟩) (by show w.heap.size ≤ w.heap.size + 1; omega) (.int .i64 (r : Int))).setCell (p := ⟨w.heap.size + 1, 2, none⟩) (by show w.heap.size ≤ w.heap.size + 1; omega) (.slice a1 m1 c1)
      clear ho hb kz
      have Ho2 := Lib.hid ho2; clear ho2
      have Hb2 := Lib.hid hb2; clear hb2
      go_wp2
      refine bodyPost_ret (v := .tuple #[.agg #[.int .i64 H, .int .i64 (r : Int), .slice a1 m1 c1], .int .i64 (q : Int)]) ?_ rfl ⟨a1, m1, c1, rfl, by have := Ho2.out; simpa using this, by have := Hb2.out; simpa using this⟩
      rw [results_cell_tmp rfl]
      simp [go_sem, asAddr, Result.andThen, loadVar, *]
end Go.Proofs.Ytbkihnejgcebpaa
