/- Chapter 7: how many piles are so many steps old. No condition. -/
import Derived.Test.YtbkihnejgcebpaaBaA
import Derived.Test.YtbkihnejgcebpaaBaL
namespace Go.Proofs.Ytbkihnejgcebpaa
open Go.RowKit
set_option linter.unusedVariables false
set_option linter.unusedSimpArgs false
set_option maxRecDepth 20000

set_option maxHeartbeats 1600000 in
theorem impl_AgesOf (h l : Int) (ao : Option Addr) (n cap : Nat) (xs : List Int) (w : World) (hA : IntsAt w ao n cap xs) :
    Calls Try.prog 24 #[bankV h l ao n cap] w fun e w' => ∃ ao' n' cap', e = .returned (.tuple #[.slice ao' n' cap', .bool (mAgesOf ⟨h, l, xs⟩).2]) ∧ Own w.heap.size w'.heap.size w' ao' n' cap' (mAgesOf ⟨h, l, xs⟩).1 ∧ Below w.heap.size w w' := by
  have hm := mAgesOf.eq_1 ⟨h, l, xs⟩
  have hb := belowAlloc w (.cells #[.int .i64 h, .int .i64 l, .slice ao n cap] 33)
  have hA' := hA.keep hb
  have hcon := isBank_any h l ao n cap xs _ hA'
  by_cases hk : BankOk ⟨h, l, xs⟩
  · rw [if_pos (bankYes hk)] at hm
    rw [bankYes hk] at hcon
    have hn := hA.length
    have hlen := hk.len
    obtain ⟨H, rfl⟩ := Int.eq_ofNat_of_zero_le (show 0 ≤ h by have := hk.1; simp only at this; omega)
    have hH : 1 ≤ (H : Int) ∧ (H : Int) ≤ 10 := hk.1
    have hle := fun k (hkn : k < n) => hk.le (x := xs.getD k 0) (by rw [List.getD_eq_getElem?_getD, List.getElem?_eq_getElem (by omega)]; exact List.getElem_mem _)
    have hz := agesT_zero ⟨(H : Int), l, xs⟩
    have hL : agesL ⟨(H : Int), l, xs⟩ = agesT ⟨(H : Int), l, xs⟩ n := by unfold agesL; rw [← hn]
    have hsucc := fun (k i : Nat) (x : Int) (k1 : k < n) (k2 : xs.getD k 0 = x) (k3 : (H : Int) - x = (i : Int)) (k4 : i < H) => agesT_succ (b := ⟨(H : Int), l, xs⟩) (k := k) (i := i) (x := x) (by simp only; omega) k2 k3 (by simp only [Int.toNat_natCast]; exact k4)
    have hget := fun k i (k4 : i < H) => agesT_getD ⟨(H : Int), l, xs⟩ k (i := i) (by simp only [Int.toNat_natCast]; exact k4)
    have hbd := fun k i => ageI_bound ⟨(H : Int), l, xs⟩ k i
    simp only [Int.toNat_natCast] at hz
    simp only at hlen hbd
    have hn28 : n ≤ 28 := by omega
    have n1 := Blk.new w (H : Int) l ao n cap 33
    have hcon' := hcon.mono (R' := fun e w1 => e = .returned (.bool true) ∧ Below w.heap.size w w1 ∧ IntsAt w1 ao n cap xs ∧ Blk w1 w.heap.size (H : Int) l ao n cap 33)
      (fun e w1 ⟨e1, e2⟩ => ⟨e1, belowTrans hb e2 (Nat.le_refl _), hA'.keep e2, n1.keep e2⟩)
    rw [hm, hL]
    generalize agesT ⟨(H : Int), l, xs⟩ = T at *
    generalize ageI ⟨(H : Int), l, xs⟩ = I at *
    clear hcon n1 hk hA hA' hb hm hL
    unfold bankV at hcon'
    obtain ⟨i0, hi, hz0, hz1, hz2⟩ := info_parts Try.infoInt
    have Hcon' := Lib.hid hcon'; clear hcon'
    have Hle := Lib.hid hle; clear hle
    have Hz := Lib.hid hz; clear hz
    have Hsucc := Lib.hid hsucc; clear hsucc
    have Hget := Lib.hid hget; clear hget
    have Hbd := Lib.hid hbd; clear hbd
    have Hn := Lib.hid hn; clear hn
    unfold bankV
    go_enter Try.func24, Try.ntmps24
    go_wp2_with fail
    with_reducible refine (Hcon'.out).mono ?_
    rintro e w1 ⟨rfl, hb1, hA1, n1⟩
    obtain ⟨⟨x0, x1, x2⟩, y0, y1, y2⟩ := n1.cells
    have Hb1 := Lib.hid hb1; clear hb1
    have HA1 := Lib.hid hA1; clear hA1
    have N1 := Lib.hid n1; clear n1
    go_wp2_with (at_make; refine wpList_make_full w1 rfl _ _ _ rfl w1.heap.size 3 i0 _ 1 Try.underlying28 hi hz0 hz1 _ _ _ _ H rfl rfl rfl rfl ?_ ?_ (Nat.le_refl _) ?_)
    · rw [hz2]; omega
    · unfold maxLen; omega
    · intro w2 hown hgrow
      rw [madeZeros] at hown
      have ho : Own w1.heap.size w2.heap.size w2 (some ⟨w1.heap.size, 0, none⟩) H H (List.replicate H 0) := Own.of hown
      have hb2 : Below w1.heap.size w1 w2 := (Below.refl _ _).grown hgrow (Nat.le_refl _) (fun k hk => by cases hk)
      rw [← Hz.out] at ho
      clear hi hz0 hz1 hz2 hgrow hown x0 x1 x2 y0 y1 y2
      have n2 := N1.out.keep hb2
      obtain ⟨⟨x0, x1, x2⟩, y0, y1, y2⟩ := n2.cells
      have Ho := Lib.hid ho; clear ho
      have Hb2 := Lib.hid hb2; clear hb2
      have N2 := Lib.hid n2; clear n2
      go_wp2_with fail
      go_loopw [16] (fun c wr => ∃ k : Nat, k ≤ n ∧ c = .int .i64 k ∧ w2.heap.size ≤ wr.heap.size ∧ Own w1.heap.size w2.heap.size wr (some ⟨w1.heap.size, 0, none⟩) H H (T k) ∧ Below w1.heap.size w1 wr) (fun c _ => n - (intOf c).toNat)
      case atStart => exact ⟨0, Nat.zero_le _, rfl, Nat.le_refl _, Ho.out, Hb2.out⟩
      case round =>
        obtain ⟨k, hkn, rfl, hbr', hor, hbr⟩ := hrel
        clear x0 x1 x2 y0 y1 y2
        have hsz := N1.out.size
        obtain ⟨⟨x0, x1, x2⟩, y0, y1, y2⟩ := (N1.out.keep hbr).cells
        by_cases hlt : k < n
        · obtain ⟨b, o, rfl, hbl, hc⟩ := (HA1.out.keep hbr).cell k hlt
          have hck := hc k hlt
          obtain ⟨q1, q2⟩ := Hle.out k hlt
          generalize hx : xs.getD k 0 = x at hck q1 q2
          obtain ⟨i, hi⟩ : ∃ i : Nat, (H : Int) - x = (i : Int) := Int.eq_ofNat_of_zero_le (by omega)
          have hiH : i < H := by omega
          have hst := hor.set i (I k i + 1)
          rw [← Hsucc.out k i x hlt hx hi hiH] at hst
          have hci := getD_cells hor i hiH
          rw [Hget.out k i hiH] at hci
          have hfz := hor.frozenAt i
          obtain ⟨r1, r2⟩ := Hbd.out k i
          generalize I k i = Y at *
          clear hc hbl hor
          have Hst := Lib.hid hst; clear hst
          have Hx := Lib.hid hx; clear hx
          have Hbr := Lib.hid hbr; clear hbr
          have Hbr' := Lib.hid hbr'; clear hbr'
          go_wp2
          go_roundw
          case rel => exact ⟨k + 1, by omega, by go_num, by simpa using Hbr'.out, Hst.out.1, Hbr.out.setCell (Nat.le_refl _) _⟩
          case measure => simp [intOf]; omega
        · obtain rfl : k = n := by omega
          have hbb := belowTrans Hb1.out hbr (Nat.le_refl _)
          have ho2 := hor.mono (show w.heap.size ≤ w1.heap.size from Hb1.out.size) hbr'
          clear hor
          have Hbb := Lib.hid hbb; clear hbb
          have Ho2 := Lib.hid ho2; clear ho2
          go_wp2
          go_ret2
          exact ⟨_, _, _, rfl, Ho2.out, Hbb.out⟩
  · rw [if_neg (by rw [bankNo hk]; simp)] at hm
    rw [bankNo hk] at hcon
    unfold bankV at hcon
    have Hcon := Lib.hid hcon; clear hcon
    have Hm := Lib.hid hm; clear hm
    have Hb := Lib.hid hb; clear hb
    unfold bankV
    go_enter Try.func24, Try.ntmps24
    go_wp2_with fail
    with_reducible refine (Hcon.out).mono ?_
    rintro e w1 ⟨rfl, hb1⟩
    have hbb := belowTrans Hb.out hb1 (Nat.le_refl _)
    have Hbb := Lib.hid hbb; clear hbb
    go_wp2
    go_ret2
    rw [Hm.out]
    exact ⟨none, 0, 0, rfl, Own.nil _ _ _, Hbb.out⟩
theorem mAgesOf_bound (b : Bk) : (mAgesOf b).1.length ≤ 1048576 := by
  unfold mAgesOf
  split
  · next h =>
    have h1 := (bank_iff.1 h).1
    show (agesT b b.p.length).length ≤ _
    rw [agesT_length]; omega
  · simp
end Go.Proofs.Ytbkihnejgcebpaa
