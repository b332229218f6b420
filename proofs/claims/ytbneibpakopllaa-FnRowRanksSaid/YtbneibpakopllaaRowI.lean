/- Chapter 5: CountRowGardens, LongestRow by the model and by the program. No condition. -/
import Derived.Test.YtbneibpakopllaaRowH
import Derived.Test.YtbneibpakopllaaRowsC
import Derived.Test.YtbneibpakopllaaRowsT
namespace Go.Proofs.Ytbneibpakopllaa
open Go.RowKit
set_option linter.unusedVariables false
set_option linter.unusedSimpArgs false
set_option maxRecDepth 20000

def longK (n : Nat) : Nat → List Int × Int
  | 0 => ([], -1)
  | r + 1 => if (longK n r).2 < (orbR (rowAt n r)).1 then (rowAt n r, (orbR (rowAt n r)).1) else longK n r
def mLongestRow (n : Int) : List Int × Int × Bool := if 1 ≤ n ∧ n ≤ 10 then ((longK n.toNat (cntR n.toNat)).1, (longK n.toNat (cntR n.toNat)).2, true) else ([], 0, false)
theorem roWith_any (n r : Nat) (w : World) (hn : n ≤ 28) (hr : r < cntR n) :
    Calls Try.prog 131 #[.int .i64 n, .int .i64 r] w fun e w' => ∃ ao' n' cap', e = .returned (.slice ao' n' cap') ∧ Own w.heap.size w'.heap.size w' ao' n' cap' (rowAt n r) ∧ Below w.heap.size w w' := by
  have hcon := spec_RowWith n r w
  rw [mRW_yes hn hr] at hcon
  have Hcon := Lib.hid hcon; clear hcon
  go_enter Try.func131, Try.ntmps131
  go_wp2_with fail
  with_reducible refine (Hcon.out).mono ?_
  rintro e w1 ⟨a1, n1, c1, rfl, ho1, hb1⟩
  go_wp2
  go_ret
  exact ⟨_, _, _, rfl, ho1, hb1⟩
set_option maxHeartbeats 800000 in
theorem spec_CountRowGardens (n : Int) (w : World) :
    Calls Try.prog 79 #[.int .i64 n] w fun e w' => e = .returned (.tuple #[.int .i64 (mCountRowGardens n).1, .bool (mCountRowGardens n).2]) ∧ Below w.heap.size w w' := by
  by_cases hn : 0 ≤ n ∧ n ≤ 12
  · obtain ⟨m, rfl⟩ := Int.eq_ofNat_of_zero_le hn.1
    have h12 : m ≤ 12 := by omega
    have hm := mCRG_yes m h12
    have hrc := fun W => roCount_any m W (by omega)
    have hwi := fun r (hr : r < cntR m) W => roWith_any m r W (by omega) hr
    have hcb : cntR m ≤ 2048 := by
      have : ∀ k, k < 13 → cntR k ≤ 2048 := by decide +kernel
      exact this m (by omega)
    have hrow := fun r => (rowAt_row (n := m) (r := r) (by omega)).1
    have Hn := Lib.hid hn; clear hn
    have Hm := Lib.hid hm; clear hm
    have Hrc := Lib.hid hrc; clear hrc
    have Hwi := Lib.hid hwi; clear hwi
    have Hrow := Lib.hid hrow; clear hrow
    go_enter Try.func79, Try.ntmps79
    go_wp2_with fail
    with_reducible refine (l1In_yes _ _ _ _ Hn.out).mono ?_
    rintro e w' ⟨rfl, rfl⟩
    go_wp2_with fail
    go_loopw [4, 5] (fun cv rv wr => ∃ r : Nat, r ≤ cntR m ∧ rv = .int .i64 r ∧ cv = .int .i64 (gardR m r : Nat) ∧ Below w.heap.size w wr) (fun _ r _ => cntR m - (intOf r).toNat)
    case atStart => exact ⟨0, Nat.zero_le _, rfl, rfl, Below.refl _ _⟩
    case round =>
      obtain ⟨r, hr, rfl, rfl, hb⟩ := hrel
      have hgl := gardR_le m r
      by_cases hlt : r < cntR m
      · have hcon := Hwi.out r hlt wr
        have hG := Hrow.out r
        have hsu : gardR m (r + 1) = gardR m r + if pastC (rowAt m r) = 0 then 1 else 0 := rfl
        have hlti : (r : Int) < (cntR m : Nat) := by omega
        generalize cntR m = C at *
        have Hcon := Lib.hid hcon; clear hcon
        have HG := Lib.hid hG; clear hG
        go_wp2_with fail
        with_reducible refine (Hrc.out _).mono ?_
        rintro e w' ⟨rfl, rfl⟩
        go_wp2_with fail
        with_reducible refine (Hcon.out).mono ?_
        rintro e w2 ⟨a2, n2, c2, rfl, ho2, hb2⟩
        have hcon := roPastCount_any _ _ _ _ w2 ho2.at HG.out
        have hbw := belowTrans hb hb2 (Nat.le_refl _)
        generalize hP : pastC (rowAt m r) = P at hcon hsu
        have Hcon := Lib.hid hcon; clear hcon
        have HP := Lib.hid hP; clear hP
        by_cases h0 : P = 0
        · rw [if_pos h0] at hsu
          subst h0
          have Hsu := Lib.hid hsu; clear hsu
          go_wp2_with fail
          with_reducible refine (Hcon.out).mono ?_
          rintro e w' ⟨rfl, rfl⟩
          go_wp2
          go_roundw
          case rel => exact ⟨r + 1, by omega, by go_num, by rw [Hsu.out]; go_num, hbw⟩
          case measure => simp [intOf]; omega
        · rw [if_neg h0, Nat.add_zero] at hsu
          have h0b : (P == 0) = false := by rw [beq_eq_false_iff_ne]; exact h0
          have Hsu := Lib.hid hsu; clear hsu
          go_wp2_with fail
          with_reducible refine (Hcon.out).mono ?_
          rintro e w' ⟨rfl, rfl⟩
          go_wp2
          go_roundw
          case rel => exact ⟨r + 1, by omega, by go_num, by rw [Hsu.out, Nat.add_zero], hbw⟩
          case measure => simp [intOf]; omega
      · obtain rfl : r = cntR m := by omega
        go_wp2_with fail
        with_reducible refine (Hrc.out _).mono ?_
        rintro e w' ⟨rfl, rfl⟩
        go_wp2
        go_ret2
        rw [Hm.out]
        exact ⟨rfl, hb⟩
  · have hm := mCRG_no n hn
    have Hn := Lib.hid hn; clear hn
    have Hm := Lib.hid hm; clear hm
    go_enter Try.func79, Try.ntmps79
    go_wp2_with fail
    with_reducible refine (l1In_no _ _ _ _ Hn.out).mono ?_
    rintro e w' ⟨rfl, rfl⟩
    go_wp2
    go_ret2
    rw [Hm.out]
    exact ⟨rfl, Below.refl _ _⟩

theorem mLR_yes {m : Nat} (h : 1 ≤ m ∧ m ≤ 10) : mLongestRow m = ((longK m (cntR m)).1, (longK m (cntR m)).2, true) := by unfold mLongestRow; rw [if_pos (by omega)]; rfl
theorem mLR_no {n : Int} (h : ¬ (1 ≤ n ∧ n ≤ 10)) : mLongestRow n = ([], 0, false) := by unfold mLongestRow; rw [if_neg h]
theorem longK_len (m : Nat) (hm : m ≤ 28) (r : Nat) : (longK m r).1.length ≤ 28 := by
  induction r with
  | zero => simp [longK]
  | succ r ih =>
    unfold longK
    split
    · exact (rowAt_row (n := m) (r := r) hm).1.len
    · exact ih
set_option maxRecDepth 100000 in
theorem mLongestRow_bound (n : Int) : (mLongestRow n).1.length ≤ 1048576 := by
  unfold mLongestRow
  split
  · next h =>
    have := longK_len n.toNat (by omega) (cntR n.toNat)
    generalize longK n.toNat (cntR n.toNat) = L at *
    exact Nat.le_trans this (by omega)
  · simp
theorem longK_succ (m r : Nat) : longK m (r + 1) = if (longK m r).2 < (orbR (rowAt m r)).1 then (rowAt m r, (orbR (rowAt m r)).1) else longK m r := rfl

set_option maxHeartbeats 1600000 in
theorem spec_LongestRow (n : Int) (w : World) :
    Calls Try.prog 82 #[.int .i64 n] w fun e w' => ∃ ao' n' cap', e = .returned (.tuple #[.slice ao' n' cap', .int .i64 (mLongestRow n).2.1, .bool (mLongestRow n).2.2]) ∧ Own w.heap.size w'.heap.size w' ao' n' cap' (mLongestRow n).1 ∧ Below w.heap.size w w' := by
  by_cases hn : 1 ≤ n ∧ n ≤ 10
  · obtain ⟨m, rfl⟩ := Int.eq_ofNat_of_zero_le (show 0 ≤ n by omega)
    have hm := mLR_yes (m := m) (by omega)
    have hrc := fun W => roCount_any m W (by omega)
    have hwi := fun r (hr : r < cntR m) W => roWith_any m r W (by omega) hr
    have hcb : cntR m ≤ 2048 := by
      have : ∀ k, k < 13 → cntR k ≤ 2048 := by decide +kernel
      exact this m (by omega)
    have hrow := fun r => (rowAt_row (n := m) (r := r) (by omega)).1
    have hls := longK_succ m
    generalize cntR m = C at *
    have Hn := Lib.hid hn; clear hn
    have Hm := Lib.hid hm; clear hm
    have Hrc := Lib.hid hrc; clear hrc
    have Hwi := Lib.hid hwi; clear hwi
    have Hrow := Lib.hid hrow; clear hrow
    have Hls := Lib.hid hls; clear hls
    go_enter Try.func82, Try.ntmps82
    go_wp2_with fail
    with_reducible refine (l1In_yes _ _ _ _ Hn.out).mono ?_
    rintro e w' ⟨rfl, rfl⟩
    go_wp2_with fail
    go_loopw [5, 6, 7] (fun bv mv rv wr => ∃ (r : Nat) (a : Option Addr) (p c : Nat) (q : Int) (xs : List Int), r ≤ C ∧ rv = .int .i64 r ∧ bv = .slice a p c ∧ mv = .int .i64 q ∧ Hid (longK m r = (xs, q)) ∧ Own w.heap.size wr.heap.size wr a p c xs ∧ Below w.heap.size w wr) (fun _ _ r _ => C - (intOf r).toNat)
    case atStart => exact ⟨0, none, 0, 0, -1, [], Nat.zero_le _, rfl, rfl, rfl, Lib.hid rfl, Own.nil _ _ _, Below.refl _ _⟩
    case round =>
      obtain ⟨r, a, p, c, q, xs, hr, rfl, rfl, rfl, Hk, hown, hb⟩ := hrel
      have hs := Hls.out r
      rw [Hk.out] at hs
      by_cases hlt : r < C
      · have hcon := Hwi.out r hlt
        have hG := Hrow.out r
        generalize rowAt m r = y at *
        have hor := fun a n c W hW => roOrbit_any a n c y W hW hG
        have hlti : (r : Int) < C := by omega
        generalize (orbR y).1 = t1 at *
        generalize (orbR y).2.1 = t2 at *
        generalize (orbR y).2.2 = t3 at *
        have Hcon := Lib.hid hcon; clear hcon
        have HG := Lib.hid hG; clear hG
        have Hor := Lib.hid hor; clear hor
        go_wp2_with fail
        with_reducible refine (Hrc.out _).mono ?_
        rintro e w' ⟨rfl, rfl⟩
        go_wp2_with fail
        with_reducible refine (Hcon.out _).mono ?_
        rintro e w2 ⟨a2, n2, c2, rfl, ho2, hb2⟩
        have hsz := hb.size
        have hbw := belowTrans hb hb2 (Nat.le_refl _)
        have hor2 := Hor.out a2 n2 c2 w2 ho2.at
        have hown2 := (hown.keep hb2).mono (Nat.le_refl _) hb2.size
        have ho2' := ho2.mono hsz (Nat.le_refl _)
        clear hown ho2 hb hb2
        have Hor2 := Lib.hid hor2; clear hor2
        go_wp2_with fail
        with_reducible refine (Hor2.out).mono ?_
        rintro e w3 ⟨rfl, hb3⟩
        have hbw3 := belowTrans hbw hb3 (Nat.le_refl _)
        have hown3 := (hown2.keep hb3).mono (Nat.le_refl _) hb3.size
        have ho3 := (ho2'.keep hb3).mono (Nat.le_refl _) hb3.size
        clear hown2 ho2' hb3 hbw
        by_cases hq : q < t1
        · rw [if_pos hq] at hs
          clear hown3
          have Hs := Lib.hid hs; clear hs
          go_wp2
          go_roundw
          case rel => exact ⟨r + 1, a2, n2, c2, t1, y, by omega, by go_num, rfl, rfl, Lib.hid Hs.out, ho3, hbw3⟩
          case measure => simp [intOf]; omega
        · rw [if_neg hq] at hs
          clear ho3
          have Hs := Lib.hid hs; clear hs
          go_wp2
          go_roundw
          case rel => exact ⟨r + 1, a, p, c, q, xs, by omega, by go_num, rfl, rfl, Lib.hid Hs.out, hown3, hbw3⟩
          case measure => simp [intOf]; omega
      · obtain rfl : C = r := by omega
        have hk := Hk.out
        rw [hk] at Hm
        have Hs := Lib.hid hs; clear hs
        have Hk := Lib.hid hk; clear hk
        go_wp2_with fail
        with_reducible refine (Hrc.out _).mono ?_
        rintro e w' ⟨rfl, rfl⟩
        go_wp2
        go_ret3
        rw [Hm.out]
        exact ⟨_, _, _, rfl, hown, hb⟩
  · have hm := mLR_no hn
    have Hn := Lib.hid hn; clear hn
    have Hm := Lib.hid hm; clear hm
    go_enter Try.func82, Try.ntmps82
    go_wp2_with fail
    with_reducible refine (l1In_no _ _ _ _ Hn.out).mono ?_
    rintro e w' ⟨rfl, rfl⟩
    go_wp2
    go_ret3
    rw [Hm.out]
    exact ⟨none, 0, 0, rfl, Own.nil _ _ _, Below.refl _ _⟩

/-! ### By the program -/
theorem madeNils (n : Nat) : (madeCells #[Value.slice none 0 0] n).toList = List.replicate n (Value.slice none 0 0) := by
  apply List.ext_getElem
  · simp [size_madeCells]
  · intro i h1 h2
    simp [madeCells, Value.cells, Nat.mod_one]
theorem replicate_set (us : List Value) (C k : Nat) (z v : Value) (hk : k < C) (hl : us.length = k) : (us ++ List.replicate (C - k) z).set k v = (us ++ [v]) ++ List.replicate (C - (k + 1)) z := by
  rw [List.set_append, if_neg (by omega), hl, Nat.sub_self]
  rw [show C - k = (C - (k + 1)) + 1 by omega, List.replicate_succ, List.set_cons_zero]
  simp
set_option maxHeartbeats 3200000 in
theorem allRows_any (m : Nat) (w : World) (hm : m ≤ 12) :
    Calls Try.prog 130 #[.int .i64 m] w fun e w' => ∃ a c, e = .returned (.slice a (cntR m) c) ∧ OwnRows w.heap.size w'.heap.size w' a (cntR m) c (allR m) ∧ Below w.heap.size w w' := by
  have hcr := impl_CountRows m w
  rw [mCR_yes m (by omega)] at hcr
  have hcb : cntR m ≤ 2048 := by
    have : ∀ k, k < 13 → cntR k ≤ 2048 := by decide +kernel
    exact this m (by omega)
  have hall := allR_length m
  have hgt := fun r hr => allR_getD m r hr
  have hrw := fun r (hr : r < cntR m) W => by
    have := impl_RowWith m r W
    rw [mRW_yes (by omega) hr] at this
    exact this
  have hrA : ∀ r, goR (2 * r + 1) m 0 = rowAt m r := fun r => rfl
  simp only [hrA] at hrw
  obtain ⟨i0, hi, hz0, hz1, hz2⟩ := info_parts Try.infoInts
  generalize allR m = A at *
  generalize cntR m = C at *
  have Hcr := Lib.hid hcr; clear hcr
  have Hall := Lib.hid hall; clear hall
  have Hgt := Lib.hid hgt; clear hgt
  have Hrw := Lib.hid hrw; clear hrw
  have HrA := Lib.hid hrA; clear hrA
  go_enter Try.func130, Try.ntmps130
  go_wp2_with fail
  with_reducible refine (Hcr.out).mono ?_
  rintro e w1 ⟨rfl, hb1⟩
  go_wp2_with (at_make; refine wpList_make_full w1 rfl _ _ _ rfl w1.heap.size 22 i0 _ 1 Try.underlying59 hi hz0 hz1 _ _ _ _ C rfl rfl rfl rfl ?_ ?_ (Nat.le_refl _) ?_)
  · rw [hz2]; omega
  · unfold maxLen; omega
  intro w2 hown hgrow
  rw [madeNils] at hown
  have ho : OwnRow w1.heap.size w2.heap.size w2 22 (some ⟨w1.heap.size, 0, none⟩) C C ([] ++ List.replicate (C - 0) (.slice none 0 0)) := OwnRow.of hown
  have hb2 : Below w1.heap.size w1 w2 := (Below.refl _ _).grown hgrow (Nat.le_refl _) (fun k hk => by cases hk)
  clear hown hgrow hi hz0 hz1 hz2
  generalize hBe : w1.heap.size = B at *
  have hws : w.heap.size ≤ B := by rw [← hBe]; exact hb1.size
  have hbw : Below w.heap.size w w2 := hb1.trans (hb2.mono hws)
  have hws2 : B ≤ w2.heap.size := by rw [← hBe]; exact hb2.size
  have HBe := Lib.hid hBe; clear hBe
  clear hb2 hb1
  go_wp2_with fail
  go_loopw [16] (fun i wr => ∃ (k : Nat) (us : List Value), k ≤ C ∧ i = .int .i64 k ∧ us.length = k ∧ OwnRow B wr.heap.size wr 22 (some ⟨B, 0, none⟩) C C (us ++ List.replicate (C - k) (.slice none 0 0)) ∧ RowsW B wr.heap.size wr us (A.take k) ∧ us.Pairwise apart ∧ B ≤ wr.heap.size ∧ Below w.heap.size w wr) (fun i _ => C - (intOf i).toNat)
  case atStart => exact ⟨0, [], Nat.zero_le _, rfl, rfl, ho, RowsW.nil _ _ _, List.Pairwise.nil, hws2, hbw⟩
  case round =>
    obtain ⟨k, us, hk, rfl, hul, hov, hrv, hap, hBr, hb⟩ := hrel
    clear ho hbw hws2
    by_cases hlt : k < C
    · have hcon := Hrw.out k hlt wr
      have htk := take_snocX (xs := A) hlt Hall.out
      rw [Hgt.out k hlt] at htk
      generalize rowAt m k = y at *
      have Hcon := Lib.hid hcon; clear hcon
      have Htk := Lib.hid htk; clear htk
      have Hap := Lib.hid hap; clear hap
      have Hul := Lib.hid hul; clear hul
      go_wp2_with fail
      with_reducible refine (Hcon.out).mono ?_
      rintro e w4 ⟨a4, n4, c4, rfl, ho4, hb4⟩
      have hsz4 := hb4.size
      have hov4 := (hov.keep hb4).mono (Nat.le_refl _) hsz4
      have hrv4 := (hrv.keep hb4).mono (Nat.le_refl _) hsz4
      have hap4 := apart_snoc hrv Hap.out ho4
      have hrow4 := RowsW.one (ho4.mono (show B ≤ wr.heap.size from hBr) (Nat.le_refl _))
      have hcl := World.ownsRow.cellAt hov4.1 k (by omega)
      rw [List.getElem?_append_right (by rw [Hul.out]; exact Nat.le_refl _), Hul.out, Nat.sub_self, List.getElem?_replicate, if_pos (by omega)] at hcl
      have hfz := World.ownsRow.frozenAt hov4.1 k
      obtain ⟨hst1, hst2⟩ := World.ownsRow.stored hov4.1 k (.slice a4 n4 c4)
      rw [replicate_set us C k _ _ hlt Hul.out] at hst1
      have hch : Chg (fun q => (Value.slice (some ⟨B, 0, none⟩) C C).ownBlock = some q) w4 (w4.setCell ⟨B, k, none⟩ (.slice a4 n4 c4)) := (Chg.ofGrown hst2).mono (fun k hk => by simpa [Value.ownBlock] using hk.symm)
      have hrv5 := (hrv4.append hrow4).chgSpine hov4 hch
      have hov5 : OwnRow B w4.heap.size (w4.setCell ⟨B, k, none⟩ (.slice a4 n4 c4)) 22 (some ⟨B, 0, none⟩) C C (us ++ [.slice a4 n4 c4] ++ List.replicate (C - (k + 1)) (.slice none 0 0)) := ⟨hst1, hov4.2⟩
      have hsz5 : (w4.setCell ⟨B, k, none⟩ (.slice a4 n4 c4)).heap.size = w4.heap.size := by simp
      have hbb : Below w.heap.size w (w4.setCell ⟨B, k, none⟩ (.slice a4 n4 c4)) := (belowTrans hb hb4 (Nat.le_refl _)).setCell (p := ⟨B, k, none⟩) hws _
      have hul5 : (us ++ [Value.slice a4 n4 c4]).length = k + 1 := by rw [List.length_append, Hul.out]; rfl
      have hB5 : B ≤ (w4.setCell ⟨B, k, none⟩ (.slice a4 n4 c4)).heap.size := by rw [hsz5]; omega
      rw [← hsz5] at hov5 hrv5
      clear hov hrv hb hov4 hrv4 hrow4 hst1 hst2 hch ho4 hb4
      have Hov5 := Lib.hid hov5; clear hov5
      have Hrv5 := Lib.hid hrv5; clear hrv5
      have Hap4 := Lib.hid hap4; clear hap4
      have Hbb := Lib.hid hbb; clear hbb
      have Hul5 := Lib.hid hul5; clear hul5
      have HB5 := Lib.hid hB5; clear hB5
      have Hsz5 := Lib.hid hsz5; clear hsz5
      go_wp2
      go_roundw
      case rel => exact ⟨k + 1, _, by omega, by go_num, Hul5.out, Hov5.out, by rw [Htk.out]; exact Hrv5.out, Hap4.out, HB5.out, Hbb.out⟩
      case measure => simp [intOf]; omega
    · obtain rfl : C = k := by omega
      rw [take_allR Hall.out] at hrv
      rw [Nat.sub_self, List.replicate_zero, List.append_nil] at hov
      have hfin := (Sp.mk hov hrv).own hap hws hws (Nat.le_refl _) (Nat.le_refl _)
      clear hov hrv hap
      have Hul := Lib.hid hul; clear hul
      go_wp2
      go_ret
      exact ⟨_, _, rfl, hfin, hb⟩

set_option maxHeartbeats 1600000 in
theorem impl_CountRowGardens (n : Int) (w : World) :
    Calls Try.prog 78 #[.int .i64 n] w fun e w' => e = .returned (.tuple #[.int .i64 (mCountRowGardens n).1, .bool (mCountRowGardens n).2]) ∧ Below w.heap.size w w' := by
  by_cases hn : 0 ≤ n ∧ n ≤ 12
  · obtain ⟨m, rfl⟩ := Int.eq_ofNat_of_zero_le hn.1
    have h12 : m ≤ 12 := by omega
    have hm := mCRG_yes m h12
    have hall := allRows_any m w h12
    have hcb : cntR m ≤ 2048 := by
      have : ∀ k, k < 13 → cntR k ≤ 2048 := by decide +kernel
      exact this m (by omega)
    have hrow := fun r => (rowAt_row (n := m) (r := r) (by omega)).1
    have hgt := fun r hr => allR_getD m r hr
    have hsu : ∀ r, gardR m (r + 1) = gardR m r + if pastC (rowAt m r) = 0 then 1 else 0 := fun r => rfl
    have hgl := gardR_le m
    generalize allR m = A at *
    generalize cntR m = C at *
    have Hn := Lib.hid hn; clear hn
    have Hm := Lib.hid hm; clear hm
    have Hall := Lib.hid hall; clear hall
    have Hrow := Lib.hid hrow; clear hrow
    have Hgt := Lib.hid hgt; clear hgt
    have Hsu := Lib.hid hsu; clear hsu
    have Hgl := Lib.hid hgl; clear hgl
    go_enter Try.func78, Try.ntmps78
    go_wp2_with fail
    with_reducible refine (inRange_yes _ _ _ Hn.out).mono ?_
    rintro e w' ⟨rfl, rfl⟩
    go_wp2_with fail
    with_reducible refine (Hall.out).mono ?_
    rintro e w1 ⟨a1, c1, rfl, ho1, hb1⟩
    go_wp2_with fail
    go_loopw [4, 15] (fun cv rv wr => ∃ r : Nat, r ≤ C ∧ rv = .int .i64 r ∧ cv = .int .i64 (gardR m r : Nat) ∧ OwnRows w.heap.size w1.heap.size wr a1 C c1 A ∧ Below w.heap.size w wr) (fun _ r _ => C - (intOf r).toNat)
    case atStart => exact ⟨0, Nat.zero_le _, rfl, rfl, ho1, hb1⟩
    case round =>
      obtain ⟨r, hr, rfl, rfl, hown, hb⟩ := hrel
      clear ho1 hb1
      have hg2 := Hgl.out r
      by_cases hlt : r < C
      · obtain ⟨b, oo, rfl, hbl, hc⟩ := hown.at.cell r hlt
        obtain ⟨a3, m3, c3, hck, hi3⟩ := hc r hlt
        clear hc
        rw [Hgt.out r hlt] at hi3
        have hG := Hrow.out r
        have hs := Hsu.out r
        have hcon := impl_RowPastCount a3 m3 c3 _ wr hi3
        rw [mRPC_yes (row_iff.2 hG)] at hcon
        generalize pastC (rowAt m r) = P at *
        generalize rowAt m r = y at *
        generalize gardR m r = g at *
        have hgI : (g : Int) ≤ 2048 := by omega
        by_cases h0 : P = 0
        · rw [if_pos h0] at hs
          subst h0
          have Hs := Lib.hid hs; clear hs
          have Hcon := Lib.hid hcon; clear hcon
          have HG := Lib.hid hG; clear hG
          go_wp2_with fail
          with_reducible refine (Hcon.out).mono ?_
          rintro e w2 ⟨rfl, hb2⟩
          have hbw := belowTrans hb hb2 (Nat.le_refl _)
          have hown2 := hown.keep hb2
          clear hown hck hi3 hb2 hb
          go_wp2
          go_roundw
          case rel => exact ⟨r + 1, by omega, by go_num, by rw [Hs.out]; go_num, hown2, hbw⟩
          case measure => simp [intOf]; omega
        · rw [if_neg h0, Nat.add_zero] at hs
          have h0b : (P == 0) = false := by rw [beq_eq_false_iff_ne]; exact h0
          have Hs := Lib.hid hs; clear hs
          have Hcon := Lib.hid hcon; clear hcon
          have HG := Lib.hid hG; clear hG
          go_wp2_with fail
          with_reducible refine (Hcon.out).mono ?_
          rintro e w2 ⟨rfl, hb2⟩
          have hbw := belowTrans hb hb2 (Nat.le_refl _)
          have hown2 := hown.keep hb2
          clear hown hck hi3 hb2 hb
          go_wp2
          go_roundw
          case rel => exact ⟨r + 1, by omega, by go_num, by rw [Hs.out, Nat.add_zero], hown2, hbw⟩
          case measure => simp [intOf]; omega
      · obtain rfl : C = r := by omega
        clear hown
        go_wp2
        go_ret2
        rw [Hm.out]
        exact ⟨rfl, hb⟩
  · have hm := mCRG_no n hn
    have Hn := Lib.hid hn; clear hn
    have Hm := Lib.hid hm; clear hm
    go_enter Try.func78, Try.ntmps78
    go_wp2_with fail
    with_reducible refine (inRange_no _ _ _ Hn.out).mono ?_
    rintro e w' ⟨rfl, rfl⟩
    go_wp2
    go_ret2
    rw [Hm.out]
    exact ⟨rfl, Below.refl _ _⟩

set_option maxHeartbeats 1600000 in
theorem impl_LongestRow (n : Int) (w : World) :
    Calls Try.prog 81 #[.int .i64 n] w fun e w' => ∃ ao' n' cap', e = .returned (.tuple #[.slice ao' n' cap', .int .i64 (mLongestRow n).2.1, .bool (mLongestRow n).2.2]) ∧ Own w.heap.size w'.heap.size w' ao' n' cap' (mLongestRow n).1 ∧ Below w.heap.size w w' := by
  by_cases hn : 1 ≤ n ∧ n ≤ 10
  · obtain ⟨m, rfl⟩ := Int.eq_ofNat_of_zero_le (show 0 ≤ n by omega)
    have hm10 : m ≤ 10 := by omega
    have hm1 : (1 : Int) ≤ m := hn.1
    have hmI : (m : Int) ≤ 10 := hn.2
    have hm := mLR_yes (m := m) (by omega)
    have hall := allRows_any m w (by omega)
    have hcb : cntR m ≤ 2048 := by
      have : ∀ k, k < 13 → cntR k ≤ 2048 := by decide +kernel
      exact this m (by omega)
    have hrow := fun r => rowAt_row (n := m) (r := r) (by omega)
    have hgt := fun r hr => allR_getD m r hr
    have hls := longK_succ m
    have hfew := fun r => orbR_few (hrow r).1 (hrow r).2 hm10
    generalize allR m = A at *
    generalize cntR m = C at *
    have Hn := Lib.hid hn; clear hn
    have Hm := Lib.hid hm; clear hm
    have Hall := Lib.hid hall; clear hall
    have Hrow := Lib.hid hrow; clear hrow
    have Hgt := Lib.hid hgt; clear hgt
    have Hls := Lib.hid hls; clear hls
    have Hfew := Lib.hid hfew; clear hfew
    go_enter Try.func81, Try.ntmps81
    go_wp2_with fail
    with_reducible refine (Hall.out).mono ?_
    rintro e w1 ⟨a1, c1, rfl, ho1, hb1⟩
    obtain ⟨vs, hs1, _⟩ := ho1.sp
    clear ho1
    go_wp2_with fail
    go_loopw [5, 6, 21] (fun bv mv rv wr => ∃ (r : Nat) (a : Option Addr) (p c : Nat) (q : Int) (xs : List Int), r ≤ C ∧ rv = .int .i64 r ∧ bv = .slice a p c ∧ mv = .int .i64 q ∧ Hid (longK m r = (xs, q)) ∧ Own w.heap.size wr.heap.size wr a p c xs ∧ Sp w.heap.size w1.heap.size w.heap.size w1.heap.size wr a1 C c1 vs A ∧ w1.heap.size ≤ wr.heap.size ∧ Below w.heap.size w wr) (fun _ _ r _ => C - (intOf r).toNat)
    case atStart => exact ⟨0, none, 0, 0, -1, [], Nat.zero_le _, rfl, rfl, rfl, Lib.hid rfl, Own.nil _ _ _, hs1, Nat.le_refl _, hb1⟩
    case round =>
      obtain ⟨r, a, p, c, q, xs, hr, rfl, rfl, rfl, Hk, hown, hs, hsz, hb⟩ := hrel
      clear hs1 hb1
      have hsu := Hls.out r
      rw [Hk.out] at hsu
      by_cases hlt : r < C
      · obtain ⟨b, oo, a3, m3, c3, rfl, hbl, hck, _, hi3⟩ := hs.getRow hlt
        rw [Hgt.out r hlt] at hi3
        have hG := (Hrow.out r).1
        have hf := Hfew.out r
        have hcon := impl_RowOrbit a3 m3 c3 _ wr hi3.at
        rw [mRO_yes (row_iff.2 hG), hf] at hcon
        generalize rowAt m r = y at *
        generalize (orbR y).1 = t1 at *
        generalize (orbR y).2.1 = t2 at *
        by_cases hq : q < t1
        · rw [if_pos hq] at hsu
          have Hsu := Lib.hid hsu; clear hsu
          have Hcon := Lib.hid hcon; clear hcon
          have HG := Lib.hid hG; clear hG
          have Hf := Lib.hid hf; clear hf
          go_wp2_with fail
          with_reducible refine (Hcon.out).mono ?_
          rintro e w2 ⟨rfl, hb2⟩
          have hbw := belowTrans hb hb2 (Nat.le_refl _)
          have hs2 := hs.keep hb2
          have hsz2 := hb2.size
          have ho3 := (hi3.keep hb2).mono (Nat.le_refl _) (show w1.heap.size ≤ w2.heap.size by omega)
          clear hown hs hck hi3 hb2 hb
          go_wp2
          go_roundw
          case rel => exact ⟨r + 1, a3, m3, c3, t1, y, by omega, by go_num, rfl, rfl, Lib.hid Hsu.out, ho3, hs2, by omega, hbw⟩
          case measure => simp [intOf]; omega
        · rw [if_neg hq] at hsu
          have Hsu := Lib.hid hsu; clear hsu
          have Hcon := Lib.hid hcon; clear hcon
          have HG := Lib.hid hG; clear hG
          have Hf := Lib.hid hf; clear hf
          go_wp2_with fail
          with_reducible refine (Hcon.out).mono ?_
          rintro e w2 ⟨rfl, hb2⟩
          have hbw := belowTrans hb hb2 (Nat.le_refl _)
          have hs2 := hs.keep hb2
          have hsz2 := hb2.size
          have hown2 := (hown.keep hb2).mono (Nat.le_refl _) hsz2
          clear hown hs hck hi3 hb2 hb
          go_wp2
          go_roundw
          case rel => exact ⟨r + 1, a, p, c, q, xs, by omega, by go_num, rfl, rfl, Lib.hid Hsu.out, hown2, hs2, by omega, hbw⟩
          case measure => simp [intOf]; omega
      · obtain rfl : C = r := by omega
        have hk := Hk.out
        rw [hk] at Hm
        clear hs
        have Hsu := Lib.hid hsu; clear hsu
        have Hk := Lib.hid hk; clear hk
        go_wp2
        go_ret3
        rw [Hm.out]
        exact ⟨_, _, _, rfl, hown, hb⟩
  · have hm := mLR_no hn
    have hno : n < 1 ∨ 10 < n := by omega
    rcases hno with hno | hno
    · have Hn := Lib.hid hn; clear hn
      have Hm := Lib.hid hm; clear hm
      go_enter Try.func81, Try.ntmps81
      go_wp2
      go_ret3
      rw [Hm.out]
      exact ⟨none, 0, 0, rfl, Own.nil _ _ _, Below.refl _ _⟩
    · have h1 : ¬ (n < 1) := by omega
      have Hn := Lib.hid hn; clear hn
      have Hm := Lib.hid hm; clear hm
      go_enter Try.func81, Try.ntmps81
      go_wp2
      go_ret3
      rw [Hm.out]
      exact ⟨none, 0, 0, rfl, Own.nil _ _ _, Below.refl _ _⟩
end Go.Proofs.Ytbneibpakopllaa
