/- Chapter 2: IsCyclic, BitsOf, FromBits, TurnBits by the model. No condition. -/
import Derived.Test.YthppkfhhidlpiaaOrbB
namespace Go.Proofs.Ythppkfhhidlpiaa
open Go.RowKit
set_option linter.unusedVariables false
set_option linter.unusedSimpArgs false
set_option maxRecDepth 20000

def mIsCyclic (xs : List Int) : Bool × Bool := (goodB xs && cycB xs, goodB xs)
theorem mIsC_yes {xs : List Int} (h : goodB xs = true) : mIsCyclic xs = (cycB xs, true) := by unfold mIsCyclic; rw [h]; rfl
theorem mIsC_no {xs : List Int} (h : goodB xs = false) : mIsCyclic xs = (false, false) := by unfold mIsCyclic; rw [h]; rfl

theorem spec_IsCyclic (ao : Option Addr) (n cap : Nat) (xs : List Int) (w : World) (h : IntsAt w ao n cap xs) :
    Calls Try.prog 74 #[.slice ao n cap] w fun e w' => e = .returned (.tuple #[.bool (mIsCyclic xs).1, .bool (mIsCyclic xs).2]) ∧ Below w.heap.size w w' := by
  cases hg : goodB xs
  · have hm := mIsC_no hg
    have Hg := Lib.hid hg; clear hg
    have Hm := Lib.hid hm; clear hm
    go_enter Try.func74, Try.ntmps74
    go_wp2_with fail
    with_reducible refine (piGood_no _ _ _ _ _ h Hg.out).mono ?_
    rintro e w' ⟨rfl, rfl⟩
    go_wp2
    go_ret2
    rw [Hm.out]
    exact ⟨rfl, Below.refl _ _⟩
  · have hm := mIsC_yes hg
    have hG := good_iff.1 hg
    have Hg := Lib.hid hg; clear hg
    have Hm := Lib.hid hm; clear hm
    have HG := Lib.hid hG; clear hG
    go_enter Try.func74, Try.ntmps74
    go_wp2_with fail
    with_reducible refine (piGood_yes _ _ _ _ _ h HG.out).mono ?_
    rintro e w' ⟨rfl, rfl⟩
    go_wp2_with fail
    with_reducible refine (orCyclic_any _ _ _ _ _ h HG.out).mono ?_
    rintro e w' ⟨rfl, rfl⟩
    go_wp2
    go_ret2
    rw [Hm.out]
    exact ⟨rfl, Below.refl _ _⟩

def mBitsOf (xs : List Int) : List Int × Bool := if goodB xs = true ∧ cycB xs = true then (bitsL xs, true) else ([], false)
theorem mBits_yes {xs : List Int} (h : goodB xs = true) (hc : cycB xs = true) : mBitsOf xs = (bitsL xs, true) := by unfold mBitsOf; rw [if_pos ⟨h, hc⟩]
theorem mBits_no1 {xs : List Int} (h : goodB xs = false) : mBitsOf xs = ([], false) := by unfold mBitsOf; rw [if_neg (by rw [h]; simp)]
theorem mBits_no2 {xs : List Int} (h : cycB xs = false) : mBitsOf xs = ([], false) := by unfold mBitsOf; rw [if_neg (by rw [h]; simp)]
theorem mBitsOf_bound (xs : List Int) : (mBitsOf xs).1.length ≤ 1048576 := by
  unfold mBitsOf
  split
  · show (bitsL xs).length ≤ _
    rw [bitsL_length]; have := hL_le xs; omega
  · simp

set_option maxHeartbeats 1600000 in
theorem spec_BitsOf (ao : Option Addr) (n cap : Nat) (xs : List Int) (w : World) (h : IntsAt w ao n cap xs) :
    Calls Try.prog 48 #[.slice ao n cap] w fun e w' => ∃ ao' n' cap', e = .returned (.tuple #[.slice ao' n' cap', .bool (mBitsOf xs).2]) ∧ Own w.heap.size w'.heap.size w' ao' n' cap' (mBitsOf xs).1 ∧ Below w.heap.size w w' := by
  cases hg : goodB xs
  · have hm := mBits_no1 hg
    have Hg := Lib.hid hg; clear hg
    have Hm := Lib.hid hm; clear hm
    go_enter Try.func48, Try.ntmps48
    go_wp2_with fail
    with_reducible refine (piGood_no _ _ _ _ _ h Hg.out).mono ?_
    rintro e w' ⟨rfl, rfl⟩
    go_wp2
    go_ret2
    rw [Hm.out]
    exact ⟨none, 0, 0, rfl, Own.nil _ _ _, Below.refl _ _⟩
  have hG := good_iff.1 hg
  have hcon := orCyclic_any ao n cap xs w h hG
  cases hc : cycB xs
  · rw [hc] at hcon
    have hm := mBits_no2 hc
    have Hg := Lib.hid hg; clear hg
    have Hm := Lib.hid hm; clear hm
    have HG := Lib.hid hG; clear hG
    have Hc := Lib.hid hc; clear hc
    have Hcon := Lib.hid hcon; clear hcon
    go_enter Try.func48, Try.ntmps48
    go_wp2_with fail
    with_reducible refine (piGood_yes _ _ _ _ _ h HG.out).mono ?_
    rintro e w' ⟨rfl, rfl⟩
    go_wp2_with fail
    with_reducible refine (Hcon.out).mono ?_
    rintro e w' ⟨rfl, rfl⟩
    go_wp2
    go_ret2
    rw [Hm.out]
    exact ⟨none, 0, 0, rfl, Own.nil _ _ _, Below.refl _ _⟩
  rw [hc] at hcon
  have hm := mBits_yes hg hc
  have hl0 := h.length
  have hlen := hG.len
  have hsum := piSum_any ao n cap xs w h hG
  have hhgt := piHeight_of xs w hG
  have hL7 := hL_le xs
  have hbl := bitsL_length xs
  have hbg := bitsL_getD xs
  have hCc : (cycB xs = true → xs.length ≤ hL xs + 1) := fun h => (cyc_iff.1 h).1
  have hcl := hCc hc
  clear hCc
  generalize hK : hL xs = K at hhgt hL7 hbl hbg hcl
  have hn28 : (n : Int) ≤ 28 := by omega
  have hnK : n ≤ K + 1 := by omega
  clear hcl hlen
  have Hg := Lib.hid hg; clear hg
  have Hm := Lib.hid hm; clear hm
  have HG := Lib.hid hG; clear hG
  have Hc := Lib.hid hc; clear hc
  have Hcon := Lib.hid hcon; clear hcon
  have Hsum := Lib.hid hsum; clear hsum
  have Hhgt := Lib.hid hhgt; clear hhgt
  have Hbl := Lib.hid hbl; clear hbl
  have Hbg := Lib.hid hbg; clear hbg
  have Hl0 := Lib.hid hl0; clear hl0
  have HK := Lib.hid hK; clear hK
  go_enter Try.func48, Try.ntmps48
  go_wp2_with fail
  with_reducible refine (piGood_yes _ _ _ _ _ h HG.out).mono ?_
  rintro e w' ⟨rfl, rfl⟩
  go_wp2_with fail
  with_reducible refine (Hcon.out).mono ?_
  rintro e w' ⟨rfl, rfl⟩
  go_wp2_with fail
  with_reducible refine (Hsum.out).mono ?_
  rintro e w' ⟨rfl, rfl⟩
  go_wp2_with fail
  with_reducible refine (Hhgt.out).mono ?_
  rintro e w' ⟨rfl, rfl⟩
  go_wp2_with fail
  go_loopw [5, 6] (fun v i wr => ∃ (k : Nat) (a : Option Addr) (c : Nat), k ≤ K + 1 ∧ i = .int .i64 k ∧ v = .slice a k c ∧ Own w.heap.size wr.heap.size wr a k c ((bitsL xs).take k) ∧ Below w.heap.size w wr) (fun _ i _ => K + 1 - (intOf i).toNat)
  case atStart => exact ⟨0, none, 0, Nat.zero_le _, rfl, rfl, by simpa using Own.nil _ _ _, Below.refl _ _⟩
  case round =>
    obtain ⟨k, a, c, hk, rfl, rfl, hown, hb⟩ := hrel
    by_cases hlt : k < K + 1
    · obtain ⟨x, hx⟩ : ∃ x, xs.getD k 0 = x := ⟨_, rfl⟩
      have hbx := Hbg.out k hlt
      rw [hx] at hbx
      have htk := take_snoc hbx hlt Hbl.out
      have hxb := (getD_nonneg HG.out.1 k).1
      rw [hx] at hxb
      have hx28 : x ≤ 28 := by
        by_cases hkn : k < n
        · exact (HG.out.mem (getD_mem hx hkn Hl0.out)).2
        · have : xs.getD k 0 = 0 := by rw [List.getD_eq_getElem?_getD, List.getElem?_eq_none (by rw [Hl0.out]; omega)]; rfl
          omega
      by_cases hkn : k < n
      · have h1 := h.keep hb
        obtain ⟨b, oo, rfl, hbl, hc⟩ := h1.cell k hkn
        have hck := hc k hkn
        rw [hx] at hck
        clear hc h1
        have Hx := Lib.hid hx; clear hx
        have Htk := Lib.hid htk; clear htk
        have Hbx := Lib.hid hbx; clear hbx
        go_wp2_with (at_builtin; refine wpList_push wr rfl _ _ rfl w.heap.size wr.heap.size a k c _ rfl hown _ rfl (by omega) hb.size ?_)
        intro ao2 cap2 w2 ho2 hc2
        have hb2 := hown.chgBelow hc2 hb.size
        clear hown
        go_wp2
        go_roundw
        case rel => exact ⟨k + 1, ao2, cap2, by omega, by go_num, rfl, by rw [Htk.out]; exact ho2, hb.trans hb2⟩
        case measure => simp [intOf]; omega
      · have hx00 : x = 0 := by rw [← hx, List.getD_eq_getElem?_getD, List.getElem?_eq_none (by rw [Hl0.out]; omega)]; rfl
        subst hx00
        rw [show (0 : Int) - ((K : Int) - k) = -((K : Int) - k) by omega] at htk
        have Hx := Lib.hid hx; clear hx
        have Htk := Lib.hid htk; clear htk
        have Hbx := Lib.hid hbx; clear hbx
        go_wp2_with (at_builtin; refine wpList_push wr rfl _ _ rfl w.heap.size wr.heap.size a k c _ rfl hown _ rfl (by omega) hb.size ?_)
        intro ao2 cap2 w2 ho2 hc2
        have hb2 := hown.chgBelow hc2 hb.size
        clear hown
        go_wp2
        go_roundw
        case rel => exact ⟨k + 1, ao2, cap2, by omega, by go_num, rfl, by rw [Htk.out]; exact ho2, hb.trans hb2⟩
        case measure => simp [intOf]; omega
    · have hk' : k = K + 1 := by omega
      subst hk'
      rw [take_all Hbl.out] at hown
      go_wp2
      go_ret2
      rw [Hm.out]
      exact ⟨_, _, _, rfl, hown, hb⟩

def mFromBits (bs : List Int) : List Int × Bool := if bitsB bs = true ∧ goodB (fromB bs) = true then (fromB bs, true) else ([], false)
theorem mFrom_yes {bs : List Int} (h : bitsB bs = true) (hc : goodB (fromB bs) = true) : mFromBits bs = (fromB bs, true) := by unfold mFromBits; rw [if_pos ⟨h, hc⟩]
theorem mFrom_no1 {bs : List Int} (h : bitsB bs = false) : mFromBits bs = ([], false) := by unfold mFromBits; rw [if_neg (by rw [h]; simp)]
theorem mFrom_no2 {bs : List Int} (h : goodB (fromB bs) = false) : mFromBits bs = ([], false) := by unfold mFromBits; rw [if_neg (by rw [h]; simp)]
theorem mFromBits_bound (bs : List Int) : (mFromBits bs).1.length ≤ 1048576 := by
  unfold mFromBits
  split
  · next h => have := (good_iff.1 h.2).len; show (fromB bs).length ≤ _; omega
  · simp

set_option maxHeartbeats 800000 in
theorem spec_FromBits (ao : Option Addr) (n cap : Nat) (bs : List Int) (w : World) (h : IntsAt w ao n cap bs) :
    Calls Try.prog 45 #[.slice ao n cap] w fun e w' => ∃ ao' n' cap', e = .returned (.tuple #[.slice ao' n' cap', .bool (mFromBits bs).2]) ∧ Own w.heap.size w'.heap.size w' ao' n' cap' (mFromBits bs).1 ∧ Below w.heap.size w w' := by
  have hor := orBits_any ao n cap bs w h
  cases hb : bitsB bs
  · rw [hb] at hor
    have hm := mFrom_no1 hb
    have Hb := Lib.hid hb; clear hb
    have Hm := Lib.hid hm; clear hm
    have Hor := Lib.hid hor; clear hor
    go_enter Try.func45, Try.ntmps45
    go_wp2_with fail
    with_reducible refine (Hor.out).mono ?_
    rintro e w' ⟨rfl, rfl⟩
    go_wp2
    go_ret2
    rw [Hm.out]
    exact ⟨none, 0, 0, rfl, Own.nil _ _ _, Below.refl _ _⟩
  · rw [hb] at hor
    have hB := bits_iff.1 hb
    have hl := h.length
    have h8 : n ≤ 8 := by have := hB.1; omega
    have hfr := fun w (h : IntsAt w ao n cap bs) => orFrom_any ao n cap bs w h hB.isB h8
    have hfr0 := hfr w h
    cases hg : goodB (fromB bs)
    · have hm := mFrom_no2 hg
      have Hb := Lib.hid hb; clear hb
      have Hm := Lib.hid hm; clear hm
      have Hor := Lib.hid hor; clear hor
      have HB := Lib.hid hB; clear hB
      have Hfr := Lib.hid hfr; clear hfr
      have Hfr0 := Lib.hid hfr0; clear hfr0
      have Hg := Lib.hid hg; clear hg
      have Hl := Lib.hid hl; clear hl
      go_enter Try.func45, Try.ntmps45
      go_wp2_with fail
      with_reducible refine (Hor.out).mono ?_
      rintro e w' ⟨rfl, rfl⟩
      go_wp2_with fail
      with_reducible refine (Hfr0.out).mono ?_
      rintro e w1 ⟨a1, m1, c1, rfl, ho1, hb1⟩
      go_wp2_with fail
      with_reducible refine (piGood_no _ _ _ _ _ ho1.at Hg.out).mono ?_
      rintro e w' ⟨rfl, rfl⟩
      go_wp2
      go_ret2
      rw [Hm.out]
      exact ⟨none, 0, 0, rfl, Own.nil _ _ _, hb1⟩
    · have hm := mFrom_yes hb hg
      have hG := good_iff.1 hg
      have Hb := Lib.hid hb; clear hb
      have Hm := Lib.hid hm; clear hm
      have Hor := Lib.hid hor; clear hor
      have HB := Lib.hid hB; clear hB
      have Hfr := Lib.hid hfr; clear hfr
      have Hfr0 := Lib.hid hfr0; clear hfr0
      have Hg := Lib.hid hg; clear hg
      have Hl := Lib.hid hl; clear hl
      have HG := Lib.hid hG; clear hG
      go_enter Try.func45, Try.ntmps45
      go_wp2_with fail
      with_reducible refine (Hor.out).mono ?_
      rintro e w' ⟨rfl, rfl⟩
      go_wp2_with fail
      with_reducible refine (Hfr0.out).mono ?_
      rintro e w1 ⟨a1, m1, c1, rfl, ho1, hb1⟩
      go_wp2_with fail
      with_reducible refine (piGood_yes _ _ _ _ _ ho1.at HG.out).mono ?_
      rintro e w' ⟨rfl, rfl⟩
      have hcon2 := Hfr.out _ (h.keep hb1)
      have Hcon2 := Lib.hid hcon2; clear hcon2
      go_wp2_with fail
      with_reducible refine (Hcon2.out).mono ?_
      rintro e w2 ⟨a2, m2, c2, rfl, ho2, hb2⟩
      go_wp2
      go_ret2
      rw [Hm.out]
      exact ⟨_, _, _, rfl, ho2.mono hb1.size (Nat.le_refl _), belowTrans hb1 hb2 (Nat.le_refl _)⟩

def mTurnBits (bs : List Int) (b : Int) : List Int × Bool := if bitsB bs = true ∧ 0 ≤ b ∧ b ≤ 1000 then (rotN b.toNat bs, true) else ([], false)
theorem mTurn_yes {bs : List Int} {b : Nat} (h : bitsB bs = true) (hb : b ≤ 1000) : mTurnBits bs b = (rotN b bs, true) := by unfold mTurnBits; rw [if_pos ⟨h, by omega, by omega⟩]; rfl
theorem mTurn_no1 {bs : List Int} {b : Int} (h : bitsB bs = false) : mTurnBits bs b = ([], false) := by unfold mTurnBits; rw [if_neg (by rw [h]; simp)]
theorem mTurn_no2 {bs : List Int} {b : Int} (h : ¬ (0 ≤ b ∧ b ≤ 1000)) : mTurnBits bs b = ([], false) := by unfold mTurnBits; rw [if_neg (fun hh => h hh.2)]
theorem mTurnBits_bound (bs : List Int) (b : Int) : (mTurnBits bs b).1.length ≤ 1048576 := by
  unfold mTurnBits
  split
  · next h => have := (bits_iff.1 h.1).1; show (rotN b.toNat bs).length ≤ _; rw [rotN_length]; omega
  · simp
set_option maxHeartbeats 800000 in
theorem spec_TurnBits (ao : Option Addr) (n cap : Nat) (bs : List Int) (b : Int) (w : World) (h : IntsAt w ao n cap bs) :
    Calls Try.prog 43 #[.slice ao n cap, .int .i64 b] w fun e w' => ∃ ao' n' cap', e = .returned (.tuple #[.slice ao' n' cap', .bool (mTurnBits bs b).2]) ∧ Own w.heap.size w'.heap.size w' ao' n' cap' (mTurnBits bs b).1 ∧ Below w.heap.size w w' := by
  have hor := orBits_any ao n cap bs w h
  cases hb : bitsB bs
  · rw [hb] at hor
    have hm := mTurn_no1 (b := b) hb
    have Hb := Lib.hid hb; clear hb
    have Hm := Lib.hid hm; clear hm
    have Hor := Lib.hid hor; clear hor
    go_enter Try.func43, Try.ntmps43
    go_wp2_with fail
    with_reducible refine (Hor.out).mono ?_
    rintro e w' ⟨rfl, rfl⟩
    go_wp2
    go_ret2
    rw [Hm.out]
    exact ⟨none, 0, 0, rfl, Own.nil _ _ _, Below.refl _ _⟩
  · rw [hb] at hor
    have hB := bits_iff.1 hb
    have hl := h.length
    have h8 : n ≤ 8 := by have := hB.1; omega
    by_cases hk : 0 ≤ b ∧ b ≤ 1000
    · obtain ⟨q, rfl⟩ := Int.eq_ofNat_of_zero_le hk.1
      have hq : q ≤ 1000 := by omega
      have hm := mTurn_yes hb hq
      have htu := orTurn_any ao n cap bs q w h h8 hq
      have Hb := Lib.hid hb; clear hb
      have Hm := Lib.hid hm; clear hm
      have Hor := Lib.hid hor; clear hor
      have HB := Lib.hid hB; clear hB
      have Hl := Lib.hid hl; clear hl
      have Htu := Lib.hid htu; clear htu
      have Hk := Lib.hid hk; clear hk
      go_enter Try.func43, Try.ntmps43
      go_wp2_with fail
      with_reducible refine (Hor.out).mono ?_
      rintro e w' ⟨rfl, rfl⟩
      go_wp2_with fail
      with_reducible refine (l1In_yes _ _ _ _ Hk.out).mono ?_
      rintro e w' ⟨rfl, rfl⟩
      go_wp2_with fail
      with_reducible refine (Htu.out).mono ?_
      rintro e w1 ⟨a1, c1, rfl, ho1, hb1⟩
      go_wp2
      go_ret2
      rw [Hm.out]
      exact ⟨_, _, _, rfl, ho1, hb1⟩
    · have hm := mTurn_no2 (bs := bs) hk
      have Hb := Lib.hid hb; clear hb
      have Hm := Lib.hid hm; clear hm
      have Hor := Lib.hid hor; clear hor
      have HB := Lib.hid hB; clear hB
      have Hl := Lib.hid hl; clear hl
      have Hk := Lib.hid hk; clear hk
      go_enter Try.func43, Try.ntmps43
      go_wp2_with fail
      with_reducible refine (Hor.out).mono ?_
      rintro e w' ⟨rfl, rfl⟩
      go_wp2_with fail
      with_reducible refine (l1In_no _ _ _ _ Hk.out).mono ?_
      rintro e w' ⟨rfl, rfl⟩
      go_wp2
      go_ret2
      rw [Hm.out]
      exact ⟨none, 0, 0, rfl, Own.nil _ _ _, Below.refl _ _⟩
end Go.Proofs.Ythppkfhhidlpiaa
