/- Chapter 4 by the model: gardens, pasts at some steps, trees, lines back, tables. No condition. -/
import Derived.Test.YtaebdafjbkadlaaPaM
import Derived.Test.YtaebdafjbkadlaaRowsR
import Derived.Test.YtaebdafjbkadlaaOrbB
import Derived.Test.YtaebdafjbkadlaaAll
namespace Go.Proofs.Ytaebdafjbkadlaa
open Go.RowKit
set_option linter.unusedVariables false
set_option linter.unusedSimpArgs false
set_option maxRecDepth 20000

theorem take_snocX {xs : List (List Int)} {k n : Nat} (hk : k < n) (hl : xs.length = n) : xs.take (k + 1) = xs.take k ++ [xs.getD k []] := take_snocR rfl hk hl
theorem getD_memR {xs : List (List Int)} {k n : Nat} (hk : k < n) (hl : xs.length = n) : xs.getD k [] ∈ xs := by
  subst hl
  rw [List.getD_eq_getElem?_getD, List.getElem?_eq_getElem hk]; exact List.getElem_mem _
theorem filter_snoc {α : Type} (p : α → Bool) (l : List α) (x : α) : (l ++ [x]).filter p = l.filter p ++ if p x then [x] else [] := by
  rw [List.filter_append]; cases h : p x <;> simp [h]
theorem gardB_nil : gardB [] = false := rfl
theorem gardB_eq {xs : List Int} {n : Nat} {x : Int} (hn : n ≠ 0) (hl : xs.length = n) (hx : xs.getD 0 0 = x) : gardB xs = decide (x < (n : Int) - 1) := by
  have hne : xs ≠ [] := fun e => hn (by rw [← hl, e]; rfl)
  unfold gardB
  rw [decide_eq_true hne, head_getD, hx, hl]; rfl

set_option maxHeartbeats 800000 in
theorem paGarden_any (ao : Option Addr) (n cap : Nat) (xs : List Int) (w : World) (h : IntsAt w ao n cap xs) (hg : Good xs) :
    Calls Try.prog 75 #[.slice ao n cap] w fun e w' => e = .returned (.bool (gardB xs)) ∧ w = w' := by
  have hl := h.length
  have hlen := hg.len
  have hn28 : (n : Int) ≤ 28 := by omega
  by_cases hz : n = 0
  · have hxs : xs = [] := List.eq_nil_of_length_eq_zero (by omega)
    subst hz
    subst hxs
    go_enter Try.func75, Try.ntmps75
    go_wp2
    go_ret
    exact ⟨rfl, rfl⟩
  · obtain ⟨b, o, rfl, hb, hc⟩ := h.cell 0 (by omega)
    have hck := hc 0 (by omega)
    rw [Nat.add_zero] at hck
    generalize hx : xs.getD 0 0 = x at hck
    have hxm := hg.mem (getD_mem hx (show 0 < n by omega) hl)
    have e := gardB_eq hz hl hx
    have hpos : (0 : Int) < n := by omega
    clear hc h
    by_cases hlt : x < (n : Int) - 1
    · rw [decide_eq_true hlt] at e
      have Hx := Lib.hid hx; clear hx
      have Hl := Lib.hid hl; clear hl
      have Hg := Lib.hid hg; clear hg
      have E := Lib.hid e; clear e
      go_enter Try.func75, Try.ntmps75
      go_wp2
      go_ret
      exact ⟨retB (by rw [E.out]), rfl⟩
    · rw [decide_eq_false hlt] at e
      have Hx := Lib.hid hx; clear hx
      have Hl := Lib.hid hl; clear hl
      have Hg := Lib.hid hg; clear hg
      have E := Lib.hid e; clear e
      go_enter Try.func75, Try.ntmps75
      go_wp2
      go_ret
      exact ⟨retB (by rw [E.out]), rfl⟩
theorem spec_IsGarden (ao : Option Addr) (n cap : Nat) (xs : List Int) (w : World) (h : IntsAt w ao n cap xs) :
    Calls Try.prog 27 #[.slice ao n cap] w fun e w' => e = .returned (.tuple #[.bool (mIsGarden xs).1, .bool (mIsGarden xs).2]) ∧ Below w.heap.size w w' := by
  cases hg : goodB xs
  · have hm := mGard_no hg
    have Hg := Lib.hid hg; clear hg
    have Hm := Lib.hid hm; clear hm
    go_enter Try.func27, Try.ntmps27
    go_wp2_with fail
    with_reducible refine (piGood_no _ _ _ _ _ h Hg.out).mono ?_
    rintro e w' ⟨rfl, rfl⟩
    go_wp2
    go_ret2
    rw [Hm.out]
    exact ⟨rfl, Below.refl _ _⟩
  · have hm := mGard_yes hg
    have Hg := Lib.hid hg; clear hg
    have Hm := Lib.hid hm; clear hm
    go_enter Try.func27, Try.ntmps27
    go_wp2_with fail
    with_reducible refine (piGood_yes _ _ _ _ _ h (good_iff.1 Hg.out)).mono ?_
    rintro e w' ⟨rfl, rfl⟩
    go_wp2_with fail
    with_reducible refine (paGarden_any _ _ _ _ _ h (good_iff.1 Hg.out)).mono ?_
    rintro e w' ⟨rfl, rfl⟩
    go_wp2
    go_ret2
    rw [Hm.out]
    exact ⟨rfl, Below.refl _ _⟩

set_option maxHeartbeats 1600000 in
theorem paGardens_any (n : Nat) (w : World) (hn : n ≤ 28) :
    Calls Try.prog 71 #[.int .i64 n] w fun e w' => ∃ ao m c, e = .returned (.slice ao m c) ∧ RowsR w.heap.size w'.heap.size w' ao m c (gardL n) ∧ Below w.heap.size w w' := by
  have hcon := piAll_any 28 n n w hn hn hn
  have hG : ∀ x ∈ allL n, Good x := fun x hx => (allL_good hn hx).1
  have hle := allL_le hn
  change Calls _ _ _ _ (fun e w' => ∃ ao' n' cap', e = .returned (.slice ao' n' cap') ∧ OwnRows w.heap.size w'.heap.size w' ao' n' cap' (allL n) ∧ Below w.heap.size w w') at hcon
  unfold gardL
  generalize allL n = A at *
  have Hcon := Lib.hid hcon; clear hcon
  have HG := Lib.hid hG; clear hG
  go_enter Try.func71, Try.ntmps71
  go_wp2_with fail
  with_reducible refine (Hcon.out).mono ?_
  rintro e w1 ⟨a1, n1, c1, rfl, ho1, hb1⟩
  have hn1 := ho1.length
  have hs1 := hb1.size
  obtain ⟨avs, hsp, _⟩ := ho1.sp
  have hn8 : n1 ≤ 3718 := by omega
  clear ho1
  have Hn1 := Lib.hid hn1; clear hn1
  go_wp2_with fail
  go_loopw [3, 10] (fun v i wr => ∃ (j : Nat) (a : Option Addr) (p c : Nat) (vs : List Value), j ≤ n1 ∧ p ≤ j ∧ i = .int .i64 j ∧ v = .slice a p c ∧ Sp w1.heap.size wr.heap.size w.heap.size w1.heap.size wr a p c vs ((A.take j).filter gardB) ∧ Below w1.heap.size w1 wr) (fun _ i _ => n1 - (intOf i).toNat)
  case atStart => exact ⟨0, none, 0, 0, [], Nat.zero_le _, Nat.le_refl _, rfl, rfl, Sp.nil _ _ _ _ _, Below.refl _ _⟩
  case round =>
    obtain ⟨j, a, p, c, vs, hj, hp, rfl, rfl, hv, hb⟩ := hrel
    by_cases hlt : j < n1
    · obtain ⟨b, oo, a3, m3, c3, rfl, hbl, hck, _, hrow⟩ := (hsp.keep hb).getRow hlt
      have hg3 := HG.out _ (getD_memR hlt Hn1.out)
      have e := filter_snoc gardB (A.take j) (A.getD j [])
      rw [← take_snocX hlt Hn1.out] at e
      generalize A.getD j [] = x at *
      have hcon := paGarden_any a3 m3 c3 x wr hrow.at hg3
      cases hgb : gardB x
      · rw [hgb] at hcon
        simp only [hgb, if_true, Bool.false_eq_true, if_false, List.append_nil, Bool.not_true, Bool.not_false] at e
        have Hcon := Lib.hid hcon; clear hcon
        have E := Lib.hid e; clear e
        have Hg3 := Lib.hid hg3; clear hg3
        have Hgb := Lib.hid hgb; clear hgb
        go_wp2_with fail
        with_reducible refine (Hcon.out).mono ?_
        rintro e w2 ⟨rfl, rfl⟩
        go_wp2
        go_roundw
        case rel => exact ⟨j + 1, a, p, c, vs, by omega, by omega, by go_num, rfl, by rw [E.out]; simpa using hv, hb⟩
        case measure => simp [intOf]; omega
      · rw [hgb] at hcon
        simp only [hgb, if_true, Bool.false_eq_true, if_false, List.append_nil, Bool.not_true, Bool.not_false] at e
        have Hcon := Lib.hid hcon; clear hcon
        have E := Lib.hid e; clear e
        have Hg3 := Lib.hid hg3; clear hg3
        have Hgb := Lib.hid hgb; clear hgb
        go_wp2_with fail
        with_reducible refine (Hcon.out).mono ?_
        rintro e w2 ⟨rfl, rfl⟩
        go_wp2_with (at_builtin; refine wpList_pushSp wr rfl _ _ rfl w1.heap.size wr.heap.size w.heap.size w1.heap.size a p c vs _ rfl hv a3 m3 c3 x hrow rfl (by omega) hb.size ?_)
        intro a4 c4 w4 hv4 hc4 _
        have hb4 := hb.trans (hv.below hc4 hb.size)
        clear hv hc4
        go_wp2
        go_roundw
        case rel => exact ⟨j + 1, a4, p + 1, c4, _, by omega, by omega, by go_num, rfl, by rw [E.out]; exact hv4, hb4⟩
        case measure => simp [intOf]; omega
    · obtain rfl : n1 = j := by omega
      rw [take_allR Hn1.out] at hv
      have hs := hb.size
      go_wp2
      go_ret
      exact ⟨_, _, _, rfl, hv.toR (by omega) (by omega) (by omega) (by omega), belowTrans hb1 hb (Nat.le_refl _)⟩
theorem spec_GardensOf (n : Int) (w : World) :
    Calls Try.prog 22 #[.int .i64 n] w fun e w' => ∃ ao' n' cap', e = .returned (.tuple #[.slice ao' n' cap', .bool (mGardensOf n).2]) ∧ RowsR w.heap.size w'.heap.size w' ao' n' cap' (mGardensOf n).1 ∧ Below w.heap.size w w' := by
  by_cases hn : 0 ≤ n ∧ n ≤ 28
  · have hin := hn
    obtain ⟨m, rfl⟩ := Int.eq_ofNat_of_zero_le hn.1
    have hm := mGards_yes m (by omega)
    have hcon := paGardens_any m w (by omega)
    have Hn := Lib.hid hn; clear hn
    have Hm := Lib.hid hm; clear hm
    have Hin := Lib.hid hin; clear hin
    have Hcon := Lib.hid hcon; clear hcon
    go_enter Try.func22, Try.ntmps22
    go_wp2_with fail
    with_reducible refine (piCards_yes _ _ Hin.out).mono ?_
    rintro e w' ⟨rfl, rfl⟩
    go_wp2_with fail
    with_reducible refine (Hcon.out).mono ?_
    rintro e w1 ⟨a1, m1, c1, rfl, ho1, hb1⟩
    go_wp2
    go_ret2
    rw [Hm.out]
    exact ⟨_, _, _, rfl, ho1, hb1⟩
  · have hm := mGards_no n hn
    have Hn := Lib.hid hn; clear hn
    have Hm := Lib.hid hm; clear hm
    go_enter Try.func22, Try.ntmps22
    go_wp2_with fail
    with_reducible refine (piCards_no _ _ Hn.out).mono ?_
    rintro e w' ⟨rfl, rfl⟩
    go_wp2
    go_ret2
    rw [Hm.out]
    exact ⟨none, 0, 0, rfl, RowsR.nil _ _ _, Below.refl _ _⟩
theorem spec_CountGardens (n : Int) (w : World) :
    Calls Try.prog 50 #[.int .i64 n] w fun e w' => e = .returned (.tuple #[.int .i64 (mCountGardens n).1, .bool (mCountGardens n).2]) ∧ Below w.heap.size w w' := by
  by_cases hn : 0 ≤ n ∧ n ≤ 28
  · have hin := hn
    obtain ⟨m, rfl⟩ := Int.eq_ofNat_of_zero_le hn.1
    have hm := mCGard_yes m (by omega)
    have hcon := paGardens_any m w (by omega)
    have Hn := Lib.hid hn; clear hn
    have Hm := Lib.hid hm; clear hm
    have Hin := Lib.hid hin; clear hin
    have Hcon := Lib.hid hcon; clear hcon
    go_enter Try.func50, Try.ntmps50
    go_wp2_with fail
    with_reducible refine (piCards_yes _ _ Hin.out).mono ?_
    rintro e w' ⟨rfl, rfl⟩
    go_wp2_with fail
    with_reducible refine (Hcon.out).mono ?_
    rintro e w1 ⟨a1, m1, c1, rfl, ho1, hb1⟩
    have hl1 := ho1.length
    have Hl1 := Lib.hid hl1; clear hl1
    go_wp2
    go_ret2
    rw [Hm.out]
    exact ⟨by rw [Hl1.out]; rfl, hb1⟩
  · have hm := mCGard_no n hn
    have Hn := Lib.hid hn; clear hn
    have Hm := Lib.hid hm; clear hm
    go_enter Try.func50, Try.ntmps50
    go_wp2_with fail
    with_reducible refine (piCards_no _ _ Hn.out).mono ?_
    rintro e w' ⟨rfl, rfl⟩
    go_wp2
    go_ret2
    rw [Hm.out]
    exact ⟨rfl, Below.refl _ _⟩
end Go.Proofs.Ytaebdafjbkadlaa
