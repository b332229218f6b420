/- Chapter 5 by the model: IsRow, StepRow, RowSteps, PlayRow, SortRow; and what the program does for IsRow and SortRow. No condition. -/
import Derived.Test.YtbneibpakopllaaPlay
import Derived.Test.YtbneibpakopllaaPut
import Derived.Test.YtbneibpakopllaaRowM
namespace Go.Proofs.Ytbneibpakopllaa
open Go.RowKit
set_option linter.unusedVariables false
set_option linter.unusedSimpArgs false
set_option maxRecDepth 20000

theorem mPlayRow_bound (xs : List Int) (k : Int) : (mPlayRow xs k).1.length ≤ 1048576 ∧ total (mPlayRow xs k).1 ≤ 1048576 := by
  unfold mPlayRow
  split
  · next h =>
    have h1 := playR_length k.toNat xs
    have h3 := total_le (playR k.toNat xs) 28 (fun ys hy => (playR_row (row_iff.1 h.1) _ ys hy).len)
    exact ⟨by show (playR k.toNat xs).length ≤ _; omega, by show total (playR k.toNat xs) ≤ _; omega⟩
  · simp [total]

set_option maxHeartbeats 400000 in
theorem piSumB_any (ao : Option Addr) (n cap : Nat) (xs : List Int) (w : World) (h : IntsAt w ao n cap xs) (hn28 : n ≤ 28) (hg : ∀ x ∈ xs, 1 ≤ x ∧ x ≤ 28) :
    Calls Try.prog 95 #[.slice ao n cap] w fun e w' => e = .returned (.int .i64 xs.sum) ∧ w = w' := by
  have hn := h.lenInt
  go_enter Try.func95, Try.ntmps95
  go_wp2
  go_loop [3, 8] (fun s i => ∃ k : Nat, ∃ t : Int, k ≤ n ∧ i = .int .i64 k ∧ s = .int .i64 t ∧ (xs.take k).sum = t ∧ 0 ≤ t ∧ t ≤ 28 * k) (fun _ i => n - (intOf i).toNat)
  case atStart => exact ⟨0, 0, Nat.zero_le _, rfl, rfl, rfl, by omega, by omega⟩
  case round =>
    obtain ⟨k, t, hk, rfl, rfl, ht, ht0, ht1⟩ := hrel
    have Ht := Lib.hid ht; clear ht
    by_cases hlt : k < n
    · obtain ⟨b, o, rfl, hb, hc⟩ := h.cell k hlt
      have hck := hc k hlt
      clear hc
      generalize hx : xs.getD k 0 = x at hck
      have Hx := Lib.hid hx; clear hx
      have hm := hg _ (getD_mem Hx.out hlt h.length)
      have e := take_snoc Hx.out hlt h.length
      have e2 : (xs.take (k + 1)).sum = t + x := by rw [e, List.sum_append, Ht.out]; simp
      have E2 := Lib.hid e2; clear e2
      have Hg := Lib.hid hg; clear hg
      clear e h
      go_wp2
      go_round
      case rel => exact ⟨k + 1, t + x, by omega, by go_num, rfl, E2.out, by omega, by omega⟩
      case measure => simp [intOf]; omega
    · go_wp2
      go_ret
      obtain rfl : n = k := by omega
      have hh := Ht.out
      rw [take_all h.length] at hh
      exact ⟨by first | rfl | (rw [hh]; rfl), rfl⟩

set_option maxHeartbeats 1000000 in
theorem roGood_any (ao : Option Addr) (n cap : Nat) (xs : List Int) (w : World) (h : IntsAt w ao n cap xs) :
    Calls Try.prog 112 #[.slice ao n cap] w fun e w' => e = .returned (.bool (rowB xs)) ∧ w = w' := by
  have hn := h.lenInt
  by_cases hlen : 28 < n
  · have hbad : rowB xs = false := row_far (by rw [h.length]; exact hlen)
    go_enter Try.func112, Try.ntmps112
    go_wp2
    go_ret
    exact ⟨by first | rfl | (rw [hbad]; rfl), rfl⟩
  by_cases hall : ∀ x ∈ xs, 1 ≤ x ∧ x ≤ 28
  · have hd : decide (∀ x ∈ xs, 1 ≤ x ∧ x ≤ 28) = true := decide_eq_true hall
    have hfin : rowB xs = decide (xs.sum ≤ 28) := by
      unfold rowB
      rw [decide_eq_decide]
      exact ⟨fun h => h.2, fun h' => ⟨fun x hx => (hall x hx).1, h'⟩⟩
    have hc1 := l1All_any ao n cap xs 1 28 w h
    rw [hd] at hc1
    have hc2 := piSumB_any ao n cap xs w h (by omega) hall
    generalize xs.sum = S at *
    have Hall := Lib.hid hall; clear hall
    have Hc1 := Lib.hid hc1; clear hc1
    have Hc2 := Lib.hid hc2; clear hc2
    have Hfin := Lib.hid hfin; clear hfin
    have Hd := Lib.hid hd; clear hd
    go_enter Try.func112, Try.ntmps112
    go_wp2_with fail
    with_reducible refine (Hc1.out).mono ?_
    rintro e w' ⟨rfl, rfl⟩
    go_wp2_with fail
    with_reducible refine (Hc2.out).mono ?_
    rintro e w' ⟨rfl, rfl⟩
    go_wp2
    go_ret
    exact ⟨by rw [Hfin.out]; rfl, rfl⟩
  · have hd : decide (∀ x ∈ xs, 1 ≤ x ∧ x ≤ 28) = false := decide_eq_false hall
    have hbad : rowB xs = false := by
      unfold rowB; rw [decide_eq_false_iff_not]
      intro hh
      exact hall fun x hx => RowOk.mem hh hx
    have hc1 := l1All_any ao n cap xs 1 28 w h
    rw [hd] at hc1
    have Hall := Lib.hid hall; clear hall
    have Hbad := Lib.hid hbad; clear hbad
    have Hc1 := Lib.hid hc1; clear hc1
    have Hd := Lib.hid hd; clear hd
    go_enter Try.func112, Try.ntmps112
    go_wp2_with fail
    with_reducible refine (Hc1.out).mono ?_
    rintro e w' ⟨rfl, rfl⟩
    go_wp2
    go_ret
    exact ⟨by first | rfl | (rw [Hbad.out]; rfl), rfl⟩
theorem roGood_yes (ao : Option Addr) (n cap : Nat) (xs : List Int) (w : World) (h : IntsAt w ao n cap xs) (hg : RowOk xs) :
    Calls Try.prog 112 #[.slice ao n cap] w fun e w' => e = .returned (.bool true) ∧ w = w' := by
  have := roGood_any ao n cap xs w h; rw [row_iff.2 hg] at this; exact this
theorem roGood_no (ao : Option Addr) (n cap : Nat) (xs : List Int) (w : World) (h : IntsAt w ao n cap xs) (hg : rowB xs = false) :
    Calls Try.prog 112 #[.slice ao n cap] w fun e w' => e = .returned (.bool false) ∧ w = w' := by
  have := roGood_any ao n cap xs w h; rw [hg] at this; exact this
theorem impl_IsRow (ao : Option Addr) (n cap : Nat) (xs : List Int) (w : World) (h : IntsAt w ao n cap xs) :
    Calls Try.prog 50 #[.slice ao n cap] w fun e w' => e = .returned (.bool (mIsRow xs)) ∧ Below w.heap.size w w' := callsBelow (isRow_any ao n cap xs w h)
theorem roMany_any (k : Int) (w : World) :
    Calls Try.prog 121 #[.int .i64 k] w fun e w' => e = .returned (.bool (decide (0 ≤ k ∧ k ≤ 1000))) ∧ w = w' := by
  have hcon := l1In_any k 0 1000 w
  have Hcon := Lib.hid hcon; clear hcon
  go_enter Try.func121, Try.ntmps121
  go_wp2_with fail
  with_reducible refine (Hcon.out).mono ?_
  rintro e w' ⟨rfl, rfl⟩
  go_wp2
  go_ret
  exact ⟨by
    show Ending.returned (Value.bool (decide (0 ≤ k) && decide (k ≤ 1000))) = _
    rw [Bool.decide_and], rfl⟩
theorem roMany_yes (k : Int) (w : World) (h : 0 ≤ k ∧ k ≤ 1000) : Calls Try.prog 121 #[.int .i64 k] w fun e w' => e = .returned (.bool true) ∧ w = w' := by
  have := roMany_any k w; rw [decide_eq_true h] at this; exact this
theorem roMany_no (k : Int) (w : World) (h : ¬ (0 ≤ k ∧ k ≤ 1000)) : Calls Try.prog 121 #[.int .i64 k] w fun e w' => e = .returned (.bool false) ∧ w = w' := by
  have := roMany_any k w; rw [decide_eq_false h] at this; exact this

set_option maxHeartbeats 1600000 in
theorem roStep_any (ao : Option Addr) (n cap : Nat) (xs : List Int) (w : World) (h : IntsAt w ao n cap xs) (hg : RowOk xs) :
    Calls Try.prog 117 #[.slice ao n cap] w fun e w' => ∃ ao' n' cap', e = .returned (.slice ao' n' cap') ∧ Own w.heap.size w'.heap.size w' ao' n' cap' (rowStepL xs) ∧ Below w.heap.size w w' := by
  have hlen := hg.len
  have hl0 := h.length
  by_cases hz : n = 0
  · have hxs : xs = [] := List.eq_nil_of_length_eq_zero (by omega)
    subst hz
    subst hxs
    go_enter Try.func117, Try.ntmps117
    go_wp2
    go_ret
    exact ⟨none, 0, 0, rfl, Own.nil _ _ _, Below.refl _ _⟩
  · have hn : (n : Int) ≤ 28 := by omega
    have hne : ((n : Int) == 0) = false := by simp; omega
    have hxs : xs ≠ [] := fun e => hz (by rw [← hl0, e]; rfl)
    have hsg := Own.single w (n : Int)
    have hba := belowAlloc w (.cells #[.int .i64 (n : Int)] 3)
    have Hxs := Lib.hid hxs; clear hxs
    have Hg := Lib.hid hg; clear hg
    have Hl0 := Lib.hid hl0; clear hl0
    have Hsg := Lib.hid hsg; clear hsg
    have Hba := Lib.hid hba; clear hba
    go_enter Try.func117, Try.ntmps117
    go_wp2
    go_loopw [3, 14] (fun v i wr => ∃ (k : Nat) (a : Option Addr) (m c : Nat), k ≤ n ∧ i = .int .i64 k ∧ v = .slice a m c ∧ Own w.heap.size wr.heap.size wr a m c ((n : Int) :: lowL (xs.take k)) ∧ Below w.heap.size w wr) (fun _ i _ => n - (intOf i).toNat)
    case atStart => exact ⟨0, _, _, _, Nat.zero_le _, rfl, rfl, Hsg.out, Hba.out⟩
    case round =>
      obtain ⟨k, a, m, c, hk, rfl, rfl, hown, hb⟩ := hrel
      have hm := hown.length
      have hml := lowL_length (xs.take k)
      have htl : (xs.take k).length ≤ 28 := by rw [List.length_take]; omega
      rw [List.length_cons] at hm
      have Hm := Lib.hid hm; clear hm
      by_cases hlt : k < n
      · have h1 := h.keep hb
        obtain ⟨b, oo, rfl, hbl, hc⟩ := h1.cell k hlt
        have hck := hc k hlt
        clear hc h1
        generalize hx : xs.getD k 0 = x at hck
        have hxm := Hg.out.mem (getD_mem hx hlt Hl0.out)
        have e := lowL_snoc (xs.take k) x
        rw [← take_snoc hx hlt Hl0.out] at e
        have hm28 : m ≤ 29 := by have := Hm.out; omega
        have Hx := Lib.hid hx; clear hx
        by_cases hx1 : 1 < x
        · rw [if_pos hx1] at e
          have E := Lib.hid e; clear e
          go_wp2_with (at_builtin; refine wpList_push wr rfl _ _ rfl w.heap.size wr.heap.size a m c _ rfl hown _ rfl (by omega) hb.size ?_)
          intro ao2 cap2 w2 ho2 hc2
          have hb2 := hown.chgBelow hc2 hb.size
          clear hown
          go_wp2
          go_roundw
          case rel => exact ⟨k + 1, ao2, _, cap2, by omega, by go_num, rfl, by rw [E.out]; exact ho2, hb.trans hb2⟩
          case measure => simp [intOf]; omega
        · rw [if_neg hx1, List.append_nil] at e
          have E := Lib.hid e; clear e
          go_wp2
          go_roundw
          case rel => exact ⟨k + 1, a, m, c, by omega, by go_num, rfl, by rw [E.out]; exact hown, hb⟩
          case measure => simp [intOf]; omega
      · obtain rfl : n = k := by omega
        rw [take_all Hl0.out] at hown
        go_wp2
        go_ret
        refine ⟨_, _, _, rfl, ?_, hb⟩
        rw [rowStepL_cons Hxs.out, Hl0.out]
        exact hown

theorem spec_StepRow (ao : Option Addr) (n cap : Nat) (xs : List Int) (w : World) (h : IntsAt w ao n cap xs) :
    Calls Try.prog 49 #[.slice ao n cap] w fun e w' => ∃ ao' n' cap', e = .returned (.tuple #[.slice ao' n' cap', .bool (mStepRow xs).2]) ∧ Own w.heap.size w'.heap.size w' ao' n' cap' (mStepRow xs).1 ∧ Below w.heap.size w w' := by
  cases hg : rowB xs
  · have hm := mStepRow_no hg
    have Hg := Lib.hid hg; clear hg
    have Hm := Lib.hid hm; clear hm
    go_enter Try.func49, Try.ntmps49
    go_wp2_with fail
    with_reducible refine (roGood_no _ _ _ _ _ h Hg.out).mono ?_
    rintro e w' ⟨rfl, rfl⟩
    go_wp2
    go_ret2
    rw [Hm.out]
    exact ⟨none, 0, 0, rfl, Own.nil _ _ _, Below.refl _ _⟩
  · have hm := mStepRow_yes hg
    have Hg := Lib.hid hg; clear hg
    have Hm := Lib.hid hm; clear hm
    go_enter Try.func49, Try.ntmps49
    go_wp2_with fail
    with_reducible refine (roGood_yes _ _ _ _ _ h (row_iff.1 Hg.out)).mono ?_
    rintro e w' ⟨rfl, rfl⟩
    go_wp2_with fail
    with_reducible refine (roStep_any _ _ _ _ _ h (row_iff.1 Hg.out)).mono ?_
    rintro e w' ⟨ao', n', cap', rfl, ho, hb⟩
    go_wp2
    go_ret2
    rw [Hm.out]
    exact ⟨_, _, _, rfl, ho, hb⟩

set_option maxHeartbeats 1600000 in
theorem spec_RowSteps (ao : Option Addr) (n cap : Nat) (xs : List Int) (k : Int) (w : World) (h : IntsAt w ao n cap xs) :
    Calls Try.prog 57 #[.slice ao n cap, .int .i64 k] w fun e w' => ∃ ao' n' cap', e = .returned (.tuple #[.slice ao' n' cap', .bool (mRowSteps xs k).2]) ∧ Own w.heap.size w'.heap.size w' ao' n' cap' (mRowSteps xs k).1 ∧ Below w.heap.size w w' := by
  cases hg : rowB xs
  · have hm := mRowS_no1 (k := k) hg
    have Hg := Lib.hid hg; clear hg
    have Hm := Lib.hid hm; clear hm
    go_enter Try.func57, Try.ntmps57
    go_wp2_with fail
    with_reducible refine (roGood_no _ _ _ _ _ h Hg.out).mono ?_
    rintro e w' ⟨rfl, rfl⟩
    go_wp2
    go_ret2
    rw [Hm.out]
    exact ⟨none, 0, 0, rfl, Own.nil _ _ _, Below.refl _ _⟩
  · by_cases hk : 0 ≤ k ∧ k ≤ 1000
    · obtain ⟨q, rfl⟩ := Int.eq_ofNat_of_zero_le hk.1
      have hq : q ≤ 1000 := by omega
      have hm := mRowS_yes hg hq
      have hG := row_iff.1 hg
      have hlen := hG.len
      have hl := h.length
      have hcp := l1Own_any ao n cap xs w h (by omega)
      have Hg := Lib.hid hg; clear hg
      have Hm := Lib.hid hm; clear hm
      have Hk := Lib.hid hk; clear hk
      have HG := Lib.hid hG; clear hG
      have Hcp := Lib.hid hcp; clear hcp
      have Hl := Lib.hid hl; clear hl
      go_enter Try.func57, Try.ntmps57
      go_wp2_with fail
      with_reducible refine (roGood_yes _ _ _ _ _ h HG.out).mono ?_
      rintro e w' ⟨rfl, rfl⟩
      go_wp2_with fail
      with_reducible refine (roMany_yes _ _ Hk.out).mono ?_
      rintro e w' ⟨rfl, rfl⟩
      go_wp2_with fail
      with_reducible refine (Hcp.out).mono ?_
      rintro e w1 ⟨a1, c1, rfl, ho1, hb1⟩
      go_wp2_with fail
      go_loopw [1, 6] (fun i v wr => ∃ (j : Nat) (a : Option Addr) (m c : Nat), j ≤ q ∧ i = .int .i64 (q - j : Nat) ∧ v = .slice a m c ∧ Own w.heap.size wr.heap.size wr a m c (rowsL j xs) ∧ Below w.heap.size w wr) (fun i _ _ => (intOf i).toNat)
      case atStart => exact ⟨0, a1, n, c1, Nat.zero_le _, rfl, rfl, ho1, hb1⟩
      case round =>
        obtain ⟨j, a, m, c, hj, rfl, rfl, hown, hb⟩ := hrel
        have hGj := rowsL_row HG.out j
        by_cases hlt : j < q
        · have hkj : 0 < q - j := by omega
          have hcon := roStep_any a m c _ wr hown.at hGj
          have Hcon := Lib.hid hcon; clear hcon
          have HGj := Lib.hid hGj; clear hGj
          go_wp2_with fail
          with_reducible refine (Hcon.out).mono ?_
          rintro e w2 ⟨a2, m2, c2, rfl, ho2, hb2⟩
          go_wp2
          go_roundw
          case rel => exact ⟨j + 1, a2, m2, c2, by omega, valI (by omega), rfl, ho2.mono hb.size (Nat.le_refl _), belowTrans hb hb2 (Nat.le_refl _)⟩
          case measure => simp [intOf]; omega
        · obtain rfl : q = j := by omega
          go_wp2
          go_ret2
          rw [Hm.out]
          exact ⟨_, _, _, rfl, hown, hb⟩
    · have hm := mRowS_no2 (xs := xs) hk
      have Hg := Lib.hid hg; clear hg
      have Hm := Lib.hid hm; clear hm
      have Hk := Lib.hid hk; clear hk
      go_enter Try.func57, Try.ntmps57
      go_wp2_with fail
      with_reducible refine (roGood_yes _ _ _ _ _ h (row_iff.1 Hg.out)).mono ?_
      rintro e w' ⟨rfl, rfl⟩
      go_wp2_with fail
      with_reducible refine (roMany_no _ _ Hk.out).mono ?_
      rintro e w' ⟨rfl, rfl⟩
      go_wp2
      go_ret2
      rw [Hm.out]
      exact ⟨none, 0, 0, rfl, Own.nil _ _ _, Below.refl _ _⟩

set_option maxHeartbeats 1600000 in
set_option maxRecDepth 100000 in
theorem spec_PlayRow (ao : Option Addr) (n cap : Nat) (xs : List Int) (k : Int) (w : World) (h : IntsAt w ao n cap xs) :
    Calls Try.prog 61 #[.slice ao n cap, .int .i64 k] w fun e w' => ∃ ao' n' cap', e = .returned (.tuple #[.slice ao' n' cap', .bool (mPlayRow xs k).2]) ∧ OwnRows w.heap.size w'.heap.size w' ao' n' cap' (mPlayRow xs k).1 ∧ Below w.heap.size w w' := by
  cases hg : rowB xs
  · have hm := mPlayR_no1 (k := k) hg
    have Hg := Lib.hid hg; clear hg
    have Hm := Lib.hid hm; clear hm
    go_enter Try.func61, Try.ntmps61
    go_wp2_with fail
    with_reducible refine (roGood_no _ _ _ _ _ h Hg.out).mono ?_
    rintro e w' ⟨rfl, rfl⟩
    go_wp2
    go_ret2
    rw [Hm.out]
    exact ⟨none, 0, 0, rfl, OwnRows.nil _ _ _, Below.refl _ _⟩
  · by_cases hk : 0 ≤ k ∧ k ≤ 1000
    · obtain ⟨q, rfl⟩ := Int.eq_ofNat_of_zero_le hk.1
      have hq : q ≤ 1000 := by omega
      have hm := mPlayR_yes hg hq
      have hG := row_iff.1 hg
      have hlen := hG.len
      have hl := h.length
      have hcp := l1Own_any ao n cap xs w h (by omega)
      have Hg := Lib.hid hg; clear hg
      have Hm := Lib.hid hm; clear hm
      have Hk := Lib.hid hk; clear hk
      have HG := Lib.hid hG; clear hG
      have Hcp := Lib.hid hcp; clear hcp
      have Hl := Lib.hid hl; clear hl
      go_enter Try.func61, Try.ntmps61
      go_wp2_with fail
      with_reducible refine (roGood_yes _ _ _ _ _ h HG.out).mono ?_
      rintro e w' ⟨rfl, rfl⟩
      go_wp2_with fail
      with_reducible refine (roMany_yes _ _ Hk.out).mono ?_
      rintro e w' ⟨rfl, rfl⟩
      go_wp2_with fail
      with_reducible refine (Hcp.out).mono ?_
      rintro e w1 ⟨a1, c1, rfl, ho1, hb1⟩
      have hone := OwnRows.one ho1 w.heap.size (Nat.le_refl _) hb1.size (Nat.le_succ _)
      have hb2 := hb1.alloc hb1.size (.cells #[.slice a1 n c1] 22)
      clear ho1 hb1
      go_wp2_with fail
      go_loopw [1, 6] (fun i v wr => ∃ (j : Nat) (a : Option Addr) (c : Nat), j ≤ q ∧ i = .int .i64 (q - j : Nat) ∧ v = .slice a (j + 1) c ∧ OwnRows w.heap.size wr.heap.size wr a (j + 1) c (playR j xs) ∧ Below w.heap.size w wr) (fun i _ _ => (intOf i).toNat)
      case atStart => exact ⟨0, _, 1, Nat.zero_le _, rfl, rfl, by simpa [playR, rowsL] using hone, hb2⟩
      case round =>
        obtain ⟨j, a, c, hj, rfl, rfl, hown, hb⟩ := hrel
        clear hone hb2
        by_cases hlt : j < q
        · have hkj : 0 < q - j := by omega
          obtain ⟨b, oo, rfl, hbl, hc⟩ := hown.at.cell j (by omega)
          obtain ⟨a2, m2, c2, hck, hi⟩ := hc j (by omega)
          clear hc
          rw [playR_getD j j xs (Nat.le_refl _)] at hi
          have hcon := roStep_any a2 m2 c2 _ wr hi (rowsL_row HG.out j)
          have hsucc := playR_succ j xs
          have ej : (((j + 1 : Nat)) : Int) - 1 = (j : Int) := by omega
          have Hcon := Lib.hid hcon; clear hcon
          have Hsucc := Lib.hid hsucc; clear hsucc
          go_wp2_with fail
          with_reducible refine (Hcon.out).mono ?_
          rintro e w2 ⟨a3, m3, c3, rfl, ho3, hb3⟩
          have hown1 := hown.keep hb3
          have hbw := belowTrans hb hb3 (Nat.le_refl _)
          clear hown hck hi ej
          go_wp2_with (at_builtin; refine wpList_pushR w2 rfl _ _ rfl w.heap.size wr.heap.size _ (j + 1) c _ rfl hown1 hb3.size a3 m3 c3 wr.heap.size _ ho3 hb.size ho3.ge rfl (by omega) hbw.size ?_)
          intro a4 c4 w4 ho4 hc4
          have hb4 := hbw.trans (hown1.chgBelow hc4 hbw.size)
          clear hown1 hc4
          go_wp2
          go_roundw
          case rel => exact ⟨j + 1, a4, c4, by omega, valI (by omega), rfl, by rw [← Hsucc.out]; exact ho4, hb4⟩
          case measure => simp [intOf] <;> omega
        · obtain rfl : q = j := by omega
          go_wp2
          go_ret2
          rw [Hm.out]
          exact ⟨_, _, _, rfl, hown, hb⟩
    · have hm := mPlayR_no2 (xs := xs) hk
      have Hg := Lib.hid hg; clear hg
      have Hm := Lib.hid hm; clear hm
      have Hk := Lib.hid hk; clear hk
      go_enter Try.func61, Try.ntmps61
      go_wp2_with fail
      with_reducible refine (roGood_yes _ _ _ _ _ h (row_iff.1 Hg.out)).mono ?_
      rintro e w' ⟨rfl, rfl⟩
      go_wp2_with fail
      with_reducible refine (roMany_no _ _ Hk.out).mono ?_
      rintro e w' ⟨rfl, rfl⟩
      go_wp2
      go_ret2
      rw [Hm.out]
      exact ⟨none, 0, 0, rfl, OwnRows.nil _ _ _, Below.refl _ _⟩


/-! ### Sorted -/
set_option maxHeartbeats 800000 in
theorem impl_SortRow (ao : Option Addr) (n cap : Nat) (xs : List Int) (w : World) (h : IntsAt w ao n cap xs) :
    Calls Try.prog 51 #[.slice ao n cap] w fun e w' => ∃ ao' n' cap', e = .returned (.tuple #[.slice ao' n' cap', .bool (mSortRow xs).2]) ∧ Own w.heap.size w'.heap.size w' ao' n' cap' (mSortRow xs).1 ∧ Below w.heap.size w w' := by
  cases hg : rowB xs
  · have hm := mSortR_no hg
    have Hg := Lib.hid hg; clear hg
    have Hm := Lib.hid hm; clear hm
    go_enter Try.func51, Try.ntmps51
    go_wp2_with fail
    with_reducible refine (isRow_no _ _ _ _ _ h Hg.out).mono ?_
    rintro e w' ⟨rfl, rfl⟩
    go_wp2
    go_ret2
    rw [Hm.out]
    exact ⟨none, 0, 0, rfl, Own.nil _ _ _, Below.refl _ _⟩
  · have hm := mSortR_yes hg
    have hG := row_iff.1 hg
    have hr := rowsAt_one h
    have hcon2 := inOrder_any _ _ _ _ _ hr (by simp only [List.flatten_cons, List.flatten_nil, List.append_nil]; have := hG.len; omega) (by
      intro x hx
      simp only [List.flatten_cons, List.flatten_nil, List.append_nil] at hx
      have := hG.mem hx
      omega)
    simp only [List.flatten_cons, List.flatten_nil, List.append_nil] at hcon2
    have hal := belowAlloc w (.cells #[.slice ao n cap] 22)
    have Hg := Lib.hid hg; clear hg
    have Hm := Lib.hid hm; clear hm
    have HG := Lib.hid hG; clear hG
    have Hcon2 := Lib.hid hcon2; clear hcon2
    have Hr := Lib.hid hr; clear hr
    have Hal := Lib.hid hal; clear hal
    go_enter Try.func51, Try.ntmps51
    go_wp2_with fail
    with_reducible refine (isRow_yes _ _ _ _ _ h HG.out).mono ?_
    rintro e w' ⟨rfl, rfl⟩
    go_wp2_with fail
    with_reducible refine (Hcon2.out).mono ?_
    rintro e w2 ⟨a2, m2, c2, rfl, ho2, hb2⟩
    go_wp2
    go_ret2
    rw [Hm.out]
    exact ⟨_, _, _, rfl, ho2.mono (by simp) (Nat.le_refl _), belowTrans Hal.out hb2 (Nat.le_refl _)⟩
end Go.Proofs.Ytbneibpakopllaa
