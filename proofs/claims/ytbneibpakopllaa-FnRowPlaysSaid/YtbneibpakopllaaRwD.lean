/- The draws of chapter 5's laws: rows, or something near them. No condition but sizes. -/
import Derived.Test.YtbneibpakopllaaGd
import Derived.Test.YtbneibpakopllaaRowB
namespace Go.Proofs.Ytbneibpakopllaa
open Go.RowKit
set_option linter.unusedVariables false
set_option linter.unusedSimpArgs false

/-- one of some numbers that are laid for it -/
theorem amongNew_any (xs : List Int) (w : World) (g A : Nat) (h : Cur w g A) (hA : A ≤ 900000000) (hn : 1 ≤ xs.length) (hn2 : xs.length ≤ 1048576) :
    Calls Try.prog 105 #[.pointer (some ⟨g, 0, none⟩), .slice (some ⟨w.heap.size, 0, none⟩) xs.length xs.length] (w.alloc (.cells (xs.map (Value.int .i64)).toArray 3)) fun e w' => ∃ z, z ∈ xs ∧ e = .returned (.int .i64 z) ∧ Cur w' g (A + 2) ∧ Chg (fun k => k = g) w w' := by
  have hlt := h.lt
  have ha := among_any xs.length xs.length _ xs _ g A (intsAt_new w xs (by unfold maxLen; omega)) (fun b o e => by cases e; omega) (h.keep ((Below.refl _ _).alloc (Nat.le_refl _) _)) hA hn hn2
  refine ha.mono fun e w' ⟨i, hi, he, hc, hg⟩ => ⟨xs.getD i 0, mem_of_getD hi, he, hc, hg.allocFirst⟩

set_option maxHeartbeats 6400000 in
set_option maxRecDepth 100000 in
theorem row_any (most : Nat) (w : World) (g A : Nat) (h : Cur w g A) (hA : A ≤ 800000000) (hm : most ≤ 28) :
    Calls Try.prog 119 #[.pointer (some ⟨g, 0, none⟩), .int .i64 most] w fun e w' => ∃ ao n cap xs, e = .returned (.slice ao n cap) ∧ Own w.heap.size w'.heap.size w' ao n cap xs ∧ n ≤ 29 ∧ Cur w' g (A + 400) ∧ Chg (fun k => k = g) w w' := by
  have hcon := pick_any (most + 1) w g A h (by omega) (by omega) (by omega)
  simp only [show ((most + 1 : Nat) : Int) = (most : Int) + 1 from rfl] at hcon
  have hm8 : (most : Int) ≤ 28 := by omega
  have hg := h.lt
  have Hcon := Lib.hid hcon; clear hcon
  go_enter Try.func119, Try.ntmps119
  go_wp2_with fail
  with_reducible refine (Hcon.out).mono ?_
  rintro e w1 ⟨N, hN, rfl, hc1, hg1⟩
  clear Hcon
  go_wp2
  go_loopw [5, 6] (fun v i wr => ∃ (k m : Nat) (a : Option Addr) (c : Nat) (xs : List Int), v = .slice a k c ∧ i = .int .i64 m ∧ k + m ≤ N ∧ Own w.heap.size wr.heap.size wr a k c xs ∧ Cur wr g (A + 2 + 6 * k) ∧ Chg (fun k => k = g) w wr) (fun _ i _ => (intOf i).toNat)
  case atStart => exact ⟨0, N, none, 0, [], rfl, rfl, by omega, Own.nil _ _ _, hc1, hg1⟩
  case round =>
    obtain ⟨k, m, a, c, xs, rfl, rfl, hkm, ho, hc, hgw⟩ := hrel
    clear hc1 hg1
    have hnew : ∀ j, (Value.slice a k c).ownBlock = some j → w.heap.size ≤ j := fun j hj => (ho.1.lt j hj).1
    by_cases hz : m = 0
    · subst hz
      have hp := pick_any 24 wr g _ hc (by omega) (by omega) (by omega)
      rw [show ((24 : Nat) : Int) = 24 from rfl] at hp
      have hk8 : k ≤ 28 := by omega
      have Hp := Lib.hid hp; clear hp
      have Hnew := Lib.hid hnew; clear hnew
      go_wp2_with fail
      with_reducible refine (Hp.out).mono ?_
      rintro e w2 ⟨b, hb, rfl, hc2, hg2⟩
      have ho2 := ho.chg hg2 (fun j h1 _ _ e => by omega)
      have hgw2 := hgw.trans hg2
      have hs2 := hg2.size
      have hs1 := hgw.size
      have hb8 : (b : Int) < 24 := by omega
      clear ho hc hgw hg2 Hp
      by_cases hb0 : b = 0
      · subst hb0
        have ha := amongNew_any [0, -1, 28, 29, 4611686018427387904] w2 g _ hc2 (by omega) (by simp) (by simp)
        simp only [List.map_cons, List.map_nil, List.length_cons, List.length_nil, Nat.reduceAdd] at ha
        have Ha := Lib.hid ha; clear ha
        go_wp2_with fail
        with_reducible refine (Ha.out).mono ?_
        rintro e w3 ⟨z, hz, rfl, hc3, hg3⟩
        have ho3 := ho2.chg hg3 (fun j h1 _ _ e => by omega)
        have hgw3 := hgw2.trans hg3
        have hs3 := hg3.size
        clear hz ho2 hgw2 hg3
        go_wp2_with (at_builtin; refine wpList_push w3 rfl _ _ rfl w.heap.size _ a k c _ rfl ho3 z rfl (by omega) (by omega) ?_)
        intro a' c' w' ho' hch'
        have hgw' := hgw3.newer hch' Hnew.out
        have hc' := (hc3.chg hch' (fun j hj e => by have := Hnew.out j e; omega)).le (show _ ≤ A + 400 by omega)
        clear ho3 hch' hgw3 hc3
        have Ho' := Lib.hid ho'; clear ho'
        have Hc' := Lib.hid hc'; clear hc'
        have Hgw' := Lib.hid hgw'; clear hgw'
        go_wp2
        go_ret
        exact ⟨_, _, _, _, rfl, Ho'.out, by omega, Hc'.out, Hgw'.out⟩
      · by_cases hb1 : b = 1
        · subst hb1
          have hc2' := hc2.le (show A + 2 + 6 * k + 2 ≤ A + 250 + 2 * k by omega)
          clear hc2
          have ho2' := ho2.mono (Nat.le_refl _) hs2
          obtain ⟨wi, hwi⟩ : ∃ wi : World, wi = w2 := ⟨_, rfl⟩
          subst hwi
          go_wp2_with fail
          go_loopw [5] (fun v wr => ∃ (k : Nat) (a : Option Addr) (c : Nat) (xs : List Int), v = .slice a k c ∧ k ≤ 29 ∧ Own w.heap.size wr.heap.size wr a k c xs ∧ Cur wr g (A + 250 + 2 * k) ∧ Chg (fun k => k = g) w wr) (fun v _ => 29 - (match v with | .slice _ n _ => n | _ => 0))
          case atStart => exact ⟨k, a, c, xs, rfl, by omega, ho2', hc2', hgw2⟩
          case round =>
            clear ho2 ho2' hc2' hgw2 Hnew
            obtain ⟨k, a, c, xs, rfl, hk29, ho, hc, hgw⟩ := hrel
            have hnew : ∀ j, (Value.slice a k c).ownBlock = some j → w.heap.size ≤ j := fun j hj => (ho.1.lt j hj).1
            have hp := pick_any 2 wr g _ hc (by omega) (by omega) (by omega)
            rw [show ((2 : Nat) : Int) = 2 from rfl] at hp
            have Hp := Lib.hid hp; clear hp
            have Hnew := Lib.hid hnew; clear hnew
            go_wp2_with fail
            with_reducible refine (Hp.out).mono ?_
            rintro e w2 ⟨b, hb, rfl, hc2, hg2⟩
            have ho2 := ho.chg hg2 (fun j h1 _ _ e => by omega)
            have hgw2 := hgw.trans hg2
            have hs2 := hg2.size
            have hs1 := hgw.size
            have hb8 : (b : Int) < 2 := by omega
            have hk9 : (k : Int) ≤ 29 := by omega
            clear ho hc hgw hg2 Hp
            by_cases hlt : k < 28 + b
            · have hd : (k : Int) < 28 + (b : Int) := by omega
              go_wp2_with (at_builtin; refine wpList_push w2 rfl _ _ rfl w.heap.size _ a k c _ rfl ho2 1 rfl (by omega) (by omega) ?_)
              intro a' c' w' ho' hch'
              have hgw' := hgw2.newer hch' Hnew.out
              have hc' := (hc2.chg hch' (fun j hj e => by have := Hnew.out j e; omega)).le (show _ ≤ A + 250 + 2 * (k + 1) by omega)
              clear ho2 hch' hgw2 hc2
              have Ho' := Lib.hid ho'; clear ho'
              have Hc' := Lib.hid hc'; clear hc'
              have Hgw' := Lib.hid hgw'; clear hgw'
              go_wp2
              go_roundw
              case rel => exact ⟨k + 1, a', c', _, rfl, by omega, Ho'.out, Hc'.out, Hgw'.out⟩
              case measure => simp only []; omega
            · have hd : ¬ (k : Int) < 28 + (b : Int) := by omega
              have hc' := hc2.le (show _ ≤ A + 400 by omega)
              have ho' := ho2.mono (Nat.le_refl _) hs2
              clear ho2 hc2
              have Ho' := Lib.hid ho'; clear ho'
              have Hc' := Lib.hid hc'; clear hc'
              have Hgw2 := Lib.hid hgw2; clear hgw2
              go_wp2
              go_ret
              exact ⟨_, _, _, _, rfl, Ho'.out, by omega, Hc'.out, Hgw2.out⟩
        · have hd0 : ((b : Int) == 0) = false := by simp; omega
          have hd1 : ((b : Int) == 1) = false := by simp; omega
          have hd2 : decide ((b : Int) = 0) = false := decide_eq_false (by omega)
          have hd3 : decide ((b : Int) = 1) = false := decide_eq_false (by omega)
          have hd4 : ¬ (b : Int) = 0 := by omega
          have hd5 : ¬ (b : Int) = 1 := by omega
          have hc' := hc2.le (show _ ≤ A + 400 by omega)
          have ho' := ho2.mono (Nat.le_refl _) hs2
          clear ho2 hc2
          have Ho' := Lib.hid ho'; clear ho'
          have Hc' := Lib.hid hc'; clear hc'
          have Hgw2 := Lib.hid hgw2; clear hgw2
          have Hb0 := Lib.hid hb0; clear hb0
          have Hb1 := Lib.hid hb1; clear hb1
          go_wp2
          go_ret
          exact ⟨_, _, _, _, rfl, Ho'.out, by omega, Hc'.out, Hgw2.out⟩
    · have hm1 : (0 : Int) < (m : Int) := by omega
      have hm9 : (m : Int) ≤ 28 := by omega
      have ha := amongNew_any [2, 4, 28] wr g _ hc (by omega) (by simp) (by simp)
      simp only [List.map_cons, List.map_nil, List.length_cons, List.length_nil, Nat.reduceAdd] at ha
      have hs1 := hgw.size
      have Ha := Lib.hid ha; clear ha
      have Hnew := Lib.hid hnew; clear hnew
      go_wp2_with fail
      with_reducible refine (Ha.out).mono ?_
      rintro e w3 ⟨z, hz3, rfl, hc3, hg3⟩
      have ho3 := ho.chg hg3 (fun j h1 _ _ e => by omega)
      have hgw3 := hgw.trans hg3
      have hs3 := hg3.size
      have hz2 : 2 ≤ z ∧ z ≤ 28 := by simp at hz3; omega
      obtain ⟨Z, rfl⟩ := Int.eq_ofNat_of_zero_le (show 0 ≤ z by omega)
      clear hz3 ho hgw hg3 hc Ha
      have hleast := l1Least_any (m : Int) (Z : Int) w3
      rw [show min (m : Int) (Z : Int) = ((min m Z : Nat) : Int) by omega] at hleast
      have hp1 := pick_any (min m Z) w3 g _ hc3 (by omega) (by omega) (by omega)
      generalize hX : min m Z = X at hleast hp1
      have Hleast := Lib.hid hleast; clear hleast
      have Hp1 := Lib.hid hp1; clear hp1
      go_wp2_with fail
      with_reducible refine (Hleast.out).mono ?_
      rintro e w' ⟨rfl, rfl⟩
      go_wp2_with fail
      with_reducible refine (Hp1.out).mono ?_
      rintro e w4 ⟨b, hb, rfl, hc4, hg4⟩
      have ho4 := ho3.chg hg4 (fun j h1 _ _ e => by omega)
      have hgw4 := hgw3.trans hg4
      have hs4 := hg4.size
      have hbm : b < m := by omega
      have hb8 : (b : Int) < 28 := by omega
      clear ho3 hgw3 hg4 hc3 Hp1 Hleast hX hb
      go_wp2_with (at_builtin; refine wpList_push w4 rfl _ _ rfl w.heap.size _ a k c _ rfl ho4 _ rfl (by omega) (by omega) ?_)
      intro a' c' w' ho' hch'
      have hgw' := hgw4.newer hch' Hnew.out
      have hc' := (hc4.chg hch' (fun j hj e => by have := Hnew.out j e; omega)).le (show _ ≤ A + 2 + 6 * (k + 1) by omega)
      clear ho4 hch' hgw4 hc4
      have Ho' := Lib.hid ho'; clear ho'
      have Hc' := Lib.hid hc'; clear hc'
      have Hgw' := Lib.hid hgw'; clear hgw'
      go_wp2
      go_roundw
      case rel => exact ⟨k + 1, m - (1 + b), a', c', _, rfl, valI (by omega), by omega, Ho'.out, Hc'.out, Hgw'.out⟩
      case measure => simp [intOf]; omega
theorem DrawIsRow_any (ac : Option Addr) (nc cc : Nat) (w : World) (hnc : nc ≤ 1048576) (hby : ByteIn w w.heap.size ac nc) :
    Calls Try.prog 116 #[.slice ac nc cc] w fun e w' => ∃ ao n cap xs, e = .returned (.slice ao n cap) ∧ Own w.heap.size w'.heap.size w' ao n cap xs ∧ n ≤ 29 ∧ Below w.heap.size w w' := by
  have hcon := row_any 28 _ _ 0 (cur_new w ac nc cc hnc hby) (by omega) (by omega)
  rw [show ((28 : Nat) : Int) = 28 from rfl] at hcon
  have Hcon := Lib.hid hcon; clear hcon
  have Hby := Lib.hid hby; clear hby
  go_enter Try.func116, Try.ntmps116
  go_wp2_with fail
  with_reducible refine (Hcon.out).mono ?_
  rintro e w1 ⟨a, n, c, xs, rfl, ho, hn, hc, hg⟩
  go_wp2
  go_ret
  exact ⟨_, _, _, _, rfl, ho.mono (curSize _ _) (Nat.le_refl _), hn, hg.drawn⟩
theorem DrawStepRow_any (ac : Option Addr) (nc cc : Nat) (w : World) (hnc : nc ≤ 1048576) (hby : ByteIn w w.heap.size ac nc) :
    Calls Try.prog 47 #[.slice ac nc cc] w fun e w' => ∃ ao n cap xs, e = .returned (.slice ao n cap) ∧ Own w.heap.size w'.heap.size w' ao n cap xs ∧ n ≤ 29 ∧ Below w.heap.size w w' := by
  have hcon := DrawIsRow_any ac nc cc w hnc hby
  have Hcon := Lib.hid hcon; clear hcon
  have Hby := Lib.hid hby; clear hby
  go_enter Try.func47, Try.ntmps47
  go_wp2_with fail
  with_reducible refine (Hcon.out).mono ?_
  rintro e w1 ⟨a, n, c, xs, rfl, ho, hn, hg⟩
  go_wp2
  go_ret
  exact ⟨_, _, _, _, rfl, ho, hn, hg⟩
theorem DrawRowSteps_any (ac : Option Addr) (nc cc : Nat) (w : World) (hnc : nc ≤ 1048576) (hby : ByteIn w w.heap.size ac nc) :
    Calls Try.prog 55 #[.slice ac nc cc] w fun e w' => ∃ ao n cap xs k, e = .returned (.tuple #[.slice ao n cap, .int .i64 k]) ∧ Own w.heap.size w'.heap.size w' ao n cap xs ∧ n ≤ 29 ∧ -1 ≤ k ∧ k ≤ 1001 ∧ Below w.heap.size w w' := by
  have hcon := row_any 20 _ _ 0 (cur_new w ac nc cc hnc hby) (by omega) (by omega)
  rw [show ((20 : Nat) : Int) = 20 from rfl] at hcon
  have Hcon := Lib.hid hcon; clear hcon
  have Hby := Lib.hid hby; clear hby
  go_enter Try.func55, Try.ntmps55
  go_wp2_with fail
  with_reducible refine (Hcon.out).mono ?_
  rintro e w1 ⟨a, n, c, xs, rfl, ho, hn, hc, hg⟩
  have hlt := hc.lt
  have ha := amongNew_any [0, 1, 2, 5, 20, 100, 1000, 1001, -1] w1 _ _ hc (by omega) (by simp) (by simp)
  simp only [List.map_cons, List.map_nil, List.length_cons, List.length_nil, Nat.reduceAdd] at ha
  have Ha := Lib.hid ha; clear ha
  go_wp2_with fail
  with_reducible refine (Ha.out).mono ?_
  rintro e w2 ⟨k, hk, rfl, hc2, hg2⟩
  have hkb : -1 ≤ k ∧ k ≤ 1001 := by simp at hk; omega
  have hs := hg2.size
  clear hk
  go_wp2
  go_ret2
  exact ⟨_, _, _, _, _, rfl, (ho.chg hg2 (fun j h1 _ _ e => by rw [e] at h1; simp at h1; omega)).mono (curSize _ _) hs, hn, hkb.1, hkb.2, (hg.trans hg2).drawn⟩
theorem DrawPlayRow_any (ac : Option Addr) (nc cc : Nat) (w : World) (hnc : nc ≤ 1048576) (hby : ByteIn w w.heap.size ac nc) :
    Calls Try.prog 59 #[.slice ac nc cc] w fun e w' => ∃ ao n cap xs k, e = .returned (.tuple #[.slice ao n cap, .int .i64 k]) ∧ Own w.heap.size w'.heap.size w' ao n cap xs ∧ n ≤ 29 ∧ -1 ≤ k ∧ k ≤ 1001 ∧ Below w.heap.size w w' := by
  have hcon := row_any 14 _ _ 0 (cur_new w ac nc cc hnc hby) (by omega) (by omega)
  rw [show ((14 : Nat) : Int) = 14 from rfl] at hcon
  have Hcon := Lib.hid hcon; clear hcon
  have Hby := Lib.hid hby; clear hby
  go_enter Try.func59, Try.ntmps59
  go_wp2_with fail
  with_reducible refine (Hcon.out).mono ?_
  rintro e w1 ⟨a, n, c, xs, rfl, ho, hn, hc, hg⟩
  have hlt := hc.lt
  have ha := amongNew_any [0, 1, 2, 5, 20, 1001, -1] w1 _ _ hc (by omega) (by simp) (by simp)
  simp only [List.map_cons, List.map_nil, List.length_cons, List.length_nil, Nat.reduceAdd] at ha
  have Ha := Lib.hid ha; clear ha
  go_wp2_with fail
  with_reducible refine (Ha.out).mono ?_
  rintro e w2 ⟨k, hk, rfl, hc2, hg2⟩
  have hkb : -1 ≤ k ∧ k ≤ 1001 := by simp at hk; omega
  have hs := hg2.size
  clear hk
  go_wp2
  go_ret2
  exact ⟨_, _, _, _, _, rfl, (ho.chg hg2 (fun j h1 _ _ e => by rw [e] at h1; simp at h1; omega)).mono (curSize _ _) hs, hn, hkb.1, hkb.2, (hg.trans hg2).drawn⟩
theorem DrawCountRowGardens_any (ac : Option Addr) (nc cc : Nat) (w : World) (hnc : nc ≤ 1048576) (hby : ByteIn w w.heap.size ac nc) :
    Calls Try.prog 77 #[.slice ac nc cc] w fun e w' => ∃ k, e = .returned (.int .i64 k) ∧ -1 ≤ k ∧ k ≤ 29 ∧ Below w.heap.size w w' := by
  have ha := amongNew_any [0, 1, 2, 3, 5, 8, 10, 12, 13, -1] _ _ _ (cur_new w ac nc cc hnc hby) (by omega) (by simp) (by simp)
  simp only [List.map_cons, List.map_nil, List.length_cons, List.length_nil, Nat.reduceAdd] at ha
  rw [show (w.alloc (.cells #[.slice ac nc cc, .int .i64 0, .int .u64 0] 96)).heap.size = w.heap.size + 1 by simp] at ha
  have Ha := Lib.hid ha; clear ha
  have Hby := Lib.hid hby; clear hby
  go_enter Try.func77, Try.ntmps77
  go_wp2_with fail
  with_reducible refine (Ha.out).mono ?_
  rintro e w2 ⟨k, hk, rfl, hc2, hg2⟩
  have hkb : -1 ≤ k ∧ k ≤ 29 := by simp at hk; omega
  clear hk
  go_wp2
  go_ret
  exact ⟨_, rfl, hkb.1, hkb.2, hg2.drawn⟩
theorem DrawLongestRow_any (ac : Option Addr) (nc cc : Nat) (w : World) (hnc : nc ≤ 1048576) (hby : ByteIn w w.heap.size ac nc) :
    Calls Try.prog 80 #[.slice ac nc cc] w fun e w' => ∃ k, e = .returned (.int .i64 k) ∧ -1 ≤ k ∧ k ≤ 29 ∧ Below w.heap.size w w' := by
  have ha := amongNew_any [1, 2, 3, 5, 6, 8, 10, 11, 0] _ _ _ (cur_new w ac nc cc hnc hby) (by omega) (by simp) (by simp)
  simp only [List.map_cons, List.map_nil, List.length_cons, List.length_nil, Nat.reduceAdd] at ha
  rw [show (w.alloc (.cells #[.slice ac nc cc, .int .i64 0, .int .u64 0] 96)).heap.size = w.heap.size + 1 by simp] at ha
  have Ha := Lib.hid ha; clear ha
  have Hby := Lib.hid hby; clear hby
  go_enter Try.func80, Try.ntmps80
  go_wp2_with fail
  with_reducible refine (Ha.out).mono ?_
  rintro e w2 ⟨k, hk, rfl, hc2, hg2⟩
  have hkb : -1 ≤ k ∧ k ≤ 29 := by simp at hk; omega
  clear hk
  go_wp2
  go_ret
  exact ⟨_, rfl, hkb.1, hkb.2, hg2.drawn⟩
theorem DrawRowOrbit_any (ac : Option Addr) (nc cc : Nat) (w : World) (hnc : nc ≤ 1048576) (hby : ByteIn w w.heap.size ac nc) :
    Calls Try.prog 63 #[.slice ac nc cc] w fun e w' => ∃ ao n cap xs, e = .returned (.slice ao n cap) ∧ Own w.heap.size w'.heap.size w' ao n cap xs ∧ n ≤ 29 ∧ Below w.heap.size w w' := by
  have ha := amongNew_any [6, 10, 15, 21] _ _ _ (cur_new w ac nc cc hnc hby) (by omega) (by simp) (by simp)
  simp only [List.map_cons, List.map_nil, List.length_cons, List.length_nil, Nat.reduceAdd] at ha
  rw [show (w.alloc (.cells #[.slice ac nc cc, .int .i64 0, .int .u64 0] 96)).heap.size = w.heap.size + 1 by simp] at ha
  have Ha := Lib.hid ha; clear ha
  have Hby := Lib.hid hby; clear hby
  go_enter Try.func63, Try.ntmps63
  go_wp2_with fail
  with_reducible refine (Ha.out).mono ?_
  rintro e w2 ⟨k, hk, rfl, hc2, hg2⟩
  have hkb : 6 ≤ k ∧ k ≤ 21 := by simp at hk; omega
  obtain ⟨K, rfl⟩ := Int.eq_ofNat_of_zero_le (show 0 ≤ k by omega)
  have hcon := row_any K w2 _ _ hc2 (by omega) (by omega)
  have hs := hg2.size
  clear hk
  have Hcon := Lib.hid hcon; clear hcon
  go_wp2_with fail
  with_reducible refine (Hcon.out).mono ?_
  rintro e w1 ⟨a, n, c, xs, rfl, ho, hn, hc, hg⟩
  go_wp2
  go_ret
  exact ⟨_, _, _, _, rfl, ho.mono (by simp at hs; omega) (Nat.le_refl _), hn, (hg2.trans hg).drawn⟩
set_option maxHeartbeats 800000 in
theorem DrawRowPasts_any (ac : Option Addr) (nc cc : Nat) (w : World) (hnc : nc ≤ 1048576) (hby : ByteIn w w.heap.size ac nc) :
    Calls Try.prog 67 #[.slice ac nc cc] w fun e w' => ∃ ao n cap xs, e = .returned (.slice ao n cap) ∧ Own w.heap.size w'.heap.size w' ao n cap xs ∧ Below w.heap.size w w' := by
  have hcon := row_any 14 _ _ 0 (cur_new w ac nc cc hnc hby) (by omega) (by omega)
  rw [show ((14 : Nat) : Int) = 14 from rfl] at hcon
  have Hcon := Lib.hid hcon; clear hcon
  have Hby := Lib.hid hby; clear hby
  go_enter Try.func67, Try.ntmps67
  go_wp2_with fail
  with_reducible refine (Hcon.out).mono ?_
  rintro e w1 ⟨a, n, c, xs, rfl, ho, hn, hc, hg⟩
  have hlt := hc.lt
  have ho1 := ho.mono (curSize w _) (Nat.le_refl _)
  have hgd := roGood_any a n c xs w1 ho.at
  clear Hcon
  cases hb : rowB xs
  · rw [hb] at hgd
    have Hgd := Lib.hid hgd; clear hgd
    have Hb := Lib.hid hb; clear hb
    go_wp2_with fail
    with_reducible refine (Hgd.out).mono ?_
    rintro e w' ⟨rfl, rfl⟩
    go_wp2
    go_ret
    exact ⟨_, _, _, _, rfl, ho1, hg.drawn⟩
  · rw [hb] at hgd
    have hone := one_any 2 w1 _ _ hc (by omega) (by omega) (by omega)
    rw [show ((2 : Nat) : Int) = 2 from rfl] at hone
    have hro := row_iff.1 hb
    have Hgd := Lib.hid hgd; clear hgd
    have Hb := Lib.hid hb; clear hb
    have Hone := Lib.hid hone; clear hone
    have Hro := Lib.hid hro; clear hro
    go_wp2_with fail
    with_reducible refine (Hgd.out).mono ?_
    rintro e w' ⟨rfl, rfl⟩
    go_wp2_with fail
    with_reducible refine (Hone.out).mono ?_
    rintro e w2 ⟨t, rfl, hc2, hg2⟩
    have hs := hg2.size
    have ho2 := (ho.chg hg2 (fun j h1 _ _ e => by rw [e] at h1; simp at h1; omega)).mono (curSize w _) hs
    have hst := roStep_any a n c xs w2 ho2.at Hro.out
    have hbb := (hg.trans hg2).drawn
    cases t
    · clear hst
      have Ho2 := Lib.hid ho2; clear ho2
      have Hbb := Lib.hid hbb; clear hbb
      go_wp2
      go_ret
      exact ⟨_, _, _, _, rfl, Ho2.out, Hbb.out⟩
    · have Hst := Lib.hid hst; clear hst
      go_wp2_with fail
      with_reducible refine (Hst.out).mono ?_
      rintro e w3 ⟨a3, n3, c3, rfl, ho3, hb3⟩
      have hs3 := hbb.size
      have hb4 := belowTrans hbb hb3 (Nat.le_refl _)
      have ho4 := ho3.mono hs3 (Nat.le_refl _)
      clear ho3 hb3
      have Ho4 := Lib.hid ho4; clear ho4
      have Hb4 := Lib.hid hb4; clear hb4
      go_wp2
      go_ret
      exact ⟨_, _, _, _, rfl, Ho4.out, Hb4.out⟩

theorem pow_fin9 : ∀ m : Nat, m < 29 → wrap64 (2 ^ m) = (cntR (m + 1) : Int) := by decide +kernel
theorem cntR_le9 : ∀ n, n < 30 → 1 ≤ cntR n ∧ cntR n ≤ 268435456 := by decide +kernel
theorem roCount9_any (n : Nat) (w : World) (hn : n ≤ 29) :
    Calls Try.prog 127 #[.int .i64 n] w fun e w' => e = .returned (.int .i64 (cntR n : Nat)) ∧ w = w' := by
  by_cases h : n = 0
  · subst h
    go_enter Try.func127, Try.ntmps127
    go_wp2
    go_ret
    exact ⟨rfl, rfl⟩
  · obtain ⟨m, rfl⟩ : ∃ m, n = m + 1 := ⟨n - 1, by omega⟩
    have hp := pow_fin9 m (by omega)
    have hb : (((m + 1 : Nat) : Int) == 0) = false := by rw [beq_eq_false_iff_ne]; omega
    have em : (((m + 1 : Nat) : Int) - 1).toNat = m := by omega
    have hm0 : (0 : Int) ≤ ((m + 1 : Nat) : Int) - 1 := by omega
    have hm1 : ((m + 1 : Nat) : Int) - 1 ≤ 64 := by omega
    have Hp := Lib.hid hp; clear hp
    have Em := Lib.hid em; clear em
    go_enter Try.func127, Try.ntmps127
    go_wp2
    go_ret
    exact ⟨retI (by rw [← Hp.out]), rfl⟩
theorem l1MostI_any (a b : Int) (w : World) :
    Calls Try.prog 108 #[.int .i64 a, .int .i64 b] w fun e w' => e = .returned (.int .i64 (max a b)) ∧ w = w' := by
  by_cases h : b < a
  · have e : max a b = a := by omega
    rw [e]
    go_enter Try.func108, Try.ntmps108
    go_wp2
    go_ret
    exact ⟨rfl, rfl⟩
  · have e : max a b = b := by omega
    rw [e]
    go_enter Try.func108, Try.ntmps108
    go_wp2
    go_ret
    exact ⟨rfl, rfl⟩
set_option maxHeartbeats 1600000 in
theorem DrawRowWith_any (ac : Option Addr) (nc cc : Nat) (w : World) (hnc : nc ≤ 1048576) (hby : ByteIn w w.heap.size ac nc) :
    Calls Try.prog 71 #[.slice ac nc cc] w fun e w' => ∃ n k : Int, e = .returned (.tuple #[.int .i64 n, .int .i64 k]) ∧ -1 ≤ n ∧ n ≤ 29 ∧ -1 ≤ k ∧ k ≤ 268435456 ∧ Below w.heap.size w w' := by
  have ha := amongNew_any [0, 1, 3, 5, 8, 12, 28, 29, -1] _ _ _ (cur_new w ac nc cc hnc hby) (by omega) (by simp) (by simp)
  simp only [List.map_cons, List.map_nil, List.length_cons, List.length_nil, Nat.reduceAdd] at ha
  rw [show (w.alloc (.cells #[.slice ac nc cc, .int .i64 0, .int .u64 0] 96)).heap.size = w.heap.size + 1 by simp] at ha
  have Ha := Lib.hid ha; clear ha
  have Hby := Lib.hid hby; clear hby
  go_enter Try.func71, Try.ntmps71
  go_wp2_with fail
  with_reducible refine (Ha.out).mono ?_
  rintro e w2 ⟨n, hn, rfl, hc2, hg2⟩
  have hnb : -1 ≤ n ∧ n ≤ 29 := by simp at hn; omega
  clear hn Ha
  obtain ⟨N, hN⟩ : ∃ N : Nat, max 0 n = (N : Int) := ⟨n.toNat, by omega⟩
  have hN9 : N ≤ 29 := by omega
  have hmx := fun W => l1MostI_any 0 n W
  rw [hN] at hmx
  have hct := fun W => roCount9_any N W hN9
  have hcb := cntR_le9 N (by omega)
  generalize cntR N = C at hct hcb
  have hls := fun W => l1Least_any (C : Int) 60000 W
  rw [show min (C : Int) 60000 = ((min C 60000 : Nat) : Int) by omega] at hls
  have hp1 := pick_any (min C 60000) w2 _ _ hc2 (by omega) (by omega) (by omega)
  have hp2 := fun W hW => pick_any (min C 60000) W w.heap.size 4 hW (by omega) (by omega) (by omega)
  have hD : min C 60000 ≤ 60000 := by omega
  generalize min C 60000 = D at hls hp1 hp2 hD
  have hC8 : (C : Int) ≤ 268435456 := by omega
  clear hN
  have Hmx := Lib.hid hmx; clear hmx
  have Hct := Lib.hid hct; clear hct
  have Hls := Lib.hid hls; clear hls
  have Hp1 := Lib.hid hp1; clear hp1
  have Hp2 := Lib.hid hp2; clear hp2
  go_wp2_with fail
  with_reducible refine (Hmx.out _).mono ?_
  rintro e w' ⟨rfl, rfl⟩
  go_wp2_with fail
  with_reducible refine (Hct.out _).mono ?_
  rintro e w' ⟨rfl, rfl⟩
  go_wp2_with fail
  with_reducible refine (Hls.out _).mono ?_
  rintro e w' ⟨rfl, rfl⟩
  go_wp2_with fail
  with_reducible refine (Hp1.out).mono ?_
  rintro e w3 ⟨b1, hb1, rfl, hc3, hg3⟩
  go_wp2_with fail
  with_reducible refine (Hls.out _).mono ?_
  rintro e w' ⟨rfl, rfl⟩
  go_wp2_with fail
  with_reducible refine (Hp2.out _ (hc3.le (by omega))).mono ?_
  rintro e w4 ⟨b2, hb2, rfl, hc4, hg4⟩
  have ha2 := amongNew_any [0, 1, (C : Int) - 1, (C : Int), -1, (b1 : Int), (b2 : Int)] w4 _ _ hc4 (by omega) (by simp) (by simp)
  simp only [List.map_cons, List.map_nil, List.length_cons, List.length_nil, Nat.reduceAdd] at ha2
  have hcb2 : 1 ≤ (C : Int) := by omega
  have hb1' : (b1 : Int) < 60000 := by omega
  have hb2' : (b2 : Int) < 60000 := by omega
  have hgg := ((hg2.trans hg3).trans hg4)
  clear hg2 hg3 hg4 hc2 hc3 hc4 Hp1 Hp2 Hls Hct Hmx
  have Ha2 := Lib.hid ha2; clear ha2
  have Hgg := Lib.hid hgg; clear hgg
  go_wp2_with fail
  with_reducible refine (Ha2.out).mono ?_
  rintro e w5 ⟨k, hk, rfl, hc5, hg5⟩
  have hkb : -1 ≤ k ∧ k ≤ 268435456 := by simp at hk; omega
  clear hk
  go_wp2
  go_ret2
  exact ⟨_, _, rfl, hnb.1, hnb.2, hkb.1, hkb.2, (Hgg.out.trans hg5).drawn⟩
end Go.Proofs.Ytbneibpakopllaa
