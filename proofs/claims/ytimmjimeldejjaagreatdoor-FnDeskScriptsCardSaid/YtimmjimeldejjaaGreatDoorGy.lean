/- Several texts in one: RwD, RwL. No condition. -/
import Derived.Test.YtimmjimeldejjaaGreatDoorGd
import Derived.Test.YtimmjimeldejjaaGreatDoorGm
import Derived.Test.YtimmjimeldejjaaGreatDoorSL
import Derived.Test.YtimmjimeldejjaaGreatDoorGi
namespace Go.Proofs.YtimmjimeldejjaaGreatDoor
section
open Go.RowKit
set_option linter.unusedVariables false
set_option linter.unusedSimpArgs false

/-- one of some numbers that are laid for it -/
theorem amongNew_any (xs : List Int) (w : World) (g A : Nat) (h : Cur w g A) (hA : A ≤ 900000000) (hn : 1 ≤ xs.length) (hn2 : xs.length ≤ 1048576) :
    Calls Tryz.prog 54 #[.pointer (some ⟨g, 0, none⟩), .slice (some ⟨w.heap.size, 0, none⟩) xs.length xs.length] (w.alloc (.cells (xs.map (Value.int .i64)).toArray 3)) fun e w' => ∃ z, z ∈ xs ∧ e = .returned (.int .i64 z) ∧ Cur w' g (A + 2) ∧ Chg (fun k => k = g) w w' := by
  have hlt := h.lt
  have ha := among_any xs.length xs.length _ xs _ g A (intsAt_new w xs (by unfold maxLen; omega)) (fun b o e => by cases e; omega) (h.keep ((Below.refl _ _).alloc (Nat.le_refl _) _)) hA hn hn2
  refine ha.mono fun e w' ⟨i, hi, he, hc, hg⟩ => ⟨xs.getD i 0, mem_of_getD hi, he, hc, hg.allocFirst⟩

set_option maxHeartbeats 6400000 in
set_option maxRecDepth 100000 in
theorem row_any (most : Nat) (w : World) (g A : Nat) (h : Cur w g A) (hA : A ≤ 800000000) (hm : most ≤ 28) :
    Calls Tryz.prog 58 #[.pointer (some ⟨g, 0, none⟩), .int .i64 most] w fun e w' => ∃ ao n cap xs, e = .returned (.slice ao n cap) ∧ Own w.heap.size w'.heap.size w' ao n cap xs ∧ n ≤ 29 ∧ Cur w' g (A + 400) ∧ Chg (fun k => k = g) w w' := by
  have hcon := pick_any (most + 1) w g A h (by omega) (by omega) (by omega)
  simp only [show ((most + 1 : Nat) : Int) = (most : Int) + 1 from rfl] at hcon
  have hm8 : (most : Int) ≤ 28 := by omega
  have hg := h.lt
  have Hcon := Lib.hid hcon; clear hcon
  go_enter Tryz.func58, Tryz.ntmps58
  go_wp2_with fail
  with_reducible refine (Hcon.out).mono ?_
  rintro e w1 ⟨N, hN, rfl, hc1, hg1⟩
  clear Hcon
  go_wp2
  go_loopw [5, 6] (fun v i wr => ∃ (k m : Nat) (a : Option Addr) (c : Nat) (xs : List Int), v = .slice a k c ∧ i = .int .i64 m ∧ k + m ≤ N ∧ Own w.heap.size wr.heap.size wr a k c xs ∧ Cur wr g (A + 2 + 6 * k) ∧ Chg (fun k => k = g) w wr) (fun _ i _ => (intOf i).toNat)
  case atStart => exact ⟨0, N, none, 0, [], rfl, rfl, by omega, Own.nil _ _ _, hc1, hg1⟩
  case round =>
    obtain ⟨k, m, a, c, xs, rfl, rfl, hkm, ho, hc, hgw⟩ := hrel
    clear hc1 hg1
    have hnew : ∀ j, (Value.slice a k c).ownBlock = some j → w.heap.size ≤ j := fun j hj => (ho.1.lt j hj).1
    by_cases hz : m = 0
    · subst hz
      have hp := pick_any 24 wr g _ hc (by omega) (by omega) (by omega)
      rw [show ((24 : Nat) : Int) = 24 from rfl] at hp
      have hk8 : k ≤ 28 := by omega
      have Hp := Lib.hid hp; clear hp
      have Hnew := Lib.hid hnew; clear hnew
      go_wp2_with fail
      with_reducible refine (Hp.out).mono ?_
      rintro e w2 ⟨b, hb, rfl, hc2, hg2⟩
      have ho2 := ho.chg hg2 (fun j h1 _ _ e => by omega)
      have hgw2 := hgw.trans hg2
      have hs2 := hg2.size
      have hs1 := hgw.size
      have hb8 : (b : Int) < 24 := by omega
      clear ho hc hgw hg2 Hp
      by_cases hb0 : b = 0
      · subst hb0
        have ha := amongNew_any [0, -1, 28, 29, 4611686018427387904] w2 g _ hc2 (by omega) (by simp) (by simp)
        simp only [List.map_cons, List.map_nil, List.length_cons, List.length_nil, Nat.reduceAdd] at ha
        have Ha := Lib.hid ha; clear ha
        go_wp2_with fail
        with_reducible refine (Ha.out).mono ?_
        rintro e w3 ⟨z, hz, rfl, hc3, hg3⟩
        have ho3 := ho2.chg hg3 (fun j h1 _ _ e => by omega)
        have hgw3 := hgw2.trans hg3
        have hs3 := hg3.size
        clear hz ho2 hgw2 hg3
        go_wp2_with (at_builtin; refine wpList_push w3 rfl _ _ rfl w.heap.size _ a k c _ rfl ho3 z rfl (by omega) (by omega) ?_)
        intro a' c' w' ho' hch'
        have hgw' := hgw3.newer hch' Hnew.out
        have hc' := (hc3.chg hch' (fun j hj e => by have := Hnew.out j e; omega)).le (show _ ≤ A + 400 by omega)
        clear ho3 hch' hgw3 hc3
        have Ho' := Lib.hid ho'; clear ho'
        have Hc' := Lib.hid hc'; clear hc'
        have Hgw' := Lib.hid hgw'; clear hgw'
        go_wp2
        go_ret
        exact ⟨_, _, _, _, rfl, Ho'.out, by omega, Hc'.out, Hgw'.out⟩
      · by_cases hb1 : b = 1
        · subst hb1
          have hc2' := hc2.le (show A + 2 + 6 * k + 2 ≤ A + 250 + 2 * k by omega)
          clear hc2
          have ho2' := ho2.mono (Nat.le_refl _) hs2
          obtain ⟨wi, hwi⟩ : ∃ wi : World, wi = w2 := ⟨_, rfl⟩
          subst hwi
          go_wp2_with fail
          go_loopw [5] (fun v wr => ∃ (k : Nat) (a : Option Addr) (c : Nat) (xs : List Int), v = .slice a k c ∧ k ≤ 29 ∧ Own w.heap.size wr.heap.size wr a k c xs ∧ Cur wr g (A + 250 + 2 * k) ∧ Chg (fun k => k = g) w wr) (fun v _ => 29 - (match v with | .slice _ n _ => n | _ => 0))
          case atStart => exact ⟨k, a, c, xs, rfl, by omega, ho2', hc2', hgw2⟩
          case round =>
            clear ho2 ho2' hc2' hgw2 Hnew
            obtain ⟨k, a, c, xs, rfl, hk29, ho, hc, hgw⟩ := hrel
            have hnew : ∀ j, (Value.slice a k c).ownBlock = some j → w.heap.size ≤ j := fun j hj => (ho.1.lt j hj).1
            have hp := pick_any 2 wr g _ hc (by omega) (by omega) (by omega)
            rw [show ((2 : Nat) : Int) = 2 from rfl] at hp
            have Hp := Lib.hid hp; clear hp
            have Hnew := Lib.hid hnew; clear hnew
            go_wp2_with fail
            with_reducible refine (Hp.out).mono ?_
            rintro e w2 ⟨b, hb, rfl, hc2, hg2⟩
            have ho2 := ho.chg hg2 (fun j h1 _ _ e => by omega)
            have hgw2 := hgw.trans hg2
            have hs2 := hg2.size
            have hs1 := hgw.size
            have hb8 : (b : Int) < 2 := by omega
            have hk9 : (k : Int) ≤ 29 := by omega
            clear ho hc hgw hg2 Hp
            by_cases hlt : k < 28 + b
            · have hd : (k : Int) < 28 + (b : Int) := by omega
              go_wp2_with (at_builtin; refine wpList_push w2 rfl _ _ rfl w.heap.size _ a k c _ rfl ho2 1 rfl (by omega) (by omega) ?_)
              intro a' c' w' ho' hch'
              have hgw' := hgw2.newer hch' Hnew.out
              have hc' := (hc2.chg hch' (fun j hj e => by have := Hnew.out j e; omega)).le (show _ ≤ A + 250 + 2 * (k + 1) by omega)
              clear ho2 hch' hgw2 hc2
              have Ho' := Lib.hid ho'; clear ho'
              have Hc' := Lib.hid hc'; clear hc'
              have Hgw' := Lib.hid hgw'; clear hgw'
              go_wp2
              go_roundw
              case rel => exact ⟨k + 1, a', c', _, rfl, by omega, Ho'.out, Hc'.out, Hgw'.out⟩
              case measure => simp only []; omega
            · have hd : ¬ (k : Int) < 28 + (b : Int) := by omega
              have hc' := hc2.le (show _ ≤ A + 400 by omega)
              have ho' := ho2.mono (Nat.le_refl _) hs2
              clear ho2 hc2
              have Ho' := Lib.hid ho'; clear ho'
              have Hc' := Lib.hid hc'; clear hc'
              have Hgw2 := Lib.hid hgw2; clear hgw2
              go_wp2
              go_ret
              exact ⟨_, _, _, _, rfl, Ho'.out, by omega, Hc'.out, Hgw2.out⟩
        · have hd0 : ((b : Int) == 0) = false := by simp; omega
          have hd1 : ((b : Int) == 1) = false := by simp; omega
          have hd2 : decide ((b : Int) = 0) = false := decide_eq_false (by omega)
          have hd3 : decide ((b : Int) = 1) = false := decide_eq_false (by omega)
          have hd4 : ¬ (b : Int) = 0 := by omega
          have hd5 : ¬ (b : Int) = 1 := by omega
          have hc' := hc2.le (show _ ≤ A + 400 by omega)
          have ho' := ho2.mono (Nat.le_refl _) hs2
          clear ho2 hc2
          have Ho' := Lib.hid ho'; clear ho'
          have Hc' := Lib.hid hc'; clear hc'
          have Hgw2 := Lib.hid hgw2; clear hgw2
          have Hb0 := Lib.hid hb0; clear hb0
          have Hb1 := Lib.hid hb1; clear hb1
          go_wp2
          go_ret
          exact ⟨_, _, _, _, rfl, Ho'.out, by omega, Hc'.out, Hgw2.out⟩
    · have hm1 : (0 : Int) < (m : Int) := by omega
      have hm9 : (m : Int) ≤ 28 := by omega
      have ha := amongNew_any [2, 4, 28] wr g _ hc (by omega) (by simp) (by simp)
      simp only [List.map_cons, List.map_nil, List.length_cons, List.length_nil, Nat.reduceAdd] at ha
      have hs1 := hgw.size
      have Ha := Lib.hid ha; clear ha
      have Hnew := Lib.hid hnew; clear hnew
      go_wp2_with fail
      with_reducible refine (Ha.out).mono ?_
      rintro e w3 ⟨z, hz3, rfl, hc3, hg3⟩
      have ho3 := ho.chg hg3 (fun j h1 _ _ e => by omega)
      have hgw3 := hgw.trans hg3
      have hs3 := hg3.size
      have hz2 : 2 ≤ z ∧ z ≤ 28 := by simp at hz3; omega
      obtain ⟨Z, rfl⟩ := Int.eq_ofNat_of_zero_le (show 0 ≤ z by omega)
      clear hz3 ho hgw hg3 hc Ha
      have hleast := l1Least_any (m : Int) (Z : Int) w3
      rw [show min (m : Int) (Z : Int) = ((min m Z : Nat) : Int) by omega] at hleast
      have hp1 := pick_any (min m Z) w3 g _ hc3 (by omega) (by omega) (by omega)
      generalize hX : min m Z = X at hleast hp1
      have Hleast := Lib.hid hleast; clear hleast
      have Hp1 := Lib.hid hp1; clear hp1
      go_wp2_with fail
      with_reducible refine (Hleast.out).mono ?_
      rintro e w' ⟨rfl, rfl⟩
      go_wp2_with fail
      with_reducible refine (Hp1.out).mono ?_
      rintro e w4 ⟨b, hb, rfl, hc4, hg4⟩
      have ho4 := ho3.chg hg4 (fun j h1 _ _ e => by omega)
      have hgw4 := hgw3.trans hg4
      have hs4 := hg4.size
      have hbm : b < m := by omega
      have hb8 : (b : Int) < 28 := by omega
      clear ho3 hgw3 hg4 hc3 Hp1 Hleast hX hb
      go_wp2_with (at_builtin; refine wpList_push w4 rfl _ _ rfl w.heap.size _ a k c _ rfl ho4 _ rfl (by omega) (by omega) ?_)
      intro a' c' w' ho' hch'
      have hgw' := hgw4.newer hch' Hnew.out
      have hc' := (hc4.chg hch' (fun j hj e => by have := Hnew.out j e; omega)).le (show _ ≤ A + 2 + 6 * (k + 1) by omega)
      clear ho4 hch' hgw4 hc4
      have Ho' := Lib.hid ho'; clear ho'
      have Hc' := Lib.hid hc'; clear hc'
      have Hgw' := Lib.hid hgw'; clear hgw'
      go_wp2
      go_roundw
      case rel => exact ⟨k + 1, m - (1 + b), a', c', _, rfl, valI (by omega), by omega, Ho'.out, Hc'.out, Hgw'.out⟩
      case measure => simp [intOf]; omega
end
end Go.Proofs.YtimmjimeldejjaaGreatDoor
namespace Go.Proofs.YtimmjimeldejjaaGreatDoor
section
open Go.RowKit
set_option linter.unusedVariables false
set_option linter.unusedSimpArgs false

set_option maxHeartbeats 400000 in
theorem xSame_quiet (ao bo : Option Addr) (n m cap cap' : Nat) (xs ys : List Int) (w : World) (hx : IntsAt w ao n cap xs) (hy : IntsAt w bo m cap' ys) :
    Calls Tryz.prog 13 #[.slice ao n cap, .slice bo m cap'] w fun e w' => e = .returned (.bool (decide (xs = ys))) ∧ ∃ q, w' = w.drewN q := by
  have hn' := hx.lenInt
  have hm' := hy.lenInt
  by_cases hnm : n = m
  · subst hnm
    go_enter Tryz.func13, Tryz.ntmps13
    go_wp2
    go_loopw [13] (fun i wr => ∃ k : Nat, k ≤ n ∧ i = .int .i64 k ∧ xs.take k = ys.take k ∧ ∃ q, wr = w.drewN q)
      (fun i _ => n - (intOf i).toNat)
    case atStart => exact ⟨0, Nat.zero_le _, rfl, rfl, 0, rfl⟩
    case round =>
      obtain ⟨k, hk, rfl, heq, q, rfl⟩ := hrel
      have Heq := Lib.hid heq; clear heq
      by_cases hlt : k < n
      · have hl1 := Lib.hid hx.length
        have hl2 := Lib.hid hy.length
        obtain ⟨b1, o1, rfl, hb1, hc1⟩ := hx.cell k hlt
        have hck1 := hc1 k hlt
        clear hc1
        generalize hx1 : xs.getD k 0 = x at hck1
        have Hx1 := Lib.hid hx1; clear hx1
        obtain ⟨b2, o2, rfl, hb2, hc2⟩ := hy.cell k hlt
        have hck2 := hc2 k hlt
        clear hc2
        generalize hx2 : ys.getD k 0 = y at hck2
        have Hx2 := Lib.hid hx2; clear hx2
        go_wp2
        go_quiet (fail)
        go_wp2
        · go_ret
          have hne : xs ≠ ys := fun e => by
            have h3 := Hx1.out; have h4 := Hx2.out
            rw [e, h4] at h3; subst h3; simp at *
          exact ⟨by simp [hne], _, World.drewN_drewN _ _ _⟩
        · have hxy : x = y := by rename_i hh; simpa using hh
          go_roundw
          case rel => exact ⟨k + 1, by omega, by go_num, by rw [take_snoc Hx1.out hlt hl1.out, take_snoc Hx2.out hlt hl2.out, Heq.out, hxy], _, rfl⟩
          case measure => simp [intOf]; omega
      · go_wp2
        go_ret
        obtain rfl : n = k := by omega
        have e := Heq.out
        rw [take_all hx.length, take_all hy.length] at e
        exact ⟨by simp [e], _, rfl⟩
  · have hne : ((n : Int) != (m : Int)) = true := by simp; omega
    have hxy : xs ≠ ys := fun e => hnm (by rw [← hx.length, ← hy.length, e])
    go_enter Tryz.func13, Tryz.ntmps13
    go_wp2
    go_ret
    exact ⟨by simp [hxy], 0, rfl⟩
theorem xSame_any (ao bo : Option Addr) (n m cap cap' : Nat) (xs ys : List Int) (w : World) (hx : IntsAt w ao n cap xs) (hy : IntsAt w bo m cap' ys) :
    Calls Tryz.prog 13 #[.slice ao n cap, .slice bo m cap'] w fun e w' => e = .returned (.bool (decide (xs = ys))) ∧ Below w.heap.size w w' :=
  (xSame_quiet ao bo n m cap cap' xs ys w hx hy).mono fun e w' ⟨a, q, b⟩ => ⟨a, b ▸ belowDrewN (Below.refl _ _) q⟩

end
end Go.Proofs.YtimmjimeldejjaaGreatDoor
