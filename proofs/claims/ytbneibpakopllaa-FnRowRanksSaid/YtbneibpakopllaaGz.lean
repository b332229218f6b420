/- Several texts in one: RwL, RwD. No condition. -/
import Derived.Test.YtbneibpakopllaaLawp
import Derived.Test.YtbneibpakopllaaPasts
import Derived.Test.YtbneibpakopllaaRowA
import Derived.Test.YtbneibpakopllaaGd
import Derived.Test.YtbneibpakopllaaRowB
namespace Go.Proofs.Ytbneibpakopllaa
section
open Go.RowKit
set_option linter.unusedVariables false
set_option linter.unusedSimpArgs false

set_option maxHeartbeats 400000 in
theorem xSame_quiet (ao bo : Option Addr) (n m cap cap' : Nat) (xs ys : List Int) (w : World) (hx : IntsAt w ao n cap xs) (hy : IntsAt w bo m cap' ys) :
    Calls Try.prog 38 #[.slice ao n cap, .slice bo m cap'] w fun e w' => e = .returned (.bool (decide (xs = ys))) ∧ ∃ q, w' = w.drewN q := by
  have hn' := hx.lenInt
  have hm' := hy.lenInt
  by_cases hnm : n = m
  · subst hnm
    go_enter Try.func38, Try.ntmps38
    go_wp2
    go_loopw [13] (fun i wr => ∃ k : Nat, k ≤ n ∧ i = .int .i64 k ∧ xs.take k = ys.take k ∧ ∃ q, wr = w.drewN q)
      (fun i _ => n - (intOf i).toNat)
    case atStart => exact ⟨0, Nat.zero_le _, rfl, rfl, 0, rfl⟩
    case round =>
      obtain ⟨k, hk, rfl, heq, q, rfl⟩ := hrel
      have Heq := Lib.hid heq; clear heq
      by_cases hlt : k < n
      · have hl1 := Lib.hid hx.length
        have hl2 := Lib.hid hy.length
        obtain ⟨b1, o1, rfl, hb1, hc1⟩ := hx.cell k hlt
        have hck1 := hc1 k hlt
        clear hc1
        generalize hx1 : xs.getD k 0 = x at hck1
        have Hx1 := Lib.hid hx1; clear hx1
        obtain ⟨b2, o2, rfl, hb2, hc2⟩ := hy.cell k hlt
        have hck2 := hc2 k hlt
        clear hc2
        generalize hx2 : ys.getD k 0 = y at hck2
        have Hx2 := Lib.hid hx2; clear hx2
        go_wp2
        go_quiet (fail)
        go_wp2
        · go_ret
          have hne : xs ≠ ys := fun e => by
            have h3 := Hx1.out; have h4 := Hx2.out
            rw [e, h4] at h3; subst h3; simp at *
          exact ⟨by simp [hne], _, World.drewN_drewN _ _ _⟩
        · have hxy : x = y := by rename_i hh; simpa using hh
          go_roundw
          case rel => exact ⟨k + 1, by omega, by go_num, by rw [take_snoc Hx1.out hlt hl1.out, take_snoc Hx2.out hlt hl2.out, Heq.out, hxy], _, rfl⟩
          case measure => simp [intOf]; omega
      · go_wp2
        go_ret
        obtain rfl : n = k := by omega
        have e := Heq.out
        rw [take_all hx.length, take_all hy.length] at e
        exact ⟨by simp [e], _, rfl⟩
  · have hne : ((n : Int) != (m : Int)) = true := by simp; omega
    have hxy : xs ≠ ys := fun e => hnm (by rw [← hx.length, ← hy.length, e])
    go_enter Try.func38, Try.ntmps38
    go_wp2
    go_ret
    exact ⟨by simp [hxy], 0, rfl⟩
theorem xSame_any (ao bo : Option Addr) (n m cap cap' : Nat) (xs ys : List Int) (w : World) (hx : IntsAt w ao n cap xs) (hy : IntsAt w bo m cap' ys) :
    Calls Try.prog 38 #[.slice ao n cap, .slice bo m cap'] w fun e w' => e = .returned (.bool (decide (xs = ys))) ∧ Below w.heap.size w w' :=
  (xSame_quiet ao bo n m cap cap' xs ys w hx hy).mono fun e w' ⟨a, q, b⟩ => ⟨a, b ▸ belowDrewN (Below.refl _ _) q⟩

set_option maxHeartbeats 800000 in
theorem xRows_any (ao bo : Option Addr) (n m cap cap' : Nat) (xss yss : List (List Int)) (w : World) (hx : RowsAt w ao n cap xss) (hy : RowsAt w bo m cap' yss) :
    Calls Try.prog 62 #[.slice ao n cap, .slice bo m cap'] w fun e w' => e = .returned (.bool (decide (xss = yss))) ∧ Below w.heap.size w w' := by
  have hn' := hx.lenInt
  have hm' := hy.lenInt
  have hl1 := hx.length
  have hl2 := hy.length
  have Hl1 := Lib.hid hl1; clear hl1
  have Hl2 := Lib.hid hl2; clear hl2
  by_cases hnm : n = m
  · subst hnm
    go_enter Try.func62, Try.ntmps62
    go_wp2
    go_loopw [13] (fun i wr => ∃ k : Nat, k ≤ n ∧ i = .int .i64 k ∧ xss.take k = yss.take k ∧ Below w.heap.size w wr) (fun i _ => n - (intOf i).toNat)
    case atStart => exact ⟨0, Nat.zero_le _, rfl, rfl, Below.refl _ _⟩
    case round =>
      obtain ⟨k, hk, rfl, heq, hb⟩ := hrel
      have Heq := Lib.hid heq; clear heq
      by_cases hlt : k < n
      · obtain ⟨b1, o1, rfl, hbl1, hc1⟩ := (hx.keep hb).cell k hlt
        obtain ⟨a1, m1, c1, hcell1, hat1⟩ := hc1 k hlt
        obtain ⟨b2, o2, rfl, hbl2, hc2⟩ := (hy.keep hb).cell k hlt
        obtain ⟨a2, m2, c2, hcell2, hat2⟩ := hc2 k hlt
        have hcon := xSame_any a1 a2 m1 m2 c1 c2 (xss.getD k []) (yss.getD k []) wr.drew (hat1.drewN 1) (hat2.drewN 1)
        have hbd : Below w.heap.size w wr.drew := belowDrewN hb 1
        generalize hxa : xss.getD k [] = a at hcon
        generalize hyb : yss.getD k [] = b at hcon
        clear hc1 hc2 hat1 hat2
        by_cases hab : a = b
        · rw [decide_eq_true hab] at hcon
          have Hxa := Lib.hid hxa; clear hxa
          have Hyb := Lib.hid hyb; clear hyb
          have Hab := Lib.hid hab; clear hab
          have Hcon := Lib.hid hcon; clear hcon
          go_wp2
          go_region_law (first | (go_simp; with_reducible refine (Hcon.out).mono ?_; rintro e w1 ⟨rfl, hb1⟩))
          all_goals
            go_wp2
            go_roundw
            case rel =>
              refine ⟨k + 1, by omega, by go_num, ?_, belowTrans hbd hb1 (Nat.le_refl _)⟩
              rw [take_snocR Hxa.out hlt Hl1.out, take_snocR Hyb.out hlt Hl2.out, Heq.out, Hab.out]
            case measure => simp [intOf]; omega
        · have hne : xss ≠ yss := fun e => hab (by rw [← hxa, ← hyb, e])
          rw [decide_eq_false hab] at hcon
          have Hxa := Lib.hid hxa; clear hxa
          have Hyb := Lib.hid hyb; clear hyb
          have Hab := Lib.hid hab; clear hab
          have Hcon := Lib.hid hcon; clear hcon
          have Hne := Lib.hid hne; clear hne
          go_wp2
          go_region_law (first | (go_simp; with_reducible refine (Hcon.out).mono ?_; rintro e w1 ⟨rfl, hb1⟩))
          all_goals
            go_wp2
            go_ret
            exact ⟨retB (decide_eq_false Hne.out).symm, belowTrans hbd hb1 (Nat.le_refl _)⟩
      · obtain rfl : n = k := by omega
        have e := Heq.out
        rw [List.take_of_length_le (by have := Hl1.out; omega), List.take_of_length_le (by have := Hl2.out; omega)] at e
        have ed : true = decide (xss = yss) := (decide_eq_true e).symm
        have Ed := Lib.hid ed; clear ed
        clear e
        go_wp2
        go_ret
        exact ⟨retB Ed.out, hb⟩
  · have hne : ((n : Int) != (m : Int)) = true := by simp; omega
    have hxy : xss ≠ yss := fun e => hnm (by rw [← Hl1.out, ← Hl2.out, e])
    go_enter Try.func62, Try.ntmps62
    go_wp2
    go_ret
    exact ⟨by simp [hxy], Below.refl _ _⟩

theorem xSum_any (ao : Option Addr) (n cap : Nat) (xs : List Int) (w : World) (h : IntsAt w ao n cap xs) (hn28 : n ≤ 28) (hg : ∀ x ∈ xs, 1 ≤ x ∧ x ≤ 28) :
    Calls Try.prog 53 #[.slice ao n cap] w fun e w' => e = .returned (.int .i64 xs.sum) ∧ w = w' := by
  have hn := h.lenInt
  go_enter Try.func53, Try.ntmps53
  go_wp2
  go_loop [3, 8] (fun s i => ∃ k : Nat, ∃ t : Int, k ≤ n ∧ i = .int .i64 k ∧ s = .int .i64 t ∧ (xs.take k).sum = t ∧ 0 ≤ t ∧ t ≤ 28 * k) (fun _ i => n - (intOf i).toNat)
  case atStart => exact ⟨0, 0, Nat.zero_le _, rfl, rfl, rfl, by omega, by omega⟩
  case round =>
    obtain ⟨k, t, hk, rfl, rfl, ht, ht0, ht1⟩ := hrel
    have Ht := Lib.hid ht; clear ht
    by_cases hlt : k < n
    · obtain ⟨b, o, rfl, hb, hc⟩ := h.cell k hlt
      have hck := hc k hlt
      clear hc
      generalize hx : xs.getD k 0 = x at hck
      have Hx := Lib.hid hx; clear hx
      have hm := hg _ (getD_mem Hx.out hlt h.length)
      have e := take_snoc Hx.out hlt h.length
      have e2 : (xs.take (k + 1)).sum = t + x := by rw [e, List.sum_append, Ht.out]; simp
      have E2 := Lib.hid e2; clear e2
      have Hg := Lib.hid hg; clear hg
      clear e h
      go_wp2
      go_round
      case rel => exact ⟨k + 1, t + x, by omega, by go_num, rfl, E2.out, by omega, by omega⟩
      case measure => simp [intOf]; omega
    · go_wp2
      go_ret
      obtain rfl : n = k := by omega
      have hh := Ht.out
      rw [take_all h.length] at hh
      exact ⟨by first | rfl | (rw [hh]; rfl), rfl⟩

/-- from the first place on that differs, the greater number comes first -/
def befX : List Int → List Int → Bool
  | [], _ => false
  | _ :: _, [] => false
  | a :: l, b :: m => if a = b then befX l m else decide (b < a)
theorem drop_consI {xs : List Int} {k : Nat} {x : Int} (hx : xs.getD k 0 = x) (hk : k < xs.length) : xs.drop k = x :: xs.drop (k + 1) := by
  rw [List.drop_eq_getElem_cons hk, ← hx, List.getD_eq_getElem?_getD, List.getElem?_eq_getElem hk]; rfl
set_option maxHeartbeats 800000 in
theorem xBefore_any (ao bo : Option Addr) (n m cap cap' : Nat) (xs ys : List Int) (w : World) (hx : IntsAt w ao n cap xs) (hy : IntsAt w bo m cap' ys) :
    Calls Try.prog 70 #[.slice ao n cap, .slice bo m cap'] w fun e w' => e = .returned (.bool (befX xs ys)) ∧ Below w.heap.size w w' := by
  have hn' := hx.lenInt
  have hm' := hy.lenInt
  go_enter Try.func70, Try.ntmps70
  go_wp2
  go_loopw [8] (fun i wr => ∃ k : Nat, k ≤ n ∧ i = .int .i64 k ∧ befX xs ys = befX (xs.drop k) (ys.drop k) ∧ ∃ q, wr = w.drewN q)
    (fun i _ => n - (intOf i).toNat)
  case atStart => exact ⟨0, Nat.zero_le _, rfl, rfl, 0, rfl⟩
  case round =>
    obtain ⟨k, hk, rfl, heq, q, rfl⟩ := hrel
    have Heq := Lib.hid heq; clear heq
    have hl1 := Lib.hid hx.length
    have hl2 := Lib.hid hy.length
    by_cases hlt : k < n
    · by_cases hlm : k < m
      · obtain ⟨b1, o1, rfl, hb1, hc1⟩ := hx.cell k hlt
        have hck1 := hc1 k hlt
        clear hc1
        generalize hx1 : xs.getD k 0 = x at hck1
        have Hx1 := Lib.hid hx1; clear hx1
        obtain ⟨b2, o2, rfl, hb2, hc2⟩ := hy.cell k hlm
        have hck2 := hc2 k hlm
        clear hc2
        generalize hx2 : ys.getD k 0 = y at hck2
        have Hx2 := Lib.hid hx2; clear hx2
        have e1 := drop_consI Hx1.out (by have := hl1.out; omega)
        have e2 := drop_consI Hx2.out (by have := hl2.out; omega)
        have hb := Heq.out
        rw [e1, e2] at hb
        have hge : ¬ (m : Int) ≤ (k : Int) := by omega
        by_cases hxy : x = y
        · subst hxy
          rw [show befX (x :: xs.drop (k + 1)) (x :: ys.drop (k + 1)) = befX (xs.drop (k + 1)) (ys.drop (k + 1)) by simp [befX]] at hb
          have hne : (x != x) = false := by simp
          have Hb := Lib.hid hb; clear hb
          have E1 := Lib.hid e1; clear e1
          have E2 := Lib.hid e2; clear e2
          go_wp2
          go_quiet (fail)
          go_wp2
          go_roundw
          case rel => exact ⟨k + 1, by omega, by go_num, Hb.out, _, rfl⟩
          case measure => simp [intOf]; omega
        · rw [show befX (x :: xs.drop (k + 1)) (y :: ys.drop (k + 1)) = decide (y < x) by simp [befX, hxy]] at hb
          have hne : (x != y) = true := by simpa using hxy
          have Hb := Lib.hid hb; clear hb
          have E1 := Lib.hid e1; clear e1
          have E2 := Lib.hid e2; clear e2
          by_cases hyx : y < x
          · have hd1 : decide (y < x) = true := decide_eq_true hyx
            have HB := Lib.hid (Hb.out.trans hd1)
            go_wp2
            go_quiet (fail)
            go_wp2
            go_quiet (fail)
            go_wp2
            go_ret
            rw [HB.out]
            exact ⟨rfl, belowDrewN (belowDrewN (belowDrewN (Below.refl _ _) _) _) _⟩
          · have hd1 : decide (y < x) = false := decide_eq_false hyx
            have HB := Lib.hid (Hb.out.trans hd1)
            go_wp2
            go_quiet (fail)
            go_wp2
            go_quiet (fail)
            go_wp2
            go_ret
            rw [HB.out]
            exact ⟨rfl, belowDrewN (belowDrewN (belowDrewN (Below.refl _ _) _) _) _⟩
      · have hge : (m : Int) ≤ (k : Int) := by omega
        have hb := Heq.out
        rw [List.drop_of_length_le (l := ys) (by have := hl2.out; omega)] at hb
        have hb2 : befX xs ys = false := by
          rw [hb]
          cases xs.drop k <;> rfl
        have Hb := Lib.hid hb; clear hb
        have Hb2 := Lib.hid hb2; clear hb2
        go_wp2
        go_ret
        rw [Hb2.out]
        exact ⟨rfl, belowDrewN (Below.refl _ _) _⟩
    · have hb := Heq.out
      rw [List.drop_of_length_le (l := xs) (by have := hl1.out; omega)] at hb
      have hb2 : befX xs ys = false := by rw [hb]; rfl
      have Hb := Lib.hid hb; clear hb
      have Hb2 := Lib.hid hb2; clear hb2
      go_wp2
      go_ret
      rw [Hb2.out]
      exact ⟨rfl, belowDrewN (Below.refl _ _) _⟩
end
end Go.Proofs.Ytbneibpakopllaa
namespace Go.Proofs.Ytbneibpakopllaa
section
open Go.RowKit
set_option linter.unusedVariables false
set_option linter.unusedSimpArgs false

/-- one of some numbers that are laid for it -/
theorem amongNew_any (xs : List Int) (w : World) (g A : Nat) (h : Cur w g A) (hA : A ≤ 900000000) (hn : 1 ≤ xs.length) (hn2 : xs.length ≤ 1048576) :
    Calls Try.prog 105 #[.pointer (some ⟨g, 0, none⟩), .slice (some ⟨w.heap.size, 0, none⟩) xs.length xs.length] (w.alloc (.cells (xs.map (Value.int .i64)).toArray 3)) fun e w' => ∃ z, z ∈ xs ∧ e = .returned (.int .i64 z) ∧ Cur w' g (A + 2) ∧ Chg (fun k => k = g) w w' := by
  have hlt := h.lt
  have ha := among_any xs.length xs.length _ xs _ g A (intsAt_new w xs (by unfold maxLen; omega)) (fun b o e => by cases e; omega) (h.keep ((Below.refl _ _).alloc (Nat.le_refl _) _)) hA hn hn2
  refine ha.mono fun e w' ⟨i, hi, he, hc, hg⟩ => ⟨xs.getD i 0, mem_of_getD hi, he, hc, hg.allocFirst⟩

set_option maxHeartbeats 6400000 in
set_option maxRecDepth 100000 in
theorem row_any (most : Nat) (w : World) (g A : Nat) (h : Cur w g A) (hA : A ≤ 800000000) (hm : most ≤ 28) :
    Calls Try.prog 119 #[.pointer (some ⟨g, 0, none⟩), .int .i64 most] w fun e w' => ∃ ao n cap xs, e = .returned (.slice ao n cap) ∧ Own w.heap.size w'.heap.size w' ao n cap xs ∧ n ≤ 29 ∧ Cur w' g (A + 400) ∧ Chg (fun k => k = g) w w' := by
  have hcon := pick_any (most + 1) w g A h (by omega) (by omega) (by omega)
  simp only [show ((most + 1 : Nat) : Int) = (most : Int) + 1 from rfl] at hcon
  have hm8 : (most : Int) ≤ 28 := by omega
  have hg := h.lt
  have Hcon := Lib.hid hcon; clear hcon
  go_enter Try.func119, Try.ntmps119
  go_wp2_with fail
  with_reducible refine (Hcon.out).mono ?_
  rintro e w1 ⟨N, hN, rfl, hc1, hg1⟩
  clear Hcon
  go_wp2
  go_loopw [5, 6] (fun v i wr => ∃ (k m : Nat) (a : Option Addr) (c : Nat) (xs : List Int), v = .slice a k c ∧ i = .int .i64 m ∧ k + m ≤ N ∧ Own w.heap.size wr.heap.size wr a k c xs ∧ Cur wr g (A + 2 + 6 * k) ∧ Chg (fun k => k = g) w wr) (fun _ i _ => (intOf i).toNat)
  case atStart => exact ⟨0, N, none, 0, [], rfl, rfl, by omega, Own.nil _ _ _, hc1, hg1⟩
  case round =>
    obtain ⟨k, m, a, c, xs, rfl, rfl, hkm, ho, hc, hgw⟩ := hrel
    clear hc1 hg1
    have hnew : ∀ j, (Value.slice a k c).ownBlock = some j → w.heap.size ≤ j := fun j hj => (ho.1.lt j hj).1
    by_cases hz : m = 0
    · subst hz
      have hp := pick_any 24 wr g _ hc (by omega) (by omega) (by omega)
      rw [show ((24 : Nat) : Int) = 24 from rfl] at hp
      have hk8 : k ≤ 28 := by omega
      have Hp := Lib.hid hp; clear hp
      have Hnew := Lib.hid hnew; clear hnew
      go_wp2_with fail
      with_reducible refine (Hp.out).mono ?_
      rintro e w2 ⟨b, hb, rfl, hc2, hg2⟩
      have ho2 := ho.chg hg2 (fun j h1 _ _ e => by omega)
      have hgw2 := hgw.trans hg2
      have hs2 := hg2.size
      have hs1 := hgw.size
      have hb8 : (b : Int) < 24 := by omega
      clear ho hc hgw hg2 Hp
      by_cases hb0 : b = 0
      · subst hb0
        have ha := amongNew_any [0, -1, 28, 29, 4611686018427387904] w2 g _ hc2 (by omega) (by simp) (by simp)
        simp only [List.map_cons, List.map_nil, List.length_cons, List.length_nil, Nat.reduceAdd] at ha
        have Ha := Lib.hid ha; clear ha
        go_wp2_with fail
        with_reducible refine (Ha.out).mono ?_
        rintro e w3 ⟨z, hz, rfl, hc3, hg3⟩
        have ho3 := ho2.chg hg3 (fun j h1 _ _ e => by omega)
        have hgw3 := hgw2.trans hg3
        have hs3 := hg3.size
        clear hz ho2 hgw2 hg3
        go_wp2_with (at_builtin; refine wpList_push w3 rfl _ _ rfl w.heap.size _ a k c _ rfl ho3 z rfl (by omega) (by omega) ?_)
        intro a' c' w' ho' hch'
        have hgw' := hgw3.newer hch' Hnew.out
        have hc' := (hc3.chg hch' (fun j hj e => by have := Hnew.out j e; omega)).le (show _ ≤ A + 400 by omega)
        clear ho3 hch' hgw3 hc3
        have Ho' := Lib.hid ho'; clear ho'
        have Hc' := Lib.hid hc'; clear hc'
        have Hgw' := Lib.hid hgw'; clear hgw'
        go_wp2
        go_ret
        exact ⟨_, _, _, _, rfl, Ho'.out, by omega, Hc'.out, Hgw'.out⟩
      · by_cases hb1 : b = 1
        · subst hb1
          have hc2' := hc2.le (show A + 2 + 6 * k + 2 ≤ A + 250 + 2 * k by omega)
          clear hc2
          have ho2' := ho2.mono (Nat.le_refl _) hs2
          obtain ⟨wi, hwi⟩ : ∃ wi : World, wi = w2 := ⟨_, rfl⟩
          subst hwi
          go_wp2_with fail
          go_loopw [5] (fun v wr => ∃ (k : Nat) (a : Option Addr) (c : Nat) (xs : List Int), v = .slice a k c ∧ k ≤ 29 ∧ Own w.heap.size wr.heap.size wr a k c xs ∧ Cur wr g (A + 250 + 2 * k) ∧ Chg (fun k => k = g) w wr) (fun v _ => 29 - (match v with | .slice _ n _ => n | _ => 0))
          case atStart => exact ⟨k, a, c, xs, rfl, by omega, ho2', hc2', hgw2⟩
          case round =>
            clear ho2 ho2' hc2' hgw2 Hnew
            obtain ⟨k, a, c, xs, rfl, hk29, ho, hc, hgw⟩ := hrel
            have hnew : ∀ j, (Value.slice a k c).ownBlock = some j → w.heap.size ≤ j := fun j hj => (ho.1.lt j hj).1
            have hp := pick_any 2 wr g _ hc (by omega) (by omega) (by omega)
            rw [show ((2 : Nat) : Int) = 2 from rfl] at hp
            have Hp := Lib.hid hp; clear hp
            have Hnew := Lib.hid hnew; clear hnew
            go_wp2_with fail
            with_reducible refine (Hp.out).mono ?_
            rintro e w2 ⟨b, hb, rfl, hc2, hg2⟩
            have ho2 := ho.chg hg2 (fun j h1 _ _ e => by omega)
            have hgw2 := hgw.trans hg2
            have hs2 := hg2.size
            have hs1 := hgw.size
            have hb8 : (b : Int) < 2 := by omega
            have hk9 : (k : Int) ≤ 29 := by omega
            clear ho hc hgw hg2 Hp
            by_cases hlt : k < 28 + b
            · have hd : (k : Int) < 28 + (b : Int) := by omega
              go_wp2_with (at_builtin; refine wpList_push w2 rfl _ _ rfl w.heap.size _ a k c _ rfl ho2 1 rfl (by omega) (by omega) ?_)
              intro a' c' w' ho' hch'
              have hgw' := hgw2.newer hch' Hnew.out
              have hc' := (hc2.chg hch' (fun j hj e => by have := Hnew.out j e; omega)).le (show _ ≤ A + 250 + 2 * (k + 1) by omega)
              clear ho2 hch' hgw2 hc2
              have Ho' := Lib.hid ho'; clear ho'
              have Hc' := Lib.hid hc'; clear hc'
              have Hgw' := Lib.hid hgw'; clear hgw'
              go_wp2
              go_roundw
              case rel => exact ⟨k + 1, a', c', _, rfl, by omega, Ho'.out, Hc'.out, Hgw'.out⟩
              case measure => simp only []; omega
            · have hd : ¬ (k : Int) < 28 + (b : Int) := by omega
              have hc' := hc2.le (show _ ≤ A + 400 by omega)
              have ho' := ho2.mono (Nat.le_refl _) hs2
              clear ho2 hc2
              have Ho' := Lib.hid ho'; clear ho'
              have Hc' := Lib.hid hc'; clear hc'
              have Hgw2 := Lib.hid hgw2; clear hgw2
              go_wp2
              go_ret
              exact ⟨_, _, _, _, rfl, Ho'.out, by omega, Hc'.out, Hgw2.out⟩
        · have hd0 : ((b : Int) == 0) = false := by simp; omega
          have hd1 : ((b : Int) == 1) = false := by simp; omega
          have hd2 : decide ((b : Int) = 0) = false := decide_eq_false (by omega)
          have hd3 : decide ((b : Int) = 1) = false := decide_eq_false (by omega)
          have hd4 : ¬ (b : Int) = 0 := by omega
          have hd5 : ¬ (b : Int) = 1 := by omega
          have hc' := hc2.le (show _ ≤ A + 400 by omega)
          have ho' := ho2.mono (Nat.le_refl _) hs2
          clear ho2 hc2
          have Ho' := Lib.hid ho'; clear ho'
          have Hc' := Lib.hid hc'; clear hc'
          have Hgw2 := Lib.hid hgw2; clear hgw2
          have Hb0 := Lib.hid hb0; clear hb0
          have Hb1 := Lib.hid hb1; clear hb1
          go_wp2
          go_ret
          exact ⟨_, _, _, _, rfl, Ho'.out, by omega, Hc'.out, Hgw2.out⟩
    · have hm1 : (0 : Int) < (m : Int) := by omega
      have hm9 : (m : Int) ≤ 28 := by omega
      have ha := amongNew_any [2, 4, 28] wr g _ hc (by omega) (by simp) (by simp)
      simp only [List.map_cons, List.map_nil, List.length_cons, List.length_nil, Nat.reduceAdd] at ha
      have hs1 := hgw.size
      have Ha := Lib.hid ha; clear ha
      have Hnew := Lib.hid hnew; clear hnew
      go_wp2_with fail
      with_reducible refine (Ha.out).mono ?_
      rintro e w3 ⟨z, hz3, rfl, hc3, hg3⟩
      have ho3 := ho.chg hg3 (fun j h1 _ _ e => by omega)
      have hgw3 := hgw.trans hg3
      have hs3 := hg3.size
      have hz2 : 2 ≤ z ∧ z ≤ 28 := by simp at hz3; omega
      obtain ⟨Z, rfl⟩ := Int.eq_ofNat_of_zero_le (show 0 ≤ z by omega)
      clear hz3 ho hgw hg3 hc Ha
      have hleast := l1Least_any (m : Int) (Z : Int) w3
      rw [show min (m : Int) (Z : Int) = ((min m Z : Nat) : Int) by omega] at hleast
      have hp1 := pick_any (min m Z) w3 g _ hc3 (by omega) (by omega) (by omega)
      generalize hX : min m Z = X at hleast hp1
      have Hleast := Lib.hid hleast; clear hleast
      have Hp1 := Lib.hid hp1; clear hp1
      go_wp2_with fail
      with_reducible refine (Hleast.out).mono ?_
      rintro e w' ⟨rfl, rfl⟩
      go_wp2_with fail
      with_reducible refine (Hp1.out).mono ?_
      rintro e w4 ⟨b, hb, rfl, hc4, hg4⟩
      have ho4 := ho3.chg hg4 (fun j h1 _ _ e => by omega)
      have hgw4 := hgw3.trans hg4
      have hs4 := hg4.size
      have hbm : b < m := by omega
      have hb8 : (b : Int) < 28 := by omega
      clear ho3 hgw3 hg4 hc3 Hp1 Hleast hX hb
      go_wp2_with (at_builtin; refine wpList_push w4 rfl _ _ rfl w.heap.size _ a k c _ rfl ho4 _ rfl (by omega) (by omega) ?_)
      intro a' c' w' ho' hch'
      have hgw' := hgw4.newer hch' Hnew.out
      have hc' := (hc4.chg hch' (fun j hj e => by have := Hnew.out j e; omega)).le (show _ ≤ A + 2 + 6 * (k + 1) by omega)
      clear ho4 hch' hgw4 hc4
      have Ho' := Lib.hid ho'; clear ho'
      have Hc' := Lib.hid hc'; clear hc'
      have Hgw' := Lib.hid hgw'; clear hgw'
      go_wp2
      go_roundw
      case rel => exact ⟨k + 1, m - (1 + b), a', c', _, rfl, valI (by omega), by omega, Ho'.out, Hc'.out, Hgw'.out⟩
      case measure => simp [intOf]; omega
theorem DrawIsRow_any (ac : Option Addr) (nc cc : Nat) (w : World) (hnc : nc ≤ 1048576) (hby : ByteIn w w.heap.size ac nc) :
    Calls Try.prog 116 #[.slice ac nc cc] w fun e w' => ∃ ao n cap xs, e = .returned (.slice ao n cap) ∧ Own w.heap.size w'.heap.size w' ao n cap xs ∧ n ≤ 29 ∧ Below w.heap.size w w' := by
  have hcon := row_any 28 _ _ 0 (cur_new w ac nc cc hnc hby) (by omega) (by omega)
  rw [show ((28 : Nat) : Int) = 28 from rfl] at hcon
  have Hcon := Lib.hid hcon; clear hcon
  have Hby := Lib.hid hby; clear hby
  go_enter Try.func116, Try.ntmps116
  go_wp2_with fail
  with_reducible refine (Hcon.out).mono ?_
  rintro e w1 ⟨a, n, c, xs, rfl, ho, hn, hc, hg⟩
  go_wp2
  go_ret
  exact ⟨_, _, _, _, rfl, ho.mono (curSize _ _) (Nat.le_refl _), hn, hg.drawn⟩
theorem DrawStepRow_any (ac : Option Addr) (nc cc : Nat) (w : World) (hnc : nc ≤ 1048576) (hby : ByteIn w w.heap.size ac nc) :
    Calls Try.prog 47 #[.slice ac nc cc] w fun e w' => ∃ ao n cap xs, e = .returned (.slice ao n cap) ∧ Own w.heap.size w'.heap.size w' ao n cap xs ∧ n ≤ 29 ∧ Below w.heap.size w w' := by
  have hcon := DrawIsRow_any ac nc cc w hnc hby
  have Hcon := Lib.hid hcon; clear hcon
  have Hby := Lib.hid hby; clear hby
  go_enter Try.func47, Try.ntmps47
  go_wp2_with fail
  with_reducible refine (Hcon.out).mono ?_
  rintro e w1 ⟨a, n, c, xs, rfl, ho, hn, hg⟩
  go_wp2
  go_ret
  exact ⟨_, _, _, _, rfl, ho, hn, hg⟩
theorem DrawRowSteps_any (ac : Option Addr) (nc cc : Nat) (w : World) (hnc : nc ≤ 1048576) (hby : ByteIn w w.heap.size ac nc) :
    Calls Try.prog 55 #[.slice ac nc cc] w fun e w' => ∃ ao n cap xs k, e = .returned (.tuple #[.slice ao n cap, .int .i64 k]) ∧ Own w.heap.size w'.heap.size w' ao n cap xs ∧ n ≤ 29 ∧ -1 ≤ k ∧ k ≤ 1001 ∧ Below w.heap.size w w' := by
  have hcon := row_any 20 _ _ 0 (cur_new w ac nc cc hnc hby) (by omega) (by omega)
  rw [show ((20 : Nat) : Int) = 20 from rfl] at hcon
  have Hcon := Lib.hid hcon; clear hcon
  have Hby := Lib.hid hby; clear hby
  go_enter Try.func55, Try.ntmps55
  go_wp2_with fail
  with_reducible refine (Hcon.out).mono ?_
  rintro e w1 ⟨a, n, c, xs, rfl, ho, hn, hc, hg⟩
  have hlt := hc.lt
  have ha := amongNew_any [0, 1, 2, 5, 20, 100, 1000, 1001, -1] w1 _ _ hc (by omega) (by simp) (by simp)
  simp only [List.map_cons, List.map_nil, List.length_cons, List.length_nil, Nat.reduceAdd] at ha
  have Ha := Lib.hid ha; clear ha
  go_wp2_with fail
  with_reducible refine (Ha.out).mono ?_
  rintro e w2 ⟨k, hk, rfl, hc2, hg2⟩
  have hkb : -1 ≤ k ∧ k ≤ 1001 := by simp at hk; omega
  have hs := hg2.size
  clear hk
  go_wp2
  go_ret2
  exact ⟨_, _, _, _, _, rfl, (ho.chg hg2 (fun j h1 _ _ e => by rw [e] at h1; simp at h1; omega)).mono (curSize _ _) hs, hn, hkb.1, hkb.2, (hg.trans hg2).drawn⟩
theorem DrawPlayRow_any (ac : Option Addr) (nc cc : Nat) (w : World) (hnc : nc ≤ 1048576) (hby : ByteIn w w.heap.size ac nc) :
    Calls Try.prog 59 #[.slice ac nc cc] w fun e w' => ∃ ao n cap xs k, e = .returned (.tuple #[.slice ao n cap, .int .i64 k]) ∧ Own w.heap.size w'.heap.size w' ao n cap xs ∧ n ≤ 29 ∧ -1 ≤ k ∧ k ≤ 1001 ∧ Below w.heap.size w w' := by
  have hcon := row_any 14 _ _ 0 (cur_new w ac nc cc hnc hby) (by omega) (by omega)
  rw [show ((14 : Nat) : Int) = 14 from rfl] at hcon
  have Hcon := Lib.hid hcon; clear hcon
  have Hby := Lib.hid hby; clear hby
  go_enter Try.func59, Try.ntmps59
  go_wp2_with fail
  with_reducible refine (Hcon.out).mono ?_
  rintro e w1 ⟨a, n, c, xs, rfl, ho, hn, hc, hg⟩
  have hlt := hc.lt
  have ha := amongNew_any [0, 1, 2, 5, 20, 1001, -1] w1 _ _ hc (by omega) (by simp) (by simp)
  simp only [List.map_cons, List.map_nil, List.length_cons, List.length_nil, Nat.reduceAdd] at ha
  have Ha := Lib.hid ha; clear ha
  go_wp2_with fail
  with_reducible refine (Ha.out).mono ?_
  rintro e w2 ⟨k, hk, rfl, hc2, hg2⟩
  have hkb : -1 ≤ k ∧ k ≤ 1001 := by simp at hk; omega
  have hs := hg2.size
  clear hk
  go_wp2
  go_ret2
  exact ⟨_, _, _, _, _, rfl, (ho.chg hg2 (fun j h1 _ _ e => by rw [e] at h1; simp at h1; omega)).mono (curSize _ _) hs, hn, hkb.1, hkb.2, (hg.trans hg2).drawn⟩
theorem DrawCountRowGardens_any (ac : Option Addr) (nc cc : Nat) (w : World) (hnc : nc ≤ 1048576) (hby : ByteIn w w.heap.size ac nc) :
    Calls Try.prog 77 #[.slice ac nc cc] w fun e w' => ∃ k, e = .returned (.int .i64 k) ∧ -1 ≤ k ∧ k ≤ 29 ∧ Below w.heap.size w w' := by
  have ha := amongNew_any [0, 1, 2, 3, 5, 8, 10, 12, 13, -1] _ _ _ (cur_new w ac nc cc hnc hby) (by omega) (by simp) (by simp)
  simp only [List.map_cons, List.map_nil, List.length_cons, List.length_nil, Nat.reduceAdd] at ha
  rw [show (w.alloc (.cells #[.slice ac nc cc, .int .i64 0, .int .u64 0] 96)).heap.size = w.heap.size + 1 by simp] at ha
  have Ha := Lib.hid ha; clear ha
  have Hby := Lib.hid hby; clear hby
  go_enter Try.func77, Try.ntmps77
  go_wp2_with fail
  with_reducible refine (Ha.out).mono ?_
  rintro e w2 ⟨k, hk, rfl, hc2, hg2⟩
  have hkb : -1 ≤ k ∧ k ≤ 29 := by simp at hk; omega
  clear hk
  go_wp2
  go_ret
  exact ⟨_, rfl, hkb.1, hkb.2, hg2.drawn⟩
theorem DrawLongestRow_any (ac : Option Addr) (nc cc : Nat) (w : World) (hnc : nc ≤ 1048576) (hby : ByteIn w w.heap.size ac nc) :
    Calls Try.prog 80 #[.slice ac nc cc] w fun e w' => ∃ k, e = .returned (.int .i64 k) ∧ -1 ≤ k ∧ k ≤ 29 ∧ Below w.heap.size w w' := by
  have ha := amongNew_any [1, 2, 3, 5, 6, 8, 10, 11, 0] _ _ _ (cur_new w ac nc cc hnc hby) (by omega) (by simp) (by simp)
  simp only [List.map_cons, List.map_nil, List.length_cons, List.length_nil, Nat.reduceAdd] at ha
  rw [show (w.alloc (.cells #[.slice ac nc cc, .int .i64 0, .int .u64 0] 96)).heap.size = w.heap.size + 1 by simp] at ha
  have Ha := Lib.hid ha; clear ha
  have Hby := Lib.hid hby; clear hby
  go_enter Try.func80, Try.ntmps80
  go_wp2_with fail
  with_reducible refine (Ha.out).mono ?_
  rintro e w2 ⟨k, hk, rfl, hc2, hg2⟩
  have hkb : -1 ≤ k ∧ k ≤ 29 := by simp at hk; omega
  clear hk
  go_wp2
  go_ret
  exact ⟨_, rfl, hkb.1, hkb.2, hg2.drawn⟩
theorem DrawRowOrbit_any (ac : Option Addr) (nc cc : Nat) (w : World) (hnc : nc ≤ 1048576) (hby : ByteIn w w.heap.size ac nc) :
    Calls Try.prog 63 #[.slice ac nc cc] w fun e w' => ∃ ao n cap xs, e = .returned (.slice ao n cap) ∧ Own w.heap.size w'.heap.size w' ao n cap xs ∧ n ≤ 29 ∧ Below w.heap.size w w' := by
  have ha := amongNew_any [6, 10, 15, 21] _ _ _ (cur_new w ac nc cc hnc hby) (by omega) (by simp) (by simp)
  simp only [List.map_cons, List.map_nil, List.length_cons, List.length_nil, Nat.reduceAdd] at ha
  rw [show (w.alloc (.cells #[.slice ac nc cc, .int .i64 0, .int .u64 0] 96)).heap.size = w.heap.size + 1 by simp] at ha
  have Ha := Lib.hid ha; clear ha
  have Hby := Lib.hid hby; clear hby
  go_enter Try.func63, Try.ntmps63
  go_wp2_with fail
  with_reducible refine (Ha.out).mono ?_
  rintro e w2 ⟨k, hk, rfl, hc2, hg2⟩
  have hkb : 6 ≤ k ∧ k ≤ 21 := by simp at hk; omega
  obtain ⟨K, rfl⟩ := Int.eq_ofNat_of_zero_le (show 0 ≤ k by omega)
  have hcon := row_any K w2 _ _ hc2 (by omega) (by omega)
  have hs := hg2.size
  clear hk
  have Hcon := Lib.hid hcon; clear hcon
  go_wp2_with fail
  with_reducible refine (Hcon.out).mono ?_
  rintro e w1 ⟨a, n, c, xs, rfl, ho, hn, hc, hg⟩
  go_wp2
  go_ret
  exact ⟨_, _, _, _, rfl, ho.mono (by simp at hs; omega) (Nat.le_refl _), hn, (hg2.trans hg).drawn⟩
set_option maxHeartbeats 800000 in
theorem DrawRowPasts_any (ac : Option Addr) (nc cc : Nat) (w : World) (hnc : nc ≤ 1048576) (hby : ByteIn w w.heap.size ac nc) :
    Calls Try.prog 67 #[.slice ac nc cc] w fun e w' => ∃ ao n cap xs, e = .returned (.slice ao n cap) ∧ Own w.heap.size w'.heap.size w' ao n cap xs ∧ Below w.heap.size w w' := by
  have hcon := row_any 14 _ _ 0 (cur_new w ac nc cc hnc hby) (by omega) (by omega)
  rw [show ((14 : Nat) : Int) = 14 from rfl] at hcon
  have Hcon := Lib.hid hcon; clear hcon
  have Hby := Lib.hid hby; clear hby
  go_enter Try.func67, Try.ntmps67
  go_wp2_with fail
  with_reducible refine (Hcon.out).mono ?_
  rintro e w1 ⟨a, n, c, xs, rfl, ho, hn, hc, hg⟩
  have hlt := hc.lt
  have ho1 := ho.mono (curSize w _) (Nat.le_refl _)
  have hgd := roGood_any a n c xs w1 ho.at
  clear Hcon
  cases hb : rowB xs
  · rw [hb] at hgd
    have Hgd := Lib.hid hgd; clear hgd
    have Hb := Lib.hid hb; clear hb
    go_wp2_with fail
    with_reducible refine (Hgd.out).mono ?_
    rintro e w' ⟨rfl, rfl⟩
    go_wp2
    go_ret
    exact ⟨_, _, _, _, rfl, ho1, hg.drawn⟩
  · rw [hb] at hgd
    have hone := one_any 2 w1 _ _ hc (by omega) (by omega) (by omega)
    rw [show ((2 : Nat) : Int) = 2 from rfl] at hone
    have hro := row_iff.1 hb
    have Hgd := Lib.hid hgd; clear hgd
    have Hb := Lib.hid hb; clear hb
    have Hone := Lib.hid hone; clear hone
    have Hro := Lib.hid hro; clear hro
    go_wp2_with fail
    with_reducible refine (Hgd.out).mono ?_
    rintro e w' ⟨rfl, rfl⟩
    go_wp2_with fail
    with_reducible refine (Hone.out).mono ?_
    rintro e w2 ⟨t, rfl, hc2, hg2⟩
    have hs := hg2.size
    have ho2 := (ho.chg hg2 (fun j h1 _ _ e => by rw [e] at h1; simp at h1; omega)).mono (curSize w _) hs
    have hst := roStep_any a n c xs w2 ho2.at Hro.out
    have hbb := (hg.trans hg2).drawn
    cases t
    · clear hst
      have Ho2 := Lib.hid ho2; clear ho2
      have Hbb := Lib.hid hbb; clear hbb
      go_wp2
      go_ret
      exact ⟨_, _, _, _, rfl, Ho2.out, Hbb.out⟩
    · have Hst := Lib.hid hst; clear hst
      go_wp2_with fail
      with_reducible refine (Hst.out).mono ?_
      rintro e w3 ⟨a3, n3, c3, rfl, ho3, hb3⟩
      have hs3 := hbb.size
      have hb4 := belowTrans hbb hb3 (Nat.le_refl _)
      have ho4 := ho3.mono hs3 (Nat.le_refl _)
      clear ho3 hb3
      have Ho4 := Lib.hid ho4; clear ho4
      have Hb4 := Lib.hid hb4; clear hb4
      go_wp2
      go_ret
      exact ⟨_, _, _, _, rfl, Ho4.out, Hb4.out⟩

theorem pow_fin9 : ∀ m : Nat, m < 29 → wrap64 (2 ^ m) = (cntR (m + 1) : Int) := by decide +kernel
theorem cntR_le9 : ∀ n, n < 30 → 1 ≤ cntR n ∧ cntR n ≤ 268435456 := by decide +kernel
theorem roCount9_any (n : Nat) (w : World) (hn : n ≤ 29) :
    Calls Try.prog 127 #[.int .i64 n] w fun e w' => e = .returned (.int .i64 (cntR n : Nat)) ∧ w = w' := by
  by_cases h : n = 0
  · subst h
    go_enter Try.func127, Try.ntmps127
    go_wp2
    go_ret
    exact ⟨rfl, rfl⟩
  · obtain ⟨m, rfl⟩ : ∃ m, n = m + 1 := ⟨n - 1, by omega⟩
    have hp := pow_fin9 m (by omega)
    have hb : (((m + 1 : Nat) : Int) == 0) = false := by rw [beq_eq_false_iff_ne]; omega
    have em : (((m + 1 : Nat) : Int) - 1).toNat = m := by omega
    have hm0 : (0 : Int) ≤ ((m + 1 : Nat) : Int) - 1 := by omega
    have hm1 : ((m + 1 : Nat) : Int) - 1 ≤ 64 := by omega
    have Hp := Lib.hid hp; clear hp
    have Em := Lib.hid em; clear em
    go_enter Try.func127, Try.ntmps127
    go_wp2
    go_ret
    exact ⟨retI (by rw [← Hp.out]), rfl⟩
theorem l1MostI_any (a b : Int) (w : World) :
    Calls Try.prog 108 #[.int .i64 a, .int .i64 b] w fun e w' => e = .returned (.int .i64 (max a b)) ∧ w = w' := by
  by_cases h : b < a
  · have e : max a b = a := by omega
    rw [e]
    go_enter Try.func108, Try.ntmps108
    go_wp2
    go_ret
    exact ⟨rfl, rfl⟩
  · have e : max a b = b := by omega
    rw [e]
    go_enter Try.func108, Try.ntmps108
    go_wp2
    go_ret
    exact ⟨rfl, rfl⟩
set_option maxHeartbeats 1600000 in
theorem DrawRowWith_any (ac : Option Addr) (nc cc : Nat) (w : World) (hnc : nc ≤ 1048576) (hby : ByteIn w w.heap.size ac nc) :
    Calls Try.prog 71 #[.slice ac nc cc] w fun e w' => ∃ n k : Int, e = .returned (.tuple #[.int .i64 n, .int .i64 k]) ∧ -1 ≤ n ∧ n ≤ 29 ∧ -1 ≤ k ∧ k ≤ 268435456 ∧ Below w.heap.size w w' := by
  have ha := amongNew_any [0, 1, 3, 5, 8, 12, 28, 29, -1] _ _ _ (cur_new w ac nc cc hnc hby) (by omega) (by simp) (by simp)
  simp only [List.map_cons, List.map_nil, List.length_cons, List.length_nil, Nat.reduceAdd] at ha
  rw [show (w.alloc (.cells #[.slice ac nc cc, .int .i64 0, .int .u64 0] 96)).heap.size = w.heap.size + 1 by simp] at ha
  have Ha := Lib.hid ha; clear ha
  have Hby := Lib.hid hby; clear hby
  go_enter Try.func71, Try.ntmps71
  go_wp2_with fail
  with_reducible refine (Ha.out).mono ?_
  rintro e w2 ⟨n, hn, rfl, hc2, hg2⟩
  have hnb : -1 ≤ n ∧ n ≤ 29 := by simp at hn; omega
  clear hn Ha
  obtain ⟨N, hN⟩ : ∃ N : Nat, max 0 n = (N : Int) := ⟨n.toNat, by omega⟩
  have hN9 : N ≤ 29 := by omega
  have hmx := fun W => l1MostI_any 0 n W
  rw [hN] at hmx
  have hct := fun W => roCount9_any N W hN9
  have hcb := cntR_le9 N (by omega)
  generalize cntR N = C at hct hcb
  have hls := fun W => l1Least_any (C : Int) 60000 W
  rw [show min (C : Int) 60000 = ((min C 60000 : Nat) : Int) by omega] at hls
  have hp1 := pick_any (min C 60000) w2 _ _ hc2 (by omega) (by omega) (by omega)
  have hp2 := fun W hW => pick_any (min C 60000) W w.heap.size 4 hW (by omega) (by omega) (by omega)
  have hD : min C 60000 ≤ 60000 := by omega
  generalize min C 60000 = D at hls hp1 hp2 hD
  have hC8 : (C : Int) ≤ 268435456 := by omega
  clear hN
  have Hmx := Lib.hid hmx; clear hmx
  have Hct := Lib.hid hct; clear hct
  have Hls := Lib.hid hls; clear hls
  have Hp1 := Lib.hid hp1; clear hp1
  have Hp2 := Lib.hid hp2; clear hp2
  go_wp2_with fail
  with_reducible refine (Hmx.out _).mono ?_
  rintro e w' ⟨rfl, rfl⟩
  go_wp2_with fail
  with_reducible refine (Hct.out _).mono ?_
  rintro e w' ⟨rfl, rfl⟩
  go_wp2_with fail
  with_reducible refine (Hls.out _).mono ?_
  rintro e w' ⟨rfl, rfl⟩
  go_wp2_with fail
  with_reducible refine (Hp1.out).mono ?_
  rintro e w3 ⟨b1, hb1, rfl, hc3, hg3⟩
  go_wp2_with fail
  with_reducible refine (Hls.out _).mono ?_
  rintro e w' ⟨rfl, rfl⟩
  go_wp2_with fail
  with_reducible refine (Hp2.out _ (hc3.le (by omega))).mono ?_
  rintro e w4 ⟨b2, hb2, rfl, hc4, hg4⟩
  have ha2 := amongNew_any [0, 1, (C : Int) - 1, (C : Int), -1, (b1 : Int), (b2 : Int)] w4 _ _ hc4 (by omega) (by simp) (by simp)
  simp only [List.map_cons, List.map_nil, List.length_cons, List.length_nil, Nat.reduceAdd] at ha2
  have hcb2 : 1 ≤ (C : Int) := by omega
  have hb1' : (b1 : Int) < 60000 := by omega
  have hb2' : (b2 : Int) < 60000 := by omega
  have hgg := ((hg2.trans hg3).trans hg4)
  clear hg2 hg3 hg4 hc2 hc3 hc4 Hp1 Hp2 Hls Hct Hmx
  have Ha2 := Lib.hid ha2; clear ha2
  have Hgg := Lib.hid hgg; clear hgg
  go_wp2_with fail
  with_reducible refine (Ha2.out).mono ?_
  rintro e w5 ⟨k, hk, rfl, hc5, hg5⟩
  have hkb : -1 ≤ k ∧ k ≤ 268435456 := by simp at hk; omega
  clear hk
  go_wp2
  go_ret2
  exact ⟨_, _, rfl, hnb.1, hnb.2, hkb.1, hkb.2, (Hgg.out.trans hg5).drawn⟩
end
end Go.Proofs.Ytbneibpakopllaa
