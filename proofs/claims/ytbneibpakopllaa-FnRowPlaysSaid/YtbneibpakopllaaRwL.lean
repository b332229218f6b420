/- The helpers of the laws of chapters 5 to 7: same lists, sums, order. No condition but sizes. -/
import Derived.Test.YtbneibpakopllaaLawp
import Derived.Test.YtbneibpakopllaaPasts
import Derived.Test.YtbneibpakopllaaRowA
namespace Go.Proofs.Ytbneibpakopllaa
open Go.RowKit
set_option linter.unusedVariables false
set_option linter.unusedSimpArgs false

set_option maxHeartbeats 400000 in
theorem xSame_quiet (ao bo : Option Addr) (n m cap cap' : Nat) (xs ys : List Int) (w : World) (hx : IntsAt w ao n cap xs) (hy : IntsAt w bo m cap' ys) :
    Calls Try.prog 38 #[.slice ao n cap, .slice bo m cap'] w fun e w' => e = .returned (.bool (decide (xs = ys))) ∧ ∃ q, w' = w.drewN q := by
  have hn' := hx.lenInt
  have hm' := hy.lenInt
  by_cases hnm : n = m
  · subst hnm
    go_enter Try.func38, Try.ntmps38
    go_wp2
    go_loopw [13] (fun i wr => ∃ k : Nat, k ≤ n ∧ i = .int .i64 k ∧ xs.take k = ys.take k ∧ ∃ q, wr = w.drewN q)
      (fun i _ => n - (intOf i).toNat)
    case atStart => exact ⟨0, Nat.zero_le _, rfl, rfl, 0, rfl⟩
    case round =>
      obtain ⟨k, hk, rfl, heq, q, rfl⟩ := hrel
      have Heq := Lib.hid heq; clear heq
      by_cases hlt : k < n
      · have hl1 := Lib.hid hx.length
        have hl2 := Lib.hid hy.length
        obtain ⟨b1, o1, rfl, hb1, hc1⟩ := hx.cell k hlt
        have hck1 := hc1 k hlt
        clear hc1
        generalize hx1 : xs.getD k 0 = x at hck1
        have Hx1 := Lib.hid hx1; clear hx1
        obtain ⟨b2, o2, rfl, hb2, hc2⟩ := hy.cell k hlt
        have hck2 := hc2 k hlt
        clear hc2
        generalize hx2 : ys.getD k 0 = y at hck2
        have Hx2 := Lib.hid hx2; clear hx2
        go_wp2
        go_quiet (fail)
        go_wp2
        · go_ret
          have hne : xs ≠ ys := fun e => by
            have h3 := Hx1.out; have h4 := Hx2.out
            rw [e, h4] at h3; subst h3; simp at *
          exact ⟨by simp [hne], _, World.drewN_drewN _ _ _⟩
        · have hxy : x = y := by rename_i hh; simpa using hh
          go_roundw
          case rel => exact ⟨k + 1, by omega, by go_num, by rw [take_snoc Hx1.out hlt hl1.out, take_snoc Hx2.out hlt hl2.out, Heq.out, hxy], _, rfl⟩
          case measure => simp [intOf]; omega
      · go_wp2
        go_ret
        obtain rfl : n = k := by omega
        have e := Heq.out
        rw [take_all hx.length, take_all hy.length] at e
        exact ⟨by simp [e], _, rfl⟩
  · have hne : ((n : Int) != (m : Int)) = true := by simp; omega
    have hxy : xs ≠ ys := fun e => hnm (by rw [← hx.length, ← hy.length, e])
    go_enter Try.func38, Try.ntmps38
    go_wp2
    go_ret
    exact ⟨by simp [hxy], 0, rfl⟩
theorem xSame_any (ao bo : Option Addr) (n m cap cap' : Nat) (xs ys : List Int) (w : World) (hx : IntsAt w ao n cap xs) (hy : IntsAt w bo m cap' ys) :
    Calls Try.prog 38 #[.slice ao n cap, .slice bo m cap'] w fun e w' => e = .returned (.bool (decide (xs = ys))) ∧ Below w.heap.size w w' :=
  (xSame_quiet ao bo n m cap cap' xs ys w hx hy).mono fun e w' ⟨a, q, b⟩ => ⟨a, b ▸ belowDrewN (Below.refl _ _) q⟩

set_option maxHeartbeats 800000 in
theorem xRows_any (ao bo : Option Addr) (n m cap cap' : Nat) (xss yss : List (List Int)) (w : World) (hx : RowsAt w ao n cap xss) (hy : RowsAt w bo m cap' yss) :
    Calls Try.prog 62 #[.slice ao n cap, .slice bo m cap'] w fun e w' => e = .returned (.bool (decide (xss = yss))) ∧ Below w.heap.size w w' := by
  have hn' := hx.lenInt
  have hm' := hy.lenInt
  have hl1 := hx.length
  have hl2 := hy.length
  have Hl1 := Lib.hid hl1; clear hl1
  have Hl2 := Lib.hid hl2; clear hl2
  by_cases hnm : n = m
  · subst hnm
    go_enter Try.func62, Try.ntmps62
    go_wp2
    go_loopw [13] (fun i wr => ∃ k : Nat, k ≤ n ∧ i = .int .i64 k ∧ xss.take k = yss.take k ∧ Below w.heap.size w wr) (fun i _ => n - (intOf i).toNat)
    case atStart => exact ⟨0, Nat.zero_le _, rfl, rfl, Below.refl _ _⟩
    case round =>
      obtain ⟨k, hk, rfl, heq, hb⟩ := hrel
      have Heq := Lib.hid heq; clear heq
      by_cases hlt : k < n
      · obtain ⟨b1, o1, rfl, hbl1, hc1⟩ := (hx.keep hb).cell k hlt
        obtain ⟨a1, m1, c1, hcell1, hat1⟩ := hc1 k hlt
        obtain ⟨b2, o2, rfl, hbl2, hc2⟩ := (hy.keep hb).cell k hlt
        obtain ⟨a2, m2, c2, hcell2, hat2⟩ := hc2 k hlt
        have hcon := xSame_any a1 a2 m1 m2 c1 c2 (xss.getD k []) (yss.getD k []) wr.drew (hat1.drewN 1) (hat2.drewN 1)
        have hbd : Below w.heap.size w wr.drew := belowDrewN hb 1
        generalize hxa : xss.getD k [] = a at hcon
        generalize hyb : yss.getD k [] = b at hcon
        clear hc1 hc2 hat1 hat2
        by_cases hab : a = b
        · rw [decide_eq_true hab] at hcon
          have Hxa := Lib.hid hxa; clear hxa
          have Hyb := Lib.hid hyb; clear hyb
          have Hab := Lib.hid hab; clear hab
          have Hcon := Lib.hid hcon; clear hcon
          go_wp2
          go_region_law (first | (go_simp; with_reducible refine (Hcon.out).mono ?_; rintro e w1 ⟨rfl, hb1⟩))
          all_goals
            go_wp2
            go_roundw
            case rel =>
              refine ⟨k + 1, by omega, by go_num, ?_, belowTrans hbd hb1 (Nat.le_refl _)⟩
              rw [take_snocR Hxa.out hlt Hl1.out, take_snocR Hyb.out hlt Hl2.out, Heq.out, Hab.out]
            case measure => simp [intOf]; omega
        · have hne : xss ≠ yss := fun e => hab (by rw [← hxa, ← hyb, e])
          rw [decide_eq_false hab] at hcon
          have Hxa := Lib.hid hxa; clear hxa
          have Hyb := Lib.hid hyb; clear hyb
          have Hab := Lib.hid hab; clear hab
          have Hcon := Lib.hid hcon; clear hcon
          have Hne := Lib.hid hne; clear hne
          go_wp2
          go_region_law (first | (go_simp; with_reducible refine (Hcon.out).mono ?_; rintro e w1 ⟨rfl, hb1⟩))
          all_goals
            go_wp2
            go_ret
            exact ⟨retB (decide_eq_false Hne.out).symm, belowTrans hbd hb1 (Nat.le_refl _)⟩
      · obtain rfl : n = k := by omega
        have e := Heq.out
        rw [List.take_of_length_le (by have := Hl1.out; omega), List.take_of_length_le (by have := Hl2.out; omega)] at e
        have ed : true = decide (xss = yss) := (decide_eq_true e).symm
        have Ed := Lib.hid ed; clear ed
        clear e
        go_wp2
        go_ret
        exact ⟨retB Ed.out, hb⟩
  · have hne : ((n : Int) != (m : Int)) = true := by simp; omega
    have hxy : xss ≠ yss := fun e => hnm (by rw [← Hl1.out, ← Hl2.out, e])
    go_enter Try.func62, Try.ntmps62
    go_wp2
    go_ret
    exact ⟨by simp [hxy], Below.refl _ _⟩

theorem xSum_any (ao : Option Addr) (n cap : Nat) (xs : List Int) (w : World) (h : IntsAt w ao n cap xs) (hn28 : n ≤ 28) (hg : ∀ x ∈ xs, 1 ≤ x ∧ x ≤ 28) :
    Calls Try.prog 53 #[.slice ao n cap] w fun e w' => e = .returned (.int .i64 xs.sum) ∧ w = w' := by
  have hn := h.lenInt
  go_enter Try.func53, Try.ntmps53
  go_wp2
  go_loop [3, 8] (fun s i => ∃ k : Nat, ∃ t : Int, k ≤ n ∧ i = .int .i64 k ∧ s = .int .i64 t ∧ (xs.take k).sum = t ∧ 0 ≤ t ∧ t ≤ 28 * k) (fun _ i => n - (intOf i).toNat)
  case atStart => exact ⟨0, 0, Nat.zero_le _, rfl, rfl, rfl, by omega, by omega⟩
  case round =>
    obtain ⟨k, t, hk, rfl, rfl, ht, ht0, ht1⟩ := hrel
    have Ht := Lib.hid ht; clear ht
    by_cases hlt : k < n
    · obtain ⟨b, o, rfl, hb, hc⟩ := h.cell k hlt
      have hck := hc k hlt
      clear hc
      generalize hx : xs.getD k 0 = x at hck
      have Hx := Lib.hid hx; clear hx
      have hm := hg _ (getD_mem Hx.out hlt h.length)
      have e := take_snoc Hx.out hlt h.length
      have e2 : (xs.take (k + 1)).sum = t + x := by rw [e, List.sum_append, Ht.out]; simp
      have E2 := Lib.hid e2; clear e2
      have Hg := Lib.hid hg; clear hg
      clear e h
      go_wp2
      go_round
      case rel => exact ⟨k + 1, t + x, by omega, by go_num, rfl, E2.out, by omega, by omega⟩
      case measure => simp [intOf]; omega
    · go_wp2
      go_ret
      obtain rfl : n = k := by omega
      have hh := Ht.out
      rw [take_all h.length] at hh
      exact ⟨by first | rfl | (rw [hh]; rfl), rfl⟩

/-- from the first place on that differs, the greater number comes first -/
def befX : List Int → List Int → Bool
  | [], _ => false
  | _ :: _, [] => false
  | a :: l, b :: m => if a = b then befX l m else decide (b < a)
theorem drop_consI {xs : List Int} {k : Nat} {x : Int} (hx : xs.getD k 0 = x) (hk : k < xs.length) : xs.drop k = x :: xs.drop (k + 1) := by
  rw [List.drop_eq_getElem_cons hk, ← hx, List.getD_eq_getElem?_getD, List.getElem?_eq_getElem hk]; rfl
set_option maxHeartbeats 800000 in
theorem xBefore_any (ao bo : Option Addr) (n m cap cap' : Nat) (xs ys : List Int) (w : World) (hx : IntsAt w ao n cap xs) (hy : IntsAt w bo m cap' ys) :
    Calls Try.prog 70 #[.slice ao n cap, .slice bo m cap'] w fun e w' => e = .returned (.bool (befX xs ys)) ∧ Below w.heap.size w w' := by
  have hn' := hx.lenInt
  have hm' := hy.lenInt
  go_enter Try.func70, Try.ntmps70
  go_wp2
  go_loopw [8] (fun i wr => ∃ k : Nat, k ≤ n ∧ i = .int .i64 k ∧ befX xs ys = befX (xs.drop k) (ys.drop k) ∧ ∃ q, wr = w.drewN q)
    (fun i _ => n - (intOf i).toNat)
  case atStart => exact ⟨0, Nat.zero_le _, rfl, rfl, 0, rfl⟩
  case round =>
    obtain ⟨k, hk, rfl, heq, q, rfl⟩ := hrel
    have Heq := Lib.hid heq; clear heq
    have hl1 := Lib.hid hx.length
    have hl2 := Lib.hid hy.length
    by_cases hlt : k < n
    · by_cases hlm : k < m
      · obtain ⟨b1, o1, rfl, hb1, hc1⟩ := hx.cell k hlt
        have hck1 := hc1 k hlt
        clear hc1
        generalize hx1 : xs.getD k 0 = x at hck1
        have Hx1 := Lib.hid hx1; clear hx1
        obtain ⟨b2, o2, rfl, hb2, hc2⟩ := hy.cell k hlm
        have hck2 := hc2 k hlm
        clear hc2
        generalize hx2 : ys.getD k 0 = y at hck2
        have Hx2 := Lib.hid hx2; clear hx2
        have e1 := drop_consI Hx1.out (by have := hl1.out; omega)
        have e2 := drop_consI Hx2.out (by have := hl2.out; omega)
        have hb := Heq.out
        rw [e1, e2] at hb
        have hge : ¬ (m : Int) ≤ (k : Int) := by omega
        by_cases hxy : x = y
        · subst hxy
          rw [show befX (x :: xs.drop (k + 1)) (x :: ys.drop (k + 1)) = befX (xs.drop (k + 1)) (ys.drop (k + 1)) by simp [befX]] at hb
          have hne : (x != x) = false := by simp
          have Hb := Lib.hid hb; clear hb
          have E1 := Lib.hid e1; clear e1
          have E2 := Lib.hid e2; clear e2
          go_wp2
          go_quiet (fail)
          go_wp2
          go_roundw
          case rel => exact ⟨k + 1, by omega, by go_num, Hb.out, _, rfl⟩
          case measure => simp [intOf]; omega
        · rw [show befX (x :: xs.drop (k + 1)) (y :: ys.drop (k + 1)) = decide (y < x) by simp [befX, hxy]] at hb
          have hne : (x != y) = true := by simpa using hxy
          have Hb := Lib.hid hb; clear hb
          have E1 := Lib.hid e1; clear e1
          have E2 := Lib.hid e2; clear e2
          by_cases hyx : y < x
          · have hd1 : decide (y < x) = true := decide_eq_true hyx
            have HB := Lib.hid (Hb.out.trans hd1)
            go_wp2
            go_quiet (fail)
            go_wp2
            go_quiet (fail)
            go_wp2
            go_ret
            rw [HB.out]
            exact ⟨rfl, belowDrewN (belowDrewN (belowDrewN (Below.refl _ _) _) _) _⟩
          · have hd1 : decide (y < x) = false := decide_eq_false hyx
            have HB := Lib.hid (Hb.out.trans hd1)
            go_wp2
            go_quiet (fail)
            go_wp2
            go_quiet (fail)
            go_wp2
            go_ret
            rw [HB.out]
            exact ⟨rfl, belowDrewN (belowDrewN (belowDrewN (Below.refl _ _) _) _) _⟩
      · have hge : (m : Int) ≤ (k : Int) := by omega
        have hb := Heq.out
        rw [List.drop_of_length_le (l := ys) (by have := hl2.out; omega)] at hb
        have hb2 : befX xs ys = false := by
          rw [hb]
          cases xs.drop k <;> rfl
        have Hb := Lib.hid hb; clear hb
        have Hb2 := Lib.hid hb2; clear hb2
        go_wp2
        go_ret
        rw [Hb2.out]
        exact ⟨rfl, belowDrewN (Below.refl _ _) _⟩
    · have hb := Heq.out
      rw [List.drop_of_length_le (l := xs) (by have := hl1.out; omega)] at hb
      have hb2 : befX xs ys = false := by rw [hb]; rfl
      have Hb := Lib.hid hb; clear hb
      have Hb2 := Lib.hid hb2; clear hb2
      go_wp2
      go_ret
      rw [Hb2.out]
      exact ⟨rfl, belowDrewN (Below.refl _ _) _⟩
end Go.Proofs.Ytbneibpakopllaa
