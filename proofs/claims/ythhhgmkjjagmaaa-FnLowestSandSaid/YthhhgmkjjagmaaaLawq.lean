/- The helpers of the laws that are not exact: sums, same rows, order, cyclic piles. No condition. -/
import Derived.Test.YthhhgmkjjagmaaaLawp
import Derived.Test.YthhhgmkjjagmaaaPasts
import Derived.Test.YthhhgmkjjagmaaaGt
namespace Go.Proofs.Ythhhgmkjjagmaaa
open Go.RowKit
set_option linter.unusedVariables false
set_option linter.unusedSimpArgs false

set_option maxHeartbeats 400000 in
theorem pSum_any (ao : Option Addr) (n cap : Nat) (xs : List Int) (w : World) (h : IntsAt w ao n cap xs) (hg : Good xs) :
    Calls Try.prog 19 #[.slice ao n cap] w fun e w' => e = .returned (.int .i64 xs.sum) ∧ w = w' := by
  have hn := h.lenInt
  go_enter Try.func19, Try.ntmps19
  go_wp2
  go_loop [3, 8] (fun s i => ∃ k : Nat, ∃ t : Int, k ≤ n ∧ i = .int .i64 k ∧ s = .int .i64 t ∧ (xs.take k).sum = t) (fun _ i => n - (intOf i).toNat)
  case atStart => exact ⟨0, 0, Nat.zero_le _, rfl, rfl, rfl⟩
  case round =>
    obtain ⟨k, t, hk, rfl, rfl, ht⟩ := hrel
    have ht1 := (hg.take k).2.2
    have ht0 := sum_nonneg (hg.take k).1
    rw [ht] at ht0 ht1
    have Ht := Lib.hid ht; clear ht
    by_cases hlt : k < n
    · obtain ⟨b, o, rfl, hb, hc⟩ := h.cell k hlt
      have hck := hc k hlt
      clear hc
      generalize hx : xs.getD k 0 = x at hck
      have Hx := Lib.hid hx; clear hx
      have hm := hg.mem (getD_mem Hx.out hlt h.length)
      have e := take_snoc Hx.out hlt h.length
      have e2 : (xs.take (k + 1)).sum = t + x := by rw [e, List.sum_append, Ht.out]; simp
      have E2 := Lib.hid e2; clear e2
      have Hg := Lib.hid hg; clear hg
      clear e h
      go_wp2
      go_round
      case rel => exact ⟨k + 1, t + x, by omega, by go_num, rfl, E2.out⟩
      case measure => simp [intOf]; omega
    · go_wp2
      go_ret
      obtain rfl : n = k := by omega
      have hh := Ht.out
      rw [take_all h.length] at hh
      exact ⟨by first | rfl | (rw [hh]; rfl), rfl⟩

set_option maxHeartbeats 800000 in
theorem pBefore_any (ao bo : Option Addr) (n m cap cap' : Nat) (xs ys : List Int) (w : World) (hx : IntsAt w ao n cap xs) (hy : IntsAt w bo m cap' ys) :
    Calls Try.prog 29 #[.slice ao n cap, .slice bo m cap'] w fun e w' => e = .returned (.bool (befB xs ys)) ∧ Below w.heap.size w w' := by
  have hn' := hx.lenInt
  have hm' := hy.lenInt
  have hl1 := hx.length
  have hl2 := hy.length
  have Hl1 := Lib.hid hl1; clear hl1
  have Hl2 := Lib.hid hl2; clear hl2
  go_enter Try.func29, Try.ntmps29
  go_wp2
  go_loopw [5] (fun i wr => ∃ k : Nat, k ≤ n ∧ k ≤ m ∧ i = .int .i64 k ∧ xs.take k = ys.take k ∧ ∃ q, wr = w.drewN q) (fun i _ => n - (intOf i).toNat)
  case atStart => exact ⟨0, Nat.zero_le _, Nat.zero_le _, rfl, rfl, 0, rfl⟩
  case round =>
    obtain ⟨k, hkn, hkm, rfl, heq, hq⟩ := hrel
    have hx' : IntsAt wr ao n cap xs := by obtain ⟨q, rfl⟩ := hq; exact hx.drewN q
    have hy' : IntsAt wr bo m cap' ys := by obtain ⟨q, rfl⟩ := hq; exact hy.drewN q
    have Heq := Lib.hid heq; clear heq
    have Hq := Lib.hid hq; clear hq
    by_cases hlt : k < n
    · have hd1 : decide (k < n) = true := decide_eq_true hlt
      by_cases hlt2 : k < m
      · have hd2 : decide (k < m) = true := decide_eq_true hlt2
        obtain ⟨b1, o1, rfl, hb1, hc1⟩ := hx'.cell k hlt
        obtain ⟨b2, o2, rfl, hb2, hc2⟩ := hy'.cell k hlt2
        have hck1 := hc1 k hlt
        have hck2 := hc2 k hlt2
        clear hc1 hc2 hx' hy'
        generalize hxa : xs.getD k 0 = a at hck1
        generalize hyb : ys.getD k 0 = b at hck2
        by_cases hab : a = b
        · have hne : (a != b) = false := by simpa using hab
          have Hxa := Lib.hid hxa; clear hxa
          have Hyb := Lib.hid hyb; clear hyb
          have Hab := Lib.hid hab; clear hab
          have Hd1 := Lib.hid hd1; clear hd1
          have Hd2 := Lib.hid hd2; clear hd2
          go_wp2
          go_quiet (fail)
          go_wp2
          go_roundw
          case rel =>
            refine ⟨k + 1, by omega, by omega, by go_num, ?_, by obtain ⟨q, rfl⟩ := Hq.out; exact ⟨_, World.drewN_drewN _ _ _⟩⟩
            rw [take_snoc Hxa.out hlt Hl1.out, take_snoc Hyb.out hlt2 Hl2.out, Heq.out, Hab.out]
          case measure => simp [intOf]; omega
        · have hne : (a != b) = true := by simpa using hab
          have hr := befB_diff Heq.out (by rw [Hl1.out]; exact hlt) (by rw [Hl2.out]; exact hlt2) hxa hyb hab
          have Hxa := Lib.hid hxa; clear hxa
          have Hyb := Lib.hid hyb; clear hyb
          have Hab := Lib.hid hab; clear hab
          have Hd1 := Lib.hid hd1; clear hd1
          have Hd2 := Lib.hid hd2; clear hd2
          have Hr := Lib.hid hr; clear hr
          go_wp2
          go_quiet (fail)
          go_wp2
          go_quiet (fail)
          go_wp2
          go_ret
          obtain ⟨q, rfl⟩ := Hq.out
          exact ⟨retB Hr.out.symm, belowDrewN (belowDrewN (belowDrewN (Below.refl _ _) _) _) _⟩
      · have hd2 : decide (k < m) = false := decide_eq_false hlt2
        have hr := befB_end Heq.out (by rw [Hl1.out]; exact hkn) (by rw [Hl2.out]; exact hkm) (.inr (by rw [Hl2.out]; omega))
        rw [Hl1.out, Hl2.out] at hr
        have Hr := Lib.hid hr; clear hr
        go_wp2
        go_ret
        obtain ⟨q, rfl⟩ := Hq.out
        exact ⟨retB Hr.out.symm, belowDrewN (Below.refl _ _) _⟩
    · have hd1 : decide (k < n) = false := decide_eq_false hlt
      have hr := befB_end Heq.out (by rw [Hl1.out]; exact hkn) (by rw [Hl2.out]; exact hkm) (.inl (by rw [Hl1.out]; omega))
      rw [Hl1.out, Hl2.out] at hr
      have Hr := Lib.hid hr; clear hr
      go_wp2
      go_ret
      obtain ⟨q, rfl⟩ := Hq.out
      exact ⟨retB Hr.out.symm, belowDrewN (Below.refl _ _) _⟩


set_option maxHeartbeats 800000 in
theorem pSameLists_any (ao bo : Option Addr) (n m cap cap' : Nat) (xss yss : List (List Int)) (w : World) (hx : RowsAt w ao n cap xss) (hy : RowsAt w bo m cap' yss) :
    Calls Try.prog 35 #[.slice ao n cap, .slice bo m cap'] w fun e w' => e = .returned (.bool (decide (xss = yss))) ∧ Below w.heap.size w w' := by
  have hn' := hx.lenInt
  have hm' := hy.lenInt
  have hl1 := hx.length
  have hl2 := hy.length
  have Hl1 := Lib.hid hl1; clear hl1
  have Hl2 := Lib.hid hl2; clear hl2
  by_cases hnm : n = m
  · subst hnm
    go_enter Try.func35, Try.ntmps35
    go_wp2
    go_loopw [13] (fun i wr => ∃ k : Nat, k ≤ n ∧ i = .int .i64 k ∧ xss.take k = yss.take k ∧ Below w.heap.size w wr) (fun i _ => n - (intOf i).toNat)
    case atStart => exact ⟨0, Nat.zero_le _, rfl, rfl, Below.refl _ _⟩
    case round =>
      obtain ⟨k, hk, rfl, heq, hb⟩ := hrel
      have Heq := Lib.hid heq; clear heq
      by_cases hlt : k < n
      · obtain ⟨b1, o1, rfl, hbl1, hc1⟩ := (hx.keep hb).cell k hlt
        obtain ⟨a1, m1, c1, hcell1, hat1⟩ := hc1 k hlt
        obtain ⟨b2, o2, rfl, hbl2, hc2⟩ := (hy.keep hb).cell k hlt
        obtain ⟨a2, m2, c2, hcell2, hat2⟩ := hc2 k hlt
        have hcon := pSame_any a1 a2 m1 m2 c1 c2 (xss.getD k []) (yss.getD k []) wr.drew (hat1.drewN 1) (hat2.drewN 1)
        have hbd : Below w.heap.size w wr.drew := belowDrewN hb 1
        generalize hxa : xss.getD k [] = a at hcon
        generalize hyb : yss.getD k [] = b at hcon
        clear hc1 hc2 hat1 hat2
        by_cases hab : a = b
        · rw [decide_eq_true hab] at hcon
          have Hxa := Lib.hid hxa; clear hxa
          have Hyb := Lib.hid hyb; clear hyb
          have Hab := Lib.hid hab; clear hab
          have Hcon := Lib.hid hcon; clear hcon
          go_wp2
          go_region_law (first | (go_simp; with_reducible refine (Hcon.out).mono ?_; rintro e w1 ⟨rfl, hb1⟩))
          all_goals
            go_wp2
            go_roundw
            case rel =>
              refine ⟨k + 1, by omega, by go_num, ?_, belowTrans hbd hb1 (Nat.le_refl _)⟩
              rw [take_snocR Hxa.out hlt Hl1.out, take_snocR Hyb.out hlt Hl2.out, Heq.out, Hab.out]
            case measure => simp [intOf]; omega
        · have hne : xss ≠ yss := fun e => hab (by rw [← hxa, ← hyb, e])
          rw [decide_eq_false hab] at hcon
          have Hxa := Lib.hid hxa; clear hxa
          have Hyb := Lib.hid hyb; clear hyb
          have Hab := Lib.hid hab; clear hab
          have Hcon := Lib.hid hcon; clear hcon
          have Hne := Lib.hid hne; clear hne
          go_wp2
          go_region_law (first | (go_simp; with_reducible refine (Hcon.out).mono ?_; rintro e w1 ⟨rfl, hb1⟩))
          all_goals
            go_wp2
            go_ret
            exact ⟨retB (decide_eq_false Hne.out).symm, belowTrans hbd hb1 (Nat.le_refl _)⟩
      · obtain rfl : n = k := by omega
        have e := Heq.out
        rw [List.take_of_length_le (by have := Hl1.out; omega), List.take_of_length_le (by have := Hl2.out; omega)] at e
        have ed : true = decide (xss = yss) := (decide_eq_true e).symm
        have Ed := Lib.hid ed; clear ed
        clear e
        go_wp2
        go_ret
        exact ⟨retB Ed.out, hb⟩
  · have hne : ((n : Int) != (m : Int)) = true := by simp; omega
    have hxy : xss ≠ yss := fun e => hnm (by rw [← Hl1.out, ← Hl2.out, e])
    go_enter Try.func35, Try.ntmps35
    go_wp2
    go_ret
    exact ⟨by simp [hxy], Below.refl _ _⟩

def ordB (xss : List (List Int)) : Bool := (List.range (xss.length - 1)).all fun i => befB (xss.getD i []) (xss.getD (i + 1) [])
theorem ordB_iff {xss : List (List Int)} : ordB xss = true ↔ ∀ i, i + 1 < xss.length → befB (xss.getD i []) (xss.getD (i + 1) []) = true := by
  unfold ordB
  rw [List.all_eq_true]
  exact ⟨fun h i hi => h i (List.mem_range.2 (by omega)), fun h i hi => h i (by have := List.mem_range.1 hi; omega)⟩
theorem ordB_no {xss : List (List Int)} {i : Nat} (hi : i + 1 < xss.length) (h : befB (xss.getD i []) (xss.getD (i + 1) []) = false) : ordB xss = false := by
  cases hh : ordB xss
  · rfl
  · rw [ordB_iff.1 hh i hi] at h; cases h
theorem ordB_of {xss : List (List Int)} (h : xss.Pairwise fun a b => befB a b = true) : ordB xss = true := ordB_iff.2 fun i hi => by
  rw [List.pairwise_iff_getElem] at h
  rw [List.getD_eq_getElem?_getD, List.getD_eq_getElem?_getD, List.getElem?_eq_getElem (by omega), List.getElem?_eq_getElem hi]
  exact h i (i + 1) (by omega) hi (by omega)

set_option maxHeartbeats 800000 in
theorem pOrdered_any (ao : Option Addr) (n cap : Nat) (xss : List (List Int)) (w : World) (hx : RowsAt w ao n cap xss) :
    Calls Try.prog 41 #[.slice ao n cap] w fun e w' => e = .returned (.bool (ordB xss)) ∧ Below w.heap.size w w' := by
  have hn' := hx.lenInt
  have hl := hx.length
  have Hl := Lib.hid hl; clear hl
  go_enter Try.func41, Try.ntmps41
  go_wp2
  go_loopw [3] (fun i wr => ∃ k : Nat, (k ≤ n ∨ k = 1) ∧ 1 ≤ k ∧ i = .int .i64 k ∧ (∀ i, i + 1 < k → i + 1 < xss.length → befB (xss.getD i []) (xss.getD (i + 1) []) = true) ∧ Below w.heap.size w wr) (fun i _ => n - (intOf i).toNat)
  case atStart => exact ⟨1, .inr rfl, Nat.le_refl _, rfl, fun i h => absurd h (by omega), Below.refl _ _⟩
  case round =>
    obtain ⟨k, hk, hk1, rfl, hall, hb⟩ := hrel
    obtain ⟨K, rfl⟩ : ∃ K, k = K + 1 := ⟨k - 1, by omega⟩
    have Hall := Lib.hid hall; clear hall
    by_cases hlt : K + 1 < n
    · obtain ⟨b1, o1, e1, hbl1, hc1⟩ := (hx.keep hb).cell K (by omega)
      subst e1
      obtain ⟨a1, m1, c1, hcell1, hat1⟩ := hc1 K (by omega)
      obtain ⟨b2, o2, e2, hbl2, hc2⟩ := (hx.keep hb).cell (K + 1) (by omega)
      cases e2
      obtain ⟨a2, m2, c2, hcell2, hat2⟩ := hc2 (K + 1) (by omega)
      have hcon := pBefore_any a1 a2 m1 m2 c1 c2 (xss.getD K []) (xss.getD (K + 1) []) wr.drew (hat1.drewN 1) (hat2.drewN 1)
      have hbd : Below w.heap.size w wr.drew := belowDrewN hb 1
      have ek : IntKind.i64.wrap ((K : Nat) : Int) = (K : Nat) := IntWalk.i64_in _ (by omega)
      have hKn : K < n := by omega
      have hK1 : (0 : Int) ≤ (K : Int) + 1 := by omega
      clear hc1 hc2 hat1 hat2
      cases hbf : befB (xss.getD K []) (xss.getD (K + 1) [])
      · rw [hbf] at hcon
        have hno := ordB_no (by rw [Hl.out]; exact hlt) hbf
        have Hcon := Lib.hid hcon; clear hcon
        have Hbf := Lib.hid hbf; clear hbf
        have Hno := Lib.hid hno; clear hno
        go_wp2
        go_region_law (first | (go_simp; with_reducible refine (Hcon.out).mono ?_; rintro e w1 ⟨rfl, hb1⟩))
        all_goals
          go_wp2
          go_ret
          exact ⟨retB Hno.out.symm, belowTrans hbd hb1 (Nat.le_refl _)⟩
      · rw [hbf] at hcon
        have Hcon := Lib.hid hcon; clear hcon
        have Hbf := Lib.hid hbf; clear hbf
        go_wp2
        go_region_law (first | (go_simp; with_reducible refine (Hcon.out).mono ?_; rintro e w1 ⟨rfl, hb1⟩))
        all_goals
          go_wp2
          go_roundw
          case rel =>
            refine ⟨K + 2, by omega, by omega, by go_num, fun i hi h2 => ?_, belowTrans hbd hb1 (Nat.le_refl _)⟩
            by_cases he : i = K
            · subst he; exact Hbf.out
            · exact Hall.out i (by omega) h2
          case measure => simp [intOf]; omega
    · have hyes : ordB xss = true := ordB_iff.2 fun i hi => Hall.out i (by have := Hl.out; omega) hi
      have Hyes := Lib.hid hyes; clear hyes
      go_wp2
      go_ret
      exact ⟨retB Hyes.out.symm, hb⟩
end Go.Proofs.Ythhhgmkjjagmaaa
