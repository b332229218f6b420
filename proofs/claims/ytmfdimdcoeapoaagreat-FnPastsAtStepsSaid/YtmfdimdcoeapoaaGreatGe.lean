/- Several texts in one: Lawp, Lawq, Lawr, Laws, Lawx. No condition. -/
import Derived.Test.YtmfdimdcoeapoaaGreatHelp
import Derived.Test.YtmfdimdcoeapoaaGreatGd
import Derived.Test.YtmfdimdcoeapoaaGreatStayM
import Derived.Test.YtmfdimdcoeapoaaGreatPasts
import Derived.Test.YtmfdimdcoeapoaaGreatRingF
import Derived.Test.YtmfdimdcoeapoaaGreatGa
import Derived.Test.YtmfdimdcoeapoaaGreatRowsV
import Derived.Test.YtmfdimdcoeapoaaGreatOrbC
namespace Go.Proofs.YtmfdimdcoeapoaaGreat
section
open Go.RowKit
set_option linter.unusedVariables false
set_option linter.unusedSimpArgs false

theorem byteIn_row {w : World} {a : Option Addr} {len cap : Nat} {zs : List Int} (h : (a = none ∧ len = 0 ∧ cap = 0 ∧ zs = []) ∨
    ∃ x, a = some x ∧ len ≤ cap ∧ cap ≤ maxLen ∧ zs.length = cap ∧ (∀ i, i < zs.length → w.cell? (x.add i) = some (.int .u8 (zs.getD i 0))) ∧ ∀ n ∈ zs, (Lit.int .u8 n).wf = true) :
    ByteIn w w.heap.size a len := by
  intro j hj
  rcases h with ⟨rfl, rfl, rfl, rfl⟩ | ⟨⟨b, o, sp⟩, rfl, h1, h2, h3, h4, h5⟩
  · omega
  have hc0 := h4 0 (by omega)
  have hsp : sp = none := by simpa [Addr.add] using World.cell?_spot hc0
  subst hsp
  refine ⟨b, o, rfl, World.block_lt_of_cell? w _ (by simpa using hc0), fun i hi => ?_⟩
  have h6 := h4 i (by omega)
  rw [Addr.add_lit] at h6
  have h7 := h5 _ (mem_of_getD (xs := zs) (i := i) (by omega))
  have h8 : 0 ≤ zs.getD i 0 ∧ zs.getD i 0 ≤ 255 := by simpa [Lit.wf, IntKind.min, IntKind.max, IntKind.signed, IntKind.bits] using h7
  exact ⟨(zs.getD i 0).toNat, by omega, by rw [h6]; congr 2; omega⟩
theorem ByteIn.up {w w' : World} {g g' : Nat} {ac : Option Addr} {nc : Nat} (h : ByteIn w g ac nc) (hg : g ≤ w.heap.size) (hb : Below w.heap.size w w') (hg' : g ≤ g') : ByteIn w' g' ac nc := fun j hj => by
  obtain ⟨b, o, e, hlt, hi⟩ := h.chg (S := fun _ => False) hg (Chg.ofBelow hb) (fun _ _ h => h) j hj
  exact ⟨b, o, e, by omega, hi⟩

theorem big_yes (ao bo : Option Addr) (n m cap cap' : Nat) (w : World) (h : 1048576 < n ∨ (1048576 : Int) - n < m) (hn : n ≤ maxLen) :
    Calls Tryz.prog 4 #[.slice ao n cap, .slice bo m cap'] w fun e w' => e = .returned (.bool true) ∧ w = w' := by
  have hn8 := maxLen_le hn
  by_cases h1 : 1048576 < n
  · have hd : decide ((1048576 : Int) < n) = true := decide_eq_true (by omega)
    go_enter Tryz.func4, Tryz.ntmps4
    go_wp2
    go_ret
    exact ⟨rfl, rfl⟩
  · have h2 : (1048576 : Int) - n < m := by omega
    have hd : ¬ ((1048576 : Int) < n) := by omega
    go_enter Tryz.func4, Tryz.ntmps4
    go_wp2
    go_ret
    exact ⟨retB (by simp <;> omega), rfl⟩
theorem big_no (ao bo : Option Addr) (n m cap cap' : Nat) (w : World) (h : n ≤ 1048576) (h2 : (m : Int) ≤ 1048576 - n) :
    Calls Tryz.prog 4 #[.slice ao n cap, .slice bo m cap'] w fun e w' => e = .returned (.bool false) ∧ w = w' := by
  have hd : ¬ ((1048576 : Int) < n) := by omega
  go_enter Tryz.func4, Tryz.ntmps4
  go_wp2
  go_ret
  exact ⟨retB (by simp <;> omega), rfl⟩

set_option maxHeartbeats 400000 in
theorem pSame_quiet (ao bo : Option Addr) (n m cap cap' : Nat) (xs ys : List Int) (w : World) (hx : IntsAt w ao n cap xs) (hy : IntsAt w bo m cap' ys) :
    Calls Tryz.prog 15 #[.slice ao n cap, .slice bo m cap'] w fun e w' => e = .returned (.bool (decide (xs = ys))) ∧ ∃ q, w' = w.drewN q := by
  have hn' := hx.lenInt
  have hm' := hy.lenInt
  by_cases hnm : n = m
  · subst hnm
    go_enter Tryz.func15, Tryz.ntmps15
    go_wp2
    go_loopw [13] (fun i wr => ∃ k : Nat, k ≤ n ∧ i = .int .i64 k ∧ xs.take k = ys.take k ∧ ∃ q, wr = w.drewN q)
      (fun i _ => n - (intOf i).toNat)
    case atStart => exact ⟨0, Nat.zero_le _, rfl, rfl, 0, rfl⟩
    case round =>
      obtain ⟨k, hk, rfl, heq, q, rfl⟩ := hrel
      have Heq := Lib.hid heq; clear heq
      by_cases hlt : k < n
      · have hl1 := Lib.hid hx.length
        have hl2 := Lib.hid hy.length
        obtain ⟨b1, o1, rfl, hb1, hc1⟩ := hx.cell k hlt
        have hck1 := hc1 k hlt
        clear hc1
        generalize hx1 : xs.getD k 0 = x at hck1
        have Hx1 := Lib.hid hx1; clear hx1
        obtain ⟨b2, o2, rfl, hb2, hc2⟩ := hy.cell k hlt
        have hck2 := hc2 k hlt
        clear hc2
        generalize hx2 : ys.getD k 0 = y at hck2
        have Hx2 := Lib.hid hx2; clear hx2
        go_wp2
        go_quiet (fail)
        go_wp2
        · go_ret
          have hne : xs ≠ ys := fun e => by
            have h3 := Hx1.out; have h4 := Hx2.out
            rw [e, h4] at h3; subst h3; simp at *
          exact ⟨by simp [hne], _, World.drewN_drewN _ _ _⟩
        · have hxy : x = y := by rename_i hh; simpa using hh
          go_roundw
          case rel => exact ⟨k + 1, by omega, by go_num, by rw [take_snoc Hx1.out hlt hl1.out, take_snoc Hx2.out hlt hl2.out, Heq.out, hxy], _, rfl⟩
          case measure => simp [intOf]; omega
      · go_wp2
        go_ret
        obtain rfl : n = k := by omega
        have e := Heq.out
        rw [take_all hx.length, take_all hy.length] at e
        exact ⟨by simp [e], _, rfl⟩
  · have hne : ((n : Int) != (m : Int)) = true := by simp; omega
    have hxy : xs ≠ ys := fun e => hnm (by rw [← hx.length, ← hy.length, e])
    go_enter Tryz.func15, Tryz.ntmps15
    go_wp2
    go_ret
    exact ⟨by simp [hxy], 0, rfl⟩
theorem pSame_any (ao bo : Option Addr) (n m cap cap' : Nat) (xs ys : List Int) (w : World) (hx : IntsAt w ao n cap xs) (hy : IntsAt w bo m cap' ys) :
    Calls Tryz.prog 15 #[.slice ao n cap, .slice bo m cap'] w fun e w' => e = .returned (.bool (decide (xs = ys))) ∧ Below w.heap.size w w' :=
  (pSame_quiet ao bo n m cap cap' xs ys w hx hy).mono fun e w' ⟨a, q, b⟩ => ⟨a, b ▸ belowDrewN (Below.refl _ _) q⟩

end
end Go.Proofs.YtmfdimdcoeapoaaGreat
namespace Go.Proofs.YtmfdimdcoeapoaaGreat
section
open Go.RowKit
set_option linter.unusedVariables false
set_option linter.unusedSimpArgs false

set_option maxHeartbeats 800000 in
theorem pBefore_any (ao bo : Option Addr) (n m cap cap' : Nat) (xs ys : List Int) (w : World) (hx : IntsAt w ao n cap xs) (hy : IntsAt w bo m cap' ys) :
    Calls Tryz.prog 29 #[.slice ao n cap, .slice bo m cap'] w fun e w' => e = .returned (.bool (befB xs ys)) ∧ Below w.heap.size w w' := by
  have hn' := hx.lenInt
  have hm' := hy.lenInt
  have hl1 := hx.length
  have hl2 := hy.length
  have Hl1 := Lib.hid hl1; clear hl1
  have Hl2 := Lib.hid hl2; clear hl2
  go_enter Tryz.func29, Tryz.ntmps29
  go_wp2
  go_loopw [5] (fun i wr => ∃ k : Nat, k ≤ n ∧ k ≤ m ∧ i = .int .i64 k ∧ xs.take k = ys.take k ∧ ∃ q, wr = w.drewN q) (fun i _ => n - (intOf i).toNat)
  case atStart => exact ⟨0, Nat.zero_le _, Nat.zero_le _, rfl, rfl, 0, rfl⟩
  case round =>
    obtain ⟨k, hkn, hkm, rfl, heq, hq⟩ := hrel
    have hx' : IntsAt wr ao n cap xs := by obtain ⟨q, rfl⟩ := hq; exact hx.drewN q
    have hy' : IntsAt wr bo m cap' ys := by obtain ⟨q, rfl⟩ := hq; exact hy.drewN q
    have Heq := Lib.hid heq; clear heq
    have Hq := Lib.hid hq; clear hq
    by_cases hlt : k < n
    · have hd1 : decide (k < n) = true := decide_eq_true hlt
      by_cases hlt2 : k < m
      · have hd2 : decide (k < m) = true := decide_eq_true hlt2
        obtain ⟨b1, o1, rfl, hb1, hc1⟩ := hx'.cell k hlt
        obtain ⟨b2, o2, rfl, hb2, hc2⟩ := hy'.cell k hlt2
        have hck1 := hc1 k hlt
        have hck2 := hc2 k hlt2
        clear hc1 hc2 hx' hy'
        generalize hxa : xs.getD k 0 = a at hck1
        generalize hyb : ys.getD k 0 = b at hck2
        by_cases hab : a = b
        · have hne : (a != b) = false := by simpa using hab
          have Hxa := Lib.hid hxa; clear hxa
          have Hyb := Lib.hid hyb; clear hyb
          have Hab := Lib.hid hab; clear hab
          have Hd1 := Lib.hid hd1; clear hd1
          have Hd2 := Lib.hid hd2; clear hd2
          go_wp2
          go_quiet (fail)
          go_wp2
          go_roundw
          case rel =>
            refine ⟨k + 1, by omega, by omega, by go_num, ?_, by obtain ⟨q, rfl⟩ := Hq.out; exact ⟨_, World.drewN_drewN _ _ _⟩⟩
            rw [take_snoc Hxa.out hlt Hl1.out, take_snoc Hyb.out hlt2 Hl2.out, Heq.out, Hab.out]
          case measure => simp [intOf]; omega
        · have hne : (a != b) = true := by simpa using hab
          have hr := befB_diff Heq.out (by rw [Hl1.out]; exact hlt) (by rw [Hl2.out]; exact hlt2) hxa hyb hab
          have Hxa := Lib.hid hxa; clear hxa
          have Hyb := Lib.hid hyb; clear hyb
          have Hab := Lib.hid hab; clear hab
          have Hd1 := Lib.hid hd1; clear hd1
          have Hd2 := Lib.hid hd2; clear hd2
          have Hr := Lib.hid hr; clear hr
          go_wp2
          go_quiet (fail)
          go_wp2
          go_quiet (fail)
          go_wp2
          go_ret
          obtain ⟨q, rfl⟩ := Hq.out
          exact ⟨retB Hr.out.symm, belowDrewN (belowDrewN (belowDrewN (Below.refl _ _) _) _) _⟩
      · have hd2 : decide (k < m) = false := decide_eq_false hlt2
        have hr := befB_end Heq.out (by rw [Hl1.out]; exact hkn) (by rw [Hl2.out]; exact hkm) (.inr (by rw [Hl2.out]; omega))
        rw [Hl1.out, Hl2.out] at hr
        have Hr := Lib.hid hr; clear hr
        go_wp2
        go_ret
        obtain ⟨q, rfl⟩ := Hq.out
        exact ⟨retB Hr.out.symm, belowDrewN (Below.refl _ _) _⟩
    · have hd1 : decide (k < n) = false := decide_eq_false hlt
      have hr := befB_end Heq.out (by rw [Hl1.out]; exact hkn) (by rw [Hl2.out]; exact hkm) (.inl (by rw [Hl1.out]; omega))
      rw [Hl1.out, Hl2.out] at hr
      have Hr := Lib.hid hr; clear hr
      go_wp2
      go_ret
      obtain ⟨q, rfl⟩ := Hq.out
      exact ⟨retB Hr.out.symm, belowDrewN (Below.refl _ _) _⟩


set_option maxHeartbeats 800000 in
theorem pSameLists_any (ao bo : Option Addr) (n m cap cap' : Nat) (xss yss : List (List Int)) (w : World) (hx : RowsAt w ao n cap xss) (hy : RowsAt w bo m cap' yss) :
    Calls Tryz.prog 8 #[.slice ao n cap, .slice bo m cap'] w fun e w' => e = .returned (.bool (decide (xss = yss))) ∧ Below w.heap.size w w' := by
  have hn' := hx.lenInt
  have hm' := hy.lenInt
  have hl1 := hx.length
  have hl2 := hy.length
  have Hl1 := Lib.hid hl1; clear hl1
  have Hl2 := Lib.hid hl2; clear hl2
  by_cases hnm : n = m
  · subst hnm
    go_enter Tryz.func8, Tryz.ntmps8
    go_wp2
    go_loopw [13] (fun i wr => ∃ k : Nat, k ≤ n ∧ i = .int .i64 k ∧ xss.take k = yss.take k ∧ Below w.heap.size w wr) (fun i _ => n - (intOf i).toNat)
    case atStart => exact ⟨0, Nat.zero_le _, rfl, rfl, Below.refl _ _⟩
    case round =>
      obtain ⟨k, hk, rfl, heq, hb⟩ := hrel
      have Heq := Lib.hid heq; clear heq
      by_cases hlt : k < n
      · obtain ⟨b1, o1, rfl, hbl1, hc1⟩ := (hx.keep hb).cell k hlt
        obtain ⟨a1, m1, c1, hcell1, hat1⟩ := hc1 k hlt
        obtain ⟨b2, o2, rfl, hbl2, hc2⟩ := (hy.keep hb).cell k hlt
        obtain ⟨a2, m2, c2, hcell2, hat2⟩ := hc2 k hlt
        have hcon := pSame_any a1 a2 m1 m2 c1 c2 (xss.getD k []) (yss.getD k []) wr.drew (hat1.drewN 1) (hat2.drewN 1)
        have hbd : Below w.heap.size w wr.drew := belowDrewN hb 1
        generalize hxa : xss.getD k [] = a at hcon
        generalize hyb : yss.getD k [] = b at hcon
        clear hc1 hc2 hat1 hat2
        by_cases hab : a = b
        · rw [decide_eq_true hab] at hcon
          have Hxa := Lib.hid hxa; clear hxa
          have Hyb := Lib.hid hyb; clear hyb
          have Hab := Lib.hid hab; clear hab
          have Hcon := Lib.hid hcon; clear hcon
          go_wp2
          go_region_law (first | (go_simp; with_reducible refine (Hcon.out).mono ?_; rintro e w1 ⟨rfl, hb1⟩))
          all_goals
            go_wp2
            go_roundw
            case rel =>
              refine ⟨k + 1, by omega, by go_num, ?_, belowTrans hbd hb1 (Nat.le_refl _)⟩
              rw [take_snocR Hxa.out hlt Hl1.out, take_snocR Hyb.out hlt Hl2.out, Heq.out, Hab.out]
            case measure => simp [intOf]; omega
        · have hne : xss ≠ yss := fun e => hab (by rw [← hxa, ← hyb, e])
          rw [decide_eq_false hab] at hcon
          have Hxa := Lib.hid hxa; clear hxa
          have Hyb := Lib.hid hyb; clear hyb
          have Hab := Lib.hid hab; clear hab
          have Hcon := Lib.hid hcon; clear hcon
          have Hne := Lib.hid hne; clear hne
          go_wp2
          go_region_law (first | (go_simp; with_reducible refine (Hcon.out).mono ?_; rintro e w1 ⟨rfl, hb1⟩))
          all_goals
            go_wp2
            go_ret
            exact ⟨retB (decide_eq_false Hne.out).symm, belowTrans hbd hb1 (Nat.le_refl _)⟩
      · obtain rfl : n = k := by omega
        have e := Heq.out
        rw [List.take_of_length_le (by have := Hl1.out; omega), List.take_of_length_le (by have := Hl2.out; omega)] at e
        have ed : true = decide (xss = yss) := (decide_eq_true e).symm
        have Ed := Lib.hid ed; clear ed
        clear e
        go_wp2
        go_ret
        exact ⟨retB Ed.out, hb⟩
  · have hne : ((n : Int) != (m : Int)) = true := by simp; omega
    have hxy : xss ≠ yss := fun e => hnm (by rw [← Hl1.out, ← Hl2.out, e])
    go_enter Tryz.func8, Tryz.ntmps8
    go_wp2
    go_ret
    exact ⟨by simp [hxy], Below.refl _ _⟩

def ordB (xss : List (List Int)) : Bool := (List.range (xss.length - 1)).all fun i => befB (xss.getD i []) (xss.getD (i + 1) [])
theorem ordB_iff {xss : List (List Int)} : ordB xss = true ↔ ∀ i, i + 1 < xss.length → befB (xss.getD i []) (xss.getD (i + 1) []) = true := by
  unfold ordB
  rw [List.all_eq_true]
  exact ⟨fun h i hi => h i (List.mem_range.2 (by omega)), fun h i hi => h i (by have := List.mem_range.1 hi; omega)⟩
theorem ordB_no {xss : List (List Int)} {i : Nat} (hi : i + 1 < xss.length) (h : befB (xss.getD i []) (xss.getD (i + 1) []) = false) : ordB xss = false := by
  cases hh : ordB xss
  · rfl
  · rw [ordB_iff.1 hh i hi] at h; cases h
theorem ordB_of {xss : List (List Int)} (h : xss.Pairwise fun a b => befB a b = true) : ordB xss = true := ordB_iff.2 fun i hi => by
  rw [List.pairwise_iff_getElem] at h
  rw [List.getD_eq_getElem?_getD, List.getD_eq_getElem?_getD, List.getElem?_eq_getElem (by omega), List.getElem?_eq_getElem hi]
  exact h i (i + 1) (by omega) hi (by omega)

set_option maxHeartbeats 800000 in
theorem pOrdered_any (ao : Option Addr) (n cap : Nat) (xss : List (List Int)) (w : World) (hx : RowsAt w ao n cap xss) :
    Calls Tryz.prog 12 #[.slice ao n cap] w fun e w' => e = .returned (.bool (ordB xss)) ∧ Below w.heap.size w w' := by
  have hn' := hx.lenInt
  have hl := hx.length
  have Hl := Lib.hid hl; clear hl
  go_enter Tryz.func12, Tryz.ntmps12
  go_wp2
  go_loopw [3] (fun i wr => ∃ k : Nat, (k ≤ n ∨ k = 1) ∧ 1 ≤ k ∧ i = .int .i64 k ∧ (∀ i, i + 1 < k → i + 1 < xss.length → befB (xss.getD i []) (xss.getD (i + 1) []) = true) ∧ Below w.heap.size w wr) (fun i _ => n - (intOf i).toNat)
  case atStart => exact ⟨1, .inr rfl, Nat.le_refl _, rfl, fun i h => absurd h (by omega), Below.refl _ _⟩
  case round =>
    obtain ⟨k, hk, hk1, rfl, hall, hb⟩ := hrel
    obtain ⟨K, rfl⟩ : ∃ K, k = K + 1 := ⟨k - 1, by omega⟩
    have Hall := Lib.hid hall; clear hall
    by_cases hlt : K + 1 < n
    · obtain ⟨b1, o1, e1, hbl1, hc1⟩ := (hx.keep hb).cell K (by omega)
      subst e1
      obtain ⟨a1, m1, c1, hcell1, hat1⟩ := hc1 K (by omega)
      obtain ⟨b2, o2, e2, hbl2, hc2⟩ := (hx.keep hb).cell (K + 1) (by omega)
      cases e2
      obtain ⟨a2, m2, c2, hcell2, hat2⟩ := hc2 (K + 1) (by omega)
      have hcon := pBefore_any a1 a2 m1 m2 c1 c2 (xss.getD K []) (xss.getD (K + 1) []) wr.drew (hat1.drewN 1) (hat2.drewN 1)
      have hbd : Below w.heap.size w wr.drew := belowDrewN hb 1
      have ek : IntKind.i64.wrap ((K : Nat) : Int) = (K : Nat) := IntWalk.i64_in _ (by omega)
      have hKn : K < n := by omega
      have hK1 : (0 : Int) ≤ (K : Int) + 1 := by omega
      clear hc1 hc2 hat1 hat2
      cases hbf : befB (xss.getD K []) (xss.getD (K + 1) [])
      · rw [hbf] at hcon
        have hno := ordB_no (by rw [Hl.out]; exact hlt) hbf
        have Hcon := Lib.hid hcon; clear hcon
        have Hbf := Lib.hid hbf; clear hbf
        have Hno := Lib.hid hno; clear hno
        go_wp2
        go_region_law (first | (go_simp; with_reducible refine (Hcon.out).mono ?_; rintro e w1 ⟨rfl, hb1⟩))
        all_goals
          go_wp2
          go_ret
          exact ⟨retB Hno.out.symm, belowTrans hbd hb1 (Nat.le_refl _)⟩
      · rw [hbf] at hcon
        have Hcon := Lib.hid hcon; clear hcon
        have Hbf := Lib.hid hbf; clear hbf
        go_wp2
        go_region_law (first | (go_simp; with_reducible refine (Hcon.out).mono ?_; rintro e w1 ⟨rfl, hb1⟩))
        all_goals
          go_wp2
          go_roundw
          case rel =>
            refine ⟨K + 2, by omega, by omega, by go_num, fun i hi h2 => ?_, belowTrans hbd hb1 (Nat.le_refl _)⟩
            by_cases he : i = K
            · subst he; exact Hbf.out
            · exact Hall.out i (by omega) h2
          case measure => simp [intOf]; omega
    · have hyes : ordB xss = true := ordB_iff.2 fun i hi => Hall.out i (by have := Hl.out; omega) hi
      have Hyes := Lib.hid hyes; clear hyes
      go_wp2
      go_ret
      exact ⟨retB Hyes.out.symm, hb⟩
end
end Go.Proofs.YtmfdimdcoeapoaaGreat
namespace Go.Proofs.YtmfdimdcoeapoaaGreat
section
set_option linter.unusedVariables false
set_option linter.unusedSimpArgs false
theorem cycL_len {xs : List Int} : (cycL xs).length = perL (endL xs) := by unfold cycL; rw [runL_length]
theorem cycL_ne {xs : List Int} (hg : Good xs) : (cycL xs).length ≠ 0 := by
  rw [cycL_len]
  have := (perL_spec (endL_good hg) (endL_cyc hg)).1
  omega
theorem mem_at {xs : List Int} {k : Nat} (hk : k < xs.length) : xs.getD k 0 ∈ xs := by
  rw [List.getD_eq_getElem?_getD, List.getElem?_eq_getElem hk]
  exact List.getElem_mem _
theorem sideStep_at {xs : List Int} (hg : Good xs) (k : Nat) (hk : k < (sideStepL xs).length) : (sideStepL xs).getD k 0 = xs.getD (k + 1) 0 + (if (k : Int) < xs.getD 0 0 then 1 else 0) := by
  have h0 : xs.headD 0 = xs.getD 0 0 := by cases xs <;> rfl
  have h1 : 0 ≤ xs.getD 0 0 := by
    by_cases h : 0 < xs.length
    · have := hg.mem (mem_at h)
      omega
    · rw [List.getD_eq_getElem?_getD, List.getElem?_eq_none (by omega)]; exact Int.le_refl _
  rw [List.getD_eq_getElem?_getD, List.getElem?_eq_getElem hk]
  simp only [sideStepL, List.getElem_map, List.getElem_range, Option.getD_some, h0]
  by_cases hlt : k < (xs.getD 0 0).toNat
  · rw [if_pos hlt, if_pos (by omega)]
  · rw [if_neg hlt, if_neg (by omega)]
/-! ### A cycle, place by place -/
theorem steps_none (x : List Int) : stepsL 0 x = x := by simp [stepsL]
theorem cycL_at {xs : List Int} {i : Nat} (hi : i < (cycL xs).length) : (cycL xs).getD i [] = stepsL i (endL xs) := by
  rw [List.getD_eq_getElem?_getD, List.getElem?_eq_getElem hi]
  simp [cycL, runL]
theorem cycL_good_at {xs : List Int} (hg : Good xs) {i : Nat} (hi : i < (cycL xs).length) : Good ((cycL xs).getD i []) ∧ Cyc ((cycL xs).getD i []) := by
  rw [cycL_at hi]
  exact ⟨stepsL_good (endL_good hg) i, cyc_steps (endL_good hg) (endL_cyc hg) i⟩
theorem cycL_next {xs : List Int} (hg : Good xs) {i : Nat} (hi : i < (cycL xs).length) : stepL ((cycL xs).getD i []) = (cycL xs).getD ((i + 1) % (cycL xs).length) [] := by
  have h1 : stepL (stepsL i (endL xs)) = stepsL (i + 1) (endL xs) := (stepsL_plus 1 i (endL xs) ▸ by rw [Nat.add_comm]; rfl)
  rw [cycL_at hi, cycL_at (Nat.mod_lt _ (by omega)), h1]
  by_cases h : i + 1 < (cycL xs).length
  · rw [Nat.mod_eq_of_lt h]
  · have e : i + 1 = (cycL xs).length := by omega
    rw [e, Nat.mod_self, cycL_len, (perL_spec (endL_good hg) (endL_cyc hg)).2.2.1]
    exact (steps_none _).symm
theorem cycL_new {xs : List Int} (hg : Good xs) {i : Nat} (hi : i < (cycL xs).length) : (cycL xs).getD i [] ∉ (cycL xs).take i := by
  intro hm
  obtain ⟨j, hj, e⟩ := List.mem_take_iff_getElem.1 hm
  have hj2 : j < i := by omega
  have hj3 : j < (cycL xs).length := by omega
  have ej : (cycL xs).getD j [] = (cycL xs).getD i [] := by
    rw [← e, List.getD_eq_getElem?_getD, List.getElem?_eq_getElem hj3]; rfl
  rw [cycL_at hj3, cycL_at hi] at ej
  exact per_distinct (endL_good hg) (endL_cyc hg) hj2 (by rw [← cycL_len]; exact hi) ej
theorem cycL_first {xs : List Int} (hg : Good xs) : (cycL xs).getD 0 [] = stepsL (tailL xs) xs := by
  rw [cycL_at (by have := cycL_ne hg; omega)]; exact steps_none _
theorem steps_per {z : List Int} {p : Nat} (h : stepsL p z = z) (k : Nat) : stepsL (k * p) z = z := by
  induction k with
  | zero => rw [Nat.zero_mul]; exact steps_none z
  | succ k ih => rw [Nat.succ_mul, Nat.add_comm, stepsL_plus, ih, h]
theorem per_dvd {z : List Int} (hg : Good z) (h : Cyc z) {n : Nat} (hn : stepsL n z = z) : n % perL z = 0 := by
  have hs := perL_spec hg h
  have e : stepsL (n % perL z) z = z := by
    have h1 : n % perL z + (n / perL z) * perL z = n := by rw [Nat.mul_comm]; exact Nat.mod_add_div n (perL z)
    have h2 : stepsL (n % perL z + (n / perL z) * perL z) z = stepsL (n % perL z) z := by
      rw [stepsL_plus, steps_per hs.2.2.1]
    rw [h1, hn] at h2
    exact h2.symm
  have hlt : n % perL z < perL z := Nat.mod_lt _ hs.1
  apply Classical.byContradiction
  intro hne
  exact hs.2.2.2 _ (by omega) hlt e
theorem hgt_per {xs : List Int} (hg : Good xs) : (hgt xs.sum.toNat + 1) % (cycL xs).length = 0 := by
  rw [cycL_len]
  have h := cyc_round (endL_good hg) (endL_cyc hg)
  have hL1 : hL (endL xs) = hgt xs.sum.toNat := by
    unfold hL endL
    rw [stepsL_sum hg]
  rw [hL1] at h
  exact per_dvd (endL_good hg) (endL_cyc hg) h
theorem tail_zero {xs : List Int} (hg : Good xs) : cycB xs = decide (tailL xs = 0) := by
  have hs := tailL_spec hg
  by_cases h : tailL xs = 0
  · rw [decide_eq_true h]
    have := hs.2.1
    rw [h] at this
    exact cyc_iff.2 this
  · rw [decide_eq_false h]
    cases hc : cycB xs
    · rfl
    · exact absurd (cyc_iff.1 hc) (hs.2.2 0 (by omega))
theorem tail_before {xs : List Int} (hg : Good xs) {k : Nat} (h : k < tailL xs) : cycB (stepsL k xs) = false := by
  cases hc : cycB (stepsL k xs)
  · rfl
  · exact absurd (cyc_iff.1 hc) ((tailL_spec hg).2.2 k h)
end
end Go.Proofs.YtmfdimdcoeapoaaGreat
namespace Go.Proofs.YtmfdimdcoeapoaaGreat
section
open Go.RowKit
set_option linter.unusedVariables false
set_option linter.unusedSimpArgs false
set_option maxRecDepth 20000
theorem RowsAt.takeA {w ao n cap xss} (h : RowsAt w ao n cap xss) (hi : Nat) (hhi : hi ≤ n) : RowsAt w (if cap = 0 then ao else ao.map (·.add (0 * 1))) hi cap (xss.take hi) := by
  refine ⟨by rw [List.length_take, h.length]; omega, by have := h.le; omega, h.max, fun e => ?_, fun j hj => ?_⟩
  · have : ao = none := by
      by_cases hc : cap = 0
      · rwa [if_pos hc] at e
      · rw [if_neg hc] at e; simpa using e
    obtain ⟨rfl, rfl⟩ := h.isNil this
    omega
  · obtain ⟨b, oo, rfl, hb, hc⟩ := h.cell j (by omega)
    refine ⟨b, oo, ?_, hb, fun i hi' => ?_⟩
    · by_cases h0 : cap = 0
      · rw [if_pos h0]
      · rw [if_neg h0]
        simp only [Option.map_some, Nat.zero_mul, Addr.add_lit]; rfl
    · obtain ⟨a, m, c, h1, h2⟩ := hc i (by omega)
      refine ⟨a, m, c, h1, ?_⟩
      rwa [List.getD_eq_getElem?_getD, List.getElem?_take, if_pos hi', ← List.getD_eq_getElem?_getD]
theorem rowsUpto {ao n cap} (w0 : World) (xss : List (List Int)) (h : RowsAt w0 ao n cap xss) (hi : Nat) (hhi : hi ≤ n) (k : IntKind) : ∃ a2, (∀ w : World, (Instr.sliceAt 27 (.slice ao n cap) none (some (.int k (hi : Int))) none).run Tryz.prog w = .ok (.slice a2 hi cap) w) ∧ RowsAt w0 a2 hi cap (xss.take hi) := by
  refine ⟨if cap = 0 then ao else ao.map (·.add (0 * 1)), fun w => ?_, h.takeA hi hhi⟩
  have hrun := run_slice_h (P := Tryz.prog) (w := w) 27 ao n cap Tryz.underlying27 k (hi : Int) (by omega) (by have := h.le; omega)
  rw [sizeInts] at hrun
  rw [run_sliceAt_slice _ _ _ _ _ _ Tryz.underlying27, hrun]
  simp [Result.andThen, sliced]
end
end Go.Proofs.YtmfdimdcoeapoaaGreat
namespace Go.Proofs.YtmfdimdcoeapoaaGreat
section
set_option linter.unusedVariables false
set_option linter.unusedSimpArgs false

theorem rotN_mem {x : Int} (k : Nat) {bs : List Int} : x ∈ rotN k bs ↔ x ∈ bs := by
  induction k generalizing bs with
  | zero => exact Iff.rfl
  | succ k ih =>
    show x ∈ rotL (rotN k bs) ↔ _
    rw [rotL_mem, ih]
theorem turn_from {bs : List Int} (h : bitsB bs = true) (hg : goodB (fromB bs) = true) {k : Nat} (hk : k ≤ 1000) :
    mBitsOf (fromB bs) = (bs, true) ∧ mStepsFrom (fromB bs) k = (fromB (rotN k bs), true) ∧ mFromBits (rotN k bs) = (fromB (rotN k bs), true) := by
  have hB := bits_iff.1 h
  have hG := good_iff.1 hg
  have hc := fromB_cyc hB.isB hB.2.2 hG.2.2
  have hst := steps_rot hB.isB k
  refine ⟨?_, ?_, ?_⟩
  · rw [mBits_yes hg (decide_eq_true hc), bits_from hB.isB hB.2.2 hG.2.2]
  · rw [mSteps_yes hg hk, hst]
  · refine mFrom_yes (bits_iff.2 ⟨by rw [rotN_length]; exact hB.1, fun b hb => hB.2.1 b ((rotN_mem k).1 hb), (rotN_mem k).2 hB.2.2⟩) ?_
    rw [← hst]
    exact good_iff.2 (stepsL_good hG k)
theorem bits_back {ys : List Int} (hg : goodB ys = true) (hc : cycB ys = true) : mFromBits (bitsL ys) = (ys, true) := by
  have hG := good_iff.1 hg
  have hC : Cyc ys := of_decide_eq_true hc
  have hf := from_bits hG hC
  have hI := bitsL_isB hC
  have hL := hL_le ys
  have hB : Bits (bitsL ys) := ⟨by rw [bitsL_length]; omega, fun b hb => by have := hI b hb; omega, bits_zero hG hC⟩
  rw [mFrom_yes (bits_iff.2 hB) (by rw [hf]; exact hg), hf]
end
end Go.Proofs.YtmfdimdcoeapoaaGreat
