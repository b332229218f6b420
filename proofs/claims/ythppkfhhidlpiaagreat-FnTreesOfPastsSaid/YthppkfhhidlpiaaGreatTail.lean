/- Chapter 2: tails and cycles by the model. No condition. -/
import Derived.Test.YthppkfhhidlpiaaGreatOrbC
import Derived.Test.YthppkfhhidlpiaaGreatPastsB
import Derived.Test.YthppkfhhidlpiaaGreatRowsR
namespace Go.Proofs.YthppkfhhidlpiaaGreat
open Go.RowKit
set_option linter.unusedVariables false
set_option linter.unusedSimpArgs false
set_option maxRecDepth 20000

/-! ### Where a list lies among lists -/
def PlaceIs (xss : List (List Int)) (ys : List Int) (r : Int) : Prop :=
  (r = -1 ∧ ys ∉ xss) ∨ ∃ i : Nat, r = i ∧ i < xss.length ∧ xss.getD i [] = ys ∧ ∀ j, j < i → xss.getD j [] ≠ ys
set_option maxHeartbeats 800000 in
theorem orPlace_any (ao bo : Option Addr) (n m cap cap' : Nat) (xss : List (List Int)) (ys : List Int) (w : World) (hx : RowsAt w ao n cap xss) (hy : IntsAt w bo m cap' ys) :
    Calls Tryz.prog 103 #[.slice ao n cap, .slice bo m cap'] w fun e w' => ∃ r : Int, e = .returned (.int .i64 r) ∧ PlaceIs xss ys r ∧ Below w.heap.size w w' := by
  have hn := hx.lenInt
  have hl := hx.length
  have Hl := Lib.hid hl; clear hl
  go_enter Tryz.func103, Tryz.ntmps103
  go_wp2
  go_loopw [9] (fun i wr => ∃ k : Nat, k ≤ n ∧ i = .int .i64 k ∧ (∀ j, j < k → xss.getD j [] ≠ ys) ∧ ∃ q, wr = w.drewN q) (fun i _ => n - (intOf i).toNat)
  case atStart => exact ⟨0, Nat.zero_le _, rfl, fun j hj => by omega, 0, rfl⟩
  case round =>
    obtain ⟨k, hk, rfl, hall, q, rfl⟩ := hrel
    by_cases hlt : k < n
    · obtain ⟨b, oo, rfl, hbl, hc⟩ := hx.cell k hlt
      obtain ⟨a, m2, c, hck, hrow⟩ := hc k hlt
      clear hc
      have hsame := l1Same_any bo a m m2 cap' c ys (xss.getD k []) (w.drewN q) (hy.drewN q) (hrow.drewN q)
      by_cases heq : ys = xss.getD k []
      · rw [decide_eq_true heq] at hsame
        have Hall := Lib.hid hall; clear hall
        have Hsame := Lib.hid hsame; clear hsame
        have Heq := Lib.hid heq; clear heq
        have Hrow := Lib.hid hrow; clear hrow
        go_wp2_with fail
        with_reducible refine (Hsame.out).mono ?_
        rintro e w2 ⟨rfl, q2, rfl⟩
        go_wp2_with fail
        go_ret
        exact ⟨_, rfl, .inr ⟨k, rfl, by rw [Hl.out]; exact hlt, Heq.out.symm, Hall.out⟩, belowDrewN (Below.refl _ _) _⟩
      · rw [decide_eq_false heq] at hsame
        have Hall := Lib.hid hall; clear hall
        have Hsame := Lib.hid hsame; clear hsame
        have Heq := Lib.hid heq; clear heq
        have Hrow := Lib.hid hrow; clear hrow
        go_wp2_with fail
        with_reducible refine (Hsame.out).mono ?_
        rintro e w2 ⟨rfl, q2, rfl⟩
        go_wp2_with fail
        go_roundw
        case rel =>
          refine ⟨k + 1, by omega, by go_num, fun j hj => ?_, _, rfl⟩
          by_cases hjk : j = k
          · subst hjk; exact fun e => Heq.out e.symm
          · exact Hall.out j (by omega)
        case measure => simp [intOf]; omega
    · obtain rfl : n = k := by omega
      go_wp2_with fail
      go_ret
      refine ⟨_, rfl, .inl ⟨rfl, fun hm => ?_⟩, belowDrewN (Below.refl _ _) _⟩
      obtain ⟨i, hi, e⟩ := List.getElem_of_mem hm
      refine hall i (by rw [← Hl.out]; exact hi) ?_
      rw [List.getD_eq_getElem?_getD, List.getElem?_eq_getElem hi]; exact e

/-! ### Tails and cycles -/
def lenOf : Value → Nat
  | .slice _ n _ => n
  | _ => 0
theorem place_first {xs : List Int} {j : Nat} {r : Int} (h : PlaceIs (runL xs j) (stepsL j xs) r) :
    (r = -1 ∧ ∀ i, i < j → stepsL i xs ≠ stepsL j xs) ∨ ∃ i : Nat, r = i ∧ i < j ∧ stepsL i xs = stepsL j xs := by
  rcases h with ⟨h1, h2⟩ | ⟨i, h1, h2, h3, h4⟩
  · exact .inl ⟨h1, fun i hi e => h2 (runL_mem.2 ⟨i, hi, e⟩)⟩
  · rw [runL_length] at h2
    rw [runL_getD _ _ _ h2] at h3
    exact .inr ⟨i, h1, h2, h3⟩
theorem runL_nodup_succ {xs : List Int} {j : Nat} (h : (runL xs j).Nodup) (hn : ∀ i, i < j → stepsL i xs ≠ stepsL j xs) : (runL xs (j + 1)).Nodup := by
  rw [runL_succ, List.nodup_append]
  refine ⟨h, by simp, fun a ha b hb => ?_⟩
  rw [List.mem_singleton.1 hb]
  obtain ⟨i, hi, e⟩ := runL_mem.1 ha
  rw [← e]
  exact hn i hi

set_option maxHeartbeats 1600000 in
theorem orTail_any (ao : Option Addr) (n cap : Nat) (xs : List Int) (w : World) (h : IntsAt w ao n cap xs) (hg : Good xs) :
    Calls Tryz.prog 61 #[.slice ao n cap] w fun e w' => ∃ a m c, e = .returned (.tuple #[.int .i64 (tailL xs), .slice a m c]) ∧ RowsR w.heap.size w'.heap.size w' a m c (cycL xs) ∧ Below w.heap.size w w' := by
  have hlen := hg.len
  have hl := h.length
  have hcp := l1Own_any ao n cap xs w h (by omega)
  have Hg := Lib.hid hg; clear hg
  have Hcp := Lib.hid hcp; clear hcp
  have Hl := Lib.hid hl; clear hl
  go_enter Tryz.func61, Tryz.ntmps61
  go_wp2_with fail
  with_reducible refine (Hcp.out).mono ?_
  rintro e w1 ⟨a1, c1, rfl, ho1, hb1⟩
  go_wp2_with fail
  go_loopw [4, 5] (fun p v wr => ∃ (j E : Nat) (a : Option Addr) (c : Nat) (a2 : Option Addr) (m2 c2 : Nat), p = .slice a j c ∧ v = .slice a2 m2 c2 ∧ w.heap.size ≤ E ∧ E ≤ wr.heap.size ∧ OwnRows w.heap.size E wr a j c (runL xs j) ∧ Own E wr.heap.size wr a2 m2 c2 (stepsL j xs) ∧ (runL xs j).Nodup ∧ Below w.heap.size w wr) (fun p _ _ => 3719 - lenOf p)
  case atStart => exact ⟨0, w.heap.size, none, 0, a1, n, c1, rfl, rfl, Nat.le_refl _, hb1.size, OwnRows.nil _ _ _, ho1, List.nodup_nil, hb1⟩
  case round =>
    obtain ⟨j, E, a, c, a2, m2, c2, rfl, rfl, hE1, hE2, hrows, hown, hnd, hb⟩ := hrel
    have hshort := runL_short Hg.out hnd
    have hG := stepsL_good Hg.out j
    have Hnd := Lib.hid hnd; clear hnd
    have HG := Lib.hid hG; clear hG
    go_wp2_with fail
    with_reducible refine (orPlace_any _ _ _ _ _ _ _ _ _ hrows.at hown.at).mono ?_
    rintro e w2 ⟨r, rfl, hpl, hb2⟩
    have hbw := belowTrans hb hb2 (Nat.le_refl _)
    have hrows2 := hrows.keep hb2
    have hown2 := (hown.keep hb2).mono (Nat.le_refl _) hb2.size
    have hs2 := hb2.size
    rcases place_first hpl with ⟨rfl, hne⟩ | ⟨i, rfl, hi, he⟩
    · have hnd2 := runL_nodup_succ Hnd.out hne
      have hsucc := runL_succ xs j
      have hshort2 := runL_short Hg.out hnd2
      have Hnd2 := Lib.hid hnd2; clear hnd2
      have Hsucc := Lib.hid hsucc; clear hsucc
      have Hne := Lib.hid hne; clear hne
      clear hrows hown hpl hb2 hb
      go_wp2_with (at_builtin; refine wpList_pushR w2 rfl _ _ rfl w.heap.size E _ j c _ rfl hrows2 (by omega) a2 m2 c2 E _ hown2 hE1 hown2.ge rfl (by omega) hbw.size ?_)
      intro a4 c4 w4 ho4 hc4
      have hb4 := hbw.trans (hrows2.chgBelow hc4 hbw.size)
      have hs4 := hc4.size
      have hnow := (hown2.chg hc4 (fun g h1 h2 h3 h4 => by
        obtain ⟨vs, hv1, _⟩ := hrows2.vals
        have := hv1.2 g h4
        omega)).at
      clear hc4 hown2 hrows2
      go_wp2_with fail
      with_reducible refine (piStep_any _ _ _ _ _ hnow HG.out).mono ?_
      rintro e w5 ⟨a5, m5, c5, rfl, ho5, hb5⟩
      have hs5 := hb5.size
      go_wp2_with fail
      go_roundw
      case rel => exact ⟨j + 1, w4.heap.size, a4, c4, a5, m5, c5, rfl, rfl, by omega, hs5, by rw [Hsucc.out]; exact ho4.keep hb5, ho5, Hnd2.out, belowTrans hb4 hb5 (Nat.le_refl _)⟩
      case measure => simp [lenOf]; omega
    · obtain ⟨hti, hjp⟩ := first_again Hg.out hi he Hnd.out
      have Hti := Lib.hid hti; clear hti
      have Hjp := Lib.hid hjp; clear hjp
      clear hrows hown hpl hb2 hb
      go_wp2_with fail
      with_reducible refine (orPlace_any _ _ _ _ _ _ _ _ _ hrows2.at hown2.at).mono ?_
      rintro e w3 ⟨r, rfl, hpl, hb3⟩
      have hbw3 := belowTrans hbw hb3 (Nat.le_refl _)
      have hrows3 := hrows2.keep hb3
      rcases place_first hpl with ⟨rfl, hne⟩ | ⟨i2, rfl, hi2, he2⟩
      · exact absurd he (hne i hi)
      · have hti2 := (first_again Hg.out hi2 he2 Hnd.out).1
        have hi0 : (0 : Int) ≤ (i2 : Int) := by omega
        have hrr := rowsFrom hrows3 i2 hi2
        have hcne : ¬ c = i2 := by have := hrows3.at.le; omega
        have hcd := cycL_drop Hg.out
        rw [← hti2] at hcd
        have hj2 : j = i2 + perL (endL xs) := by have := Hjp.out; omega
        rw [← hj2] at hcd
        rw [hcd] at hrr
        have hfin := hrr.mono (Nat.le_refl w.heap.size) (show E ≤ w3.heap.size by have := hb3.size; omega)
        have Hti2 := Lib.hid hti2; clear hti2
        have Hj2 := Lib.hid hj2; clear hj2
        have Hcd := Lib.hid hcd; clear hcd
        have Hrr := Lib.hid hrr; clear hrr
        have Hrows3 := Lib.hid hrows3; clear hrows3
        have Hpl := Lib.hid hpl; clear hpl
        have He2 := Lib.hid he2; clear he2
        have He := Lib.hid he; clear he
        have Hfin := Lib.hid hfin; clear hfin
        go_wp2_with fail
        go_quiet (fail)
        go_wp2_with fail
        go_ret2
        rw [← Hti2.out]
        exact ⟨_, _, _, rfl, Hfin.out.drewN _, belowDrewN hbw3 _⟩

def mTailOf (xs : List Int) : Int × Bool := (if goodB xs then (tailL xs : Int) else 0, goodB xs)
theorem mTail_yes {xs : List Int} (h : goodB xs = true) : mTailOf xs = ((tailL xs : Int), true) := by unfold mTailOf; rw [h]; rfl
theorem mTail_no {xs : List Int} (h : goodB xs = false) : mTailOf xs = (0, false) := by unfold mTailOf; rw [h]; rfl
def mCycleOf (xs : List Int) : List (List Int) × Bool := (if goodB xs then cycL xs else [], goodB xs)
theorem mCycle_yes {xs : List Int} (h : goodB xs = true) : mCycleOf xs = (cycL xs, true) := by unfold mCycleOf; rw [h]; rfl
theorem mCycle_no {xs : List Int} (h : goodB xs = false) : mCycleOf xs = ([], false) := by unfold mCycleOf; rw [h]; rfl
def mCycleLength (xs : List Int) : Int × Bool := (if goodB xs then ((cycL xs).length : Int) else 0, goodB xs)
theorem mCycleL_yes {xs : List Int} (h : goodB xs = true) : mCycleLength xs = (((cycL xs).length : Int), true) := by unfold mCycleLength; rw [h]; rfl
theorem mCycleL_no {xs : List Int} (h : goodB xs = false) : mCycleLength xs = (0, false) := by unfold mCycleLength; rw [h]; rfl
theorem cycL_length {xs : List Int} (hg : Good xs) : (cycL xs).length ≤ 8 := by
  unfold cycL
  rw [runL_length]
  have := (perL_spec (endL_good hg) (endL_cyc hg)).2.1
  have := hL_le (endL xs)
  omega
theorem runL_good {xs : List Int} (hg : Good xs) (n : Nat) : ∀ ys ∈ runL xs n, Good ys := by
  intro ys hy
  obtain ⟨i, _, rfl⟩ := runL_mem.1 hy
  exact stepsL_good hg i
theorem cycL_good {xs : List Int} (hg : Good xs) : ∀ ys ∈ cycL xs, Good ys := runL_good (endL_good hg) _
theorem mCycleOf_bound (xs : List Int) : (mCycleOf xs).1.length ≤ 1048576 ∧ total (mCycleOf xs).1 ≤ 1048576 := by
  cases hg : goodB xs
  · rw [mCycle_no hg]; simp [total]
  · rw [mCycle_yes hg]
    have hG := good_iff.1 hg
    have h1 := cycL_length hG
    have h2 := total_le (cycL xs) 28 (fun ys hy => (cycL_good hG ys hy).len)
    refine ⟨by show (cycL xs).length ≤ _; omega, ?_⟩
    show total (cycL xs) ≤ _
    omega

set_option maxHeartbeats 800000 in
theorem spec_TailOf (ao : Option Addr) (n cap : Nat) (xs : List Int) (w : World) (h : IntsAt w ao n cap xs) :
    Calls Tryz.prog 20 #[.slice ao n cap] w fun e w' => e = .returned (.tuple #[.int .i64 (mTailOf xs).1, .bool (mTailOf xs).2]) ∧ Below w.heap.size w w' := by
  cases hg : goodB xs
  · have hm := mTail_no hg
    have Hg := Lib.hid hg; clear hg
    have Hm := Lib.hid hm; clear hm
    go_enter Tryz.func20, Tryz.ntmps20
    go_wp2_with fail
    with_reducible refine (piGood_no _ _ _ _ _ h Hg.out).mono ?_
    rintro e w' ⟨rfl, rfl⟩
    go_wp2
    go_ret2
    rw [Hm.out]
    exact ⟨rfl, Below.refl _ _⟩
  · have hm := mTail_yes hg
    have hG := good_iff.1 hg
    have Hg := Lib.hid hg; clear hg
    have Hm := Lib.hid hm; clear hm
    have HG := Lib.hid hG; clear hG
    go_enter Tryz.func20, Tryz.ntmps20
    go_wp2_with fail
    with_reducible refine (piGood_yes _ _ _ _ _ h HG.out).mono ?_
    rintro e w' ⟨rfl, rfl⟩
    go_wp2_with fail
    with_reducible refine (orTail_any _ _ _ _ _ h HG.out).mono ?_
    rintro e w1 ⟨a1, m1, c1, rfl, hr1, hb1⟩
    go_wp2_with fail
    go_ret2
    rw [Hm.out]
    exact ⟨rfl, hb1⟩
end Go.Proofs.YthppkfhhidlpiaaGreat
