/- Several texts in one: OrbA, OrbB, OrbC, Tail. No condition. -/
import Derived.Test.YtimmjimeldejjaaGreatDoorRing
import Derived.Test.YtimmjimeldejjaaGreatDoorSort
import Derived.Test.YtimmjimeldejjaaGreatDoorGk
import Derived.Test.YtimmjimeldejjaaGreatDoorGh
import Derived.Test.YtimmjimeldejjaaGreatDoorGi
namespace Go.Proofs.YtimmjimeldejjaaGreatDoor
section
open Go.RowKit
set_option linter.unusedVariables false
set_option linter.unusedSimpArgs false
set_option maxRecDepth 20000

set_option maxHeartbeats 400000 in
theorem equal_any (ao bo : Option Addr) (n m cap cap' : Nat) (xs ys : List Int) (w : World) (hx : IntsAt w ao n cap xs) (hy : IntsAt w bo m cap' ys) :
    Calls Tryz.prog 203 #[.slice ao n cap, .slice bo m cap'] w fun e w' => e = .returned (.bool (decide (xs = ys))) ∧ ∃ q, w' = w.drewN q := by
  have hn' := hx.lenInt
  have hm' := hy.lenInt
  by_cases hnm : n = m
  · subst hnm
    go_enter Tryz.func203, Tryz.ntmps203
    go_wp2
    go_loopw [13] (fun i wr => ∃ k : Nat, k ≤ n ∧ i = .int .i64 k ∧ xs.take k = ys.take k ∧ ∃ q, wr = w.drewN q)
      (fun i _ => n - (intOf i).toNat)
    case atStart => exact ⟨0, Nat.zero_le _, rfl, rfl, 0, rfl⟩
    case round =>
      obtain ⟨k, hk, rfl, heq, q, rfl⟩ := hrel
      have Heq := Lib.hid heq; clear heq
      by_cases hlt : k < n
      · have hl1 := Lib.hid hx.length
        have hl2 := Lib.hid hy.length
        obtain ⟨b1, o1, rfl, hb1, hc1⟩ := hx.cell k hlt
        have hck1 := hc1 k hlt
        clear hc1
        generalize hx1 : xs.getD k 0 = x at hck1
        have Hx1 := Lib.hid hx1; clear hx1
        obtain ⟨b2, o2, rfl, hb2, hc2⟩ := hy.cell k hlt
        have hck2 := hc2 k hlt
        clear hc2
        generalize hx2 : ys.getD k 0 = y at hck2
        have Hx2 := Lib.hid hx2; clear hx2
        go_wp2
        go_quiet (fail)
        go_wp2
        · go_ret
          have hne : xs ≠ ys := fun e => by
            have h3 := Hx1.out; have h4 := Hx2.out
            rw [e, h4] at h3; subst h3; simp at *
          exact ⟨by simp [hne], _, World.drewN_drewN _ _ _⟩
        · have hxy : x = y := by rename_i hh; simpa using hh
          go_roundw
          case rel => exact ⟨k + 1, by omega, by go_num, by rw [take_snoc Hx1.out hlt hl1.out, take_snoc Hx2.out hlt hl2.out, Heq.out, hxy], _, rfl⟩
          case measure => simp [intOf]; omega
      · go_wp2
        go_ret
        obtain rfl : n = k := by omega
        have e := Heq.out
        rw [take_all hx.length, take_all hy.length] at e
        exact ⟨by simp [e], _, rfl⟩
  · have hne : ((n : Int) != (m : Int)) = true := by simp; omega
    have hxy : xs ≠ ys := fun e => hnm (by rw [← hx.length, ← hy.length, e])
    go_enter Tryz.func203, Tryz.ntmps203
    go_wp2
    go_ret
    exact ⟨by simp [hxy], 0, rfl⟩

theorem idxFrom_mem (xs : List Int) (x : Int) : ∀ i : Nat, 0 ≤ Lib.idxFrom xs x i ↔ x ∈ xs := by
  induction xs with
  | nil => intro i; simp [Lib.idxFrom]
  | cons a l ih =>
    intro i
    unfold Lib.idxFrom
    by_cases h : a = x
    · subst h; simp
    · have h' : ¬ x = a := fun e => h e.symm
      simp only [h, h', List.mem_cons, false_or]
      exact ih (i + 1)
theorem idxOf_mem (xs : List Int) (x : Int) : 0 ≤ Lib.idxOf xs x ↔ x ∈ xs := idxFrom_mem xs x 0
/-! ### Bits -/
def Bits (bs : List Int) : Prop := (1 ≤ bs.length ∧ bs.length ≤ 8) ∧ (∀ b ∈ bs, 0 ≤ b ∧ b ≤ 1) ∧ 0 ∈ bs
instance (bs : List Int) : Decidable (Bits bs) := by unfold Bits; infer_instance
theorem Bits.isB {bs : List Int} (h : Bits bs) : IsB bs := fun b hb => by have := h.2.1 b hb; omega

/-! ### The piles of bits -/
/-- the piles of the first k bits -/
def fromT (bs : List Int) (n k : Nat) : List Int := ((List.range k).map fun (i : Nat) => (n : Int) - 1 - i + bs.getD i 0).filter (fun x => decide (0 < x))
theorem fromT_succ (bs : List Int) (n k : Nat) : fromT bs n (k + 1) = fromT bs n k ++ if 0 < (n : Int) - 1 - k + bs.getD k 0 then [(n : Int) - 1 - k + bs.getD k 0] else [] := by
  unfold fromT
  rw [List.range_succ, List.map_append, List.filter_append]
  congr 1
  by_cases h : 0 < (n : Int) - 1 - k + bs.getD k 0
  · rw [if_pos h, List.map_singleton, List.filter_cons_of_pos (by simpa using h)]; rfl
  · rw [if_neg h, List.map_singleton, List.filter_cons_of_neg (by simpa using h)]; rfl
theorem fromT_all (bs : List Int) (n : Nat) (hn : bs.length = n) : fromT bs n n = fromB bs := by
  subst hn
  induction bs with
  | nil => rfl
  | cons b l ih =>
    unfold fromT
    rw [List.length_cons, List.range_succ_eq_map, List.map_cons, List.map_map]
    have e : ((fun (i : Nat) => (((l.length + 1 : Nat)) : Int) - 1 - i + (b :: l).getD i 0) ∘ Nat.succ) = fun (i : Nat) => ((l.length : Nat) : Int) - 1 - i + l.getD i 0 := by
      funext i
      simp only [Function.comp, Nat.succ_eq_add_one, List.getD_cons_succ]
      omega
    rw [e]
    have e0 : (((l.length + 1 : Nat)) : Int) - 1 - ((0 : Nat) : Int) + (b :: l).getD 0 0 = l.length + b := by simp
    rw [e0]
    unfold fromB
    by_cases h : 0 < (l.length : Int) + b
    · rw [if_pos h, List.filter_cons_of_pos (by simpa using h)]
      congr 1
    · rw [if_neg h, List.filter_cons_of_neg (by simpa using h)]
      exact ih
theorem fromT_length (bs : List Int) (n k : Nat) : (fromT bs n k).length ≤ k := by
  unfold fromT
  have := List.length_filter_le (fun x => decide (0 < x)) ((List.range k).map fun (i : Nat) => (n : Int) - 1 - i + bs.getD i 0)
  simpa using this

end
end Go.Proofs.YtimmjimeldejjaaGreatDoor
namespace Go.Proofs.YtimmjimeldejjaaGreatDoor
section
open Go.RowKit
set_option linter.unusedVariables false
set_option linter.unusedSimpArgs false
set_option maxRecDepth 20000

theorem tmod_nat (a b : Nat) : Int.tmod (a : Int) (b : Int) = ((a % b : Nat) : Int) := by
  rw [Int.natCast_emod]; exact Int.tmod_eq_emod_of_nonneg (by omega)

theorem cycBF {xs : List Int} (h : ¬ Cyc xs) : cycB xs = false := by
  cases hb : cycB xs with
  | false => rfl
  | true => exact absurd (cyc_iff.1 hb) h
theorem sum_toNat {xs : List Int} (h : Good xs) : ∃ s : Nat, xs.sum = s ∧ s ≤ 28 := by
  have := sum_nonneg h.1; have := h.2.2
  exact ⟨xs.sum.toNat, by omega, by omega⟩

end
end Go.Proofs.YtimmjimeldejjaaGreatDoor
namespace Go.Proofs.YtimmjimeldejjaaGreatDoor
section
open Go.RowKit
set_option linter.unusedVariables false
set_option linter.unusedSimpArgs false
set_option maxRecDepth 20000

end
end Go.Proofs.YtimmjimeldejjaaGreatDoor
namespace Go.Proofs.YtimmjimeldejjaaGreatDoor
section
open Go.RowKit
set_option linter.unusedVariables false
set_option linter.unusedSimpArgs false
set_option maxRecDepth 20000

/-! ### Where a list lies among lists -/
def PlaceIs (xss : List (List Int)) (ys : List Int) (r : Int) : Prop :=
  (r = -1 ∧ ys ∉ xss) ∨ ∃ i : Nat, r = i ∧ i < xss.length ∧ xss.getD i [] = ys ∧ ∀ j, j < i → xss.getD j [] ≠ ys
set_option maxHeartbeats 800000 in
theorem orPlace_any (ao bo : Option Addr) (n m cap cap' : Nat) (xss : List (List Int)) (ys : List Int) (w : World) (hx : RowsAt w ao n cap xss) (hy : IntsAt w bo m cap' ys) :
    Calls Tryz.prog 214 #[.slice ao n cap, .slice bo m cap'] w fun e w' => ∃ r : Int, e = .returned (.int .i64 r) ∧ PlaceIs xss ys r ∧ Below w.heap.size w w' := by
  have hn := hx.lenInt
  have hl := hx.length
  have Hl := Lib.hid hl; clear hl
  go_enter Tryz.func214, Tryz.ntmps214
  go_wp2
  go_loopw [9] (fun i wr => ∃ k : Nat, k ≤ n ∧ i = .int .i64 k ∧ (∀ j, j < k → xss.getD j [] ≠ ys) ∧ ∃ q, wr = w.drewN q) (fun i _ => n - (intOf i).toNat)
  case atStart => exact ⟨0, Nat.zero_le _, rfl, fun j hj => by omega, 0, rfl⟩
  case round =>
    obtain ⟨k, hk, rfl, hall, q, rfl⟩ := hrel
    by_cases hlt : k < n
    · obtain ⟨b, oo, rfl, hbl, hc⟩ := hx.cell k hlt
      obtain ⟨a, m2, c, hck, hrow⟩ := hc k hlt
      clear hc
      have hsame := l1Same_any bo a m m2 cap' c ys (xss.getD k []) (w.drewN q) (hy.drewN q) (hrow.drewN q)
      by_cases heq : ys = xss.getD k []
      · rw [decide_eq_true heq] at hsame
        have Hall := Lib.hid hall; clear hall
        have Hsame := Lib.hid hsame; clear hsame
        have Heq := Lib.hid heq; clear heq
        have Hrow := Lib.hid hrow; clear hrow
        go_wp2_with fail
        with_reducible refine (Hsame.out).mono ?_
        rintro e w2 ⟨rfl, q2, rfl⟩
        go_wp2_with fail
        go_ret
        exact ⟨_, rfl, .inr ⟨k, rfl, by rw [Hl.out]; exact hlt, Heq.out.symm, Hall.out⟩, belowDrewN (Below.refl _ _) _⟩
      · rw [decide_eq_false heq] at hsame
        have Hall := Lib.hid hall; clear hall
        have Hsame := Lib.hid hsame; clear hsame
        have Heq := Lib.hid heq; clear heq
        have Hrow := Lib.hid hrow; clear hrow
        go_wp2_with fail
        with_reducible refine (Hsame.out).mono ?_
        rintro e w2 ⟨rfl, q2, rfl⟩
        go_wp2_with fail
        go_roundw
        case rel =>
          refine ⟨k + 1, by omega, by go_num, fun j hj => ?_, _, rfl⟩
          by_cases hjk : j = k
          · subst hjk; exact fun e => Heq.out e.symm
          · exact Hall.out j (by omega)
        case measure => simp [intOf]; omega
    · obtain rfl : n = k := by omega
      go_wp2_with fail
      go_ret
      refine ⟨_, rfl, .inl ⟨rfl, fun hm => ?_⟩, belowDrewN (Below.refl _ _) _⟩
      obtain ⟨i, hi, e⟩ := List.getElem_of_mem hm
      refine hall i (by rw [← Hl.out]; exact hi) ?_
      rw [List.getD_eq_getElem?_getD, List.getElem?_eq_getElem hi]; exact e

/-! ### Tails and cycles -/
def lenOf : Value → Nat
  | .slice _ n _ => n
  | _ => 0
theorem place_first {xs : List Int} {j : Nat} {r : Int} (h : PlaceIs (runL xs j) (stepsL j xs) r) :
    (r = -1 ∧ ∀ i, i < j → stepsL i xs ≠ stepsL j xs) ∨ ∃ i : Nat, r = i ∧ i < j ∧ stepsL i xs = stepsL j xs := by
  rcases h with ⟨h1, h2⟩ | ⟨i, h1, h2, h3, h4⟩
  · exact .inl ⟨h1, fun i hi e => h2 (runL_mem.2 ⟨i, hi, e⟩)⟩
  · rw [runL_length] at h2
    rw [runL_getD _ _ _ h2] at h3
    exact .inr ⟨i, h1, h2, h3⟩
theorem runL_nodup_succ {xs : List Int} {j : Nat} (h : (runL xs j).Nodup) (hn : ∀ i, i < j → stepsL i xs ≠ stepsL j xs) : (runL xs (j + 1)).Nodup := by
  rw [runL_succ, List.nodup_append]
  refine ⟨h, by simp, fun a ha b hb => ?_⟩
  rw [List.mem_singleton.1 hb]
  obtain ⟨i, hi, e⟩ := runL_mem.1 ha
  rw [← e]
  exact hn i hi

set_option maxHeartbeats 1600000 in
theorem orTail_any (ao : Option Addr) (n cap : Nat) (xs : List Int) (w : World) (h : IntsAt w ao n cap xs) (hg : Good xs) :
    Calls Tryz.prog 184 #[.slice ao n cap] w fun e w' => ∃ a m c, e = .returned (.tuple #[.int .i64 (tailL xs), .slice a m c]) ∧ RowsR w.heap.size w'.heap.size w' a m c (cycL xs) ∧ Below w.heap.size w w' := by
  have hlen := hg.len
  have hl := h.length
  have hcp := l1Own_any ao n cap xs w h (by omega)
  have Hg := Lib.hid hg; clear hg
  have Hcp := Lib.hid hcp; clear hcp
  have Hl := Lib.hid hl; clear hl
  go_enter Tryz.func184, Tryz.ntmps184
  go_wp2_with fail
  with_reducible refine (Hcp.out).mono ?_
  rintro e w1 ⟨a1, c1, rfl, ho1, hb1⟩
  go_wp2_with fail
  go_loopw [4, 5] (fun p v wr => ∃ (j E : Nat) (a : Option Addr) (c : Nat) (a2 : Option Addr) (m2 c2 : Nat), p = .slice a j c ∧ v = .slice a2 m2 c2 ∧ w.heap.size ≤ E ∧ E ≤ wr.heap.size ∧ OwnRows w.heap.size E wr a j c (runL xs j) ∧ Own E wr.heap.size wr a2 m2 c2 (stepsL j xs) ∧ (runL xs j).Nodup ∧ Below w.heap.size w wr) (fun p _ _ => 3719 - lenOf p)
  case atStart => exact ⟨0, w.heap.size, none, 0, a1, n, c1, rfl, rfl, Nat.le_refl _, hb1.size, OwnRows.nil _ _ _, ho1, List.nodup_nil, hb1⟩
  case round =>
    obtain ⟨j, E, a, c, a2, m2, c2, rfl, rfl, hE1, hE2, hrows, hown, hnd, hb⟩ := hrel
    have hshort := runL_short Hg.out hnd
    have hG := stepsL_good Hg.out j
    have Hnd := Lib.hid hnd; clear hnd
    have HG := Lib.hid hG; clear hG
    go_wp2_with fail
    with_reducible refine (orPlace_any _ _ _ _ _ _ _ _ _ hrows.at hown.at).mono ?_
    rintro e w2 ⟨r, rfl, hpl, hb2⟩
    have hbw := belowTrans hb hb2 (Nat.le_refl _)
    have hrows2 := hrows.keep hb2
    have hown2 := (hown.keep hb2).mono (Nat.le_refl _) hb2.size
    have hs2 := hb2.size
    rcases place_first hpl with ⟨rfl, hne⟩ | ⟨i, rfl, hi, he⟩
    · have hnd2 := runL_nodup_succ Hnd.out hne
      have hsucc := runL_succ xs j
      have hshort2 := runL_short Hg.out hnd2
      have Hnd2 := Lib.hid hnd2; clear hnd2
      have Hsucc := Lib.hid hsucc; clear hsucc
      have Hne := Lib.hid hne; clear hne
      clear hrows hown hpl hb2 hb
      go_wp2_with (at_builtin; refine wpList_pushR w2 rfl _ _ rfl w.heap.size E _ j c _ rfl hrows2 (by omega) a2 m2 c2 E _ hown2 hE1 hown2.ge rfl (by omega) hbw.size ?_)
      intro a4 c4 w4 ho4 hc4
      have hb4 := hbw.trans (hrows2.chgBelow hc4 hbw.size)
      have hs4 := hc4.size
      have hnow := (hown2.chg hc4 (fun g h1 h2 h3 h4 => by
        obtain ⟨vs, hv1, _⟩ := hrows2.vals
        have := hv1.2 g h4
        omega)).at
      clear hc4 hown2 hrows2
      go_wp2_with fail
      with_reducible refine (piStep_any _ _ _ _ _ hnow HG.out).mono ?_
      rintro e w5 ⟨a5, m5, c5, rfl, ho5, hb5⟩
      have hs5 := hb5.size
      go_wp2_with fail
      go_roundw
      case rel => exact ⟨j + 1, w4.heap.size, a4, c4, a5, m5, c5, rfl, rfl, by omega, hs5, by rw [Hsucc.out]; exact ho4.keep hb5, ho5, Hnd2.out, belowTrans hb4 hb5 (Nat.le_refl _)⟩
      case measure => simp [lenOf]; omega
    · obtain ⟨hti, hjp⟩ := first_again Hg.out hi he Hnd.out
      have Hti := Lib.hid hti; clear hti
      have Hjp := Lib.hid hjp; clear hjp
      clear hrows hown hpl hb2 hb
      go_wp2_with fail
      with_reducible refine (orPlace_any _ _ _ _ _ _ _ _ _ hrows2.at hown2.at).mono ?_
      rintro e w3 ⟨r, rfl, hpl, hb3⟩
      have hbw3 := belowTrans hbw hb3 (Nat.le_refl _)
      have hrows3 := hrows2.keep hb3
      rcases place_first hpl with ⟨rfl, hne⟩ | ⟨i2, rfl, hi2, he2⟩
      · exact absurd he (hne i hi)
      · have hti2 := (first_again Hg.out hi2 he2 Hnd.out).1
        have hi0 : (0 : Int) ≤ (i2 : Int) := by omega
        have hrr := rowsFrom hrows3 i2 hi2
        have hcne : ¬ c = i2 := by have := hrows3.at.le; omega
        have hcd := cycL_drop Hg.out
        rw [← hti2] at hcd
        have hj2 : j = i2 + perL (endL xs) := by have := Hjp.out; omega
        rw [← hj2] at hcd
        rw [hcd] at hrr
        have hfin := hrr.mono (Nat.le_refl w.heap.size) (show E ≤ w3.heap.size by have := hb3.size; omega)
        have Hti2 := Lib.hid hti2; clear hti2
        have Hj2 := Lib.hid hj2; clear hj2
        have Hcd := Lib.hid hcd; clear hcd
        have Hrr := Lib.hid hrr; clear hrr
        have Hrows3 := Lib.hid hrows3; clear hrows3
        have Hpl := Lib.hid hpl; clear hpl
        have He2 := Lib.hid he2; clear he2
        have He := Lib.hid he; clear he
        have Hfin := Lib.hid hfin; clear hfin
        go_wp2_with fail
        go_quiet (fail)
        go_wp2_with fail
        go_ret2
        rw [← Hti2.out]
        exact ⟨_, _, _, rfl, Hfin.out.drewN _, belowDrewN hbw3 _⟩

def mTailOf (xs : List Int) : Int × Bool := (if goodB xs then (tailL xs : Int) else 0, goodB xs)
theorem mTail_yes {xs : List Int} (h : goodB xs = true) : mTailOf xs = ((tailL xs : Int), true) := by unfold mTailOf; rw [h]; rfl
theorem mTail_no {xs : List Int} (h : goodB xs = false) : mTailOf xs = (0, false) := by unfold mTailOf; rw [h]; rfl
def mCycleOf (xs : List Int) : List (List Int) × Bool := (if goodB xs then cycL xs else [], goodB xs)
theorem mCycle_yes {xs : List Int} (h : goodB xs = true) : mCycleOf xs = (cycL xs, true) := by unfold mCycleOf; rw [h]; rfl
theorem mCycle_no {xs : List Int} (h : goodB xs = false) : mCycleOf xs = ([], false) := by unfold mCycleOf; rw [h]; rfl
def mCycleLength (xs : List Int) : Int × Bool := (if goodB xs then ((cycL xs).length : Int) else 0, goodB xs)
theorem mCycleL_yes {xs : List Int} (h : goodB xs = true) : mCycleLength xs = (((cycL xs).length : Int), true) := by unfold mCycleLength; rw [h]; rfl
theorem mCycleL_no {xs : List Int} (h : goodB xs = false) : mCycleLength xs = (0, false) := by unfold mCycleLength; rw [h]; rfl
theorem cycL_length {xs : List Int} (hg : Good xs) : (cycL xs).length ≤ 8 := by
  unfold cycL
  rw [runL_length]
  have := (perL_spec (endL_good hg) (endL_cyc hg)).2.1
  have := hL_le (endL xs)
  omega
set_option maxHeartbeats 800000 in
theorem spec_TailOf (ao : Option Addr) (n cap : Nat) (xs : List Int) (w : World) (h : IntsAt w ao n cap xs) :
    Calls Tryz.prog 136 #[.slice ao n cap] w fun e w' => e = .returned (.tuple #[.int .i64 (mTailOf xs).1, .bool (mTailOf xs).2]) ∧ Below w.heap.size w w' := by
  cases hg : goodB xs
  · have hm := mTail_no hg
    have Hg := Lib.hid hg; clear hg
    have Hm := Lib.hid hm; clear hm
    go_enter Tryz.func136, Tryz.ntmps136
    go_wp2_with fail
    with_reducible refine (piGood_no _ _ _ _ _ h Hg.out).mono ?_
    rintro e w' ⟨rfl, rfl⟩
    go_wp2
    go_ret2
    rw [Hm.out]
    exact ⟨rfl, Below.refl _ _⟩
  · have hm := mTail_yes hg
    have hG := good_iff.1 hg
    have Hg := Lib.hid hg; clear hg
    have Hm := Lib.hid hm; clear hm
    have HG := Lib.hid hG; clear hG
    go_enter Tryz.func136, Tryz.ntmps136
    go_wp2_with fail
    with_reducible refine (piGood_yes _ _ _ _ _ h HG.out).mono ?_
    rintro e w' ⟨rfl, rfl⟩
    go_wp2_with fail
    with_reducible refine (orTail_any _ _ _ _ _ h HG.out).mono ?_
    rintro e w1 ⟨a1, m1, c1, rfl, hr1, hb1⟩
    go_wp2_with fail
    go_ret2
    rw [Hm.out]
    exact ⟨rfl, hb1⟩
set_option maxHeartbeats 800000 in
theorem spec_CycleLength (ao : Option Addr) (n cap : Nat) (xs : List Int) (w : World) (h : IntsAt w ao n cap xs) :
    Calls Tryz.prog 137 #[.slice ao n cap] w fun e w' => e = .returned (.tuple #[.int .i64 (mCycleLength xs).1, .bool (mCycleLength xs).2]) ∧ Below w.heap.size w w' := by
  cases hg : goodB xs
  · have hm := mCycleL_no hg
    have Hg := Lib.hid hg; clear hg
    have Hm := Lib.hid hm; clear hm
    go_enter Tryz.func137, Tryz.ntmps137
    go_wp2_with fail
    with_reducible refine (piGood_no _ _ _ _ _ h Hg.out).mono ?_
    rintro e w' ⟨rfl, rfl⟩
    go_wp2
    go_ret2
    rw [Hm.out]
    exact ⟨rfl, Below.refl _ _⟩
  · have hm := mCycleL_yes hg
    have hG := good_iff.1 hg
    have Hg := Lib.hid hg; clear hg
    have Hm := Lib.hid hm; clear hm
    have HG := Lib.hid hG; clear hG
    go_enter Tryz.func137, Tryz.ntmps137
    go_wp2_with fail
    with_reducible refine (piGood_yes _ _ _ _ _ h HG.out).mono ?_
    rintro e w' ⟨rfl, rfl⟩
    go_wp2_with fail
    with_reducible refine (orTail_any _ _ _ _ _ h HG.out).mono ?_
    rintro e w1 ⟨a1, m1, c1, rfl, hr1, hb1⟩
    have hl := hr1.length
    have Hl := Lib.hid hl; clear hl
    go_wp2_with fail
    go_ret2
    rw [Hm.out, Hl.out]
    exact ⟨rfl, hb1⟩
end
end Go.Proofs.YtimmjimeldejjaaGreatDoor
