/- Chapter 2: tails and cycles by the model. No condition. -/
import Derived.Test.YtdfmljkjidepeaaGreatDoorGo
import Derived.Test.YtdfmljkjidepeaaGreatDoorGi
import Derived.Test.YtdfmljkjidepeaaGreatDoorRowsR
namespace Go.Proofs.YtdfmljkjidepeaaGreatDoor
open Go.RowKit
set_option linter.unusedVariables false
set_option linter.unusedSimpArgs false
set_option maxRecDepth 20000

/-! ### Where a list lies among lists -/
def PlaceIs (xss : List (List Int)) (ys : List Int) (r : Int) : Prop :=
  (r = -1 ∧ ys ∉ xss) ∨ ∃ i : Nat, r = i ∧ i < xss.length ∧ xss.getD i [] = ys ∧ ∀ j, j < i → xss.getD j [] ≠ ys
set_option maxHeartbeats 800000 in
theorem orPlace_any (ao bo : Option Addr) (n m cap cap' : Nat) (xss : List (List Int)) (ys : List Int) (w : World) (hx : RowsAt w ao n cap xss) (hy : IntsAt w bo m cap' ys) :
    Calls Tryz.prog 45 #[.slice ao n cap, .slice bo m cap'] w fun e w' => ∃ r : Int, e = .returned (.int .i64 r) ∧ PlaceIs xss ys r ∧ Below w.heap.size w w' := by
  have hn := hx.lenInt
  have hl := hx.length
  have Hl := Lib.hid hl; clear hl
  go_enter Tryz.func45, Tryz.ntmps45
  go_wp2
  go_loopw [9] (fun i wr => ∃ k : Nat, k ≤ n ∧ i = .int .i64 k ∧ (∀ j, j < k → xss.getD j [] ≠ ys) ∧ ∃ q, wr = w.drewN q) (fun i _ => n - (intOf i).toNat)
  case atStart => exact ⟨0, Nat.zero_le _, rfl, fun j hj => by omega, 0, rfl⟩
  case round =>
    obtain ⟨k, hk, rfl, hall, q, rfl⟩ := hrel
    by_cases hlt : k < n
    · obtain ⟨b, oo, rfl, hbl, hc⟩ := hx.cell k hlt
      obtain ⟨a, m2, c, hck, hrow⟩ := hc k hlt
      clear hc
      have hsame := l1Same_any bo a m m2 cap' c ys (xss.getD k []) (w.drewN q) (hy.drewN q) (hrow.drewN q)
      by_cases heq : ys = xss.getD k []
      · rw [decide_eq_true heq] at hsame
        have Hall := Lib.hid hall; clear hall
        have Hsame := Lib.hid hsame; clear hsame
        have Heq := Lib.hid heq; clear heq
        have Hrow := Lib.hid hrow; clear hrow
        go_wp2_with fail
        with_reducible refine (Hsame.out).mono ?_
        rintro e w2 ⟨rfl, q2, rfl⟩
        go_wp2_with fail
        go_ret
        exact ⟨_, rfl, .inr ⟨k, rfl, by rw [Hl.out]; exact hlt, Heq.out.symm, Hall.out⟩, belowDrewN (Below.refl _ _) _⟩
      · rw [decide_eq_false heq] at hsame
        have Hall := Lib.hid hall; clear hall
        have Hsame := Lib.hid hsame; clear hsame
        have Heq := Lib.hid heq; clear heq
        have Hrow := Lib.hid hrow; clear hrow
        go_wp2_with fail
        with_reducible refine (Hsame.out).mono ?_
        rintro e w2 ⟨rfl, q2, rfl⟩
        go_wp2_with fail
        go_roundw
        case rel =>
          refine ⟨k + 1, by omega, by go_num, fun j hj => ?_, _, rfl⟩
          by_cases hjk : j = k
          · subst hjk; exact fun e => Heq.out e.symm
          · exact Hall.out j (by omega)
        case measure => simp [intOf]; omega
    · obtain rfl : n = k := by omega
      go_wp2_with fail
      go_ret
      refine ⟨_, rfl, .inl ⟨rfl, fun hm => ?_⟩, belowDrewN (Below.refl _ _) _⟩
      obtain ⟨i, hi, e⟩ := List.getElem_of_mem hm
      refine hall i (by rw [← Hl.out]; exact hi) ?_
      rw [List.getD_eq_getElem?_getD, List.getElem?_eq_getElem hi]; exact e

/-! ### Tails and cycles -/
def lenOf : Value → Nat
  | .slice _ n _ => n
  | _ => 0
theorem place_first {xs : List Int} {j : Nat} {r : Int} (h : PlaceIs (runL xs j) (stepsL j xs) r) :
    (r = -1 ∧ ∀ i, i < j → stepsL i xs ≠ stepsL j xs) ∨ ∃ i : Nat, r = i ∧ i < j ∧ stepsL i xs = stepsL j xs := by
  rcases h with ⟨h1, h2⟩ | ⟨i, h1, h2, h3, h4⟩
  · exact .inl ⟨h1, fun i hi e => h2 (runL_mem.2 ⟨i, hi, e⟩)⟩
  · rw [runL_length] at h2
    rw [runL_getD _ _ _ h2] at h3
    exact .inr ⟨i, h1, h2, h3⟩
theorem runL_nodup_succ {xs : List Int} {j : Nat} (h : (runL xs j).Nodup) (hn : ∀ i, i < j → stepsL i xs ≠ stepsL j xs) : (runL xs (j + 1)).Nodup := by
  rw [runL_succ, List.nodup_append]
  refine ⟨h, by simp, fun a ha b hb => ?_⟩
  rw [List.mem_singleton.1 hb]
  obtain ⟨i, hi, e⟩ := runL_mem.1 ha
  rw [← e]
  exact hn i hi

def mTailOf (xs : List Int) : Int × Bool := (if goodB xs then (tailL xs : Int) else 0, goodB xs)
theorem mTail_yes {xs : List Int} (h : goodB xs = true) : mTailOf xs = ((tailL xs : Int), true) := by unfold mTailOf; rw [h]; rfl
theorem mTail_no {xs : List Int} (h : goodB xs = false) : mTailOf xs = (0, false) := by unfold mTailOf; rw [h]; rfl
def mCycleOf (xs : List Int) : List (List Int) × Bool := (if goodB xs then cycL xs else [], goodB xs)
theorem mCycle_yes {xs : List Int} (h : goodB xs = true) : mCycleOf xs = (cycL xs, true) := by unfold mCycleOf; rw [h]; rfl
theorem mCycle_no {xs : List Int} (h : goodB xs = false) : mCycleOf xs = ([], false) := by unfold mCycleOf; rw [h]; rfl
def mCycleLength (xs : List Int) : Int × Bool := (if goodB xs then ((cycL xs).length : Int) else 0, goodB xs)
theorem mCycleL_yes {xs : List Int} (h : goodB xs = true) : mCycleLength xs = (((cycL xs).length : Int), true) := by unfold mCycleLength; rw [h]; rfl
theorem mCycleL_no {xs : List Int} (h : goodB xs = false) : mCycleLength xs = (0, false) := by unfold mCycleLength; rw [h]; rfl
theorem cycL_length {xs : List Int} (hg : Good xs) : (cycL xs).length ≤ 8 := by
  unfold cycL
  rw [runL_length]
  have := (perL_spec (endL_good hg) (endL_cyc hg)).2.1
  have := hL_le (endL xs)
  omega
theorem runL_good {xs : List Int} (hg : Good xs) (n : Nat) : ∀ ys ∈ runL xs n, Good ys := by
  intro ys hy
  obtain ⟨i, _, rfl⟩ := runL_mem.1 hy
  exact stepsL_good hg i
theorem cycL_good {xs : List Int} (hg : Good xs) : ∀ ys ∈ cycL xs, Good ys := runL_good (endL_good hg) _
theorem mCycleOf_bound (xs : List Int) : (mCycleOf xs).1.length ≤ 1048576 ∧ total (mCycleOf xs).1 ≤ 1048576 := by
  cases hg : goodB xs
  · rw [mCycle_no hg]; simp [total]
  · rw [mCycle_yes hg]
    have hG := good_iff.1 hg
    have h1 := cycL_length hG
    have h2 := total_le (cycL xs) 28 (fun ys hy => (cycL_good hG ys hy).len)
    refine ⟨by show (cycL xs).length ≤ _; omega, ?_⟩
    show total (cycL xs) ≤ _
    omega

end Go.Proofs.YtdfmljkjidepeaaGreatDoor
