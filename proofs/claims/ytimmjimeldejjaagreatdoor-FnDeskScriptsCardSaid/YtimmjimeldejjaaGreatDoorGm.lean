/- Several texts in one: Play, RowM, RowA, RowB, RowC. No condition. -/
import Derived.Test.YtimmjimeldejjaaGreatDoorGi
import Derived.Test.YtimmjimeldejjaaGreatDoorGa
import Derived.Test.YtimmjimeldejjaaGreatDoorGh
import Derived.Test.YtimmjimeldejjaaGreatDoorGk
import Derived.Test.YtimmjimeldejjaaGreatDoorGo
namespace Go.Proofs.YtimmjimeldejjaaGreatDoor
section
open Go.RowKit
set_option linter.unusedVariables false
set_option linter.unusedSimpArgs false

end
end Go.Proofs.YtimmjimeldejjaaGreatDoor
namespace Go.Proofs.YtimmjimeldejjaaGreatDoor
section
set_option linter.unusedVariables false
set_option linter.unusedSimpArgs false

def rowsL : Nat → List Int → List Int
  | 0, xs => xs
  | k + 1, xs => rowStepL (rowsL k xs)
theorem rowsL_add (k : Nat) (xs : List Int) : rowsL (k + 1) xs = rowStepL (rowsL k xs) := rfl
theorem rowsL_row {xs : List Int} (h : RowOk xs) (k : Nat) : RowOk (rowsL k xs) := by
  induction k with
  | zero => exact h
  | succ k ih => exact rowStepL_row ih
theorem row_far {xs : List Int} (h : 28 < xs.length) : rowB xs = false := by
  unfold rowB; rw [decide_eq_false_iff_not]; intro hh; have := hh.len; omega
def mStepRow (xs : List Int) : List Int × Bool := (if rowB xs then rowStepL xs else [], rowB xs)
theorem mStepRow_yes {xs : List Int} (h : rowB xs = true) : mStepRow xs = (rowStepL xs, true) := by unfold mStepRow; rw [h]; rfl
def mRowSteps (xs : List Int) (k : Int) : List Int × Bool := if rowB xs = true ∧ 0 ≤ k ∧ k ≤ 1000 then (rowsL k.toNat xs, true) else ([], false)
theorem mRowS_yes {xs : List Int} {k : Nat} (h : rowB xs = true) (hk : k ≤ 1000) : mRowSteps xs k = (rowsL k xs, true) := by unfold mRowSteps; rw [if_pos ⟨h, by omega, by omega⟩]; rfl
theorem mRowS_no1 {xs : List Int} {k : Int} (h : rowB xs = false) : mRowSteps xs k = ([], false) := by unfold mRowSteps; rw [if_neg (by rw [h]; simp)]
theorem mRowS_no2 {xs : List Int} {k : Int} (h : ¬ (0 ≤ k ∧ k ≤ 1000)) : mRowSteps xs k = ([], false) := by unfold mRowSteps; rw [if_neg (fun hh => h hh.2)]
def mSortRow (xs : List Int) : List Int × Bool := (if rowB xs then sortD xs else [], rowB xs)
theorem mSortR_yes {xs : List Int} (h : rowB xs = true) : mSortRow xs = (sortD xs, true) := by unfold mSortRow; rw [h]; rfl
theorem mSortR_no {xs : List Int} (h : rowB xs = false) : mSortRow xs = ([], false) := by unfold mSortRow; rw [h]; rfl
/-! ### Numbers of rows, ways to choose -/
/-! ### Orbits, walked to 1000 steps -/
/-- a row that was met before -/
def metR (xs : List Int) (j : Nat) : Option Nat := (List.range j).find? fun i => decide (rowsL i xs = rowsL j xs)
theorem metR_some {xs : List Int} {i j : Nat} (hi : i < j) (he : rowsL i xs = rowsL j xs) (hf : ∀ k, k < i → rowsL k xs ≠ rowsL j xs) : metR xs j = some i := by
  unfold metR
  rw [List.find?_eq_some_iff_getElem]
  refine ⟨by simpa using he, i, by simpa using hi, by simp, fun k hk => ?_⟩
  simpa using hf k hk
theorem metR_none {xs : List Int} {j : Nat} (hf : ∀ k, k < j → rowsL k xs ≠ rowsL j xs) : metR xs j = none := by
  unfold metR
  rw [List.find?_eq_none]
  intro k hk
  simpa using hf k (List.mem_range.1 hk)
/-- the first place at most 1000 at which a row comes again -/
def againR (xs : List Int) : Option Nat := (List.range 1001).find? fun j => (metR xs j).isSome
def orbR (xs : List Int) : Int × Int × Bool := match againR xs with
  | none => (0, 0, false)
  | some j => (((metR xs j).getD 0 : Nat), ((j - (metR xs j).getD 0 : Nat) : Int), true)
theorem orbR_some {xs : List Int} {i j : Nat} (hj : j ≤ 1000) (hi : i < j) (hm : metR xs j = some i) (hn : ∀ k, k < j → metR xs k = none) : orbR xs = ((i : Int), (j : Int) - (i : Int), true) := by
  have : againR xs = some j := by
    unfold againR
    rw [List.find?_eq_some_iff_getElem]
    refine ⟨by rw [hm]; rfl, j, by simp; omega, by simp, fun k hk => ?_⟩
    simp [hn k hk]
  unfold orbR
  rw [this]
  simp only [hm, Option.getD_some]
  rw [Int.ofNat_sub (Nat.le_of_lt hi)]
theorem orbR_none {xs : List Int} (hn : ∀ k, k < 1001 → metR xs k = none) : orbR xs = (0, 0, false) := by
  have : againR xs = none := by
    unfold againR
    rw [List.find?_eq_none]
    intro k hk
    simp [hn k (List.mem_range.1 hk)]
  unfold orbR
  rw [this]
def mRowOrbit (xs : List Int) : Int × Int × Bool := if rowB xs then orbR xs else (0, 0, false)
theorem mRO_yes {xs : List Int} (h : rowB xs = true) : mRowOrbit xs = orbR xs := if_pos h
theorem mRO_no {xs : List Int} (h : rowB xs = false) : mRowOrbit xs = (0, 0, false) := if_neg (by rw [h]; simp)
/-! ### How many rows have the same piles -/
end
end Go.Proofs.YtimmjimeldejjaaGreatDoor
namespace Go.Proofs.YtimmjimeldejjaaGreatDoor
section
open Go.RowKit
set_option linter.unusedVariables false
set_option linter.unusedSimpArgs false
set_option maxRecDepth 20000

set_option maxHeartbeats 400000 in
theorem piSumB_any (ao : Option Addr) (n cap : Nat) (xs : List Int) (w : World) (h : IntsAt w ao n cap xs) (hn28 : n ≤ 28) (hg : ∀ x ∈ xs, 1 ≤ x ∧ x ≤ 28) :
    Calls Tryz.prog 85 #[.slice ao n cap] w fun e w' => e = .returned (.int .i64 xs.sum) ∧ w = w' := by
  have hn := h.lenInt
  go_enter Tryz.func85, Tryz.ntmps85
  go_wp2
  go_loop [3, 8] (fun s i => ∃ k : Nat, ∃ t : Int, k ≤ n ∧ i = .int .i64 k ∧ s = .int .i64 t ∧ (xs.take k).sum = t ∧ 0 ≤ t ∧ t ≤ 28 * k) (fun _ i => n - (intOf i).toNat)
  case atStart => exact ⟨0, 0, Nat.zero_le _, rfl, rfl, rfl, by omega, by omega⟩
  case round =>
    obtain ⟨k, t, hk, rfl, rfl, ht, ht0, ht1⟩ := hrel
    have Ht := Lib.hid ht; clear ht
    by_cases hlt : k < n
    · obtain ⟨b, o, rfl, hb, hc⟩ := h.cell k hlt
      have hck := hc k hlt
      clear hc
      generalize hx : xs.getD k 0 = x at hck
      have Hx := Lib.hid hx; clear hx
      have hm := hg _ (getD_mem Hx.out hlt h.length)
      have e := take_snoc Hx.out hlt h.length
      have e2 : (xs.take (k + 1)).sum = t + x := by rw [e, List.sum_append, Ht.out]; simp
      have E2 := Lib.hid e2; clear e2
      have Hg := Lib.hid hg; clear hg
      clear e h
      go_wp2
      go_round
      case rel => exact ⟨k + 1, t + x, by omega, by go_num, rfl, E2.out, by omega, by omega⟩
      case measure => simp [intOf]; omega
    · go_wp2
      go_ret
      obtain rfl : n = k := by omega
      have hh := Ht.out
      rw [take_all h.length] at hh
      exact ⟨by first | rfl | (rw [hh]; rfl), rfl⟩

set_option maxHeartbeats 1000000 in
theorem roGood_any (ao : Option Addr) (n cap : Nat) (xs : List Int) (w : World) (h : IntsAt w ao n cap xs) :
    Calls Tryz.prog 59 #[.slice ao n cap] w fun e w' => e = .returned (.bool (rowB xs)) ∧ w = w' := by
  have hn := h.lenInt
  by_cases hlen : 28 < n
  · have hbad : rowB xs = false := row_far (by rw [h.length]; exact hlen)
    go_enter Tryz.func59, Tryz.ntmps59
    go_wp2
    go_ret
    exact ⟨by first | rfl | (rw [hbad]; rfl), rfl⟩
  by_cases hall : ∀ x ∈ xs, 1 ≤ x ∧ x ≤ 28
  · have hd : decide (∀ x ∈ xs, 1 ≤ x ∧ x ≤ 28) = true := decide_eq_true hall
    have hfin : rowB xs = decide (xs.sum ≤ 28) := by
      unfold rowB
      rw [decide_eq_decide]
      exact ⟨fun h => h.2, fun h' => ⟨fun x hx => (hall x hx).1, h'⟩⟩
    have hc1 := l1All_any ao n cap xs 1 28 w h
    rw [hd] at hc1
    have hc2 := piSumB_any ao n cap xs w h (by omega) hall
    generalize xs.sum = S at *
    have Hall := Lib.hid hall; clear hall
    have Hc1 := Lib.hid hc1; clear hc1
    have Hc2 := Lib.hid hc2; clear hc2
    have Hfin := Lib.hid hfin; clear hfin
    have Hd := Lib.hid hd; clear hd
    go_enter Tryz.func59, Tryz.ntmps59
    go_wp2_with fail
    with_reducible refine (Hc1.out).mono ?_
    rintro e w' ⟨rfl, rfl⟩
    go_wp2_with fail
    with_reducible refine (Hc2.out).mono ?_
    rintro e w' ⟨rfl, rfl⟩
    go_wp2
    go_ret
    exact ⟨by rw [Hfin.out]; rfl, rfl⟩
  · have hd : decide (∀ x ∈ xs, 1 ≤ x ∧ x ≤ 28) = false := decide_eq_false hall
    have hbad : rowB xs = false := by
      unfold rowB; rw [decide_eq_false_iff_not]
      intro hh
      exact hall fun x hx => RowOk.mem hh hx
    have hc1 := l1All_any ao n cap xs 1 28 w h
    rw [hd] at hc1
    have Hall := Lib.hid hall; clear hall
    have Hbad := Lib.hid hbad; clear hbad
    have Hc1 := Lib.hid hc1; clear hc1
    have Hd := Lib.hid hd; clear hd
    go_enter Tryz.func59, Tryz.ntmps59
    go_wp2_with fail
    with_reducible refine (Hc1.out).mono ?_
    rintro e w' ⟨rfl, rfl⟩
    go_wp2
    go_ret
    exact ⟨by first | rfl | (rw [Hbad.out]; rfl), rfl⟩
theorem roGood_yes (ao : Option Addr) (n cap : Nat) (xs : List Int) (w : World) (h : IntsAt w ao n cap xs) (hg : RowOk xs) :
    Calls Tryz.prog 59 #[.slice ao n cap] w fun e w' => e = .returned (.bool true) ∧ w = w' := by
  have := roGood_any ao n cap xs w h; rw [row_iff.2 hg] at this; exact this
theorem roGood_no (ao : Option Addr) (n cap : Nat) (xs : List Int) (w : World) (h : IntsAt w ao n cap xs) (hg : rowB xs = false) :
    Calls Tryz.prog 59 #[.slice ao n cap] w fun e w' => e = .returned (.bool false) ∧ w = w' := by
  have := roGood_any ao n cap xs w h; rw [hg] at this; exact this
set_option maxHeartbeats 1600000 in
theorem roStep_any (ao : Option Addr) (n cap : Nat) (xs : List Int) (w : World) (h : IntsAt w ao n cap xs) (hg : RowOk xs) :
    Calls Tryz.prog 138 #[.slice ao n cap] w fun e w' => ∃ ao' n' cap', e = .returned (.slice ao' n' cap') ∧ Own w.heap.size w'.heap.size w' ao' n' cap' (rowStepL xs) ∧ Below w.heap.size w w' := by
  have hlen := hg.len
  have hl0 := h.length
  by_cases hz : n = 0
  · have hxs : xs = [] := List.eq_nil_of_length_eq_zero (by omega)
    subst hz
    subst hxs
    go_enter Tryz.func138, Tryz.ntmps138
    go_wp2
    go_ret
    exact ⟨none, 0, 0, rfl, Own.nil _ _ _, Below.refl _ _⟩
  · have hn : (n : Int) ≤ 28 := by omega
    have hne : ((n : Int) == 0) = false := by simp; omega
    have hxs : xs ≠ [] := fun e => hz (by rw [← hl0, e]; rfl)
    have hsg := Own.single w (n : Int)
    have hba := belowAlloc w (.cells #[.int .i64 (n : Int)] 3)
    have Hxs := Lib.hid hxs; clear hxs
    have Hg := Lib.hid hg; clear hg
    have Hl0 := Lib.hid hl0; clear hl0
    have Hsg := Lib.hid hsg; clear hsg
    have Hba := Lib.hid hba; clear hba
    go_enter Tryz.func138, Tryz.ntmps138
    go_wp2
    go_loopw [3, 14] (fun v i wr => ∃ (k : Nat) (a : Option Addr) (m c : Nat), k ≤ n ∧ i = .int .i64 k ∧ v = .slice a m c ∧ Own w.heap.size wr.heap.size wr a m c ((n : Int) :: lowL (xs.take k)) ∧ Below w.heap.size w wr) (fun _ i _ => n - (intOf i).toNat)
    case atStart => exact ⟨0, _, _, _, Nat.zero_le _, rfl, rfl, Hsg.out, Hba.out⟩
    case round =>
      obtain ⟨k, a, m, c, hk, rfl, rfl, hown, hb⟩ := hrel
      have hm := hown.length
      have hml := lowL_length (xs.take k)
      have htl : (xs.take k).length ≤ 28 := by rw [List.length_take]; omega
      rw [List.length_cons] at hm
      have Hm := Lib.hid hm; clear hm
      by_cases hlt : k < n
      · have h1 := h.keep hb
        obtain ⟨b, oo, rfl, hbl, hc⟩ := h1.cell k hlt
        have hck := hc k hlt
        clear hc h1
        generalize hx : xs.getD k 0 = x at hck
        have hxm := Hg.out.mem (getD_mem hx hlt Hl0.out)
        have e := lowL_snoc (xs.take k) x
        rw [← take_snoc hx hlt Hl0.out] at e
        have hm28 : m ≤ 29 := by have := Hm.out; omega
        have Hx := Lib.hid hx; clear hx
        by_cases hx1 : 1 < x
        · rw [if_pos hx1] at e
          have E := Lib.hid e; clear e
          go_wp2_with (at_builtin; refine wpList_push wr rfl _ _ rfl w.heap.size wr.heap.size a m c _ rfl hown _ rfl (by omega) hb.size ?_)
          intro ao2 cap2 w2 ho2 hc2
          have hb2 := hown.chgBelow hc2 hb.size
          clear hown
          go_wp2
          go_roundw
          case rel => exact ⟨k + 1, ao2, _, cap2, by omega, by go_num, rfl, by rw [E.out]; exact ho2, hb.trans hb2⟩
          case measure => simp [intOf]; omega
        · rw [if_neg hx1, List.append_nil] at e
          have E := Lib.hid e; clear e
          go_wp2
          go_roundw
          case rel => exact ⟨k + 1, a, m, c, by omega, by go_num, rfl, by rw [E.out]; exact hown, hb⟩
          case measure => simp [intOf]; omega
      · obtain rfl : n = k := by omega
        rw [take_all Hl0.out] at hown
        go_wp2
        go_ret
        refine ⟨_, _, _, rfl, ?_, hb⟩
        rw [rowStepL_cons Hxs.out, Hl0.out]
        exact hown

/-! ### Sorted -/
set_option maxHeartbeats 800000 in
theorem roSort_any (ao : Option Addr) (n cap : Nat) (xs : List Int) (w : World) (h : IntsAt w ao n cap xs) (hn : n ≤ 28) :
    Calls Tryz.prog 182 #[.slice ao n cap] w fun e w' => ∃ ao' n' cap', e = .returned (.slice ao' n' cap') ∧ Own w.heap.size w'.heap.size w' ao' n' cap' (sortD xs) ∧ Below w.heap.size w w' := by
  have hl := h.length
  have Hl := Lib.hid hl; clear hl
  go_enter Tryz.func182, Tryz.ntmps182
  go_wp2_with fail
  go_loopw [3, 8] (fun v i wr => ∃ (k : Nat) (a : Option Addr) (m c : Nat), k ≤ n ∧ i = .int .i64 k ∧ v = .slice a m c ∧ Own w.heap.size wr.heap.size wr a m c (sortD (xs.take k)) ∧ Below w.heap.size w wr) (fun _ i _ => n - (intOf i).toNat)
  case atStart => exact ⟨0, none, 0, 0, Nat.zero_le _, rfl, rfl, by rw [List.take_zero, sortD_nil]; exact Own.nil _ _ _, Below.refl _ _⟩
  case round =>
    obtain ⟨k, a, m, c, hk, rfl, rfl, hown, hb⟩ := hrel
    have hm := hown.length
    rw [sortD_length, List.length_take, Hl.out] at hm
    by_cases hlt : k < n
    · have h1 := h.keep hb
      obtain ⟨b, oo, rfl, hbl, hc⟩ := h1.cell k hlt
      have hck := hc k hlt
      clear hc h1
      generalize hx : xs.getD k 0 = x at hck
      have e := take_snoc hx hlt Hl.out
      have hcon := piPut_any a m c _ x wr hown.at (sortD_sorted _) (by omega)
      have e2 : sortD (sortD (xs.take k) ++ [x]) = sortD (xs.take (k + 1)) := by
        rw [e]; exact sortD_perm_eq ((sortD_perm _).append_right _)
      rw [e2] at hcon
      have Hx := Lib.hid hx; clear hx
      have E := Lib.hid e; clear e
      have E2 := Lib.hid e2; clear e2
      have Hcon := Lib.hid hcon; clear hcon
      have Hm := Lib.hid hm; clear hm
      go_wp2_with fail
      with_reducible refine (Hcon.out).mono ?_
      rintro e w2 ⟨a2, m2, c2, rfl, ho2, hb2⟩
      go_wp2
      go_roundw
      case rel => exact ⟨k + 1, a2, m2, c2, by omega, by go_num, rfl, ho2.mono hb.size (Nat.le_refl _), belowTrans hb hb2 (Nat.le_refl _)⟩
      case measure => simp [intOf]; omega
    · obtain rfl : n = k := by omega
      rw [take_all Hl.out] at hown
      go_wp2
      go_ret
      exact ⟨_, _, _, rfl, hown, hb⟩
theorem spec_SortRow (ao : Option Addr) (n cap : Nat) (xs : List Int) (w : World) (h : IntsAt w ao n cap xs) :
    Calls Tryz.prog 132 #[.slice ao n cap] w fun e w' => ∃ ao' n' cap', e = .returned (.tuple #[.slice ao' n' cap', .bool (mSortRow xs).2]) ∧ Own w.heap.size w'.heap.size w' ao' n' cap' (mSortRow xs).1 ∧ Below w.heap.size w w' := by
  cases hg : rowB xs
  · have hm := mSortR_no hg
    have Hg := Lib.hid hg; clear hg
    have Hm := Lib.hid hm; clear hm
    go_enter Tryz.func132, Tryz.ntmps132
    go_wp2_with fail
    with_reducible refine (roGood_no _ _ _ _ _ h Hg.out).mono ?_
    rintro e w' ⟨rfl, rfl⟩
    go_wp2
    go_ret2
    rw [Hm.out]
    exact ⟨none, 0, 0, rfl, Own.nil _ _ _, Below.refl _ _⟩
  · have hm := mSortR_yes hg
    have hG := row_iff.1 hg
    have hcon := roSort_any ao n cap xs w h (by rw [← h.length]; exact hG.len)
    have Hg := Lib.hid hg; clear hg
    have Hm := Lib.hid hm; clear hm
    have HG := Lib.hid hG; clear hG
    have Hcon := Lib.hid hcon; clear hcon
    go_enter Tryz.func132, Tryz.ntmps132
    go_wp2_with fail
    with_reducible refine (roGood_yes _ _ _ _ _ h HG.out).mono ?_
    rintro e w' ⟨rfl, rfl⟩
    go_wp2_with fail
    with_reducible refine (Hcon.out).mono ?_
    rintro e w2 ⟨a2, m2, c2, rfl, ho2, hb2⟩
    go_wp2
    go_ret2
    rw [Hm.out]
    exact ⟨_, _, _, rfl, ho2, hb2⟩
set_option maxHeartbeats 800000 in
theorem impl_SortRow (ao : Option Addr) (n cap : Nat) (xs : List Int) (w : World) (h : IntsAt w ao n cap xs) :
    Calls Tryz.prog 105 #[.slice ao n cap] w fun e w' => ∃ ao' n' cap', e = .returned (.tuple #[.slice ao' n' cap', .bool (mSortRow xs).2]) ∧ Own w.heap.size w'.heap.size w' ao' n' cap' (mSortRow xs).1 ∧ Below w.heap.size w w' := by
  cases hg : rowB xs
  · have hm := mSortR_no hg
    have Hg := Lib.hid hg; clear hg
    have Hm := Lib.hid hm; clear hm
    go_enter Tryz.func105, Tryz.ntmps105
    go_wp2_with fail
    with_reducible refine (isRow_no _ _ _ _ _ h Hg.out).mono ?_
    rintro e w' ⟨rfl, rfl⟩
    go_wp2
    go_ret2
    rw [Hm.out]
    exact ⟨none, 0, 0, rfl, Own.nil _ _ _, Below.refl _ _⟩
  · have hm := mSortR_yes hg
    have hG := row_iff.1 hg
    have hr := rowsAt_one h
    have hcon2 := inOrder_any _ _ _ _ _ hr (by simp only [List.flatten_cons, List.flatten_nil, List.append_nil]; have := hG.len; omega) (by
      intro x hx
      simp only [List.flatten_cons, List.flatten_nil, List.append_nil] at hx
      have := hG.mem hx
      omega)
    simp only [List.flatten_cons, List.flatten_nil, List.append_nil] at hcon2
    have hal := belowAlloc w (.cells #[.slice ao n cap] 24)
    have Hg := Lib.hid hg; clear hg
    have Hm := Lib.hid hm; clear hm
    have HG := Lib.hid hG; clear hG
    have Hcon2 := Lib.hid hcon2; clear hcon2
    have Hr := Lib.hid hr; clear hr
    have Hal := Lib.hid hal; clear hal
    go_enter Tryz.func105, Tryz.ntmps105
    go_wp2_with fail
    with_reducible refine (isRow_yes _ _ _ _ _ h HG.out).mono ?_
    rintro e w' ⟨rfl, rfl⟩
    go_wp2_with fail
    with_reducible refine (Hcon2.out).mono ?_
    rintro e w2 ⟨a2, m2, c2, rfl, ho2, hb2⟩
    go_wp2
    go_ret2
    rw [Hm.out]
    exact ⟨_, _, _, rfl, ho2.mono (by simp) (Nat.le_refl _), belowTrans Hal.out hb2 (Nat.le_refl _)⟩
end
end Go.Proofs.YtimmjimeldejjaaGreatDoor
namespace Go.Proofs.YtimmjimeldejjaaGreatDoor
section
open Go.RowKit
set_option linter.unusedVariables false
set_option linter.unusedSimpArgs false
set_option maxRecDepth 20000

/-! ### Ways to choose -/
end
end Go.Proofs.YtimmjimeldejjaaGreatDoor
namespace Go.Proofs.YtimmjimeldejjaaGreatDoor
section
open Go.RowKit
set_option linter.unusedVariables false
set_option linter.unusedSimpArgs false
set_option maxRecDepth 20000

/-- rows behind a spine: each one lies below R or was made here -/
structure RowsB (R B E : Nat) (w : World) (vs : List Value) (xss : List (List Int)) : Prop where
  length : vs.length = xss.length
  row : ∀ i, i < xss.length → ∃ a m c, vs.getD i undef = .slice a m c ∧ IntsAt w a m c (xss.getD i []) ∧ ((0 < m → ∀ b o, a = some ⟨b, o, none⟩ → b < R) ∨ Own B E w a m c (xss.getD i []))
theorem RowsB.keep {R B E w w' vs xss} (h : RowsB R B E w vs xss) (hb : Below w.heap.size w w') : RowsB R B E w' vs xss :=
  ⟨h.length, fun i hi => by
    obtain ⟨a, m, c, e, h1, h2⟩ := h.row i hi
    exact ⟨a, m, c, e, h1.keep hb, h2.imp id (fun h => h.keep hb)⟩⟩
theorem RowsB.mono {R B E E' w vs xss} (h : RowsB R B E w vs xss) (hE : E ≤ E') : RowsB R B E' w vs xss :=
  ⟨h.length, fun i hi => by
    obtain ⟨a, m, c, e, h1, h2⟩ := h.row i hi
    exact ⟨a, m, c, e, h1, h2.imp id (fun h => h.mono (Nat.le_refl _) hE)⟩⟩
theorem RowsB.chgSpine {R B E w w' vs xss B' E' ao n cap us} (h : RowsB R B E w vs xss) (k : OwnRow B' E' w 24 ao n cap us) (hR : R ≤ B') (hc : Chg (fun q => (Value.slice ao n cap).ownBlock = some q) w w') : RowsB R B E w' vs xss :=
  ⟨h.length, fun i hi => by
    obtain ⟨a, m, c, e, h1, h2⟩ := h.row i hi
    rcases h2 with h2 | h2
    · by_cases hm : m = 0
      · exact ⟨a, m, c, e, ⟨h1.length, h1.le, h1.max, h1.isNil, fun j hj => by omega⟩, .inl h2⟩
      refine ⟨a, m, c, e, h1.chg hc (fun b o e1 hs => ?_), .inl h2⟩
      have := h2 (by omega) b o e1
      rcases k.cases with ⟨rfl, _⟩ | ⟨g, rfl, hg, _⟩
      · simp [Value.ownBlock] at hs
      · simp [Value.ownBlock] at hs; omega
    · have h3 : Own B E w' a m c (xss.getD i []) := h2.chg hc (fun g _ _ g1 g2 => OwnRow.apart_ty h2 k (by decide) g1 g2)
      exact ⟨a, m, c, e, h3.at, .inr h3⟩⟩
theorem getD_last {α : Type} (l : List α) (x d : α) : (l ++ [x]).getD l.length d = x := by simp
theorem getD_left {α : Type} (l : List α) (x d : α) {i : Nat} (h : i < l.length) : (l ++ [x]).getD i d = l.getD i d := by
  rw [List.getD_eq_getElem?_getD, List.getElem?_append_left h, ← List.getD_eq_getElem?_getD]
theorem RowsB.snoc {R B E w vs xss a m c x} (h : RowsB R B E w vs xss) (ho : Own B E w a m c x) : RowsB R B E w (vs ++ [.slice a m c]) (xss ++ [x]) :=
  ⟨by simp [h.length], fun i hi => by
    simp only [List.length_append, List.length_singleton] at hi
    by_cases hlt : i < xss.length
    · obtain ⟨a2, m2, c2, e, h1, h2⟩ := h.row i hlt
      rw [getD_left _ _ _ hlt, getD_left _ _ _ (by rw [h.length]; exact hlt)]
      exact ⟨a2, m2, c2, e, h1, h2⟩
    · obtain rfl : i = xss.length := by omega
      rw [getD_last]
      have e2 : (vs ++ [Value.slice a m c]).getD xss.length undef = .slice a m c := by rw [← h.length]; exact getD_last _ _ _
      exact ⟨a, m, c, e2, ho.at, .inr ho⟩⟩
theorem RowsB.at {R B E w vs xss ao n cap} (h : RowsB R B E w vs xss) (hv : ValsAt w ao n cap vs) : RowsAt w ao n cap xss :=
  ⟨by rw [← h.length]; exact hv.length, hv.le, hv.max, hv.isNil, fun j hj => by
    obtain ⟨b, o, e, hlt, hc⟩ := hv.cell j hj
    refine ⟨b, o, e, hlt, fun i hi => ?_⟩
    obtain ⟨a, m, c, e2, h1, _⟩ := h.row i (by rw [← h.length, hv.length]; exact hi)
    exact ⟨a, m, c, by rw [hc i hi, e2], h1⟩⟩
theorem RowsB.one {R B E w a m c x} (h : IntsAt w a m c x) (hR : 0 < m → ∀ b o, a = some ⟨b, o, none⟩ → b < R) : RowsB R B E w [.slice a m c] [x] :=
  ⟨rfl, fun i hi => by
    obtain rfl : i = 0 := by simp at hi; omega
    exact ⟨a, m, c, rfl, h, .inl hR⟩⟩
theorem intsBlock {w : World} {a : Option Addr} {n c : Nat} {xs : List Int} (h : IntsAt w a n c xs) (hn : 0 < n) : ∀ b o, a = some ⟨b, o, none⟩ → b < w.heap.size := fun b o e => by
  obtain ⟨b2, o2, e2, hlt, _⟩ := h.cell 0 hn
  rw [e] at e2; cases e2; exact hlt

def seenR (xs : List Int) (j : Nat) : List (List Int) := (List.range j).map fun i => rowsL i xs
theorem seenR_succ (xs : List Int) (j : Nat) : seenR xs (j + 1) = seenR xs j ++ [rowsL j xs] := by unfold seenR; rw [List.range_succ, List.map_append]; rfl
theorem seenR_getD (xs : List Int) (j i : Nat) (h : i < j) : (seenR xs j).getD i [] = rowsL i xs := by
  unfold seenR
  rw [List.getD_eq_getElem?_getD, List.getElem?_map, List.getElem?_range h]; rfl
/-- one row more behind: at an append -/
theorem wpList_pushBr {ops : Array Oper} {rest : List Oper} {o : Oper} {a : Act} {Q : Exit → Act → World → Prop} (w : World) (hgd : o.guard = none) (s x : Operand)
    (ho : o.op = .call { callee := .builtin .append, args := #[s, x], argTypes := #[185, 185] })
    (R B E D : Nat) (ao : Option Addr) (n cap : Nat) (vs : List Value) (xss : List (List Int)) (hs : a.eval s = .slice ao n cap) (hown : OwnRow B E w 24 ao n cap vs) (hrows : RowsB R B D w vs xss) (hR : R ≤ B)
    (a2 : Option Addr) (m c : Nat) (ys : List Int) (hy : Own B D w a2 m c ys)
    (hx : a.eval x = .slice (some ⟨w.heap.size, 0, none⟩) 1 1) (hn : n ≤ 67108863) (hB : B ≤ w.heap.size)
    (h : ∀ ao' cap' w', OwnRow B w'.heap.size w' 24 ao' (n + 1) cap' (vs ++ [.slice a2 m c]) → RowsB R B D w' (vs ++ [.slice a2 m c]) (xss ++ [ys]) → Chg (fun k => (Value.slice ao n cap).ownBlock = some k) w w' → wpList Tryz.prog ops Q rest (a.put o.dst (.slice ao' (n + 1) cap')) w') :
    wpList Tryz.prog ops Q (o :: rest) a (w.alloc (.cells #[.slice a2 m c] 24)) := by
  refine wpList_pushVX w hgd s x 185 ho 24 _ 24 Tryz.underlying185 Tryz.infoInts rfl (by decide) B E ao n cap vs hs hown _ rfl hx hn hB (fun ao' cap' w' ho' hc hnew => h ao' cap' w' ho' ?_ hc)
  exact (hrows.snoc hy).chgSpine hown hR hc

set_option maxHeartbeats 3200000 in
theorem roOrbit_any (ao : Option Addr) (n cap : Nat) (xs : List Int) (w : World) (h : IntsAt w ao n cap xs) (hg : RowOk xs) :
    Calls Tryz.prog 185 #[.slice ao n cap] w fun e w' => e = .returned (.tuple #[.int .i64 (orbR xs).1, .int .i64 (orbR xs).2.1, .bool (orbR xs).2.2]) ∧ Below w.heap.size w w' := by
  have hba := belowAlloc w (.cells #[.slice ao n cap] 24)
  have hsp : OwnRow w.heap.size (w.heap.size + 1) (w.alloc (.cells #[.slice ao n cap] 24)) 24 (some ⟨w.heap.size, 0, none⟩) 1 1 [.slice ao n cap] := by
    have := World.ownsRow_lit (base := w.heap.size) (size := 1) (e := 24) w #[.slice ao n cap] 1 (Nat.le_refl _) (by unfold maxLen; omega) rfl
    exact ⟨this, fun g hg => by simp [Value.ownBlock] at hg; omega⟩
  have hrw : RowsB w.heap.size w.heap.size (w.heap.size + 1) (w.alloc (.cells #[.slice ao n cap] 24)) [.slice ao n cap] (seenR xs 1) := RowsB.one (h.keep hba) (fun h0 => intsBlock h h0)
  have hR : ∀ j, RowOk (rowsL j xs) := rowsL_row hg
  have hno0 : ∀ k, k ≤ 0 → metR xs k = none := fun k hk => by
    obtain rfl : k = 0 := by omega
    rfl
  have HR := Lib.hid hR; clear hR
  clear h hg
  go_enter Tryz.func185, Tryz.ntmps185
  go_wp2_with fail
  go_loopw [5] (fun v wr => ∃ (j : Nat) (a : Option Addr) (c : Nat) (vs : List Value), v = .slice a (j + 1) c ∧ j ≤ 1000 ∧ OwnRow w.heap.size wr.heap.size wr 24 a (j + 1) c vs ∧ RowsB w.heap.size w.heap.size wr.heap.size wr vs (seenR xs (j + 1)) ∧ Hid (∀ k, k ≤ j → metR xs k = none) ∧ Below w.heap.size w wr) (fun v _ => 1002 - lenOf v)
  case atStart => exact ⟨0, _, 1, _, rfl, by omega, by simpa using hsp, by simpa using hrw, Lib.hid hno0, hba⟩
  case round =>
    obtain ⟨j, a, c, vs, rfl, hj, hov, hrv, Hno, hb⟩ := hrel
    clear hsp hrw hba
    have hj8 : (j : Int) ≤ 1000 := by omega
    by_cases hlt : j < 1000
    · have hat := hrv.at hov.at
      obtain ⟨b, oo, rfl, hbl, hc⟩ := hat.cell j (by omega)
      obtain ⟨a2, m2, c2, hck, hi⟩ := hc j (by omega)
      rw [seenR_getD _ _ _ (by omega)] at hi
      have ej : (((j + 1 : Nat)) : Int) - 1 = (j : Int) := by omega
      have hcon := roStep_any a2 m2 c2 _ wr hi (HR.out j)
      rw [← rowsL_add] at hcon
      have Hcon := Lib.hid hcon; clear hcon
      clear hc hat
      go_wp2_with fail
      with_reducible refine (Hcon.out).mono ?_
      rintro e w2 ⟨a3, m3, c3, rfl, ho3, hb3⟩
      have hs3 := hb3.size
      have hov2 := (OwnRow.keep hov hb3).mono (Nat.le_refl _) hs3
      have hrv2 := (hrv.keep hb3).mono hs3
      have hbw := belowTrans hb hb3 (Nat.le_refl _)
      have hs := hb.size
      have ho4 := ho3.mono hs (Nat.le_refl _)
      clear hov hrv hck hi hb hb3 ho3 ej
      obtain ⟨wi, hwi⟩ : ∃ wi : World, wi = wr := ⟨_, rfl⟩
      subst hwi
      go_wp2_with fail
      go_loopw [23] (fun i wq => ∃ k : Nat, k ≤ j + 1 ∧ i = .int .i64 k ∧ Hid (∀ i, i < k → rowsL i xs ≠ rowsL (j + 1) xs) ∧ ∃ q, wq = w2.drewN q) (fun i _ => j + 1 - (intOf i).toNat)
      case atStart => exact ⟨0, Nat.zero_le _, rfl, Lib.hid (fun i hi => by omega), 0, rfl⟩
      case round =>
        obtain ⟨k, hk, rfl, Hall, q, rfl⟩ := hrel
        by_cases hkt : k < j + 1
        · have hat := hrv2.at hov2.at
          obtain ⟨b5, o5, e5, hb5, hc5⟩ := hat.cell k hkt
          cases e5
          obtain ⟨a6, m6, c6, hck6, hi6⟩ := hc5 k hkt
          rw [seenR_getD _ _ _ hkt] at hi6
          clear hc5 hat
          have hsame := l1Same_any a6 a3 m6 m3 c6 c3 _ _ (w2.drewN q) (hi6.drewN q) (ho4.at.drewN q)
          by_cases heq : rowsL k xs = rowsL (j + 1) xs
          · rw [decide_eq_true heq] at hsame
            have horb := orbR_some (xs := xs) (i := k) (j := j + 1) (by omega) hkt (metR_some hkt heq Hall.out) (fun k hk => Hno.out k (by omega))
            have Hsame := Lib.hid hsame; clear hsame
            have Heq := Lib.hid heq; clear heq
            have Horb := Lib.hid horb; clear horb
            have Hi6 := Lib.hid hi6; clear hi6
            go_wp2_with fail
            with_reducible refine (Hsame.out).mono ?_
            rintro e w7 ⟨rfl, q2, rfl⟩
            go_wp2_with fail
            go_ret3
            rw [Horb.out]
            exact ⟨rfl, belowDrewN hbw _⟩
          · rw [decide_eq_false heq] at hsame
            have hall2 : ∀ i, i < k + 1 → rowsL i xs ≠ rowsL (j + 1) xs := fun i hi => by
              by_cases hik : i = k
              · subst hik; exact heq
              · exact Hall.out i (by omega)
            have Hsame := Lib.hid hsame; clear hsame
            have Heq := Lib.hid heq; clear heq
            have Hi6 := Lib.hid hi6; clear hi6
            have Hall2 := Lib.hid hall2; clear hall2
            go_wp2_with fail
            with_reducible refine (Hsame.out).mono ?_
            rintro e w7 ⟨rfl, q2, rfl⟩
            go_wp2_with fail
            go_roundw
            case rel => exact ⟨k + 1, by omega, by go_num, Hall2, _, rfl⟩
            case measure => simp [intOf]; omega
        · obtain rfl : k = j + 1 := by omega
          have hno2 : ∀ k, k ≤ j + 1 → metR xs k = none := fun k hk => by
            by_cases hkj : k = j + 1
            · subst hkj; exact metR_none Hall.out
            · exact Hno.out k (by omega)
          have hsucc := seenR_succ xs (j + 1)
          have hov3 : OwnRow w.heap.size (w2.drewN q).heap.size (w2.drewN q) 24 (some ⟨b, oo, none⟩) (j + 1) c vs := hov2.keep (belowDrewN (Below.refl _ _) q)
          have hrv3 : RowsB w.heap.size w.heap.size (w2.drewN q).heap.size (w2.drewN q) vs (seenR xs (j + 1)) := hrv2.keep (belowDrewN (Below.refl _ _) q)
          have ho5 : Own w.heap.size (w2.drewN q).heap.size (w2.drewN q) a3 m3 c3 (rowsL (j + 1) xs) := ho4.keep (belowDrewN (Below.refl _ _) q)
          have hbw3 : Below w.heap.size w (w2.drewN q) := belowDrewN hbw q
          have hsz : w.heap.size ≤ (w2.drewN q).heap.size := by have := hbw.size; exact this
          clear hov2 hrv2 ho4 hbw Hall
          generalize w2.drewN q = W at *
          have Hno2 := Lib.hid hno2; clear hno2
          have Hsucc := Lib.hid hsucc; clear hsucc
          go_wp2_with (at_builtin; refine wpList_pushBr W rfl _ _ rfl w.heap.size w.heap.size W.heap.size W.heap.size _ (j + 1) c vs _ rfl hov3 hrv3 (Nat.le_refl _) a3 m3 c3 _ ho5 rfl (by omega) hsz ?_)
          intro a8 c8 w8 ho8 hr8 hc8
          have hb8 := hbw3.trans (hov3.chgBelow hc8 hsz)
          have hs8 := hc8.size
          clear hov3 hrv3 ho5 hbw3
          go_wp2_with fail
          go_roundw
          case rel => exact ⟨j + 1, a8, c8, _, rfl, by omega, ho8, by rw [Hsucc.out]; exact hr8.mono hs8, Hno2, hb8⟩
          case measure => simp [lenOf]; omega
    · obtain rfl : j = 1000 := by omega
      have horb := orbR_none (xs := xs) (fun k hk => Hno.out k (by omega))
      have Horb := Lib.hid horb; clear horb
      go_wp2_with fail
      go_ret3
      rw [Horb.out]
      exact ⟨rfl, hb⟩
theorem spec_RowOrbit (ao : Option Addr) (n cap : Nat) (xs : List Int) (w : World) (h : IntsAt w ao n cap xs) :
    Calls Tryz.prog 139 #[.slice ao n cap] w fun e w' => e = .returned (.tuple #[.int .i64 (mRowOrbit xs).1, .int .i64 (mRowOrbit xs).2.1, .bool (mRowOrbit xs).2.2]) ∧ Below w.heap.size w w' := by
  cases hg : rowB xs
  · have hm := mRO_no hg
    have Hg := Lib.hid hg; clear hg
    have Hm := Lib.hid hm; clear hm
    go_enter Tryz.func139, Tryz.ntmps139
    go_wp2_with fail
    with_reducible refine (roGood_no _ _ _ _ _ h Hg.out).mono ?_
    rintro e w' ⟨rfl, rfl⟩
    go_wp2
    go_ret3
    rw [Hm.out]
    exact ⟨rfl, Below.refl _ _⟩
  · have hm := mRO_yes hg
    have hG := row_iff.1 hg
    have hcon := roOrbit_any ao n cap xs w h hG
    have Hg := Lib.hid hg; clear hg
    have Hm := Lib.hid hm; clear hm
    have HG := Lib.hid hG; clear hG
    have Hcon := Lib.hid hcon; clear hcon
    go_enter Tryz.func139, Tryz.ntmps139
    go_wp2_with fail
    with_reducible refine (roGood_yes _ _ _ _ _ h HG.out).mono ?_
    rintro e w' ⟨rfl, rfl⟩
    go_wp2_with fail
    with_reducible refine (Hcon.out).mono ?_
    rintro e w' ⟨rfl, hb⟩
    go_wp2
    go_ret3
    rw [Hm.out]
    exact ⟨rfl, hb⟩
end
end Go.Proofs.YtimmjimeldejjaaGreatDoor
