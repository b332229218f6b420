/- Chapter 2: FirstOfCycles, CountCycles by the program. No condition. -/
import Derived.Test.YthppkfhhidlpiaaIsFirst
namespace Go.Proofs.Ythppkfhhidlpiaa
open Go.RowKit
set_option linter.unusedVariables false
set_option linter.unusedSimpArgs false
set_option maxRecDepth 20000

def firstsL (n : Nat) : List (List Int) := ((choiceL (hgt n + 1) (n - tri (hgt n))).filter isFirstB).map fromB
theorem firsts_sub {n : Nat} (h : n ≤ 28) {xs : List Int} (hx : xs ∈ firstsL n) : xs ∈ allC n := by
  unfold firstsL at hx
  obtain ⟨bs, hb, rfl⟩ := List.mem_map.1 hx
  exact List.mem_map.2 ⟨bs, (List.mem_filter.1 hb).1, rfl⟩
theorem firsts_length {n : Nat} (h : n ≤ 28) : (firstsL n).length ≤ 256 := by
  unfold firstsL
  rw [List.length_map]
  exact Nat.le_trans (List.length_filter_le _ _) (choice_count n (by omega))
def mFirstOfCycles (n : Int) : List (List Int) × Bool := if 0 ≤ n ∧ n ≤ 28 then (firstsL n.toNat, true) else ([], false)
theorem mFirst_yes (n : Nat) (h : n ≤ 28) : mFirstOfCycles n = (firstsL n, true) := by unfold mFirstOfCycles; rw [if_pos (by omega)]; rfl
theorem mFirst_no (n : Int) (h : ¬ (0 ≤ n ∧ n ≤ 28)) : mFirstOfCycles n = ([], false) := by unfold mFirstOfCycles; rw [if_neg h]
theorem mFirstOfCycles_bound (n : Int) : (mFirstOfCycles n).1.length ≤ 1048576 ∧ total (mFirstOfCycles n).1 ≤ 1048576 := by
  by_cases h : 0 ≤ n ∧ n ≤ 28
  · obtain ⟨m, rfl⟩ := Int.eq_ofNat_of_zero_le h.1
    rw [mFirst_yes m (by omega)]
    have h1 := firsts_length (n := m) (by omega)
    have h2 := total_le (firstsL m) 28 (fun ys hy => (allC_good (by omega) (firsts_sub (by omega) hy)).1.len)
    refine ⟨by show (firstsL m).length ≤ _; omega, ?_⟩
    show total (firstsL m) ≤ _
    omega
  · rw [mFirst_no n h]; simp [total]
def mCountCycles (n : Int) : Int × Bool := if 0 ≤ n ∧ n ≤ 28 then (((firstsL n.toNat).length : Int), true) else (0, false)
theorem mCountC_yes (n : Nat) (h : n ≤ 28) : mCountCycles n = (((firstsL n).length : Int), true) := by unfold mCountCycles; rw [if_pos (by omega)]; rfl
theorem mCountC_no (n : Int) (h : ¬ (0 ≤ n ∧ n ≤ 28)) : mCountCycles n = (0, false) := by unfold mCountCycles; rw [if_neg h]

set_option maxHeartbeats 1600000 in
theorem impl_FirstOfCycles (n : Int) (w : World) :
    Calls Try.prog 52 #[.int .i64 n] w fun e w' => ∃ ao' n' cap', e = .returned (.tuple #[.slice ao' n' cap', .bool (mFirstOfCycles n).2]) ∧ OwnRows w.heap.size w'.heap.size w' ao' n' cap' (mFirstOfCycles n).1 ∧ Below w.heap.size w w' := by
  by_cases hn : 0 ≤ n ∧ n ≤ 28
  · have hin := hn
    obtain ⟨m, rfl⟩ := Int.eq_ofNat_of_zero_le hn.1
    have hm := mFirst_yes m (by omega)
    have hcon := ringsOf_any m w (by omega)
    have hR : ((ringsL m).filter isFirstB).map fromB = firstsL m := by unfold firstsL; rw [rings_choice m (by omega)]
    have hK7 := hgt_le m
    have hisB := ringsTo_isB (hgt m) (m - tri (hgt m)) (2 ^ (hgt m + 1)) 0
    have hRl := choice_count m (by omega)
    rw [← rings_choice m (by omega)] at hRl
    rw [show ringsTo (hgt m) (m - tri (hgt m)) (2 ^ (hgt m + 1)) 0 = ringsL m from rfl] at hisB
    generalize ringsL m = R at *
    generalize hgt m = K at *
    have Hn := Lib.hid hn; clear hn
    have Hm := Lib.hid hm; clear hm
    have Hin := Lib.hid hin; clear hin
    have Hcon := Lib.hid hcon; clear hcon
    have HR := Lib.hid hR; clear hR
    have HisB := Lib.hid hisB; clear hisB
    go_enter Try.func52, Try.ntmps52
    go_wp2_with fail
    with_reducible refine (inRange_yes _ _ _ Hin.out).mono ?_
    rintro e w' ⟨rfl, rfl⟩
    go_wp2_with fail
    with_reducible refine (Hcon.out).mono ?_
    rintro e w1 ⟨a1, n1, c1, rfl, ho1, hb1⟩
    have hn1 := ho1.2.1
    rw [hn1] at hRl
    have Hn1 := Lib.hid hn1; clear hn1
    go_wp2_with fail
    go_loopw [4, 13] (fun v i wr => ∃ (j : Nat) (a : Option Addr) (l c : Nat), j ≤ n1 ∧ l ≤ j ∧ i = .int .i64 j ∧ v = .slice a l c ∧ OwnRows w1.heap.size wr.heap.size wr a l c (((R.take j).filter isFirstB).map fromB) ∧ Below w1.heap.size w1 wr) (fun _ i _ => n1 - (intOf i).toNat)
    case atStart => exact ⟨0, none, 0, 0, Nat.zero_le _, Nat.le_refl _, rfl, rfl, by simpa using OwnRows.nil _ _ _, Below.refl _ _⟩
    case round =>
      obtain ⟨j, a, l, c, hj, hlj, rfl, rfl, hown, hb⟩ := hrel
      by_cases hlt : j < n1
      · have hrs := ho1.keep hb
        obtain ⟨g, rfl, _, _, hg3, hle, hmx⟩ := hrs.cases (by omega)
        have hmem : R.getD j [] ∈ R := by
          rw [List.getD_eq_getElem?_getD, List.getElem?_eq_getElem (by rw [Hn1.out]; exact hlt)]; exact List.getElem_mem _
        obtain ⟨hBr, hlr⟩ := HisB.out _ hmem
        have htk := take_snocR (xs := R) (k := j) (n := n1) (x := R.getD j []) rfl hlt Hn1.out
        obtain ⟨d0, d1, d2, d3, d4, d5, d6, d7, n', hr'⟩ := R9.of (bs := R.getD j []) (by omega)
        obtain ⟨c0, c1', c2, c3, c4, c5, c6, c7, c8⟩ := hrs.nine j hlt hr'
        have hpi := fun w => piles_any (R.getD j []) w hBr (by omega)
        have hfi := fun w => isFirst_any (R.getD j []) w (by omega)
        rw [hr'.v] at hpi hfi
        clear hrs
        have hba := (Below.refl wr.heap.size wr).alloc (Nat.le_refl _) (.cells #[.int .i64 d0, .int .i64 d1, .int .i64 d2, .int .i64 d3, .int .i64 d4, .int .i64 d5, .int .i64 d6, .int .i64 d7, .int .i64 n'] 76)
        have hw0 := rowNew [d0, d1, d2, d3, d4, d5, d6, d7, (n' : Int)] _ 9 (heap_alloc_new wr (.cells #[.int .i64 d0, .int .i64 d1, .int .i64 d2, .int .i64 d3, .int .i64 d4, .int .i64 d5, .int .i64 d6, .int .i64 d7, .int .i64 n'] 76)) rfl rfl (by omega)
        cases hf : isFirstB (R.getD j [])
        · have hnew : ((R.take (j + 1)).filter isFirstB).map fromB = ((R.take j).filter isFirstB).map fromB := by
            rw [htk, List.filter_append, List.filter_cons_of_neg (by rw [hf]; simp)]; simp
          rw [hf] at hfi
          have Hpi := Lib.hid hpi; clear hpi
          have Hfi := Lib.hid hfi; clear hfi
          have Hlr := Lib.hid hlr; clear hlr
          have HBr := Lib.hid hBr; clear hBr
          have Htk := Lib.hid htk; clear htk
          have Hmem := Lib.hid hmem; clear hmem
          have Hr' := Lib.hid hr'; clear hr'
          have Hnew := Lib.hid hnew; clear hnew
          have Hf := Lib.hid hf; clear hf
          go_wp2_with fail
          with_reducible refine (Hfi.out _).mono ?_
          rintro e w4 ⟨rfl, hb4⟩
          have hb4' := belowTrans hba hb4 (Nat.le_refl _)
          have hown4 := (hown.keep hb4').mono (Nat.le_refl _) hb4'.size
          have hbw4 := belowTrans hb hb4' (Nat.le_refl _)
          clear hown c0 c1' c2 c3 c4 c5 c6 c7 c8
          go_wp2_with fail
          go_roundw
          case rel => exact ⟨j + 1, a, l, c, by omega, by omega, by go_num, rfl, by rw [Hnew.out]; exact hown4, hbw4⟩
          case measure => simp [intOf]; omega
        · have hnew : ((R.take (j + 1)).filter isFirstB).map fromB = ((R.take j).filter isFirstB).map fromB ++ [fromB (R.getD j [])] := by
            rw [htk, List.filter_append, List.filter_cons_of_pos (by rw [hf]), List.map_append]; rfl
          rw [hf] at hfi
          generalize R.getD j [] = bs at *
          have Hpi := Lib.hid hpi; clear hpi
          have Hfi := Lib.hid hfi; clear hfi
          have Hlr := Lib.hid hlr; clear hlr
          have HBr := Lib.hid hBr; clear hBr
          have Htk := Lib.hid htk; clear htk
          have Hmem := Lib.hid hmem; clear hmem
          have Hr' := Lib.hid hr'; clear hr'
          have Hnew := Lib.hid hnew; clear hnew
          have Hf := Lib.hid hf; clear hf
          go_wp2_with fail
          with_reducible refine (Hfi.out _).mono ?_
          rintro e w4 ⟨rfl, hb4⟩
          have hb4' := belowTrans hba hb4 (Nat.le_refl _)
          have hown4 := (hown.keep hb4').mono (Nat.le_refl _) hb4'.size
          have hbw4 := belowTrans hb hb4' (Nat.le_refl _)
          obtain ⟨g0, g1, g2, g3, g4, g5, g6, g7, g8⟩ := put9_cells (hw0.keep hb4)
          clear hown hb4 hba hb4' c0 c1' c2 c3 c4 c5 c6 c7 c8 hw0
          go_wp2_with fail
          with_reducible refine (Hpi.out _).mono ?_
          rintro e w5 ⟨a5, m5, k5, rfl, ho5, hb5⟩
          have hown5 := hown4.keep hb5
          have hbw5 := belowTrans hbw4 hb5 (Nat.le_refl _)
          have hs5 := hb5.size
          clear hown4 hb5
          go_wp2_with (at_builtin; refine wpList_pushR w5 rfl _ _ rfl w1.heap.size w4.heap.size _ l c _ rfl hown5 hs5 a5 m5 _ w4.heap.size _ ho5 hbw4.size ho5.ge rfl (by omega) hbw5.size ?_)
          intro a6 c6' w6 ho6 hc6
          have hb6 := hbw5.trans (hown5.chgBelow hc6 hbw5.size)
          clear hown5 hc6 ho5
          go_wp2_with fail
          go_roundw
          case rel => exact ⟨j + 1, a6, l + 1, c6', by omega, by omega, by go_num, rfl, by rw [Hnew.out]; exact ho6, hb6⟩
          case measure => simp [intOf]; omega
      · obtain rfl : n1 = j := by omega
        rw [List.take_of_length_le (by rw [Hn1.out]; exact Nat.le_refl _), HR.out] at hown
        go_wp2_with fail
        go_ret2
        rw [Hm.out]
        exact ⟨_, _, _, rfl, hown.mono hb1.size (Nat.le_refl _), belowTrans hb1 hb (Nat.le_refl _)⟩
  · have hm := mFirst_no n hn
    have Hn := Lib.hid hn; clear hn
    have Hm := Lib.hid hm; clear hm
    go_enter Try.func52, Try.ntmps52
    go_wp2_with fail
    with_reducible refine (inRange_no _ _ _ Hn.out).mono ?_
    rintro e w' ⟨rfl, rfl⟩
    go_wp2_with fail
    go_ret2
    rw [Hm.out]
    exact ⟨none, 0, 0, rfl, OwnRows.nil _ _ _, Below.refl _ _⟩

set_option maxHeartbeats 800000 in
theorem impl_CountCycles (n : Int) (w : World) :
    Calls Try.prog 50 #[.int .i64 n] w fun e w' => e = .returned (.tuple #[.int .i64 (mCountCycles n).1, .bool (mCountCycles n).2]) ∧ Below w.heap.size w w' := by
  have hcon := impl_FirstOfCycles n w
  by_cases hn : 0 ≤ n ∧ n ≤ 28
  · obtain ⟨m, rfl⟩ := Int.eq_ofNat_of_zero_le hn.1
    have hm := mCountC_yes m (by omega)
    rw [mFirst_yes m (by omega)] at hcon
    have Hn := Lib.hid hn; clear hn
    have Hm := Lib.hid hm; clear hm
    have Hcon := Lib.hid hcon; clear hcon
    go_enter Try.func50, Try.ntmps50
    go_wp2_with fail
    with_reducible refine (Hcon.out).mono ?_
    rintro e w1 ⟨a1, m1, c1, rfl, ho1, hb1⟩
    have hl := ho1.length
    have Hl := Lib.hid hl; clear hl
    go_wp2_with fail
    go_ret2
    rw [Hm.out]
    exact ⟨by rw [← Hl.out]; rfl, hb1⟩
  · have hm := mCountC_no n hn
    rw [mFirst_no n hn] at hcon
    have Hn := Lib.hid hn; clear hn
    have Hm := Lib.hid hm; clear hm
    have Hcon := Lib.hid hcon; clear hcon
    go_enter Try.func50, Try.ntmps50
    go_wp2_with fail
    with_reducible refine (Hcon.out).mono ?_
    rintro e w1 ⟨a1, m1, c1, rfl, ho1, hb1⟩
    have hl : m1 = 0 := by have := ho1.length; simpa using this.symm
    subst hl
    go_wp2_with fail
    go_ret2
    rw [Hm.out]
    exact ⟨rfl, hb1⟩
end Go.Proofs.Ythppkfhhidlpiaa
