/- Chapter 2: CyclicPiles. No condition. -/
import Derived.Test.YthppkfhhidlpiaaChoice
namespace Go.Proofs.Ythppkfhhidlpiaa
open Go.RowKit
set_option linter.unusedVariables false
set_option linter.unusedSimpArgs false
set_option maxRecDepth 20000

def allC (n : Nat) : List (List Int) := (choiceL (hgt n + 1) (n - tri (hgt n))).map fromB
theorem rings_choice : ∀ n, n < 29 → ringsL n = choiceL (hgt n + 1) (n - tri (hgt n)) := by decide +kernel
theorem allC_rings (n : Nat) (h : n ≤ 28) : (ringsL n).map fromB = allC n := by unfold allC; rw [rings_choice n (by omega)]
theorem tri_prod (K : Nat) (h7 : K ≤ 7) : (0 : Int) ≤ (K : Int) * ((K : Int) + 1) ∧ (K : Int) * ((K : Int) + 1) ≤ 56 ∧ (K : Int) * ((K : Int) + 1) / 2 = (tri K : Nat) ∧ Int.tdiv ((K : Int) * ((K : Int) + 1)) 2 = (tri K : Nat) := by
  have hk : K = 0 ∨ K = 1 ∨ K = 2 ∨ K = 3 ∨ K = 4 ∨ K = 5 ∨ K = 6 ∨ K = 7 := by omega
  rcases hk with rfl | rfl | rfl | rfl | rfl | rfl | rfl | rfl <;> decide

set_option maxHeartbeats 1600000 in
theorem orAll_any (n : Nat) (w : World) (hn : n ≤ 28) :
    Calls Try.prog 132 #[.int .i64 n] w fun e w' => ∃ ao m c, e = .returned (.slice ao m c) ∧ OwnRows w.heap.size w'.heap.size w' ao m c (allC n) ∧ Below w.heap.size w w' := by
  have hhg := piHeight_any n w hn
  have ht := tri_hgt n (by omega)
  have h7 := hgt_le n
  have hrow := choice_row (hgt n + 1) (n - tri (hgt n))
  have hcl := choice_length (hgt n + 1) (n - tri (hgt n))
  have hch := fun w => orChoices_any (hgt n + 1) (n - tri (hgt n)) w (by omega) (by omega)
  unfold allC
  generalize hgt n = K at *
  obtain ⟨hp0, hp1, hp2, hp3⟩ := tri_prod K h7
  have hti : ((n : Int) - ((tri K : Nat) : Int)) = ((n - tri K : Nat) : Int) := by omega
  have hT28 : tri K ≤ 28 := by omega
  have h256 : 2 ^ (K + 1) ≤ 256 := Nat.pow_le_pow_right (by omega) (show K + 1 ≤ 8 by omega)
  have hch2 : ∀ w, Calls Try.prog 173 #[.int .i64 ((K : Int) + 1), .int .i64 ((n : Int) - ((tri K : Nat) : Int))] w fun e w' => ∃ ao' n' cap', e = .returned (.slice ao' n' cap') ∧ OwnRows w.heap.size w'.heap.size w' ao' n' cap' (choiceL (K + 1) (n - tri K)) ∧ Below w.heap.size w w' := fun w => by
    rw [hti]; exact hch w
  generalize choiceL (K + 1) (n - tri K) = R at *
  clear hch
  have Hhg := Lib.hid hhg; clear hhg
  have Ht := Lib.hid ht; clear ht
  have Hrow := Lib.hid hrow; clear hrow
  have Hti := Lib.hid hti; clear hti
  have Hch2 := Lib.hid hch2; clear hch2
  go_enter Try.func132, Try.ntmps132
  go_wp2_with fail
  with_reducible refine (Hhg.out).mono ?_
  rintro e w' ⟨rfl, rfl⟩
  go_wp2_with fail
  with_reducible refine (Hch2.out w).mono ?_
  rintro e w1 ⟨a1, n1, c1, rfl, ho1, hb1⟩
  have hn1 := ho1.length
  rw [hn1] at hcl
  have Hn1 := Lib.hid hn1; clear hn1
  go_wp2_with fail
  go_loopw [4, 20] (fun v i wr => ∃ (j : Nat) (a : Option Addr) (c : Nat), j ≤ n1 ∧ i = .int .i64 j ∧ v = .slice a j c ∧ OwnRows w1.heap.size wr.heap.size wr a j c ((R.take j).map fromB) ∧ Below w1.heap.size w1 wr) (fun _ i _ => n1 - (intOf i).toNat)
  case atStart => exact ⟨0, none, 0, Nat.zero_le _, rfl, rfl, by simpa using OwnRows.nil _ _ _, Below.refl _ _⟩
  case round =>
    obtain ⟨j, a, c, hj, rfl, rfl, hown, hb⟩ := hrel
    by_cases hlt : j < n1
    · have hrs := ho1.keep hb
      obtain ⟨bl, oo, rfl, hbl, hc⟩ := hrs.at.cell j hlt
      obtain ⟨a3, m3, c3, hck, hi⟩ := hc j hlt
      clear hc hrs
      have hmem : R.getD j [] ∈ R := by
        rw [List.getD_eq_getElem?_getD, List.getElem?_eq_getElem (by rw [Hn1.out]; exact hlt)]; exact List.getElem_mem _
      obtain ⟨hlr, hBr⟩ := Hrow.out _ hmem
      have htk := take_snocR (xs := R) (k := j) (n := n1) (x := R.getD j []) rfl hlt Hn1.out
      generalize R.getD j [] = ys at hi hlr hBr htk
      have hm3 := hi.length
      have hcon := orFrom_any a3 m3 c3 ys wr hi hBr (by omega)
      have Hcon := Lib.hid hcon; clear hcon
      have Hlr := Lib.hid hlr; clear hlr
      have HBr := Lib.hid hBr; clear hBr
      have Htk := Lib.hid htk; clear htk
      have Hmem := Lib.hid hmem; clear hmem
      go_wp2_with fail
      with_reducible refine (Hcon.out).mono ?_
      rintro e w4 ⟨a4, m4, c4, rfl, ho4, hb4⟩
      have hown4 := hown.keep hb4
      have hbw4 := belowTrans hb hb4 (Nat.le_refl _)
      have hs4 := hb4.size
      clear hown hck hi hb4
      go_wp2_with (at_builtin; refine wpList_pushR w4 rfl _ _ rfl w1.heap.size wr.heap.size _ j c _ rfl hown4 hs4 a4 m4 c4 wr.heap.size _ ho4 hb.size ho4.ge rfl (by omega) hbw4.size ?_)
      intro a5 c5 w5 ho5 hc5
      have hb5 := hbw4.trans (hown4.chgBelow hc5 hbw4.size)
      clear hown4 hc5 ho4
      go_wp2_with fail
      go_roundw
      case rel => exact ⟨j + 1, a5, c5, by omega, by go_num, rfl, by rw [Htk.out, List.map_append]; simpa using ho5, hb5⟩
      case measure => simp [intOf]; omega
    · obtain rfl : n1 = j := by omega
      rw [List.take_of_length_le (by rw [Hn1.out]; exact Nat.le_refl _)] at hown
      go_wp2_with fail
      go_ret
      exact ⟨_, _, _, rfl, hown.mono hb1.size (Nat.le_refl _), belowTrans hb1 hb (Nat.le_refl _)⟩

theorem choice_count : ∀ n, n < 29 → (choiceL (hgt n + 1) (n - tri (hgt n))).length ≤ 256 := by decide +kernel
theorem choice_good : ∀ n, n < 29 → ∀ bs ∈ choiceL (hgt n + 1) (n - tri (hgt n)), Good (fromB bs) ∧ (fromB bs).sum = n ∧ 0 ∈ bs := by decide +kernel
theorem allC_length (n : Nat) (h : n ≤ 28) : (allC n).length ≤ 256 := by unfold allC; rw [List.length_map]; exact choice_count n (by omega)
theorem allC_good {n : Nat} (h : n ≤ 28) {xs : List Int} (hx : xs ∈ allC n) : Good xs ∧ xs.sum = n ∧ Cyc xs := by
  unfold allC at hx
  obtain ⟨bs, hb, rfl⟩ := List.mem_map.1 hx
  obtain ⟨h1, h2, h3⟩ := choice_good n (by omega) bs hb
  exact ⟨h1, h2, fromB_cyc (choice_row _ _ bs hb).2 h3 (by omega)⟩
def mCyclicPiles (n : Int) : List (List Int) × Bool := if 0 ≤ n ∧ n ≤ 28 then (allC n.toNat, true) else ([], false)
theorem mCyc_yes (n : Nat) (h : n ≤ 28) : mCyclicPiles n = (allC n, true) := by unfold mCyclicPiles; rw [if_pos (by omega)]; rfl
theorem mCyc_no (n : Int) (h : ¬ (0 ≤ n ∧ n ≤ 28)) : mCyclicPiles n = ([], false) := by unfold mCyclicPiles; rw [if_neg h]
theorem mCyclicPiles_bound (n : Int) : (mCyclicPiles n).1.length ≤ 1048576 ∧ total (mCyclicPiles n).1 ≤ 1048576 := by
  by_cases h : 0 ≤ n ∧ n ≤ 28
  · obtain ⟨m, rfl⟩ := Int.eq_ofNat_of_zero_le h.1
    rw [mCyc_yes m (by omega)]
    have h1 := allC_length m (by omega)
    have h2 := total_le (allC m) 28 (fun ys hy => (allC_good (by omega) hy).1.len)
    refine ⟨by show (allC m).length ≤ _; omega, ?_⟩
    show total (allC m) ≤ _
    omega
  · rw [mCyc_no n h]; simp [total]

theorem spec_CyclicPiles (n : Int) (w : World) :
    Calls Try.prog 55 #[.int .i64 n] w fun e w' => ∃ ao' n' cap', e = .returned (.tuple #[.slice ao' n' cap', .bool (mCyclicPiles n).2]) ∧ OwnRows w.heap.size w'.heap.size w' ao' n' cap' (mCyclicPiles n).1 ∧ Below w.heap.size w w' := by
  by_cases hn : 0 ≤ n ∧ n ≤ 28
  · have hin := hn
    obtain ⟨m, rfl⟩ := Int.eq_ofNat_of_zero_le hn.1
    have hm := mCyc_yes m (by omega)
    have hcon := orAll_any m w (by omega)
    have Hn := Lib.hid hn; clear hn
    have Hm := Lib.hid hm; clear hm
    have Hin := Lib.hid hin; clear hin
    have Hcon := Lib.hid hcon; clear hcon
    go_enter Try.func55, Try.ntmps55
    go_wp2_with fail
    with_reducible refine (piCards_yes _ _ Hin.out).mono ?_
    rintro e w' ⟨rfl, rfl⟩
    go_wp2_with fail
    with_reducible refine (Hcon.out).mono ?_
    rintro e w1 ⟨a1, m1, c1, rfl, ho1, hb1⟩
    go_wp2_with fail
    go_ret2
    rw [Hm.out]
    exact ⟨_, _, _, rfl, ho1, hb1⟩
  · have hm := mCyc_no n hn
    have Hn := Lib.hid hn; clear hn
    have Hm := Lib.hid hm; clear hm
    go_enter Try.func55, Try.ntmps55
    go_wp2_with fail
    with_reducible refine (piCards_no _ _ Hn.out).mono ?_
    rintro e w' ⟨rfl, rfl⟩
    go_wp2_with fail
    go_ret2
    rw [Hm.out]
    exact ⟨none, 0, 0, rfl, OwnRows.nil _ _ _, Below.refl _ _⟩

theorem RingRow.nine {B E w g n cap rs} (h : RingRow B E w (some ⟨g, 0, none⟩) n cap rs) (i : Nat) (hi : i < n) {b0 b1 b2 b3 b4 b5 b6 b7 : Int} {m : Nat} (hr : R9 (rs.getD i []) b0 b1 b2 b3 b4 b5 b6 b7 m) :
    w.cell? ⟨g, i * 9, none⟩ = some (.int .i64 b0) ∧ w.cell? ⟨g, i * 9 + 1, none⟩ = some (.int .i64 b1) ∧ w.cell? ⟨g, i * 9 + 2, none⟩ = some (.int .i64 b2) ∧ w.cell? ⟨g, i * 9 + 3, none⟩ = some (.int .i64 b3) ∧ w.cell? ⟨g, i * 9 + 4, none⟩ = some (.int .i64 b4) ∧
    w.cell? ⟨g, i * 9 + 5, none⟩ = some (.int .i64 b5) ∧ w.cell? ⟨g, i * 9 + 6, none⟩ = some (.int .i64 b6) ∧ w.cell? ⟨g, i * 9 + 7, none⟩ = some (.int .i64 b7) ∧ w.cell? ⟨g, i * 9 + 8, none⟩ = some (.int .i64 m) := by
  obtain ⟨hm, h8, h0, h1, h2, h3, h4, h5, h6, h7⟩ := hr
  have hc := h.cellsAt i hi
  have e : ringCells (rs.getD i []) = [.int .i64 b0, .int .i64 b1, .int .i64 b2, .int .i64 b3, .int .i64 b4, .int .i64 b5, .int .i64 b6, .int .i64 b7, .int .i64 m] := by
    unfold ringCells ring9
    rw [h0, h1, h2, h3, h4, h5, h6, h7, hm]
  rw [e] at hc
  exact ⟨hc 0 (by omega), hc 1 (by omega), hc 2 (by omega), hc 3 (by omega), hc 4 (by omega), hc 5 (by omega), hc 6 (by omega), hc 7 (by omega), hc 8 (by omega)⟩

set_option maxHeartbeats 1600000 in
theorem impl_CyclicPiles (n : Int) (w : World) :
    Calls Try.prog 54 #[.int .i64 n] w fun e w' => ∃ ao' n' cap', e = .returned (.tuple #[.slice ao' n' cap', .bool (mCyclicPiles n).2]) ∧ OwnRows w.heap.size w'.heap.size w' ao' n' cap' (mCyclicPiles n).1 ∧ Below w.heap.size w w' := by
  by_cases hn : 0 ≤ n ∧ n ≤ 28
  · have hin := hn
    obtain ⟨m, rfl⟩ := Int.eq_ofNat_of_zero_le hn.1
    have hm := mCyc_yes m (by omega)
    have hcon := ringsOf_any m w (by omega)
    have hR := allC_rings m (by omega)
    have hK7 := hgt_le m
    have hisB := ringsTo_isB (hgt m) (m - tri (hgt m)) (2 ^ (hgt m + 1)) 0
    have hRl := allC_length m (by omega)
    rw [← hR, List.length_map] at hRl
    rw [show ringsTo (hgt m) (m - tri (hgt m)) (2 ^ (hgt m + 1)) 0 = ringsL m from rfl] at hisB
    generalize ringsL m = R at *
    generalize hgt m = K at *
    have Hn := Lib.hid hn; clear hn
    have Hm := Lib.hid hm; clear hm
    have Hin := Lib.hid hin; clear hin
    have Hcon := Lib.hid hcon; clear hcon
    have HR := Lib.hid hR; clear hR
    have HisB := Lib.hid hisB; clear hisB
    go_enter Try.func54, Try.ntmps54
    go_wp2_with fail
    with_reducible refine (inRange_yes _ _ _ Hin.out).mono ?_
    rintro e w' ⟨rfl, rfl⟩
    go_wp2_with fail
    with_reducible refine (Hcon.out).mono ?_
    rintro e w1 ⟨a1, n1, c1, rfl, ho1, hb1⟩
    have hn1 := ho1.2.1
    rw [hn1] at hRl
    have Hn1 := Lib.hid hn1; clear hn1
    go_wp2_with fail
    go_loopw [4, 13] (fun v i wr => ∃ (j : Nat) (a : Option Addr) (c : Nat), j ≤ n1 ∧ i = .int .i64 j ∧ v = .slice a j c ∧ OwnRows w1.heap.size wr.heap.size wr a j c ((R.take j).map fromB) ∧ Below w1.heap.size w1 wr) (fun _ i _ => n1 - (intOf i).toNat)
    case atStart => exact ⟨0, none, 0, Nat.zero_le _, rfl, rfl, by simpa using OwnRows.nil _ _ _, Below.refl _ _⟩
    case round =>
      obtain ⟨j, a, c, hj, rfl, rfl, hown, hb⟩ := hrel
      by_cases hlt : j < n1
      · have hrs := ho1.keep hb
        obtain ⟨g, rfl, _, _, hg3, hle, hmx⟩ := hrs.cases (by omega)
        have hmem : R.getD j [] ∈ R := by
          rw [List.getD_eq_getElem?_getD, List.getElem?_eq_getElem (by rw [Hn1.out]; exact hlt)]; exact List.getElem_mem _
        obtain ⟨hBr, hlr⟩ := HisB.out _ hmem
        have htk := take_snocR (xs := R) (k := j) (n := n1) (x := R.getD j []) rfl hlt Hn1.out
        obtain ⟨d0, d1, d2, d3, d4, d5, d6, d7, n', hr'⟩ := R9.of (bs := R.getD j []) (by omega)
        obtain ⟨c0, c1', c2, c3, c4, c5, c6, c7, c8⟩ := hrs.nine j hlt hr'
        have hpi := fun w => piles_any (R.getD j []) w hBr (by omega)
        rw [hr'.v] at hpi
        clear hrs
        have Hpi := Lib.hid hpi; clear hpi
        have Hlr := Lib.hid hlr; clear hlr
        have HBr := Lib.hid hBr; clear hBr
        have Htk := Lib.hid htk; clear htk
        have Hmem := Lib.hid hmem; clear hmem
        have Hr' := Lib.hid hr'; clear hr'
        go_wp2_with fail
        with_reducible refine (Hpi.out _).mono ?_
        rintro e w4 ⟨a4, m4, k4, rfl, ho4, hb4⟩
        have hba := (Below.refl wr.heap.size wr).alloc (Nat.le_refl _) (.cells #[.int .i64 d0, .int .i64 d1, .int .i64 d2, .int .i64 d3, .int .i64 d4, .int .i64 d5, .int .i64 d6, .int .i64 d7, .int .i64 n'] 76)
        have hb4' := belowTrans hba hb4 (Nat.le_refl _)
        have ho4' := ho4.mono hba.size (Nat.le_refl _)
        have hown4 := hown.keep hb4'
        have hbw4 := belowTrans hb hb4' (Nat.le_refl _)
        have hs4 := hb4'.size
        clear hown hb4 ho4 hba hb4' c0 c1' c2 c3 c4 c5 c6 c7 c8
        go_wp2_with (at_builtin; refine wpList_pushR w4 rfl _ _ rfl w1.heap.size wr.heap.size _ j c _ rfl hown4 hs4 a4 m4 _ wr.heap.size _ ho4' hb.size ho4'.ge rfl (by omega) hbw4.size ?_)
        intro a5 c5 w5 ho5 hc5
        have hb5 := hbw4.trans (hown4.chgBelow hc5 hbw4.size)
        clear hown4 hc5 ho4'
        go_wp2_with fail
        go_roundw
        case rel => exact ⟨j + 1, a5, c5, by omega, by go_num, rfl, by rw [Htk.out, List.map_append]; simpa using ho5, hb5⟩
        case measure => simp [intOf]; omega
      · obtain rfl : n1 = j := by omega
        rw [List.take_of_length_le (by rw [Hn1.out]; exact Nat.le_refl _), HR.out] at hown
        go_wp2_with fail
        go_ret2
        rw [Hm.out]
        exact ⟨_, _, _, rfl, hown.mono hb1.size (Nat.le_refl _), belowTrans hb1 hb (Nat.le_refl _)⟩
  · have hm := mCyc_no n hn
    have Hn := Lib.hid hn; clear hn
    have Hm := Lib.hid hm; clear hm
    go_enter Try.func54, Try.ntmps54
    go_wp2_with fail
    with_reducible refine (inRange_no _ _ _ Hn.out).mono ?_
    rintro e w' ⟨rfl, rfl⟩
    go_wp2_with fail
    go_ret2
    rw [Hm.out]
    exact ⟨none, 0, 0, rfl, OwnRows.nil _ _ _, Below.refl _ _⟩
end Go.Proofs.Ythppkfhhidlpiaa
