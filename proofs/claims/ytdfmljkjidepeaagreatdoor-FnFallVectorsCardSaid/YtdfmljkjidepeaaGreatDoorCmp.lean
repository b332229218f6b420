/- Chapter 2: the order of lists, by slices.Compare; a ring that comes first of all its turns. No condition. -/
import Derived.Test.YtdfmljkjidepeaaGreatDoorGb
import Derived.Test.YtdfmljkjidepeaaGreatDoorGa
namespace Go.Proofs.YtdfmljkjidepeaaGreatDoor
open Go.RowKit
set_option linter.unusedVariables false
set_option linter.unusedSimpArgs false
set_option maxRecDepth 20000

theorem isNaN_any (x : Int) (w : World) : Calls Tryz.prog 97 #[.int .i64 x] w fun e w' => e = .returned (.bool false) ∧ w = w' := by
  have hx : (x != x) = false := by simp
  go_enter Tryz.func97, Tryz.ntmps97
  go_wp2
  go_ret
  exact ⟨rfl, rfl⟩
theorem cmpInt_any (x y : Int) (w : World) : Calls Tryz.prog 82 #[.int .i64 x, .int .i64 y] w fun e w' => e = .returned (.int .i64 (if x = y then 0 else if x < y then -1 else 1)) ∧ w = w' := by
  have h1 := isNaN_any x w
  have h2 := isNaN_any y w
  by_cases hxy : x = y
  · rw [if_pos hxy]
    subst hxy
    have H1 := Lib.hid h1; clear h1
    have H2 := Lib.hid h2; clear h2
    go_enter Tryz.func82, Tryz.ntmps82
    go_wp2_with fail
    with_reducible refine (H1.out).mono ?_
    rintro e w' ⟨rfl, rfl⟩
    go_wp2_with fail
    with_reducible refine (H2.out).mono ?_
    rintro e w' ⟨rfl, rfl⟩
    go_wp2_with fail
    go_ret
    exact ⟨rfl, rfl⟩
  · rw [if_neg hxy]
    by_cases hlt : x < y
    · rw [if_pos hlt]
      have H1 := Lib.hid h1; clear h1
      have H2 := Lib.hid h2; clear h2
      have Hxy := Lib.hid hxy; clear hxy
      go_enter Tryz.func82, Tryz.ntmps82
      go_wp2_with fail
      with_reducible refine (H1.out).mono ?_
      rintro e w' ⟨rfl, rfl⟩
      go_wp2_with fail
      with_reducible refine (H2.out).mono ?_
      rintro e w' ⟨rfl, rfl⟩
      go_wp2_with fail
      go_ret
      exact ⟨rfl, rfl⟩
    · rw [if_neg hlt]
      have hgt : y < x := by omega
      have hle : ¬ x < y := hlt
      have H1 := Lib.hid h1; clear h1
      have H2 := Lib.hid h2; clear h2
      have Hxy := Lib.hid hxy; clear hxy
      go_enter Tryz.func82, Tryz.ntmps82
      go_wp2_with fail
      with_reducible refine (H1.out).mono ?_
      rintro e w' ⟨rfl, rfl⟩
      go_wp2_with fail
      with_reducible refine (H2.out).mono ?_
      rintro e w' ⟨rfl, rfl⟩
      go_wp2_with fail
      go_ret
      exact ⟨rfl, rfl⟩

theorem cmpL_eq (xs ys : List Int) (k : Nat) (h : xs.take k = ys.take k) (hx : k ≤ xs.length) (hy : k ≤ ys.length) : cmpL xs ys = cmpL (xs.drop k) (ys.drop k) := by
  induction k generalizing xs ys with
  | zero => rfl
  | succ k ih =>
    cases xs with
    | nil => simp at hx
    | cons a l => cases ys with
      | nil => simp at hy
      | cons b m =>
        simp only [List.take_succ_cons, List.cons.injEq] at h
        simp only [List.drop_succ_cons, cmpL, if_pos h.1]
        exact ih l m h.2 (by simpa using hx) (by simpa using hy)
theorem drop_cons {xs : List Int} {k n : Nat} {x : Int} (hx : xs.getD k 0 = x) (hk : k < n) (hl : xs.length = n) : xs.drop k = x :: xs.drop (k + 1) := by
  subst hx hl
  rw [List.drop_eq_getElem_cons hk, List.getD_eq_getElem?_getD, List.getElem?_eq_getElem hk]; rfl
set_option maxHeartbeats 800000 in
theorem compare_any (ao bo : Option Addr) (n m cap cap' : Nat) (xs ys : List Int) (w : World) (hx : IntsAt w ao n cap xs) (hy : IntsAt w bo m cap' ys) :
    Calls Tryz.prog 70 #[.slice ao n cap, .slice bo m cap'] w fun e w' => e = .returned (.int .i64 (cmpL xs ys)) ∧ w = w' := by
  have hn' := hx.lenInt
  have hm' := hy.lenInt
  have hl1 := hx.length
  have hl2 := hy.length
  have Hl1 := Lib.hid hl1; clear hl1
  have Hl2 := Lib.hid hl2; clear hl2
  go_enter Tryz.func70, Tryz.ntmps70
  go_wp2
  go_loop [11] (fun i => ∃ k : Nat, k ≤ n ∧ k ≤ m ∧ i = .int .i64 k ∧ xs.take k = ys.take k) (fun i => n - (intOf i).toNat)
  case atStart => exact ⟨0, Nat.zero_le _, Nat.zero_le _, rfl, rfl⟩
  case round =>
    obtain ⟨k, hk, hkm, rfl, heq⟩ := hrel
    have hcm := cmpL_eq xs ys k heq (by rw [Hl1.out]; exact hk) (by rw [Hl2.out]; exact hkm)
    have Heq := Lib.hid heq; clear heq
    by_cases hlt : k < n
    · by_cases hltm : k < m
      · obtain ⟨b1, o1, rfl, hb1, hc1⟩ := hx.cell k hlt
        have hck1 := hc1 k hlt
        clear hc1
        generalize hx1 : xs.getD k 0 = x at hck1
        have Hx1 := Lib.hid hx1; clear hx1
        obtain ⟨b2, o2, rfl, hb2, hc2⟩ := hy.cell k hltm
        have hck2 := hc2 k hltm
        clear hc2
        generalize hx2 : ys.getD k 0 = y at hck2
        have Hx2 := Lib.hid hx2; clear hx2
        rw [drop_cons Hx1.out hlt Hl1.out, drop_cons Hx2.out hltm Hl2.out] at hcm
        simp only [cmpL] at hcm
        have hcc := fun w => cmpInt_any x y w
        by_cases hxy : x = y
        · rw [if_pos hxy] at hcm
          simp only [if_pos hxy] at hcc
          have Hcc := Lib.hid hcc; clear hcc
          have Hcm := Lib.hid hcm; clear hcm
          have Hxy := Lib.hid hxy; clear hxy
          go_wp2_with fail
          with_reducible refine (Hcc.out _).mono ?_
          rintro e w' ⟨rfl, rfl⟩
          go_wp2_with fail
          go_round
          case rel => exact ⟨k + 1, by omega, by omega, by go_num, by rw [take_snoc Hx1.out hlt Hl1.out, take_snoc Hx2.out hltm Hl2.out, Heq.out, Hxy.out]⟩
          case measure => simp [intOf]; omega
        · rw [if_neg hxy] at hcm
          simp only [if_neg hxy] at hcc
          by_cases hl : x < y
          · rw [if_pos hl] at hcm
            simp only [if_pos hl] at hcc
            have Hcc := Lib.hid hcc; clear hcc
            have Hcm := Lib.hid hcm; clear hcm
            have Hxy := Lib.hid hxy; clear hxy
            have Hl := Lib.hid hl; clear hl
            go_wp2_with fail
            with_reducible refine (Hcc.out _).mono ?_
            rintro e w' ⟨rfl, rfl⟩
            go_wp2_with fail
            go_ret
            exact ⟨by rw [Hcm.out]; rfl, rfl⟩
          · rw [if_neg hl] at hcm
            simp only [if_neg hl] at hcc
            have Hcc := Lib.hid hcc; clear hcc
            have Hcm := Lib.hid hcm; clear hcm
            have Hxy := Lib.hid hxy; clear hxy
            have Hl := Lib.hid hl; clear hl
            go_wp2_with fail
            with_reducible refine (Hcc.out _).mono ?_
            rintro e w' ⟨rfl, rfl⟩
            go_wp2_with fail
            go_ret
            exact ⟨by rw [Hcm.out]; rfl, rfl⟩
      · obtain ⟨b, o, rfl, hb, hc⟩ := hx.cell k hlt
        have hck := hc k hlt
        clear hc
        have hr : cmpL (xs.drop k) (ys.drop k) = 1 := by
          rw [drop_cons rfl hlt Hl1.out, List.drop_of_length_le (show ys.length ≤ k by rw [Hl2.out]; omega)]; rfl
        rw [hr] at hcm
        have Hcm := Lib.hid hcm; clear hcm
        have Hr := Lib.hid hr; clear hr
        go_wp2_with fail
        go_ret
        exact ⟨by rw [Hcm.out]; rfl, rfl⟩
    · have hr1 : xs.drop k = [] := List.drop_of_length_le (by rw [Hl1.out]; omega)
      rw [hr1] at hcm
      by_cases hnm : n < m
      · have hr : cmpL [] (ys.drop k) = -1 := by rw [drop_cons rfl (show k < m by omega) Hl2.out]; rfl
        rw [hr] at hcm
        have Hcm := Lib.hid hcm; clear hcm
        have Hr := Lib.hid hr; clear hr
        have Hr1 := Lib.hid hr1; clear hr1
        go_wp2_with fail
        go_ret
        exact ⟨by rw [Hcm.out]; rfl, rfl⟩
      · have hr : cmpL [] (ys.drop k) = 0 := by rw [List.drop_of_length_le (show ys.length ≤ k by rw [Hl2.out]; omega)]; rfl
        rw [hr] at hcm
        have Hcm := Lib.hid hcm; clear hcm
        have Hr := Lib.hid hr; clear hr
        have Hr1 := Lib.hid hr1; clear hr1
        go_wp2_with fail
        go_ret
        exact ⟨by rw [Hcm.out]; rfl, rfl⟩
end Go.Proofs.YtdfmljkjidepeaaGreatDoor
