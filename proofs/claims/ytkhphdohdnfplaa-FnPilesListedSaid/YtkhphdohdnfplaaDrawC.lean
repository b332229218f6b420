/- The draws of chapter 1's laws. No condition but sizes. -/
import Derived.Test.YtkhphdohdnfplaaDrawB
namespace Go.Proofs.Ytkhphdohdnfplaa
open Go.RowKit
set_option linter.unusedVariables false
set_option linter.unusedSimpArgs false

theorem curSize (w : World) (o : Obj) : w.heap.size ≤ (w.alloc o).heap.size := by simp

theorem DrawSideStep_any (ac : Option Addr) (nc cc : Nat) (w : World) (hnc : nc ≤ 1048576) (hby : ByteIn w w.heap.size ac nc) :
    Calls Try.prog 47 #[.slice ac nc cc] w fun e w' => ∃ ao n cap xs, e = .returned (.slice ao n cap) ∧ Own w.heap.size w'.heap.size w' ao n cap xs ∧ Near xs ∧ Below w.heap.size w w' := by
  have hcon := anyPiles_any 20 _ _ 0 (cur_new w ac nc cc hnc hby) (by omega) (by omega)
  rw [show ((20 : Nat) : Int) = 20 from rfl] at hcon
  have Hcon := Lib.hid hcon; clear hcon
  have Hby := Lib.hid hby; clear hby
  go_enter Try.func47, Try.ntmps47
  go_wp2_with fail
  with_reducible refine (Hcon.out).mono ?_
  rintro e w1 ⟨a, n, c, xs, rfl, ho, hn, hc, hg⟩
  go_wp2
  go_ret
  exact ⟨_, _, _, _, rfl, ho.mono (curSize _ _) (Nat.le_refl _), hn, hg.drawn⟩

theorem DrawPlayOf_any (ac : Option Addr) (nc cc : Nat) (w : World) (hnc : nc ≤ 1048576) (hby : ByteIn w w.heap.size ac nc) :
    Calls Try.prog 26 #[.slice ac nc cc] w fun e w' => ∃ ao n cap xs k, e = .returned (.tuple #[.slice ao n cap, .int .i64 k]) ∧ Own w.heap.size w'.heap.size w' ao n cap xs ∧ Near xs ∧ -1 ≤ k ∧ k ≤ 1001 ∧ Below w.heap.size w w' := by
  have hcon := anyPiles_any 14 _ _ 0 (cur_new w ac nc cc hnc hby) (by omega) (by omega)
  rw [show ((14 : Nat) : Int) = 14 from rfl] at hcon
  have hst := fun W hW => steps_any W w.heap.size 500 hW (by omega)
  have Hcon := Lib.hid hcon; clear hcon
  have Hby := Lib.hid hby; clear hby
  have Hst := Lib.hid hst; clear hst
  go_enter Try.func26, Try.ntmps26
  go_wp2_with fail
  with_reducible refine (Hcon.out).mono ?_
  rintro e w1 ⟨a, n, c, xs, rfl, ho, hn, hc, hg⟩
  have hlt := hc.lt
  go_wp2_with fail
  with_reducible refine (Hst.out w1 (hc.le (by omega))).mono ?_
  rintro e w2 ⟨k, hk1, hk2, rfl, hc2, hg2⟩
  have hs := hg2.size
  go_wp2
  go_ret2
  exact ⟨_, _, _, _, _, rfl, (ho.chg hg2 (fun j h1 _ _ e => by rw [e] at h1; simp at h1; omega)).mono (curSize _ _) hs, hn, hk1, hk2, (hg.trans hg2).drawn⟩
theorem DrawStepsFrom_any (ac : Option Addr) (nc cc : Nat) (w : World) (hnc : nc ≤ 1048576) (hby : ByteIn w w.heap.size ac nc) :
    Calls Try.prog 30 #[.slice ac nc cc] w fun e w' => ∃ ao n cap xs k, e = .returned (.tuple #[.slice ao n cap, .int .i64 k]) ∧ Own w.heap.size w'.heap.size w' ao n cap xs ∧ Near xs ∧ -1 ≤ k ∧ k ≤ 1001 ∧ Below w.heap.size w w' := by
  have hcon := anyPiles_any 20 _ _ 0 (cur_new w ac nc cc hnc hby) (by omega) (by omega)
  rw [show ((20 : Nat) : Int) = 20 from rfl] at hcon
  have hst := fun W hW => steps_any W w.heap.size 500 hW (by omega)
  have Hcon := Lib.hid hcon; clear hcon
  have Hby := Lib.hid hby; clear hby
  have Hst := Lib.hid hst; clear hst
  go_enter Try.func30, Try.ntmps30
  go_wp2_with fail
  with_reducible refine (Hcon.out).mono ?_
  rintro e w1 ⟨a, n, c, xs, rfl, ho, hn, hc, hg⟩
  have hlt := hc.lt
  go_wp2_with fail
  with_reducible refine (Hst.out w1 (hc.le (by omega))).mono ?_
  rintro e w2 ⟨k, hk1, hk2, rfl, hc2, hg2⟩
  have hs := hg2.size
  go_wp2
  go_ret2
  exact ⟨_, _, _, _, _, rfl, (ho.chg hg2 (fun j h1 _ _ e => by rw [e] at h1; simp at h1; omega)).mono (curSize _ _) hs, hn, hk1, hk2, (hg.trans hg2).drawn⟩

theorem DrawAllPiles_any (ac : Option Addr) (nc cc : Nat) (w : World) (hnc : nc ≤ 1048576) (hby : ByteIn w w.heap.size ac nc) :
    Calls Try.prog 57 #[.slice ac nc cc] w fun e w' => ∃ k, e = .returned (.int .i64 k) ∧ -1 ≤ k ∧ k ≤ 29 ∧ Below w.heap.size w w' := by
  have hcon := one_any 12 _ _ 0 (cur_new w ac nc cc hnc hby) (by omega) (by omega) (by omega)
  rw [show ((12 : Nat) : Int) = 12 from rfl] at hcon
  have hp := fun W hW => pick_any 12 W w.heap.size 2 hW (by omega) (by omega) (by omega)
  simp only [show ((12 : Nat) : Int) = 12 from rfl] at hp
  have hcd := fun W hW => cards_any 14 W w.heap.size 2 hW (by omega) (by omega)
  simp only [show ((14 : Nat) : Int) = 14 from rfl] at hcd
  have Hcon := Lib.hid hcon; clear hcon
  have Hby := Lib.hid hby; clear hby
  have Hp := Lib.hid hp; clear hp
  have Hcd := Lib.hid hcd; clear hcd
  go_enter Try.func57, Try.ntmps57
  go_wp2_with fail
  with_reducible refine (Hcon.out).mono ?_
  rintro e w1 ⟨t, rfl, hc, hg⟩
  cases t
  · go_wp2_with fail
    with_reducible refine (Hp.out w1 hc).mono ?_
    rintro e w2 ⟨b, hb, rfl, hc2, hg2⟩
    go_wp2
    go_ret
    exact ⟨_, rfl, by omega, by omega, (hg.trans hg2).drawn⟩
  · go_wp2_with fail
    with_reducible refine (Hcd.out w1 hc).mono ?_
    rintro e w2 ⟨r, h1, h2, rfl, hc2, hg2⟩
    go_wp2
    go_ret
    exact ⟨_, rfl, by omega, by omega, (hg.trans hg2).drawn⟩

set_option maxHeartbeats 800000 in
theorem DrawPilesWith_any (ac : Option Addr) (nc cc : Nat) (w : World) (hnc : nc ≤ 1048576) (hby : ByteIn w w.heap.size ac nc) :
    Calls Try.prog 52 #[.slice ac nc cc] w fun e w' => ∃ n r, e = .returned (.tuple #[.int .i64 n, .int .i64 r]) ∧ -1 ≤ n ∧ n ≤ 29 ∧ -1 ≤ r ∧ r ≤ 3718 ∧ Below w.heap.size w w' := by
  have hcon := cards_any 20 _ _ 0 (cur_new w ac nc cc hnc hby) (by omega) (by omega)
  rw [show ((20 : Nat) : Int) = 20 from rfl] at hcon
  have hone := fun W hW => one_any 6 W w.heap.size 4 hW (by omega) (by omega) (by omega)
  simp only [show ((6 : Nat) : Int) = 6 from rfl] at hone
  have hp := fun W hW => pick_any 3 W w.heap.size 4 hW (by omega) (by omega) (by omega)
  simp only [show ((3 : Nat) : Int) = 3 from rfl] at hp
  have Hcon := Lib.hid hcon; clear hcon
  have Hby := Lib.hid hby; clear hby
  have Hp := Lib.hid hp; clear hp
  have Hone := Lib.hid hone; clear hone
  go_enter Try.func52, Try.ntmps52
  go_wp2_with fail
  with_reducible refine (Hcon.out).mono ?_
  rintro e w1 ⟨n, hn1, hn2, rfl, hc, hg⟩
  by_cases hcd : 0 ≤ n ∧ n ≤ 28
  · obtain ⟨N, rfl⟩ := Int.eq_ofNat_of_zero_le hcd.1
    have hN : N ≤ 28 := by omega
    have hcp := cnt_le N (by omega) N (by omega)
    have hc1 : 1 ≤ cnt N N := by
      have : ∀ n, n < 29 → 1 ≤ cnt n n := by decide +kernel
      exact this N (by omega)
    have hcount := fun W => piCount_any N N W hN hN
    generalize cnt N N = C at *
    have Hcount := Lib.hid hcount; clear hcount
    have Hcd := Lib.hid hcd; clear hcd
    go_wp2_with fail
    with_reducible refine (piCards_yes _ _ Hcd.out).mono ?_
    rintro e w' ⟨rfl, rfl⟩
    go_wp2_with fail
    with_reducible refine (Hone.out w1 hc).mono ?_
    rintro e w2 ⟨t, rfl, hc2, hg2⟩
    replace hg2 := hg.trans hg2
    cases t
    · go_wp2_with fail
      with_reducible refine (Hcount.out w2).mono ?_
      rintro e w3 ⟨rfl, hb3⟩
      have hc3 := hc2.keep hb3
      have hpp := pick_any C w3 w.heap.size _ hc3 (by omega) (by omega) (by omega)
      have Hpp := Lib.hid hpp; clear hpp
      go_wp2_with fail
      with_reducible refine (Hpp.out).mono ?_
      rintro e w4 ⟨b, hb, rfl, hc4, hg4⟩
      go_wp2
      go_ret2
      exact ⟨_, _, rfl, by omega, by omega, by omega, by omega, ((hg2.newer (Chg.ofBelow (S := fun _ => False) hb3) (fun _ h => h.elim)).trans hg4).drawn⟩
    · go_wp2_with fail
      with_reducible refine (Hcount.out w2).mono ?_
      rintro e w3 ⟨rfl, hb3⟩
      have hc3 := hc2.keep hb3
      replace hg3 := hg2.newer (Chg.ofBelow (S := fun _ => False) hb3) (fun _ h => h.elim)
      have hC8 : (C : Int) ≤ 3718 := by omega
      go_wp2_with fail
      with_reducible refine (Hcount.out w3).mono ?_
      rintro e w4 ⟨rfl, hb4⟩
      have hc4 := hc3.keep hb4
      have hg4 := hg3.newer (Chg.ofBelow (S := fun _ => False) hb4) (fun _ h => h.elim)
      have hl4 := hc4.lt
      have ha := among_any 4 4 _ _ _ w.heap.size _ (intsAt_new w4 [-1, 0, (C : Int) - 1, (C : Int)] (by simp [maxLen])) (fun b o e => by cases e; omega) (hc4.keep ((Below.refl _ _).alloc (Nat.le_refl _) _)) (by omega) (by omega) (by omega)
      simp only [List.map_cons, List.map_nil] at ha
      have Ha := Lib.hid ha; clear ha
      clear hc2 hc3 hb3 hb4 hg2 hg3
      go_wp2_with fail
      with_reducible refine (Ha.out).mono ?_
      rintro e w5 ⟨i, hi, rfl, hc5, hg5⟩
      have hmem := mem_of_getD (xs := [-1, 0, (C : Int) - 1, (C : Int)]) (i := i) (by simpa using hi)
      generalize ([-1, 0, (C : Int) - 1, (C : Int)] : List Int).getD i 0 = x at hmem ⊢
      have hx : -1 ≤ x ∧ x ≤ 3718 := by simp at hmem; omega
      clear hmem Ha
      go_wp2
      go_ret2
      exact ⟨_, _, rfl, by omega, by omega, hx.1, hx.2, (hg4.trans hg5.allocFirst).drawn⟩
  · have Hcd := Lib.hid hcd; clear hcd
    go_wp2_with fail
    with_reducible refine (piCards_no _ _ Hcd.out).mono ?_
    rintro e w' ⟨rfl, rfl⟩
    go_wp2_with fail
    with_reducible refine (Hp.out w1 hc).mono ?_
    rintro e w2 ⟨b, hb, rfl, hc2, hg2⟩
    go_wp2
    go_ret2
    exact ⟨_, _, rfl, hn1, hn2, by omega, by omega, (hg.trans hg2).drawn⟩

set_option maxHeartbeats 800000 in
theorem DrawPastBy_any (ac : Option Addr) (nc cc : Nat) (w : World) (hnc : nc ≤ 1048576) (hby : ByteIn w w.heap.size ac nc) :
    Calls Try.prog 41 #[.slice ac nc cc] w fun e w' => ∃ ao n cap xs k, e = .returned (.tuple #[.slice ao n cap, .int .i64 k]) ∧ Own w.heap.size w'.heap.size w' ao n cap xs ∧ Near xs ∧ -1 ≤ k ∧ k ≤ 31 ∧ Below w.heap.size w w' := by
  have hcon := anyPiles_any 20 _ _ 0 (cur_new w ac nc cc hnc hby) (by omega) (by omega)
  rw [show ((20 : Nat) : Int) = 20 from rfl] at hcon
  have hone := fun W hW => one_any 4 W w.heap.size 500 hW (by omega) (by omega) (by omega)
  simp only [show ((4 : Nat) : Int) = 4 from rfl] at hone
  have hp := fun W A hW (h : A ≤ 900000000) => pick_any 9 W w.heap.size A hW h (by omega) (by omega)
  simp only [show ((9 : Nat) : Int) = 9 from rfl] at hp
  have Hcon := Lib.hid hcon; clear hcon
  have Hby := Lib.hid hby; clear hby
  have Hone := Lib.hid hone; clear hone
  have Hp := Lib.hid hp; clear hp
  go_enter Try.func41, Try.ntmps41
  go_wp2_with fail
  with_reducible refine (Hcon.out).mono ?_
  rintro e w1 ⟨a, n, c, xs, rfl, ho, hn, hc, hg⟩
  have hl := ho.length
  have hlt := hc.lt
  have hn8 : (n : Int) ≤ 29 := by have := hn.1; omega
  have hown : ∀ W, Chg (fun k => k = w.heap.size) w1 W → Own w.heap.size w1.heap.size W a n c xs := fun W hW => (ho.chg hW (fun j h1 _ _ e => by rw [e] at h1; simp at h1; omega)).mono (curSize _ _) (Nat.le_refl _)
  have Hown := Lib.hid hown; clear hown
  by_cases hz : n = 0
  · subst hz
    go_wp2_with fail
    with_reducible refine (Hp.out w1 _ hc (by omega)).mono ?_
    rintro e w2 ⟨b, hb, rfl, hc2, hg2⟩
    have hs := hg2.size
    go_wp2
    go_ret2
    exact ⟨_, _, _, _, _, rfl, (Hown.out _ hg2).mono (Nat.le_refl _) hs, hn, by omega, by omega, (hg.trans hg2).drawn⟩
  · have hn1 : (0 : Int) < n := by omega
    go_wp2_with fail
    with_reducible refine (Hone.out w1 (hc.le (by omega))).mono ?_
    rintro e w2 ⟨t, rfl, hc2, hg2⟩
    have hs := hg2.size
    cases t
    · have hp1 := fun W hW => pick_any n W w.heap.size 502 hW (by omega) (by omega) (by omega)
      have hc2' : Cur w2.drew w.heap.size 502 := hc2
      have hld : ∀ (i : Nat) (w3 : World), i < n → Chg (fun k => k = w.heap.size) w2.drew w3 → ∃ x : Int, ∃ B, a = some ⟨B, 0, none⟩ ∧ w3.cell? ⟨B, i, none⟩ = some (.int .i64 x) ∧ -1 ≤ x ∧ x ≤ 31 ∧ Own w.heap.size w1.heap.size w3 a n c xs ∧ w2.heap.size ≤ w3.heap.size := by
        intro i w3 hi hg3
        have ho3 := Hown.out w3 ((Chg.drew hg2).trans hg3)
        rcases ho3.cases with ⟨_, hz', _⟩ | ⟨B, rfl, _⟩
        · omega
        have hx := hn.2 _ (getD_mem (xs := xs) (k := i) rfl hi hl)
        exact ⟨_, B, rfl, getD_cells ho3 i hi, hx.1, hx.2, ho3, hg3.size⟩
      have Hp1 := Lib.hid hp1; clear hp1
      have Hld := Lib.hid hld; clear hld
      rcases ho.cases with ⟨_, hz', _⟩ | ⟨B, rfl, _⟩
      · omega
      go_wp2
      go_region_law (first | (go_simp; with_reducible refine (Hp1.out w2.drew hc2').mono ?_; rintro e w3 ⟨i, hi, rfl, hc3, hg3⟩; obtain ⟨x, B', hB, hcl, hx1, hx2, ho3, hs3⟩ := Hld.out i w3 hi hg3; cases hB))
      all_goals
        go_wp2
        go_ret2
        exact ⟨_, _, _, _, _, rfl, ho3.mono (Nat.le_refl _) (by omega), hn, hx1, hx2, (hg.trans ((Chg.drew hg2).trans hg3)).drawn⟩
    · go_wp2_with fail
      with_reducible refine (Hp.out w2 _ hc2 (by omega)).mono ?_
      rintro e w3 ⟨b, hb, rfl, hc3, hg3⟩
      have hs3 := hg3.size
      go_wp2
      go_ret2
      exact ⟨_, _, _, _, _, rfl, (Hown.out _ (hg2.trans hg3)).mono (Nat.le_refl _) (by omega), hn, by omega, by omega, (hg.trans (hg2.trans hg3)).drawn⟩
end Go.Proofs.Ytkhphdohdnfplaa
