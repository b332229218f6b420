/- The draws of chapter 3's laws. No condition but sizes. -/
import Derived.Test.YtmfdimdcoeapoaaGd
namespace Go.Proofs.Ytmfdimdcoeapoaa
open Go.RowKit
set_option linter.unusedVariables false
set_option linter.unusedSimpArgs false

theorem DrawDropOf_any (ac : Option Addr) (nc cc : Nat) (w : World) (hnc : nc ≤ 1048576) (hby : ByteIn w w.heap.size ac nc) :
    Calls Try.prog 13 #[.slice ac nc cc] w fun e w' => ∃ ao n cap xs, e = .returned (.slice ao n cap) ∧ Own w.heap.size w'.heap.size w' ao n cap xs ∧ Near xs ∧ Below w.heap.size w w' := by
  have hcon := anyPiles_any 20 _ _ 0 (cur_new w ac nc cc hnc hby) (by omega) (by omega)
  rw [show ((20 : Nat) : Int) = 20 from rfl] at hcon
  have Hcon := Lib.hid hcon; clear hcon
  have Hby := Lib.hid hby; clear hby
  go_enter Try.func13, Try.ntmps13
  go_wp2_with fail
  with_reducible refine (Hcon.out).mono ?_
  rintro e w1 ⟨a, n, c, xs, rfl, ho, hn, hc, hg⟩
  go_wp2
  go_ret
  exact ⟨_, _, _, _, rfl, ho.mono (curSize _ _) (Nat.le_refl _), hn, hg.drawn⟩
theorem DrawLevelsOf_any (ac : Option Addr) (nc cc : Nat) (w : World) (hnc : nc ≤ 1048576) (hby : ByteIn w w.heap.size ac nc) :
    Calls Try.prog 28 #[.slice ac nc cc] w fun e w' => ∃ ao n cap xs, e = .returned (.slice ao n cap) ∧ Own w.heap.size w'.heap.size w' ao n cap xs ∧ Near xs ∧ Below w.heap.size w w' := by
  have hcon := anyPiles_any 20 _ _ 0 (cur_new w ac nc cc hnc hby) (by omega) (by omega)
  rw [show ((20 : Nat) : Int) = 20 from rfl] at hcon
  have Hcon := Lib.hid hcon; clear hcon
  have Hby := Lib.hid hby; clear hby
  go_enter Try.func28, Try.ntmps28
  go_wp2_with fail
  with_reducible refine (Hcon.out).mono ?_
  rintro e w1 ⟨a, n, c, xs, rfl, ho, hn, hc, hg⟩
  go_wp2
  go_ret
  exact ⟨_, _, _, _, rfl, ho.mono (curSize _ _) (Nat.le_refl _), hn, hg.drawn⟩
theorem DrawNextDrop_any (ac : Option Addr) (nc cc : Nat) (w : World) (hnc : nc ≤ 1048576) (hby : ByteIn w w.heap.size ac nc) :
    Calls Try.prog 35 #[.slice ac nc cc] w fun e w' => ∃ ao n cap xs, e = .returned (.slice ao n cap) ∧ Own w.heap.size w'.heap.size w' ao n cap xs ∧ Near xs ∧ Below w.heap.size w w' := by
  have hcon := anyPiles_any 20 _ _ 0 (cur_new w ac nc cc hnc hby) (by omega) (by omega)
  rw [show ((20 : Nat) : Int) = 20 from rfl] at hcon
  have Hcon := Lib.hid hcon; clear hcon
  have Hby := Lib.hid hby; clear hby
  go_enter Try.func35, Try.ntmps35
  go_wp2_with fail
  with_reducible refine (Hcon.out).mono ?_
  rintro e w1 ⟨a, n, c, xs, rfl, ho, hn, hc, hg⟩
  go_wp2
  go_ret
  exact ⟨_, _, _, _, rfl, ho.mono (curSize _ _) (Nat.le_refl _), hn, hg.drawn⟩
theorem DrawPotentialsOf_any (ac : Option Addr) (nc cc : Nat) (w : World) (hnc : nc ≤ 1048576) (hby : ByteIn w w.heap.size ac nc) :
    Calls Try.prog 9 #[.slice ac nc cc] w fun e w' => ∃ ao n cap xs k, e = .returned (.tuple #[.slice ao n cap, .int .i64 k]) ∧ Own w.heap.size w'.heap.size w' ao n cap xs ∧ Near xs ∧ -1 ≤ k ∧ k ≤ 1001 ∧ Below w.heap.size w w' := by
  have hcon := anyPiles_any 18 _ _ 0 (cur_new w ac nc cc hnc hby) (by omega) (by omega)
  rw [show ((18 : Nat) : Int) = 18 from rfl] at hcon
  have hst := fun W hW => steps_any W w.heap.size 500 hW (by omega)
  have Hcon := Lib.hid hcon; clear hcon
  have Hby := Lib.hid hby; clear hby
  have Hst := Lib.hid hst; clear hst
  go_enter Try.func9, Try.ntmps9
  go_wp2_with fail
  with_reducible refine (Hcon.out).mono ?_
  rintro e w1 ⟨a, n, c, xs, rfl, ho, hn, hc, hg⟩
  have hlt := hc.lt
  go_wp2_with fail
  with_reducible refine (Hst.out w1 (hc.le (by omega))).mono ?_
  rintro e w2 ⟨k, hk1, hk2, rfl, hc2, hg2⟩
  have hs := hg2.size
  go_wp2
  go_ret2
  exact ⟨_, _, _, _, _, rfl, (ho.chg hg2 (fun j h1 _ _ e => by rw [e] at h1; simp at h1; omega)).mono (curSize _ _) hs, hn, hk1, hk2, (hg.trans hg2).drawn⟩
theorem DrawGreatestPotential_any (ac : Option Addr) (nc cc : Nat) (w : World) (hnc : nc ≤ 1048576) (hby : ByteIn w w.heap.size ac nc) :
    Calls Try.prog 22 #[.slice ac nc cc] w fun e w' => ∃ r : Int, -1 ≤ r ∧ r ≤ 29 ∧ e = .returned (.int .i64 r) ∧ Below w.heap.size w w' := by
  have hcon := cards_any 28 _ _ 0 (cur_new w ac nc cc hnc hby) (by omega) (by omega)
  rw [show ((28 : Nat) : Int) = 28 from rfl] at hcon
  have Hcon := Lib.hid hcon; clear hcon
  have Hby := Lib.hid hby; clear hby
  go_enter Try.func22, Try.ntmps22
  go_wp2_with fail
  with_reducible refine (Hcon.out).mono ?_
  rintro e w1 ⟨b, h1, h2, rfl, hc, hg⟩
  go_wp2
  go_ret
  exact ⟨_, h1, h2, rfl, hg.drawn⟩
theorem DrawRoundOf_any (ac : Option Addr) (nc cc : Nat) (w : World) (hnc : nc ≤ 1048576) (hby : ByteIn w w.heap.size ac nc) :
    Calls Try.prog 42 #[.slice ac nc cc] w fun e w' => ∃ l k : Int, -1 ≤ l ∧ l ≤ 29 ∧ -1 ≤ k ∧ k ≤ 1001 ∧ e = .returned (.tuple #[.int .i64 l, .int .i64 k]) ∧ Below w.heap.size w w' := by
  have hcon := cards_any 20 _ _ 0 (cur_new w ac nc cc hnc hby) (by omega) (by omega)
  rw [show ((20 : Nat) : Int) = 20 from rfl] at hcon
  have hst := fun W hW => steps_any W w.heap.size 4 hW (by omega)
  have Hcon := Lib.hid hcon; clear hcon
  have Hby := Lib.hid hby; clear hby
  have Hst := Lib.hid hst; clear hst
  go_enter Try.func42, Try.ntmps42
  go_wp2_with fail
  with_reducible refine (Hcon.out).mono ?_
  rintro e w1 ⟨b, h1, h2, rfl, hc, hg⟩
  go_wp2_with fail
  with_reducible refine (Hst.out w1 (hc.le (by omega))).mono ?_
  rintro e w2 ⟨k, hk1, hk2, rfl, hc2, hg2⟩
  go_wp2
  go_ret2
  exact ⟨_, _, h1, h2, hk1, hk2, rfl, (hg.trans hg2).drawn⟩
set_option maxHeartbeats 800000 in
theorem DrawCardBehind_any (ac : Option Addr) (nc cc : Nat) (w : World) (hnc : nc ≤ 1048576) (hby : ByteIn w w.heap.size ac nc) :
    Calls Try.prog 39 #[.slice ac nc cc] w fun e w' => ∃ ao n cap xs, ∃ i j : Int, e = .returned (.tuple #[.slice ao n cap, .int .i64 i, .int .i64 j]) ∧ Own w.heap.size w'.heap.size w' ao n cap xs ∧ Near xs ∧ -2 ≤ i ∧ i ≤ 40 ∧ -2 ≤ j ∧ j ≤ 40 ∧ Below w.heap.size w w' := by
  have hcon := anyPiles_any 14 _ _ 0 (cur_new w ac nc cc hnc hby) (by omega) (by omega)
  rw [show ((14 : Nat) : Int) = 14 from rfl] at hcon
  have hp9 := fun W A hW (hA : A ≤ 600) => pick_any 9 W w.heap.size A hW (by omega) (by omega) (by omega)
  simp only [show ((9 : Nat) : Int) = 9 from rfl] at hp9
  have hp5 := fun W A hW (hA : A ≤ 600) => pick_any 5 W w.heap.size A hW (by omega) (by omega) (by omega)
  simp only [show ((5 : Nat) : Int) = 5 from rfl] at hp5
  have Hcon := Lib.hid hcon; clear hcon
  have Hby := Lib.hid hby; clear hby
  have Hp9 := Lib.hid hp9; clear hp9
  have Hp5 := Lib.hid hp5; clear hp5
  go_enter Try.func39, Try.ntmps39
  go_wp2_with fail
  with_reducible refine (Hcon.out).mono ?_
  rintro e w1 ⟨a, n, c, xs, rfl, ho, hn, hc, hg⟩
  have hlt := hc.lt
  have hn29 : n ≤ 29 := by have := ho.length; have := hn.1; omega
  have hpn := pick_any (n + 2) w1 w.heap.size 500 (hc.le (by omega)) (by omega) (by omega) (by omega)
  rw [show ((n + 2 : Nat) : Int) = (n : Int) + 2 by omega] at hpn
  have Hpn := Lib.hid hpn; clear hpn
  go_wp2_with fail
  with_reducible refine (Hpn.out).mono ?_
  rintro e w2 ⟨i1, hi1, rfl, hc2, hg2⟩
  have hi18 : (i1 : Int) ≤ 31 := by omega
  go_wp2_with fail
  with_reducible refine (Hp9.out w2 _ hc2 (by omega)).mono ?_
  rintro e w3 ⟨i2, hi2, rfl, hc3, hg3⟩
  have hi28 : (i2 : Int) ≤ 8 := by omega
  obtain ⟨d2, hd2, hd28⟩ : ∃ d : Int, Int.tdiv (i2 : Int) 8 = d ∧ 0 ≤ d ∧ d ≤ 1 := ⟨_, rfl, by rw [Int.tdiv_eq_ediv_of_nonneg (by omega)]; omega⟩
  go_wp2_with fail
  with_reducible refine (Hp5.out w3 _ hc3 (by omega)).mono ?_
  rintro e w4 ⟨i3, hi3, rfl, hc4, hg4⟩
  have hi38 : (i3 : Int) ≤ 4 := by omega
  go_wp2_with fail
  with_reducible refine (Hp9.out w4 _ hc4 (by omega)).mono ?_
  rintro e w5 ⟨i4, hi4, rfl, hc5, hg5⟩
  have hi48 : (i4 : Int) ≤ 8 := by omega
  obtain ⟨d4, hd4, hd48⟩ : ∃ d : Int, Int.tdiv (i4 : Int) 8 = d ∧ 0 ≤ d ∧ d ≤ 1 := ⟨_, rfl, by rw [Int.tdiv_eq_ediv_of_nonneg (by omega)]; omega⟩
  have hgg := ((hg2.trans hg3).trans hg4).trans hg5
  have hs := hgg.size
  go_wp2
  go_ret3
  exact ⟨_, _, _, _, _, _, rfl, (ho.chg hgg (fun j h1 _ _ e => by rw [e] at h1; simp at h1; omega)).mono (curSize _ _) hs, hn, by omega, by omega, by omega, by omega, (hg.trans hgg).drawn⟩
end Go.Proofs.Ytmfdimdcoeapoaa
