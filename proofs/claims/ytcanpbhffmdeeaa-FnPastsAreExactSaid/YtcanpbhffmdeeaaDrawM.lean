/- The draws of chapter 2's laws. No condition but sizes. -/
import Derived.Test.YtcanpbhffmdeeaaDrawC
import Derived.Test.YtcanpbhffmdeeaaWith
import Derived.Test.YtcanpbhffmdeeaaPileF
import Derived.Test.YtcanpbhffmdeeaaStep
namespace Go.Proofs.Ytcanpbhffmdeeaa
open Go.RowKit
set_option linter.unusedVariables false
set_option linter.unusedSimpArgs false

theorem good_sum0 {x : List Int} (hg : Good x) : 0 ≤ x.sum := by have := sum_nonneg hg.1; omega

theorem DrawCycleOf_any (ac : Option Addr) (nc cc : Nat) (w : World) (hnc : nc ≤ 1048576) (hby : ByteIn w w.heap.size ac nc) :
    Calls Try.prog 57 #[.slice ac nc cc] w fun e w' => ∃ ao n cap xs, e = .returned (.slice ao n cap) ∧ Own w.heap.size w'.heap.size w' ao n cap xs ∧ Near xs ∧ Below w.heap.size w w' := by
  have hcon := anyPiles_any 20 _ _ 0 (cur_new w ac nc cc hnc hby) (by omega) (by omega)
  rw [show ((20 : Nat) : Int) = 20 from rfl] at hcon
  have Hcon := Lib.hid hcon; clear hcon
  have Hby := Lib.hid hby; clear hby
  go_enter Try.func57, Try.ntmps57
  go_wp2_with fail
  with_reducible refine (Hcon.out).mono ?_
  rintro e w1 ⟨a, n, c, xs, rfl, ho, hn, hc, hg⟩
  go_wp2
  go_ret
  exact ⟨_, _, _, _, rfl, ho.mono (curSize _ _) (Nat.le_refl _), hn, hg.drawn⟩

set_option maxHeartbeats 800000 in
theorem DrawMeetOfPlays_any (ac : Option Addr) (nc cc : Nat) (w : World) (hnc : nc ≤ 1048576) (hby : ByteIn w w.heap.size ac nc) :
    Calls Try.prog 81 #[.slice ac nc cc] w fun e w' => ∃ ao n cap xs bo m cap' ys, e = .returned (.tuple #[.slice ao n cap, .slice bo m cap']) ∧ Own w.heap.size w'.heap.size w' ao n cap xs ∧ Own w.heap.size w'.heap.size w' bo m cap' ys ∧ Below w.heap.size w w' := by
  have hcon := fun W A (h : Cur W w.heap.size A) (hA : A ≤ 700000000) => anyPiles_any 16 W w.heap.size A h hA (by omega)
  simp only [show ((16 : Nat) : Int) = 16 from rfl] at hcon
  have hone := fun W hW => one_any 6 W w.heap.size 500 hW (by omega) (by omega) (by omega)
  simp only [show ((6 : Nat) : Int) = 6 from rfl] at hone
  have hcur := cur_new w ac nc cc hnc hby
  have Hcon := Lib.hid hcon; clear hcon
  have Hby := Lib.hid hby; clear hby
  have Hone := Lib.hid hone; clear hone
  go_enter Try.func81, Try.ntmps81
  go_wp2_with fail
  with_reducible refine (Hcon.out _ _ hcur (by omega)).mono ?_
  rintro e w1 ⟨a, n, c, xs, rfl, ho, hn, hc, hg⟩
  have hlt := hc.lt
  have hown : ∀ W, Chg (fun k => k = w.heap.size) w1 W → Own w.heap.size w1.heap.size W a n c xs := fun W hW => (ho.chg hW (fun j h1 _ _ e => by rw [e] at h1; simp at h1; omega)).mono (curSize _ _) (Nat.le_refl _)
  have hat := ho.at
  by_cases hgd : goodB xs = true
  · have hgood := good_iff.1 hgd
    have hp := piGood_yes a n c xs w1 hat hgood
    have hp2 := fun W hW => piSum_any a n c xs W hW hgood
    obtain ⟨S, hS, hS8⟩ : ∃ S : Nat, xs.sum = S ∧ S ≤ 28 := by
      have h0 := good_sum0 hgood
      have h1 := hgood.2.2
      exact ⟨xs.sum.toNat, by omega, by omega⟩
    rw [hS] at hp2
    have hc1 : 1 ≤ cnt S S := by
      have : ∀ n, n < 29 → 1 ≤ cnt n n := by decide +kernel
      exact this S (by omega)
    have hcp := cnt_le S (by omega) S (by omega)
    have hcount := fun W => piCount_any S S W hS8 hS8
    have hpk := fun W hW => pick_any (cnt S S) W w.heap.size 502 hW (by omega) hc1 (by omega)
    have hwith := fun r W => spec_PilesWith S r W
    generalize cnt S S = C at *
    have Hp := Lib.hid hp; clear hp
    have Hp2 := Lib.hid hp2; clear hp2
    have Hown := Lib.hid hown; clear hown
    have Hcount := Lib.hid hcount; clear hcount
    have Hpk := Lib.hid hpk; clear hpk
    have Hwith := Lib.hid hwith; clear hwith
    go_wp2_with fail
    with_reducible refine (Hp.out).mono ?_
    rintro e w' ⟨rfl, rfl⟩
    go_wp2_with fail
    with_reducible refine (Hone.out w1 hc).mono ?_
    rintro e w2 ⟨t, rfl, hc2, hg2⟩
    have hs2 := hg2.size
    cases t
    · go_wp2_with fail
      with_reducible refine (Hp2.out w2 (Hown.out _ hg2).at).mono ?_
      rintro e w' ⟨rfl, rfl⟩
      go_wp2_with fail
      with_reducible refine (Hcount.out w2).mono ?_
      rintro e w3 ⟨rfl, hb3⟩
      have hc3 := hc2.keep hb3
      have hg3 := hg2.trans (Chg.ofBelow hb3)
      go_wp2_with fail
      with_reducible refine (Hpk.out w3 hc3).mono ?_
      rintro e w4 ⟨b, hb, rfl, hc4, hg4⟩
      have hg34 := hg3.trans hg4
      go_wp2_with fail
      with_reducible refine (Hwith.out b w4).mono ?_
      rintro e w5 ⟨p5, n5, c5, rfl, ho5, hb5⟩
      have hg5 := hg34.trans (Chg.ofBelow hb5)
      have hs5 := hg5.size
      have hs34 := hg34.size
      have hs1 : w.heap.size ≤ w1.heap.size := by omega
      go_wp2
      go_ret2
      exact ⟨_, _, _, _, _, _, _, _, rfl, (Hown.out _ hg5).mono (Nat.le_refl _) hs5, ho5.mono (by omega) (Nat.le_refl _), (hg.trans hg5).drawn⟩
    · go_wp2_with fail
      with_reducible refine (Hcon.out w2 _ hc2 (by omega)).mono ?_
      rintro e w3 ⟨a3, n3, c3, ys, rfl, ho3, hn3, hc3, hg3⟩
      have hg23 := hg2.trans hg3
      have hs3 := hg23.size
      go_wp2
      go_ret2
      exact ⟨_, _, _, _, _, _, _, _, rfl, (Hown.out _ hg23).mono (Nat.le_refl _) hs3, ho3.mono (by omega) (Nat.le_refl _), (hg.trans hg23).drawn⟩
  · have hp := piGood_no a n c xs w1 hat (by simpa using hgd)
    have Hp := Lib.hid hp; clear hp
    have Hown := Lib.hid hown; clear hown
    go_wp2_with fail
    with_reducible refine (Hp.out).mono ?_
    rintro e w' ⟨rfl, rfl⟩
    go_wp2_with fail
    with_reducible refine (Hcon.out w1 _ hc (by omega)).mono ?_
    rintro e w3 ⟨a3, n3, c3, ys, rfl, ho3, hn3, hc3, hg3⟩
    have hs3 := hg3.size
    go_wp2
    go_ret2
    exact ⟨_, _, _, _, _, _, _, _, rfl, (Hown.out _ hg3).mono (Nat.le_refl _) hs3, ho3.mono (by omega) (Nat.le_refl _), (hg.trans hg3).drawn⟩

set_option maxHeartbeats 800000 in
theorem DrawPastsOf_any (ac : Option Addr) (nc cc : Nat) (w : World) (hnc : nc ≤ 1048576) (hby : ByteIn w w.heap.size ac nc) :
    Calls Try.prog 26 #[.slice ac nc cc] w fun e w' => ∃ ao n cap xs, e = .returned (.slice ao n cap) ∧ Own w.heap.size w'.heap.size w' ao n cap xs ∧ Below w.heap.size w w' := by
  have hcon := anyPiles_any 20 _ _ 0 (cur_new w ac nc cc hnc hby) (by omega) (by omega)
  rw [show ((20 : Nat) : Int) = 20 from rfl] at hcon
  have hone := fun W hW => one_any 2 W w.heap.size 500 hW (by omega) (by omega) (by omega)
  simp only [show ((2 : Nat) : Int) = 2 from rfl] at hone
  have Hcon := Lib.hid hcon; clear hcon
  have Hby := Lib.hid hby; clear hby
  have Hone := Lib.hid hone; clear hone
  go_enter Try.func26, Try.ntmps26
  go_wp2_with fail
  with_reducible refine (Hcon.out).mono ?_
  rintro e w1 ⟨a, n, c, xs, rfl, ho, hn, hc, hg⟩
  have hlt := hc.lt
  have hown : ∀ W, Chg (fun k => k = w.heap.size) w1 W → Own w.heap.size w1.heap.size W a n c xs := fun W hW => (ho.chg hW (fun j h1 _ _ e => by rw [e] at h1; simp at h1; omega)).mono (curSize _ _) (Nat.le_refl _)
  have hat := ho.at
  by_cases hgd : goodB xs = true
  · have hgood := good_iff.1 hgd
    have hp := piGood_yes a n c xs w1 hat hgood
    have hst := fun W h => piStep_any a n c xs W h hgood
    have Hp := Lib.hid hp; clear hp
    have Hst := Lib.hid hst; clear hst
    have Hown := Lib.hid hown; clear hown
    go_wp2_with fail
    with_reducible refine (Hp.out).mono ?_
    rintro e w' ⟨rfl, rfl⟩
    go_wp2_with fail
    with_reducible refine (Hone.out w1 hc).mono ?_
    rintro e w2 ⟨t, rfl, hc2, hg2⟩
    have hs2 := hg2.size
    cases t
    · go_wp2
      go_ret
      exact ⟨_, _, _, _, rfl, (Hown.out _ hg2).mono (Nat.le_refl _) hs2, (hg.trans hg2).drawn⟩
    · go_wp2_with fail
      with_reducible refine (Hst.out w2 (Hown.out _ hg2).at).mono ?_
      rintro e w3 ⟨p3, n3, c3, rfl, ho3, hb3⟩
      have hg3 := hg2.trans (Chg.ofBelow hb3)
      have hs3 := hg3.size
      go_wp2
      go_ret
      exact ⟨_, _, _, _, rfl, ho3.mono (by omega) (Nat.le_refl _), (hg.trans hg3).drawn⟩
  · have hp := piGood_no a n c xs w1 hat (by simpa using hgd)
    have Hp := Lib.hid hp; clear hp
    go_wp2_with fail
    with_reducible refine (Hp.out).mono ?_
    rintro e w' ⟨rfl, rfl⟩
    go_wp2
    go_ret
    exact ⟨_, _, _, _, rfl, ho.mono (curSize _ _) (Nat.le_refl _), hg.drawn⟩
end Go.Proofs.Ytcanpbhffmdeeaa
