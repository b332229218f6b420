/- The draws of chapter 2's laws. No condition but sizes. -/
import Derived.Test.YtkhphdohdnfplaaDrawC
import Derived.Test.YtkhphdohdnfplaaWith
import Derived.Test.YtkhphdohdnfplaaPileF
import Derived.Test.YtkhphdohdnfplaaStep
namespace Go.Proofs.Ytkhphdohdnfplaa
open Go.RowKit
set_option linter.unusedVariables false
set_option linter.unusedSimpArgs false

theorem good_sum0 {x : List Int} (hg : Good x) : 0 ≤ x.sum := by have := sum_nonneg hg.1; omega

set_option maxHeartbeats 800000 in
theorem DrawPastsOf_any (ac : Option Addr) (nc cc : Nat) (w : World) (hnc : nc ≤ 1048576) (hby : ByteIn w w.heap.size ac nc) :
    Calls Try.prog 37 #[.slice ac nc cc] w fun e w' => ∃ ao n cap xs, e = .returned (.slice ao n cap) ∧ Own w.heap.size w'.heap.size w' ao n cap xs ∧ Below w.heap.size w w' := by
  have hcon := anyPiles_any 20 _ _ 0 (cur_new w ac nc cc hnc hby) (by omega) (by omega)
  rw [show ((20 : Nat) : Int) = 20 from rfl] at hcon
  have hone := fun W hW => one_any 2 W w.heap.size 500 hW (by omega) (by omega) (by omega)
  simp only [show ((2 : Nat) : Int) = 2 from rfl] at hone
  have Hcon := Lib.hid hcon; clear hcon
  have Hby := Lib.hid hby; clear hby
  have Hone := Lib.hid hone; clear hone
  go_enter Try.func37, Try.ntmps37
  go_wp2_with fail
  with_reducible refine (Hcon.out).mono ?_
  rintro e w1 ⟨a, n, c, xs, rfl, ho, hn, hc, hg⟩
  have hlt := hc.lt
  have hown : ∀ W, Chg (fun k => k = w.heap.size) w1 W → Own w.heap.size w1.heap.size W a n c xs := fun W hW => (ho.chg hW (fun j h1 _ _ e => by rw [e] at h1; simp at h1; omega)).mono (curSize _ _) (Nat.le_refl _)
  have hat := ho.at
  by_cases hgd : goodB xs = true
  · have hgood := good_iff.1 hgd
    have hp := piGood_yes a n c xs w1 hat hgood
    have hst := fun W h => piStep_any a n c xs W h hgood
    have Hp := Lib.hid hp; clear hp
    have Hst := Lib.hid hst; clear hst
    have Hown := Lib.hid hown; clear hown
    go_wp2_with fail
    with_reducible refine (Hp.out).mono ?_
    rintro e w' ⟨rfl, rfl⟩
    go_wp2_with fail
    with_reducible refine (Hone.out w1 hc).mono ?_
    rintro e w2 ⟨t, rfl, hc2, hg2⟩
    have hs2 := hg2.size
    cases t
    · go_wp2
      go_ret
      exact ⟨_, _, _, _, rfl, (Hown.out _ hg2).mono (Nat.le_refl _) hs2, (hg.trans hg2).drawn⟩
    · go_wp2_with fail
      with_reducible refine (Hst.out w2 (Hown.out _ hg2).at).mono ?_
      rintro e w3 ⟨p3, n3, c3, rfl, ho3, hb3⟩
      have hg3 := hg2.trans (Chg.ofBelow hb3)
      have hs3 := hg3.size
      go_wp2
      go_ret
      exact ⟨_, _, _, _, rfl, ho3.mono (by omega) (Nat.le_refl _), (hg.trans hg3).drawn⟩
  · have hp := piGood_no a n c xs w1 hat (by simpa using hgd)
    have Hp := Lib.hid hp; clear hp
    go_wp2_with fail
    with_reducible refine (Hp.out).mono ?_
    rintro e w' ⟨rfl, rfl⟩
    go_wp2
    go_ret
    exact ⟨_, _, _, _, rfl, ho.mono (curSize _ _) (Nat.le_refl _), hg.drawn⟩
end Go.Proofs.Ytkhphdohdnfplaa
