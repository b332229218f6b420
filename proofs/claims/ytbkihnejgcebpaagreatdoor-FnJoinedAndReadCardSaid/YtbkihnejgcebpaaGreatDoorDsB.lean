/- The draws of FnJoinedAndRead. No condition but a size. -/
import Derived.Test.YtbkihnejgcebpaaGreatDoorDsA
namespace Go.Proofs.YtbkihnejgcebpaaGreatDoor
open Go.RowKit
set_option linter.unusedVariables false
set_option linter.unusedSimpArgs false
set_option maxRecDepth 20000

theorem curSizeB (w : World) (o : Obj) : w.heap.size ≤ (w.alloc o).heap.size := by simp
theorem textL_small {xs : List Int} (hl : xs.length ≤ 28) (h : ∀ x ∈ xs, x ≤ 28) : (textL xs).length ≤ 100 := by
  unfold textL
  split
  · simp
  · have := joinL_length h xs.length
    rw [List.take_length] at this
    omega
theorem DrawJoinPiles_any (ac : Option Addr) (nc cc : Nat) (w : World) (hnc : nc ≤ 1048576) (hby : ByteIn w w.heap.size ac nc) :
    Calls Tryz.prog 8 #[.slice ac nc cc] w fun e w' => ∃ ao n cap xs bo m cap' ys, e = .returned (.tuple #[.slice ao n cap, .slice bo m cap']) ∧ Own w.heap.size w'.heap.size w' ao n cap xs ∧ Own w.heap.size w'.heap.size w' bo m cap' ys ∧ Near xs ∧ Near ys ∧ Below w.heap.size w w' := by
  have hcon := anyPiles_any 12 _ _ 0 (cur_new w ac nc cc hnc hby) (by omega) (by omega)
  rw [show ((12 : Nat) : Int) = 12 from rfl] at hcon
  have hst := fun W hW => anyPiles_any 16 W w.heap.size 500 hW (by omega) (by omega)
  rw [show ((16 : Nat) : Int) = 16 from rfl] at hst
  have Hcon := Lib.hid hcon; clear hcon
  have Hby := Lib.hid hby; clear hby
  have Hst := Lib.hid hst; clear hst
  go_enter Tryz.func8, Tryz.ntmps8
  go_wp2_with fail
  with_reducible refine (Hcon.out).mono ?_
  rintro e w1 ⟨a, n, c, xs, rfl, ho, hn, hc, hg⟩
  have hlt := hc.lt
  go_wp2_with fail
  with_reducible refine (Hst.out w1 (hc.le (by omega))).mono ?_
  rintro e w2 ⟨b, m, d, ys, rfl, ho2, hm, hc2, hg2⟩
  have hs := hg2.size
  have hs1 := hg.size
  go_wp2
  go_ret2
  exact ⟨_, _, _, _, _, _, _, _, rfl, (ho.chg hg2 (fun j h1 _ _ e => by rw [e] at h1; simp at h1; omega)).mono (curSizeB _ _) hs, ho2.mono (Nat.le_trans (curSizeB _ _) hs1) (Nat.le_refl _), hn, hm, (hg.trans hg2).drawn⟩
set_option maxHeartbeats 1600000 in
theorem DrawParsePiles_any (ac : Option Addr) (nc cc : Nat) (w : World) (hnc : nc ≤ 1048576) (hby : ByteIn w w.heap.size ac nc) :
    Calls Tryz.prog 12 #[.slice ac nc cc] w fun e w' => ∃ s : ByteArray, e = .returned (.string s) ∧ s.size ≤ 1004 ∧ Below w.heap.size w w' := by
  have hcon := drawPiles_any 16 _ _ 0 (cur_new w ac nc cc hnc hby) (by omega) (by omega)
  rw [show ((16 : Nat) : Int) = 16 from rfl] at hcon
  have hone := fun W hW => one_any 3 W w.heap.size 200 hW (by omega) (by omega) (by omega)
  rw [show ((3 : Nat) : Int) = 3 from rfl] at hone
  have hsp := fun (t : ByteArray) W hW (q : t.size ≤ 1000) => spoilt_any t ⟨#[48, 49, 50, 57, 43, 45]⟩ W w.heap.size 202 hW (by omega) q (by decide) (by decide)
  have Hcon := Lib.hid hcon; clear hcon
  have Hby := Lib.hid hby; clear hby
  have Hone := Lib.hid hone; clear hone
  have Hsp := Lib.hid hsp; clear hsp
  go_enter Tryz.func12, Tryz.ntmps12
  go_wp2_with fail
  with_reducible refine (Hcon.out).mono ?_
  rintro e w1 ⟨a, n, c, xs, rfl, ho, hn, hpos, hc, hg⟩
  have hlt := hc.lt
  have hl := ho.length
  have htx := piTextP_any a n c xs w1 ho.at (by omega) hpos
  have hsm := textL_small (xs := xs) (by omega) (fun x hx => (hpos x hx).2)
  have hsz : (⟨(textL xs).toArray⟩ : ByteArray).size ≤ 1000 := by show (textL xs).toArray.size ≤ _; rw [List.size_toArray]; omega
  generalize (⟨(textL xs).toArray⟩ : ByteArray) = T at *
  have Htx := Lib.hid htx; clear htx
  have Hpos := Lib.hid hpos; clear hpos
  have Hsm := Lib.hid hsm; clear hsm
  go_wp2_with fail
  with_reducible refine (Htx.out).mono ?_
  rintro e w2 ⟨rfl, hb2⟩
  have hc2 := hc.keep hb2
  have hgB : Below w.heap.size w w1 := hg.drawn
  have hb := belowTrans hgB hb2 (Nat.le_refl _)
  have hs2 := hb.size
  clear ho hc hg hgB hb2
  go_wp2_with fail
  with_reducible refine (Hone.out _ (hc2.le (by omega))).mono ?_
  rintro e w3 ⟨t, rfl, hc3, hg3⟩
  have hb3 : Below w.heap.size w w3 := hb.trans (hg3.below (by omega) (fun k hk => by omega))
  cases t
  · have Hb3 := Lib.hid hb3; clear hb3
    go_wp2
    go_ret
    exact ⟨T, rfl, by omega, Hb3.out⟩
  · go_wp2_with fail
    with_reducible refine (Hsp.out T _ hc3 hsz).mono ?_
    rintro e w4 ⟨s, rfl, hss, hc4, hg4⟩
    have hs3 := hb3.size
    have hb4 : Below w.heap.size w w4 := hb3.trans (hg4.below (by omega) (fun k hk => by omega))
    have Hb4 := Lib.hid hb4; clear hb4
    go_wp2
    go_ret
    exact ⟨s, rfl, hss, Hb4.out⟩
end Go.Proofs.YtbkihnejgcebpaaGreatDoor
