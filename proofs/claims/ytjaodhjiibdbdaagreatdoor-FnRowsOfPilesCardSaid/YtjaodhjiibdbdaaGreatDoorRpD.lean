/- The draws of FnRowsOfPiles. No condition but a size. -/
import Derived.Test.YtjaodhjiibdbdaaGreatDoorDsA
import Derived.Test.YtjaodhjiibdbdaaGreatDoorGm
import Derived.Test.YtjaodhjiibdbdaaGreatDoorRpM
import Derived.Test.YtjaodhjiibdbdaaGreatDoorRtA
namespace Go.Proofs.YtjaodhjiibdbdaaGreatDoor
open Go.RowKit
set_option linter.unusedVariables false
set_option linter.unusedSimpArgs false
set_option maxRecDepth 20000

theorem DrawRowsOfPiles_any (ac : Option Addr) (nc cc : Nat) (w : World) (hnc : nc ≤ 1048576) (hby : ByteIn w w.heap.size ac nc) :
    Calls Tryz.prog 6 #[.slice ac nc cc] w fun e w' => ∃ ao n cap xs, e = .returned (.slice ao n cap) ∧ Own w.heap.size w'.heap.size w' ao n cap xs ∧ Near xs ∧ Below w.heap.size w w' := by
  have hcon := anyPiles_any 28 _ _ 0 (cur_new w ac nc cc hnc hby) (by omega) (by omega)
  rw [show ((28 : Nat) : Int) = 28 from rfl] at hcon
  have Hcon := Lib.hid hcon; clear hcon
  have Hby := Lib.hid hby; clear hby
  go_enter Tryz.func6, Tryz.ntmps6
  go_wp2_with fail
  with_reducible refine (Hcon.out).mono ?_
  rintro e w1 ⟨a, n, c, xs, rfl, ho, hn, hc, hg⟩
  go_wp2
  go_ret
  exact ⟨_, _, _, _, rfl, ho.mono (curSize _ _) (Nat.le_refl _), hn, hg.drawn⟩
theorem DrawRowText_any (ac : Option Addr) (nc cc : Nat) (w : World) (hnc : nc ≤ 1048576) (hby : ByteIn w w.heap.size ac nc) :
    Calls Tryz.prog 15 #[.slice ac nc cc] w fun e w' => ∃ ao n cap xs, e = .returned (.slice ao n cap) ∧ Own w.heap.size w'.heap.size w' ao n cap xs ∧ n ≤ 29 ∧ Below w.heap.size w w' := by
  have hcon := DrawIsRow_any ac nc cc w hnc hby
  have Hcon := Lib.hid hcon; clear hcon
  have Hby := Lib.hid hby; clear hby
  go_enter Tryz.func15, Tryz.ntmps15
  go_wp2_with fail
  with_reducible refine (Hcon.out).mono ?_
  rintro e w1 ⟨a, n, c, xs, rfl, ho, hn, hg⟩
  go_wp2
  go_ret
  exact ⟨_, _, _, _, rfl, ho, hn, hg⟩
set_option maxHeartbeats 1600000 in
theorem DrawParseRow_any (ac : Option Addr) (nc cc : Nat) (w : World) (hnc : nc ≤ 1048576) (hby : ByteIn w w.heap.size ac nc) :
    Calls Tryz.prog 19 #[.slice ac nc cc] w fun e w' => ∃ s : ByteArray, e = .returned (.string s) ∧ s.size ≤ 1004 ∧ Below w.heap.size w w' := by
  have hcon := row_any 14 _ _ 0 (cur_new w ac nc cc hnc hby) (by omega) (by omega)
  rw [show ((14 : Nat) : Int) = 14 from rfl] at hcon
  have hone := fun W hW => one_any 3 W w.heap.size 500 hW (by omega) (by omega) (by omega)
  rw [show ((3 : Nat) : Int) = 3 from rfl] at hone
  have hsp := fun (t : ByteArray) W hW (q : t.size ≤ 1000) => spoilt_any t ⟨#[48, 49, 50, 51, 44, 45]⟩ W w.heap.size 502 hW (by omega) q (by decide) (by decide)
  have Hcon := Lib.hid hcon; clear hcon
  have Hby := Lib.hid hby; clear hby
  have Hone := Lib.hid hone; clear hone
  have Hsp := Lib.hid hsp; clear hsp
  go_enter Tryz.func19, Tryz.ntmps19
  go_wp2_with fail
  with_reducible refine (Hcon.out).mono ?_
  rintro e w1 ⟨a, n, c, xs, rfl, ho, hn, hc, hg⟩
  have hlt := hc.lt
  have hgd := roGood_any a n c xs w1 ho.at
  have hgB : Below w.heap.size w w1 := hg.drawn
  have key : ∀ (T : ByteArray) (w2 : World), T.size ≤ 1000 → Below w1.heap.size w1 w2 → Hid (Cur w2 w.heap.size 500 ∧ Below w.heap.size w w2) := fun T w2 h1 h2 =>
    Lib.hid ⟨(hc.keep h2).le (by omega), belowTrans hgB h2 (Nat.le_refl _)⟩
  by_cases hk : RowOk xs
  · have htx := roText_any a n c xs w1 ho.at hk
    have hsm := textW_small hk
    have hsz : (⟨(textW xs).toArray⟩ : ByteArray).size ≤ 1000 := by show (textW xs).toArray.size ≤ _; rw [List.size_toArray]; omega
    rw [row_iff.2 hk] at hgd
    generalize (⟨(textW xs).toArray⟩ : ByteArray) = T at *
    have Hgd := Lib.hid hgd; clear hgd
    have Htx := Lib.hid htx; clear htx
    have Hsm := Lib.hid hsm; clear hsm
    have Key := Lib.hid key; clear key
    clear ho hc hg hgB hk
    go_wp2_with fail
    with_reducible refine (Hgd.out).mono ?_
    rintro e w' ⟨rfl, rfl⟩
    go_wp2_with fail
    with_reducible refine (Htx.out).mono ?_
    rintro e w2 ⟨rfl, hb2⟩
    obtain ⟨hc2, hb⟩ := (Key.out T w2 hsz hb2).out
    clear Key Hgd Htx hb2
    have hs2 := hb.size
    go_wp2_with fail
    with_reducible refine (Hone.out _ hc2).mono ?_
    rintro e w3 ⟨t, rfl, hc3, hg3⟩
    have hb3 : Below w.heap.size w w3 := hb.trans (hg3.below (by omega) (fun k hk => by omega))
    cases t
    · have Hb3 := Lib.hid hb3; clear hb3
      go_wp2
      go_ret
      exact ⟨T, rfl, by omega, Hb3.out⟩
    · go_wp2_with fail
      with_reducible refine (Hsp.out T _ hc3 hsz).mono ?_
      rintro e w4 ⟨s, rfl, hss, hc4, hg4⟩
      have hs3 := hb3.size
      have hb4 : Below w.heap.size w w4 := hb3.trans (hg4.below (by omega) (fun k hk => by omega))
      have Hb4 := Lib.hid hb4; clear hb4
      go_wp2
      go_ret
      exact ⟨s, rfl, hss, Hb4.out⟩
  · have hsz : (⟨#[50, 44, 49]⟩ : ByteArray).size ≤ 1000 := by decide
    rw [show rowB xs = false from Bool.eq_false_iff.2 (fun q => hk (row_iff.1 q))] at hgd
    obtain ⟨hc2, hb⟩ := (key ⟨#[50, 44, 49]⟩ w1 hsz (Below.refl _ _)).out
    have Hgd := Lib.hid hgd; clear hgd
    clear ho hc hg hgB hk key
    go_wp2_with fail
    with_reducible refine (Hgd.out).mono ?_
    rintro e w' ⟨rfl, rfl⟩
    have hs2 := hb.size
    go_wp2_with fail
    with_reducible refine (Hone.out _ hc2).mono ?_
    rintro e w3 ⟨t, rfl, hc3, hg3⟩
    have hb3 : Below w.heap.size w w3 := hb.trans (hg3.below (by omega) (fun k hk => by omega))
    cases t
    · have Hb3 := Lib.hid hb3; clear hb3
      go_wp2
      go_ret
      exact ⟨_, rfl, by omega, Hb3.out⟩
    · go_wp2_with fail
      with_reducible refine (Hsp.out _ _ hc3 hsz).mono ?_
      rintro e w4 ⟨s, rfl, hss, hc4, hg4⟩
      have hs3 := hb3.size
      have hb4 : Below w.heap.size w w4 := hb3.trans (hg4.below (by omega) (fun k hk => by omega))
      have Hb4 := Lib.hid hb4; clear hb4
      go_wp2
      go_ret
      exact ⟨s, rfl, hss, Hb4.out⟩
/-- a sum of any numbers: some number -/
theorem xSum_some (ao : Option Addr) (n cap : Nat) (xs : List Int) (w : World) (h : IntsAt w ao n cap xs) :
    Calls Tryz.prog 10 #[.slice ao n cap] w fun e w' => (∃ z : Int, e = .returned (.int .i64 z)) ∧ w = w' := by
  have hn := h.lenInt
  go_enter Tryz.func10, Tryz.ntmps10
  go_wp2
  go_loop [3, 8] (fun s i => ∃ k : Nat, ∃ t : Int, k ≤ n ∧ i = .int .i64 k ∧ s = .int .i64 t) (fun _ i => n - (intOf i).toNat)
  case atStart => exact ⟨0, 0, Nat.zero_le _, rfl, rfl⟩
  case round =>
    obtain ⟨k, t, hk, rfl, rfl⟩ := hrel
    by_cases hlt : k < n
    · obtain ⟨b, o, rfl, hb, hc⟩ := h.cell k hlt
      have hck := hc k hlt
      clear hc
      generalize hx : xs.getD k 0 = x at hck
      have Hx := Lib.hid hx; clear hx
      clear h
      go_wp2
      go_round
      case rel => exact ⟨k + 1, _, by omega, by go_num, rfl⟩
      case measure => simp [intOf]; omega
    · go_wp2
      go_ret
      exact ⟨⟨_, rfl⟩, rfl⟩
end Go.Proofs.YtjaodhjiibdbdaaGreatDoor
