/- The draws of bits and of cyclic piles. No condition but sizes. -/
import Derived.Test.YtilgpaanmadchaaDrawC
import Derived.Test.YtilgpaanmadchaaOrbA
import Derived.Test.YtilgpaanmadchaaPileF
namespace Go.Proofs.Ytilgpaanmadchaa
open Go.RowKit
set_option linter.unusedVariables false
set_option linter.unusedSimpArgs false

set_option maxHeartbeats 3200000 in
set_option maxRecDepth 100000 in
theorem bits_any (w : World) (g A : Nat) (h : Cur w g A) (hA : A ≤ 700000000) :
    Calls Try.prog 97 #[.pointer (some ⟨g, 0, none⟩)] w fun e w' => ∃ ao n cap xs, e = .returned (.slice ao n cap) ∧ Own w.heap.size w'.heap.size w' ao n cap xs ∧ n ≤ 9 ∧ Near xs ∧ Cur w' g (A + 50) ∧ Chg (fun k => k = g) w w' := by
  have hcon := pick_any 6 w g A h (by omega) (by omega) (by omega)
  rw [show ((6 : Nat) : Int) = 6 from rfl] at hcon
  have hg := h.lt
  have Hcon := Lib.hid hcon; clear hcon
  go_enter Try.func97, Try.ntmps97
  go_wp2_with fail
  with_reducible refine (Hcon.out).mono ?_
  rintro e w1 ⟨N, hN, rfl, hc1, hg1⟩
  clear Hcon
  have hN8 : (N : Int) ≤ 5 := by omega
  go_wp2_with fail
  go_loopw [3, 4] (fun v i wr => ∃ (k m : Nat) (a : Option Addr) (c : Nat) (xs : List Int), v = .slice a k c ∧ i = .int .i64 m ∧ k + m = N + 1 ∧ Near xs ∧ Own w.heap.size wr.heap.size wr a k c xs ∧ Cur wr g (A + 2 + 2 * k) ∧ Chg (fun k => k = g) w wr) (fun _ i _ => (intOf i).toNat)
  case atStart => exact ⟨0, N + 1, none, 0, [], rfl, valI (by omega), by omega, ⟨by simp, fun x hx => by cases hx⟩, Own.nil _ _ _, hc1, hg1⟩
  case round =>
    obtain ⟨k, m, a, c, xs, rfl, rfl, hkm, hnear, ho, hc, hgw⟩ := hrel
    clear hc1 hg1
    have hlx := ho.length
    by_cases hz : m = 0
    · subst hz
      have hk1 : 1 ≤ k := by omega
      have hk6 : k ≤ 6 := by omega
      clear hkm
      have hpk := pick_any 14 wr g _ hc (by omega) (by omega) (by omega)
      rw [show ((14 : Nat) : Int) = 14 from rfl] at hpk
      have Hpk := Lib.hid hpk; clear hpk
      go_wp2_with fail
      with_reducible refine (Hpk.out).mono ?_
      rintro e w2 ⟨b, hb, rfl, hc2, hg2⟩
      have hs2 := hg2.size
      have hsw := hgw.size
      have ho2 : Own w.heap.size wr.heap.size w2 a k c xs := ho.chg hg2 (fun j h1 _ _ e => by omega)
      replace hg2 := hgw.trans hg2
      have hs20 := hg2.size
      clear Hpk ho hc hgw
      have hk8 : (k : Int) ≤ 6 := by omega
      have hk18 : (1 : Int) ≤ k := by omega
      by_cases h0 : b = 0
      · subst h0
        rcases ho2.cases with ⟨_, hz', _⟩ | ⟨B, rfl, hB1, hB2, hB3⟩
        · omega
        have hp1 := pick_any k w2 g _ hc2 (by omega) (by omega) (by omega)
        have hp2 := fun W hW => pick_any 4 W g (A + 2 + 2 * k + 2 + 2) hW (by omega) (by omega) (by omega)
        simp only [show ((4 : Nat) : Int) = 4 from rfl] at hp2
        have Hp1 := Lib.hid hp1; clear hp1
        have Hp2 := Lib.hid hp2; clear hp2
        go_wp2_with fail
        with_reducible refine (Hp1.out).mono ?_
        rintro e w3 ⟨i, hi, rfl, hc3, hg3⟩
        go_wp2_with fail
        with_reducible refine (Hp2.out w3 hc3).mono ?_
        rintro e w4 ⟨y, hy, rfl, hc4, hg4⟩
        have hy8 : (y : Int) ≤ 3 := by omega
        have hi8 : (i : Int) < k := by omega
        have hg34 := hg3.trans hg4
        have ho4 : Own w.heap.size wr.heap.size w4 (some ⟨B, 0, none⟩) k c xs := ho2.chg hg34 (fun j h1 _ _ e => by omega)
        have hcell := getD_cells ho4 i hi
        have hfz := ho4.frozenAt i
        have hst := ho4.set i ((y : Int) - 1)
        have hcg := Chg.ofGrown hst.2
        have hcur := hc4.chg hcg (fun k hk e => by cases e; omega)
        have hfin := (hg2.trans hg34).newer hcg (fun k e => by cases e; omega)
        have hsz := hcg.size
        have hgs := hg34.size
        generalize xs.getD i 0 = z at hcell
        have Hst := Lib.hid hst; clear hst
        have Hcur := Lib.hid hcur; clear hcur
        have Hfin := Lib.hid hfin; clear hfin
        have Hsz := Lib.hid hsz; clear hsz
        have Hgs := Lib.hid hgs; clear hgs
        clear hcg ho4 Hp1 Hp2
        go_wp2_with fail
        go_ret
        exact ⟨_, _, _, _, rfl, Hst.out.1.mono (Nat.le_refl _) (by have := Hsz.out; have := Hgs.out; omega), by omega, near_set hnear i (by omega) (by omega), Hcur.out.le (by omega), Hfin.out⟩
      by_cases h1 : b = 1
      · subst h1
        have hp := pick_any 2 w2 g _ hc2 (by omega) (by omega) (by omega)
        rw [show ((2 : Nat) : Int) = 2 from rfl] at hp
        have hp2 := fun W hW => pick_any 2 W g (A + 2 + 2 * k + 2 + 2) hW (by omega) (by omega) (by omega)
        simp only [show ((2 : Nat) : Int) = 2 from rfl] at hp2
        obtain ⟨i0, hi, hz0, hz1, hz2⟩ := info_parts Try.infoInt
        have Hp := Lib.hid hp; clear hp
        have Hp2 := Lib.hid hp2; clear hp2
        go_wp2_with fail
        with_reducible refine (Hp.out).mono ?_
        rintro e w3 ⟨t, ht, rfl, hc3, hg3⟩
        have ec : ((8 : Int) + (t : Int)) = ((8 + t : Nat) : Int) := by omega
        have hM9 : 8 + t ≤ 9 := by omega
        have hM1 : 8 ≤ 8 + t := by omega
        generalize hM : 8 + t = M at ec hM9 hM1
        have ht8 : (t : Int) ≤ 1 := by omega
        have Ec := Lib.hid ec; clear ec
        go_wp2_with (at_make; refine wpList_make_full w3 rfl _ _ _ rfl w3.heap.size 3 i0 _ 1 Try.underlying24 hi hz0 hz1 _ _ _ _ M rfl rfl Ec.out Ec.out ?_ ?_ (Nat.le_refl _) ?_)
        · rw [hz2]; omega
        · unfold maxLen; omega
        · intro w4 hown hgrow
          rw [madeZeros] at hown
          have ho4 : Own w3.heap.size w4.heap.size w4 (some ⟨w3.heap.size, 0, none⟩) M M (List.replicate M 0) := Own.of hown
          have hb4 : Below w3.heap.size w3 w4 := (Below.refl _ _).grown hgrow (Nat.le_refl _) (fun k hk => by cases hk)
          have hc4 := hc3.keep hb4
          have hg4 := (hg2.trans hg3).newer (Chg.ofBelow (S := fun _ => False) hb4) (fun k hk => hk.elim)
          have hs3 := (hg2.trans hg3).size
          have hs4 := hb4.size
          have hgl := hc3.lt
          clear hi hz0 hz1 hz2 hgrow hown hc3 hg3 hc2 hg2 ho2 Hp hb4
          generalize hBe : w3.heap.size = B at *
          have HBe := Lib.hid hBe; clear hBe
          have hM18 : (0 : Int) < M := by omega
          go_wp2_with fail
          with_reducible refine (Hp2.out w4 hc4).mono ?_
          rintro e w5 ⟨y, hy, rfl, hc5, hg5⟩
          have ho5 : Own B w4.heap.size w5 (some ⟨B, 0, none⟩) M M (List.replicate M 0) := ho4.chg hg5 (fun j h1 _ _ e => by omega)
          have hcell := getD_cells ho5 0 (by omega)
          have hfz := ho5.frozenAt 0
          have hst := ho5.set 0 (y : Int)
          have hcg := Chg.ofGrown hst.2
          have hcur := hc5.chg hcg (fun k hk e => by cases e; omega)
          have hfin := (hg4.trans hg5).newer hcg (fun k e => by cases e; omega)
          have hsz := hcg.size
          have hgs := hg5.size
          have hnz := near_zeros M (by omega)
          generalize (List.replicate M (0 : Int)).getD 0 0 = z at hcell
          generalize List.replicate M (0 : Int) = ys at *
          have Hst := Lib.hid hst; clear hst
          have Hcur := Lib.hid hcur; clear hcur
          have Hfin := Lib.hid hfin; clear hfin
          have Hsz := Lib.hid hsz; clear hsz
          have Hgs := Lib.hid hgs; clear hgs
          clear hcg ho5 ho4
          go_wp2_with fail
          go_ret
          exact ⟨_, _, _, _, rfl, Hst.out.1.mono (by omega) (by have := Hsz.out; have := Hgs.out; omega), by omega, near_set hnz 0 (by omega) (by omega), Hcur.out.le (by omega), Hfin.out⟩
      by_cases h2 : b = 2
      · subst h2
        go_wp2_with fail
        go_ret
        exact ⟨none, 0, 0, [], rfl, Own.nil _ _ _, by omega, ⟨by simp, fun x hx => by cases hx⟩, hc2.le (by omega), hg2⟩
      · have hb0 : ((b : Int) == 0) = false := by simpa using h0
        have hb1 : ((b : Int) == 1) = false := by simp; omega
        have hb2 : ((b : Int) == 2) = false := by simp; omega
        go_wp2_with fail
        go_ret
        exact ⟨_, _, _, _, rfl, ho2.mono (Nat.le_refl _) hs2, by omega, hnear, hc2.le (by omega), hg2⟩
    · have hm8 : (m : Int) ≤ 6 := by omega
      have hm1 : (0 : Int) < m := by omega
      have hp1 := pick_any 2 wr g _ hc (by omega) (by omega) (by omega)
      rw [show ((2 : Nat) : Int) = 2 from rfl] at hp1
      have hsw := hgw.size
      have Hp1 := Lib.hid hp1; clear hp1
      go_wp2_with fail
      with_reducible refine (Hp1.out).mono ?_
      rintro e w3 ⟨y, hy, rfl, hc3, hg3⟩
      have hy8 : (y : Int) ≤ 1 := by omega
      have hs3 := hg3.size
      have ho3 : Own w.heap.size wr.heap.size w3 a k c xs := ho.chg hg3 (fun j h1 _ _ e => by omega)
      have hnew : ∀ j, (Value.slice a k c).ownBlock = some j → w.heap.size ≤ j := fun j hj => (ho3.1.lt j hj).1
      have hgt := hgw.trans hg3
      clear ho hgw hc
      go_wp2_with (at_builtin; refine wpList_push w3 rfl _ _ rfl w.heap.size _ a k c _ rfl ho3 _ rfl (by omega) (by omega) ?_)
      intro a' c' w' ho' hc'
      have hcur := hc3.chg hc' (fun j hj e => by have := hnew j e; omega)
      have hfin := hgt.newer hc' hnew
      have Hcur := Lib.hid hcur; clear hcur
      have Hfin := Lib.hid hfin; clear hfin
      have Ho' := Lib.hid ho'; clear ho'
      have Hnew := Lib.hid hnew; clear hnew
      clear hc' ho3
      go_wp2_with fail
      go_roundw
      case rel => exact ⟨k + 1, m - 1, a', c', _, rfl, valI (by omega), by omega, near_snoc hnear (by omega) (by omega) (by omega), Ho'.out, Hcur.out.le (by omega), Hfin.out⟩
      case measure => simp [intOf]; omega

set_option maxHeartbeats 1600000 in
theorem cyclic_any (w : World) (g A : Nat) (h : Cur w g A) (hA : A ≤ 600000000) :
    Calls Try.prog 109 #[.pointer (some ⟨g, 0, none⟩)] w fun e w' => ∃ ao n cap xs, e = .returned (.slice ao n cap) ∧ Own w.heap.size w'.heap.size w' ao n cap xs ∧ Cur w' g (A + 550) ∧ Chg (fun k => k = g) w w' := by
  have hcon := bits_any w g A h (by omega)
  have hany := fun W hW => anyPiles_any 14 W g (A + 50) hW (by omega) (by omega)
  simp only [show ((14 : Nat) : Int) = 14 from rfl] at hany
  have hg := h.lt
  have Hcon := Lib.hid hcon; clear hcon
  have Hany := Lib.hid hany; clear hany
  go_enter Try.func109, Try.ntmps109
  go_wp2_with fail
  with_reducible refine (Hcon.out).mono ?_
  rintro e w1 ⟨a, n, c, bs, rfl, ho, hn, hnear, hc1, hg1⟩
  clear Hcon
  have hs1 := hg1.size
  have hat := ho.at
  have horb := orBits_any a n c bs w1 hat
  by_cases hb : bitsB bs = true
  · have hB := bits_iff.1 hb
    have h8 : n ≤ 8 := by have := hB.1; have := ho.length; omega
    have hfr := fun W h => orFrom_any a n c bs W h hB.isB h8
    rw [hb] at horb
    have Horb := Lib.hid horb; clear horb
    have Hfr := Lib.hid hfr; clear hfr
    have Hb := Lib.hid hb; clear hb
    have HB := Lib.hid hB; clear hB
    go_wp2_with fail
    with_reducible refine (Horb.out).mono ?_
    rintro e w' ⟨rfl, rfl⟩
    go_wp2_with fail
    with_reducible refine (Hfr.out _ hat).mono ?_
    rintro e w2 ⟨a2, n2, c2, rfl, ho2, hb2⟩
    have hpg := piGood_any a2 n2 c2 (fromB bs) w2 ho2.at
    have hat2 := hat.keep hb2
    have hg2 := hg1.newer (Chg.ofBelow (S := fun _ => False) hb2) (fun k hk => hk.elim)
    have hc2 := hc1.keep hb2
    have hs2 := hb2.size
    cases hgd : goodB (fromB bs)
    · rw [hgd] at hpg
      have Hpg := Lib.hid hpg; clear hpg
      go_wp2_with fail
      with_reducible refine (Hpg.out).mono ?_
      rintro e w' ⟨rfl, rfl⟩
      go_wp2_with fail
      with_reducible refine (Hany.out _ (hc2.le (by omega))).mono ?_
      rintro e w3 ⟨a3, n3, c3, ys, rfl, ho3, hn3, hc3, hg3⟩
      go_wp2_with fail
      go_ret
      exact ⟨_, _, _, _, rfl, ho3.mono (by omega) (Nat.le_refl _), hc3.le (by omega), hg2.trans hg3⟩
    · rw [hgd] at hpg
      have Hpg := Lib.hid hpg; clear hpg
      go_wp2_with fail
      with_reducible refine (Hpg.out).mono ?_
      rintro e w' ⟨rfl, rfl⟩
      go_wp2_with fail
      with_reducible refine (Hfr.out _ hat2).mono ?_
      rintro e w3 ⟨a3, n3, c3, rfl, ho3, hb3⟩
      go_wp2_with fail
      go_ret
      exact ⟨_, _, _, _, rfl, ho3.mono (by omega) (Nat.le_refl _), (hc2.keep hb3).le (by omega), hg2.newer (Chg.ofBelow (S := fun _ => False) hb3) (fun k hk => hk.elim)⟩
  · have hb' : bitsB bs = false := by simpa using hb
    rw [hb'] at horb
    have Horb := Lib.hid horb; clear horb
    go_wp2_with fail
    with_reducible refine (Horb.out).mono ?_
    rintro e w' ⟨rfl, rfl⟩
    go_wp2_with fail
    with_reducible refine (Hany.out _ hc1).mono ?_
    rintro e w3 ⟨a3, n3, c3, ys, rfl, ho3, hn3, hc3, hg3⟩
    go_wp2_with fail
    go_ret
    exact ⟨_, _, _, _, rfl, ho3.mono (by omega) (Nat.le_refl _), hc3.le (by omega), hg1.trans hg3⟩

set_option maxHeartbeats 800000 in
theorem DrawIsLeast_any (ac : Option Addr) (nc cc : Nat) (w : World) (hnc : nc ≤ 1048576) (hby : ByteIn w w.heap.size ac nc) :
    Calls Try.prog 63 #[.slice ac nc cc] w fun e w' => ∃ ao n cap xs, e = .returned (.slice ao n cap) ∧ Own w.heap.size w'.heap.size w' ao n cap xs ∧ Below w.heap.size w w' := by
  have hone := one_any 2 _ _ 0 (cur_new w ac nc cc hnc hby) (by omega) (by omega) (by omega)
  rw [show ((2 : Nat) : Int) = 2 from rfl] at hone
  have hany := fun W hW => anyPiles_any 14 W w.heap.size 2 hW (by omega) (by omega)
  simp only [show ((14 : Nat) : Int) = 14 from rfl] at hany
  have hcyc := fun W hW => cyclic_any W w.heap.size 2 hW (by omega)
  have Hone := Lib.hid hone; clear hone
  have Hany := Lib.hid hany; clear hany
  have Hcyc := Lib.hid hcyc; clear hcyc
  have Hby := Lib.hid hby; clear hby
  go_enter Try.func63, Try.ntmps63
  go_wp2_with fail
  with_reducible refine (Hone.out).mono ?_
  rintro e w1 ⟨t, rfl, hc1, hg1⟩
  have hlt := hc1.lt
  cases t
  · go_wp2_with fail
    with_reducible refine (Hany.out _ hc1).mono ?_
    rintro e w2 ⟨a, n, c, xs, rfl, ho, hn, hc2, hg2⟩
    go_wp2_with fail
    go_ret
    exact ⟨_, _, _, _, rfl, ho.mono (by omega) (Nat.le_refl _), (hg1.trans hg2).drawn⟩
  · go_wp2_with fail
    with_reducible refine (Hcyc.out _ hc1).mono ?_
    rintro e w2 ⟨a, n, c, xs, rfl, ho, hc2, hg2⟩
    go_wp2_with fail
    go_ret
    exact ⟨_, _, _, _, rfl, ho.mono (by omega) (Nat.le_refl _), (hg1.trans hg2).drawn⟩
set_option maxHeartbeats 800000 in
theorem DrawBitsOf_any (ac : Option Addr) (nc cc : Nat) (w : World) (hnc : nc ≤ 1048576) (hby : ByteIn w w.heap.size ac nc) :
    Calls Try.prog 30 #[.slice ac nc cc] w fun e w' => ∃ ao n cap xs, e = .returned (.slice ao n cap) ∧ Own w.heap.size w'.heap.size w' ao n cap xs ∧ Below w.heap.size w w' := by
  have hone := one_any 3 _ _ 0 (cur_new w ac nc cc hnc hby) (by omega) (by omega) (by omega)
  rw [show ((3 : Nat) : Int) = 3 from rfl] at hone
  have hany := fun W hW => anyPiles_any 14 W w.heap.size 2 hW (by omega) (by omega)
  simp only [show ((14 : Nat) : Int) = 14 from rfl] at hany
  have hcyc := fun W hW => cyclic_any W w.heap.size 2 hW (by omega)
  have Hone := Lib.hid hone; clear hone
  have Hany := Lib.hid hany; clear hany
  have Hcyc := Lib.hid hcyc; clear hcyc
  have Hby := Lib.hid hby; clear hby
  go_enter Try.func30, Try.ntmps30
  go_wp2_with fail
  with_reducible refine (Hone.out).mono ?_
  rintro e w1 ⟨t, rfl, hc1, hg1⟩
  have hlt := hc1.lt
  cases t
  · go_wp2_with fail
    with_reducible refine (Hcyc.out _ hc1).mono ?_
    rintro e w2 ⟨a, n, c, xs, rfl, ho, hc2, hg2⟩
    go_wp2_with fail
    go_ret
    exact ⟨_, _, _, _, rfl, ho.mono (by omega) (Nat.le_refl _), (hg1.trans hg2).drawn⟩
  · go_wp2_with fail
    with_reducible refine (Hany.out _ hc1).mono ?_
    rintro e w2 ⟨a, n, c, xs, rfl, ho, hn, hc2, hg2⟩
    go_wp2_with fail
    go_ret
    exact ⟨_, _, _, _, rfl, ho.mono (by omega) (Nat.le_refl _), (hg1.trans hg2).drawn⟩
set_option maxHeartbeats 800000 in
theorem DrawBasinSize_any (ac : Option Addr) (nc cc : Nat) (w : World) (hnc : nc ≤ 1048576) (hby : ByteIn w w.heap.size ac nc) :
    Calls Try.prog 50 #[.slice ac nc cc] w fun e w' => ∃ ao n cap xs, e = .returned (.slice ao n cap) ∧ Own w.heap.size w'.heap.size w' ao n cap xs ∧ Below w.heap.size w w' := by
  have hone := one_any 12 _ _ 0 (cur_new w ac nc cc hnc hby) (by omega) (by omega) (by omega)
  rw [show ((12 : Nat) : Int) = 12 from rfl] at hone
  have hany := fun W hW => anyPiles_any 20 W w.heap.size 2 hW (by omega) (by omega)
  simp only [show ((20 : Nat) : Int) = 20 from rfl] at hany
  have hpil := fun W hW => drawPiles_any 12 W w.heap.size 2 hW (by omega) (by omega)
  simp only [show ((12 : Nat) : Int) = 12 from rfl] at hpil
  have Hone := Lib.hid hone; clear hone
  have Hany := Lib.hid hany; clear hany
  have Hpil := Lib.hid hpil; clear hpil
  have Hby := Lib.hid hby; clear hby
  go_enter Try.func50, Try.ntmps50
  go_wp2_with fail
  with_reducible refine (Hone.out).mono ?_
  rintro e w1 ⟨t, rfl, hc1, hg1⟩
  have hlt := hc1.lt
  cases t
  · go_wp2_with fail
    with_reducible refine (Hpil.out _ hc1).mono ?_
    rintro e w2 ⟨a, n, c, xs, rfl, ho, hn, hpos, hc2, hg2⟩
    go_wp2_with fail
    go_ret
    exact ⟨_, _, _, _, rfl, ho.mono (by omega) (Nat.le_refl _), (hg1.trans hg2).drawn⟩
  · go_wp2_with fail
    with_reducible refine (Hany.out _ hc1).mono ?_
    rintro e w2 ⟨a, n, c, xs, rfl, ho, hn, hc2, hg2⟩
    go_wp2_with fail
    go_ret
    exact ⟨_, _, _, _, rfl, ho.mono (by omega) (Nat.le_refl _), (hg1.trans hg2).drawn⟩
set_option maxHeartbeats 800000 in
theorem DrawTurnBits_any (ac : Option Addr) (nc cc : Nat) (w : World) (hnc : nc ≤ 1048576) (hby : ByteIn w w.heap.size ac nc) :
    Calls Try.prog 24 #[.slice ac nc cc] w fun e w' => ∃ ao n cap xs, ∃ k : Int, e = .returned (.tuple #[.slice ao n cap, .int .i64 k]) ∧ Own w.heap.size w'.heap.size w' ao n cap xs ∧ n ≤ 9 ∧ -1 ≤ k ∧ k ≤ 1001 ∧ Below w.heap.size w w' := by
  have hpk := pick_any 20 _ _ 0 (cur_new w ac nc cc hnc hby) (by omega) (by omega) (by omega)
  rw [show ((20 : Nat) : Int) = 20 from rfl] at hpk
  have hone := fun W hW => one_any 8 W w.heap.size 2 hW (by omega) (by omega) (by omega)
  simp only [show ((8 : Nat) : Int) = 8 from rfl] at hone
  have hbit := fun W hW => bits_any W w.heap.size 6 hW (by omega)
  have Hone := Lib.hid hone; clear hone
  have Hpk := Lib.hid hpk; clear hpk
  have Hbit := Lib.hid hbit; clear hbit
  have Hby := Lib.hid hby; clear hby
  go_enter Try.func24, Try.ntmps24
  go_wp2_with fail
  with_reducible refine (Hpk.out).mono ?_
  rintro e w1 ⟨y, hy, rfl, hc1, hg1⟩
  have hy8 : (y : Int) ≤ 19 := by omega
  go_wp2_with fail
  with_reducible refine (Hone.out _ hc1).mono ?_
  rintro e w2 ⟨t, rfl, hc2, hg2⟩
  have hg12 := hg1.trans hg2
  have hlt := hc2.lt
  cases t
  · go_wp2_with fail
    with_reducible refine (Hbit.out _ (hc2.le (by omega))).mono ?_
    rintro e w3 ⟨a, n, c, xs, rfl, ho, hn, hnear, hc3, hg3⟩
    go_wp2_with fail
    go_ret2
    exact ⟨_, _, _, _, _, rfl, ho.mono (by omega) (Nat.le_refl _), hn, by omega, by omega, (hg12.trans hg3).drawn⟩
  · have ha := among_any 4 4 _ _ _ w.heap.size 4 (intsAt_new w2 [-1, 0, 1000, 1001] (by decide)) (fun b o e => by cases e; omega) (hc2.keep ((Below.refl _ _).alloc (Nat.le_refl _) _)) (by omega) (by omega) (by omega)
    simp only [List.map_cons, List.map_nil] at ha
    have Ha := Lib.hid ha; clear ha
    go_wp2_with fail
    with_reducible refine (Ha.out).mono ?_
    rintro e w4 ⟨i, hi, rfl, hc4, hg4⟩
    have hmem := mem_of_getD (xs := [-1, 0, 1000, 1001]) (i := i) (by simpa using hi)
    generalize ([-1, 0, 1000, 1001] : List Int).getD i 0 = x at hmem ⊢
    have hb : -1 ≤ x ∧ x ≤ 1001 := by simp at hmem; omega
    clear hmem
    have hg14 := hg12.trans hg4.allocFirst
    have hlt4 := hc4.lt
    go_wp2_with fail
    with_reducible refine (Hbit.out _ hc4).mono ?_
    rintro e w3 ⟨a, n, c, xs, rfl, ho, hn, hnear, hc3, hg3⟩
    go_wp2_with fail
    go_ret2
    exact ⟨_, _, _, _, _, rfl, ho.mono (by omega) (Nat.le_refl _), hn, hb.1, hb.2, (hg14.trans hg3).drawn⟩
end Go.Proofs.Ytilgpaanmadchaa
