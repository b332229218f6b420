/- The draws of chapter 6's laws: what they give. No condition but sizes. -/
import Derived.Test.YthhhgmkjjagmaaaSaD
import Derived.Test.YthhhgmkjjagmaaaRowsR
namespace Go.Proofs.Ythhhgmkjjagmaaa
open Go.RowKit
set_option linter.unusedVariables false
set_option linter.unusedSimpArgs false

theorem DrawSettleSand_any (ac : Option Addr) (nc cc : Nat) (w : World) (hnc : nc ≤ 1048576) (hby : ByteIn w w.heap.size ac nc) :
    Calls Try.prog 12 #[.slice ac nc cc] w fun e w' => ∃ ao n cap xs, e = .returned (.slice ao n cap) ∧ Own w.heap.size w'.heap.size w' ao n cap xs ∧ Near xs ∧ Below w.heap.size w w' := by
  have hcon := sand_any 24 _ _ 0 (cur_new w ac nc cc hnc hby) (by omega) (by omega)
  rw [show ((24 : Nat) : Int) = 24 from rfl] at hcon
  have Hcon := Lib.hid hcon; clear hcon
  have Hby := Lib.hid hby; clear hby
  go_enter Try.func12, Try.ntmps12
  go_wp2_with fail
  with_reducible refine (Hcon.out).mono ?_
  rintro e w1 ⟨a, n, c, xs, rfl, ho, hn, hc, hg⟩
  go_wp2
  go_ret
  exact ⟨_, _, _, _, rfl, ho.mono (curSize _ _) (Nat.le_refl _), hn, hg.drawn⟩
theorem DrawReachSand_any (ac : Option Addr) (nc cc : Nat) (w : World) (hnc : nc ≤ 1048576) (hby : ByteIn w w.heap.size ac nc) :
    Calls Try.prog 30 #[.slice ac nc cc] w fun e w' => ∃ ao n cap xs, e = .returned (.slice ao n cap) ∧ Own w.heap.size w'.heap.size w' ao n cap xs ∧ Near xs ∧ Below w.heap.size w w' := by
  have hone := one_any 12 _ _ 0 (cur_new w ac nc cc hnc hby) (by omega) (by omega) (by omega)
  rw [show ((12 : Nat) : Int) = 12 from rfl] at hone
  have Hone := Lib.hid hone; clear hone
  have Hby := Lib.hid hby; clear hby
  go_enter Try.func30, Try.ntmps30
  go_wp2_with fail
  with_reducible refine (Hone.out).mono ?_
  rintro e w1 ⟨t, rfl, hc1, hg1⟩
  have hs1 := hg1.size
  cases t
  · have hcon := sand_any 12 w1 _ _ hc1 (by omega) (by omega)
    rw [show ((12 : Nat) : Int) = 12 from rfl] at hcon
    have Hcon := Lib.hid hcon; clear hcon
    go_wp2_with fail
    with_reducible refine (Hcon.out).mono ?_
    rintro e w2 ⟨a, n, c, xs, rfl, ho, hn, hc, hg⟩
    go_wp2
    go_ret
    exact ⟨_, _, _, _, rfl, ho.mono (by simp at hs1; omega) (Nat.le_refl _), hn, (hg1.trans hg).drawn⟩
  · have hcon := sand_any 24 w1 _ _ hc1 (by omega) (by omega)
    rw [show ((24 : Nat) : Int) = 24 from rfl] at hcon
    have Hcon := Lib.hid hcon; clear hcon
    go_wp2_with fail
    with_reducible refine (Hcon.out).mono ?_
    rintro e w2 ⟨a, n, c, xs, rfl, ho, hn, hc, hg⟩
    go_wp2
    go_ret
    exact ⟨_, _, _, _, rfl, ho.mono (by simp at hs1; omega) (Nat.le_refl _), hn, (hg1.trans hg).drawn⟩
theorem DrawSettledShape_any (ac : Option Addr) (nc cc : Nat) (w : World) (hnc : nc ≤ 1048576) (hby : ByteIn w w.heap.size ac nc) :
    Calls Try.prog 20 #[.slice ac nc cc] w fun e w' => ∃ k : Int, -1 ≤ k ∧ k ≤ 25 ∧ e = .returned (.int .i64 k) ∧ Below w.heap.size w w' := by
  have hcon := pick_any 27 _ _ 0 (cur_new w ac nc cc hnc hby) (by omega) (by omega) (by omega)
  rw [show ((27 : Nat) : Int) = 27 from rfl] at hcon
  have Hcon := Lib.hid hcon; clear hcon
  have Hby := Lib.hid hby; clear hby
  go_enter Try.func20, Try.ntmps20
  go_wp2_with fail
  with_reducible refine (Hcon.out).mono ?_
  rintro e w1 ⟨b, hb, rfl, hc, hg⟩
  have hb8 : (b : Int) < 27 := by omega
  go_wp2
  go_ret
  exact ⟨_, by omega, by omega, rfl, hg.drawn⟩
set_option maxHeartbeats 3200000 in
theorem DrawFallGrain_any (ac : Option Addr) (nc cc : Nat) (w : World) (hnc : nc ≤ 1048576) (hby : ByteIn w w.heap.size ac nc) :
    Calls Try.prog 23 #[.slice ac nc cc] w fun e w' => ∃ ao n cap xs k, e = .returned (.tuple #[.slice ao n cap, .int .i64 k]) ∧ Own w.heap.size w'.heap.size w' ao n cap xs ∧ Near xs ∧ -1 ≤ k ∧ k ≤ 30 ∧ Below w.heap.size w w' := by
  have hcon := sand_any 20 _ _ 0 (cur_new w ac nc cc hnc hby) (by omega) (by omega)
  rw [show ((20 : Nat) : Int) = 20 from rfl] at hcon
  have Hcon := Lib.hid hcon; clear hcon
  have Hby := Lib.hid hby; clear hby
  go_enter Try.func23, Try.ntmps23
  go_wp2_with fail
  with_reducible refine (Hcon.out).mono ?_
  rintro e w1 ⟨a, n, c, xs, rfl, ho, hn, hc, hg⟩
  have hs1 := hg.size
  have hgw : w.heap.size < w1.heap.size := by simp at hs1; omega
  have hp := pick_any 5 w1 _ _ hc (by omega) (by omega) (by omega)
  rw [show ((5 : Nat) : Int) = 5 from rfl] at hp
  clear Hcon hc
  have Hp := Lib.hid hp; clear hp
  go_wp2_with fail
  with_reducible refine (Hp.out).mono ?_
  rintro e w2 ⟨b, hb, rfl, hc2, hg2⟩
  have hs2 := hg2.size
  have hb8 : (b : Int) < 5 := by omega
  have hal := belowAlloc w2 (.cells #[.int .i64 ((b : Int) - 1)] 3)
  have hf1 := ownInt_one w2 ((b : Int) - 1)
  have ho3 := (ho.curKeep hg2 (by simp)).keep hal
  have hg3 := (hg.trans hg2).curBelow hal
  have hc3 := hc2.keep hal
  have hgd := saGood_any a n c xs _ ho3.at
  have hsa : (w2.alloc (.cells #[.int .i64 ((b : Int) - 1)] 3)).heap.size = w2.heap.size + 1 := by simp
  have hs3 : w1.heap.size ≤ w2.heap.size + 1 := by omega
  clear ho hg hg2 hc2 hal Hp
  have hend : ∀ (W : World) (bb oo m fc : Nat) (fs : List Int), 1 ≤ m → m ≤ 30 → (∀ x ∈ fs, -1 ≤ x ∧ x ≤ 30) → IntsAt W (some ⟨bb, oo, none⟩) m fc fs → bb ≠ w.heap.size → Own (w.alloc (.cells #[.slice ac nc cc, .int .i64 0, .int .u64 0] 54)).heap.size w1.heap.size W a n c xs → w1.heap.size ≤ W.heap.size → Cur W w.heap.size 700 → Chg (fun k => k = w.heap.size) (w.alloc (.cells #[.slice ac nc cc, .int .i64 0, .int .u64 0] 54)) W →
      Calls Try.prog 48 #[.pointer (some ⟨w.heap.size, 0, none⟩), .int .i64 m] W.drew fun e w' => ∃ i : Nat, i < m ∧ e = .returned (.int .i64 i) ∧ w'.cell? ⟨bb, oo + i, none⟩ = some (.int .i64 (fs.getD i 0)) ∧ (-1 ≤ fs.getD i 0 ∧ fs.getD i 0 ≤ 30) ∧ Own w.heap.size w'.heap.size w' a n c xs ∧ Below w.heap.size w w' := by
    intro W bb oo m fc fs h1 h2 h3 h4 h5 h6 h7 h8 h9
    refine (pick_any m W.drew _ _ h8.drew (by omega) h1 (by omega)).mono fun e w' ⟨i, hi, he, hc', hg'⟩ => ⟨i, hi, he, ?_, ?_, ?_, ?_⟩
    · have := (h4.drewN 1).chg hg' (fun b o e => by cases e; exact h5)
      obtain ⟨b', o', e1, _, hcc⟩ := this.cell i hi
      cases e1
      exact hcc i hi
    · exact h3 _ (mem_of_getD (by rw [h4.length]; exact hi))
    · have := (h6.keep (belowDrewN (Below.refl _ W) 1)).curKeep hg' (by simp)
      exact this.mono (curSize _ _) (Nat.le_trans h7 hg'.size)
    · exact (h9.trans ((Chg.ofBelow (belowDrewN (Below.refl _ W) 1)).trans hg')).drawn
  have hf1a := hf1.at
  have Hend := Lib.hid hend; clear hend
  have Hn := Lib.hid hn; clear hn
  have Hnear := Hn
  clear Hn
  cases hb : sandB xs
  · rw [hb] at hgd
    have Hgd := Lib.hid hgd; clear hgd
    have Hb := Lib.hid hb; clear hb
    go_wp2_with fail
    with_reducible refine (Hgd.out).mono ?_
    rintro e w' ⟨rfl, rfl⟩
    have hgo := Hend.out _ w2.heap.size 0 1 1 [(b : Int) - 1] (Nat.le_refl _) (by omega) (fun x hx => by rw [List.mem_singleton.1 hx]; omega) hf1a (by omega) ho3 (by omega) (hc3.le (by omega)) hg3
    rw [show ((1 : Nat) : Int) = 1 from rfl] at hgo
    have Hgo := Lib.hid hgo; clear hgo
    go_wp2
    go_region_law (go_simp; with_reducible refine (Hgo.out).mono ?_; rintro e w9 ⟨i, hi, rfl, hck, hkb, ho9, hb9⟩; generalize ([(b : Int) - 1]).getD i 0 = z at hck hkb; (try simp only [Nat.zero_add] at hck); have Ho9 := Lib.hid ho9; have Hb9 := Lib.hid hb9; have hi8 : (i : Int) < 1 := (by omega); clear ho9 hb9)
    all_goals
      clear Hgo Hend
      go_wp2
      go_ret2
      exact ⟨_, _, _, _, _, rfl, Ho9.out, Hnear.out, hkb.1, hkb.2, Hb9.out⟩
  · rw [hb] at hgd
    have hG : Grains xs := (sand_iff.1 hb).grains
    have h2 := one_any 2 _ _ _ hc3 (by omega) (by omega) (by omega)
    rw [show ((2 : Nat) : Int) = 2 from rfl] at h2
    have Hgd := Lib.hid hgd; clear hgd
    have Hb := Lib.hid hb; clear hb
    have H2 := Lib.hid h2; clear h2
    have HG := Lib.hid hG; clear hG
    go_wp2_with fail
    with_reducible refine (Hgd.out).mono ?_
    rintro e w' ⟨rfl, rfl⟩
    go_wp2_with fail
    with_reducible refine (H2.out).mono ?_
    rintro e w4 ⟨t, rfl, hc4, hg4⟩
    have hs4 := hg4.size
    rw [hsa] at hs4
    have ho4 := ho3.curKeep hg4 (by simp)
    have hf4 := (hf1.curKeep hg4 (by omega)).at
    have hg5 := hg3.trans hg4
    clear H2 hc3 ho3 hg3 hg4
    cases t
    · skip
      have hgo := Hend.out w4 w2.heap.size 0 1 1 [(b : Int) - 1] (Nat.le_refl _) (by omega) (fun x hx => by rw [List.mem_singleton.1 hx]; omega) hf4 (by omega) ho4 (by omega) (hc4.le (by omega)) hg5
      rw [show ((1 : Nat) : Int) = 1 from rfl] at hgo
      have Hgo := Lib.hid hgo; clear hgo
      go_wp2
      go_region_law (go_simp; with_reducible refine (Hgo.out).mono ?_; rintro e w9 ⟨i, hi, rfl, hck, hkb, ho9, hb9⟩; generalize ([(b : Int) - 1]).getD i 0 = z at hck hkb; (try simp only [Nat.zero_add] at hck); have Ho9 := Lib.hid ho9; have Hb9 := Lib.hid hb9; have hi8 : (i : Int) < 1 := (by omega); clear ho9 hb9)
      all_goals
        clear Hgo Hend
        go_wp2
        go_ret2
        exact ⟨_, _, _, _, _, rfl, Ho9.out, Hnear.out, hkb.1, hkb.2, Hb9.out⟩
    · have hfa := fun W h => saFalls_any a n c xs W h HG.out
      have hlx := ho4.length
      have hnl := HG.out.len
      have hfn := fallsL_len xs
      have hfat := fun i (hi : i < (fallsL xs).length) => falls_at hi
      have Hfa := Lib.hid hfa; clear hfa
      have Hlx := Lib.hid hlx; clear hlx
      have Hnl := Lib.hid hnl; clear hnl
      have Hfn := Lib.hid hfn; clear hfn
      have Hfat := Lib.hid hfat; clear hfat
      go_wp2_with fail
      with_reducible refine (Hfa.out _ ho4.at).mono ?_
      rintro e w5 ⟨p5, m5, d5, rfl, ho5, hb5⟩
      have hl5 := ho5.length
      have hs5 := hb5.size
      have ho4' := ho4.keep hb5
      have hf5 := hf4.keep hb5
      have hc5 := hc4.keep hb5
      have hg6 := hg5.curBelow hb5
      have hm24 : m5 ≤ 24 := by have := Hfn.out; have := Hlx.out; have := Hnl.out; omega
      clear hc4 ho4 hf4 hg5 hb5
      by_cases hm0 : m5 = 0
      · subst hm0
        clear ho5
        have Hl5 := Lib.hid hl5; clear hl5
        have hgo := Hend.out w5 w2.heap.size 0 1 1 [(b : Int) - 1] (Nat.le_refl _) (by omega) (fun x hx => by rw [List.mem_singleton.1 hx]; omega) hf5 (by omega) ho4' (by omega) (hc5.le (by omega)) hg6
        rw [show ((1 : Nat) : Int) = 1 from rfl] at hgo
        have Hgo := Lib.hid hgo; clear hgo
        go_wp2
        go_region_law (go_simp; with_reducible refine (Hgo.out).mono ?_; rintro e w9 ⟨i, hi, rfl, hck, hkb, ho9, hb9⟩; generalize ([(b : Int) - 1]).getD i 0 = z at hck hkb; (try simp only [Nat.zero_add] at hck); have Ho9 := Lib.hid ho9; have Hb9 := Lib.hid hb9; have hi8 : (i : Int) < 1 := (by omega); clear ho9 hb9)
        all_goals
          clear Hgo Hend
          go_wp2
          go_ret2
          exact ⟨_, _, _, _, _, rfl, Ho9.out, Hnear.out, hkb.1, hkb.2, Hb9.out⟩
      · have hmp : (0 : Int) < (m5 : Int) := by omega
        have hm8 : (m5 : Int) ≤ 24 := by omega
        clear ho5 hf5
        have Hl5 := Lib.hid hl5; clear hl5
        go_wp2_with fail
        with_reducible refine (Hfa.out _ ho4'.at).mono ?_
        rintro e w6 ⟨p6, m6, d6, rfl, ho6, hb6⟩
        have hl6 := ho6.length
        have hs6 := hb6.size
        have ho7 := ho4'.keep hb6
        have hc6 := hc5.keep hb6
        have hg7 := hg6.curBelow hb6
        obtain rfl : m6 = m5 := by rw [← hl6]; exact Hl5.out
        obtain ⟨bb, oo, rfl, hbl, _⟩ := ho6.at.cell 0 (by omega)
        have hne : bb ≠ w.heap.size := by
          have := ho6.addr rfl
          omega
        have hbd : ∀ x ∈ fallsL xs, -1 ≤ x ∧ x ≤ 30 := fun x hx => by
          obtain ⟨k, rfl, h1, _⟩ := mem_fallsL.1 hx
          have := Hnl.out
          omega
        have hat := ho6.at
        clear hc5 ho4' hg6 hb6 ho6 hl6 hbl
        have hgo := Hend.out w6 bb oo m6 d6 (fallsL xs) (by omega) (by omega) hbd hat hne ho7 (by omega) (hc6.le (by omega)) hg7
        have Hgo := Lib.hid hgo; clear hgo
        go_wp2
        go_region_law (go_simp; with_reducible refine (Hgo.out).mono ?_; rintro e w9 ⟨i, hi, rfl, hck, hkb, ho9, hb9⟩; generalize ((fallsL xs)).getD i 0 = z at hck hkb; (try simp only [Nat.zero_add] at hck); have Ho9 := Lib.hid ho9; have Hb9 := Lib.hid hb9; have hi8 : (i : Int) < (m6 : Nat) := (by omega); clear ho9 hb9)
        all_goals
          clear Hgo Hend
          go_wp2
          go_ret2
          exact ⟨_, _, _, _, _, rfl, Ho9.out, Hnear.out, hkb.1, hkb.2, Hb9.out⟩
end Go.Proofs.Ythhhgmkjjagmaaa
