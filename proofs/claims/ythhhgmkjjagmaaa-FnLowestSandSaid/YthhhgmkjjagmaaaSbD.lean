/- The draw of two lists of sand for LowestOf. No condition but sizes. -/
import Derived.Test.YthhhgmkjjagmaaaGg
namespace Go.Proofs.Ythhhgmkjjagmaaa
open Go.RowKit
set_option linter.unusedVariables false
set_option linter.unusedSimpArgs false

set_option maxHeartbeats 12800000 in
set_option maxRecDepth 100000 in
theorem DrawLowestOf_any (ac : Option Addr) (nc cc : Nat) (w0 : World) (hnc : nc ≤ 1048576) (hby : ByteIn w0 w0.heap.size ac nc) :
    Calls Try.prog 43 #[.slice ac nc cc] w0 fun e w' => ∃ ao n cap xs bo m cap' ys, e = .returned (.tuple #[.slice ao n cap, .slice bo m cap']) ∧ Own w0.heap.size w'.heap.size w' ao n cap xs ∧ Near xs ∧ Own w0.heap.size w'.heap.size w' bo m cap' ys ∧ Near ys ∧ Below w0.heap.size w0 w' := by
  obtain ⟨w, hw⟩ : ∃ w, w = (w0.alloc (.cells #[.slice ac nc cc, .int .i64 0, .int .u64 0] 54)) := ⟨_, rfl⟩
  have h0 := cur_new w0 ac nc cc hnc hby
  rw [← hw] at h0
  have hsw0 : w.heap.size = w0.heap.size + 1 := by rw [hw]; simp
  have hfin : ∀ W, Chg (fun k => k = w0.heap.size) w W → Below w0.heap.size w0 W := fun W h => by rw [hw] at h; exact h.drawn
  have hcon := sand_any 11 w w0.heap.size 0 h0 (by omega) (by omega)
  rw [show ((11 : Nat) : Int) = 11 from rfl] at hcon
  have hgB : w0.heap.size < w.heap.size := by omega
  have hlow : w0.heap.size ≤ w.heap.size := by omega
  rw [hw] at hcon
  have Hfin := Lib.hid hfin
  clear hfin
  have Hw := Lib.hid hw
  clear hw h0
  have Hcon := Lib.hid hcon; clear hcon
  have Hby := Lib.hid hby; clear hby
  go_enter Try.func43, Try.ntmps43
  go_wp2_with fail
  with_reducible refine (Hcon.out).mono ?_
  rintro e w1 ⟨pa, na, ca, as_, rfl, hoa, hna, hc1, hg1⟩
  rw [← Hw.out] at hoa hg1
  have hs1 := hg1.size
  have hgd := saGood_any pa na ca as_ w1 hoa.at
  clear Hcon
  have ret : ∀ (w2 : World), Chg (fun k => k = w0.heap.size) w1 w2 → Cur w2 w0.heap.size 700 → Calls Try.prog 46 #[.pointer (some ⟨w0.heap.size, 0, none⟩), .int .i64 11] w2 fun e w3 => ∃ bo m cap' ys, e = .returned (.slice bo m cap') ∧ Own w0.heap.size w3.heap.size w3 pa na ca as_ ∧ Own w0.heap.size w3.heap.size w3 bo m cap' ys ∧ Near ys ∧ Below w0.heap.size w0 w3 := fun w2 h2 hc2 => by
    have hcon := sand_any 11 w2 w0.heap.size _ hc2 (by omega) (by omega)
    rw [show ((11 : Nat) : Int) = 11 from rfl] at hcon
    have hs2 := h2.size
    refine hcon.mono fun e w3 ⟨bo, m, cap', ys, he, ho, hn, _, hg3⟩ => ⟨bo, m, cap', ys, he, ?_, ho.mono (by omega) (Nat.le_refl _), hn, Hfin.out _ ((hg1.trans h2).trans hg3)⟩
    exact ((hoa.curKeep h2 hgB).curKeep hg3 hgB).mono hlow (by have := hg3.size; omega)
  have Hna := Lib.hid hna
  clear hna
  have hla := hoa.length
  cases hb : sandB as_
  · rw [hb] at hgd
    have hr := ret w1 (Chg.refl _ _) (hc1.le (by omega))
    clear ret hla
    have Hgd := Lib.hid hgd; clear hgd
    have Hb := Lib.hid hb; clear hb
    have Hr := Lib.hid hr; clear hr
    go_wp2_with fail
    with_reducible refine (Hgd.out).mono ?_
    rintro e w' ⟨rfl, rfl⟩
    go_wp2_with fail
    with_reducible refine (Hr.out).mono ?_
    rintro e w3 ⟨bo, m, cap', ys, rfl, q1, q2, q3, q4⟩
    have Q1 := Lib.hid q1; clear q1
    have Q2 := Lib.hid q2; clear q2
    have Q3 := Lib.hid q3; clear q3
    have Q4 := Lib.hid q4; clear q4
    go_wp2
    go_ret2
    exact ⟨_, _, _, _, _, _, _, _, rfl, Q1.out, Hna.out, Q2.out, Q3.out, Q4.out⟩
  · rw [hb] at hgd
    have hG0 := (sand_iff.1 hb).grains
    by_cases hna0 : na = 0
    · subst hna0
      have hr := ret w1 (Chg.refl _ _) (hc1.le (by omega))
      clear ret
      have Hgd := Lib.hid hgd; clear hgd
      have Hb := Lib.hid hb; clear hb
      have Hr := Lib.hid hr; clear hr
      have Hla := Lib.hid hla; clear hla
      go_wp2_with fail
      with_reducible refine (Hgd.out).mono ?_
      rintro e w' ⟨rfl, rfl⟩
      go_wp2_with fail
      with_reducible refine (Hr.out).mono ?_
      rintro e w3 ⟨bo, m, cap', ys, rfl, q1, q2, q3, q4⟩
      have Q1 := Lib.hid q1; clear q1
      have Q2 := Lib.hid q2; clear q2
      have Q3 := Lib.hid q3; clear q3
      have Q4 := Lib.hid q4; clear q4
      go_wp2
      go_ret2
      exact ⟨_, _, _, _, _, _, _, _, rfl, Q1.out, Hna.out, Q2.out, Q3.out, Q4.out⟩
    · have hnap : ¬ (na : Int) = 0 := by omega
      have hnab : ((na : Int) == 0) = false := by simpa using hna0
      have hnad : decide ((na : Int) = 0) = false := decide_eq_false hnap
      have h5 := one_any 5 w1 w0.heap.size _ hc1 (by omega) (by omega) (by omega)
      rw [show ((5 : Nat) : Int) = 5 from rfl] at h5
      have Hgd := Lib.hid hgd; clear hgd
      have Hb := Lib.hid hb; clear hb
      have H5 := Lib.hid h5; clear h5
      have HG0 := Lib.hid hG0; clear hG0
      go_wp2_with fail
      with_reducible refine (Hgd.out).mono ?_
      rintro e w' ⟨rfl, rfl⟩
      go_wp2_with fail
      with_reducible refine (H5.out).mono ?_
      rintro e w2 ⟨t, rfl, hc2, hg2⟩
      clear H5
      cases t
      · clear ret
        have hs2 := hg2.size
        have hoa2 := hoa.curKeep hg2 hgB
        have hgw2 := hg1.trans hg2
        have hsum := piSum_any pa na ca as_ w2 hoa2.at HG0.out.good
        have hs0 : 1 ≤ as_.sum ∧ as_.sum ≤ 24 := ⟨by have := sum_nonneg HG0.out.good.1; omega, HG0.out.2⟩
        obtain ⟨S, hS⟩ := Int.eq_ofNat_of_zero_le (show 0 ≤ as_.sum by omega)
        rw [hS] at hsum hs0
        have hGS := grains_one (n := S) (by omega) (by omega)
        have hS8 : (S : Int) ≤ 24 := hs0.2
        clear hoa hg1 hg2 hc1 hla hS hs0
        have Hsum := Lib.hid hsum; clear hsum
        go_wp2_with fail
        with_reducible refine (Hsum.out).mono ?_
        rintro e w' ⟨rfl, rfl⟩
        have hal := belowAlloc w2 (.cells #[.int .i64 (S : Int)] 3)
        have hob1 := ownInt_one w2 (S : Int)
        have hoa3 := hoa2.keep hal
        have hc3 := hc2.keep hal
        have hgw3 := hgw2.curBelow hal
        have hsal : (w2.alloc (.cells #[.int .i64 (S : Int)] 3)).heap.size = w2.heap.size + 1 := by simp
        have hp := pick_any 14 _ w0.heap.size _ hc3 (by omega) (by omega) (by omega)
        rw [show ((14 : Nat) : Int) = 14 from rfl] at hp
        clear hoa2 hc2 hgw2 hal Hsum
        have Hp := Lib.hid hp; clear hp
        have HGS := Lib.hid hGS; clear hGS
        go_wp2_with fail
        with_reducible refine (Hp.out).mono ?_
        rintro e w4 ⟨K0, hK0, rfl, hc4, hg4⟩
        have hs4 := hg4.size
        rw [hsal] at hs4
        have ho4 := (hob1.curKeep hg4 (by omega)).mono (show w.heap.size ≤ w2.heap.size by omega) hs4
        have hoa4 := hoa3.curKeep hg4 hgB
        have hgw4 := hgw3.trans hg4
        clear hob1 hoa3 hc3 hgw3 hg4 Hp hsal
        have hE0 : w1.heap.size ≤ w4.heap.size := by omega
        have HG0' := HG0
        go_wp2_with fail
        go_loopw [6, 7] (fun v i wr => ∃ (K n : Nat) (a : Option Addr) (c : Nat) (xs : List Int), v = .slice a n c ∧ i = .int .i64 K ∧ K ≤ 20 ∧ Grains xs ∧ Own w.heap.size wr.heap.size wr a n c xs ∧ Cur wr w0.heap.size (0 + 1000 - 2 * K) ∧ Chg (fun k => k = w0.heap.size) w wr ∧ Own w.heap.size w4.heap.size wr pa na ca as_ ∧ w4.heap.size ≤ wr.heap.size) (fun _ i _ => (intOf i).toNat)
        case atStart => exact ⟨K0, 1, _, 1, _, rfl, rfl, by omega, HGS.out, ho4, hc4.le (by omega), hgw4, hoa4.mono (Nat.le_refl _) hE0, Nat.le_refl _⟩
        case round =>
          clear ho4 hc4 hgw4 hoa4 HG0 HGS
          obtain ⟨K, n, a, c, xs, rfl, rfl, hK, hG, ho, hc, hgw, haw, hs8⟩ := hrel
          have hsw := hgw.size
          by_cases hK0 : K = 0
          · subst hK0
            have hn := near_grains hG
            have q1 := haw.mono hlow hs8
            have q2 := ho.mono hlow (Nat.le_refl _)
            have q4 := Hfin.out _ hgw
            clear haw ho hgw hc hG
            have Q1 := Lib.hid q1; clear q1
            have Q2 := Lib.hid q2; clear q2
            have Q4 := Lib.hid q4; clear q4
            have Hn := Lib.hid hn; clear hn
            go_wp2
            go_ret2
            exact ⟨_, _, _, _, _, _, _, _, rfl, Q1.out, Hna.out, Q2.out, Hn.out, Q4.out⟩
          · skip
            have hlx := ho.length
            have hnl := hG.len
            have hfn := fallsL_len xs
            have hfa := fun W h => saFalls_any a n c xs W h hG
            have hfat := fun i (hi : i < (fallsL xs).length) => falls_at hi
            have hfall := fun (k : Nat) W h (hk : k < n) => saFall_any a n c xs k W h hG hk
            have hgr := fun (k : Nat) (h1 : k < xs.length) (h2 : steepB xs k = true) => fall_grains hG h1 h2
            have hkp : (0 : Int) < (K : Int) := by omega
            have hk8 : (K : Int) ≤ 100 := by omega
            have Hlx := Lib.hid hlx; clear hlx
            have Hfa := Lib.hid hfa; clear hfa
            have Hfat := Lib.hid hfat; clear hfat
            have Hfall := Lib.hid hfall; clear hfall
            have Hgr := Lib.hid hgr; clear hgr
            have Hfn := Lib.hid hfn; clear hfn
            have HG := Lib.hid hG; clear hG
            go_wp2_with fail
            with_reducible refine (Hfa.out _ ho.at).mono ?_
            rintro e w2 ⟨p2, m2, d2, rfl, hof, hb2⟩
            have hlf := hof.length
            have hs2 := hb2.size
            have hc2 := hc.keep hb2
            have hgw2 := hgw.curBelow hb2
            have ho2 := ho.keep hb2
            have ha2 := haw.keep hb2
            clear hc hgw ho hb2 haw
            by_cases hm0 : m2 = 0
            · subst hm0
              have hz : ¬ (0 : Int) < ((0 : Nat) : Int) := by omega
              have ho3 := ho2.mono (Nat.le_refl _) hs2
              clear ho2 hof
              have Hlf := Lib.hid hlf; clear hlf
              go_wp2
              go_roundw
              case rel => exact ⟨K - 1, n, a, c, xs, rfl, valI (by omega), by omega, HG.out, ho3, hc2.le (by omega), hgw2, ha2, by omega⟩
              case measure => simp [intOf]; omega
            · have hmp : (0 : Int) < (m2 : Int) := by omega
              have hm24 : m2 ≤ 24 := by have := Hfn.out; have := Hlx.out; omega
              have hm8 : (m2 : Int) ≤ 24 := by omega
              have hp := pick_any m2 w2 w0.heap.size _ hc2 (by omega) (by omega) (by omega)
              have Hp := Lib.hid hp; clear hp
              have Hlf := Lib.hid hlf; clear hlf
              go_wp2_with fail
              with_reducible refine (Hp.out).mono ?_
              rintro e w3 ⟨i, hi, rfl, hc3, hg3⟩
              have hs3 := hg3.size
              have hgw3 := hgw2.trans hg3
              have hof3 := (hof.curKeep hg3 (by omega)).at
              have ho3 := ho2.curKeep hg3 (by omega)
              have ha3 := ha2.curKeep hg3 hgB
              clear ha2 hof ho2 hc2 hgw2 hg3 Hp
              obtain ⟨k, hk1, hk2, hk3⟩ := Hfat.out i (by rw [Hlf.out]; exact hi)
              obtain ⟨bb, oo, rfl, hbl, hcc⟩ := hof3.cell i hi
              have hck := hcc i hi
              rw [hk1] at hck
              clear hcc hbl hof3 hk1
              have hkn : k < n := by rw [← Hlx.out]; exact hk2
              have hgk := Hgr.out k hk2 hk3
              have hcall := Hfall.out k w3 ho3.at hkn
              have hk9 : (k : Int) ≤ 100 := by omega
              have hi8 : (i : Int) < (m2 : Int) := by omega
              clear ho3
              have Hcall := Lib.hid hcall; clear hcall
              have Hgk := Lib.hid hgk; clear hgk
              go_wp2_with fail
              with_reducible refine (Hcall.out).mono ?_
              rintro e w4 ⟨p4, m4, d4, rfl, ho4, hb4⟩
              have hc4 := hc3.keep hb4
              have hgw4 := hgw3.curBelow hb4
              have ha4 := ha3.keep hb4
              have hs44 := hb4.size
              have ho5 := ho4.mono (show w.heap.size ≤ w3.heap.size by omega) (Nat.le_refl _)
              clear hc3 hgw3 ho4 hb4 ha3
              go_wp2
              go_roundw
              case rel => exact ⟨K - 1, m4, p4, d4, _, rfl, valI (by omega), by omega, Hgk.out, ho5, hc4.le (by omega), hgw4, ha4, by omega⟩
              case measure => simp [intOf]; omega
      · have hr := ret w2 hg2 (hc2.le (by omega))
        clear ret
        have Hr := Lib.hid hr; clear hr
        go_wp2_with fail
        with_reducible refine (Hr.out).mono ?_
        rintro e w3 ⟨bo, m, cap', ys, rfl, q1, q2, q3, q4⟩
        have Q1 := Lib.hid q1; clear q1
        have Q2 := Lib.hid q2; clear q2
        have Q3 := Lib.hid q3; clear q3
        have Q4 := Lib.hid q4; clear q4
        go_wp2
        go_ret2
        exact ⟨_, _, _, _, _, _, _, _, rfl, Q1.out, Hna.out, Q2.out, Q3.out, Q4.out⟩
end Go.Proofs.Ythhhgmkjjagmaaa
