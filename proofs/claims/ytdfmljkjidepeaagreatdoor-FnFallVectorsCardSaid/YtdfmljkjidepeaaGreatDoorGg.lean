/- Several texts in one: SaD, SaE, SaH. No condition. -/
import Derived.Test.YtdfmljkjidepeaaGreatDoorGd
import Derived.Test.YtdfmljkjidepeaaGreatDoorSaB
import Derived.Test.YtdfmljkjidepeaaGreatDoorGf
import Derived.OwnWalk
import Derived.Test.YtdfmljkjidepeaaGreatDoorRowsR
namespace Go.Proofs.YtdfmljkjidepeaaGreatDoor
section
open Go.RowKit
set_option linter.unusedVariables false
set_option linter.unusedSimpArgs false

theorem step_makeI {ops : Array Oper} {o : Oper} {a : Act} {K : Act → World → Prop} {Q : Exit → Act → World → Prop} {E0 : Prop} (w : World) (hgd : o.guard = none) (l : Operand) (ho : o.op = Op.makeSlice 24 l l) (n : Nat) (L : Int) (hL : L = (n : Int)) (hl : a.eval l = .int .i64 L) (hn : n ≤ 1000)
    (h : ∀ w', Own w.heap.size w'.heap.size w' (some ⟨w.heap.size, 0, none⟩) n n (List.replicate n 0) → Below w.heap.size w w' → K (a.put o.dst (.slice (some ⟨w.heap.size, 0, none⟩) n n)) w') :
    if Region.wanted o (yielded ops a.tmps) = true then Oper.wp Tryz.prog o a w K Q else E0 := by
  have hw : Region.wanted o (yielded ops a.tmps) = true := by simp [Region.wanted, hgd]
  rw [if_pos hw]
  obtain ⟨i0, hi, hz0, hz1, hz2⟩ := info_parts Tryz.infoInt
  obtain ⟨w', hrun, r1, r2⟩ := run_make_full (P := Tryz.prog) w w.heap.size 24 3 i0 _ 1 Tryz.underlying24 hi hz0 hz1 .i64 .i64 n (by rw [hz2]; omega) (by unfold maxLen; omega) (Nat.le_refl _)
  rw [show (Value.int .i64 0).cells = #[Value.int .i64 0] from rfl, Nat.mul_one, madeZeros] at r1
  subst hL
  unfold Oper.wp
  simp [execOp, ho, hl, hrun, Result.andThen]
  exact h w' (Own.of r1) ((Below.refl _ _).grown r2 (Nat.le_refl _) (fun k hk => by cases hk))
theorem grains_one {n : Nat} (h1 : 1 ≤ n) (h2 : n ≤ 24) : Grains [(n : Int)] := ⟨⟨fun x hx => by rw [List.mem_singleton.1 hx]; omega, by simp, by simp; omega⟩, by simp; omega⟩
theorem near_grains {xs : List Int} (h : Grains xs) : Near xs := ⟨by have := h.len; omega, fun x hx => by have := h.mem hx; omega⟩
theorem falls_at {xs : List Int} {i : Nat} (hi : i < (fallsL xs).length) : ∃ k : Nat, (fallsL xs).getD i 0 = (k : Int) ∧ k < xs.length ∧ steepB xs k = true := by
  have hm := List.getElem_mem hi
  obtain ⟨k, e, h1, h2⟩ := mem_fallsL.1 hm
  exact ⟨k, by rw [List.getD_eq_getElem?_getD, List.getElem?_eq_getElem hi]; exact e, h1, h2⟩
theorem fallsL_len (xs : List Int) : (fallsL xs).length ≤ xs.length := fallsT_length xs xs.length
theorem Own.curKeep {B E w w' g ao n cap xs} (h : Own B E w ao n cap xs) (hc : Chg (fun k => k = g) w w') (hg : g < B) : Own B E w' ao n cap xs := h.chg hc (fun j h1 _ _ e => by omega)
/-- a call that leaves the old blocks behind a cursor's step -/
theorem Chg.curBelow {w w1 w2 : World} {g : Nat} (h : Chg (fun k => k = g) w w1) (hb : Below w1.heap.size w1 w2) : Chg (fun k => k = g) w w2 := h.trans (Chg.ofBelow hb)

theorem ownInt_one (w : World) (x : Int) : Own w.heap.size (w.heap.size + 1) (w.alloc (.cells #[.int .i64 x] 3)) (some ⟨w.heap.size, 0, none⟩) 1 1 [x] :=
  ⟨⟨rfl, .inr ⟨w.heap.size, 1, #[.int .i64 x], rfl, Nat.le_refl _, heap_alloc_new w _, Nat.le_refl _, by unfold maxLen; omega, rfl, rfl⟩⟩, fun g hg => by simp [Value.ownBlock] at hg; omega⟩
set_option maxHeartbeats 6400000 in
set_option maxRecDepth 100000 in
theorem sand_any (most : Nat) (w : World) (g A : Nat) (h : Cur w g A) (hA : A ≤ 600000000) (hm : most ≤ 24) :
    Calls Tryz.prog 31 #[.pointer (some ⟨g, 0, none⟩), .int .i64 most] w fun e w' => ∃ ao n cap xs, e = .returned (.slice ao n cap) ∧ Own w.heap.size w'.heap.size w' ao n cap xs ∧ Near xs ∧ Cur w' g (A + 600) ∧ Chg (fun k => k = g) w w' := by
  have hone := one_any 4 w g A h (by omega) (by omega) (by omega)
  rw [show ((4 : Nat) : Int) = 4 from rfl] at hone
  have hg := h.lt
  have hm8 : (most : Int) ≤ 24 := by omega
  have Hone := Lib.hid hone; clear hone
  go_enter Tryz.func31, Tryz.ntmps31
  go_wp2_with fail
  with_reducible refine (Hone.out).mono ?_
  rintro e w1 ⟨t, rfl, hc1, hg1⟩
  have hs1 := hg1.size
  cases t
  · have hp := pick_any (most + 1) w1 g _ hc1 (by omega) (by omega) (by omega)
    simp only [show ((most + 1 : Nat) : Int) = (most : Int) + 1 from rfl] at hp
    have Hp := Lib.hid hp; clear hp
    go_wp2_with fail
    with_reducible refine (Hp.out).mono ?_
    rintro e w2 ⟨N, hN, rfl, hc2, hg2⟩
    have hs2 := hg2.size
    have hg12 := hg1.trans hg2
    clear Hp hc1 hg1 hg2
    have hN8 : (N : Int) ≤ 24 := by omega
    by_cases hN0 : N = 0
    · subst hN0
      go_wp2
      go_ret
      exact ⟨none, 0, 0, [], rfl, Own.nil _ _ _, ⟨by simp, fun x hx => by cases hx⟩, hc2.le (by omega), hg12⟩
    · have hNn : ¬ (N : Int) = 0 := by omega
      have hal := belowAlloc w2 (.cells #[.int .i64 (N : Int)] 3)
      have hp := pick_any 20 _ g _ (hc2.keep hal) (by omega) (by omega) (by omega)
      rw [show ((20 : Nat) : Int) = 20 from rfl] at hp
      have hone1 : Own w.heap.size (w2.alloc (.cells #[.int .i64 (N : Int)] 3)).heap.size (w2.alloc (.cells #[.int .i64 (N : Int)] 3)) (some ⟨w2.heap.size, 0, none⟩) 1 1 [(N : Int)] := by
        have := ownInt_one w2 (N : Int)
        exact this.mono (by omega) (by simp)
      have hgal := hg12.curBelow hal
      have hsal : (w2.alloc (.cells #[.int .i64 (N : Int)] 3)).heap.size = w2.heap.size + 1 := by simp
      have hGN := grains_one (n := N) (by omega) (by omega)
      clear hal hc2 hg12
      have Hp := Lib.hid hp; clear hp
      have Hone1 := Lib.hid hone1; clear hone1
      have Hgal := Lib.hid hgal; clear hgal
      have Hsal := Lib.hid hsal; clear hsal
      have HGN := Lib.hid hGN; clear hGN
      go_wp2_with fail
      with_reducible refine (Hp.out).mono ?_
      rintro e w3 ⟨K0, hK0, rfl, hc3, hg3⟩
      have hs3 := hg3.size
      rw [Hsal.out] at hs3
      have ho3 := (Hone1.out.curKeep hg3 hg).mono (Nat.le_refl _) hg3.size
      have hgw3 := Hgal.out.trans hg3
      clear hg3 Hp Hone1 Hgal
      go_wp2_with fail
      go_loopw [6, 7] (fun v i wr => ∃ (K n : Nat) (a : Option Addr) (c : Nat) (xs : List Int), v = .slice a n c ∧ i = .int .i64 K ∧ K ≤ 20 ∧ Grains xs ∧ Own w.heap.size wr.heap.size wr a n c xs ∧ Cur wr g (A + 100 - 2 * K) ∧ Chg (fun k => k = g) w wr) (fun _ i _ => (intOf i).toNat)
      case atStart => exact ⟨K0, 1, _, 1, _, rfl, rfl, by omega, HGN.out, ho3, hc3.le (by omega), hgw3⟩
      case round =>
        clear ho3 hc3 hgw3 HGN Hsal
        obtain ⟨K, n, a, c, xs, rfl, rfl, hK, hG, ho, hc, hgw⟩ := hrel
        have hsw := hgw.size
        by_cases hK0 : K = 0
        · subst hK0
          have hn := near_grains hG
          have hc' := hc.le (show _ ≤ A + 600 by omega)
          have Hn := Lib.hid hn; clear hn
          have Hc' := Lib.hid hc'; clear hc'
          have Hgw := Lib.hid hgw; clear hgw
          have Ho := Lib.hid ho; clear ho
          have HG := Lib.hid hG; clear hG
          go_wp2
          go_ret
          exact ⟨_, _, _, _, rfl, Ho.out, Hn.out, Hc'.out, Hgw.out⟩
        · skip
          have hlx := ho.length
          have hnl := hG.len
          have hfn := fallsL_len xs
          have hfa := fun W h => saFalls_any a n c xs W h hG
          have hfat := fun i (hi : i < (fallsL xs).length) => falls_at hi
          have hfall := fun (k : Nat) W h (hk : k < n) => saFall_any a n c xs k W h hG hk
          have hgr := fun (k : Nat) (h1 : k < xs.length) (h2 : steepB xs k = true) => fall_grains hG h1 h2
          have hkp : (0 : Int) < (K : Int) := by omega
          have hk8 : (K : Int) ≤ 100 := by omega
          have Hlx := Lib.hid hlx; clear hlx
          have Hfa := Lib.hid hfa; clear hfa
          have Hfat := Lib.hid hfat; clear hfat
          have Hfall := Lib.hid hfall; clear hfall
          have Hgr := Lib.hid hgr; clear hgr
          have Hfn := Lib.hid hfn; clear hfn
          have HG := Lib.hid hG; clear hG
          go_wp2_with fail
          with_reducible refine (Hfa.out _ ho.at).mono ?_
          rintro e w2 ⟨p2, m2, d2, rfl, hof, hb2⟩
          have hlf := hof.length
          have hs2 := hb2.size
          have hc2 := hc.keep hb2
          have hgw2 := hgw.curBelow hb2
          have ho2 := ho.keep hb2
          clear hc hgw ho hb2
          by_cases hm0 : m2 = 0
          · subst hm0
            have hz : ¬ (0 : Int) < ((0 : Nat) : Int) := by omega
            have ho3 := ho2.mono (Nat.le_refl _) hs2
            clear ho2 hof
            have Hlf := Lib.hid hlf; clear hlf
            go_wp2
            go_roundw
            case rel => exact ⟨K - 1, n, a, c, xs, rfl, valI (by omega), by omega, HG.out, ho3, hc2.le (by omega), hgw2⟩
            case measure => simp [intOf]; omega
          · have hmp : (0 : Int) < (m2 : Int) := by omega
            have hm24 : m2 ≤ 24 := by have := Hfn.out; have := Hlx.out; omega
            have hm8 : (m2 : Int) ≤ 24 := by omega
            have hp := pick_any m2 w2 g _ hc2 (by omega) (by omega) (by omega)
            have Hp := Lib.hid hp; clear hp
            have Hlf := Lib.hid hlf; clear hlf
            go_wp2_with fail
            with_reducible refine (Hp.out).mono ?_
            rintro e w3 ⟨i, hi, rfl, hc3, hg3⟩
            have hs3 := hg3.size
            have hgw3 := hgw2.trans hg3
            have hof3 := (hof.curKeep hg3 (by omega)).at
            have ho3 := ho2.curKeep hg3 (by omega)
            clear hof ho2 hc2 hgw2 hg3 Hp
            obtain ⟨k, hk1, hk2, hk3⟩ := Hfat.out i (by rw [Hlf.out]; exact hi)
            obtain ⟨bb, oo, rfl, hbl, hcc⟩ := hof3.cell i hi
            have hck := hcc i hi
            rw [hk1] at hck
            clear hcc hbl hof3 hk1
            have hkn : k < n := by rw [← Hlx.out]; exact hk2
            have hgk := Hgr.out k hk2 hk3
            have hcall := Hfall.out k w3 ho3.at hkn
            have hk9 : (k : Int) ≤ 100 := by omega
            have hi8 : (i : Int) < (m2 : Int) := by omega
            clear ho3
            have Hcall := Lib.hid hcall; clear hcall
            have Hgk := Lib.hid hgk; clear hgk
            go_wp2_with fail
            with_reducible refine (Hcall.out).mono ?_
            rintro e w4 ⟨p4, m4, d4, rfl, ho4, hb4⟩
            have hc4 := hc3.keep hb4
            have hgw4 := hgw3.curBelow hb4
            have ho5 := ho4.mono (show w.heap.size ≤ w3.heap.size by omega) (Nat.le_refl _)
            clear hc3 hgw3 ho4 hb4
            go_wp2
            go_roundw
            case rel => exact ⟨K - 1, m4, p4, d4, _, rfl, valI (by omega), by omega, Hgk.out, ho5, hc4.le (by omega), hgw4⟩
            case measure => simp [intOf]; omega
  · have hp := anyPiles_any most w1 g _ hc1 (by omega) (by omega)
    have Hp := Lib.hid hp; clear hp
    go_wp2_with fail
    with_reducible refine (Hp.out).mono ?_
    rintro e w2 ⟨a, n, c, xs, rfl, ho, hn, hc2, hg2⟩
    have ho2 := ho.mono hs1 (Nat.le_refl _)
    have hgg := hg1.trans hg2
    have hc' := hc2.le (show _ ≤ A + 600 by omega)
    clear ho hg2 hc2 hg1 hc1 Hp
    have Ho2 := Lib.hid ho2; clear ho2
    have Hgg := Lib.hid hgg; clear hgg
    have Hc' := Lib.hid hc'; clear hc'
    have Hn := Lib.hid hn; clear hn
    go_wp2
    go_ret
    exact ⟨_, _, _, _, rfl, Ho2.out, Hn.out, Hc'.out, Hgg.out⟩
end
end Go.Proofs.YtdfmljkjidepeaaGreatDoor
namespace Go.Proofs.YtdfmljkjidepeaaGreatDoor
section
open Go.RowKit
set_option linter.unusedVariables false
set_option linter.unusedSimpArgs false

end
end Go.Proofs.YtdfmljkjidepeaaGreatDoor
namespace Go.Proofs.YtdfmljkjidepeaaGreatDoor
section
open Go.RowKit
set_option linter.unusedVariables false
set_option linter.unusedSimpArgs false

set_option maxHeartbeats 12800000 in
set_option maxRecDepth 100000 in
theorem reaching_any (w : World) (g A : Nat) (h : Cur w g A) (hA : A ≤ 500000000) :
    Calls Tryz.prog 19 #[.pointer (some ⟨g, 0, none⟩)] w fun e w' => ∃ ao n cap xs bo m cap' ys, e = .returned (.tuple #[.slice ao n cap, .slice bo m cap']) ∧ Own w.heap.size w'.heap.size w' ao n cap xs ∧ Near xs ∧ Own w.heap.size w'.heap.size w' bo m cap' ys ∧ Near ys ∧ Chg (fun k => k = g) w w' := by
  have hcon := sand_any 11 w g A h (by omega) (by omega)
  rw [show ((11 : Nat) : Int) = 11 from rfl] at hcon
  have hg := h.lt
  have Hcon := Lib.hid hcon; clear hcon
  go_enter Tryz.func19, Tryz.ntmps19
  go_wp2_with fail
  with_reducible refine (Hcon.out).mono ?_
  rintro e w1 ⟨pa, na, ca, as_, rfl, hoa, hna, hc1, hg1⟩
  have hs1 := hg1.size
  have hgd := saGood_any pa na ca as_ w1 hoa.at
  clear Hcon
  have ret : ∀ (w2 : World), Chg (fun k => k = g) w1 w2 → Cur w2 g (A + 700) → Calls Tryz.prog 31 #[.pointer (some ⟨g, 0, none⟩), .int .i64 11] w2 fun e w3 => ∃ bo m cap' ys, e = .returned (.slice bo m cap') ∧ Own w.heap.size w3.heap.size w3 pa na ca as_ ∧ Own w.heap.size w3.heap.size w3 bo m cap' ys ∧ Near ys ∧ Chg (fun k => k = g) w w3 := fun w2 h2 hc2 => by
    have hcon := sand_any 11 w2 g _ hc2 (by omega) (by omega)
    rw [show ((11 : Nat) : Int) = 11 from rfl] at hcon
    have hs2 := h2.size
    refine hcon.mono fun e w3 ⟨bo, m, cap', ys, he, ho, hn, _, hg3⟩ => ⟨bo, m, cap', ys, he, ?_, ho.mono (by omega) (Nat.le_refl _), hn, (hg1.trans h2).trans hg3⟩
    exact ((hoa.curKeep h2 hg).curKeep hg3 hg).mono (Nat.le_refl _) (by have := hg3.size; omega)
  have Hna := Lib.hid hna
  clear hna
  cases hb : sandB as_
  · rw [hb] at hgd
    have hr := ret w1 (Chg.refl _ _) (hc1.le (by omega))
    have Hgd := Lib.hid hgd; clear hgd
    have Hb := Lib.hid hb; clear hb
    have Hr := Lib.hid hr; clear hr
    clear ret
    go_wp2_with fail
    with_reducible refine (Hgd.out).mono ?_
    rintro e w' ⟨rfl, rfl⟩
    go_wp2_with fail
    with_reducible refine (Hr.out).mono ?_
    rintro e w3 ⟨bo, m, cap', ys, rfl, q1, q2, q3, q4⟩
    have Q1 := Lib.hid q1; clear q1
    have Q2 := Lib.hid q2; clear q2
    have Q3 := Lib.hid q3; clear q3
    have Q4 := Lib.hid q4; clear q4
    go_wp2
    go_ret2
    exact ⟨_, _, _, _, _, _, _, _, rfl, Q1.out, Hna.out, Q2.out, Q3.out, Q4.out⟩
  · rw [hb] at hgd
    have hG0 := (sand_iff.1 hb).grains
    have h5 := one_any 5 w1 g _ hc1 (by omega) (by omega) (by omega)
    rw [show ((5 : Nat) : Int) = 5 from rfl] at h5
    have Hgd := Lib.hid hgd; clear hgd
    have Hb := Lib.hid hb; clear hb
    have H5 := Lib.hid h5; clear h5
    have HG0 := Lib.hid hG0; clear hG0
    go_wp2_with fail
    with_reducible refine (Hgd.out).mono ?_
    rintro e w' ⟨rfl, rfl⟩
    go_wp2_with fail
    with_reducible refine (H5.out).mono ?_
    rintro e w2 ⟨t, rfl, hc2, hg2⟩
    clear H5
    cases t
    · clear ret
      have hs2 := hg2.size
      have hoa2 := hoa.curKeep hg2 hg
      have hgw2 := hg1.trans hg2
      have hcp := l1Own_any pa na ca as_ w2 hoa2.at (by have := hoa.length; have := HG0.out.len; omega)
      have hgB : g < w.heap.size := hg
      clear hoa hg1 hg2 hc1
      have Hcp := Lib.hid hcp; clear hcp
      go_wp2_with fail
      with_reducible refine (Hcp.out).mono ?_
      rintro e w3 ⟨pb, cb, rfl, ho3, hb3⟩
      have hs3 := hb3.size
      have hoa3 := hoa2.keep hb3
      have hc3 := hc2.keep hb3
      have hgw3 := hgw2.curBelow hb3
      clear hoa2 hc2 hgw2 hb3 Hcp
      have hp := pick_any 12 w3 g _ hc3 (by omega) (by omega) (by omega)
      rw [show ((12 : Nat) : Int) = 12 from rfl] at hp
      have Hp := Lib.hid hp; clear hp
      go_wp2_with fail
      with_reducible refine (Hp.out).mono ?_
      rintro e w4 ⟨K0, hK0, rfl, hc4, hg4⟩
      have hs4 := hg4.size
      have ho4 := (ho3.curKeep hg4 (by omega)).mono (show w.heap.size ≤ w2.heap.size by omega) hs4
      have hoa4 := hoa3.curKeep hg4 hg
      have hgw4 := hgw3.trans hg4
      clear ho3 hoa3 hc3 hgw3 hg4 Hp
      have hE0 : w1.heap.size ≤ w4.heap.size := by omega
      go_wp2_with fail
      go_loopw [5, 6] (fun v i wr => ∃ (K n : Nat) (a : Option Addr) (c : Nat) (xs : List Int), v = .slice a n c ∧ i = .int .i64 K ∧ K ≤ 20 ∧ Grains xs ∧ Own w.heap.size wr.heap.size wr a n c xs ∧ Cur wr g (A + 1000 - 2 * K) ∧ Chg (fun k => k = g) w wr ∧ Own w.heap.size w4.heap.size wr pa na ca as_ ∧ w4.heap.size ≤ wr.heap.size) (fun _ i _ => (intOf i).toNat)
      case atStart => exact ⟨K0, na, _, cb, as_, rfl, rfl, by omega, HG0.out, ho4, hc4.le (by omega), hgw4, hoa4.mono (Nat.le_refl _) hE0, Nat.le_refl _⟩
      case round =>
        clear ho4 hc4 hgw4 hoa4 HG0
        obtain ⟨K, n, a, c, xs, rfl, rfl, hK, hG, ho, hc, hgw, haw, hs8⟩ := hrel
        have hsw := hgw.size
        by_cases hK0 : K = 0
        · subst hK0
          have hn := near_grains hG
          have h5 := one_any 5 wr g _ hc (by omega) (by omega) (by omega)
          rw [show ((5 : Nat) : Int) = 5 from rfl] at h5
          have H5 := Lib.hid h5; clear h5
          have Hn := Lib.hid hn; clear hn
          have HG := Lib.hid hG; clear hG
          go_wp2_with fail
          with_reducible refine (H5.out).mono ?_
          rintro e u1 ⟨t, rfl, hcu, hgu⟩
          have hsu := hgu.size
          have q1 := (haw.curKeep hgu hgB)
          have q2 := (ho.curKeep hgu hgB).mono (Nat.le_refl _) hsu
          have q4 := hgw.trans hgu
          have hs9 : w4.heap.size ≤ u1.heap.size := by omega
          have q3 := q1.mono (Nat.le_refl _) hs9
          clear ho haw hgw hgu hc hcu H5 q1
          have Q2 := Lib.hid q2; clear q2
          have Q3 := Lib.hid q3; clear q3
          have Q4 := Lib.hid q4; clear q4
          cases t
          · go_wp2
            go_ret2
            exact ⟨_, _, _, _, _, _, _, _, rfl, Q3.out, Hna.out, Q2.out, Hn.out, Q4.out⟩
          · go_wp2
            go_ret2
            exact ⟨_, _, _, _, _, _, _, _, rfl, Q2.out, Hn.out, Q3.out, Hna.out, Q4.out⟩
        · skip
          have hlx := ho.length
          have hnl := hG.len
          have hfn := fallsL_len xs
          have hfa := fun W h => saFalls_any a n c xs W h hG
          have hfat := fun i (hi : i < (fallsL xs).length) => falls_at hi
          have hfall := fun (k : Nat) W h (hk : k < n) => saFall_any a n c xs k W h hG hk
          have hgr := fun (k : Nat) (h1 : k < xs.length) (h2 : steepB xs k = true) => fall_grains hG h1 h2
          have hkp : (0 : Int) < (K : Int) := by omega
          have hk8 : (K : Int) ≤ 100 := by omega
          have Hlx := Lib.hid hlx; clear hlx
          have Hfa := Lib.hid hfa; clear hfa
          have Hfat := Lib.hid hfat; clear hfat
          have Hfall := Lib.hid hfall; clear hfall
          have Hgr := Lib.hid hgr; clear hgr
          have Hfn := Lib.hid hfn; clear hfn
          have HG := Lib.hid hG; clear hG
          go_wp2_with fail
          with_reducible refine (Hfa.out _ ho.at).mono ?_
          rintro e w2 ⟨p2, m2, d2, rfl, hof, hb2⟩
          have hlf := hof.length
          have hs2 := hb2.size
          have hc2 := hc.keep hb2
          have hgw2 := hgw.curBelow hb2
          have ho2 := ho.keep hb2
          have ha2 := haw.keep hb2
          clear hc hgw ho hb2 haw
          by_cases hm0 : m2 = 0
          · subst hm0
            have hz : ¬ (0 : Int) < ((0 : Nat) : Int) := by omega
            have ho3 := ho2.mono (Nat.le_refl _) hs2
            clear ho2 hof
            have Hlf := Lib.hid hlf; clear hlf
            go_wp2
            go_roundw
            case rel => exact ⟨K - 1, n, a, c, xs, rfl, valI (by omega), by omega, HG.out, ho3, hc2.le (by omega), hgw2, ha2, by omega⟩
            case measure => simp [intOf]; omega
          · have hmp : (0 : Int) < (m2 : Int) := by omega
            have hm24 : m2 ≤ 24 := by have := Hfn.out; have := Hlx.out; omega
            have hm8 : (m2 : Int) ≤ 24 := by omega
            have hp := pick_any m2 w2 g _ hc2 (by omega) (by omega) (by omega)
            have Hp := Lib.hid hp; clear hp
            have Hlf := Lib.hid hlf; clear hlf
            go_wp2_with fail
            with_reducible refine (Hp.out).mono ?_
            rintro e w3 ⟨i, hi, rfl, hc3, hg3⟩
            have hs3 := hg3.size
            have hgw3 := hgw2.trans hg3
            have hof3 := (hof.curKeep hg3 (by omega)).at
            have ho3 := ho2.curKeep hg3 (by omega)
            have ha3 := ha2.curKeep hg3 hgB
            clear ha2 hof ho2 hc2 hgw2 hg3 Hp
            obtain ⟨k, hk1, hk2, hk3⟩ := Hfat.out i (by rw [Hlf.out]; exact hi)
            obtain ⟨bb, oo, rfl, hbl, hcc⟩ := hof3.cell i hi
            have hck := hcc i hi
            rw [hk1] at hck
            clear hcc hbl hof3 hk1
            have hkn : k < n := by rw [← Hlx.out]; exact hk2
            have hgk := Hgr.out k hk2 hk3
            have hcall := Hfall.out k w3 ho3.at hkn
            have hk9 : (k : Int) ≤ 100 := by omega
            have hi8 : (i : Int) < (m2 : Int) := by omega
            clear ho3
            have Hcall := Lib.hid hcall; clear hcall
            have Hgk := Lib.hid hgk; clear hgk
            go_wp2_with fail
            with_reducible refine (Hcall.out).mono ?_
            rintro e w4 ⟨p4, m4, d4, rfl, ho4, hb4⟩
            have hc4 := hc3.keep hb4
            have hgw4 := hgw3.curBelow hb4
            have ha4 := ha3.keep hb4
            have hs44 := hb4.size
            have ho5 := ho4.mono (show w.heap.size ≤ w3.heap.size by omega) (Nat.le_refl _)
            clear hc3 hgw3 ho4 hb4 ha3
            go_wp2
            go_roundw
            case rel => exact ⟨K - 1, m4, p4, d4, _, rfl, valI (by omega), by omega, Hgk.out, ho5, hc4.le (by omega), hgw4, ha4, by omega⟩
            case measure => simp [intOf]; omega
    · have hr := ret w2 hg2 (hc2.le (by omega))
      clear ret
      have Hr := Lib.hid hr; clear hr
      go_wp2_with fail
      with_reducible refine (Hr.out).mono ?_
      rintro e w3 ⟨bo, m, cap', ys, rfl, q1, q2, q3, q4⟩
      have Q1 := Lib.hid q1; clear q1
      have Q2 := Lib.hid q2; clear q2
      have Q3 := Lib.hid q3; clear q3
      have Q4 := Lib.hid q4; clear q4
      go_wp2
      go_ret2
      exact ⟨_, _, _, _, _, _, _, _, rfl, Q1.out, Hna.out, Q2.out, Q3.out, Q4.out⟩
end
end Go.Proofs.YtdfmljkjidepeaaGreatDoor
