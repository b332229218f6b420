/- The draw of a play of falls. No condition but sizes. -/
import Derived.Test.YthhhgmkjjagmaaaSaE
namespace Go.Proofs.Ythhhgmkjjagmaaa
open Go.RowKit
set_option linter.unusedVariables false
set_option linter.unusedSimpArgs false

theorem make_run (w : World) (n : Nat) (L : Int) (hL : L = (n : Int)) (hn : n ≤ 1000) : ∃ w', (Instr.makeSlice 24 (.int .i64 L) (.int .i64 L)).run Try.prog w = .ok (.slice (some ⟨w.heap.size, 0, none⟩) n n) w' ∧ Own w.heap.size w'.heap.size w' (some ⟨w.heap.size, 0, none⟩) n n (List.replicate n 0) ∧ Below w.heap.size w w' := by
  obtain ⟨i0, hi, hz0, hz1, hz2⟩ := info_parts Try.infoInt
  obtain ⟨w', hrun, r1, r2⟩ := run_make_full (P := Try.prog) w w.heap.size 24 3 i0 _ 1 Try.underlying24 hi hz0 hz1 .i64 .i64 n (by rw [hz2]; omega) (by unfold maxLen; omega) (Nat.le_refl _)
  rw [show (Value.int .i64 0).cells = #[Value.int .i64 0] from rfl, Nat.mul_one, madeZeros] at r1
  subst hL
  exact ⟨w', hrun, Own.of r1, (Below.refl _ _).grown r2 (Nat.le_refl _) (fun k hk => by cases hk)⟩
set_option maxHeartbeats 12800000 in
set_option maxRecDepth 100000 in
theorem DrawPlayFalls_any (ac : Option Addr) (nc cc : Nat) (w : World) (hnc : nc ≤ 1048576) (hby : ByteIn w w.heap.size ac nc) :
    Calls Try.prog 8 #[.slice ac nc cc] w fun e w' => ∃ ao n cap xs fo m fcap fs, e = .returned (.tuple #[.slice ao n cap, .slice fo m fcap]) ∧ Own w.heap.size w'.heap.size w' ao n cap xs ∧ Near xs ∧ Own w.heap.size w'.heap.size w' fo m fcap fs ∧ m ≤ 301 ∧ Below w.heap.size w w' := by
  have hcon := sand_any 16 _ _ 0 (cur_new w ac nc cc hnc hby) (by omega) (by omega)
  rw [show ((16 : Nat) : Int) = 16 from rfl] at hcon
  have Hcon := Lib.hid hcon; clear hcon
  have Hby := Lib.hid hby; clear hby
  go_enter Try.func8, Try.ntmps8
  go_wp2_with fail
  with_reducible refine (Hcon.out).mono ?_
  rintro e w1 ⟨a, n, c, xs, rfl, ho, hn, hc, hg⟩
  have hs1 := hg.size
  have hwC : (w.alloc (.cells #[.slice ac nc cc, .int .i64 0, .int .u64 0] 54)).heap.size ≤ w1.heap.size := hs1
  have hw1 : w.heap.size ≤ w1.heap.size := Nat.le_trans (curSize _ _) hs1
  have hgB : w.heap.size < w1.heap.size := by simp at hs1; omega
  have hn8 : n ≤ 1048576 := by have := hn.1; have := ho.length; omega
  have h12 := one_any 12 w1 _ _ hc (by omega) (by omega) (by omega)
  rw [show ((12 : Nat) : Int) = 12 from rfl] at h12
  clear Hcon hc
  have Hnear := Lib.hid hn
  clear hn
  have H12 := Lib.hid h12; clear h12
  go_wp2_with fail
  with_reducible refine (H12.out).mono ?_
  rintro e w2 ⟨t, rfl, hc2, hg2⟩
  have hs2 := hg2.size
  have ho2 := ho.curKeep hg2 (by simp)
  have hgw2 := hg.trans hg2
  clear ho hg hg2 H12
  cases t
  · have hcp := l1Own_any a n c xs w2 ho2.at hn8
    have Hcp := Lib.hid hcp; clear hcp
    go_wp2_with fail
    with_reducible refine (Hcp.out).mono ?_
    rintro e w3 ⟨nw, c3, rfl, ho3, hb3⟩
    have hs3 := hb3.size
    have ho4 := ho2.keep hb3
    have hc3 := hc2.keep hb3
    have hgw3 := hgw2.curBelow hb3
    clear ho2 hc2 hgw2 hb3 Hcp
    have hp := pick_any 12 w3 _ _ hc3 (by omega) (by omega) (by omega)
    rw [show ((12 : Nat) : Int) = 12 from rfl] at hp
    have Hp := Lib.hid hp; clear hp
    go_wp2_with fail
    with_reducible refine (Hp.out).mono ?_
    rintro e w4 ⟨K0, hK0, rfl, hc4, hg4⟩
    have hs4 := hg4.size
    have hnow := ((ho3.curKeep hg4 (by omega)).mono (show w1.heap.size ≤ w2.heap.size from hs2) hs4)
    have hoa0 := ho4.curKeep hg4 (by simp)
    have hgw4 := hgw3.trans hg4
    have hsz0 : w1.heap.size ≤ w4.heap.size := by omega
    clear ho3 ho4 hc3 hgw3 hg4 Hp
    go_wp2_with fail
    go_loopw [6, 7, 8] (fun fv nv i wr => ∃ (K m n2 : Nat) (p : Option Addr) (pc : Nat) (nw : Option Addr) (c2 : Nat) (fs ys : List Int), fv = .slice p m pc ∧ nv = .slice nw n2 c2 ∧ i = .int .i64 K ∧ m + K ≤ 11 ∧ Own w1.heap.size wr.heap.size wr p m pc fs ∧ Own w1.heap.size wr.heap.size wr nw n2 c2 ys ∧ (∀ g, (Value.slice p m pc).ownBlock = some g → (Value.slice nw n2 c2).ownBlock ≠ some g) ∧ Own (w.alloc (.cells #[.slice ac nc cc, .int .i64 0, .int .u64 0] 54)).heap.size w1.heap.size wr a n c xs ∧ Cur wr w.heap.size (900 - 2 * K) ∧ Chg (fun k => k = w.heap.size) (w.alloc (.cells #[.slice ac nc cc, .int .i64 0, .int .u64 0] 54)) wr ∧ w1.heap.size ≤ wr.heap.size) (fun _ _ i _ => (intOf i).toNat)
    case atStart => exact ⟨K0, 0, n, none, 0, nw, c3, [], xs, rfl, rfl, rfl, by omega, Own.nil _ _ _, hnow, (fun g hg => by simp [Value.ownBlock] at hg), hoa0, hc4.le (by omega), hgw4, hsz0⟩
    case round =>
      clear hnow hoa0 hc4 hgw4 hsz0 hs2 hs3 hs4 hK0
      obtain ⟨K, m, n2, p, pc, nw, c2, fs, ys, rfl, rfl, rfl, hmK, hofs, hnow, hap, hoa, hc, hgw, hsz⟩ := hrel
      by_cases hK0 : K = 0
      · subst hK0
        have hcw := hc.le (show _ ≤ 1000 by omega)
        have hm : m ≤ 11 := by omega
        clear hc hnow hap
        have h6 := one_any 6 wr _ _ hcw (by omega) (by omega) (by omega)
        rw [show ((6 : Nat) : Int) = 6 from rfl] at h6
        have H6 := Lib.hid h6; clear h6
        go_wp2_with fail
        with_reducible refine (H6.out).mono ?_
        rintro e u1 ⟨t, rfl, hcu, hgu⟩
        have hsu := hgu.size
        have hoa2 := hoa.curKeep hgu (by simp)
        have hof2 := (hofs.curKeep hgu hgB).mono (Nat.le_refl _) hsu
        have hgw2 := hgw.trans hgu
        clear hoa hofs hgw hgu hcw H6
        cases t
        · have hoa3 := hoa2.mono (curSize _ _) (Nat.le_trans hsz hsu)
          have hof3 := hof2.mono hw1 (Nat.le_refl _)
          have hbb := hgw2.drawn
          clear hoa2 hof2 hgw2
          have Hoa3 := Lib.hid hoa3; clear hoa3
          have Hof3 := Lib.hid hof3; clear hof3
          have Hbb := Lib.hid hbb; clear hbb
          go_wp2
          go_ret2
          exact ⟨_, _, _, _, _, _, _, _, rfl, Hoa3.out, Hnear.out, Hof3.out, by omega, Hbb.out⟩
        · have h5 := pick_any 5 u1 _ _ hcu (by omega) (by omega) (by omega)
          rw [show ((5 : Nat) : Int) = 5 from rfl] at h5
          have H5 := Lib.hid h5; clear h5
          go_wp2_with fail
          with_reducible refine (H5.out).mono ?_
          rintro e u2 ⟨b5, hb5, rfl, hcu2, hgu2⟩
          have hb58 : (b5 : Int) < 5 := by omega
          have hsu2 := hgu2.size
          have hoa3 := hoa2.curKeep hgu2 (by simp)
          have hof3 := (hof2.curKeep hgu2 hgB).mono (Nat.le_refl _) hsu2
          have hgw3 := hgw2.trans hgu2
          have hnew : ∀ j, (Value.slice p m pc).ownBlock = some j → w1.heap.size ≤ j := fun j hj => (hof3.1.lt j hj).1
          have hsS : w1.heap.size ≤ u2.heap.size := by omega
          clear hoa2 hof2 hgw2 hgu2 hcu2 hcu H5
          go_wp2_with (at_builtin; refine wpList_push u2 rfl _ _ rfl w1.heap.size _ p m pc _ rfl hof3 ((b5 : Int) - 1) rfl (by omega) hsS ?_)
          intro q' pc' u3 ho' hch'
          have hs3 := hch'.size
          have hgw4 := hgw3.newer hch' (fun j hj => Nat.le_trans hwC (hnew j hj))
          have hbb := hgw4.drawn
          have hof4 := ho'.mono hw1 (Nat.le_refl _)
          have hoa4 := (hoa3.chg hch' (fun j h1 h2 _ e => by have := hnew j e; omega)).mono (curSize _ _) (show w1.heap.size ≤ u3.heap.size by omega)
          clear hof3 ho' hch' hgw3 hgw4 hnew hoa3
          have Hoa4 := Lib.hid hoa4; clear hoa4
          have Hof4 := Lib.hid hof4; clear hof4
          have Hbb := Lib.hid hbb; clear hbb
          go_wp2
          go_ret2
          exact ⟨_, _, _, _, _, _, _, _, rfl, Hoa4.out, Hnear.out, Hof4.out, by omega, Hbb.out⟩
      · have hkp : (0 : Int) < (K : Int) := by omega
        have hk8 : (K : Int) ≤ 11 := by omega
        have hgd := saGood_any nw n2 c2 ys wr hnow.at
        cases hb : sandB ys
        · rw [hb] at hgd
          have hcw := hc.le (show _ ≤ 1000 by omega)
          have hm : m ≤ 11 := by omega
          clear hc hnow hap
          have Hgd := Lib.hid hgd; clear hgd
          have Hb := Lib.hid hb; clear hb
          go_wp2_with fail
          with_reducible refine (Hgd.out).mono ?_
          rintro e w' ⟨rfl, rfl⟩
          have h6 := one_any 6 wr _ _ hcw (by omega) (by omega) (by omega)
          rw [show ((6 : Nat) : Int) = 6 from rfl] at h6
          have H6 := Lib.hid h6; clear h6
          go_wp2_with fail
          with_reducible refine (H6.out).mono ?_
          rintro e u1 ⟨t, rfl, hcu, hgu⟩
          have hsu := hgu.size
          have hoa2 := hoa.curKeep hgu (by simp)
          have hof2 := (hofs.curKeep hgu hgB).mono (Nat.le_refl _) hsu
          have hgw2 := hgw.trans hgu
          clear hoa hofs hgw hgu hcw H6
          cases t
          · have hoa3 := hoa2.mono (curSize _ _) (Nat.le_trans hsz hsu)
            have hof3 := hof2.mono hw1 (Nat.le_refl _)
            have hbb := hgw2.drawn
            clear hoa2 hof2 hgw2
            have Hoa3 := Lib.hid hoa3; clear hoa3
            have Hof3 := Lib.hid hof3; clear hof3
            have Hbb := Lib.hid hbb; clear hbb
            go_wp2
            go_ret2
            exact ⟨_, _, _, _, _, _, _, _, rfl, Hoa3.out, Hnear.out, Hof3.out, by omega, Hbb.out⟩
          · have h5 := pick_any 5 u1 _ _ hcu (by omega) (by omega) (by omega)
            rw [show ((5 : Nat) : Int) = 5 from rfl] at h5
            have H5 := Lib.hid h5; clear h5
            go_wp2_with fail
            with_reducible refine (H5.out).mono ?_
            rintro e u2 ⟨b5, hb5, rfl, hcu2, hgu2⟩
            have hb58 : (b5 : Int) < 5 := by omega
            have hsu2 := hgu2.size
            have hoa3 := hoa2.curKeep hgu2 (by simp)
            have hof3 := (hof2.curKeep hgu2 hgB).mono (Nat.le_refl _) hsu2
            have hgw3 := hgw2.trans hgu2
            have hnew : ∀ j, (Value.slice p m pc).ownBlock = some j → w1.heap.size ≤ j := fun j hj => (hof3.1.lt j hj).1
            have hsS : w1.heap.size ≤ u2.heap.size := by omega
            clear hoa2 hof2 hgw2 hgu2 hcu2 hcu H5
            go_wp2_with (at_builtin; refine wpList_push u2 rfl _ _ rfl w1.heap.size _ p m pc _ rfl hof3 ((b5 : Int) - 1) rfl (by omega) hsS ?_)
            intro q' pc' u3 ho' hch'
            have hs3 := hch'.size
            have hgw4 := hgw3.newer hch' (fun j hj => Nat.le_trans hwC (hnew j hj))
            have hbb := hgw4.drawn
            have hof4 := ho'.mono hw1 (Nat.le_refl _)
            have hoa4 := (hoa3.chg hch' (fun j h1 h2 _ e => by have := hnew j e; omega)).mono (curSize _ _) (show w1.heap.size ≤ u3.heap.size by omega)
            clear hof3 ho' hch' hgw3 hgw4 hnew hoa3
            have Hoa4 := Lib.hid hoa4; clear hoa4
            have Hof4 := Lib.hid hof4; clear hof4
            have Hbb := Lib.hid hbb; clear hbb
            go_wp2
            go_ret2
            exact ⟨_, _, _, _, _, _, _, _, rfl, Hoa4.out, Hnear.out, Hof4.out, by omega, Hbb.out⟩
        · rw [hb] at hgd
          have hG := (sand_iff.1 hb).grains
          have hlx := hnow.length
          have hnl := hG.len
          have hfn := fallsL_len ys
          have hfa := saFalls_any nw n2 c2 ys wr hnow.at hG
          have hfat := fun i (hi : i < (fallsL ys).length) => falls_at hi
          have hfall := fun (k : Nat) W h (hk : k < n2) => saFall_any nw n2 c2 ys k W h hG hk
          have hgb : ∀ g, (Value.slice p m pc).ownBlock = some g → w1.heap.size ≤ g := fun g hg => (hofs.1.lt g hg).1
          have Hgd := Lib.hid hgd; clear hgd
          have Hb := Lib.hid hb; clear hb
          have Hfa := Lib.hid hfa; clear hfa
          have Hlx := Lib.hid hlx; clear hlx
          have Hfn := Lib.hid hfn; clear hfn
          have Hfat := Lib.hid hfat; clear hfat
          have Hfall := Lib.hid hfall; clear hfall
          have HG := Lib.hid hG; clear hG
          have Hap := Lib.hid hap; clear hap
          have Hgb := Lib.hid hgb; clear hgb
          go_wp2_with fail
          with_reducible refine (Hgd.out).mono ?_
          rintro e w' ⟨rfl, rfl⟩
          go_wp2_with fail
          with_reducible refine (Hfa.out).mono ?_
          rintro e w2 ⟨p2, m2, d2, rfl, hof, hb2⟩
          have hlf := hof.length
          have hs2 := hb2.size
          have hc2 := hc.keep hb2
          have hgw2 := hgw.curBelow hb2
          have hnow2 := hnow.keep hb2
          have hofs2 := hofs.keep hb2
          have hoa2 := hoa.keep hb2
          clear hc hgw hnow hb2 hofs hoa
          by_cases hm0 : m2 = 0
          · subst hm0
            have hcw := hc2.le (show _ ≤ 1000 by omega)
            have hm : m ≤ 11 := by omega
            have hoa := hoa2
            have hofs := hofs2.mono (Nat.le_refl _) hs2
            have hgw := hgw2
            have hsz3 : w1.heap.size ≤ w2.heap.size := by omega
            clear hoa2 hofs2 hgw2 hc2 hnow2 hof hsz
            have hsz := hsz3
            have Hlf := Lib.hid hlf; clear hlf
            have h6 := one_any 6 w2 _ _ hcw (by omega) (by omega) (by omega)
            rw [show ((6 : Nat) : Int) = 6 from rfl] at h6
            have H6 := Lib.hid h6; clear h6
            go_wp2_with fail
            with_reducible refine (H6.out).mono ?_
            rintro e u1 ⟨t, rfl, hcu, hgu⟩
            have hsu := hgu.size
            have hoa2 := hoa.curKeep hgu (by simp)
            have hof2 := (hofs.curKeep hgu hgB).mono (Nat.le_refl _) hsu
            have hgw2 := hgw.trans hgu
            clear hoa hofs hgw hgu hcw H6
            cases t
            · have hoa3 := hoa2.mono (curSize _ _) (Nat.le_trans hsz hsu)
              have hof3 := hof2.mono hw1 (Nat.le_refl _)
              have hbb := hgw2.drawn
              clear hoa2 hof2 hgw2
              have Hoa3 := Lib.hid hoa3; clear hoa3
              have Hof3 := Lib.hid hof3; clear hof3
              have Hbb := Lib.hid hbb; clear hbb
              go_wp2
              go_ret2
              exact ⟨_, _, _, _, _, _, _, _, rfl, Hoa3.out, Hnear.out, Hof3.out, by omega, Hbb.out⟩
            · have h5 := pick_any 5 u1 _ _ hcu (by omega) (by omega) (by omega)
              rw [show ((5 : Nat) : Int) = 5 from rfl] at h5
              have H5 := Lib.hid h5; clear h5
              go_wp2_with fail
              with_reducible refine (H5.out).mono ?_
              rintro e u2 ⟨b5, hb5, rfl, hcu2, hgu2⟩
              have hb58 : (b5 : Int) < 5 := by omega
              have hsu2 := hgu2.size
              have hoa3 := hoa2.curKeep hgu2 (by simp)
              have hof3 := (hof2.curKeep hgu2 hgB).mono (Nat.le_refl _) hsu2
              have hgw3 := hgw2.trans hgu2
              have hnew : ∀ j, (Value.slice p m pc).ownBlock = some j → w1.heap.size ≤ j := fun j hj => (hof3.1.lt j hj).1
              have hsS : w1.heap.size ≤ u2.heap.size := by omega
              clear hoa2 hof2 hgw2 hgu2 hcu2 hcu H5
              go_wp2_with (at_builtin; refine wpList_push u2 rfl _ _ rfl w1.heap.size _ p m pc _ rfl hof3 ((b5 : Int) - 1) rfl (by omega) hsS ?_)
              intro q' pc' u3 ho' hch'
              have hs3 := hch'.size
              have hgw4 := hgw3.newer hch' (fun j hj => Nat.le_trans hwC (hnew j hj))
              have hbb := hgw4.drawn
              have hof4 := ho'.mono hw1 (Nat.le_refl _)
              have hoa4 := (hoa3.chg hch' (fun j h1 h2 _ e => by have := hnew j e; omega)).mono (curSize _ _) (show w1.heap.size ≤ u3.heap.size by omega)
              clear hof3 ho' hch' hgw3 hgw4 hnew hoa3
              have Hoa4 := Lib.hid hoa4; clear hoa4
              have Hof4 := Lib.hid hof4; clear hof4
              have Hbb := Lib.hid hbb; clear hbb
              go_wp2
              go_ret2
              exact ⟨_, _, _, _, _, _, _, _, rfl, Hoa4.out, Hnear.out, Hof4.out, by omega, Hbb.out⟩
          · have hmp : ¬ (m2 : Int) = 0 := by omega
            have hm24 : m2 ≤ 24 := by have := Hfn.out; have := Hlx.out; omega
            have hm8 : (m2 : Int) ≤ 24 := by omega
            have hp := pick_any m2 w2 _ _ hc2 (by omega) (by omega) (by omega)
            have Hp := Lib.hid hp; clear hp
            have Hlf := Lib.hid hlf; clear hlf
            go_wp2_with fail
            with_reducible refine (Hp.out).mono ?_
            rintro e w3 ⟨i, hi, rfl, hc3, hg3⟩
            have hs3 := hg3.size
            have hgw3 := hgw2.trans hg3
            have hof3 := (hof.curKeep hg3 (by omega)).at
            have hnow3 := hnow2.curKeep hg3 hgB
            have hofs3 := (hofs2.curKeep hg3 hgB).mono (Nat.le_refl _) (show wr.heap.size ≤ w3.heap.size by omega)
            have hoa3 := hoa2.curKeep hg3 (by simp)
            clear hof hnow2 hofs2 hoa2 hc2 hgw2 hg3 Hp
            obtain ⟨k, hk1, hk2, hk3⟩ := Hfat.out i (by rw [Hlf.out]; exact hi)
            obtain ⟨bb, oo, rfl, hbl, hcc⟩ := hof3.cell i hi
            have hck := hcc i hi
            rw [hk1] at hck
            clear hcc hbl hof3 hk1
            have hkn : k < n2 := by rw [← Hlx.out]; exact hk2
            have hk9 : (k : Int) ≤ 100 := by omega
            have hi8 : (i : Int) < (m2 : Int) := by omega
            have hsS : w1.heap.size ≤ w3.heap.size := by omega
            go_wp2_with (at_builtin; refine wpList_push w3 rfl _ _ rfl w1.heap.size _ p m pc _ rfl hofs3 (k : Int) rfl (by omega) hsS ?_)
            intro p4 pc4 w4 ho4 hch4
            have hs4 := hch4.size
            have hnow4 := hnow3.chg hch4 (fun j _ _ e1 e2 => Hap.out j e2 e1)
            have hoa4 := hoa3.chg hch4 (fun j h1 h2 _ e => by have := Hgb.out j e; omega)
            have hgw4 := hgw3.newer hch4 (fun j hj => Nat.le_trans hwC (Hgb.out j hj))
            have hc4 := hc3.chg hch4 (fun j hj e => by have := Hgb.out j e; omega)
            have hcall := Hfall.out k w4 hnow4.at hkn
            clear hnow3 hnow4 hofs3 hoa3 hgw3 hc3 hch4
            have Hcall := Lib.hid hcall; clear hcall
            go_wp2_with fail
            with_reducible refine (Hcall.out).mono ?_
            rintro e w5 ⟨p5, m5, d5, rfl, ho5, hb5⟩
            have hs5 := hb5.size
            have hc5 := (hc4.keep hb5).le (show _ ≤ 900 - 2 * (K - 1) by omega)
            have hgw5 := hgw4.curBelow hb5
            have hoa5 := hoa4.keep hb5
            have hofs5 := (ho4.keep hb5).mono (Nat.le_refl _) hs5
            have hnow5 := ho5.mono (show w1.heap.size ≤ w4.heap.size by omega) (Nat.le_refl _)
            have hap5 : ∀ g, (Value.slice p4 (m + 1) pc4).ownBlock = some g → (Value.slice p5 m5 d5).ownBlock ≠ some g := fun g h1 h2 => by
              have e1 := ho4.2 g h1
              have e2 := (ho5.1.lt g h2).1
              omega
            have hsz5 : w1.heap.size ≤ w5.heap.size := by omega
            clear hc4 hgw4 hoa4 ho4 ho5 hb5
            have Hofs5 := Lib.hid hofs5; clear hofs5
            have Hnow5 := Lib.hid hnow5; clear hnow5
            have Hap5 := Lib.hid hap5; clear hap5
            have Hoa5 := Lib.hid hoa5; clear hoa5
            have Hgw5 := Lib.hid hgw5; clear hgw5
            have Hc5 := Lib.hid hc5; clear hc5
            go_wp2
            go_roundw
            case rel => exact ⟨K - 1, m + 1, m5, p4, pc4, p5, d5, _, _, rfl, rfl, valI (by omega), by omega, Hofs5.out, Hnow5.out, Hap5.out, Hoa5.out, Hc5.out, Hgw5.out, hsz5⟩
            case measure => simp [intOf]; omega
  · have hp := pick_any 2 w2.drew _ _ hc2.drew (by omega) (by omega) (by omega)
    rw [show ((2 : Nat) : Int) = 2 from rfl] at hp
    have hod := ho2.keep (belowDrewN (Below.refl _ w2) 1)
    have hgd := hgw2.curBelow (belowDrewN (Below.refl _ w2) 1)
    have hfin : ∀ w3, Chg (fun k => k = w.heap.size) w2.drew w3 → ∀ w4, Below w3.heap.size w3 w4 → Own w.heap.size w4.heap.size w4 a n c xs ∧ Below w.heap.size w w4 ∧ w.heap.size ≤ w3.heap.size := fun w3 h3 w4 h4 => by
      have e1 := h3.size
      have e2 := h4.size
      have e0 : w2.drew.heap.size = w2.heap.size := rfl
      exact ⟨((hod.curKeep h3 (by simp)).keep h4).mono (curSize _ _) (by omega), ((hgd.trans h3).curBelow h4).drawn, by omega⟩
    clear ho2 hgw2 hc2 hod hgd
    have Hp := Lib.hid hp; clear hp
    have Hfin := Lib.hid hfin; clear hfin
    go_wp2
    go_region_law (first | (go_simp; with_reducible refine (Hp.out).mono ?_; rintro e w3 ⟨b, hb, rfl, hc3, hg3⟩; have hwr : IntKind.i64.wrap (300 + (b : Int)) = 300 + (b : Int) := IntWalk.i64_in _ (by omega); obtain ⟨w4, hrun, ho4, hb4⟩ := make_run w3 (300 + b) (300 + (b : Int)) (by omega) (by omega); obtain ⟨q1, q2, q3⟩ := Hfin.out w3 hg3 w4 hb4; have Q1 := Lib.hid q1; have Q2 := Lib.hid q2; have Ho4 := Lib.hid (ho4.mono q3 (Nat.le_refl _)); clear q1 q2 ho4 hb4))
    all_goals
      go_wp2
      go_ret2
      exact ⟨_, _, _, _, _, _, _, _, rfl, Q1.out, Hnear.out, Ho4.out, by omega, Q2.out⟩
end Go.Proofs.Ythhhgmkjjagmaaa
