/- Chapter 6 by the program: lists behind falls, slices.CompactFunc over lists, levels. No condition. -/
import Derived.Test.YtdfmljkjidepeaaGreatDoorGs
import Derived.Test.YtdfmljkjidepeaaGreatDoorSaS
import Derived.Test.YtdfmljkjidepeaaGreatDoorGy
import Derived.Test.YtdfmljkjidepeaaGreatDoorGo
namespace Go.Proofs.YtdfmljkjidepeaaGreatDoor
open Go.RowKit
set_option linter.unusedVariables false
set_option linter.unusedSimpArgs false
set_option maxRecDepth 20000

theorem fallsV_beh {xs : List Int} {k n : Nat} (hn : xs.length = n) (hk : k < (fallsL xs).length) : ∃ i : Nat, (fallsV xs n)[k]? = some (fallV (decide (i + 1 = n)) i) ∧ (behL xs).getD k [] = fallL xs i ∧ i < n ∧ steepB xs i = true := by
  subst hn
  unfold fallsL fallsT at hk
  rw [List.length_map] at hk
  obtain ⟨h1, h2⟩ := fallsN_mem.1 (List.getElem_mem hk)
  refine ⟨(fallsN xs xs.length)[k], ?_, ?_, h1, h2⟩
  · unfold fallsV
    rw [List.getElem?_map, List.getElem?_eq_getElem hk]; rfl
  · unfold behL behT
    rw [List.getD_eq_getElem?_getD, List.getElem?_map, List.getElem?_eq_getElem hk]; rfl

set_option maxHeartbeats 6400000 in
theorem listsBehind_any (ao : Option Addr) (n cap : Nat) (xs : List Int) (w : World) (h : IntsAt w ao n cap xs) (hg : Grains xs) :
    Calls Tryz.prog 59 #[.slice ao n cap] w fun e w' => ∃ a m c, e = .returned (.slice a m c) ∧ OwnRows w.heap.size w'.heap.size w' a m c (behL xs) ∧ Below w.heap.size w w' := by
  have hl := h.length
  have hlen := hg.len
  have hcp := fallsOf_any ao n cap xs w h hg
  have hbl := beh_len xs
  have hbl24 := behL_length hg
  have Hl := Lib.hid hl; clear hl
  have Hg := Lib.hid hg; clear hg
  have Hcp := Lib.hid hcp; clear hcp
  have Hbl := Lib.hid hbl; clear hbl
  have Hbl24 := Lib.hid hbl24; clear hbl24
  go_enter Tryz.func59, Tryz.ntmps59
  go_wp2_with fail
  with_reducible refine (Hcp.out).mono ?_
  rintro e w1 ⟨a1, n1, c1, rfl, ho1, hb1⟩
  have hs1 := hb1.size
  have hn1 := ho1.length
  rw [fallsV_length] at hn1
  have hn2 : (fallsL xs).length = n1 := by rw [← hn1]; unfold fallsL; rw [Hl.out]
  have hn24 : n1 ≤ 24 := by rw [← hn2, ← Hbl.out]; exact Hbl24.out
  have Hn1 := Lib.hid hn1; clear hn1
  have Hn2 := Lib.hid hn2; clear hn2
  go_wp2_with fail
  go_loopw [3, 10] (fun v i wr => ∃ (k : Nat) (a : Option Addr) (c : Nat) (vs : List Value), k ≤ n1 ∧ i = .int .i64 k ∧ v = .slice a k c ∧ Sp w.heap.size wr.heap.size w.heap.size wr.heap.size wr a k c vs ((behL xs).take k) ∧ vs.Pairwise apart ∧ OwnRow w.heap.size w1.heap.size wr 61 a1 n1 c1 (fallsV xs n) ∧ Below w.heap.size w wr) (fun _ i _ => n1 - (intOf i).toNat)
  case atStart => exact ⟨0, none, 0, [], Nat.zero_le _, rfl, rfl, Sp.nil _ _ _ _ _, List.Pairwise.nil, ho1, hb1⟩
  case round =>
    obtain ⟨k, a, c, vs, hk, rfl, rfl, hv, hap, hrow, hb⟩ := hrel
    clear ho1
    have hsz := hb.size
    by_cases hlt : k < n1
    · obtain ⟨i, hv1, hv2, hi1, hi2⟩ := fallsV_beh (k := k) Hl.out (by rw [Hn2.out]; exact hlt)
      rcases hrow.cases with ⟨_, hz', _⟩ | ⟨g3, rfl, _, _, hg3⟩
      · omega
      have hck := World.ownsRow.cellAt hrow.1 k (by omega)
      rw [hv1] at hck
      have htk := take_snocX (xs := behL xs) hlt (by rw [Hbl.out, Hn2.out])
      rw [hv2] at htk
      have hsf := slideFrom_any ao n cap xs wr (h.keep hb) (by have := Hl.out; omega)
      have hlet := fun R a' c' W (hs : Sl wr.heap.size W.heap.size R W a' n c' xs none 0 0 []) (hB : wr.heap.size ≤ W.heap.size) => let_any wr.heap.size R a' n c' xs none 0 0 [] i W hs hB Hg.out hi1 (by omega) (fun j => by simp)
      generalize fallV (decide (i + 1 = n)) i = fv at *
      clear hv1
      have Htk := Lib.hid htk; clear htk
      have Hv2 := Lib.hid hv2; clear hv2
      have Hsf := Lib.hid hsf; clear hsf
      have Hlet := Lib.hid hlet; clear hlet
      have Hi2 := Lib.hid hi2; clear hi2
      have Hap := Lib.hid hap; clear hap
      go_wp2_with fail
      with_reducible refine (Hsf.out).mono ?_
      rintro e w2 ⟨R, a2, c2, rfl, hs2, hb2⟩
      have hcon := Hlet.out R a2 c2 w2 hs2 hb2.size
      have Hcon := Lib.hid hcon; clear hcon
      go_wp2_with fail
      with_reducible refine (Hcon.out).mono ?_
      rintro e w3 ⟨rfl, a4, n4, c4, a5, n5, c5, hs4, hb4⟩
      obtain ⟨k0, k1⟩ := hs4.c0
      have hb3 := hb2.trans hb4
      have hsz3 := hb3.size
      have hv3 := (hv.keep hb3).mono (Nat.le_refl _) hsz3 (Nat.le_refl _) (Nat.le_refl _)
      have hrow3 := hrow.keep hb3
      have hown := hs4.cols.own
      have hap2 := apart_snoc hv.rows Hap.out hown
      have hbw := belowTrans hb hb3 (Nat.le_refl _)
      have hv4 : Sp w.heap.size w3.heap.size w.heap.size w3.heap.size w3 a k c vs ((behL xs).take k) := hv3.mono (Nat.le_refl _) (Nat.le_refl _) (Nat.le_refl _) hsz3
      have hown4 := hown.mono hsz (Nat.le_refl _)
      clear hs2 hb2 hs4 hb4 hv hrow hck hv3 hb3 hown
      have Hap2 := Lib.hid hap2; clear hap2
      go_wp2_with (at_builtin; refine wpList_pushSp w3 rfl _ _ rfl w.heap.size w3.heap.size w.heap.size w3.heap.size a k c vs _ rfl hv4 a4 n4 c4 (fallL xs i) hown4 rfl (by omega) hbw.size ?_)
      intro a9 c9 w9 hv9 hc9 hn9
      have hbf := hbw.trans (hv4.below hc9 hbw.size)
      have hrow9 := hrow3.chg hc9 (fun g _ _ h1 h2 => OwnRow.apart_ty hrow3 hv4.spine (by decide) h1 h2)
      have hsz9 := hc9.size
      clear hv4 hrow3 hown4 hc9 hn9 k0 k1
      go_wp2
      go_roundw
      case rel => exact ⟨k + 1, a9, c9, _, by omega, by go_num, rfl, by rw [Htk.out]; exact hv9.mono (Nat.le_refl _) (Nat.le_refl _) (Nat.le_refl _) hsz9, Hap2.out, hrow9, hbf⟩
      case measure => simp [intOf]; omega
    · obtain rfl : n1 = k := by omega
      rw [take_allR (by rw [Hbl.out, Hn2.out])] at hv
      have hfin := hv.own hap (Nat.le_refl _) (Nat.le_refl _) (Nat.le_refl _) (Nat.le_refl _)
      clear hrow hv hap
      go_wp2
      go_ret
      exact ⟨_, _, _, rfl, hfin, hb⟩

/-! ### slices.CompactFunc -/
def compV (vs : List Value) (xss : List (List Int)) (k : Nat) : List Value := (compI xss k).map fun j => vs.getD j undef
theorem compV_yes {vs : List Value} {xss : List (List Int)} {k : Nat} (h : keepI xss k = true) : compV vs xss (k + 1) = compV vs xss k ++ [vs.getD k undef] := by
  unfold compV; rw [compI_succ, h, List.map_append]; rfl
theorem compV_no {vs : List Value} {xss : List (List Int)} {k : Nat} (h : keepI xss k = false) : compV vs xss (k + 1) = compV vs xss k := by
  unfold compV; rw [compI_succ, h]; simp
theorem compI_all {xss : List (List Int)} {k : Nat} (h : ∀ j, j < k → keepI xss j = true) : compI xss k = List.range k := by
  unfold compI
  rw [List.filter_eq_self]
  exact fun j hj => h j (List.mem_range.1 hj)
theorem range_getD {α : Type} (l : List α) (d : α) (k : Nat) (hk : k ≤ l.length) : (List.range k).map (fun j => l.getD j d) = l.take k := by
  apply List.ext_getElem
  · simp; omega
  · intro i h1 h2
    simp at h1
    rw [List.getElem_map, List.getElem_range, List.getElem_take, List.getD_eq_getElem?_getD, List.getElem?_eq_getElem (by omega)]; rfl
theorem compV_all {vs : List Value} {xss : List (List Int)} {k : Nat} (h : ∀ j, j < k → keepI xss j = true) (hk : k ≤ vs.length) : compV vs xss k = vs.take k := by
  unfold compV; rw [compI_all h]; exact range_getD vs undef k hk
theorem compX_all {xss : List (List Int)} (h : ∀ j, j < xss.length → keepI xss j = true) : compX xss xss.length = xss := by
  unfold compX; rw [compI_all h, range_getD _ _ _ (Nat.le_refl _), List.take_of_length_le (Nat.le_refl _)]
theorem keepI_zero (xss : List (List Int)) : keepI xss 0 = true := by simp [keepI]
theorem keepI_eq {xss : List (List Int)} {k : Nat} (hk : 0 < k) : keepI xss k = !decide (xss.getD k [] = xss.getD (k - 1) []) := by
  unfold keepI
  have : ¬ k = 0 := by omega
  simp [this]
theorem compV_sub (vs : List Value) (xss : List (List Int)) : (compV vs xss vs.length).Sublist vs := by
  have h1 : (compI xss vs.length).Sublist (List.range vs.length) := List.filter_sublist
  have h2 := h1.map fun j => vs.getD j undef
  rw [range_getD _ _ _ (Nat.le_refl _), List.take_of_length_le (Nat.le_refl _)] at h2
  exact h2
theorem compV_rows {B E : Nat} {w : World} {vs : List Value} {xss : List (List Int)} (h : RowsW B E w vs xss) : RowsW B E w (compV vs xss xss.length) (compX xss xss.length) := by
  refine ⟨by unfold compV compX; simp, fun i hi => ?_⟩
  unfold compX at hi
  rw [List.length_map] at hi
  have hm := List.getElem_mem hi
  unfold compI at hm
  have hlt := List.mem_range.1 (List.mem_filter.1 hm).1
  obtain ⟨a, m, c, e, ho⟩ := h.row _ hlt
  refine ⟨a, m, c, ?_, ?_⟩
  · unfold compV
    rw [List.getD_eq_getElem?_getD, List.getElem?_map, List.getElem?_eq_getElem hi]; exact e
  · unfold compX
    rw [List.getD_eq_getElem?_getD, List.getElem?_map, List.getElem?_eq_getElem hi]; exact ho
theorem getD_val {vs : List Value} {k : Nat} (hk : k < vs.length) : vs[k]? = some (vs.getD k undef) := by rw [List.getD_eq_getElem?_getD, List.getElem?_eq_getElem hk]; rfl

def equalF : Value := .func (.func 29) #[] #[]
set_option maxHeartbeats 12800000 in
theorem compact_any (B E : Nat) (ao : Option Addr) (n cap : Nat) (xss : List (List Int)) (w : World) (h : OwnRows B E w ao n cap xss) (hn : n ≤ 100000) (hB : B ≤ w.heap.size) :
    Calls Tryz.prog 67 #[.slice ao n cap, equalF] w fun e w' => ∃ m, e = .returned (.slice ao m cap) ∧ OwnRows B E w' ao m cap (compX xss xss.length) ∧ Below B w w' := by
  have hl := h.length
  have hnI : (n : Int) ≤ 100000 := by omega
  unfold equalF
  by_cases h2 : n < 2
  · have hx : compX xss xss.length = xss := compX_all fun j hj => by
      obtain rfl : j = 0 := by omega
      exact keepI_zero xss
    have h2I : (n : Int) < 2 := by omega
    rw [hx]
    have Hx := Lib.hid hx; clear hx
    have Hl := Lib.hid hl; clear hl
    have H := Lib.hid h; clear h
    go_enter Tryz.func67, Tryz.ntmps67
    go_wp2
    go_ret
    exact ⟨n, rfl, H.out, Below.refl _ _⟩
  · have h2I : ¬ ((n : Int) < 2) := by omega
    obtain ⟨vs, hsp, hap⟩ := h.sp
    have hvl := hsp.spine.length
    obtain ⟨hz, hrest⟩ | ⟨g, rfl, hg, hgE, hgw⟩ := hsp.spine.cases
    · omega
    have hcap := hsp.spine.capLe
    clear h
    have Hl := Lib.hid hl; clear hl
    have Hap := Lib.hid hap; clear hap
    have Hvl := Lib.hid hvl; clear hvl
    go_enter Tryz.func67, Tryz.ntmps67
    go_wp2_with fail
    go_loopw [5] (fun a wr => ∃ k : Nat, 1 ≤ k ∧ k ≤ n ∧ a = .int .i64 k ∧ Hid (∀ j, j < k → keepI xss j = true) ∧ Sp B E B E wr (some ⟨g, 0, none⟩) n cap vs xss ∧ Below B w wr) (fun a _ => n - (intOf a).toNat)
    case atStart => exact ⟨1, Nat.le_refl _, by omega, rfl, Lib.hid (fun j hj => by obtain rfl : j = 0 := by omega
                                                                                    exact keepI_zero xss), hsp, Below.refl _ _⟩
    case round =>
      obtain ⟨k, hk1, hk, rfl, Hall, hs, hb⟩ := hrel
      clear hsp
      by_cases hlt : k < n
      · obtain ⟨b0, o0, a0, m0, c0, e0, _, hck, hv0, hr0⟩ := hs.getRow hlt
        obtain ⟨b1, o1, a1, m1, c1, e1, _, hck1, hv1, hr1⟩ := hs.getRow (show k - 1 < n by omega)
        cases e0
        cases e1
        rw [Nat.zero_add] at hck hck1
        have hkp := keepI_eq (xss := xss) (k := k) (by omega)
        have hg0 := getD_val (vs := vs) (k := k) (by rw [Hvl.out]; exact hlt)
        generalize xss.getD k [] = x at *
        generalize xss.getD (k - 1) [] = y at *
        have hcon := fun nq => equal_any a0 a1 m0 m1 c0 c1 x y (wr.drewN nq) (hr0.at.drewN nq) (hr1.at.drewN nq)
        have hkI : (k : Int) < n := by omega
        by_cases hxy : x = y
        · rw [decide_eq_true hxy] at hcon hkp
          have hst : vs.take k = compV vs xss (k + 1) := by rw [compV_no (by rw [hkp]; rfl), compV_all Hall.out (by rw [Hvl.out]; exact hk)]
          have hs1 := slFromG g n cap k hlt hcap .i64
          have hs2 : ∀ q W, q ≤ n → (Instr.sliceAt 45 (.slice (some ⟨g, 0, none⟩) n cap) none (some (.int .i64 (q : Int))) none).run Tryz.prog W = .ok (.slice (some ⟨g, 0, none⟩) q cap) W := fun q W hq => slUptoG g n cap q hq hcap (by omega) .i64 W
          clear hr0 hr1
          have Hcon := Lib.hid hcon; clear hcon
          have Hkp := Lib.hid hkp; clear hkp
          have Hxy := Lib.hid hxy; clear hxy
          have Hst := Lib.hid hst; clear hst
          have Hv0 := Lib.hid hv0; clear hv0
          have Hv1 := Lib.hid hv1; clear hv1
          have Hs2 := Lib.hid hs2; clear hs2
          have Hg0 := Lib.hid hg0; clear hg0
          go_wp2
          go_quiet ((go_at_call 29; exact Calls.quiet_of (Hcon.out _)))
          go_wp2
          go_loopw [5, 7] (fun a b wr => ∃ (k1 k2 : Nat) (us : List Value), 1 ≤ k2 ∧ k + k2 ≤ n ∧ k1 + 1 ≤ k + k2 ∧ a = .int .i64 k1 ∧ b = .int .i64 k2 ∧ OwnRow B E wr 24 (some ⟨g, 0, none⟩) n cap us ∧ us.take k1 = compV vs xss (k + k2) ∧ us.drop (k + k2 - 1) = vs.drop (k + k2 - 1) ∧ RowsW B E wr vs xss ∧ Below B w wr) (fun _ b _ => n - (intOf b).toNat)
          case atStart => exact ⟨k, 1, vs, Nat.le_refl _, by omega, by omega, rfl, rfl, (hs.drewN _).spine, Hst.out, rfl, (hs.drewN _).rows, belowDrewN hb _⟩
          case round =>
            obtain ⟨k1, k2, us, hk2, hkn, hkk, rfl, rfl, hov, htk, hdr, hrv, hb2⟩ := hrel
            clear hs hb hck hck1
            have hul := hov.length
            have hsz := hb2.size
            by_cases hlt2 : k + k2 < n
            · have hu0 : us[k + k2]? = vs[k + k2]? := by
                have h1 := congrArg (fun l => l[1]?) hdr
                simp only [List.getElem?_drop] at h1
                rwa [show k + k2 - 1 + 1 = k + k2 by omega] at h1
              have hu1 : us[k + (k2 - 1)]? = vs[k + (k2 - 1)]? := by
                have h1 := congrArg (fun l => l[0]?) hdr
                simp only [List.getElem?_drop] at h1
                rwa [show k + k2 - 1 + 0 = k + (k2 - 1) by omega] at h1
              obtain ⟨a2, m2, c2, e2, hr2⟩ := hrv.row (k + k2) (by rw [Hl.out]; exact hlt2)
              obtain ⟨a3, m3, c3, e3, hr3⟩ := hrv.row (k + (k2 - 1)) (by rw [Hl.out]; omega)
              have hck2 := World.ownsRow.cellAt hov.1 (k + k2) (by omega)
              have hck3 := World.ownsRow.cellAt hov.1 (k + (k2 - 1)) (by omega)
              rw [hu0, getD_val (by rw [Hvl.out]; exact hlt2), e2] at hck2
              rw [hu1, getD_val (by rw [Hvl.out]; omega), e3] at hck3
              have hkp2 := keepI_eq (xss := xss) (k := k + k2) (by omega)
              rw [show k + k2 - 1 = k + (k2 - 1) by omega] at hkp2
              have hdr1 : us.drop (k + k2) = vs.drop (k + k2) := by
                have := congrArg (List.drop 1) hdr
                rwa [List.drop_drop, List.drop_drop, show k + k2 - 1 + 1 = k + k2 by omega] at this
              have hvk : vs.getD (k + k2) undef = .slice a2 m2 c2 := e2
              generalize xss.getD (k + k2) [] = x2 at *
              generalize xss.getD (k + (k2 - 1)) [] = y2 at *
              have hcon2 := fun nq => equal_any a2 a3 m2 m3 c2 c3 x2 y2 (wr.drewN nq) (hr2.at.drewN nq) (hr3.at.drewN nq)
              have hl2I : (k2 : Int) < ((n - k : Nat) : Int) := by omega
              have hl2N : k2 < n - k := by omega
              have hk2p : (0 : Int) < k2 := by omega
              by_cases hxy2 : x2 = y2
              · rw [decide_eq_true hxy2] at hcon2 hkp2
                have hcv := compV_no (vs := vs) (xss := xss) (k := k + k2) (by rw [hkp2]; rfl)
                rw [← hcv] at htk
                clear hr2 hr3
                have Hcon2 := Lib.hid hcon2; clear hcon2
                have Hkp2 := Lib.hid hkp2; clear hkp2
                have Hxy2 := Lib.hid hxy2; clear hxy2
                have Hcv := Lib.hid hcv; clear hcv
                have Htk := Lib.hid htk; clear htk
                have Hdr := Lib.hid hdr; clear hdr
                have Hdr1 := Lib.hid hdr1; clear hdr1
                have Hu0 := Lib.hid hu0; clear hu0
                have Hu1 := Lib.hid hu1; clear hu1
                have E2 := Lib.hid e2; clear e2
                have E3 := Lib.hid e3; clear e3
                have Hvk := Lib.hid hvk; clear hvk
                have Hul := Lib.hid hul; clear hul
                go_wp2
                go_quiet ((go_at_call 29; exact Calls.quiet_of (Hcon2.out _)))
                go_wp2
                go_roundw
                case rel => exact ⟨k1, k2 + 1, us, by omega, by omega, by omega, rfl, by go_num, hov, Htk.out, Hdr1.out, hrv.keep (belowDrewN (Below.refl _ _) _), belowDrewN hb2 _⟩
                case measure => simp [intOf]; omega
              · rw [decide_eq_false hxy2] at hcon2 hkp2
                have hcv := compV_yes (vs := vs) (xss := xss) (k := k + k2) (by rw [hkp2]; rfl)
                rw [hvk] at hcv
                have hck4 := World.ownsRow.cellAt hov.1 k1 (by omega)
                obtain ⟨u, hu⟩ : ∃ u, us[k1]? = some u := ⟨_, List.getElem?_eq_getElem (by omega)⟩
                rw [hu] at hck4
                have hfz := World.ownsRow.frozenAt hov.1 k1
                have hst4 := fun q => World.ownsRow.stored (w := wr.drewN q) hov.1 k1 (.slice a2 m2 c2)
                have hch := fun q => ((Chg.ofGrown (hst4 q).2).mono (fun k hk => by simpa [Value.ownBlock] using hk.symm) : Chg (fun q => (Value.slice (some ⟨g, 0, none⟩) n cap).ownBlock = some q) (wr.drewN q) ((wr.drewN q).setCell ⟨g, k1, none⟩ (.slice a2 m2 c2)))
                have hrv4 := fun q => RowsW.chgSpine (hrv.keep (belowDrewN (Below.refl _ _) q)) (show OwnRow B E (wr.drewN q) 24 (some ⟨g, 0, none⟩) n cap us from hov) (hch q)
                have hov4 : ∀ q, OwnRow B E ((wr.drewN q).setCell ⟨g, k1, none⟩ (.slice a2 m2 c2)) 24 (some ⟨g, 0, none⟩) n cap (us.set k1 (.slice a2 m2 c2)) := fun q => ⟨(hst4 q).1, hov.2⟩
                have hb4 : ∀ q, Below B w ((wr.drewN q).setCell ⟨g, k1, none⟩ (.slice a2 m2 c2)) := fun q => (belowDrewN hb2 q).setCell hg _
                have htk4 : (us.set k1 (.slice a2 m2 c2)).take (k1 + 1) = compV vs xss (k + k2 + 1) := by
                  rw [hcv, ← htk, List.take_add_one, List.take_set_of_le (Nat.le_refl _), List.getElem?_set_self (by omega)]; rfl
                have hdr4 : (us.set k1 (.slice a2 m2 c2)).drop (k + k2) = vs.drop (k + k2) := by rw [List.drop_set_of_lt (by omega)]; exact hdr1
                clear hr2 hr3 hst4 hch hov hrv hb2
                have Hcon2 := Lib.hid hcon2; clear hcon2
                have Hkp2 := Lib.hid hkp2; clear hkp2
                have Hxy2 := Lib.hid hxy2; clear hxy2
                have Hcv := Lib.hid hcv; clear hcv
                have Htk := Lib.hid htk; clear htk
                have Hdr := Lib.hid hdr; clear hdr
                have Hdr1 := Lib.hid hdr1; clear hdr1
                have Hu0 := Lib.hid hu0; clear hu0
                have Hu1 := Lib.hid hu1; clear hu1
                have E2 := Lib.hid e2; clear e2
                have E3 := Lib.hid e3; clear e3
                have Hvk := Lib.hid hvk; clear hvk
                have Hul := Lib.hid hul; clear hul
                have Hu := Lib.hid hu; clear hu
                have Hrv4 := Lib.hid hrv4; clear hrv4
                have Hov4 := Lib.hid hov4; clear hov4
                have Hb4 := Lib.hid hb4; clear hb4
                have Htk4 := Lib.hid htk4; clear htk4
                have Hdr4 := Lib.hid hdr4; clear hdr4
                go_wp2
                go_quiet ((go_at_call 29; exact Calls.quiet_of (Hcon2.out _)))
                go_wp2
                go_roundw
                case rel => exact ⟨k1 + 1, k2 + 1, _, by omega, by omega, by omega, by go_num, by go_num, Hov4.out _, Htk4.out, Hdr4.out, Hrv4.out _, Hb4.out _⟩
                case measure => simp [intOf]; omega
            · have hkn2 : k + k2 = n := by omega
              have hl2I : ¬ ((k2 : Int) < ((n - k : Nat) : Int)) := by omega
              have hl2N : ¬ (k2 < n - k) := by omega
              rw [hkn2] at htk
              have hs3 := slFromG g n cap k1 (by omega) hcap .i64
              have hs4 := fun W => Hs2.out k1 W (by omega)
              have hnm : n - k1 < 9223372036854775807 := by omega
              obtain ⟨w3, hclr, hov3, hc3⟩ := clear_run wr B E g k1 n cap (cap - k1) us hov (by omega) 0
              have hch : Chg (fun q => (Value.slice (some ⟨g, 0, none⟩) n cap).ownBlock = some q) wr w3 := hc3.mono (fun k hk => by simp [hk, Value.ownBlock])
              have hrv3 := compV_rows (hrv.chgSpine hov hch)
              have hb3 : Below B w w3 := hb2.trans (hc3.below (by omega) (fun k hk => by omega))
              rw [htk] at hov3
              rw [Hl.out] at hrv3
              have hfin0 : OwnRows B E w3 (some ⟨g, 0, none⟩) k1 cap (compX xss n) := (Sp.mk hov3 hrv3).own (Hap.out.sublist (by have := compV_sub vs xss; rwa [Hvl.out] at this)) (Nat.le_refl _) (Nat.le_refl _) (Nat.le_refl _) (Nat.le_refl _)
              have hfin : OwnRows B E w3 (some ⟨g, 0, none⟩) k1 cap (compX xss xss.length) := by rw [Hl.out]; exact hfin0
              have Hfin := Lib.hid hfin; clear hfin
              have Htk := Lib.hid htk; clear htk
              have Hdr := Lib.hid hdr; clear hdr
              have Hul := Lib.hid hul; clear hul
              have Hkn2 := Lib.hid hkn2; clear hkn2
              clear hov hrv hrv3 hov3 hc3 hch hfin0
              go_wp2
              go_ret
              exact ⟨_, rfl, Hfin.out, hb3⟩
        · rw [decide_eq_false hxy] at hcon hkp
          have hall2 : ∀ j, j < k + 1 → keepI xss j = true := fun j hj => by
            by_cases e : j = k
            · subst e; rw [hkp]; rfl
            · exact Hall.out j (by omega)
          clear hr0 hr1
          have Hcon := Lib.hid hcon; clear hcon
          have Hkp := Lib.hid hkp; clear hkp
          have Hxy := Lib.hid hxy; clear hxy
          have Hv0 := Lib.hid hv0; clear hv0
          have Hv1 := Lib.hid hv1; clear hv1
          have Hg0 := Lib.hid hg0; clear hg0
          have Hall2 := Lib.hid hall2; clear hall2
          go_wp2
          go_quiet ((go_at_call 29; exact Calls.quiet_of (Hcon.out _)))
          go_wp2
          go_roundw
          case rel => exact ⟨k + 1, by omega, by omega, by go_num, Hall2, hs.drewN _, belowDrewN hb _⟩
          case measure => simp [intOf]; omega
      · obtain rfl : n = k := by omega
        have hx : compX xss xss.length = xss := compX_all (by rw [Hl.out]; exact Hall.out)
        have hfin : OwnRows B E wr (some ⟨g, 0, none⟩) n cap (compX xss xss.length) := by rw [hx]; exact hs.own Hap.out (Nat.le_refl _) (Nat.le_refl _) (Nat.le_refl _) (Nat.le_refl _)
        clear hs
        have Hx := Lib.hid hx; clear hx
        have Hfin := Lib.hid hfin; clear hfin
        go_wp2
        go_ret
        exact ⟨_, rfl, Hfin.out, hb⟩
end Go.Proofs.YtdfmljkjidepeaaGreatDoor
