/- Chapter 6 by the program: lists behind falls, slices.CompactFunc over lists, levels. No condition. -/
import Derived.Test.YtdfmljkjidepeaaDoorSaL
import Derived.Test.YtdfmljkjidepeaaDoorSaS
import Derived.Test.YtdfmljkjidepeaaDoorSrtI
import Derived.Test.YtdfmljkjidepeaaDoorRowsC
import Derived.Test.YtdfmljkjidepeaaDoorOrbA
namespace Go.Proofs.YtdfmljkjidepeaaDoor
open Go.RowKit
set_option linter.unusedVariables false
set_option linter.unusedSimpArgs false
set_option maxRecDepth 20000

theorem fallsV_beh {xs : List Int} {k n : Nat} (hn : xs.length = n) (hk : k < (fallsL xs).length) : ∃ i : Nat, (fallsV xs n)[k]? = some (fallV (decide (i + 1 = n)) i) ∧ (behL xs).getD k [] = fallL xs i ∧ i < n ∧ steepB xs i = true := by
  subst hn
  unfold fallsL fallsT at hk
  rw [List.length_map] at hk
  obtain ⟨h1, h2⟩ := fallsN_mem.1 (List.getElem_mem hk)
  refine ⟨(fallsN xs xs.length)[k], ?_, ?_, h1, h2⟩
  · unfold fallsV
    rw [List.getElem?_map, List.getElem?_eq_getElem hk]; rfl
  · unfold behL behT
    rw [List.getD_eq_getElem?_getD, List.getElem?_map, List.getElem?_eq_getElem hk]; rfl

set_option maxHeartbeats 6400000 in
theorem listsBehind_any (ao : Option Addr) (n cap : Nat) (xs : List Int) (w : World) (h : IntsAt w ao n cap xs) (hg : Grains xs) :
    Calls Tryd.prog 26 #[.slice ao n cap] w fun e w' => ∃ a m c, e = .returned (.slice a m c) ∧ OwnRows w.heap.size w'.heap.size w' a m c (behL xs) ∧ Below w.heap.size w w' := by
  have hl := h.length
  have hlen := hg.len
  have hcp := fallsOf_any ao n cap xs w h hg
  have hbl := beh_len xs
  have hbl24 := behL_length hg
  have Hl := Lib.hid hl; clear hl
  have Hg := Lib.hid hg; clear hg
  have Hcp := Lib.hid hcp; clear hcp
  have Hbl := Lib.hid hbl; clear hbl
  have Hbl24 := Lib.hid hbl24; clear hbl24
  go_enter Tryd.func26, Tryd.ntmps26
  go_wp2_with fail
  with_reducible refine (Hcp.out).mono ?_
  rintro e w1 ⟨a1, n1, c1, rfl, ho1, hb1⟩
  have hs1 := hb1.size
  have hn1 := ho1.length
  rw [fallsV_length] at hn1
  have hn2 : (fallsL xs).length = n1 := by rw [← hn1]; unfold fallsL; rw [Hl.out]
  have hn24 : n1 ≤ 24 := by rw [← hn2, ← Hbl.out]; exact Hbl24.out
  have Hn1 := Lib.hid hn1; clear hn1
  have Hn2 := Lib.hid hn2; clear hn2
  go_wp2_with fail
  go_loopw [3, 10] (fun v i wr => ∃ (k : Nat) (a : Option Addr) (c : Nat) (vs : List Value), k ≤ n1 ∧ i = .int .i64 k ∧ v = .slice a k c ∧ Sp w.heap.size wr.heap.size w.heap.size wr.heap.size wr a k c vs ((behL xs).take k) ∧ vs.Pairwise apart ∧ OwnRow w.heap.size w1.heap.size wr 53 a1 n1 c1 (fallsV xs n) ∧ Below w.heap.size w wr) (fun _ i _ => n1 - (intOf i).toNat)
  case atStart => exact ⟨0, none, 0, [], Nat.zero_le _, rfl, rfl, Sp.nil _ _ _ _ _, List.Pairwise.nil, ho1, hb1⟩
  case round =>
    obtain ⟨k, a, c, vs, hk, rfl, rfl, hv, hap, hrow, hb⟩ := hrel
    clear ho1
    have hsz := hb.size
    by_cases hlt : k < n1
    · obtain ⟨i, hv1, hv2, hi1, hi2⟩ := fallsV_beh (k := k) Hl.out (by rw [Hn2.out]; exact hlt)
      rcases hrow.cases with ⟨_, hz', _⟩ | ⟨g3, rfl, _, _, hg3⟩
      · omega
      have hck := World.ownsRow.cellAt hrow.1 k (by omega)
      rw [hv1] at hck
      have htk := take_snocX (xs := behL xs) hlt (by rw [Hbl.out, Hn2.out])
      rw [hv2] at htk
      have hsf := slideFrom_any ao n cap xs wr (h.keep hb) (by have := Hl.out; omega)
      have hlet := fun R a' c' W (hs : Sl wr.heap.size W.heap.size R W a' n c' xs none 0 0 []) (hB : wr.heap.size ≤ W.heap.size) => let_any wr.heap.size R a' n c' xs none 0 0 [] i W hs hB Hg.out hi1 (by omega) (fun j => by simp)
      generalize fallV (decide (i + 1 = n)) i = fv at *
      clear hv1
      have Htk := Lib.hid htk; clear htk
      have Hv2 := Lib.hid hv2; clear hv2
      have Hsf := Lib.hid hsf; clear hsf
      have Hlet := Lib.hid hlet; clear hlet
      have Hi2 := Lib.hid hi2; clear hi2
      have Hap := Lib.hid hap; clear hap
      go_wp2_with fail
      with_reducible refine (Hsf.out).mono ?_
      rintro e w2 ⟨R, a2, c2, rfl, hs2, hb2⟩
      have hcon := Hlet.out R a2 c2 w2 hs2 hb2.size
      have Hcon := Lib.hid hcon; clear hcon
      go_wp2_with fail
      with_reducible refine (Hcon.out).mono ?_
      rintro e w3 ⟨rfl, a4, n4, c4, a5, n5, c5, hs4, hb4⟩
      obtain ⟨k0, k1⟩ := hs4.c0
      have hb3 := hb2.trans hb4
      have hsz3 := hb3.size
      have hv3 := (hv.keep hb3).mono (Nat.le_refl _) hsz3 (Nat.le_refl _) (Nat.le_refl _)
      have hrow3 := hrow.keep hb3
      have hown := hs4.cols.own
      have hap2 := apart_snoc hv.rows Hap.out hown
      have hbw := belowTrans hb hb3 (Nat.le_refl _)
      have hv4 : Sp w.heap.size w3.heap.size w.heap.size w3.heap.size w3 a k c vs ((behL xs).take k) := hv3.mono (Nat.le_refl _) (Nat.le_refl _) (Nat.le_refl _) hsz3
      have hown4 := hown.mono hsz (Nat.le_refl _)
      clear hs2 hb2 hs4 hb4 hv hrow hck hv3 hb3 hown
      have Hap2 := Lib.hid hap2; clear hap2
      go_wp2_with (at_builtin; refine wpList_pushSp w3 rfl _ _ rfl w.heap.size w3.heap.size w.heap.size w3.heap.size a k c vs _ rfl hv4 a4 n4 c4 (fallL xs i) hown4 rfl (by omega) hbw.size ?_)
      intro a9 c9 w9 hv9 hc9 hn9
      have hbf := hbw.trans (hv4.below hc9 hbw.size)
      have hrow9 := hrow3.chg hc9 (fun g _ _ h1 h2 => OwnRow.apart_ty hrow3 hv4.spine (by decide) h1 h2)
      have hsz9 := hc9.size
      clear hv4 hrow3 hown4 hc9 hn9 k0 k1
      go_wp2
      go_roundw
      case rel => exact ⟨k + 1, a9, c9, _, by omega, by go_num, rfl, by rw [Htk.out]; exact hv9.mono (Nat.le_refl _) (Nat.le_refl _) (Nat.le_refl _) hsz9, Hap2.out, hrow9, hbf⟩
      case measure => simp [intOf]; omega
    · obtain rfl : n1 = k := by omega
      rw [take_allR (by rw [Hbl.out, Hn2.out])] at hv
      have hfin := hv.own hap (Nat.le_refl _) (Nat.le_refl _) (Nat.le_refl _) (Nat.le_refl _)
      clear hrow hv hap
      go_wp2
      go_ret
      exact ⟨_, _, _, rfl, hfin, hb⟩

/-! ### slices.CompactFunc -/
def compV (vs : List Value) (xss : List (List Int)) (k : Nat) : List Value := (compI xss k).map fun j => vs.getD j undef
theorem compV_yes {vs : List Value} {xss : List (List Int)} {k : Nat} (h : keepI xss k = true) : compV vs xss (k + 1) = compV vs xss k ++ [vs.getD k undef] := by
  unfold compV; rw [compI_succ, h, List.map_append]; rfl
theorem compV_no {vs : List Value} {xss : List (List Int)} {k : Nat} (h : keepI xss k = false) : compV vs xss (k + 1) = compV vs xss k := by
  unfold compV; rw [compI_succ, h]; simp
theorem compI_all {xss : List (List Int)} {k : Nat} (h : ∀ j, j < k → keepI xss j = true) : compI xss k = List.range k := by
  unfold compI
  rw [List.filter_eq_self]
  exact fun j hj => h j (List.mem_range.1 hj)
theorem range_getD {α : Type} (l : List α) (d : α) (k : Nat) (hk : k ≤ l.length) : (List.range k).map (fun j => l.getD j d) = l.take k := by
  apply List.ext_getElem
  · simp; omega
  · intro i h1 h2
    simp at h1
    rw [List.getElem_map, List.getElem_range, List.getElem_take, List.getD_eq_getElem?_getD, List.getElem?_eq_getElem (by omega)]; rfl
theorem compV_all {vs : List Value} {xss : List (List Int)} {k : Nat} (h : ∀ j, j < k → keepI xss j = true) (hk : k ≤ vs.length) : compV vs xss k = vs.take k := by
  unfold compV; rw [compI_all h]; exact range_getD vs undef k hk
theorem compX_all {xss : List (List Int)} (h : ∀ j, j < xss.length → keepI xss j = true) : compX xss xss.length = xss := by
  unfold compX; rw [compI_all h, range_getD _ _ _ (Nat.le_refl _), List.take_of_length_le (Nat.le_refl _)]
theorem keepI_zero (xss : List (List Int)) : keepI xss 0 = true := by simp [keepI]
theorem keepI_eq {xss : List (List Int)} {k : Nat} (hk : 0 < k) : keepI xss k = !decide (xss.getD k [] = xss.getD (k - 1) []) := by
  unfold keepI
  have : ¬ k = 0 := by omega
  simp [this]
theorem compV_sub (vs : List Value) (xss : List (List Int)) : (compV vs xss vs.length).Sublist vs := by
  have h1 : (compI xss vs.length).Sublist (List.range vs.length) := List.filter_sublist
  have h2 := h1.map fun j => vs.getD j undef
  rw [range_getD _ _ _ (Nat.le_refl _), List.take_of_length_le (Nat.le_refl _)] at h2
  exact h2
theorem compV_rows {B E : Nat} {w : World} {vs : List Value} {xss : List (List Int)} (h : RowsW B E w vs xss) : RowsW B E w (compV vs xss xss.length) (compX xss xss.length) := by
  refine ⟨by unfold compV compX; simp, fun i hi => ?_⟩
  unfold compX at hi
  rw [List.length_map] at hi
  have hm := List.getElem_mem hi
  unfold compI at hm
  have hlt := List.mem_range.1 (List.mem_filter.1 hm).1
  obtain ⟨a, m, c, e, ho⟩ := h.row _ hlt
  refine ⟨a, m, c, ?_, ?_⟩
  · unfold compV
    rw [List.getD_eq_getElem?_getD, List.getElem?_map, List.getElem?_eq_getElem hi]; exact e
  · unfold compX
    rw [List.getD_eq_getElem?_getD, List.getElem?_map, List.getElem?_eq_getElem hi]; exact ho
theorem getD_val {vs : List Value} {k : Nat} (hk : k < vs.length) : vs[k]? = some (vs.getD k undef) := by rw [List.getD_eq_getElem?_getD, List.getElem?_eq_getElem hk]; rfl

end Go.Proofs.YtdfmljkjidepeaaDoor
