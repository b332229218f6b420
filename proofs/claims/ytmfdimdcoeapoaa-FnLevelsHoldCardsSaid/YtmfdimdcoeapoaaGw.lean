/- Several texts in one: LevI, LevJ, LevP. No condition. -/
import Derived.Test.YtmfdimdcoeapoaaGv
import Derived.Test.YtmfdimdcoeapoaaPileB
import Derived.Test.YtmfdimdcoeapoaaPileF
import Derived.Test.YtmfdimdcoeapoaaPush
namespace Go.Proofs.Ytmfdimdcoeapoaa
section
open Go.RowKit Go.Maps
set_option linter.unusedVariables false
set_option linter.unusedSimpArgs false

theorem mapK : Keyed Try.prog 3 := int_keyed Try.underlying3
theorem mapZ (w : World) : (zeroValue 3).run Try.prog w = .ok (.int .i64 0) w := by kernel_rfl
/-- a map in a block that holds a list of levels -/
def MapAt (w : World) (b : Nat) (ls : List Int) : Prop := ∃ D, w.ownsMap Try.prog 3 (plainElem (H := Unit) Try.prog 3) b ls.length D ∧ RepL D ls
theorem MapAt.of {w : World} {b n : Nat} {ls : List Int} {D : DataW Unit} (h : w.ownsMap Try.prog 3 (plainElem (H := Unit) Try.prog 3) b n D) (hr : RepL D ls) : MapAt w b ls :=
  ⟨D, by have := tightMap h; rwa [hr.size] at this, hr⟩
theorem MapAt.made (w : World) : MapAt (w.alloc (.map #[] 0)) w.heap.size [] := ⟨.map [], World.ownsMap_made _ _ _ _, repL_empty⟩
theorem MapAt.lt {w : World} {b : Nat} {ls : List Int} (h : MapAt w b ls) : b < w.heap.size := by
  obtain ⟨D, h, _⟩ := h; exact h.lt
theorem MapAt.below {w w' : World} {b B : Nat} {ls : List Int} (h : MapAt w b ls) (hb : Below B w w') (hB : b < B) : MapAt w' b ls := by
  obtain ⟨D, ⟨es, clock, h1, h2⟩, hr⟩ := h
  exact ⟨D, ⟨es, clock, (hb.block b hB).trans h1, h2⟩, hr⟩
theorem MapAt.keep {w w' : World} {b : Nat} {ls : List Int} (h : MapAt w b ls) (hb : Below w.heap.size w w') : MapAt w' b ls := h.below hb h.lt
theorem MapAt.setCell {w : World} {b : Nat} {ls : List Int} (h : MapAt w b ls) {a : Addr} (ha : b ≠ a.block) (u : Value) : MapAt (w.setCell a u) b ls := by
  obtain ⟨D, h, hr⟩ := h
  exact ⟨D, h.setCell ha u, hr⟩
theorem MapAt.kept {w w' : World} {b : Nat} {ls : List Int} {row : Option Nat} (h : MapAt w b ls) (hg : w.grownBy w' row) (hne : some b ≠ row) : MapAt w' b ls := by
  obtain ⟨D, h, hr⟩ := h
  exact ⟨D, h.kept hg hne, hr⟩
theorem mapKey {l : Nat} (h : l ≤ 1000000) : keyOf Try.prog 3 (.int .i64 (l : Int)) = some (.int .i64 (l : Int)) := keyOf_int_mk Try.underlying3 (WalkArith.wf_i64 (by omega))
theorem litI {a b : Int} (h : (DataW.lit (.int .i64 a) : DataW Unit) = .lit (.int .i64 b)) : a = b := by injection h with h; injection h

theorem bumps_le {xs : List Int} (hg : Good xs) {k q : Nat} (hk : k < xs.length) (hq : (q : Int) ≤ xs.getD k 0) : (bumps (levNV xs k) k q).length ≤ 28 := by
  have h1 := level_top hg hk
  have h2 := levNV_le hg (k := k) (by omega)
  rw [bumps_length _ _ _ (levNV_ge hg (by omega))]
  omega
theorem bumps_at {xs : List Int} (hg : Good xs) {k q : Nat} (hk : k < xs.length) (l : Nat) : 0 ≤ (bumps (levNV xs k) k q).getD l 0 ∧ (bumps (levNV xs k) k q).getD l 0 ≤ 29 := by
  have h1 := lev_bound xs l k
  have := hg.len
  rw [bumps_getD _ _ _ _ (levNV_ge hg (by omega)), levNV_getD hg (by omega)]
  split <;> omega
theorem bumps_ge {xs : List Int} (hg : Good xs) {k q : Nat} (hk : k < xs.length) : k + q ≤ (bumps (levNV xs k) k q).length := by
  rw [bumps_length _ _ _ (levNV_ge hg (by omega))]; omega

set_option maxRecDepth 100000 in
set_option maxHeartbeats 1600000 in
theorem cardsByLevel_any (ao : Option Addr) (n cap : Nat) (xs : List Int) (w : World) (h : IntsAt w ao n cap xs) (hg : Good xs) :
    Calls Try.prog 68 #[.slice ao n cap] w fun e w' => e = .returned (.map (some w.heap.size)) ∧ MapAt w' w.heap.size (lvsL xs) ∧ Below w.heap.size w w' := by
  have hmm := @run_makeMap Try.prog
  have hl := h.length
  have hlen := hg.len
  have hn28 : n ≤ 28 := by omega
  have Hg := Lib.hid hg; clear hg
  have Hl := Lib.hid hl; clear hl
  go_enter Try.func68, Try.ntmps68
  go_wp2
  go_loopw [10] (fun i wr => ∃ k : Nat, k ≤ n ∧ i = .int .i64 k ∧ MapAt wr w.heap.size (levNV xs k) ∧ Below w.heap.size w wr) (fun i _ => n - (intOf i).toNat)
  case atStart => exact ⟨0, Nat.zero_le _, rfl, MapAt.made _, (Below.refl _ _).alloc (Nat.le_refl _) _⟩
  case round =>
    obtain ⟨k, hk, rfl, hm, hbk⟩ := hrel
    by_cases hlt : k < n
    · have hr := h.keep hbk
      obtain ⟨b, o, rfl, hb, hc⟩ := hr.cell k hlt
      have hck := hc k hlt
      clear hc
      generalize hx : xs.getD k 0 = x at hck
      have Hx := Lib.hid hx; clear hx
      have hxl : k < xs.length := by rw [Hl.out]; exact hlt
      have hx1 := good_at Hg.out hxl
      rw [Hx.out] at hx1
      obtain ⟨wi, hwi⟩ : ∃ wi : World, wi = wr := ⟨_, rfl⟩
      subst hwi
      have Hxl := Lib.hid hxl; clear hxl
      have Hr := Lib.hid hr; clear hr
      go_wp2
      go_loopw [16] (fun p wq => ∃ q : Nat, (q : Int) ≤ x ∧ p = .int .i64 q ∧ MapAt wq w.heap.size (bumps (levNV xs k) k q) ∧ Below w.heap.size w wq) (fun p _ => x.toNat - (intOf p).toNat)
      case atStart => exact ⟨0, by omega, rfl, hm, hbk⟩
      case round =>
        obtain ⟨q, hq, rfl, hmq, hbq⟩ := hrel
        clear hm hbk
        by_cases hlt2 : (q : Int) < x
        · have b1 := bumps_le Hg.out Hxl.out (by rw [Hx.out]; exact hq)
          have b2 := bumps_at Hg.out (q := q) Hxl.out (k + q)
          have b3 := bumps_ge Hg.out (q := q) Hxl.out
          have e3 : bumps (levNV xs k) k (q + 1) = bumpV (bumps (levNV xs k) k q) (k + q) := rfl
          obtain ⟨D, hown, hrep⟩ := hmq
          have hat0 := hrep.at_ (k + q)
          have hbump := hrep.bumpV (k + q) b3
          have hkey : keyOf Try.prog 3 (.int .i64 ((k : Int) + (q : Int))) = some (.int .i64 ((k + q : Nat) : Int)) := by rw [← Int.natCast_add]; exact mapKey (by omega)
          generalize bumps (levNV xs k) k q = ls at *
          have E3 := Lib.hid e3; clear e3
          have Hat0 := Lib.hid hat0; clear hat0
          have Hbump := Lib.hid hbump; clear hbump
          have Hkey := Lib.hid hkey; clear hkey
          have Hrep := Lib.hid hrep; clear hrep
          clear b3
          go_wp2_with (first
            | (at_lookup; refine wpList_lookup_own_int _ rfl _ _ 68 rfl 3 3 .i64 mapK Try.underlying68 Try.underlying3 (mapZ _) w.heap.size _ _ rfl hown _ _ rfl Hkey.out ?_; intro c hat hwc)
            | (at_mapUpdate; refine wpList_mapUpdate_own _ rfl _ _ _ 68 rfl 3 3 mapK Try.underlying68 _ w.heap.size _ _ rfl hown (by unfold maxLen; omega) _ _ _ rfl rfl Hkey.out _ [] (plainElem_int Try.underlying3 (wrap64_wf _)) ?_; intro w1 hown1 hgrow1))
          have hc : ls.getD (k + q) 0 = c := litI ((Hat0.out).symm.trans hat)
          rw [hc] at b2 Hbump
          have hw2 : wrap64 (c + 1) = c + 1 := by unfold wrap64; omega
          rw [hw2] at hown1
          have hm1 : MapAt w1 w.heap.size (bumpV ls (k + q)) := MapAt.of hown1 Hbump.out
          have hb1 := hbq.grown hgrow1 hbq.size (fun j hj => by cases hj; exact Nat.le_refl _)
          clear hown hown1 hgrow1 hbq
          go_roundw
          case rel => exact ⟨q + 1, by omega, valI (by omega), by rw [E3.out]; exact hm1, hb1⟩
          case measure => simp [intOf]; omega
        · have hxq : x = (q : Int) := by omega
          have e4 : levNV xs (k + 1) = bumps (levNV xs k) k q := by show bumps (levNV xs k) k (xs.getD k 0).toNat = _; rw [Hx.out, hxq]; rfl
          have E4 := Lib.hid e4; clear e4
          have Hxq := Lib.hid hxq; clear hxq
          go_wp2_with fail
          go_roundw
          case rel => exact ⟨k + 1, by omega, valI (by omega), by rw [E4.out]; exact hmq, hbq⟩
          case measure => simp [intOf]; omega
    · have hkn : k = xs.length := by rw [Hl.out]; omega
      go_wp2_with fail
      go_ret
      refine ⟨rfl, ?_, hbk⟩
      rw [hkn] at hm
      exact hm
end
end Go.Proofs.Ytmfdimdcoeapoaa
namespace Go.Proofs.Ytmfdimdcoeapoaa
section
open Go.RowKit Go.Maps
set_option linter.unusedVariables false
set_option linter.unusedSimpArgs false

theorem wsum_all {xs : List Int} (hg : Good xs) {j : Nat} (h : j ≤ (lvsL xs).length) : 0 ≤ wsumN (lvsL xs) j ∧ wsumN (lvsL xs) j ≤ 21952 := by
  have h1 := lvsL_le hg
  have := pot_bound hg (k := j) (by omega)
  omega
theorem lvl_mul {xs : List Int} (hg : Good xs) {j : Nat} (h : j < (lvsL xs).length) : 0 ≤ (j : Int) * (lvsL xs).getD j 0 ∧ (j : Int) * (lvsL xs).getD j 0 ≤ 784 := by
  have h1 := lvsL_le hg
  have h2 := lvsL_at hg j
  have h3 : (j : Int) * (lvsL xs).getD j 0 ≤ 28 * 28 := Int.mul_le_mul (by omega) h2.2.1 h2.1 (by omega)
  exact ⟨Int.mul_nonneg (by omega) h2.1, by omega⟩

set_option maxRecDepth 100000 in
set_option maxHeartbeats 1600000 in
theorem potentialOf_any (ao : Option Addr) (n cap : Nat) (xs : List Int) (w : World) (h : IntsAt w ao n cap xs) (hg : Good xs) :
    Calls Try.prog 49 #[.slice ao n cap] w fun e w' => e = .returned (.int .i64 (pot xs)) ∧ Below w.heap.size w w' := by
  have hcon := cardsByLevel_any ao n cap xs w h hg
  have hle := lvsL_le hg
  have hw : ∀ j, j ≤ (lvsL xs).length → 0 ≤ wsumN (lvsL xs) j ∧ wsumN (lvsL xs) j ≤ 21952 := fun j hj => wsum_all hg hj
  have hm : ∀ j, j < (lvsL xs).length → 0 ≤ (j : Int) * (lvsL xs).getD j 0 ∧ (j : Int) * (lvsL xs).getD j 0 ≤ 784 := fun j hj => lvl_mul hg hj
  unfold pot
  generalize lvsL xs = ls at *
  have Hcon := Lib.hid hcon; clear hcon
  have Hw := Lib.hid hw; clear hw
  have Hm := Lib.hid hm; clear hm
  clear h hg
  go_enter Try.func49, Try.ntmps49
  go_wp2_with fail
  with_reducible refine (Hcon.out).mono ?_
  rintro e w1 ⟨rfl, hmap, hb⟩
  obtain ⟨D, hown, hr⟩ := hmap
  have hsz := hr.size
  go_wp2_with (at_len; refine wpList_len_own w1 rfl _ 68 rfl 3 3 Try.underlying68 _ w.heap.size _ D rfl hown ?_; rw [hsz])
  go_loop [4, 10] (fun p i => ∃ (j : Nat) (s : Int), j ≤ ls.length ∧ i = .int .i64 j ∧ p = .int .i64 s ∧ wsumN ls j = s) (fun _ i => ls.length - (intOf i).toNat)
  case atStart => exact ⟨0, 0, Nat.zero_le _, rfl, rfl, rfl⟩
  case round =>
    obtain ⟨j, s, hj, rfl, rfl, hs⟩ := hrel
    have hs1 := Hw.out j hj
    rw [hs] at hs1
    by_cases hlt : j < ls.length
    · have hm1 := Hm.out j hlt
      have hkey := mapKey (l := j) (by omega)
      have hat0 := hr.at_ j
      have es : wsumN ls (j + 1) = s + (j : Int) * ls.getD j 0 := by rw [wsumN, hs]
      have Hkey := Lib.hid hkey; clear hkey
      have Hs := Lib.hid hs; clear hs
      generalize hc : ls.getD j 0 = c at hm1 es hat0
      generalize hp : (j : Int) * c = p at hm1 es
      have Hat0 := Lib.hid hat0; clear hat0
      have Es := Lib.hid es; clear es
      have Hc := Lib.hid hc; clear hc
      go_wp2_with (at_lookup; refine wpList_lookup_own_int _ rfl _ _ 68 rfl 3 3 .i64 mapK Try.underlying68 Try.underlying3 (mapZ _) w.heap.size _ _ rfl hown _ _ rfl Hkey.out ?_; intro c2 hat hwc; obtain rfl : c = c2 := litI ((Hat0.out).symm.trans hat); clear hat hwc)
      go_round
      case rel => exact ⟨j + 1, s + p, by omega, valI (by omega), valI (by go_num), Es.out⟩
      case measure => simp [intOf]; omega
    · have hjn : j = ls.length := by omega
      subst hjn
      go_wp2_with fail
      go_ret
      exact ⟨by first | rfl | rw [hs], hb⟩

set_option maxRecDepth 100000 in
set_option maxHeartbeats 1600000 in
theorem dropOf_any (ao : Option Addr) (n cap : Nat) (xs : List Int) (w : World) (h : IntsAt w ao n cap xs) (hg : Good xs) :
    Calls Try.prog 55 #[.slice ao n cap] w fun e w' => e = .returned (.int .i64 (dropL xs)) ∧ w = w' := by
  have hl := h.length
  have hlen := hg.len
  have hn28 : n ≤ 28 := by omega
  unfold dropL
  have Hl := Lib.hid hl; clear hl
  have Hg := Lib.hid hg; clear hg
  go_enter Try.func55, Try.ntmps55
  go_wp2
  go_loop [3, 8] (fun s i => ∃ k : Nat, ∃ t : Int, k ≤ n ∧ i = .int .i64 k ∧ s = .int .i64 t ∧ dropN xs k = t) (fun _ i => n - (intOf i).toNat)
  case atStart => exact ⟨0, 0, Nat.zero_le _, rfl, rfl, rfl⟩
  case round =>
    obtain ⟨k, t, hk, rfl, rfl, ht⟩ := hrel
    have ht1 := dropN_bound Hg.out (k := k) (by rw [Hl.out]; exact hk)
    rw [ht] at ht1
    by_cases hlt : k < n
    · obtain ⟨b, o, rfl, hb, hc⟩ := h.cell k hlt
      have hck := hc k hlt
      clear hc
      generalize hx : xs.getD k 0 = x at hck
      have Hx := Lib.hid hx; clear hx
      have hx := good_at Hg.out (k := k) (by rw [Hl.out]; exact hlt)
      rw [Hx.out] at hx
      have e : dropN xs (k + 1) = t + max 0 (x - 1 - n) := by rw [dropN, ht, Hx.out, Hl.out]
      have E := Lib.hid e; clear e
      have Ht := Lib.hid ht; clear ht
      go_wp2
      go_round
      case rel => exact ⟨k + 1, t + max 0 (x - 1 - n), by omega, valI (by omega), valI (by go_num), E.out⟩
      case measure => simp [intOf]; omega
    · go_wp2
      go_ret
      have hnk : n = k := by omega
      exact ⟨by rw [Hl.out, hnk, ht]; rfl, rfl⟩

theorem placesOn_any (l : Nat) (w : World) (h : l ≤ 1000000) :
    Calls Try.prog 57 #[.int .i64 l] w fun e w' => e = .returned (.int .i64 ((l : Int) + 1)) ∧ w = w' := by
  go_enter Try.func57, Try.ntmps57
  go_wp2
  go_ret
  exact ⟨retI (by omega), rfl⟩

/-! ### LevelsOf -/
set_option maxRecDepth 100000 in
set_option maxHeartbeats 1600000 in
theorem impl_LevelsOf (ao : Option Addr) (n cap : Nat) (xs : List Int) (w : World) (h : IntsAt w ao n cap xs) :
    Calls Try.prog 29 #[.slice ao n cap] w fun e w' => ∃ ao' n' cap', e = .returned (.tuple #[.slice ao' n' cap', .bool (mLevelsOf xs).2]) ∧ Own w.heap.size w'.heap.size w' ao' n' cap' (mLevelsOf xs).1 ∧ Below w.heap.size w w' := by
  cases hg : goodB xs
  · have hm := mLevels_no hg
    have Hg := Lib.hid hg; clear hg
    have Hm := Lib.hid hm; clear hm
    go_enter Try.func29, Try.ntmps29
    go_wp2_with fail
    with_reducible refine (isPiles_no _ _ _ _ _ h Hg.out).mono ?_
    rintro e w' ⟨rfl, rfl⟩
    go_wp2
    go_ret2
    rw [Hm.out]
    exact ⟨none, 0, 0, rfl, Own.nil _ _ _, Below.refl _ _⟩
  · have hm := mLevels_yes hg
    have hG := good_iff.1 hg
    have hcon := cardsByLevel_any ao n cap xs w h hG
    have hle := lvsL_le hG
    have hat1 : ∀ j, 0 ≤ (lvsL xs).getD j 0 ∧ (lvsL xs).getD j 0 ≤ 28 := fun j => ⟨(lvsL_at hG j).1, (lvsL_at hG j).2.1⟩
    obtain ⟨i0, hi, hz0, hz1, hz2⟩ := info_parts Try.infoInt
    generalize lvsL xs = ls at *
    have Hg := Lib.hid hg; clear hg
    have Hm := Lib.hid hm; clear hm
    have HG := Lib.hid hG; clear hG
    have Hcon := Lib.hid hcon; clear hcon
    have Hat1 := Lib.hid hat1; clear hat1
    go_enter Try.func29, Try.ntmps29
    go_wp2_with fail
    with_reducible refine (isPiles_yes _ _ _ _ _ h HG.out).mono ?_
    rintro e w' ⟨rfl, rfl⟩
    clear h
    go_wp2_with fail
    with_reducible refine (Hcon.out).mono ?_
    rintro e w1 ⟨rfl, hmap, hb⟩
    have hmlt := hmap.lt
    obtain ⟨D, hown0, hr⟩ := hmap
    have hmap : MapAt w1 w.heap.size ls := ⟨D, hown0, hr⟩
    have hsz := hr.size
    go_wp2_with (first | (at_len; refine wpList_len_own w1 rfl _ 68 rfl 3 3 Try.underlying68 _ w.heap.size _ D rfl hown0 ?_; rw [hsz]) | (at_make; refine wpList_make_full w1 rfl _ _ _ rfl w.heap.size 3 i0 _ 1 Try.underlying24 hi hz0 hz1 _ _ _ _ ls.length rfl rfl rfl rfl ?_ ?_ hb.size ?_))
    · rw [hz2]; omega
    · unfold maxLen; omega
    intro w2 hown hgrow
    rw [madeZeros] at hown
    have ho : Own w.heap.size w2.heap.size w2 (some ⟨w1.heap.size, 0, none⟩) ls.length ls.length (List.replicate ls.length 0) := Own.of hown
    have hb2 : Below w.heap.size w w2 := hb.grown hgrow hb.size (fun k hk => by cases hk)
    have hmap2 : MapAt w2 w.heap.size ls := hmap.kept hgrow (by simp)
    clear hi hz0 hz1 hz2 hgrow hown hmap
    have hs1 := hb.size
    clear hown0 hr hsz
    obtain ⟨D2, hown2, hr2⟩ := hmap2
    have hmap2 : MapAt w2 w.heap.size ls := ⟨D2, hown2, hr2⟩
    have hsz := hr2.size
    go_wp2_with (at_len; refine wpList_len_own w2 rfl _ 68 rfl 3 3 Try.underlying68 _ w.heap.size _ D2 rfl hown2 ?_; rw [hsz])
    clear hown2 hr2
    go_loopw [17] (fun i wr => ∃ j : Nat, j ≤ ls.length ∧ i = .int .i64 j ∧ Own w.heap.size w2.heap.size wr (some ⟨w1.heap.size, 0, none⟩) ls.length ls.length (ls.take j ++ List.replicate (ls.length - j) 0) ∧ MapAt wr w.heap.size ls ∧ w2.heap.size ≤ wr.heap.size ∧ Below w.heap.size w wr) (fun i _ => ls.length - (intOf i).toNat)
    case atStart => exact ⟨0, Nat.zero_le _, rfl, by simpa using ho, hmap2, Nat.le_refl _, hb2⟩
    case round =>
      obtain ⟨j, hj, rfl, hoj, hmj, hsj, hbj⟩ := hrel
      clear ho hmap2 hb2
      by_cases hlt : j < ls.length
      · have hfz := hoj.frozenAt j
        have hcell := getD_cells hoj j hlt
        have hst := hoj.set j (ls.getD j 0)
        rw [putLev ls j hlt] at hst
        have hmj2 := hmj.setCell (a := ⟨w1.heap.size, j, none⟩) (by simp; omega) (.int .i64 (ls.getD j 0))
        have hb3 := hbj.setCell (p := ⟨w1.heap.size, j, none⟩) (by exact hs1) (.int .i64 (ls.getD j 0))
        obtain ⟨D, hownj, hrj⟩ := hmj
        have hkey := mapKey (l := j) (by omega)
        have hat0 := hrj.at_ j
        have hc1 := Hat1.out j
        generalize (ls.take j ++ List.replicate (ls.length - j) 0).getD j 0 = z at hcell
        generalize hy : ls.getD j 0 = y at *
        have Hkey := Lib.hid hkey; clear hkey
        have Hat0 := Lib.hid hat0; clear hat0
        have Hst := Lib.hid hst; clear hst
        have Hoj := Lib.hid hoj; clear hoj
        have Hmj2 := Lib.hid hmj2; clear hmj2
        have Hb3 := Lib.hid hb3; clear hb3
        have Hy := Lib.hid hy; clear hy
        go_wp2_with (at_lookup; refine wpList_lookup_own_int _ rfl _ _ 68 rfl 3 3 .i64 mapK Try.underlying68 Try.underlying3 (mapZ _) w.heap.size _ _ rfl hownj _ _ rfl Hkey.out ?_; intro c2 hat hwc; obtain rfl : y = c2 := litI ((Hat0.out).symm.trans hat); clear hat hwc)
        go_roundw
        case rel => exact ⟨j + 1, by omega, valI (by omega), Hst.out.1, Hmj2.out, by simpa using hsj, Hb3.out⟩
        case measure => simp [intOf]; omega
      · have hjn : j = ls.length := by omega
        rw [hjn] at hoj
        go_wp2_with fail
        go_ret2
        rw [Hm.out]
        have e : ls.take ls.length ++ List.replicate (ls.length - ls.length) 0 = ls := by simp
        rw [e] at hoj
        exact ⟨_, _, _, rfl, hoj.mono (Nat.le_refl _) hsj, hbj⟩
end
end Go.Proofs.Ytmfdimdcoeapoaa
namespace Go.Proofs.Ytmfdimdcoeapoaa
section
open Go.RowKit
set_option linter.unusedVariables false
set_option linter.unusedSimpArgs false
set_option maxRecDepth 20000

set_option maxHeartbeats 800000 in
theorem impl_PotentialOf (ao : Option Addr) (n cap : Nat) (xs : List Int) (w : World) (h : IntsAt w ao n cap xs) :
    Calls Try.prog 18 #[.slice ao n cap] w fun e w' => e = .returned (.tuple #[.int .i64 (mPotentialOf xs).1, .bool (mPotentialOf xs).2]) ∧ Below w.heap.size w w' := by
  cases hg : goodB xs
  · have hm := mPot_no hg
    have Hg := Lib.hid hg; clear hg
    have Hm := Lib.hid hm; clear hm
    go_enter Try.func18, Try.ntmps18
    go_wp2_with fail
    with_reducible refine (isPiles_no _ _ _ _ _ h Hg.out).mono ?_
    rintro e w' ⟨rfl, rfl⟩
    go_wp2
    go_ret2
    rw [Hm.out]
    exact ⟨rfl, Below.refl _ _⟩
  · have hm := mPot_yes hg
    have hG := good_iff.1 hg
    have hcon := potentialOf_any ao n cap xs w h hG
    have Hg := Lib.hid hg; clear hg
    have Hm := Lib.hid hm; clear hm
    have HG := Lib.hid hG; clear hG
    have Hcon := Lib.hid hcon; clear hcon
    go_enter Try.func18, Try.ntmps18
    go_wp2_with fail
    with_reducible refine (isPiles_yes _ _ _ _ _ h HG.out).mono ?_
    rintro e w' ⟨rfl, rfl⟩
    go_wp2_with fail
    with_reducible refine (Hcon.out).mono ?_
    rintro e w1 ⟨rfl, hb1⟩
    go_wp2_with fail
    go_ret2
    rw [Hm.out]
    exact ⟨rfl, hb1⟩

set_option maxHeartbeats 800000 in
theorem impl_DropOf (ao : Option Addr) (n cap : Nat) (xs : List Int) (w : World) (h : IntsAt w ao n cap xs) :
    Calls Try.prog 14 #[.slice ao n cap] w fun e w' => e = .returned (.tuple #[.int .i64 (mDropOf xs).1, .bool (mDropOf xs).2]) ∧ Below w.heap.size w w' := by
  cases hg : goodB xs
  · have hm := mDrop_no hg
    have Hg := Lib.hid hg; clear hg
    have Hm := Lib.hid hm; clear hm
    go_enter Try.func14, Try.ntmps14
    go_wp2_with fail
    with_reducible refine (isPiles_no _ _ _ _ _ h Hg.out).mono ?_
    rintro e w' ⟨rfl, rfl⟩
    go_wp2
    go_ret2
    rw [Hm.out]
    exact ⟨rfl, Below.refl _ _⟩
  · have hm := mDrop_yes hg
    have hG := good_iff.1 hg
    have hcon := dropOf_any ao n cap xs w h hG
    have Hg := Lib.hid hg; clear hg
    have Hm := Lib.hid hm; clear hm
    have HG := Lib.hid hG; clear hG
    have Hcon := Lib.hid hcon; clear hcon
    go_enter Try.func14, Try.ntmps14
    go_wp2_with fail
    with_reducible refine (isPiles_yes _ _ _ _ _ h HG.out).mono ?_
    rintro e w' ⟨rfl, rfl⟩
    go_wp2_with fail
    with_reducible refine (Hcon.out).mono ?_
    rintro e w1 ⟨rfl, rfl⟩
    go_wp2_with fail
    go_ret2
    rw [Hm.out]
    exact ⟨rfl, Below.refl _ _⟩

set_option maxHeartbeats 1600000 in
theorem impl_LeastPotential (n : Int) (w : World) :
    Calls Try.prog 16 #[.int .i64 n] w fun e w' => e = .returned (.tuple #[.int .i64 (mLeastPotential n).1, .bool (mLeastPotential n).2]) ∧ Below w.heap.size w w' := by
  have hcon := impl_HeightFor n w
  by_cases hn : 0 ≤ n ∧ n ≤ 28
  · have hh : mHeightFor n = (((hgt n.toNat : Nat) : Int), n - ((tri (hgt n.toNat) : Nat) : Int), true) := by unfold mHeightFor; rw [if_pos hn]
    obtain ⟨m, rfl⟩ := Int.eq_ofNat_of_zero_le hn.1
    have hm28 : m ≤ 28 := by omega
    have hm := mLeast_yes hm28
    have hms := more_small m (by omega)
    have h7 := hgt_le m
    rw [hh] at hcon
    rw [show ((m : Int)).toNat = m by omega] at hcon
    have hls : leastI m = fullN (hgt m) + (hgt m : Int) * ((m : Int) - tri (hgt m)) := rfl
    rw [hls] at hm
    have hfs : ∀ k, k < 8 → (0 ≤ fullN k ∧ fullN k ≤ 1000) ∧ 0 ≤ (k : Int) * ((k : Int) + 1) ∧ (k : Int) * ((k : Int) + 1) ≤ 1000 := full_small
    clear hn hh hls
    generalize hgt m = f at *
    generalize (m : Int) - tri f = r at *
    generalize hp : (f : Int) * r = p at *
    have Hcon := Lib.hid hcon; clear hcon
    have Hm := Lib.hid hm; clear hm
    have Hfs := Lib.hid hfs; clear hfs
    have Hp := Lib.hid hp; clear hp
    go_enter Try.func16, Try.ntmps16
    go_wp2_with fail
    with_reducible refine (Hcon.out).mono ?_
    rintro e w1 ⟨rfl, hb⟩
    have hp2 : (f : Int) * r = p := Hp.out
    go_wp2_with fail
    go_loop [7, 21] (fun s i => ∃ (j : Nat) (t : Int), j ≤ f ∧ i = .int .i64 j ∧ s = .int .i64 (t + p) ∧ fullN j = t) (fun _ i => f - (intOf i).toNat)
    case atStart => exact ⟨0, 0, Nat.zero_le _, rfl, valI (by omega), rfl⟩
    case round =>
      obtain ⟨j, t, hj, rfl, rfl, ht⟩ := hrel
      have h1 := Hfs.out j (by omega)
      rw [ht] at h1
      by_cases hlt : j < f
      · have hcp := fun w => placesOn_any j w (by omega)
        have e : fullN (j + 1) = t + (j : Int) * ((j : Int) + 1) := by rw [fullN, ht]
        generalize hq : (j : Int) * ((j : Int) + 1) = q at *
        have Hcp := Lib.hid hcp; clear hcp
        have E := Lib.hid e; clear e
        have Ht := Lib.hid ht; clear ht
        go_wp2_with fail
        with_reducible refine (Hcp.out _).mono ?_
        rintro e w2 ⟨rfl, rfl⟩
        go_wp2_with fail
        go_round
        case rel => exact ⟨j + 1, t + q, by omega, valI (by omega), valI (by go_num), E.out⟩
        case measure => simp [intOf]; omega
      · have hjf : j = f := by omega
        subst hjf
        have Ht := Lib.hid ht; clear ht
        go_wp2_with fail
        go_ret2
        rw [Hm.out, Ht.out]
        exact ⟨rfl, hb⟩
  · have hh : mHeightFor n = (0, 0, false) := by unfold mHeightFor; rw [if_neg hn]
    have hm := mLeast_no hn
    rw [hh] at hcon
    have Hcon := Lib.hid hcon; clear hcon
    have Hm := Lib.hid hm; clear hm
    have Hn := Lib.hid hn; clear hn
    clear hh
    go_enter Try.func16, Try.ntmps16
    go_wp2_with fail
    with_reducible refine (Hcon.out).mono ?_
    rintro e w1 ⟨rfl, hb⟩
    go_wp2_with fail
    go_ret2
    rw [Hm.out]
    exact ⟨rfl, hb⟩

set_option maxHeartbeats 800000 in
theorem impl_GreatestPotential (n : Int) (w : World) :
    Calls Try.prog 23 #[.int .i64 n] w fun e w' => e = .returned (.tuple #[.int .i64 (mGreatestPotential n).1, .bool (mGreatestPotential n).2]) ∧ Below w.heap.size w w' := by
  by_cases hn : 0 ≤ n ∧ n ≤ 28
  · have hin := hn
    have hm := mGreat_yes hn
    obtain ⟨m, rfl⟩ := Int.eq_ofNat_of_zero_le hn.1
    have hgs := great_small m (by omega)
    have hm28 : m ≤ 28 := by omega
    generalize hp : (m : Int) * ((m : Int) - 1) = p at *
    generalize hq : Int.tdiv p 2 = q at *
    have Hn := Lib.hid hn; clear hn
    have Hm := Lib.hid hm; clear hm
    have Hin := Lib.hid hin; clear hin
    go_enter Try.func23, Try.ntmps23
    go_wp2_with fail
    with_reducible refine (inRange_yes _ _ _ Hin.out).mono ?_
    rintro e w' ⟨rfl, rfl⟩
    go_wp2_with fail
    go_ret2
    rw [Hm.out]
    exact ⟨rfl, Below.refl _ _⟩
  · have hin := hn
    have hm := mGreat_no hn
    have Hn := Lib.hid hn; clear hn
    have Hm := Lib.hid hm; clear hm
    have Hin := Lib.hid hin; clear hin
    go_enter Try.func23, Try.ntmps23
    go_wp2_with fail
    with_reducible refine (inRange_no _ _ _ Hin.out).mono ?_
    rintro e w' ⟨rfl, rfl⟩
    go_wp2_with fail
    go_ret2
    rw [Hm.out]
    exact ⟨rfl, Below.refl _ _⟩

set_option maxHeartbeats 800000 in
theorem impl_RoundOf (l k : Int) (w : World) :
    Calls Try.prog 43 #[.int .i64 l, .int .i64 k] w fun e w' => e = .returned (.tuple #[.int .i64 (mRoundOf l k).1, .bool (mRoundOf l k).2]) ∧ Below w.heap.size w w' := by
  by_cases hl : 0 ≤ l ∧ l ≤ 28
  · have hin := hl
    by_cases hk : 0 ≤ k ∧ k ≤ 1000
    · have hin2 := hk
      have hm := mRound_yes hl hk
      obtain ⟨m, rfl⟩ := Int.eq_ofNat_of_zero_le hl.1
      have hcp := fun w => placesOn_any m w (by omega)
      have hr1 := Int.tmod_nonneg ((m : Int) + 1) hk.1
      have hr2 := Int.tmod_lt_of_pos k (show 0 < (m : Int) + 1 by omega)
      have hm1 : ¬ ((m : Int) + 1 = 0) := by omega
      generalize hq : Int.tmod k ((m : Int) + 1) = q at *
      have Hl := Lib.hid hl; clear hl
      have Hk := Lib.hid hk; clear hk
      have Hm := Lib.hid hm; clear hm
      have Hin := Lib.hid hin; clear hin
      have Hin2 := Lib.hid hin2; clear hin2
      have Hcp := Lib.hid hcp; clear hcp
      go_enter Try.func43, Try.ntmps43
      go_wp2_with fail
      with_reducible refine (inRange_yes _ _ _ Hin.out).mono ?_
      rintro e w' ⟨rfl, rfl⟩
      go_wp2_with fail
      with_reducible refine (inRange_yes _ _ _ Hin2.out).mono ?_
      rintro e w' ⟨rfl, rfl⟩
      go_wp2_with fail
      with_reducible refine (Hcp.out _).mono ?_
      rintro e w' ⟨rfl, rfl⟩
      go_wp2_with fail
      go_ret2
      rw [Hm.out]
      exact ⟨rfl, Below.refl _ _⟩
    · have hin2 := hk
      have hm := mRound_no2 (l := l) hk
      have Hl := Lib.hid hl; clear hl
      have Hk := Lib.hid hk; clear hk
      have Hm := Lib.hid hm; clear hm
      have Hin := Lib.hid hin; clear hin
      have Hin2 := Lib.hid hin2; clear hin2
      go_enter Try.func43, Try.ntmps43
      go_wp2_with fail
      with_reducible refine (inRange_yes _ _ _ Hin.out).mono ?_
      rintro e w' ⟨rfl, rfl⟩
      go_wp2_with fail
      with_reducible refine (inRange_no _ _ _ Hin2.out).mono ?_
      rintro e w' ⟨rfl, rfl⟩
      go_wp2_with fail
      go_ret2
      rw [Hm.out]
      exact ⟨rfl, Below.refl _ _⟩
  · have hin := hl
    have hm := mRound_no1 (k := k) hl
    have Hl := Lib.hid hl; clear hl
    have Hm := Lib.hid hm; clear hm
    have Hin := Lib.hid hin; clear hin
    go_enter Try.func43, Try.ntmps43
    go_wp2_with fail
    with_reducible refine (inRange_no _ _ _ Hin.out).mono ?_
    rintro e w' ⟨rfl, rfl⟩
    go_wp2_with fail
    go_ret2
    rw [Hm.out]
    exact ⟨rfl, Below.refl _ _⟩

set_option maxHeartbeats 800000 in
theorem impl_IsLeast (ao : Option Addr) (n cap : Nat) (xs : List Int) (w : World) (h : IntsAt w ao n cap xs) :
    Calls Try.prog 20 #[.slice ao n cap] w fun e w' => e = .returned (.tuple #[.bool (mIsLeast xs).1, .bool (mIsLeast xs).2]) ∧ Below w.heap.size w w' := by
  cases hg : goodB xs
  · have hm := mIsLeast_no hg
    have Hg := Lib.hid hg; clear hg
    have Hm := Lib.hid hm; clear hm
    go_enter Try.func20, Try.ntmps20
    go_wp2_with fail
    with_reducible refine (isPiles_no _ _ _ _ _ h Hg.out).mono ?_
    rintro e w' ⟨rfl, rfl⟩
    go_wp2
    go_ret2
    rw [Hm.out]
    exact ⟨rfl, Below.refl _ _⟩
  · have hm := mIsLeast_yes hg
    have hG := good_iff.1 hg
    have hcon := fun (w : World) (h : IntsAt w ao n cap xs) => potentialOf_any ao n cap xs w h hG
    have hs := sum_nonneg hG.1
    have hs2 := hG.2.2
    have hle := fun w => impl_LeastPotential xs.sum w
    have hsm : mLeastPotential xs.sum = (leastI xs.sum.toNat, true) := by unfold mLeastPotential; rw [if_pos (by omega)]
    rw [hsm] at hle
    rw [← leastB hG] at hm
    have hsum := sumOf_any ao n cap xs w h hG
    generalize leastI xs.sum.toNat = q at *
    generalize pot xs = p at *
    by_cases hpq : p = q
    · subst hpq
      rw [decide_eq_true rfl] at hm
      have Hg := Lib.hid hg; clear hg
      have Hm := Lib.hid hm; clear hm
      have HG := Lib.hid hG; clear hG
      have Hcon := Lib.hid hcon; clear hcon
      have Hle := Lib.hid hle; clear hle
      have Hsum := Lib.hid hsum; clear hsum
      clear hsm
      go_enter Try.func20, Try.ntmps20
      go_wp2_with fail
      with_reducible refine (isPiles_yes _ _ _ _ _ h HG.out).mono ?_
      rintro e w' ⟨rfl, rfl⟩
      go_wp2_with fail
      with_reducible refine (Hsum.out).mono ?_
      rintro e w' ⟨rfl, rfl⟩
      go_wp2_with fail
      with_reducible refine (Hle.out _).mono ?_
      rintro e w1 ⟨rfl, hb1⟩
      have h1 := h.keep hb1
      go_wp2_with fail
      with_reducible refine (Hcon.out _ h1).mono ?_
      rintro e w2 ⟨rfl, hb2⟩
      go_wp2_with fail
      go_ret2
      rw [Hm.out]
      exact ⟨rfl, belowTrans hb1 hb2 (Nat.le_refl _)⟩
    · rw [decide_eq_false hpq] at hm
      have hd : decide (p = q) = false := decide_eq_false hpq
      have hd2 : (p == q) = false := by simpa using hpq
      have Hg := Lib.hid hg; clear hg
      have Hm := Lib.hid hm; clear hm
      have HG := Lib.hid hG; clear hG
      have Hcon := Lib.hid hcon; clear hcon
      have Hle := Lib.hid hle; clear hle
      have Hsum := Lib.hid hsum; clear hsum
      have Hpq := Lib.hid hpq; clear hpq
      clear hsm
      go_enter Try.func20, Try.ntmps20
      go_wp2_with fail
      with_reducible refine (isPiles_yes _ _ _ _ _ h HG.out).mono ?_
      rintro e w' ⟨rfl, rfl⟩
      go_wp2_with fail
      with_reducible refine (Hsum.out).mono ?_
      rintro e w' ⟨rfl, rfl⟩
      go_wp2_with fail
      with_reducible refine (Hle.out _).mono ?_
      rintro e w1 ⟨rfl, hb1⟩
      have h1 := h.keep hb1
      go_wp2_with fail
      with_reducible refine (Hcon.out _ h1).mono ?_
      rintro e w2 ⟨rfl, hb2⟩
      go_wp2_with fail
      go_ret2
      rw [Hm.out]
      exact ⟨by first | rfl | rw [hd], belowTrans hb1 hb2 (Nat.le_refl _)⟩
end
end Go.Proofs.Ytmfdimdcoeapoaa
