/- Chapter 3: levels and the potential by the program. No condition. -/
import Derived.Test.YtilgpaanmadchaaLevI
import Derived.Test.YtilgpaanmadchaaGa
import Derived.Test.YtilgpaanmadchaaPush
namespace Go.Proofs.Ytilgpaanmadchaa
open Go.RowKit Go.Maps
set_option linter.unusedVariables false
set_option linter.unusedSimpArgs false

theorem wsum_all {xs : List Int} (hg : Good xs) {j : Nat} (h : j ≤ (lvsL xs).length) : 0 ≤ wsumN (lvsL xs) j ∧ wsumN (lvsL xs) j ≤ 21952 := by
  have h1 := lvsL_le hg
  have := pot_bound hg (k := j) (by omega)
  omega
theorem lvl_mul {xs : List Int} (hg : Good xs) {j : Nat} (h : j < (lvsL xs).length) : 0 ≤ (j : Int) * (lvsL xs).getD j 0 ∧ (j : Int) * (lvsL xs).getD j 0 ≤ 784 := by
  have h1 := lvsL_le hg
  have h2 := lvsL_at hg j
  have h3 : (j : Int) * (lvsL xs).getD j 0 ≤ 28 * 28 := Int.mul_le_mul (by omega) h2.2.1 h2.1 (by omega)
  exact ⟨Int.mul_nonneg (by omega) h2.1, by omega⟩

set_option maxRecDepth 100000 in
set_option maxHeartbeats 1600000 in
theorem potentialOf_any (ao : Option Addr) (n cap : Nat) (xs : List Int) (w : World) (h : IntsAt w ao n cap xs) (hg : Good xs) :
    Calls Try.prog 135 #[.slice ao n cap] w fun e w' => e = .returned (.int .i64 (pot xs)) ∧ Below w.heap.size w w' := by
  have hcon := cardsByLevel_any ao n cap xs w h hg
  have hle := lvsL_le hg
  have hw : ∀ j, j ≤ (lvsL xs).length → 0 ≤ wsumN (lvsL xs) j ∧ wsumN (lvsL xs) j ≤ 21952 := fun j hj => wsum_all hg hj
  have hm : ∀ j, j < (lvsL xs).length → 0 ≤ (j : Int) * (lvsL xs).getD j 0 ∧ (j : Int) * (lvsL xs).getD j 0 ≤ 784 := fun j hj => lvl_mul hg hj
  unfold pot
  generalize lvsL xs = ls at *
  have Hcon := Lib.hid hcon; clear hcon
  have Hw := Lib.hid hw; clear hw
  have Hm := Lib.hid hm; clear hm
  clear h hg
  go_enter Try.func135, Try.ntmps135
  go_wp2_with fail
  with_reducible refine (Hcon.out).mono ?_
  rintro e w1 ⟨rfl, hmap, hb⟩
  obtain ⟨D, hown, hr⟩ := hmap
  have hsz := hr.size
  go_wp2_with (at_len; refine wpList_len_own w1 rfl _ 95 rfl 3 3 Try.underlying95 _ w.heap.size _ D rfl hown ?_; rw [hsz])
  go_loop [4, 10] (fun p i => ∃ (j : Nat) (s : Int), j ≤ ls.length ∧ i = .int .i64 j ∧ p = .int .i64 s ∧ wsumN ls j = s) (fun _ i => ls.length - (intOf i).toNat)
  case atStart => exact ⟨0, 0, Nat.zero_le _, rfl, rfl, rfl⟩
  case round =>
    obtain ⟨j, s, hj, rfl, rfl, hs⟩ := hrel
    have hs1 := Hw.out j hj
    rw [hs] at hs1
    by_cases hlt : j < ls.length
    · have hm1 := Hm.out j hlt
      have hkey := mapKey (l := j) (by omega)
      have hat0 := hr.at_ j
      have es : wsumN ls (j + 1) = s + (j : Int) * ls.getD j 0 := by rw [wsumN, hs]
      have Hkey := Lib.hid hkey; clear hkey
      have Hs := Lib.hid hs; clear hs
      generalize hc : ls.getD j 0 = c at hm1 es hat0
      generalize hp : (j : Int) * c = p at hm1 es
      have Hat0 := Lib.hid hat0; clear hat0
      have Es := Lib.hid es; clear es
      have Hc := Lib.hid hc; clear hc
      go_wp2_with (at_lookup; refine wpList_lookup_own_int _ rfl _ _ 95 rfl 3 3 .i64 mapK Try.underlying95 Try.underlying3 (mapZ _) w.heap.size _ _ rfl hown _ _ rfl Hkey.out ?_; intro c2 hat hwc; obtain rfl : c = c2 := litI ((Hat0.out).symm.trans hat); clear hat hwc)
      go_round
      case rel => exact ⟨j + 1, s + p, by omega, valI (by omega), valI (by go_num), Es.out⟩
      case measure => simp [intOf]; omega
    · have hjn : j = ls.length := by omega
      subst hjn
      go_wp2_with fail
      go_ret
      exact ⟨by first | rfl | rw [hs], hb⟩

set_option maxRecDepth 100000 in
set_option maxHeartbeats 1600000 in
theorem dropOf_any (ao : Option Addr) (n cap : Nat) (xs : List Int) (w : World) (h : IntsAt w ao n cap xs) (hg : Good xs) :
    Calls Try.prog 139 #[.slice ao n cap] w fun e w' => e = .returned (.int .i64 (dropL xs)) ∧ w = w' := by
  have hl := h.length
  have hlen := hg.len
  have hn28 : n ≤ 28 := by omega
  unfold dropL
  have Hl := Lib.hid hl; clear hl
  have Hg := Lib.hid hg; clear hg
  go_enter Try.func139, Try.ntmps139
  go_wp2
  go_loop [3, 8] (fun s i => ∃ k : Nat, ∃ t : Int, k ≤ n ∧ i = .int .i64 k ∧ s = .int .i64 t ∧ dropN xs k = t) (fun _ i => n - (intOf i).toNat)
  case atStart => exact ⟨0, 0, Nat.zero_le _, rfl, rfl, rfl⟩
  case round =>
    obtain ⟨k, t, hk, rfl, rfl, ht⟩ := hrel
    have ht1 := dropN_bound Hg.out (k := k) (by rw [Hl.out]; exact hk)
    rw [ht] at ht1
    by_cases hlt : k < n
    · obtain ⟨b, o, rfl, hb, hc⟩ := h.cell k hlt
      have hck := hc k hlt
      clear hc
      generalize hx : xs.getD k 0 = x at hck
      have Hx := Lib.hid hx; clear hx
      have hx := good_at Hg.out (k := k) (by rw [Hl.out]; exact hlt)
      rw [Hx.out] at hx
      have e : dropN xs (k + 1) = t + max 0 (x - 1 - n) := by rw [dropN, ht, Hx.out, Hl.out]
      have E := Lib.hid e; clear e
      have Ht := Lib.hid ht; clear ht
      go_wp2
      go_round
      case rel => exact ⟨k + 1, t + max 0 (x - 1 - n), by omega, valI (by omega), valI (by go_num), E.out⟩
      case measure => simp [intOf]; omega
    · go_wp2
      go_ret
      have hnk : n = k := by omega
      exact ⟨by rw [Hl.out, hnk, ht]; rfl, rfl⟩

theorem placesOn_any (l : Nat) (w : World) (h : l ≤ 1000000) :
    Calls Try.prog 140 #[.int .i64 l] w fun e w' => e = .returned (.int .i64 ((l : Int) + 1)) ∧ w = w' := by
  go_enter Try.func140, Try.ntmps140
  go_wp2
  go_ret
  exact ⟨retI (by omega), rfl⟩

/-! ### LevelsOf -/
set_option maxRecDepth 100000 in
set_option maxHeartbeats 1600000 in
theorem impl_LevelsOf (ao : Option Addr) (n cap : Nat) (xs : List Int) (w : World) (h : IntsAt w ao n cap xs) :
    Calls Try.prog 72 #[.slice ao n cap] w fun e w' => ∃ ao' n' cap', e = .returned (.tuple #[.slice ao' n' cap', .bool (mLevelsOf xs).2]) ∧ Own w.heap.size w'.heap.size w' ao' n' cap' (mLevelsOf xs).1 ∧ Below w.heap.size w w' := by
  cases hg : goodB xs
  · have hm := mLevels_no hg
    have Hg := Lib.hid hg; clear hg
    have Hm := Lib.hid hm; clear hm
    go_enter Try.func72, Try.ntmps72
    go_wp2_with fail
    with_reducible refine (isPiles_no _ _ _ _ _ h Hg.out).mono ?_
    rintro e w' ⟨rfl, rfl⟩
    go_wp2
    go_ret2
    rw [Hm.out]
    exact ⟨none, 0, 0, rfl, Own.nil _ _ _, Below.refl _ _⟩
  · have hm := mLevels_yes hg
    have hG := good_iff.1 hg
    have hcon := cardsByLevel_any ao n cap xs w h hG
    have hle := lvsL_le hG
    have hat1 : ∀ j, 0 ≤ (lvsL xs).getD j 0 ∧ (lvsL xs).getD j 0 ≤ 28 := fun j => ⟨(lvsL_at hG j).1, (lvsL_at hG j).2.1⟩
    obtain ⟨i0, hi, hz0, hz1, hz2⟩ := info_parts Try.infoInt
    generalize lvsL xs = ls at *
    have Hg := Lib.hid hg; clear hg
    have Hm := Lib.hid hm; clear hm
    have HG := Lib.hid hG; clear hG
    have Hcon := Lib.hid hcon; clear hcon
    have Hat1 := Lib.hid hat1; clear hat1
    go_enter Try.func72, Try.ntmps72
    go_wp2_with fail
    with_reducible refine (isPiles_yes _ _ _ _ _ h HG.out).mono ?_
    rintro e w' ⟨rfl, rfl⟩
    clear h
    go_wp2_with fail
    with_reducible refine (Hcon.out).mono ?_
    rintro e w1 ⟨rfl, hmap, hb⟩
    have hmlt := hmap.lt
    obtain ⟨D, hown0, hr⟩ := hmap
    have hmap : MapAt w1 w.heap.size ls := ⟨D, hown0, hr⟩
    have hsz := hr.size
    go_wp2_with (first | (at_len; refine wpList_len_own w1 rfl _ 95 rfl 3 3 Try.underlying95 _ w.heap.size _ D rfl hown0 ?_; rw [hsz]) | (at_make; refine wpList_make_full w1 rfl _ _ _ rfl w.heap.size 3 i0 _ 1 Try.underlying24 hi hz0 hz1 _ _ _ _ ls.length rfl rfl rfl rfl ?_ ?_ hb.size ?_))
    · rw [hz2]; omega
    · unfold maxLen; omega
    intro w2 hown hgrow
    rw [madeZeros] at hown
    have ho : Own w.heap.size w2.heap.size w2 (some ⟨w1.heap.size, 0, none⟩) ls.length ls.length (List.replicate ls.length 0) := Own.of hown
    have hb2 : Below w.heap.size w w2 := hb.grown hgrow hb.size (fun k hk => by cases hk)
    have hmap2 : MapAt w2 w.heap.size ls := hmap.kept hgrow (by simp)
    clear hi hz0 hz1 hz2 hgrow hown hmap
    have hs1 := hb.size
    clear hown0 hr hsz
    obtain ⟨D2, hown2, hr2⟩ := hmap2
    have hmap2 : MapAt w2 w.heap.size ls := ⟨D2, hown2, hr2⟩
    have hsz := hr2.size
    go_wp2_with (at_len; refine wpList_len_own w2 rfl _ 95 rfl 3 3 Try.underlying95 _ w.heap.size _ D2 rfl hown2 ?_; rw [hsz])
    clear hown2 hr2
    go_loopw [17] (fun i wr => ∃ j : Nat, j ≤ ls.length ∧ i = .int .i64 j ∧ Own w.heap.size w2.heap.size wr (some ⟨w1.heap.size, 0, none⟩) ls.length ls.length (ls.take j ++ List.replicate (ls.length - j) 0) ∧ MapAt wr w.heap.size ls ∧ w2.heap.size ≤ wr.heap.size ∧ Below w.heap.size w wr) (fun i _ => ls.length - (intOf i).toNat)
    case atStart => exact ⟨0, Nat.zero_le _, rfl, by simpa using ho, hmap2, Nat.le_refl _, hb2⟩
    case round =>
      obtain ⟨j, hj, rfl, hoj, hmj, hsj, hbj⟩ := hrel
      clear ho hmap2 hb2
      by_cases hlt : j < ls.length
      · have hfz := hoj.frozenAt j
        have hcell := getD_cells hoj j hlt
        have hst := hoj.set j (ls.getD j 0)
        rw [putLev ls j hlt] at hst
        have hmj2 := hmj.setCell (a := ⟨w1.heap.size, j, none⟩) (by simp; omega) (.int .i64 (ls.getD j 0))
        have hb3 := hbj.setCell (p := ⟨w1.heap.size, j, none⟩) (by exact hs1) (.int .i64 (ls.getD j 0))
        obtain ⟨D, hownj, hrj⟩ := hmj
        have hkey := mapKey (l := j) (by omega)
        have hat0 := hrj.at_ j
        have hc1 := Hat1.out j
        generalize (ls.take j ++ List.replicate (ls.length - j) 0).getD j 0 = z at hcell
        generalize hy : ls.getD j 0 = y at *
        have Hkey := Lib.hid hkey; clear hkey
        have Hat0 := Lib.hid hat0; clear hat0
        have Hst := Lib.hid hst; clear hst
        have Hoj := Lib.hid hoj; clear hoj
        have Hmj2 := Lib.hid hmj2; clear hmj2
        have Hb3 := Lib.hid hb3; clear hb3
        have Hy := Lib.hid hy; clear hy
        go_wp2_with (at_lookup; refine wpList_lookup_own_int _ rfl _ _ 95 rfl 3 3 .i64 mapK Try.underlying95 Try.underlying3 (mapZ _) w.heap.size _ _ rfl hownj _ _ rfl Hkey.out ?_; intro c2 hat hwc; obtain rfl : y = c2 := litI ((Hat0.out).symm.trans hat); clear hat hwc)
        go_roundw
        case rel => exact ⟨j + 1, by omega, valI (by omega), Hst.out.1, Hmj2.out, by simpa using hsj, Hb3.out⟩
        case measure => simp [intOf]; omega
      · have hjn : j = ls.length := by omega
        rw [hjn] at hoj
        go_wp2_with fail
        go_ret2
        rw [Hm.out]
        have e : ls.take ls.length ++ List.replicate (ls.length - ls.length) 0 = ls := by simp
        rw [e] at hoj
        exact ⟨_, _, _, rfl, hoj.mono (Nat.le_refl _) hsj, hbj⟩
end Go.Proofs.Ytilgpaanmadchaa
