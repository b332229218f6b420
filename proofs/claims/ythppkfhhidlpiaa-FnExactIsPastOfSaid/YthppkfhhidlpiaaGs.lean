/- Several texts in one: PaS, PaT, PaU, PaV. No condition. -/
import Derived.Test.YthppkfhhidlpiaaPaM
import Derived.Test.YthppkfhhidlpiaaRowsR
import Derived.Test.YthppkfhhidlpiaaOrbB
import Derived.Test.YthppkfhhidlpiaaAll
import Derived.Test.YthppkfhhidlpiaaPastsB
import Derived.Test.YthppkfhhidlpiaaLongest
namespace Go.Proofs.Ythppkfhhidlpiaa
section
open Go.RowKit
set_option linter.unusedVariables false
set_option linter.unusedSimpArgs false
set_option maxRecDepth 20000

theorem take_snocX {xs : List (List Int)} {k n : Nat} (hk : k < n) (hl : xs.length = n) : xs.take (k + 1) = xs.take k ++ [xs.getD k []] := take_snocR rfl hk hl
theorem getD_memR {xs : List (List Int)} {k n : Nat} (hk : k < n) (hl : xs.length = n) : xs.getD k [] ∈ xs := by
  subst hl
  rw [List.getD_eq_getElem?_getD, List.getElem?_eq_getElem hk]; exact List.getElem_mem _
theorem filter_snoc {α : Type} (p : α → Bool) (l : List α) (x : α) : (l ++ [x]).filter p = l.filter p ++ if p x then [x] else [] := by
  rw [List.filter_append]; cases h : p x <;> simp [h]
theorem gardB_nil : gardB [] = false := rfl
theorem gardB_eq {xs : List Int} {n : Nat} {x : Int} (hn : n ≠ 0) (hl : xs.length = n) (hx : xs.getD 0 0 = x) : gardB xs = decide (x < (n : Int) - 1) := by
  have hne : xs ≠ [] := fun e => hn (by rw [← hl, e]; rfl)
  unfold gardB
  rw [decide_eq_true hne, head_getD, hx, hl]; rfl

set_option maxHeartbeats 800000 in
theorem paGarden_any (ao : Option Addr) (n cap : Nat) (xs : List Int) (w : World) (h : IntsAt w ao n cap xs) (hg : Good xs) :
    Calls Try.prog 153 #[.slice ao n cap] w fun e w' => e = .returned (.bool (gardB xs)) ∧ w = w' := by
  have hl := h.length
  have hlen := hg.len
  have hn28 : (n : Int) ≤ 28 := by omega
  by_cases hz : n = 0
  · have hxs : xs = [] := List.eq_nil_of_length_eq_zero (by omega)
    subst hz
    subst hxs
    go_enter Try.func153, Try.ntmps153
    go_wp2
    go_ret
    exact ⟨rfl, rfl⟩
  · obtain ⟨b, o, rfl, hb, hc⟩ := h.cell 0 (by omega)
    have hck := hc 0 (by omega)
    rw [Nat.add_zero] at hck
    generalize hx : xs.getD 0 0 = x at hck
    have hxm := hg.mem (getD_mem hx (show 0 < n by omega) hl)
    have e := gardB_eq hz hl hx
    have hpos : (0 : Int) < n := by omega
    clear hc h
    by_cases hlt : x < (n : Int) - 1
    · rw [decide_eq_true hlt] at e
      have Hx := Lib.hid hx; clear hx
      have Hl := Lib.hid hl; clear hl
      have Hg := Lib.hid hg; clear hg
      have E := Lib.hid e; clear e
      go_enter Try.func153, Try.ntmps153
      go_wp2
      go_ret
      exact ⟨retB (by rw [E.out]), rfl⟩
    · rw [decide_eq_false hlt] at e
      have Hx := Lib.hid hx; clear hx
      have Hl := Lib.hid hl; clear hl
      have Hg := Lib.hid hg; clear hg
      have E := Lib.hid e; clear e
      go_enter Try.func153, Try.ntmps153
      go_wp2
      go_ret
      exact ⟨retB (by rw [E.out]), rfl⟩
theorem spec_IsGarden (ao : Option Addr) (n cap : Nat) (xs : List Int) (w : World) (h : IntsAt w ao n cap xs) :
    Calls Try.prog 87 #[.slice ao n cap] w fun e w' => e = .returned (.tuple #[.bool (mIsGarden xs).1, .bool (mIsGarden xs).2]) ∧ Below w.heap.size w w' := by
  cases hg : goodB xs
  · have hm := mGard_no hg
    have Hg := Lib.hid hg; clear hg
    have Hm := Lib.hid hm; clear hm
    go_enter Try.func87, Try.ntmps87
    go_wp2_with fail
    with_reducible refine (piGood_no _ _ _ _ _ h Hg.out).mono ?_
    rintro e w' ⟨rfl, rfl⟩
    go_wp2
    go_ret2
    rw [Hm.out]
    exact ⟨rfl, Below.refl _ _⟩
  · have hm := mGard_yes hg
    have Hg := Lib.hid hg; clear hg
    have Hm := Lib.hid hm; clear hm
    go_enter Try.func87, Try.ntmps87
    go_wp2_with fail
    with_reducible refine (piGood_yes _ _ _ _ _ h (good_iff.1 Hg.out)).mono ?_
    rintro e w' ⟨rfl, rfl⟩
    go_wp2_with fail
    with_reducible refine (paGarden_any _ _ _ _ _ h (good_iff.1 Hg.out)).mono ?_
    rintro e w' ⟨rfl, rfl⟩
    go_wp2
    go_ret2
    rw [Hm.out]
    exact ⟨rfl, Below.refl _ _⟩

set_option maxHeartbeats 1600000 in
theorem paGardens_any (n : Nat) (w : World) (hn : n ≤ 28) :
    Calls Try.prog 152 #[.int .i64 n] w fun e w' => ∃ ao m c, e = .returned (.slice ao m c) ∧ RowsR w.heap.size w'.heap.size w' ao m c (gardL n) ∧ Below w.heap.size w w' := by
  have hcon := piAll_any 28 n n w hn hn hn
  have hG : ∀ x ∈ allL n, Good x := fun x hx => (allL_good hn hx).1
  have hle := allL_le hn
  change Calls _ _ _ _ (fun e w' => ∃ ao' n' cap', e = .returned (.slice ao' n' cap') ∧ OwnRows w.heap.size w'.heap.size w' ao' n' cap' (allL n) ∧ Below w.heap.size w w') at hcon
  unfold gardL
  generalize allL n = A at *
  have Hcon := Lib.hid hcon; clear hcon
  have HG := Lib.hid hG; clear hG
  go_enter Try.func152, Try.ntmps152
  go_wp2_with fail
  with_reducible refine (Hcon.out).mono ?_
  rintro e w1 ⟨a1, n1, c1, rfl, ho1, hb1⟩
  have hn1 := ho1.length
  have hs1 := hb1.size
  obtain ⟨avs, hsp, _⟩ := ho1.sp
  have hn8 : n1 ≤ 3718 := by omega
  clear ho1
  have Hn1 := Lib.hid hn1; clear hn1
  go_wp2_with fail
  go_loopw [3, 10] (fun v i wr => ∃ (j : Nat) (a : Option Addr) (p c : Nat) (vs : List Value), j ≤ n1 ∧ p ≤ j ∧ i = .int .i64 j ∧ v = .slice a p c ∧ Sp w1.heap.size wr.heap.size w.heap.size w1.heap.size wr a p c vs ((A.take j).filter gardB) ∧ Below w1.heap.size w1 wr) (fun _ i _ => n1 - (intOf i).toNat)
  case atStart => exact ⟨0, none, 0, 0, [], Nat.zero_le _, Nat.le_refl _, rfl, rfl, Sp.nil _ _ _ _ _, Below.refl _ _⟩
  case round =>
    obtain ⟨j, a, p, c, vs, hj, hp, rfl, rfl, hv, hb⟩ := hrel
    by_cases hlt : j < n1
    · obtain ⟨b, oo, a3, m3, c3, rfl, hbl, hck, _, hrow⟩ := (hsp.keep hb).getRow hlt
      have hg3 := HG.out _ (getD_memR hlt Hn1.out)
      have e := filter_snoc gardB (A.take j) (A.getD j [])
      rw [← take_snocX hlt Hn1.out] at e
      generalize A.getD j [] = x at *
      have hcon := paGarden_any a3 m3 c3 x wr hrow.at hg3
      cases hgb : gardB x
      · rw [hgb] at hcon
        simp only [hgb, if_true, Bool.false_eq_true, if_false, List.append_nil, Bool.not_true, Bool.not_false] at e
        have Hcon := Lib.hid hcon; clear hcon
        have E := Lib.hid e; clear e
        have Hg3 := Lib.hid hg3; clear hg3
        have Hgb := Lib.hid hgb; clear hgb
        go_wp2_with fail
        with_reducible refine (Hcon.out).mono ?_
        rintro e w2 ⟨rfl, rfl⟩
        go_wp2
        go_roundw
        case rel => exact ⟨j + 1, a, p, c, vs, by omega, by omega, by go_num, rfl, by rw [E.out]; simpa using hv, hb⟩
        case measure => simp [intOf]; omega
      · rw [hgb] at hcon
        simp only [hgb, if_true, Bool.false_eq_true, if_false, List.append_nil, Bool.not_true, Bool.not_false] at e
        have Hcon := Lib.hid hcon; clear hcon
        have E := Lib.hid e; clear e
        have Hg3 := Lib.hid hg3; clear hg3
        have Hgb := Lib.hid hgb; clear hgb
        go_wp2_with fail
        with_reducible refine (Hcon.out).mono ?_
        rintro e w2 ⟨rfl, rfl⟩
        go_wp2_with (at_builtin; refine wpList_pushSp wr rfl _ _ rfl w1.heap.size wr.heap.size w.heap.size w1.heap.size a p c vs _ rfl hv a3 m3 c3 x hrow rfl (by omega) hb.size ?_)
        intro a4 c4 w4 hv4 hc4 _
        have hb4 := hb.trans (hv.below hc4 hb.size)
        clear hv hc4
        go_wp2
        go_roundw
        case rel => exact ⟨j + 1, a4, p + 1, c4, _, by omega, by omega, by go_num, rfl, by rw [E.out]; exact hv4, hb4⟩
        case measure => simp [intOf]; omega
    · obtain rfl : n1 = j := by omega
      rw [take_allR Hn1.out] at hv
      have hs := hb.size
      go_wp2
      go_ret
      exact ⟨_, _, _, rfl, hv.toR (by omega) (by omega) (by omega) (by omega), belowTrans hb1 hb (Nat.le_refl _)⟩
theorem spec_GardensOf (n : Int) (w : World) :
    Calls Try.prog 83 #[.int .i64 n] w fun e w' => ∃ ao' n' cap', e = .returned (.tuple #[.slice ao' n' cap', .bool (mGardensOf n).2]) ∧ RowsR w.heap.size w'.heap.size w' ao' n' cap' (mGardensOf n).1 ∧ Below w.heap.size w w' := by
  by_cases hn : 0 ≤ n ∧ n ≤ 28
  · have hin := hn
    obtain ⟨m, rfl⟩ := Int.eq_ofNat_of_zero_le hn.1
    have hm := mGards_yes m (by omega)
    have hcon := paGardens_any m w (by omega)
    have Hn := Lib.hid hn; clear hn
    have Hm := Lib.hid hm; clear hm
    have Hin := Lib.hid hin; clear hin
    have Hcon := Lib.hid hcon; clear hcon
    go_enter Try.func83, Try.ntmps83
    go_wp2_with fail
    with_reducible refine (piCards_yes _ _ Hin.out).mono ?_
    rintro e w' ⟨rfl, rfl⟩
    go_wp2_with fail
    with_reducible refine (Hcon.out).mono ?_
    rintro e w1 ⟨a1, m1, c1, rfl, ho1, hb1⟩
    go_wp2
    go_ret2
    rw [Hm.out]
    exact ⟨_, _, _, rfl, ho1, hb1⟩
  · have hm := mGards_no n hn
    have Hn := Lib.hid hn; clear hn
    have Hm := Lib.hid hm; clear hm
    go_enter Try.func83, Try.ntmps83
    go_wp2_with fail
    with_reducible refine (piCards_no _ _ Hn.out).mono ?_
    rintro e w' ⟨rfl, rfl⟩
    go_wp2
    go_ret2
    rw [Hm.out]
    exact ⟨none, 0, 0, rfl, RowsR.nil _ _ _, Below.refl _ _⟩
end
end Go.Proofs.Ythppkfhhidlpiaa
namespace Go.Proofs.Ythppkfhhidlpiaa
section
open Go.RowKit
set_option linter.unusedVariables false
set_option linter.unusedSimpArgs false
set_option maxRecDepth 20000

set_option maxHeartbeats 3200000 in
set_option maxRecDepth 100000 in
theorem piAddW_any (B E C D : Nat) (ao : Option Addr) (n cap : Nat) (vs : List Value) (xss : List (List Int)) (a2 : Option Addr) (m c : Nat) (ys : List Int) (w : World) (h : Sp B E C D w ao n cap vs xss)
    (hy : Own C D w a2 m c ys) (hn : n ≤ 1048576) :
    Calls Try.prog 183 #[.slice ao n cap, .slice a2 m c] w fun e w' => ∃ ao' n' cap', e = .returned (.slice ao' n' cap') ∧ (∃ vs', Sp w.heap.size w'.heap.size C D w' ao' n' cap' vs' (addL xss ys)) ∧ Below w.heap.size w w' := by
  have hn' : (n : Int) ≤ 1048576 := by omega
  have hl := Lib.hid h.length
  have hra := h.at
  have hya := hy.at
  go_enter Try.func183, Try.ntmps183
  go_wp2
  go_loopw [5] (fun i wr => ∃ k : Nat, k ≤ n ∧ i = .int .i64 k ∧ (∀ l ∈ xss.take k, befB l ys = true) ∧ Below w.heap.size w wr) (fun i _ => n - (intOf i).toNat)
  case atStart => exact ⟨0, Nat.zero_le _, rfl, by simp, Below.refl _ _⟩
  case round =>
    obtain ⟨k, hk, rfl, hall, hb⟩ := hrel
    by_cases hgo : k < n ∧ befB (xss.getD k []) ys = true
    · obtain ⟨hlt, hbef⟩ := hgo
      have hd1 : decide (k < n) = true := decide_eq_true hlt
      have hr1 := hra.keep hb
      obtain ⟨b, oo, rfl, hbl, hc⟩ := hr1.cell k hlt
      obtain ⟨a, p, q, hck, hi⟩ := hc k hlt
      clear hc hr1
      generalize hx : xss.getD k [] = x at hi hbef
      have hcon := piBefore_any a a2 p m q c x ys wr hi (hya.keep hb)
      rw [hbef] at hcon
      have Hall := Lib.hid hall; clear hall
      have Hx := Lib.hid hx; clear hx
      have Hbef := Lib.hid hbef; clear hbef
      have Hcon := Lib.hid hcon; clear hcon
      have Hd1 := Lib.hid hd1; clear hd1
      go_wp2_with fail
      with_reducible refine (Hcon.out).mono ?_
      rintro e w1 ⟨rfl, hb1⟩
      go_wp2
      go_roundw
      case rel =>
        refine ⟨k + 1, by omega, by go_num, fun z hz => ?_, belowTrans hb hb1 (Nat.le_refl _)⟩
        rw [take_snocR Hx.out hlt hl.out] at hz
        rcases List.mem_append.1 hz with h' | h'
        · exact Hall.out z h'
        · rw [List.mem_singleton.1 h']; exact Hbef.out
      case measure => simp [intOf]; omega
    · have hput : addL xss ys = xss.take k ++ ys :: xss.drop k := addL_at hall fun l hl' => by
        by_cases hlt : k < n
        · have hno : befB (xss.getD k []) ys = false := by
            cases hh : befB (xss.getD k []) ys
            · rfl
            · exact absurd ⟨hlt, hh⟩ hgo
          rw [List.head?_drop, List.getElem?_eq_getElem (by rw [hl.out]; exact hlt)] at hl'
          rw [List.getD_eq_getElem?_getD, List.getElem?_eq_getElem (by rw [hl.out]; exact hlt)] at hno
          simp only [Option.some.injEq] at hl'
          rw [← hl']; exact hno
        · rw [List.drop_of_length_le (by rw [hl.out]; omega)] at hl'
          cases hl'
      have hv1 := h.spine
      have hv2 := h.rows
      have hvl := hv1.length
      have hone := hv2.oneCell
      have hins : RowsW C D w (vs.take k ++ .slice a2 m c :: vs.drop k) (xss.take k ++ ys :: xss.drop k) := (hv2.take k).append ((RowsW.one hy).append (hv2.drop k))
      have hva := hv1.at
      obtain ⟨b2, hsl2, hi2⟩ := slUptoR w vs hva k hk .i64
      obtain ⟨b3, hsl3, hi3⟩ := slFromR w vs hva k hk .i64
      have hone1 : ∀ u ∈ vs.take k, u.oneCell' = true := fun u hu => hone u (List.mem_of_mem_take hu)
      have hone3 : ∀ u ∈ vs.drop k, u.oneCell' = true := fun u hu => hone u (List.mem_of_mem_drop hu)
      have fin : ∀ (a5 : Option Addr) (c5 : Nat) (w5 : World), OwnRow w.heap.size w5.heap.size w5 24 a5 (k + 1 + (n - k)) c5 (vs.take k ++ .slice a2 m c :: vs.drop k) → Below w.heap.size w w5 → (∃ vs', Sp w.heap.size w5.heap.size C D w5 a5 (k + 1 + (n - k)) c5 vs' (addL xss ys)) ∧ Below w.heap.size w w5 := by
        intro a5 c5 w5 h5 hb5
        refine ⟨⟨_, h5, ?_⟩, hb5⟩
        rw [hput]
        exact hins.keep hb5
      have Fin := Lib.hid fin
      clear fin hone hva
      have Hput := Lib.hid hput; clear hput
      have Hall := Lib.hid hall; clear hall
      have Hvl := Lib.hid hvl; clear hvl
      have Hins := Lib.hid hins; clear hins
      by_cases hlt : k < n
      · have hd1 : decide (k < n) = true := decide_eq_true hlt
        have hno : befB (xss.getD k []) ys = false := by
          cases hh : befB (xss.getD k []) ys
          · rfl
          · exact absurd ⟨hlt, hh⟩ hgo
        have hr1 := hra.keep hb
        obtain ⟨b, oo, rfl, hbl, hc⟩ := hr1.cell k hlt
        obtain ⟨a, p, q, hck, hi⟩ := hc k hlt
        clear hc hr1 hgo
        generalize hx : xss.getD k [] = x at hi hno
        have hcon := piBefore_any a a2 p m q c x ys wr hi (hya.keep hb)
        rw [hno] at hcon
        have Hx := Lib.hid hx; clear hx
        have Hno := Lib.hid hno; clear hno
        have Hcon := Lib.hid hcon; clear hcon
        go_wp2_with fail
        with_reducible refine (Hcon.out).mono ?_
        rintro e w0 ⟨rfl, hb0⟩
        have hbw := belowTrans hb hb0 (Nat.le_refl _)
        clear hb hb0
        have hoe : OwnRow w.heap.size (w0.heap.size + 1) (w0.alloc (.cells #[] 24)) 24 (some ⟨w0.heap.size, 0, none⟩) 0 0 [] := (OwnRow.empty w0).mono hbw.size (Nat.le_refl _)
        have hbe : Below w.heap.size w (w0.alloc (.cells #[] 24)) := hbw.alloc hbw.size _
        have hi2' := hi2.keep hbe
        go_wp2_with (at_builtin; refine wpList_catV _ rfl _ _ 26 rfl 24 _ 24 Try.underlying26 Try.infoInts rfl (by decide) w.heap.size _ _ 0 0 [] rfl hoe b2 k cap _ rfl hi2' hone1 (by omega) hbe.size ?_)
        intro a1 c1 w1 ho1 hc1
        have hb1 := hbe.trans (hoe.chgBelow hc1 hbe.size)
        try simp only [Nat.zero_add, List.nil_append] at ho1 ⊢
        clear hoe hbe hi2' hi2 hc1
        have ho1a : OwnRow w.heap.size w1.heap.size (w1.alloc (.cells #[.slice a2 m c] 24)).drew 24 a1 k c1 (vs.take k) := OwnRow.drew (ho1.keep (belowAlloc w1 _))
        have hb1a : Below w.heap.size w (w1.alloc (.cells #[.slice a2 m c] 24)).drew := belowDrewN (hb1.alloc hb1.size _) 1
        have hone2 : ValsAt (w1.alloc (.cells #[.slice a2 m c] 24)).drew (some ⟨w1.heap.size, 0, none⟩) 1 1 [.slice a2 m c] := ValsAt.drew (valsAt_one w1 _)
        go_wp2
        go_region_law (first | (refine step_catV _ rfl (.tmp 26) (.tmp 28) 26 rfl 24 _ 24 Try.underlying26 Try.infoInts rfl (by decide) w.heap.size w1.heap.size a1 k c1 (vs.take k) rfl ho1a (some ⟨w1.heap.size, 0, none⟩) 1 1 [.slice a2 m c] rfl hone2 (fun u hu => by rw [List.mem_singleton.1 hu]; rfl) (by omega) hb1a.size ?_; intro a4 c4 w4 ho4 hc4; have hb4 := hb1a.trans (ho1a.chgBelow hc4 hb1a.size)) | (refine step_catV w4 rfl (.tmp 29) (.tmp 32) 26 rfl 24 _ 24 Try.underlying26 Try.infoInts rfl (by decide) w.heap.size w4.heap.size a4 (k + 1) c4 _ rfl ho4 b3 (n - k) (cap - k) (vs.drop k) rfl (hi3.keep hb4) hone3 (by omega) hb4.size ?_; intro a5 c5 w5 ho5 hc5; have hb5 := hb4.trans (ho4.chgBelow hc5 hb4.size)))
        go_wp2
        go_ret
        have hfin := Fin.out a5 c5 w5 (by rw [List.append_assoc] at ho5; exact ho5) hb5
        exact ⟨_, _, _, rfl, hfin.1, hfin.2⟩
      · have hd1 : decide (k < n) = false := decide_eq_false hlt
        clear hgo
        have hoe : OwnRow w.heap.size (wr.heap.size + 1) (wr.alloc (.cells #[] 24)) 24 (some ⟨wr.heap.size, 0, none⟩) 0 0 [] := (OwnRow.empty wr).mono hb.size (Nat.le_refl _)
        have hbe : Below w.heap.size w (wr.alloc (.cells #[] 24)) := hb.alloc hb.size _
        have hi2' := hi2.keep hbe
        go_wp2_with (at_builtin; refine wpList_catV _ rfl _ _ 26 rfl 24 _ 24 Try.underlying26 Try.infoInts rfl (by decide) w.heap.size _ _ 0 0 [] rfl hoe b2 k cap _ rfl hi2' hone1 (by omega) hbe.size ?_)
        intro a1 c1 w1 ho1 hc1
        have hb1 := hbe.trans (hoe.chgBelow hc1 hbe.size)
        try simp only [Nat.zero_add, List.nil_append] at ho1 ⊢
        clear hoe hbe hi2' hi2 hc1
        have ho1a : OwnRow w.heap.size w1.heap.size (w1.alloc (.cells #[.slice a2 m c] 24)).drew 24 a1 k c1 (vs.take k) := OwnRow.drew (ho1.keep (belowAlloc w1 _))
        have hb1a : Below w.heap.size w (w1.alloc (.cells #[.slice a2 m c] 24)).drew := belowDrewN (hb1.alloc hb1.size _) 1
        have hone2 : ValsAt (w1.alloc (.cells #[.slice a2 m c] 24)).drew (some ⟨w1.heap.size, 0, none⟩) 1 1 [.slice a2 m c] := ValsAt.drew (valsAt_one w1 _)
        go_wp2
        go_region_law (first | (refine step_catV _ rfl (.tmp 26) (.tmp 28) 26 rfl 24 _ 24 Try.underlying26 Try.infoInts rfl (by decide) w.heap.size w1.heap.size a1 k c1 (vs.take k) rfl ho1a (some ⟨w1.heap.size, 0, none⟩) 1 1 [.slice a2 m c] rfl hone2 (fun u hu => by rw [List.mem_singleton.1 hu]; rfl) (by omega) hb1a.size ?_; intro a4 c4 w4 ho4 hc4; have hb4 := hb1a.trans (ho1a.chgBelow hc4 hb1a.size)) | (refine step_catV w4 rfl (.tmp 29) (.tmp 32) 26 rfl 24 _ 24 Try.underlying26 Try.infoInts rfl (by decide) w.heap.size w4.heap.size a4 (k + 1) c4 _ rfl ho4 b3 (n - k) (cap - k) (vs.drop k) rfl (hi3.keep hb4) hone3 (by omega) hb4.size ?_; intro a5 c5 w5 ho5 hc5; have hb5 := hb4.trans (ho4.chgBelow hc5 hb4.size)))
        go_wp2
        go_ret
        have hfin := Fin.out a5 c5 w5 (by rw [List.append_assoc] at ho5; exact ho5) hb5
        exact ⟨_, _, _, rfl, hfin.1, hfin.2⟩

theorem flatMap_snocX (f : List Int → List (List Int)) {A : List (List Int)} {q m : Nat} (hq : q < m) (hl : A.length = m) : (A.take (q + 1)).flatMap f = (A.take q).flatMap f ++ f (A.getD q []) := by
  rw [take_snocX hq hl, List.flatMap_append]; simp
theorem flatMap_take_le (f : List Int → List (List Int)) (A : List (List Int)) (q : Nat) : ((A.take q).flatMap f).length ≤ (A.flatMap f).length := by
  have := congrArg (fun l => (l.flatMap f).length) (List.take_append_drop q A)
  simp only [List.flatMap_append, List.length_append] at this
  omega

set_option maxHeartbeats 1600000 in
theorem paFree_any (ao : Option Addr) (n cap : Nat) (xs : List Int) (w : World) (h : IntsAt w ao n cap xs) (hg : Good xs) :
    Calls Try.prog 159 #[.slice ao n cap] w fun e w' => ∃ ao' m c, e = .returned (.slice ao' m c) ∧ (∃ vs, Sp w.heap.size w'.heap.size w.heap.size w'.heap.size w' ao' m c vs (loosePasts xs)) ∧ Below w.heap.size w w' := by
  have hcon := piPasts_any ao n cap xs w h hg
  have hG : ∀ x ∈ pastsL xs, Good x := fun x hx => ((mem_pastsG hg).1 hx).1
  have hle : (pastsL xs).length ≤ 29 := by have := pastsL_length xs; have := hg.len; omega
  unfold loosePasts
  generalize pastsL xs = A at *
  have Hcon := Lib.hid hcon; clear hcon
  have HG := Lib.hid hG; clear hG
  go_enter Try.func159, Try.ntmps159
  go_wp2_with fail
  with_reducible refine (Hcon.out).mono ?_
  rintro e w1 ⟨a1, n1, c1, rfl, ho1, hb1⟩
  have hn1 := ho1.length
  have hs1 := hb1.size
  obtain ⟨avs, hsp, _⟩ := ho1.sp
  have hn8 : n1 ≤ 3718 := by omega
  clear ho1
  have Hn1 := Lib.hid hn1; clear hn1
  go_wp2_with fail
  go_loopw [3, 9] (fun v i wr => ∃ (j : Nat) (a : Option Addr) (p c : Nat) (vs : List Value), j ≤ n1 ∧ p ≤ j ∧ i = .int .i64 j ∧ v = .slice a p c ∧ Sp w1.heap.size wr.heap.size w.heap.size w1.heap.size wr a p c vs ((A.take j).filter fun p => !cycB p) ∧ Below w1.heap.size w1 wr) (fun _ i _ => n1 - (intOf i).toNat)
  case atStart => exact ⟨0, none, 0, 0, [], Nat.zero_le _, Nat.le_refl _, rfl, rfl, Sp.nil _ _ _ _ _, Below.refl _ _⟩
  case round =>
    obtain ⟨j, a, p, c, vs, hj, hp, rfl, rfl, hv, hb⟩ := hrel
    by_cases hlt : j < n1
    · obtain ⟨b, oo, a3, m3, c3, rfl, hbl, hck, _, hrow⟩ := (hsp.keep hb).getRow hlt
      have hg3 := HG.out _ (getD_memR hlt Hn1.out)
      have e := filter_snoc (fun p => !cycB p) (A.take j) (A.getD j [])
      rw [← take_snocX hlt Hn1.out] at e
      generalize A.getD j [] = x at *
      have hcon := orCyclic_any a3 m3 c3 x wr hrow.at hg3
      cases hgb : cycB x
      · rw [hgb] at hcon
        simp only [hgb, if_true, Bool.false_eq_true, if_false, List.append_nil, Bool.not_true, Bool.not_false] at e
        have Hcon := Lib.hid hcon; clear hcon
        have E := Lib.hid e; clear e
        have Hg3 := Lib.hid hg3; clear hg3
        have Hgb := Lib.hid hgb; clear hgb
        go_wp2_with fail
        with_reducible refine (Hcon.out).mono ?_
        rintro e w2 ⟨rfl, rfl⟩
        go_wp2_with (at_builtin; refine wpList_pushSp wr rfl _ _ rfl w1.heap.size wr.heap.size w.heap.size w1.heap.size a p c vs _ rfl hv a3 m3 c3 x hrow rfl (by omega) hb.size ?_)
        intro a4 c4 w4 hv4 hc4 _
        have hb4 := hb.trans (hv.below hc4 hb.size)
        clear hv hc4
        go_wp2
        go_roundw
        case rel => exact ⟨j + 1, a4, p + 1, c4, _, by omega, by omega, by go_num, rfl, by rw [E.out]; exact hv4, hb4⟩
        case measure => simp [intOf]; omega
      · rw [hgb] at hcon
        simp only [hgb, if_true, Bool.false_eq_true, if_false, List.append_nil, Bool.not_true, Bool.not_false] at e
        have Hcon := Lib.hid hcon; clear hcon
        have E := Lib.hid e; clear e
        have Hg3 := Lib.hid hg3; clear hg3
        have Hgb := Lib.hid hgb; clear hgb
        go_wp2_with fail
        with_reducible refine (Hcon.out).mono ?_
        rintro e w2 ⟨rfl, rfl⟩
        go_wp2
        go_roundw
        case rel => exact ⟨j + 1, a, p, c, vs, by omega, by omega, by go_num, rfl, by rw [E.out]; simpa using hv, hb⟩
        case measure => simp [intOf]; omega
    · obtain rfl : n1 = j := by omega
      rw [take_allR Hn1.out] at hv
      have hs := hb.size
      go_wp2
      go_ret
      exact ⟨_, _, _, rfl, ⟨_, hv.mono (by omega) (by omega) (by omega) (by omega)⟩, belowTrans hb1 hb (Nat.le_refl _)⟩

end
end Go.Proofs.Ythppkfhhidlpiaa
namespace Go.Proofs.Ythppkfhhidlpiaa
section
open Go.RowKit
set_option linter.unusedVariables false
set_option linter.unusedSimpArgs false
set_option maxRecDepth 20000

theorem Try.infoLists : (Try.prog.info? 26).map (fun i => (i.zero, i.size, i.bytes)) = some (some (.slice none 0 0), 1, 24) := by kernel_rfl
/-! ### Levels: each a spine with rows behind it -/
structure LvW (B E : Nat) (w : World) (lvs : List Value) (lss : List (List (List Int))) : Prop where
  length : lvs.length = lss.length
  lev : ∀ i, i < lss.length → ∃ a m c vs, lvs.getD i undef = .slice a m c ∧ Sp B E B E w a m c vs (lss.getD i [])
theorem LvW.mono {B B' E E' w lvs lss} (h : LvW B E w lvs lss) (hB : B' ≤ B) (hE : E ≤ E') : LvW B' E' w lvs lss :=
  ⟨h.length, fun i hi => by obtain ⟨a, m, c, vs, e, hs⟩ := h.lev i hi; exact ⟨a, m, c, vs, e, hs.mono hB hE hB hE⟩⟩
theorem LvW.keep {B E w w' lvs lss} (h : LvW B E w lvs lss) (hb : Below w.heap.size w w') : LvW B E w' lvs lss :=
  ⟨h.length, fun i hi => by obtain ⟨a, m, c, vs, e, hs⟩ := h.lev i hi; exact ⟨a, m, c, vs, e, hs.keep hb⟩⟩
theorem LvW.nil (B E : Nat) (w : World) : LvW B E w [] [] := ⟨rfl, fun i hi => absurd hi (Nat.not_lt_zero _)⟩
theorem LvW.snoc {B E w lvs lss a m c vs l} (h : LvW B E w lvs lss) (k : Sp B E B E w a m c vs l) : LvW B E w (lvs ++ [.slice a m c]) (lss ++ [l]) := by
  refine ⟨by simp [h.length], fun i hi => ?_⟩
  rw [List.length_append, List.length_singleton] at hi
  by_cases hlt : i < lss.length
  · obtain ⟨a', m', c', vs', e, hs⟩ := h.lev i hlt
    refine ⟨a', m', c', vs', ?_, ?_⟩
    · rw [List.getD_eq_getElem?_getD, List.getElem?_append_left (by rw [h.length]; exact hlt), ← List.getD_eq_getElem?_getD]; exact e
    · rw [List.getD_eq_getElem?_getD, List.getElem?_append_left hlt, ← List.getD_eq_getElem?_getD]; exact hs
  · obtain rfl : i = lss.length := by omega
    refine ⟨a, m, c, vs, ?_, ?_⟩
    · rw [List.getD_eq_getElem?_getD, List.getElem?_append_right (by rw [h.length]; exact Nat.le_refl _), h.length, Nat.sub_self]; rfl
    · rw [List.getD_eq_getElem?_getD, List.getElem?_append_right (Nat.le_refl _), Nat.sub_self]; exact k
theorem Sp.chgL {B E C D w w' ao n cap vs xss B' E' ao' n' cap' us} (h : Sp B E C D w ao n cap vs xss) (k : OwnRow B' E' w 26 ao' n' cap' us) (hc : Chg (fun q => (Value.slice ao' n' cap').ownBlock = some q) w w') : Sp B E C D w' ao n cap vs xss :=
  ⟨OwnRow.chg h.spine hc fun g _ _ hg hs => OwnRow.apart_ty h.spine k (by decide) hg hs, ⟨h.rows.length, fun i hi => by
    obtain ⟨a, m, c, e, ho⟩ := h.rows.row i hi
    exact ⟨a, m, c, e, ho.chg hc fun g _ _ hg hs => OwnRow.apart_ty ho k (by decide) hg hs⟩⟩⟩
theorem LvW.chgL {B E w w' lvs lss B' E' ao n cap us} (h : LvW B E w lvs lss) (k : OwnRow B' E' w 26 ao n cap us) (hc : Chg (fun q => (Value.slice ao n cap).ownBlock = some q) w w') : LvW B E w' lvs lss :=
  ⟨h.length, fun i hi => by obtain ⟨a, m, c, vs, e, hs⟩ := h.lev i hi; exact ⟨a, m, c, vs, e, hs.chgL k hc⟩⟩
/-- a level at a place -/
theorem lvRow {B E B' E' : Nat} {w : World} {ao : Option Addr} {n cap : Nat} {lvs : List Value} {lss : List (List (List Int))} (h : OwnRow B E w 26 ao n cap lvs) (k : LvW B' E' w lvs lss) {i : Nat} (hi : i < n) :
    ∃ b o a m c vs, ao = some ⟨b, o, none⟩ ∧ b < w.heap.size ∧ w.cell? ⟨b, o + i, none⟩ = some (.slice a m c) ∧ Sp B' E' B' E' w a m c vs (lss.getD i []) := by
  obtain ⟨b, o, e, hlt, hc⟩ := h.at.cell i hi
  obtain ⟨a, m, c, vs, e2, hs⟩ := k.lev i (by rw [← k.length, h.length]; exact hi)
  exact ⟨b, o, a, m, c, vs, e, hlt, by rw [hc i hi, e2], hs⟩

theorem levs_take_len (A : List (List (List Int))) (q : Nat) : ((A.take q).flatten).length ≤ A.flatten.length := by
  have := congrArg (fun l => l.flatten.length) (List.take_append_drop q A)
  simp only [List.flatten_append, List.length_append] at this
  omega
theorem take_snocL {xs : List (List (List Int))} {k n : Nat} (hk : k < n) (hl : xs.length = n) : xs.take (k + 1) = xs.take k ++ [xs.getD k []] := by
  subst hl
  rw [List.take_add_one, List.getElem?_eq_getElem hk, List.getD_eq_getElem?_getD, List.getElem?_eq_getElem hk]; rfl

theorem headD_getD (A : List (List Int)) : A.headD [] = A.getD 0 [] := by cases A <;> rfl
end
end Go.Proofs.Ythppkfhhidlpiaa
namespace Go.Proofs.Ythppkfhhidlpiaa
section
open Go.RowKit
set_option linter.unusedVariables false
set_option linter.unusedSimpArgs false
set_option maxRecDepth 20000

theorem headD_getD' (A : List (List Int)) : A.headD [] = A.getD 0 [] := by cases A <;> rfl
set_option maxHeartbeats 1600000 in
theorem spec_FirstPast (ao : Option Addr) (n cap : Nat) (xs : List Int) (w : World) (h : IntsAt w ao n cap xs) :
    Calls Try.prog 97 #[.slice ao n cap] w fun e w' => ∃ ao' n' cap', e = .returned (.tuple #[.slice ao' n' cap', .bool (mFirstPast xs).2]) ∧ Own w.heap.size w'.heap.size w' ao' n' cap' (mFirstPast xs).1 ∧ Below w.heap.size w w' := by
  cases hg : goodB xs
  · have hm := mFP_no1 hg
    have Hg := Lib.hid hg; clear hg
    have Hm := Lib.hid hm; clear hm
    go_enter Try.func97, Try.ntmps97
    go_wp2_with fail
    with_reducible refine (piGood_no _ _ _ _ _ h Hg.out).mono ?_
    rintro e w' ⟨rfl, rfl⟩
    go_wp2
    go_ret2
    rw [Hm.out]
    exact ⟨none, 0, 0, rfl, Own.nil _ _ _, Below.refl _ _⟩
  · have hG := good_iff.1 hg
    have hcon := fun W hh => paFree_any ao n cap xs W hh hG
    by_cases hl : loosePasts xs = []
    · have hm := mFP_no2 hl
      rw [hl] at hcon
      have Hg := Lib.hid hg; clear hg
      have Hm := Lib.hid hm; clear hm
      have HG := Lib.hid hG; clear hG
      have Hcon := Lib.hid hcon; clear hcon
      have Hl := Lib.hid hl; clear hl
      go_enter Try.func97, Try.ntmps97
      go_wp2_with fail
      with_reducible refine (piGood_yes _ _ _ _ _ h HG.out).mono ?_
      rintro e w' ⟨rfl, rfl⟩
      go_wp2_with fail
      with_reducible refine (Hcon.out w h).mono ?_
      rintro e w1 ⟨a1, n1, c1, rfl, ⟨vs1, hs1⟩, hb1⟩
      have hn1 := hs1.length
      simp only [List.length_nil] at hn1
      subst hn1
      go_wp2
      go_ret2
      rw [Hm.out]
      exact ⟨none, 0, 0, rfl, Own.nil _ _ _, hb1⟩
    · have hm := mFP_yes hg hl
      rw [headD_getD'] at hm
      have hlp := loose_len hG
      generalize loosePasts xs = L at *
      have Hg := Lib.hid hg; clear hg
      have Hm := Lib.hid hm; clear hm
      have HG := Lib.hid hG; clear hG
      have Hcon := Lib.hid hcon; clear hcon
      go_enter Try.func97, Try.ntmps97
      go_wp2_with fail
      with_reducible refine (piGood_yes _ _ _ _ _ h HG.out).mono ?_
      rintro e w' ⟨rfl, rfl⟩
      go_wp2_with fail
      with_reducible refine (Hcon.out w h).mono ?_
      rintro e w1 ⟨a1, n1, c1, rfl, ⟨vs1, hs1⟩, hb1⟩
      have hn1 := hs1.length
      have hpos : 0 < n1 := by
        rcases Nat.eq_zero_or_pos n1 with h0 | h0
        · rw [h0] at hn1; exact absurd (List.eq_nil_of_length_eq_zero hn1) hl
        · exact h0
      have hne : ((n1 : Int) == 0) = false := by simp; omega
      have hsz := hb1.size
      have Hn1 := Lib.hid hn1; clear hn1
      have Hl := Lib.hid hl; clear hl
      clear hs1
      go_wp2_with fail
      with_reducible refine (Hcon.out w1 (h.keep hb1)).mono ?_
      rintro e w2 ⟨a2, n2, c2, rfl, ⟨vs2, hs2⟩, hb2⟩
      have hn2 := hs2.length
      have hpos2 : 0 < n2 := by rw [← hn2, Hn1.out]; exact hpos
      obtain ⟨b6, o6, a6, m6, c6, rfl, hbl6, hck6, _, hrow6⟩ := hs2.getRow hpos2
      rw [Nat.add_zero] at hck6
      have Hn2 := Lib.hid hn2; clear hn2
      go_wp2
      go_ret2
      rw [Hm.out]
      exact ⟨_, _, _, rfl, hrow6.mono hsz (Nat.le_refl _), belowTrans hb1 hb2 (Nat.le_refl _)⟩

set_option maxHeartbeats 3200000 in
theorem spec_LineBack (ao : Option Addr) (n cap : Nat) (xs : List Int) (w : World) (h : IntsAt w ao n cap xs) :
    Calls Try.prog 94 #[.slice ao n cap] w fun e w' => ∃ ao' n' cap', e = .returned (.tuple #[.slice ao' n' cap', .bool (mLineBack xs).2]) ∧ RowsR w.heap.size w'.heap.size w' ao' n' cap' (mLineBack xs).1 ∧ Below w.heap.size w w' := by
  cases hg : goodB xs
  · have hm := mLine_no hg
    have Hg := Lib.hid hg; clear hg
    have Hm := Lib.hid hm; clear hm
    go_enter Try.func94, Try.ntmps94
    go_wp2_with fail
    with_reducible refine (piGood_no _ _ _ _ _ h Hg.out).mono ?_
    rintro e w' ⟨rfl, rfl⟩
    go_wp2
    go_ret2
    rw [Hm.out]
    exact ⟨none, 0, 0, rfl, RowsR.nil _ _ _, Below.refl _ _⟩
  · have hG := good_iff.1 hg
    have hm := mLine_yes hg
    have hlen := hG.len
    have hl0 := h.length
    have hcon := l1Own_any ao n cap xs w h (by omega)
    have Hg := Lib.hid hg; clear hg
    have Hm := Lib.hid hm; clear hm
    have HG := Lib.hid hG; clear hG
    have Hcon := Lib.hid hcon; clear hcon
    have Hl0 := Lib.hid hl0; clear hl0
    go_enter Try.func94, Try.ntmps94
    go_wp2_with fail
    with_reducible refine (piGood_yes _ _ _ _ _ h HG.out).mono ?_
    rintro e w' ⟨rfl, rfl⟩
    go_wp2_with fail
    with_reducible refine (Hcon.out).mono ?_
    rintro e w1 ⟨a1, c1, rfl, ho1, hb1⟩
    have h1 := OwnRows.one ho1 w.heap.size (Nat.le_refl _) hb1.size (by omega)
    obtain ⟨vs1, hs1, _⟩ := h1.sp
    have hba := hb1.alloc hb1.size (.cells #[.slice a1 n c1] 24)
    have hs1' : Sp w.heap.size (w1.alloc (.cells #[.slice a1 n c1] 24)).heap.size w.heap.size (w1.alloc (.cells #[.slice a1 n c1] 24)).heap.size (w1.alloc (.cells #[.slice a1 n c1] 24)) (some ⟨w1.heap.size, 0, none⟩) 1 1 vs1 (lineTo xs 1) := hs1.mono (Nat.le_refl _) (by simp) (Nat.le_refl _) (by simp)
    have hcon2 := paFree_any ao n cap xs _ (h.keep hba) HG.out
    generalize hW : w1.alloc (.cells #[.slice a1 n c1] 24) = W at *
    clear h1 hs1 ho1 hb1
    have Hcon2 := Lib.hid hcon2; clear hcon2
    have HW := Lib.hid hW; clear hW
    go_wp2_with fail
    rw [HW.out]
    with_reducible refine (Hcon2.out).mono ?_
    rintro e w2 ⟨a2, n2, c2, rfl, ⟨vs2, hf2⟩, hb2⟩
    have hsW := hba.size
    have hs2 := hb2.size
    have hout2 := hs1'.keep hb2
    have hb02 := belowTrans hba hb2 (Nat.le_refl _)
    clear hs1' hba hb2
    go_wp2_with fail
    go_loopw [4, 5] (fun v f wr => ∃ (t E : Nat) (a : Option Addr) (c : Nat) (vs : List Value) (a3 : Option Addr) (m3 c3 : Nat) (us : List Value), v = .slice a (t + 1) c ∧ f = .slice a3 m3 c3 ∧ w.heap.size ≤ E ∧ E ≤ wr.heap.size ∧ (∀ u, u < t → loosePasts (lineE xs u) ≠ []) ∧ Sp w.heap.size E w.heap.size wr.heap.size wr a (t + 1) c vs (lineTo xs (t + 1)) ∧ Sp E wr.heap.size E wr.heap.size wr a3 m3 c3 us (loosePasts (lineE xs t)) ∧ Below w.heap.size w wr) (fun v _ _ => match v with | .slice _ t _ => 4000 - t | _ => 0)
    case atStart => exact ⟨0, W.heap.size, _, _, vs1, a2, n2, c2, vs2, rfl, rfl, hsW, hs2, fun u hu => absurd hu (Nat.not_lt_zero _), hout2.mono (Nat.le_refl _) (Nat.le_refl _) (Nat.le_refl _) hs2, hf2, hb02⟩
    case round =>
      obtain ⟨t, E, a, c, vs, a3, m3, c3, us, rfl, rfl, hE1, hE2, hne, hv, hf, hb⟩ := hrel
      clear hout2 hf2 hb02
      have ht := line_short HG.out hne
      have hgt := lineE_good HG.out hne
      have hm3 := hf.length
      have hm38 := loose_len hgt
      by_cases hz : m3 = 0
      · have hnil : loosePasts (lineE xs t) = [] := List.eq_nil_of_length_eq_zero (by rw [hm3]; exact hz)
        have hN := lineN_unique HG.out hnil hne
        subst hz
        have Hne := Lib.hid hne; clear hne
        have Hnil := Lib.hid hnil; clear hnil
        have Hgt := Lib.hid hgt; clear hgt
        have Hm3 := Lib.hid hm3; clear hm3
        go_wp2
        go_ret2
        rw [Hm.out]
        refine ⟨_, _, _, rfl, ?_, hb⟩
        unfold lineL
        rw [← hN]
        exact hv.toR (Nat.le_refl _) (Nat.le_refl _) hE2 (Nat.le_refl _)
      · have hne2 : ∀ u, u < t + 1 → loosePasts (lineE xs u) ≠ [] := fun u hu => by
          by_cases hut : u = t
          · subst hut; intro e; rw [e] at hm3; exact hz hm3.symm
          · exact hne u (by omega)
        have hpos : (0 : Int) < m3 := by omega
        obtain ⟨b6, o6, a6, m6, c6, rfl, hbl6, hck6, hvv6, hrow6⟩ := hf.getRow (show 0 < m3 by omega)
        rw [Nat.add_zero] at hck6
        have hhd : (loosePasts (lineE xs t)).getD 0 [] = lineE xs (t + 1) := (headD_getD' _).symm
        rw [hhd] at hrow6
        have hgt2 := lineE_good HG.out hne2
        have hln := lineTo_succ xs (t + 1)
        have hsz := hb.size
        have Hne := Lib.hid hne; clear hne
        have Hgt := Lib.hid hgt; clear hgt
        have Hm3 := Lib.hid hm3; clear hm3
        have Hhd := Lib.hid hhd; clear hhd
        have Hne2 := Lib.hid hne2; clear hne2
        have Hgt2 := Lib.hid hgt2; clear hgt2
        have Hln := Lib.hid hln; clear hln
        go_wp2_with (at_builtin; refine wpList_pushSp wr rfl _ _ rfl w.heap.size E w.heap.size wr.heap.size a (t + 1) c vs _ rfl hv a6 m6 c6 (lineE xs (t + 1)) (hrow6.mono hE1 (Nat.le_refl _)) rfl (by omega) hb.size ?_)
        intro a7 c7 w7 hv7 hc7 _
        have hs7 := hc7.size
        have hb7 := hb.trans (hv.below hc7 hb.size)
        have hrow7 : Own E wr.heap.size w7 a6 m6 c6 (lineE xs (t + 1)) := hrow6.chg hc7 fun g h1 h2 h3 h4 => OwnRow.apart_ty hrow6 hv.spine (by decide) h3 h4
        have hck7 : w7.cell? ⟨b6, o6, none⟩ = some (.slice a6 m6 c6) := by
          have hf7 : OwnRow E wr.heap.size w7 24 (some ⟨b6, o6, none⟩) m3 c3 us := OwnRow.chg hf.spine hc7 fun g h1 h2 h3 h4 => by have := hv.spine.2 g h4; omega
          obtain ⟨b8, o8, e8, _, hc8⟩ := hf7.at.cell 0 (by omega)
          simp only [Option.some.injEq, Addr.mk.injEq, and_true] at e8
          obtain ⟨rfl, rfl⟩ := e8
          have := hc8 0 (by omega)
          rw [Nat.add_zero] at this
          rw [this, hvv6]
        have hcon3 := paFree_any a6 m6 c6 (lineE xs (t + 1)) w7 hrow7.at Hgt2.out
        clear hv hf hrow6 hck6 hc7
        have Hcon3 := Lib.hid hcon3; clear hcon3
        go_wp2_with fail
        with_reducible refine (Hcon3.out).mono ?_
        rintro e w9 ⟨a9, n9, c9, rfl, ⟨vs9, hf9⟩, hb9⟩
        have hs9 := hb9.size
        go_wp2
        go_roundw
        case rel => exact ⟨t + 1, w7.heap.size, a7, c7, _, a9, n9, c9, vs9, rfl, rfl, by omega, hs9, Hne2.out, by rw [Hln.out]; exact (hv7.keep hb9).mono (Nat.le_refl _) (Nat.le_refl _) (Nat.le_refl _) (by omega), hf9, belowTrans hb7 hb9 (Nat.le_refl _)⟩
        case measure => simp; omega

/-! ### Tables -/
set_option maxHeartbeats 1600000 in
theorem paCount_any (ao : Option Addr) (n cap : Nat) (xs : List Int) (k : Nat) (w : World) (h : IntsAt w ao n cap xs) (hn : n ≤ 4000) (hk : k ≤ 4000) (hx : ∀ i, 0 ≤ xs.getD i 0 ∧ xs.getD i 0 ≤ 4000) :
    Calls Try.prog 155 #[.slice ao n cap, .int .i64 k] w fun e w' => ∃ ao' m cap', e = .returned (.slice ao' m cap') ∧ Own w.heap.size w'.heap.size w' ao' m cap' (bump xs k) ∧ Below w.heap.size w w' := by
  have hl0 := h.length
  have hcon := l1Own_any ao n cap xs w h (by omega)
  have Hl0 := Lib.hid hl0; clear hl0
  have Hcon := Lib.hid hcon; clear hcon
  go_enter Try.func155, Try.ntmps155
  go_wp2_with fail
  with_reducible refine (Hcon.out).mono ?_
  rintro e w1 ⟨a1, c1, rfl, ho1, hb1⟩
  go_wp2_with fail
  go_loopw [5] (fun v wr => ∃ (p : Nat) (a : Option Addr) (c : Nat), n ≤ p ∧ p ≤ max n (k + 1) ∧ v = .slice a p c ∧ Own w.heap.size wr.heap.size wr a p c (xs ++ List.replicate (p - n) 0) ∧ Below w.heap.size w wr) (fun v _ => match v with | .slice _ p _ => 9000 - p | _ => 0)
  case atStart => exact ⟨n, a1, c1, Nat.le_refl _, by omega, rfl, by simpa using ho1, hb1⟩
  case round =>
    obtain ⟨p, a, c, hp1, hp2, rfl, hown, hb⟩ := hrel
    clear ho1 hb1
    by_cases hlt : p ≤ k
    · go_wp2_with (at_builtin; refine wpList_push wr rfl _ _ rfl w.heap.size wr.heap.size a p c _ rfl hown _ rfl (by omega) hb.size ?_)
      intro a3 c3 w3 ho3 hc3
      have hb3 := hb.trans (hown.chgBelow hc3 hb.size)
      clear hown hc3
      go_wp2
      go_roundw
      case rel => exact ⟨p + 1, a3, c3, by omega, by omega, rfl, by rw [show p + 1 - n = (p - n) + 1 by omega, List.replicate_succ']; simpa using ho3, hb3⟩
      case measure => simp; omega
    · have hpe : p - n = k + 1 - xs.length := by rw [Hl0.out]; omega
      obtain ⟨hz, hrest⟩ | ⟨g, rfl, hg, hgE, hgw⟩ := hown.cases
      · have := hown.length; omega
      · have hck := getD_cells hown k (by omega)
        have hval : (xs ++ List.replicate (p - n) 0).getD k 0 = xs.getD k 0 := getD_pad xs _ k
        have hfz := hown.frozenAt k
        have hset := Own.set hown k (xs.getD k 0 + 1)
        rw [hval] at hck
        have hxk := hx k
        have hbm : (xs ++ List.replicate (p - n) 0).set k (xs.getD k 0 + 1) = bump xs k := by unfold bump; rw [← hpe, hval]
        rw [hbm] at hset
        generalize hxk' : xs.getD k 0 = x at *
        have hkk : (k : Int) < p := by omega
        clear hown
        have Hxk' := Lib.hid hxk'; clear hxk'
        have Hval := Lib.hid hval; clear hval
        have Hset := Lib.hid hset; clear hset
        have Hbm := Lib.hid hbm; clear hbm
        have Hpe := Lib.hid hpe; clear hpe
        go_wp2
        go_ret
        exact ⟨_, _, _, rfl, (Hset.out).1.mono (Nat.le_refl _) (by simp), hb.setCell hg _⟩
set_option maxHeartbeats 1600000 in
theorem spec_PastTable (n : Int) (w : World) :
    Calls Try.prog 91 #[.int .i64 n] w fun e w' => ∃ ao' n' cap', e = .returned (.tuple #[.slice ao' n' cap', .bool (mPastTable n).2]) ∧ Own w.heap.size w'.heap.size w' ao' n' cap' (mPastTable n).1 ∧ Below w.heap.size w w' := by
  by_cases hn : 0 ≤ n ∧ n ≤ 28
  · have hin := hn
    obtain ⟨m, rfl⟩ := Int.eq_ofNat_of_zero_le hn.1
    have hm := mPT_yes m (by omega)
    have hcon := piAll_any 28 m m w (by omega) (by omega) (by omega)
    have hG : ∀ x ∈ allL m, Good x := fun x hx => (allL_good (by omega) hx).1
    have hle := allL_le (n := m) (by omega)
    change Calls _ _ _ _ (fun e w' => ∃ ao' n' cap', e = .returned (.slice ao' n' cap') ∧ OwnRows w.heap.size w'.heap.size w' ao' n' cap' (allL m) ∧ Below w.heap.size w w') at hcon
    unfold pasT at hm
    generalize allL m = A at *
    have Hn := Lib.hid hn; clear hn
    have Hm := Lib.hid hm; clear hm
    have Hin := Lib.hid hin; clear hin
    have Hcon := Lib.hid hcon; clear hcon
    have HG := Lib.hid hG; clear hG
    go_enter Try.func91, Try.ntmps91
    go_wp2_with fail
    with_reducible refine (piCards_yes _ _ Hin.out).mono ?_
    rintro e w' ⟨rfl, rfl⟩
    go_wp2_with fail
    with_reducible refine (Hcon.out).mono ?_
    rintro e w1 ⟨a1, n1, c1, rfl, ho1, hb1⟩
    have hn1 := ho1.length
    have hs1 := hb1.size
    obtain ⟨avs, hsp, _⟩ := ho1.sp
    have hn8 : n1 ≤ 3718 := by omega
    clear ho1
    have Hn1 := Lib.hid hn1; clear hn1
    go_wp2_with fail
    go_loopw [4, 14] (fun v i wr => ∃ (j : Nat) (a : Option Addr) (p c : Nat), j ≤ n1 ∧ i = .int .i64 j ∧ v = .slice a p c ∧ Own w1.heap.size wr.heap.size wr a p c (tabT pasN (A.take j)) ∧ Below w1.heap.size w1 wr) (fun _ i _ => n1 - (intOf i).toNat)
    case atStart => exact ⟨0, none, 0, 0, Nat.zero_le _, rfl, rfl, Own.nil _ _ _, Below.refl _ _⟩
    case round =>
      obtain ⟨j, a, p, c, hj, rfl, rfl, hv, hb⟩ := hrel
      by_cases hlt : j < n1
      · obtain ⟨b, oo, a3, m3, c3, rfl, hbl, hck, _, hrow⟩ := (hsp.keep hb).getRow hlt
        have hg3 := HG.out _ (getD_memR hlt Hn1.out)
        have e := tabT_snoc pasN (A.take j) (A.getD j [])
        rw [← take_snocX hlt Hn1.out] at e
        have hvl := hv.length
        have htl : (tabT pasN (A.take j)).length ≤ 30 := tabT_le fun x hx => by have := pasN_le (HG.out x (List.mem_of_mem_take hx)); omega
        have hvals : ∀ i, 0 ≤ (tabT pasN (A.take j)).getD i 0 ∧ (tabT pasN (A.take j)).getD i 0 ≤ 4000 := fun i => by
          have := tabT_val pasN (A.take j) i
          have h2 : (A.take j).length ≤ A.length := by rw [List.length_take]; omega
          have := Hn1.out
          omega
        have ht3 := pasN_le hg3
        generalize A.getD j [] = x at *
        have hcon := piPasts_any a3 m3 c3 x wr hrow.at hg3
        have hpn : (pastsL x).length = pasN x := rfl
        generalize pasN x = T at *
        generalize pastsL x = P at *
        generalize tabT pasN (A.take j) = Z at *
        have Hcon := Lib.hid hcon; clear hcon
        have E := Lib.hid e; clear e
        have Hg3 := Lib.hid hg3; clear hg3
        have Hvals := Lib.hid hvals; clear hvals
        have Hpn := Lib.hid hpn; clear hpn
        clear hrow
        go_wp2_with fail
        with_reducible refine (Hcon.out).mono ?_
        rintro e w2 ⟨a2, n2, c2, rfl, ho2, hb2⟩
        obtain rfl : n2 = T := by rw [← ho2.length]; exact Hpn.out
        have hcon2 := paCount_any a p c Z n2 w2 (hv.keep hb2).at (by omega) (by omega) Hvals.out
        have hs2 := hb2.size
        have hbs := hb.size
        have Hcon2 := Lib.hid hcon2; clear hcon2
        have Hvl := Lib.hid hvl; clear hvl
        clear ho2
        go_wp2_with fail
        with_reducible refine (Hcon2.out).mono ?_
        rintro e w4 ⟨a4, p4, c4, rfl, ho4, hb4⟩
        have hb24 := belowTrans (belowTrans hb hb2 (Nat.le_refl _)) hb4 (Nat.le_refl _)
        clear hv hb hb2 hb4
        go_wp2
        go_roundw
        case rel => exact ⟨j + 1, a4, p4, c4, by omega, by go_num, rfl, by rw [E.out]; exact ho4.mono (by omega) (Nat.le_refl _), hb24⟩
        case measure => simp [intOf]; omega
      · obtain rfl : n1 = j := by omega
        rw [take_allR Hn1.out] at hv
        go_wp2
        go_ret2
        rw [Hm.out]
        exact ⟨_, _, _, rfl, hv.mono hs1 (Nat.le_refl _), belowTrans hb1 hb (Nat.le_refl _)⟩
  · have hm := mPT_no n hn
    have Hn := Lib.hid hn; clear hn
    have Hm := Lib.hid hm; clear hm
    go_enter Try.func91, Try.ntmps91
    go_wp2_with fail
    with_reducible refine (piCards_no _ _ Hn.out).mono ?_
    rintro e w' ⟨rfl, rfl⟩
    go_wp2
    go_ret2
    rw [Hm.out]
    exact ⟨none, 0, 0, rfl, Own.nil _ _ _, Below.refl _ _⟩

set_option maxHeartbeats 1600000 in
theorem spec_IsPastOf (ao : Option Addr) (n cap : Nat) (xs : List Int) (bo : Option Addr) (m cap' : Nat) (ys : List Int) (w : World) (hx : IntsAt w ao n cap xs) (hy : IntsAt w bo m cap' ys) :
    Calls Try.prog 99 #[.slice ao n cap, .slice bo m cap'] w fun e w' => e = .returned (.tuple #[.int .i64 (mIsPastOf xs ys).1, .bool (mIsPastOf xs ys).2]) ∧ Below w.heap.size w w' := by
  cases hg : goodB xs
  · have hm := mIPO_no1 (y := ys) hg
    have Hg := Lib.hid hg; clear hg
    have Hm := Lib.hid hm; clear hm
    go_enter Try.func99, Try.ntmps99
    go_wp2_with fail
    with_reducible refine (piGood_no _ _ _ _ _ hx Hg.out).mono ?_
    rintro e w' ⟨rfl, rfl⟩
    go_wp2
    go_ret2
    rw [Hm.out]
    exact ⟨rfl, Below.refl _ _⟩
  cases hg2 : goodB ys
  · have hm := mIPO_no2 (x := xs) hg2
    have Hg := Lib.hid hg; clear hg
    have Hg2 := Lib.hid hg2; clear hg2
    have Hm := Lib.hid hm; clear hm
    go_enter Try.func99, Try.ntmps99
    go_wp2_with fail
    with_reducible refine (piGood_yes _ _ _ _ _ hx (good_iff.1 Hg.out)).mono ?_
    rintro e w' ⟨rfl, rfl⟩
    go_wp2_with fail
    with_reducible refine (piGood_no _ _ _ _ _ hy Hg2.out).mono ?_
    rintro e w' ⟨rfl, rfl⟩
    go_wp2
    go_ret2
    rw [Hm.out]
    exact ⟨rfl, Below.refl _ _⟩
  have hG := good_iff.1 hg
  have hG2 := good_iff.1 hg2
  have hyes := fun k => mIPO_yes (x := xs) (y := ys) (k := k) hg hg2
  have hno := mIPO_none (x := xs) (y := ys) hg hg2
  have hcon := orTail_any ao n cap xs w hx hG
  have hcl : (cycL xs).length = perL (endL xs) := by unfold cycL; rw [runL_length]
  have hcl8 := cycL_length hG
  have htl := (tailL_spec hG).1
  have hlen := hG.len
  have hl0 := hx.length
  generalize tailL xs = T at *
  generalize hPe : perL (endL xs) = Pe at *
  have Hg := Lib.hid hg; clear hg
  have Hg2 := Lib.hid hg2; clear hg2
  have HG := Lib.hid hG; clear hG
  have HG2 := Lib.hid hG2; clear hG2
  have Hcon := Lib.hid hcon; clear hcon
  have Hyes := Lib.hid hyes; clear hyes
  have Hno := Lib.hid hno; clear hno
  have Hcl := Lib.hid hcl; clear hcl
  have Hl0 := Lib.hid hl0; clear hl0
  have HPe := Lib.hid hPe; clear hPe
  go_enter Try.func99, Try.ntmps99
  go_wp2_with fail
  with_reducible refine (piGood_yes _ _ _ _ _ hx HG.out).mono ?_
  rintro e w' ⟨rfl, rfl⟩
  go_wp2_with fail
  with_reducible refine (piGood_yes _ _ _ _ _ hy HG2.out).mono ?_
  rintro e w' ⟨rfl, rfl⟩
  go_wp2_with fail
  with_reducible refine (Hcon.out).mono ?_
  rintro e w1 ⟨a1, n1, c1, rfl, ho1, hb1⟩
  obtain rfl : n1 = Pe := by rw [← ho1.length]; exact Hcl.out
  have hcon2 := l1Own_any ao n cap xs w1 (hx.keep hb1) (by have := Hl0.out; omega)
  have hy1 := hy.keep hb1
  clear ho1
  have Hcon2 := Lib.hid hcon2; clear hcon2
  go_wp2_with fail
  with_reducible refine (Hcon2.out).mono ?_
  rintro e w2 ⟨a2, c2, rfl, ho2, hb2⟩
  have hy2 := hy1.keep hb2
  have hn18 : n1 ≤ 8 := by have := Hcl.out; omega
  go_wp2_with fail
  go_loopw [8, 9] (fun v i wr => ∃ (k : Nat) (a : Option Addr) (p c : Nat), k ≤ T + n1 ∧ i = .int .i64 k ∧ v = .slice a p c ∧ (∀ q, q < k → stepsL q xs ≠ ys) ∧ Own w1.heap.size wr.heap.size wr a p c (stepsL k xs) ∧ Below w2.heap.size w2 wr) (fun _ i _ => 4000 - (intOf i).toNat)
  case atStart => exact ⟨0, a2, n, c2, Nat.zero_le _, rfl, rfl, fun q hq => absurd hq (Nat.not_lt_zero _), ho2, Below.refl _ _⟩
  case round =>
    obtain ⟨k, a, p, c, hk, rfl, rfl, hq, hown, hb⟩ := hrel
    clear ho2
    have hgk := stepsL_good HG.out k
    by_cases hlt : k < T + n1
    · have hltI : (k : Int) < (T : Int) + n1 := by omega
      have hsm := l1Same_any a bo p m c cap' (stepsL k xs) ys wr hown.at (hy2.keep hb)
      by_cases he : stepsL k xs = ys
      · have hm := Hyes.out k he hq hlt
        rw [decide_eq_true he] at hsm
        have Hm := Lib.hid hm; clear hm
        have Hq := Lib.hid hq; clear hq
        have Hsm := Lib.hid hsm; clear hsm
        have He := Lib.hid he; clear he
        have Hgk := Lib.hid hgk; clear hgk
        go_wp2_with fail
        with_reducible refine (Hsm.out).mono ?_
        rintro e w4 ⟨rfl, q4, rfl⟩
        go_wp2
        go_ret2
        rw [Hm.out]
        exact ⟨rfl, belowDrewN (belowTrans (belowTrans hb1 hb2 (Nat.le_refl _)) hb (Nat.le_refl _)) q4⟩
      · rw [decide_eq_false he] at hsm
        have hq2 : ∀ q, q < k + 1 → stepsL q xs ≠ ys := fun q hqk => by
          by_cases e : q = k
          · subst e; exact he
          · exact hq q (by omega)
        have Hq := Lib.hid hq; clear hq
        have Hsm := Lib.hid hsm; clear hsm
        have He := Lib.hid he; clear he
        have Hq2 := Lib.hid hq2; clear hq2
        go_wp2_with fail
        with_reducible refine (Hsm.out).mono ?_
        rintro e w4 ⟨rfl, q4, rfl⟩
        have hcon3 := piStep_any a p c _ (wr.drewN q4) (hown.drewN q4).at hgk
        have Hcon3 := Lib.hid hcon3; clear hcon3
        have Hgk := Lib.hid hgk; clear hgk
        go_wp2_with fail
        with_reducible refine (Hcon3.out).mono ?_
        rintro e w5 ⟨a5, p5, c5, rfl, ho5, hb5⟩
        have hbs := (belowDrewN hb q4).size
        have hb45 := belowTrans (belowDrewN hb q4) hb5 (Nat.le_refl _)
        have hs2 := hb2.size
        clear hown
        go_wp2
        go_roundw
        case rel => exact ⟨k + 1, a5, p5, c5, by omega, by go_num, rfl, Hq2.out, ho5.mono (by omega) (Nat.le_refl _), hb45⟩
        case measure => simp [intOf]; omega
    · obtain rfl : k = T + n1 := by omega
      have hm := Hno.out hq
      have hltI : ¬ (((T + n1 : Nat) : Int) < (T : Int) + n1) := by omega
      have Hm := Lib.hid hm; clear hm
      have Hq := Lib.hid hq; clear hq
      have Hgk := Lib.hid hgk; clear hgk
      go_wp2
      go_ret2
      rw [Hm.out]
      exact ⟨rfl, belowTrans (belowTrans hb1 hb2 (Nat.le_refl _)) hb (Nat.le_refl _)⟩
end
end Go.Proofs.Ythppkfhhidlpiaa
