/- The model's piAdd where lists may share blocks; pasts at some steps, free pasts, levels of trees by the model. No condition. -/
import Derived.Test.YtaebdafjbkadlaaPaS
import Derived.Test.YtaebdafjbkadlaaPastsB
namespace Go.Proofs.Ytaebdafjbkadlaa
open Go.RowKit
set_option linter.unusedVariables false
set_option linter.unusedSimpArgs false
set_option maxRecDepth 20000

set_option maxHeartbeats 3200000 in
set_option maxRecDepth 100000 in
theorem piAddW_any (B E C D : Nat) (ao : Option Addr) (n cap : Nat) (vs : List Value) (xss : List (List Int)) (a2 : Option Addr) (m c : Nat) (ys : List Int) (w : World) (h : Sp B E C D w ao n cap vs xss)
    (hy : Own C D w a2 m c ys) (hn : n ≤ 1048576) :
    Calls Try.prog 98 #[.slice ao n cap, .slice a2 m c] w fun e w' => ∃ ao' n' cap', e = .returned (.slice ao' n' cap') ∧ (∃ vs', Sp w.heap.size w'.heap.size C D w' ao' n' cap' vs' (addL xss ys)) ∧ Below w.heap.size w w' := by
  have hn' : (n : Int) ≤ 1048576 := by omega
  have hl := Lib.hid h.length
  have hra := h.at
  have hya := hy.at
  go_enter Try.func98, Try.ntmps98
  go_wp2
  go_loopw [5] (fun i wr => ∃ k : Nat, k ≤ n ∧ i = .int .i64 k ∧ (∀ l ∈ xss.take k, befB l ys = true) ∧ Below w.heap.size w wr) (fun i _ => n - (intOf i).toNat)
  case atStart => exact ⟨0, Nat.zero_le _, rfl, by simp, Below.refl _ _⟩
  case round =>
    obtain ⟨k, hk, rfl, hall, hb⟩ := hrel
    by_cases hgo : k < n ∧ befB (xss.getD k []) ys = true
    · obtain ⟨hlt, hbef⟩ := hgo
      have hd1 : decide (k < n) = true := decide_eq_true hlt
      have hr1 := hra.keep hb
      obtain ⟨b, oo, rfl, hbl, hc⟩ := hr1.cell k hlt
      obtain ⟨a, p, q, hck, hi⟩ := hc k hlt
      clear hc hr1
      generalize hx : xss.getD k [] = x at hi hbef
      have hcon := piBefore_any a a2 p m q c x ys wr hi (hya.keep hb)
      rw [hbef] at hcon
      have Hall := Lib.hid hall; clear hall
      have Hx := Lib.hid hx; clear hx
      have Hbef := Lib.hid hbef; clear hbef
      have Hcon := Lib.hid hcon; clear hcon
      have Hd1 := Lib.hid hd1; clear hd1
      go_wp2_with fail
      with_reducible refine (Hcon.out).mono ?_
      rintro e w1 ⟨rfl, hb1⟩
      go_wp2
      go_roundw
      case rel =>
        refine ⟨k + 1, by omega, by go_num, fun z hz => ?_, belowTrans hb hb1 (Nat.le_refl _)⟩
        rw [take_snocR Hx.out hlt hl.out] at hz
        rcases List.mem_append.1 hz with h' | h'
        · exact Hall.out z h'
        · rw [List.mem_singleton.1 h']; exact Hbef.out
      case measure => simp [intOf]; omega
    · have hput : addL xss ys = xss.take k ++ ys :: xss.drop k := addL_at hall fun l hl' => by
        by_cases hlt : k < n
        · have hno : befB (xss.getD k []) ys = false := by
            cases hh : befB (xss.getD k []) ys
            · rfl
            · exact absurd ⟨hlt, hh⟩ hgo
          rw [List.head?_drop, List.getElem?_eq_getElem (by rw [hl.out]; exact hlt)] at hl'
          rw [List.getD_eq_getElem?_getD, List.getElem?_eq_getElem (by rw [hl.out]; exact hlt)] at hno
          simp only [Option.some.injEq] at hl'
          rw [← hl']; exact hno
        · rw [List.drop_of_length_le (by rw [hl.out]; omega)] at hl'
          cases hl'
      have hv1 := h.spine
      have hv2 := h.rows
      have hvl := hv1.length
      have hone := hv2.oneCell
      have hins : RowsW C D w (vs.take k ++ .slice a2 m c :: vs.drop k) (xss.take k ++ ys :: xss.drop k) := (hv2.take k).append ((RowsW.one hy).append (hv2.drop k))
      have hva := hv1.at
      obtain ⟨b2, hsl2, hi2⟩ := slUptoR w vs hva k hk .i64
      obtain ⟨b3, hsl3, hi3⟩ := slFromR w vs hva k hk .i64
      have hone1 : ∀ u ∈ vs.take k, u.oneCell' = true := fun u hu => hone u (List.mem_of_mem_take hu)
      have hone3 : ∀ u ∈ vs.drop k, u.oneCell' = true := fun u hu => hone u (List.mem_of_mem_drop hu)
      have fin : ∀ (a5 : Option Addr) (c5 : Nat) (w5 : World), OwnRow w.heap.size w5.heap.size w5 31 a5 (k + 1 + (n - k)) c5 (vs.take k ++ .slice a2 m c :: vs.drop k) → Below w.heap.size w w5 → (∃ vs', Sp w.heap.size w5.heap.size C D w5 a5 (k + 1 + (n - k)) c5 vs' (addL xss ys)) ∧ Below w.heap.size w w5 := by
        intro a5 c5 w5 h5 hb5
        refine ⟨⟨_, h5, ?_⟩, hb5⟩
        rw [hput]
        exact hins.keep hb5
      have Fin := Lib.hid fin
      clear fin hone hva
      have Hput := Lib.hid hput; clear hput
      have Hall := Lib.hid hall; clear hall
      have Hvl := Lib.hid hvl; clear hvl
      have Hins := Lib.hid hins; clear hins
      by_cases hlt : k < n
      · have hd1 : decide (k < n) = true := decide_eq_true hlt
        have hno : befB (xss.getD k []) ys = false := by
          cases hh : befB (xss.getD k []) ys
          · rfl
          · exact absurd ⟨hlt, hh⟩ hgo
        have hr1 := hra.keep hb
        obtain ⟨b, oo, rfl, hbl, hc⟩ := hr1.cell k hlt
        obtain ⟨a, p, q, hck, hi⟩ := hc k hlt
        clear hc hr1 hgo
        generalize hx : xss.getD k [] = x at hi hno
        have hcon := piBefore_any a a2 p m q c x ys wr hi (hya.keep hb)
        rw [hno] at hcon
        have Hx := Lib.hid hx; clear hx
        have Hno := Lib.hid hno; clear hno
        have Hcon := Lib.hid hcon; clear hcon
        go_wp2_with fail
        with_reducible refine (Hcon.out).mono ?_
        rintro e w0 ⟨rfl, hb0⟩
        have hbw := belowTrans hb hb0 (Nat.le_refl _)
        clear hb hb0
        have hoe : OwnRow w.heap.size (w0.heap.size + 1) (w0.alloc (.cells #[] 31)) 31 (some ⟨w0.heap.size, 0, none⟩) 0 0 [] := (OwnRow.empty w0).mono hbw.size (Nat.le_refl _)
        have hbe : Below w.heap.size w (w0.alloc (.cells #[] 31)) := hbw.alloc hbw.size _
        have hi2' := hi2.keep hbe
        go_wp2_with (at_builtin; refine wpList_catV _ rfl _ _ 25 rfl 31 _ 24 Try.underlying25 Try.infoInts rfl (by decide) w.heap.size _ _ 0 0 [] rfl hoe b2 k cap _ rfl hi2' hone1 (by omega) hbe.size ?_)
        intro a1 c1 w1 ho1 hc1
        have hb1 := hbe.trans (hoe.chgBelow hc1 hbe.size)
        try simp only [Nat.zero_add, List.nil_append] at ho1 ⊢
        clear hoe hbe hi2' hi2 hc1
        have ho1a : OwnRow w.heap.size w1.heap.size (w1.alloc (.cells #[.slice a2 m c] 31)).drew 31 a1 k c1 (vs.take k) := OwnRow.drew (ho1.keep (belowAlloc w1 _))
        have hb1a : Below w.heap.size w (w1.alloc (.cells #[.slice a2 m c] 31)).drew := belowDrewN (hb1.alloc hb1.size _) 1
        have hone2 : ValsAt (w1.alloc (.cells #[.slice a2 m c] 31)).drew (some ⟨w1.heap.size, 0, none⟩) 1 1 [.slice a2 m c] := ValsAt.drew (valsAt_one w1 _)
        go_wp2
        go_region_law (first | (refine step_catV _ rfl (.tmp 26) (.tmp 28) 25 rfl 31 _ 24 Try.underlying25 Try.infoInts rfl (by decide) w.heap.size w1.heap.size a1 k c1 (vs.take k) rfl ho1a (some ⟨w1.heap.size, 0, none⟩) 1 1 [.slice a2 m c] rfl hone2 (fun u hu => by rw [List.mem_singleton.1 hu]; rfl) (by omega) hb1a.size ?_; intro a4 c4 w4 ho4 hc4; have hb4 := hb1a.trans (ho1a.chgBelow hc4 hb1a.size)) | (refine step_catV w4 rfl (.tmp 29) (.tmp 32) 25 rfl 31 _ 24 Try.underlying25 Try.infoInts rfl (by decide) w.heap.size w4.heap.size a4 (k + 1) c4 _ rfl ho4 b3 (n - k) (cap - k) (vs.drop k) rfl (hi3.keep hb4) hone3 (by omega) hb4.size ?_; intro a5 c5 w5 ho5 hc5; have hb5 := hb4.trans (ho4.chgBelow hc5 hb4.size)))
        go_wp2
        go_ret
        have hfin := Fin.out a5 c5 w5 (by rw [List.append_assoc] at ho5; exact ho5) hb5
        exact ⟨_, _, _, rfl, hfin.1, hfin.2⟩
      · have hd1 : decide (k < n) = false := decide_eq_false hlt
        clear hgo
        have hoe : OwnRow w.heap.size (wr.heap.size + 1) (wr.alloc (.cells #[] 31)) 31 (some ⟨wr.heap.size, 0, none⟩) 0 0 [] := (OwnRow.empty wr).mono hb.size (Nat.le_refl _)
        have hbe : Below w.heap.size w (wr.alloc (.cells #[] 31)) := hb.alloc hb.size _
        have hi2' := hi2.keep hbe
        go_wp2_with (at_builtin; refine wpList_catV _ rfl _ _ 25 rfl 31 _ 24 Try.underlying25 Try.infoInts rfl (by decide) w.heap.size _ _ 0 0 [] rfl hoe b2 k cap _ rfl hi2' hone1 (by omega) hbe.size ?_)
        intro a1 c1 w1 ho1 hc1
        have hb1 := hbe.trans (hoe.chgBelow hc1 hbe.size)
        try simp only [Nat.zero_add, List.nil_append] at ho1 ⊢
        clear hoe hbe hi2' hi2 hc1
        have ho1a : OwnRow w.heap.size w1.heap.size (w1.alloc (.cells #[.slice a2 m c] 31)).drew 31 a1 k c1 (vs.take k) := OwnRow.drew (ho1.keep (belowAlloc w1 _))
        have hb1a : Below w.heap.size w (w1.alloc (.cells #[.slice a2 m c] 31)).drew := belowDrewN (hb1.alloc hb1.size _) 1
        have hone2 : ValsAt (w1.alloc (.cells #[.slice a2 m c] 31)).drew (some ⟨w1.heap.size, 0, none⟩) 1 1 [.slice a2 m c] := ValsAt.drew (valsAt_one w1 _)
        go_wp2
        go_region_law (first | (refine step_catV _ rfl (.tmp 26) (.tmp 28) 25 rfl 31 _ 24 Try.underlying25 Try.infoInts rfl (by decide) w.heap.size w1.heap.size a1 k c1 (vs.take k) rfl ho1a (some ⟨w1.heap.size, 0, none⟩) 1 1 [.slice a2 m c] rfl hone2 (fun u hu => by rw [List.mem_singleton.1 hu]; rfl) (by omega) hb1a.size ?_; intro a4 c4 w4 ho4 hc4; have hb4 := hb1a.trans (ho1a.chgBelow hc4 hb1a.size)) | (refine step_catV w4 rfl (.tmp 29) (.tmp 32) 25 rfl 31 _ 24 Try.underlying25 Try.infoInts rfl (by decide) w.heap.size w4.heap.size a4 (k + 1) c4 _ rfl ho4 b3 (n - k) (cap - k) (vs.drop k) rfl (hi3.keep hb4) hone3 (by omega) hb4.size ?_; intro a5 c5 w5 ho5 hc5; have hb5 := hb4.trans (ho4.chgBelow hc5 hb4.size)))
        go_wp2
        go_ret
        have hfin := Fin.out a5 c5 w5 (by rw [List.append_assoc] at ho5; exact ho5) hb5
        exact ⟨_, _, _, rfl, hfin.1, hfin.2⟩

theorem flatMap_snocX (f : List Int → List (List Int)) {A : List (List Int)} {q m : Nat} (hq : q < m) (hl : A.length = m) : (A.take (q + 1)).flatMap f = (A.take q).flatMap f ++ f (A.getD q []) := by
  rw [take_snocX hq hl, List.flatMap_append]; simp
theorem flatMap_take_le (f : List Int → List (List Int)) (A : List (List Int)) (q : Nat) : ((A.take q).flatMap f).length ≤ (A.flatMap f).length := by
  have := congrArg (fun l => (l.flatMap f).length) (List.take_append_drop q A)
  simp only [List.flatMap_append, List.length_append] at this
  omega

set_option maxHeartbeats 1600000 in
theorem paFree_any (ao : Option Addr) (n cap : Nat) (xs : List Int) (w : World) (h : IntsAt w ao n cap xs) (hg : Good xs) :
    Calls Try.prog 88 #[.slice ao n cap] w fun e w' => ∃ ao' m c, e = .returned (.slice ao' m c) ∧ (∃ vs, Sp w.heap.size w'.heap.size w.heap.size w'.heap.size w' ao' m c vs (loosePasts xs)) ∧ Below w.heap.size w w' := by
  have hcon := piPasts_any ao n cap xs w h hg
  have hG : ∀ x ∈ pastsL xs, Good x := fun x hx => ((mem_pastsG hg).1 hx).1
  have hle : (pastsL xs).length ≤ 29 := by have := pastsL_length xs; have := hg.len; omega
  unfold loosePasts
  generalize pastsL xs = A at *
  have Hcon := Lib.hid hcon; clear hcon
  have HG := Lib.hid hG; clear hG
  go_enter Try.func88, Try.ntmps88
  go_wp2_with fail
  with_reducible refine (Hcon.out).mono ?_
  rintro e w1 ⟨a1, n1, c1, rfl, ho1, hb1⟩
  have hn1 := ho1.length
  have hs1 := hb1.size
  obtain ⟨avs, hsp, _⟩ := ho1.sp
  have hn8 : n1 ≤ 3718 := by omega
  clear ho1
  have Hn1 := Lib.hid hn1; clear hn1
  go_wp2_with fail
  go_loopw [3, 9] (fun v i wr => ∃ (j : Nat) (a : Option Addr) (p c : Nat) (vs : List Value), j ≤ n1 ∧ p ≤ j ∧ i = .int .i64 j ∧ v = .slice a p c ∧ Sp w1.heap.size wr.heap.size w.heap.size w1.heap.size wr a p c vs ((A.take j).filter fun p => !cycB p) ∧ Below w1.heap.size w1 wr) (fun _ i _ => n1 - (intOf i).toNat)
  case atStart => exact ⟨0, none, 0, 0, [], Nat.zero_le _, Nat.le_refl _, rfl, rfl, Sp.nil _ _ _ _ _, Below.refl _ _⟩
  case round =>
    obtain ⟨j, a, p, c, vs, hj, hp, rfl, rfl, hv, hb⟩ := hrel
    by_cases hlt : j < n1
    · obtain ⟨b, oo, a3, m3, c3, rfl, hbl, hck, _, hrow⟩ := (hsp.keep hb).getRow hlt
      have hg3 := HG.out _ (getD_memR hlt Hn1.out)
      have e := filter_snoc (fun p => !cycB p) (A.take j) (A.getD j [])
      rw [← take_snocX hlt Hn1.out] at e
      generalize A.getD j [] = x at *
      have hcon := orCyclic_any a3 m3 c3 x wr hrow.at hg3
      cases hgb : cycB x
      · rw [hgb] at hcon
        simp only [hgb, if_true, Bool.false_eq_true, if_false, List.append_nil, Bool.not_true, Bool.not_false] at e
        have Hcon := Lib.hid hcon; clear hcon
        have E := Lib.hid e; clear e
        have Hg3 := Lib.hid hg3; clear hg3
        have Hgb := Lib.hid hgb; clear hgb
        go_wp2_with fail
        with_reducible refine (Hcon.out).mono ?_
        rintro e w2 ⟨rfl, rfl⟩
        go_wp2_with (at_builtin; refine wpList_pushSp wr rfl _ _ rfl w1.heap.size wr.heap.size w.heap.size w1.heap.size a p c vs _ rfl hv a3 m3 c3 x hrow rfl (by omega) hb.size ?_)
        intro a4 c4 w4 hv4 hc4 _
        have hb4 := hb.trans (hv.below hc4 hb.size)
        clear hv hc4
        go_wp2
        go_roundw
        case rel => exact ⟨j + 1, a4, p + 1, c4, _, by omega, by omega, by go_num, rfl, by rw [E.out]; exact hv4, hb4⟩
        case measure => simp [intOf]; omega
      · rw [hgb] at hcon
        simp only [hgb, if_true, Bool.false_eq_true, if_false, List.append_nil, Bool.not_true, Bool.not_false] at e
        have Hcon := Lib.hid hcon; clear hcon
        have E := Lib.hid e; clear e
        have Hg3 := Lib.hid hg3; clear hg3
        have Hgb := Lib.hid hgb; clear hgb
        go_wp2_with fail
        with_reducible refine (Hcon.out).mono ?_
        rintro e w2 ⟨rfl, rfl⟩
        go_wp2
        go_roundw
        case rel => exact ⟨j + 1, a, p, c, vs, by omega, by omega, by go_num, rfl, by rw [E.out]; simpa using hv, hb⟩
        case measure => simp [intOf]; omega
    · obtain rfl : n1 = j := by omega
      rw [take_allR Hn1.out] at hv
      have hs := hb.size
      go_wp2
      go_ret
      exact ⟨_, _, _, rfl, ⟨_, hv.mono (by omega) (by omega) (by omega) (by omega)⟩, belowTrans hb1 hb (Nat.le_refl _)⟩

set_option maxHeartbeats 3200000 in
theorem paAt_any (ao : Option Addr) (n cap : Nat) (xs : List Int) (k : Nat) (w : World) (h : IntsAt w ao n cap xs) (hg : Good xs) (hk : k ≤ 60) :
    Calls Try.prog 93 #[.slice ao n cap, .int .i64 k] w fun e w' => ∃ a m c, e = .returned (.slice a m c) ∧ RowsR w.heap.size w'.heap.size w' a m c (atL xs k) ∧ Below w.heap.size w w' := by
  have hlen := hg.len
  have hl0 := h.length
  have hcon := l1Own_any ao n cap xs w h (by omega)
  have Hg := Lib.hid hg; clear hg
  have Hl0 := Lib.hid hl0; clear hl0
  have Hcon := Lib.hid hcon; clear hcon
  go_enter Try.func93, Try.ntmps93
  go_wp2_with fail
  with_reducible refine (Hcon.out).mono ?_
  rintro e w1 ⟨a1, c1, rfl, ho1, hb1⟩
  have h1 := OwnRows.one ho1 w.heap.size (Nat.le_refl _) hb1.size (by omega)
  obtain ⟨vs1, hs1, _⟩ := h1.sp
  have hba := hb1.alloc hb1.size (.cells #[.slice a1 n c1] 31)
  have hs1' : Sp w.heap.size (w1.alloc (.cells #[.slice a1 n c1] 31)).heap.size w.heap.size (w1.alloc (.cells #[.slice a1 n c1] 31)).heap.size (w1.alloc (.cells #[.slice a1 n c1] 31)) (some ⟨w1.heap.size, 0, none⟩) 1 1 vs1 (atL xs 0) := hs1.mono (Nat.le_refl _) (by simp) (Nat.le_refl _) (by simp)
  clear h1 hs1 ho1 hb1
  go_wp2_with fail
  go_loopw [1, 5] (fun i v wr => ∃ (j : Nat) (a : Option Addr) (m c : Nat) (vs : List Value), j ≤ k ∧ i = .int .i64 (k - j : Nat) ∧ v = .slice a m c ∧ Sp w.heap.size wr.heap.size w.heap.size wr.heap.size wr a m c vs (atL xs j) ∧ Below w.heap.size w wr) (fun i _ _ => (intOf i).toNat)
  case atStart => exact ⟨0, _, _, _, _, Nat.zero_le _, rfl, rfl, hs1', hba⟩
  case round =>
    obtain ⟨j, a, m, c, vs, hj, rfl, rfl, hv, hb⟩ := hrel
    clear hs1' hba
    by_cases hlt : j < k
    · have hkj : 0 < k - j := by omega
      have hm := hv.length
      have hle := atL_le Hg.out j
      have hle2 := atL_le Hg.out (j + 1)
      have e := atL_succ (xs := xs) j
      have hGa : ∀ x ∈ atL xs j, Good x := fun x hx => atL_good Hg.out hx
      rw [e, srt_length] at hle2
      generalize atL xs j = A at *
      have hm8 : m ≤ 3718 := by omega
      have E := Lib.hid e; clear e
      have Hm := Lib.hid hm; clear hm
      have HGa := Lib.hid hGa; clear hGa
      obtain ⟨wo, hwo⟩ : ∃ wo : World, wo = wr := ⟨_, rfl⟩
      subst hwo
      have hwosz := hb.size
      go_wp2_with fail
      go_loopw [6, 20] (fun v i wr => ∃ (q : Nat) (a' : Option Addr) (p c' : Nat) (us : List Value), q ≤ m ∧ i = .int .i64 q ∧ v = .slice a' p c' ∧ Sp w.heap.size wr.heap.size w.heap.size wr.heap.size wr a' p c' us (srt ((A.take q).flatMap pastsL)) ∧ Below wo.heap.size wo wr) (fun _ i _ => m - (intOf i).toNat)
      case atStart => exact ⟨0, none, 0, 0, [], Nat.zero_le _, rfl, rfl, Sp.nil _ _ _ _ _, Below.refl _ _⟩
      case round =>
        obtain ⟨q, a', p, c', us, hq, rfl, rfl, hu, hb2⟩ := hrel
        by_cases hlt2 : q < m
        · obtain ⟨b, oo, a3, m3, c3, rfl, hbl, hck, _, hrow⟩ := (hv.keep hb2).getRow hlt2
          have hg3 := HGa.out _ (getD_memR hlt2 Hm.out)
          have e3 := flatMap_snocX pastsL hlt2 Hm.out
          have hle3 := flatMap_take_le pastsL A (q + 1)
          rw [e3, List.length_append] at hle3
          generalize A.getD q [] = x at *
          have hcon := piPasts_any a3 m3 c3 x wr hrow.at hg3
          generalize hP : pastsL x = P at *
          generalize hL : (A.take q).flatMap pastsL = L at *
          have Hcon := Lib.hid hcon; clear hcon
          have E3 := Lib.hid e3; clear e3
          have Hg3 := Lib.hid hg3; clear hg3
          have HP := Lib.hid hP; clear hP
          have HL := Lib.hid hL; clear hL
          clear hrow
          go_wp2_with fail
          with_reducible refine (Hcon.out).mono ?_
          rintro e wi ⟨a4, n4, c4, rfl, ho4, hb4⟩
          have hn4 := ho4.length
          obtain ⟨ps, hps, _⟩ := ho4.sp
          have hu2 := (hu.keep hb4).mono (Nat.le_refl _) hb4.size (Nat.le_refl _) hb4.size
          have hwr := hb2.size
          have hwi := hb4.size
          have hb24 := belowTrans hb2 hb4 (Nat.le_refl _)
          clear ho4 hu hb2 hb4
          have Hn4 := Lib.hid hn4; clear hn4
          have hn48 : n4 ≤ 3718 := by have := Hn4.out; omega
          go_wp2_with fail
          go_loopw [6, 27] (fun v i wx => ∃ (r : Nat) (a5 : Option Addr) (p5 c5 : Nat) (us5 : List Value), r ≤ n4 ∧ i = .int .i64 r ∧ v = .slice a5 p5 c5 ∧ Sp w.heap.size wx.heap.size w.heap.size wx.heap.size wx a5 p5 c5 us5 (srt (L ++ P.take r)) ∧ Below wi.heap.size wi wx) (fun _ i _ => n4 - (intOf i).toNat)
          case atStart => exact ⟨0, a', p, c', us, Nat.zero_le _, rfl, rfl, by simpa using hu2, Below.refl _ _⟩
          case round =>
            obtain ⟨r, a5, p5, c5, us5, hr, rfl, rfl, h5, hb5⟩ := hrel
            clear hu2
            by_cases hlt3 : r < n4
            · obtain ⟨b6, o6, a6, m6, c6, rfl, hbl6, hck6, _, hrow6⟩ := (hps.keep hb5).getRow hlt3
              have e6 := srt_snoc (L ++ P.take r) (P.getD r [])
              rw [List.append_assoc, ← take_snocX hlt3 Hn4.out] at e6
              have hl5 := h5.length
              rw [srt_length, List.length_append, List.length_take] at hl5
              have hs5 := hb5.size
              have hp5 : p5 ≤ 1048576 := by have := Hn4.out; omega
              generalize P.getD r [] = y at *
              generalize srt (L ++ P.take r) = Z at *
              have hcon := piAddW_any _ _ _ _ _ _ _ _ _ a6 m6 c6 y _ h5 (hrow6.mono (by omega) (by omega)) hp5
              have Hcon := Lib.hid hcon; clear hcon
              have E6 := Lib.hid e6; clear e6
              have Hl5 := Lib.hid hl5; clear hl5
              go_wp2_with fail
              with_reducible refine (Hcon.out).mono ?_
              rintro e w7 ⟨a7, n7, c7, rfl, ⟨vs7, ho7⟩, hb7⟩
              have hs7 := hb7.size
              have h7 := ho7.mono (show w.heap.size ≤ _ by omega) (Nat.le_refl _) (Nat.le_refl _) hs7
              have hb57 := belowTrans hb5 hb7 (Nat.le_refl _)
              clear ho7 h5 hb5 hb7 hrow6
              go_wp2
              go_roundw
              case rel => exact ⟨r + 1, a7, n7, c7, vs7, by omega, by go_num, rfl, by rw [E6.out]; exact h7, hb57⟩
              case measure => simp [intOf]; omega
            · obtain rfl : n4 = r := by omega
              rw [take_allR Hn4.out, ← E3.out] at h5
              go_wp2
              go_roundw
              case rel => exact ⟨q + 1, a5, p5, c5, us5, by omega, by go_num, rfl, h5, belowTrans hb24 hb5 (Nat.le_refl _)⟩
              case measure => simp [intOf]; omega
        · obtain rfl : m = q := by omega
          rw [take_allR Hm.out, ← E.out] at hu
          go_wp2
          go_roundw
          case rel => exact ⟨j + 1, a', p, c', us, by omega, valI (by omega), rfl, hu, belowTrans hb hb2 (Nat.le_refl _)⟩
          case measure => simp [intOf]; omega
    · obtain rfl : k = j := by omega
      go_wp2
      go_ret
      exact ⟨_, _, _, rfl, hv.toR (Nat.le_refl _) (Nat.le_refl _) (Nat.le_refl _) (Nat.le_refl _), hb⟩
theorem spec_PastsAt (ao : Option Addr) (n cap : Nat) (xs : List Int) (k : Int) (w : World) (h : IntsAt w ao n cap xs) :
    Calls Try.prog 51 #[.slice ao n cap, .int .i64 k] w fun e w' => ∃ ao' n' cap', e = .returned (.tuple #[.slice ao' n' cap', .bool (mPastsAt xs k).2]) ∧ RowsR w.heap.size w'.heap.size w' ao' n' cap' (mPastsAt xs k).1 ∧ Below w.heap.size w w' := by
  cases hg : goodB xs
  · have hm := mPA_no1 (k := k) hg
    have Hg := Lib.hid hg; clear hg
    have Hm := Lib.hid hm; clear hm
    go_enter Try.func51, Try.ntmps51
    go_wp2_with fail
    with_reducible refine (piGood_no _ _ _ _ _ h Hg.out).mono ?_
    rintro e w' ⟨rfl, rfl⟩
    go_wp2
    go_ret2
    rw [Hm.out]
    exact ⟨none, 0, 0, rfl, RowsR.nil _ _ _, Below.refl _ _⟩
  · by_cases hk : 0 ≤ k ∧ k ≤ 60
    · obtain ⟨q, rfl⟩ := Int.eq_ofNat_of_zero_le hk.1
      have hq : q ≤ 60 := by omega
      have hm := mPA_yes hg hq
      have Hg := Lib.hid hg; clear hg
      have Hm := Lib.hid hm; clear hm
      have Hk := Lib.hid hk; clear hk
      go_enter Try.func51, Try.ntmps51
      go_wp2_with fail
      with_reducible refine (piGood_yes _ _ _ _ _ h (good_iff.1 Hg.out)).mono ?_
      rintro e w' ⟨rfl, rfl⟩
      go_wp2_with fail
      with_reducible refine (l1In_yes _ _ _ _ Hk.out).mono ?_
      rintro e w' ⟨rfl, rfl⟩
      go_wp2_with fail
      with_reducible refine (paAt_any _ _ _ _ _ _ h (good_iff.1 Hg.out) hq).mono ?_
      rintro e w' ⟨ao', n', cap', rfl, ho, hb⟩
      go_wp2
      go_ret2
      rw [Hm.out]
      exact ⟨_, _, _, rfl, ho, hb⟩
    · have hm := mPA_no2 (xs := xs) hk
      have Hg := Lib.hid hg; clear hg
      have Hm := Lib.hid hm; clear hm
      have Hk := Lib.hid hk; clear hk
      go_enter Try.func51, Try.ntmps51
      go_wp2_with fail
      with_reducible refine (piGood_yes _ _ _ _ _ h (good_iff.1 Hg.out)).mono ?_
      rintro e w' ⟨rfl, rfl⟩
      go_wp2_with fail
      with_reducible refine (l1In_no _ _ _ _ Hk.out).mono ?_
      rintro e w' ⟨rfl, rfl⟩
      go_wp2
      go_ret2
      rw [Hm.out]
      exact ⟨none, 0, 0, rfl, RowsR.nil _ _ _, Below.refl _ _⟩
theorem spec_CountAt (ao : Option Addr) (n cap : Nat) (xs : List Int) (k : Int) (w : World) (h : IntsAt w ao n cap xs) :
    Calls Try.prog 54 #[.slice ao n cap, .int .i64 k] w fun e w' => e = .returned (.tuple #[.int .i64 (mCountAt xs k).1, .bool (mCountAt xs k).2]) ∧ Below w.heap.size w w' := by
  cases hg : goodB xs
  · have hm := mCA_no1 (k := k) hg
    have Hg := Lib.hid hg; clear hg
    have Hm := Lib.hid hm; clear hm
    go_enter Try.func54, Try.ntmps54
    go_wp2_with fail
    with_reducible refine (piGood_no _ _ _ _ _ h Hg.out).mono ?_
    rintro e w' ⟨rfl, rfl⟩
    go_wp2
    go_ret2
    rw [Hm.out]
    exact ⟨rfl, Below.refl _ _⟩
  · by_cases hk : 0 ≤ k ∧ k ≤ 60
    · obtain ⟨q, rfl⟩ := Int.eq_ofNat_of_zero_le hk.1
      have hq : q ≤ 60 := by omega
      have hm := mCA_yes hg hq
      have Hg := Lib.hid hg; clear hg
      have Hm := Lib.hid hm; clear hm
      have Hk := Lib.hid hk; clear hk
      go_enter Try.func54, Try.ntmps54
      go_wp2_with fail
      with_reducible refine (piGood_yes _ _ _ _ _ h (good_iff.1 Hg.out)).mono ?_
      rintro e w' ⟨rfl, rfl⟩
      go_wp2_with fail
      with_reducible refine (l1In_yes _ _ _ _ Hk.out).mono ?_
      rintro e w' ⟨rfl, rfl⟩
      go_wp2_with fail
      with_reducible refine (paAt_any _ _ _ _ _ _ h (good_iff.1 Hg.out) hq).mono ?_
      rintro e w' ⟨ao', n', cap', rfl, ho, hb⟩
      have hl := ho.length
      have Hl := Lib.hid hl; clear hl
      go_wp2
      go_ret2
      rw [Hm.out]
      exact ⟨by rw [Hl.out]; rfl, hb⟩
    · have hm := mCA_no2 (xs := xs) hk
      have Hg := Lib.hid hg; clear hg
      have Hm := Lib.hid hm; clear hm
      have Hk := Lib.hid hk; clear hk
      go_enter Try.func54, Try.ntmps54
      go_wp2_with fail
      with_reducible refine (piGood_yes _ _ _ _ _ h (good_iff.1 Hg.out)).mono ?_
      rintro e w' ⟨rfl, rfl⟩
      go_wp2_with fail
      with_reducible refine (l1In_no _ _ _ _ Hk.out).mono ?_
      rintro e w' ⟨rfl, rfl⟩
      go_wp2
      go_ret2
      rw [Hm.out]
      exact ⟨rfl, Below.refl _ _⟩
end Go.Proofs.Ytaebdafjbkadlaa
