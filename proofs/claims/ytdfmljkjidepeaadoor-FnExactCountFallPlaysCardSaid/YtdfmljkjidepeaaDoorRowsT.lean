/- The model's piAdd where lists may share blocks; lists, place by place. No condition. -/
import Derived.Test.YtdfmljkjidepeaaDoorRowsR
import Derived.Test.YtdfmljkjidepeaaDoorGi
namespace Go.Proofs.YtdfmljkjidepeaaDoor
open Go.RowKit
set_option linter.unusedVariables false
set_option linter.unusedSimpArgs false
set_option maxRecDepth 20000

theorem take_snocX {xs : List (List Int)} {k n : Nat} (hk : k < n) (hl : xs.length = n) : xs.take (k + 1) = xs.take k ++ [xs.getD k []] := take_snocR rfl hk hl
theorem getD_memR {xs : List (List Int)} {k n : Nat} (hk : k < n) (hl : xs.length = n) : xs.getD k [] ∈ xs := by
  subst hl
  rw [List.getD_eq_getElem?_getD, List.getElem?_eq_getElem hk]; exact List.getElem_mem _
set_option maxHeartbeats 3200000 in
set_option maxRecDepth 100000 in
theorem piAddW_any (B E C D : Nat) (ao : Option Addr) (n cap : Nat) (vs : List Value) (xss : List (List Int)) (a2 : Option Addr) (m c : Nat) (ys : List Int) (w : World) (h : Sp B E C D w ao n cap vs xss)
    (hy : Own C D w a2 m c ys) (hn : n ≤ 1048576) :
    Calls Tryd.prog 19 #[.slice ao n cap, .slice a2 m c] w fun e w' => ∃ ao' n' cap', e = .returned (.slice ao' n' cap') ∧ (∃ vs', Sp w.heap.size w'.heap.size C D w' ao' n' cap' vs' (addL xss ys)) ∧ Below w.heap.size w w' := by
  have hn' : (n : Int) ≤ 1048576 := by omega
  have hl := Lib.hid h.length
  have hra := h.at
  have hya := hy.at
  go_enter Tryd.func19, Tryd.ntmps19
  go_wp2
  go_loopw [5] (fun i wr => ∃ k : Nat, k ≤ n ∧ i = .int .i64 k ∧ (∀ l ∈ xss.take k, befB l ys = true) ∧ Below w.heap.size w wr) (fun i _ => n - (intOf i).toNat)
  case atStart => exact ⟨0, Nat.zero_le _, rfl, by simp, Below.refl _ _⟩
  case round =>
    obtain ⟨k, hk, rfl, hall, hb⟩ := hrel
    by_cases hgo : k < n ∧ befB (xss.getD k []) ys = true
    · obtain ⟨hlt, hbef⟩ := hgo
      have hd1 : decide (k < n) = true := decide_eq_true hlt
      have hr1 := hra.keep hb
      obtain ⟨b, oo, rfl, hbl, hc⟩ := hr1.cell k hlt
      obtain ⟨a, p, q, hck, hi⟩ := hc k hlt
      clear hc hr1
      generalize hx : xss.getD k [] = x at hi hbef
      have hcon := piBefore_any a a2 p m q c x ys wr hi (hya.keep hb)
      rw [hbef] at hcon
      have Hall := Lib.hid hall; clear hall
      have Hx := Lib.hid hx; clear hx
      have Hbef := Lib.hid hbef; clear hbef
      have Hcon := Lib.hid hcon; clear hcon
      have Hd1 := Lib.hid hd1; clear hd1
      go_wp2_with fail
      with_reducible refine (Hcon.out).mono ?_
      rintro e w1 ⟨rfl, hb1⟩
      go_wp2
      go_roundw
      case rel =>
        refine ⟨k + 1, by omega, by go_num, fun z hz => ?_, belowTrans hb hb1 (Nat.le_refl _)⟩
        rw [take_snocR Hx.out hlt hl.out] at hz
        rcases List.mem_append.1 hz with h' | h'
        · exact Hall.out z h'
        · rw [List.mem_singleton.1 h']; exact Hbef.out
      case measure => simp [intOf]; omega
    · have hput : addL xss ys = xss.take k ++ ys :: xss.drop k := addL_at hall fun l hl' => by
        by_cases hlt : k < n
        · have hno : befB (xss.getD k []) ys = false := by
            cases hh : befB (xss.getD k []) ys
            · rfl
            · exact absurd ⟨hlt, hh⟩ hgo
          rw [List.head?_drop, List.getElem?_eq_getElem (by rw [hl.out]; exact hlt)] at hl'
          rw [List.getD_eq_getElem?_getD, List.getElem?_eq_getElem (by rw [hl.out]; exact hlt)] at hno
          simp only [Option.some.injEq] at hl'
          rw [← hl']; exact hno
        · rw [List.drop_of_length_le (by rw [hl.out]; omega)] at hl'
          cases hl'
      have hv1 := h.spine
      have hv2 := h.rows
      have hvl := hv1.length
      have hone := hv2.oneCell
      have hins : RowsW C D w (vs.take k ++ .slice a2 m c :: vs.drop k) (xss.take k ++ ys :: xss.drop k) := (hv2.take k).append ((RowsW.one hy).append (hv2.drop k))
      have hva := hv1.at
      obtain ⟨b2, hsl2, hi2⟩ := slUptoR w vs hva k hk .i64
      obtain ⟨b3, hsl3, hi3⟩ := slFromR w vs hva k hk .i64
      have hone1 : ∀ u ∈ vs.take k, u.oneCell' = true := fun u hu => hone u (List.mem_of_mem_take hu)
      have hone3 : ∀ u ∈ vs.drop k, u.oneCell' = true := fun u hu => hone u (List.mem_of_mem_drop hu)
      have fin : ∀ (a5 : Option Addr) (c5 : Nat) (w5 : World), OwnRow w.heap.size w5.heap.size w5 22 a5 (k + 1 + (n - k)) c5 (vs.take k ++ .slice a2 m c :: vs.drop k) → Below w.heap.size w w5 → (∃ vs', Sp w.heap.size w5.heap.size C D w5 a5 (k + 1 + (n - k)) c5 vs' (addL xss ys)) ∧ Below w.heap.size w w5 := by
        intro a5 c5 w5 h5 hb5
        refine ⟨⟨_, h5, ?_⟩, hb5⟩
        rw [hput]
        exact hins.keep hb5
      have Fin := Lib.hid fin
      clear fin hone hva
      have Hput := Lib.hid hput; clear hput
      have Hall := Lib.hid hall; clear hall
      have Hvl := Lib.hid hvl; clear hvl
      have Hins := Lib.hid hins; clear hins
      by_cases hlt : k < n
      · have hd1 : decide (k < n) = true := decide_eq_true hlt
        have hno : befB (xss.getD k []) ys = false := by
          cases hh : befB (xss.getD k []) ys
          · rfl
          · exact absurd ⟨hlt, hh⟩ hgo
        have hr1 := hra.keep hb
        obtain ⟨b, oo, rfl, hbl, hc⟩ := hr1.cell k hlt
        obtain ⟨a, p, q, hck, hi⟩ := hc k hlt
        clear hc hr1 hgo
        generalize hx : xss.getD k [] = x at hi hno
        have hcon := piBefore_any a a2 p m q c x ys wr hi (hya.keep hb)
        rw [hno] at hcon
        have Hx := Lib.hid hx; clear hx
        have Hno := Lib.hid hno; clear hno
        have Hcon := Lib.hid hcon; clear hcon
        go_wp2_with fail
        with_reducible refine (Hcon.out).mono ?_
        rintro e w0 ⟨rfl, hb0⟩
        have hbw := belowTrans hb hb0 (Nat.le_refl _)
        clear hb hb0
        have hoe : OwnRow w.heap.size (w0.heap.size + 1) (w0.alloc (.cells #[] 22)) 22 (some ⟨w0.heap.size, 0, none⟩) 0 0 [] := (OwnRow.empty w0).mono hbw.size (Nat.le_refl _)
        have hbe : Below w.heap.size w (w0.alloc (.cells #[] 22)) := hbw.alloc hbw.size _
        have hi2' := hi2.keep hbe
        go_wp2_with (at_builtin; refine wpList_catV _ rfl _ _ 28 rfl 22 _ 24 Tryd.underlying28 Tryd.infoInts rfl (by decide) w.heap.size _ _ 0 0 [] rfl hoe b2 k cap _ rfl hi2' hone1 (by omega) hbe.size ?_)
        intro a1 c1 w1 ho1 hc1
        have hb1 := hbe.trans (hoe.chgBelow hc1 hbe.size)
        try simp only [Nat.zero_add, List.nil_append] at ho1 ⊢
        clear hoe hbe hi2' hi2 hc1
        have ho1a : OwnRow w.heap.size w1.heap.size (w1.alloc (.cells #[.slice a2 m c] 22)).drew 22 a1 k c1 (vs.take k) := OwnRow.drew (ho1.keep (belowAlloc w1 _))
        have hb1a : Below w.heap.size w (w1.alloc (.cells #[.slice a2 m c] 22)).drew := belowDrewN (hb1.alloc hb1.size _) 1
        have hone2 : ValsAt (w1.alloc (.cells #[.slice a2 m c] 22)).drew (some ⟨w1.heap.size, 0, none⟩) 1 1 [.slice a2 m c] := ValsAt.drew (valsAt_one w1 _)
        go_wp2
        go_region_law (first | (refine step_catV _ rfl (.tmp 26) (.tmp 28) 28 rfl 22 _ 24 Tryd.underlying28 Tryd.infoInts rfl (by decide) w.heap.size w1.heap.size a1 k c1 (vs.take k) rfl ho1a (some ⟨w1.heap.size, 0, none⟩) 1 1 [.slice a2 m c] rfl hone2 (fun u hu => by rw [List.mem_singleton.1 hu]; rfl) (by omega) hb1a.size ?_; intro a4 c4 w4 ho4 hc4; have hb4 := hb1a.trans (ho1a.chgBelow hc4 hb1a.size)) | (refine step_catV w4 rfl (.tmp 29) (.tmp 32) 28 rfl 22 _ 24 Tryd.underlying28 Tryd.infoInts rfl (by decide) w.heap.size w4.heap.size a4 (k + 1) c4 _ rfl ho4 b3 (n - k) (cap - k) (vs.drop k) rfl (hi3.keep hb4) hone3 (by omega) hb4.size ?_; intro a5 c5 w5 ho5 hc5; have hb5 := hb4.trans (ho4.chgBelow hc5 hb4.size)))
        go_wp2
        go_ret
        have hfin := Fin.out a5 c5 w5 (by rw [List.append_assoc] at ho5; exact ho5) hb5
        exact ⟨_, _, _, rfl, hfin.1, hfin.2⟩
      · have hd1 : decide (k < n) = false := decide_eq_false hlt
        clear hgo
        have hoe : OwnRow w.heap.size (wr.heap.size + 1) (wr.alloc (.cells #[] 22)) 22 (some ⟨wr.heap.size, 0, none⟩) 0 0 [] := (OwnRow.empty wr).mono hb.size (Nat.le_refl _)
        have hbe : Below w.heap.size w (wr.alloc (.cells #[] 22)) := hb.alloc hb.size _
        have hi2' := hi2.keep hbe
        go_wp2_with (at_builtin; refine wpList_catV _ rfl _ _ 28 rfl 22 _ 24 Tryd.underlying28 Tryd.infoInts rfl (by decide) w.heap.size _ _ 0 0 [] rfl hoe b2 k cap _ rfl hi2' hone1 (by omega) hbe.size ?_)
        intro a1 c1 w1 ho1 hc1
        have hb1 := hbe.trans (hoe.chgBelow hc1 hbe.size)
        try simp only [Nat.zero_add, List.nil_append] at ho1 ⊢
        clear hoe hbe hi2' hi2 hc1
        have ho1a : OwnRow w.heap.size w1.heap.size (w1.alloc (.cells #[.slice a2 m c] 22)).drew 22 a1 k c1 (vs.take k) := OwnRow.drew (ho1.keep (belowAlloc w1 _))
        have hb1a : Below w.heap.size w (w1.alloc (.cells #[.slice a2 m c] 22)).drew := belowDrewN (hb1.alloc hb1.size _) 1
        have hone2 : ValsAt (w1.alloc (.cells #[.slice a2 m c] 22)).drew (some ⟨w1.heap.size, 0, none⟩) 1 1 [.slice a2 m c] := ValsAt.drew (valsAt_one w1 _)
        go_wp2
        go_region_law (first | (refine step_catV _ rfl (.tmp 26) (.tmp 28) 28 rfl 22 _ 24 Tryd.underlying28 Tryd.infoInts rfl (by decide) w.heap.size w1.heap.size a1 k c1 (vs.take k) rfl ho1a (some ⟨w1.heap.size, 0, none⟩) 1 1 [.slice a2 m c] rfl hone2 (fun u hu => by rw [List.mem_singleton.1 hu]; rfl) (by omega) hb1a.size ?_; intro a4 c4 w4 ho4 hc4; have hb4 := hb1a.trans (ho1a.chgBelow hc4 hb1a.size)) | (refine step_catV w4 rfl (.tmp 29) (.tmp 32) 28 rfl 22 _ 24 Tryd.underlying28 Tryd.infoInts rfl (by decide) w.heap.size w4.heap.size a4 (k + 1) c4 _ rfl ho4 b3 (n - k) (cap - k) (vs.drop k) rfl (hi3.keep hb4) hone3 (by omega) hb4.size ?_; intro a5 c5 w5 ho5 hc5; have hb5 := hb4.trans (ho4.chgBelow hc5 hb4.size)))
        go_wp2
        go_ret
        have hfin := Fin.out a5 c5 w5 (by rw [List.append_assoc] at ho5; exact ho5) hb5
        exact ⟨_, _, _, rfl, hfin.1, hfin.2⟩

theorem flatMap_snocX (f : List Int → List (List Int)) {A : List (List Int)} {q m : Nat} (hq : q < m) (hl : A.length = m) : (A.take (q + 1)).flatMap f = (A.take q).flatMap f ++ f (A.getD q []) := by
  rw [take_snocX hq hl, List.flatMap_append]; simp
theorem flatMap_take_le (f : List Int → List (List Int)) (A : List (List Int)) (q : Nat) : ((A.take q).flatMap f).length ≤ (A.flatMap f).length := by
  have := congrArg (fun l => (l.flatMap f).length) (List.take_append_drop q A)
  simp only [List.flatMap_append, List.length_append] at this
  omega

end Go.Proofs.YtdfmljkjidepeaaDoor
