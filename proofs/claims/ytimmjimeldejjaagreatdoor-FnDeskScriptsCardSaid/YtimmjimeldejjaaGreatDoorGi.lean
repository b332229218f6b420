/- Several texts in one: Pasts, PastsB. No condition. -/
import Derived.Test.YtimmjimeldejjaaGreatDoorGh
import Derived.Test.YtimmjimeldejjaaGreatDoorGk
namespace Go.Proofs.YtimmjimeldejjaaGreatDoor
section
open Go.RowKit
set_option linter.unusedVariables false
set_option linter.unusedSimpArgs false

/-! ### Order of lists -/
theorem befB_eq {xs ys : List Int} {k : Nat} (h : xs.take k = ys.take k) (hx : k ≤ xs.length) (hy : k ≤ ys.length) : befB xs ys = befB (xs.drop k) (ys.drop k) := by
  induction k generalizing xs ys with
  | zero => rfl
  | succ k ih =>
    cases xs with
    | nil => simp at hx
    | cons a t1 =>
      cases ys with
      | nil => simp at hy
      | cons b t2 =>
        simp only [List.take_succ_cons, List.cons.injEq] at h
        obtain ⟨rfl, h⟩ := h
        simp only [List.length_cons] at hx hy
        simp only [befB, if_true, List.drop_succ_cons]
        exact ih h (by omega) (by omega)
theorem befB_diff {xs ys : List Int} {k : Nat} {a b : Int} (h : xs.take k = ys.take k) (hx : k < xs.length) (hy : k < ys.length) (ha : xs.getD k 0 = a) (hb : ys.getD k 0 = b) (hab : a ≠ b) : befB xs ys = decide (b < a) := by
  rw [befB_eq h (by omega) (by omega), List.drop_eq_getElem_cons hx, List.drop_eq_getElem_cons hy]
  rw [List.getD_eq_getElem?_getD, List.getElem?_eq_getElem hx] at ha
  rw [List.getD_eq_getElem?_getD, List.getElem?_eq_getElem hy] at hb
  simp only [Option.getD_some] at ha hb
  rw [ha, hb]
  simp only [befB, if_neg hab]
theorem befB_end {xs ys : List Int} {k : Nat} (h : xs.take k = ys.take k) (hx : k ≤ xs.length) (hy : k ≤ ys.length) (hk : k = xs.length ∨ k = ys.length) : befB xs ys = decide (ys.length < xs.length) := by
  rw [befB_eq h hx hy]
  rcases hk with rfl | rfl
  · rw [List.drop_of_length_le (Nat.le_refl _)]
    simp only [befB]
    symm; rw [decide_eq_false_iff_not]; omega
  · rw [List.drop_of_length_le (l := ys) (Nat.le_refl _)]
    cases h' : xs.drop ys.length with
    | nil =>
      have := congrArg List.length h'
      simp at this
      simp only [befB]
      symm; rw [decide_eq_false_iff_not]; omega
    | cons z l =>
      have := congrArg List.length h'
      simp at this
      simp only [befB]
      symm; rw [decide_eq_true_iff]; omega

set_option maxHeartbeats 800000 in
theorem piBefore_any (ao bo : Option Addr) (n m cap cap' : Nat) (xs ys : List Int) (w : World) (hx : IntsAt w ao n cap xs) (hy : IntsAt w bo m cap' ys) :
    Calls Tryz.prog 236 #[.slice ao n cap, .slice bo m cap'] w fun e w' => e = .returned (.bool (befB xs ys)) ∧ Below w.heap.size w w' := by
  have hn' := hx.lenInt
  have hm' := hy.lenInt
  have hl1 := hx.length
  have hl2 := hy.length
  have Hl1 := Lib.hid hl1; clear hl1
  have Hl2 := Lib.hid hl2; clear hl2
  go_enter Tryz.func236, Tryz.ntmps236
  go_wp2
  go_loopw [5] (fun i wr => ∃ k : Nat, k ≤ n ∧ k ≤ m ∧ i = .int .i64 k ∧ xs.take k = ys.take k ∧ ∃ q, wr = w.drewN q) (fun i _ => n - (intOf i).toNat)
  case atStart => exact ⟨0, Nat.zero_le _, Nat.zero_le _, rfl, rfl, 0, rfl⟩
  case round =>
    obtain ⟨k, hkn, hkm, rfl, heq, hq⟩ := hrel
    have hx' : IntsAt wr ao n cap xs := by obtain ⟨q, rfl⟩ := hq; exact hx.drewN q
    have hy' : IntsAt wr bo m cap' ys := by obtain ⟨q, rfl⟩ := hq; exact hy.drewN q
    have Heq := Lib.hid heq; clear heq
    have Hq := Lib.hid hq; clear hq
    by_cases hlt : k < n
    · have hd1 : decide (k < n) = true := decide_eq_true hlt
      by_cases hlt2 : k < m
      · have hd2 : decide (k < m) = true := decide_eq_true hlt2
        obtain ⟨b1, o1, rfl, hb1, hc1⟩ := hx'.cell k hlt
        obtain ⟨b2, o2, rfl, hb2, hc2⟩ := hy'.cell k hlt2
        have hck1 := hc1 k hlt
        have hck2 := hc2 k hlt2
        clear hc1 hc2 hx' hy'
        generalize hxa : xs.getD k 0 = a at hck1
        generalize hyb : ys.getD k 0 = b at hck2
        by_cases hab : a = b
        · have hne : (a != b) = false := by simpa using hab
          have Hxa := Lib.hid hxa; clear hxa
          have Hyb := Lib.hid hyb; clear hyb
          have Hab := Lib.hid hab; clear hab
          have Hd1 := Lib.hid hd1; clear hd1
          have Hd2 := Lib.hid hd2; clear hd2
          go_wp2
          go_quiet (fail)
          go_wp2
          go_roundw
          case rel =>
            refine ⟨k + 1, by omega, by omega, by go_num, ?_, by obtain ⟨q, rfl⟩ := Hq.out; exact ⟨_, World.drewN_drewN _ _ _⟩⟩
            rw [take_snoc Hxa.out hlt Hl1.out, take_snoc Hyb.out hlt2 Hl2.out, Heq.out, Hab.out]
          case measure => simp [intOf]; omega
        · have hne : (a != b) = true := by simpa using hab
          have hr := befB_diff Heq.out (by rw [Hl1.out]; exact hlt) (by rw [Hl2.out]; exact hlt2) hxa hyb hab
          have Hxa := Lib.hid hxa; clear hxa
          have Hyb := Lib.hid hyb; clear hyb
          have Hab := Lib.hid hab; clear hab
          have Hd1 := Lib.hid hd1; clear hd1
          have Hd2 := Lib.hid hd2; clear hd2
          have Hr := Lib.hid hr; clear hr
          go_wp2
          go_quiet (fail)
          go_wp2
          go_quiet (fail)
          go_wp2
          go_ret
          obtain ⟨q, rfl⟩ := Hq.out
          exact ⟨retB Hr.out.symm, belowDrewN (belowDrewN (belowDrewN (Below.refl _ _) _) _) _⟩
      · have hd2 : decide (k < m) = false := decide_eq_false hlt2
        have hr := befB_end Heq.out (by rw [Hl1.out]; exact hkn) (by rw [Hl2.out]; exact hkm) (.inr (by rw [Hl2.out]; omega))
        rw [Hl1.out, Hl2.out] at hr
        have Hr := Lib.hid hr; clear hr
        go_wp2
        go_ret
        obtain ⟨q, rfl⟩ := Hq.out
        exact ⟨retB Hr.out.symm, belowDrewN (Below.refl _ _) _⟩
    · have hd1 : decide (k < n) = false := decide_eq_false hlt
      have hr := befB_end Heq.out (by rw [Hl1.out]; exact hkn) (by rw [Hl2.out]; exact hkm) (.inl (by rw [Hl1.out]; omega))
      rw [Hl1.out, Hl2.out] at hr
      have Hr := Lib.hid hr; clear hr
      go_wp2
      go_ret
      obtain ⟨q, rfl⟩ := Hq.out
      exact ⟨retB Hr.out.symm, belowDrewN (Below.refl _ _) _⟩

theorem addL_at {xss : List (List Int)} {ys : List Int} {k : Nat} (h1 : ∀ l ∈ xss.take k, befB l ys = true) (h2 : ∀ l, (xss.drop k).head? = some l → befB l ys = false) : addL xss ys = xss.take k ++ ys :: xss.drop k := by
  have e := List.take_append_drop k xss
  unfold addL
  conv => lhs; rw [← e]
  rw [List.takeWhile_append_of_pos h1, List.dropWhile_append_of_pos h1]
  cases h : xss.drop k with
  | nil => simp
  | cons l t =>
    have := h2 l (by rw [h]; rfl)
    rw [List.takeWhile_cons_of_neg (by rw [this]; simp), List.dropWhile_cons_of_neg (by rw [this]; simp)]
    simp

theorem OwnRow.drew {B E w ty ao n cap vs} (h : OwnRow B E w ty ao n cap vs) : OwnRow B E w.drew ty ao n cap vs := h
theorem ValsAt.drew {w ao n cap vs} (h : ValsAt w ao n cap vs) : ValsAt w.drew ao n cap vs := ⟨h.length, h.le, h.max, h.isNil, h.cell⟩
theorem valsAt_one (w : World) (v : Value) : ValsAt (w.alloc (.cells #[v] 24)) (some ⟨w.heap.size, 0, none⟩) 1 1 [v] :=
  ⟨rfl, Nat.le_refl _, by unfold maxLen; omega, (fun e => by cases e), fun j hj => ⟨_, _, rfl, by simp, fun i hi => by
    obtain rfl : i = 0 := by omega
    rw [World.cell?_alloc_at _ _ _ _ rfl]; rfl⟩⟩

set_option maxHeartbeats 3200000 in
set_option maxRecDepth 100000 in
theorem piAdd_any (B E C E' : Nat) (ao : Option Addr) (n cap : Nat) (xss : List (List Int)) (a2 : Option Addr) (m c : Nat) (ys : List Int) (w : World) (h : OwnRows B E w ao n cap xss) (hE : E ≤ w.heap.size)
    (hy : Own C E' w a2 m c ys) (hC : B ≤ C) (hE' : E' ≤ w.heap.size) (hap : ∀ g, (Value.slice a2 m c).ownBlock = some g → E ≤ g) (hn : n ≤ 1048576) (hB : B ≤ w.heap.size) :
    Calls Tryz.prog 213 #[.slice ao n cap, .slice a2 m c] w fun e w' => ∃ ao' n' cap', e = .returned (.slice ao' n' cap') ∧ OwnRows B w'.heap.size w' ao' n' cap' (addL xss ys) ∧ Below w.heap.size w w' := by
  have hn' : (n : Int) ≤ 1048576 := by omega
  have hl := Lib.hid h.length
  have hra := h.at
  have hya := hy.at
  go_enter Tryz.func213, Tryz.ntmps213
  go_wp2
  go_loopw [5] (fun i wr => ∃ k : Nat, k ≤ n ∧ i = .int .i64 k ∧ (∀ l ∈ xss.take k, befB l ys = true) ∧ Below w.heap.size w wr) (fun i _ => n - (intOf i).toNat)
  case atStart => exact ⟨0, Nat.zero_le _, rfl, by simp, Below.refl _ _⟩
  case round =>
    obtain ⟨k, hk, rfl, hall, hb⟩ := hrel
    by_cases hgo : k < n ∧ befB (xss.getD k []) ys = true
    · obtain ⟨hlt, hbef⟩ := hgo
      have hd1 : decide (k < n) = true := decide_eq_true hlt
      have hr1 := hra.keep hb
      obtain ⟨b, oo, rfl, hbl, hc⟩ := hr1.cell k hlt
      obtain ⟨a, p, q, hck, hi⟩ := hc k hlt
      clear hc hr1
      generalize hx : xss.getD k [] = x at hi hbef
      have hcon := piBefore_any a a2 p m q c x ys wr hi (hya.keep hb)
      rw [hbef] at hcon
      have Hall := Lib.hid hall; clear hall
      have Hx := Lib.hid hx; clear hx
      have Hbef := Lib.hid hbef; clear hbef
      have Hcon := Lib.hid hcon; clear hcon
      have Hd1 := Lib.hid hd1; clear hd1
      go_wp2_with fail
      with_reducible refine (Hcon.out).mono ?_
      rintro e w1 ⟨rfl, hb1⟩
      go_wp2
      go_roundw
      case rel =>
        refine ⟨k + 1, by omega, by go_num, fun z hz => ?_, belowTrans hb hb1 (Nat.le_refl _)⟩
        rw [take_snocR Hx.out hlt hl.out] at hz
        rcases List.mem_append.1 hz with h' | h'
        · exact Hall.out z h'
        · rw [List.mem_singleton.1 h']; exact Hbef.out
      case measure => simp [intOf]; omega
    · have hput : addL xss ys = xss.take k ++ ys :: xss.drop k := addL_at hall fun l hl' => by
        by_cases hlt : k < n
        · have hno : befB (xss.getD k []) ys = false := by
            cases hh : befB (xss.getD k []) ys
            · rfl
            · exact absurd ⟨hlt, hh⟩ hgo
          rw [List.head?_drop, List.getElem?_eq_getElem (by rw [hl.out]; exact hlt)] at hl'
          rw [List.getD_eq_getElem?_getD, List.getElem?_eq_getElem (by rw [hl.out]; exact hlt)] at hno
          simp only [Option.some.injEq] at hl'
          rw [← hl']; exact hno
        · rw [List.drop_of_length_le (by rw [hl.out]; omega)] at hl'
          cases hl'
      obtain ⟨vs, hv1, hv2⟩ := h.vals
      have hvl := hv1.length
      have hone := hv2.oneCell
      have hins := hv2.ins k (by have := hl.out; omega) (hy.mono (Nat.le_refl _) hE') hC hE hap
      have hva := hv1.at
      obtain ⟨b2, hsl2, hi2⟩ := slUptoR w vs hva k hk .i64
      obtain ⟨b3, hsl3, hi3⟩ := slFromR w vs hva k hk .i64
      have hone1 : ∀ u ∈ vs.take k, u.oneCell' = true := fun u hu => hone u (List.mem_of_mem_take hu)
      have hone3 : ∀ u ∈ vs.drop k, u.oneCell' = true := fun u hu => hone u (List.mem_of_mem_drop hu)
      have fin : ∀ (a5 : Option Addr) (c5 : Nat) (w5 : World), OwnRow w.heap.size w5.heap.size w5 24 a5 (k + 1 + (n - k)) c5 (vs.take k ++ .slice a2 m c :: vs.drop k) → Below w.heap.size w w5 → OwnRows B w5.heap.size w5 a5 (k + 1 + (n - k)) c5 (addL xss ys) ∧ Below w.heap.size w w5 := by
        intro a5 c5 w5 h5 hb5
        refine ⟨?_, hb5⟩
        rw [hput]
        exact ((hins.keep hb5).mono (Nat.le_refl _) hb5.size).rows (h5.mono hB (Nat.le_refl _))
      have Fin := Lib.hid fin
      clear fin hone hva
      have Hput := Lib.hid hput; clear hput
      have Hall := Lib.hid hall; clear hall
      have Hvl := Lib.hid hvl; clear hvl
      have Hins := Lib.hid hins; clear hins
      by_cases hlt : k < n
      · have hd1 : decide (k < n) = true := decide_eq_true hlt
        have hno : befB (xss.getD k []) ys = false := by
          cases hh : befB (xss.getD k []) ys
          · rfl
          · exact absurd ⟨hlt, hh⟩ hgo
        have hr1 := hra.keep hb
        obtain ⟨b, oo, rfl, hbl, hc⟩ := hr1.cell k hlt
        obtain ⟨a, p, q, hck, hi⟩ := hc k hlt
        clear hc hr1 hgo
        generalize hx : xss.getD k [] = x at hi hno
        have hcon := piBefore_any a a2 p m q c x ys wr hi (hya.keep hb)
        rw [hno] at hcon
        have Hx := Lib.hid hx; clear hx
        have Hno := Lib.hid hno; clear hno
        have Hcon := Lib.hid hcon; clear hcon
        go_wp2_with fail
        with_reducible refine (Hcon.out).mono ?_
        rintro e w0 ⟨rfl, hb0⟩
        have hbw := belowTrans hb hb0 (Nat.le_refl _)
        clear hb hb0
        have hoe : OwnRow w.heap.size (w0.heap.size + 1) (w0.alloc (.cells #[] 24)) 24 (some ⟨w0.heap.size, 0, none⟩) 0 0 [] := (OwnRow.empty w0).mono hbw.size (Nat.le_refl _)
        have hbe : Below w.heap.size w (w0.alloc (.cells #[] 24)) := hbw.alloc hbw.size _
        have hi2' := hi2.keep hbe
        go_wp2_with (at_builtin; refine wpList_catV _ rfl _ _ 185 rfl 24 _ 24 Tryz.underlying185 Tryz.infoInts rfl (by decide) w.heap.size _ _ 0 0 [] rfl hoe b2 k cap _ rfl hi2' hone1 (by omega) hbe.size ?_)
        intro a1 c1 w1 ho1 hc1
        have hb1 := hbe.trans (hoe.chgBelow hc1 hbe.size)
        try simp only [Nat.zero_add, List.nil_append] at ho1 ⊢
        clear hoe hbe hi2' hi2 hc1
        have ho1a : OwnRow w.heap.size w1.heap.size (w1.alloc (.cells #[.slice a2 m c] 24)).drew 24 a1 k c1 (vs.take k) := OwnRow.drew (ho1.keep (belowAlloc w1 _))
        have hb1a : Below w.heap.size w (w1.alloc (.cells #[.slice a2 m c] 24)).drew := belowDrewN (hb1.alloc hb1.size _) 1
        have hone2 : ValsAt (w1.alloc (.cells #[.slice a2 m c] 24)).drew (some ⟨w1.heap.size, 0, none⟩) 1 1 [.slice a2 m c] := ValsAt.drew (valsAt_one w1 _)
        go_wp2
        go_region_law (first | (refine step_catV _ rfl (.tmp 26) (.tmp 28) 185 rfl 24 _ 24 Tryz.underlying185 Tryz.infoInts rfl (by decide) w.heap.size w1.heap.size a1 k c1 (vs.take k) rfl ho1a (some ⟨w1.heap.size, 0, none⟩) 1 1 [.slice a2 m c] rfl hone2 (fun u hu => by rw [List.mem_singleton.1 hu]; rfl) (by omega) hb1a.size ?_; intro a4 c4 w4 ho4 hc4; have hb4 := hb1a.trans (ho1a.chgBelow hc4 hb1a.size)) | (refine step_catV w4 rfl (.tmp 29) (.tmp 32) 185 rfl 24 _ 24 Tryz.underlying185 Tryz.infoInts rfl (by decide) w.heap.size w4.heap.size a4 (k + 1) c4 _ rfl ho4 b3 (n - k) (cap - k) (vs.drop k) rfl (hi3.keep hb4) hone3 (by omega) hb4.size ?_; intro a5 c5 w5 ho5 hc5; have hb5 := hb4.trans (ho4.chgBelow hc5 hb4.size)))
        go_wp2
        go_ret
        have hfin := Fin.out a5 c5 w5 (by rw [List.append_assoc] at ho5; exact ho5) hb5
        exact ⟨_, _, _, rfl, hfin.1, hfin.2⟩
      · have hd1 : decide (k < n) = false := decide_eq_false hlt
        clear hgo
        have hoe : OwnRow w.heap.size (wr.heap.size + 1) (wr.alloc (.cells #[] 24)) 24 (some ⟨wr.heap.size, 0, none⟩) 0 0 [] := (OwnRow.empty wr).mono hb.size (Nat.le_refl _)
        have hbe : Below w.heap.size w (wr.alloc (.cells #[] 24)) := hb.alloc hb.size _
        have hi2' := hi2.keep hbe
        go_wp2_with (at_builtin; refine wpList_catV _ rfl _ _ 185 rfl 24 _ 24 Tryz.underlying185 Tryz.infoInts rfl (by decide) w.heap.size _ _ 0 0 [] rfl hoe b2 k cap _ rfl hi2' hone1 (by omega) hbe.size ?_)
        intro a1 c1 w1 ho1 hc1
        have hb1 := hbe.trans (hoe.chgBelow hc1 hbe.size)
        try simp only [Nat.zero_add, List.nil_append] at ho1 ⊢
        clear hoe hbe hi2' hi2 hc1
        have ho1a : OwnRow w.heap.size w1.heap.size (w1.alloc (.cells #[.slice a2 m c] 24)).drew 24 a1 k c1 (vs.take k) := OwnRow.drew (ho1.keep (belowAlloc w1 _))
        have hb1a : Below w.heap.size w (w1.alloc (.cells #[.slice a2 m c] 24)).drew := belowDrewN (hb1.alloc hb1.size _) 1
        have hone2 : ValsAt (w1.alloc (.cells #[.slice a2 m c] 24)).drew (some ⟨w1.heap.size, 0, none⟩) 1 1 [.slice a2 m c] := ValsAt.drew (valsAt_one w1 _)
        go_wp2
        go_region_law (first | (refine step_catV _ rfl (.tmp 26) (.tmp 28) 185 rfl 24 _ 24 Tryz.underlying185 Tryz.infoInts rfl (by decide) w.heap.size w1.heap.size a1 k c1 (vs.take k) rfl ho1a (some ⟨w1.heap.size, 0, none⟩) 1 1 [.slice a2 m c] rfl hone2 (fun u hu => by rw [List.mem_singleton.1 hu]; rfl) (by omega) hb1a.size ?_; intro a4 c4 w4 ho4 hc4; have hb4 := hb1a.trans (ho1a.chgBelow hc4 hb1a.size)) | (refine step_catV w4 rfl (.tmp 29) (.tmp 32) 185 rfl 24 _ 24 Tryz.underlying185 Tryz.infoInts rfl (by decide) w.heap.size w4.heap.size a4 (k + 1) c4 _ rfl ho4 b3 (n - k) (cap - k) (vs.drop k) rfl (hi3.keep hb4) hone3 (by omega) hb4.size ?_; intro a5 c5 w5 ho5 hc5; have hb5 := hb4.trans (ho4.chgBelow hc5 hb4.size)))
        go_wp2
        go_ret
        have hfin := Fin.out a5 c5 w5 (by rw [List.append_assoc] at ho5; exact ho5) hb5
        exact ⟨_, _, _, rfl, hfin.1, hfin.2⟩
end
end Go.Proofs.YtimmjimeldejjaaGreatDoor
namespace Go.Proofs.YtimmjimeldejjaaGreatDoor
section
open Go.RowKit
set_option linter.unusedVariables false
set_option linter.unusedSimpArgs false

theorem Own.ge {B E w ao n cap xs} (h : Own B E w ao n cap xs) : ∀ g, (Value.slice ao n cap).ownBlock = some g → B ≤ g := fun g hg => (h.1.lt g hg).1
theorem OwnRows.drewN {B E w ao n cap xss} (h : OwnRows B E w ao n cap xss) (q : Nat) : OwnRows B E (w.drewN q) ao n cap xss := h
theorem OwnRows.chgBelow {B E w w' ao n cap xss} (h : OwnRows B E w ao n cap xss) (hc : Chg (fun k => (Value.slice ao n cap).ownBlock = some k) w w') (hB : B ≤ w.heap.size) : Below B w w' := by
  obtain ⟨vs, h1, _⟩ := h
  exact h1.chgBelow hc hB
theorem pastsOf_take_length (xs : List Int) (k : Nat) : (pastsOf xs (ascP none (xs.take k))).length ≤ xs.length := by
  have h1 := pastsOf_length xs (ascP none (xs.take k))
  rw [asc_none] at h1 ⊢
  have h2 := ascL_length (xs.take k)
  have h3 : (xs.take k).length ≤ xs.length := by rw [List.length_take]; omega
  omega

set_option maxHeartbeats 3200000 in
set_option maxRecDepth 100000 in
theorem piPasts_any (ao : Option Addr) (n cap : Nat) (xs : List Int) (w : World) (h : IntsAt w ao n cap xs) (hg : Good xs) :
    Calls Tryz.prog 183 #[.slice ao n cap] w fun e w' => ∃ ao' n' cap', e = .returned (.slice ao' n' cap') ∧ OwnRows w.heap.size w'.heap.size w' ao' n' cap' (pastsL xs) ∧ Below w.heap.size w w' := by
  have hl := h.length
  have hlen := hg.len
  have hn28 : (n : Int) ≤ 28 := by omega
  by_cases hz : n = 0
  · have hxs : xs = [] := List.eq_nil_of_length_eq_zero (by omega)
    subst hz
    subst hxs
    have ho := OwnRows.one (w := w) (Own.nil w.heap.size (w.heap.size + 1) w) w.heap.size (Nat.le_refl _) (Nat.le_refl _) (Nat.le_refl _)
    go_enter Tryz.func183, Tryz.ntmps183
    go_wp2
    go_ret
    exact ⟨_, _, _, rfl, by simpa [pastsL] using ho, belowAlloc w _⟩
  · have hne : ((n : Int) == 0) = false := by simp; omega
    have hxs : xs ≠ [] := fun e => hz (by rw [← hl, e]; rfl)
    have Hl := Lib.hid hl; clear hl
    have Hg := Lib.hid hg; clear hg
    have Hxs := Lib.hid hxs; clear hxs
    go_enter Tryz.func183, Tryz.ntmps183
    go_wp2
    go_loopw [3, 12] (fun v i wr => ∃ (k : Nat) (a : Option Addr) (p c : Nat), k ≤ n ∧ i = .int .i64 k ∧ v = .slice a p c ∧ OwnRows w.heap.size wr.heap.size wr a p c (pastsOf xs (ascP none (xs.take k))) ∧ Below w.heap.size w wr) (fun _ i _ => n - (intOf i).toNat)
    case atStart => exact ⟨0, none, 0, 0, Nat.zero_le _, rfl, rfl, OwnRows.nil _ _ _, Below.refl _ _⟩
    case round =>
      obtain ⟨k, a, p, c, hk, rfl, rfl, hown, hb⟩ := hrel
      have hp := hown.length
      have hpl := pastsOf_take_length xs k
      rw [hp] at hpl
      have Hp := Lib.hid hp; clear hp
      by_cases hlt : k < n
      · have h1 := h.keep hb
        obtain ⟨b, oo, rfl, hbl, hc⟩ := h1.cell k hlt
        have hck := hc k hlt
        have Hc := Lib.hid hc
        clear hc
        generalize hx : xs.getD k 0 = x at hck
        have hxm := Hg.out.mem (getD_mem hx hlt Hl.out)
        by_cases hle : (n : Int) - 1 ≤ x
        · have hok : PastOk xs x := ⟨getD_mem hx hlt Hl.out, by rw [Hl.out]; exact hle⟩
          have hcon := piPast_any _ n cap xs x wr h1 Hg.out hok
          by_cases hk0 : k = 0
          · subst hk0
            have hr := pasts_round Hg.out hlt Hl.out hx hle (.inl rfl)
            simp only [Nat.add_zero] at hck
            have Hcon := Lib.hid hcon; clear hcon
            have Hr := Lib.hid hr; clear hr
            have Hok := Lib.hid hok; clear hok
            have Hx := Lib.hid hx; clear hx
            go_wp2_with fail
            with_reducible refine (Hcon.out).mono ?_
            rintro e w1 ⟨a1, n1, c1, rfl, ho1, hb1⟩
            have hadd := piAdd_any w.heap.size wr.heap.size wr.heap.size w1.heap.size _ p c _ a1 n1 c1 _ w1 (hown.keep hb1) hb1.size ho1 hb.size (Nat.le_refl _) ho1.ge (by have := Hl.out; omega) (Nat.le_trans hb.size hb1.size)
            rw [← Hr.out] at hadd
            have Hadd := Lib.hid hadd; clear hadd
            go_wp2_with fail
            with_reducible refine (Hadd.out).mono ?_
            rintro e w2 ⟨a2, n2, c2, rfl, ho2, hb2⟩
            go_wp2
            go_roundw
            case rel => exact ⟨1, a2, n2, c2, by omega, rfl, rfl, ho2, belowTrans (belowTrans hb hb1 (Nat.le_refl _)) hb2 (Nat.le_refl _)⟩
            case measure => simp [intOf]; omega
          · have hck1 := Hc.out (k - 1) (by omega)
            generalize hy : xs.getD (k - 1) 0 = y at hck1
            by_cases hyx : y = x
            · have hr := pasts_skip hlt Hl.out hx (.inr ⟨by omega, by rw [hy, hyx]⟩)
              rw [← hr] at hown
              have hneq : (y != x) = false := by simpa using hyx
              clear hcon
              have Hr := Lib.hid hr; clear hr
              have Hok := Lib.hid hok; clear hok
              have Hx := Lib.hid hx; clear hx
              have Hy := Lib.hid hy; clear hy
              have Hyx := Lib.hid hyx; clear hyx
              go_wp2
              go_roundw
              case rel => exact ⟨k + 1, a, p, c, by omega, by go_num, rfl, hown, hb⟩
              case measure => simp [intOf]; omega
            · have hr := pasts_round Hg.out hlt Hl.out hx hle (.inr ⟨y, hy, hyx⟩)
              have hneq : (y != x) = true := by simpa using hyx
              have Hcon := Lib.hid hcon; clear hcon
              have Hr := Lib.hid hr; clear hr
              have Hok := Lib.hid hok; clear hok
              have Hx := Lib.hid hx; clear hx
              have Hy := Lib.hid hy; clear hy
              have Hyx := Lib.hid hyx; clear hyx
              go_wp2_with fail
              with_reducible refine (Hcon.out).mono ?_
              rintro e w1 ⟨a1, n1, c1, rfl, ho1, hb1⟩
              have hadd := piAdd_any w.heap.size wr.heap.size wr.heap.size w1.heap.size _ p c _ a1 n1 c1 _ w1 (hown.keep hb1) hb1.size ho1 hb.size (Nat.le_refl _) ho1.ge (by have := Hl.out; omega) (Nat.le_trans hb.size hb1.size)
              rw [← Hr.out] at hadd
              have Hadd := Lib.hid hadd; clear hadd
              go_wp2_with fail
              with_reducible refine (Hadd.out).mono ?_
              rintro e w2 ⟨a2, n2, c2, rfl, ho2, hb2⟩
              go_wp2
              go_roundw
              case rel => exact ⟨k + 1, a2, n2, c2, by omega, by go_num, rfl, ho2, belowTrans (belowTrans hb hb1 (Nat.le_refl _)) hb2 (Nat.le_refl _)⟩
              case measure => simp [intOf]; omega
        · have hr := pasts_skip hlt Hl.out hx (.inl (by omega))
          rw [← hr] at hown
          have Hr := Lib.hid hr; clear hr
          have Hx := Lib.hid hx; clear hx
          go_wp2
          go_roundw
          case rel => exact ⟨k + 1, a, p, c, by omega, by go_num, rfl, hown, hb⟩
          case measure => simp [intOf]; omega
      · obtain rfl : n = k := by omega
        go_wp2
        go_ret
        rw [take_all Hl.out, asc_none] at hown
        refine ⟨_, _, _, rfl, ?_, hb⟩
        unfold pastsL
        rw [if_neg Hxs.out]
        exact hown

def mPastsOf (xs : List Int) : List (List Int) × Bool := (if goodB xs then pastsL xs else [], goodB xs)
theorem mPasts_yes {xs : List Int} (h : goodB xs = true) : mPastsOf xs = (pastsL xs, true) := by unfold mPastsOf; rw [h]; rfl
theorem mPasts_no {xs : List Int} (h : goodB xs = false) : mPastsOf xs = ([], false) := by unfold mPastsOf; rw [h]; rfl
set_option maxHeartbeats 3200000 in
set_option maxRecDepth 100000 in
theorem impl_PastsOf (ao : Option Addr) (n cap : Nat) (xs : List Int) (w : World) (h : IntsAt w ao n cap xs) :
    Calls Tryz.prog 165 #[.slice ao n cap] w fun e w' => ∃ ao' n' cap', e = .returned (.tuple #[.slice ao' n' cap', .bool (mPastsOf xs).2]) ∧ OwnRows w.heap.size w'.heap.size w' ao' n' cap' (mPastsOf xs).1 ∧ Below w.heap.size w w' := by
  cases hg : goodB xs
  · have hm := mPasts_no hg
    have Hg := Lib.hid hg; clear hg
    have Hm := Lib.hid hm; clear hm
    go_enter Tryz.func165, Tryz.ntmps165
    go_wp2_with fail
    with_reducible refine (isPiles_no _ _ _ _ _ h Hg.out).mono ?_
    rintro e w' ⟨rfl, rfl⟩
    go_wp2
    go_ret2
    rw [Hm.out]
    exact ⟨none, 0, 0, rfl, OwnRows.nil _ _ _, Below.refl _ _⟩
  · have hm := mPasts_yes hg
    have hG := good_iff.1 hg
    have hl := h.length
    have hlen := hG.len
    have hn28 : (n : Int) ≤ 28 := by omega
    by_cases hz : n = 0
    · have hxs : xs = [] := List.eq_nil_of_length_eq_zero (by omega)
      subst hz
      subst hxs
      have ho := OwnRows.one (Own.empty w) w.heap.size (Nat.le_refl _) (by simp) (by simp)
      have Hg := Lib.hid hg; clear hg
      have Hm := Lib.hid hm; clear hm
      go_enter Tryz.func165, Tryz.ntmps165
      go_wp2_with fail
      with_reducible refine (isPiles_yes _ _ _ _ _ h hG).mono ?_
      rintro e w' ⟨rfl, rfl⟩
      go_wp2
      go_ret2
      rw [Hm.out]
      refine ⟨_, _, _, rfl, ?_, (belowAlloc w _).alloc (by simp) _⟩
      have := ho.mono (Nat.le_refl _) (E' := ((w.alloc (.cells #[] 3)).alloc (.cells #[.slice (some ⟨w.heap.size, 0, none⟩) 0 0] 24)).heap.size) (by simp)
      rw [show (w.alloc (.cells #[] 3)).heap.size = w.heap.size + 1 by simp] at this
      simpa [pastsL] using this
    · have hne : ((n : Int) == 0) = false := by simp; omega
      have hxs : xs ≠ [] := fun e => hz (by rw [← hl, e]; rfl)
      have Hl := Lib.hid hl; clear hl
      have HG := Lib.hid hG; clear hG
      have Hxs := Lib.hid hxs; clear hxs
      have Hg := Lib.hid hg; clear hg
      have Hm := Lib.hid hm; clear hm
      go_enter Tryz.func165, Tryz.ntmps165
      go_wp2_with fail
      with_reducible refine (isPiles_yes _ _ _ _ _ h HG.out).mono ?_
      rintro e w' ⟨rfl, rfl⟩
      go_wp2
      go_loopw [4, 5] (fun v i wr => ∃ (k : Nat) (a : Option Addr) (p c : Nat), k ≤ n ∧ i = .int .i64 ((k : Int) - 1) ∧ v = .slice a p c ∧ OwnRows w.heap.size wr.heap.size wr a p c (pastsOf xs (ascL (xs.drop k))) ∧ Below w.heap.size w wr) (fun _ i _ => (intOf i + 1).toNat)
      case atStart => exact ⟨n, none, 0, 0, Nat.le_refl _, rfl, rfl, by rw [List.drop_of_length_le (by rw [Hl.out]; exact Nat.le_refl _)]; exact OwnRows.nil _ _ _, Below.refl _ _⟩
      case round =>
        obtain ⟨k', a, p, c, hk, rfl, rfl, hown, hb⟩ := hrel
        have hp := hown.length
        have hpl := pastsOf_length xs (ascL (xs.drop k'))
        have hpl2 := ascL_length (xs.drop k')
        rw [hp] at hpl
        rw [List.length_drop] at hpl2
        have Hp := Lib.hid hp; clear hp
        by_cases hlt' : 0 < k'
        · obtain ⟨k, rfl⟩ : ∃ k, k' = k + 1 := ⟨k' - 1, by omega⟩
          have hlt : k < n := by omega
          rw [show (((k + 1 : Nat)) : Int) - 1 = (k : Int) by omega]
          have h1 := h.keep hb
          obtain ⟨b, oo, rfl, hbl, hc⟩ := h1.cell k hlt
          have hck := hc k hlt
          have Hc := Lib.hid hc
          clear hc
          generalize hx : xs.getD k 0 = x at hck
          have hxm := HG.out.mem (getD_mem hx hlt Hl.out)
          have hdrop := ascL_drop hlt Hl.out hx
          by_cases hsame : k + 1 < n ∧ xs.getD (k + 1) 0 = x
          · rw [if_pos hsame, List.append_nil] at hdrop
            rw [← hdrop] at hown
            have hck1 := Hc.out (k + 1) hsame.1
            rw [hsame.2] at hck1
            have hlt1 := hsame.1
            have hd : decide ((k : Int) < (n : Int) - 1) = true := by simp; omega
            have hself : (x == x) = true := by simp
            have Hdrop := Lib.hid hdrop; clear hdrop
            have Hx := Lib.hid hx; clear hx
            have Hsame := Lib.hid hsame; clear hsame
            go_wp2
            go_quiet (fail)
            go_wp2
            go_roundw
            case rel => exact ⟨k, a, p, c, by omega, valI (by omega), rfl, hown.drewN _, belowDrewN hb _⟩
            case measure => simp [intOf] <;> omega
          · rw [if_neg hsame] at hdrop
            replace hdrop := congrArg (pastsOf xs) hdrop
            rw [pastsOf_append] at hdrop
            by_cases hlt1 : k + 1 < n
            · have hck1 := Hc.out (k + 1) hlt1
              generalize hy : xs.getD (k + 1) 0 = y at hck1 hsame
              have hd : decide ((k : Int) < (n : Int) - 1) = true := by simp; omega
              have hself : (x == y) = false := by
                have : ¬ x = y := fun e => hsame ⟨hlt1, e.symm⟩
                simpa using this
              have Hx := Lib.hid hx; clear hx
              have Hsame := Lib.hid hsame; clear hsame
              have Hy := Lib.hid hy; clear hy
              have hcon := fun q => pastBy_any _ n cap xs x (wr.drewN q) (h1.drewN q) HG.out
              by_cases hle : (n : Int) - 1 ≤ x
              · have hok : PastOk xs x := ⟨getD_mem Hx.out hlt Hl.out, by rw [Hl.out]; exact hle⟩
                rw [pastsOf_one, if_pos (by rw [Hl.out]; exact hle)] at hdrop
                have hmp := mPast_yes hok
                rw [hmp] at hcon
                have Hcon := Lib.hid hcon; clear hcon
                have Hdrop := Lib.hid hdrop; clear hdrop
                have Hok := Lib.hid hok; clear hok
                have Hmp := Lib.hid hmp; clear hmp
                go_wp2
                go_quiet (fail)
                go_wp2_with fail
                with_reducible refine (Hcon.out _).mono ?_
                rintro e w1 ⟨a1, n1, c1, rfl, ho1, hb1⟩
                have hown1 := (hown.drewN _).keep hb1
                have hbw := belowTrans (belowDrewN hb _) hb1 (Nat.le_refl _)
                clear hown hck
                go_wp2_with (at_builtin; refine wpList_pushR w1 rfl _ _ rfl w.heap.size wr.heap.size a p c _ rfl hown1 hb1.size a1 n1 c1 wr.heap.size _ ho1 hb.size ho1.ge rfl (by omega) hbw.size ?_)
                intro a3 c3 w3 ho3 hc3
                have hb3 : Below w.heap.size w w3 := hbw.trans (hown1.chgBelow hc3 hbw.size)
                clear hown1 hc3
                go_wp2
                go_roundw
                case rel => exact ⟨k, a3, p + 1, c3, by omega, valI (by omega), rfl, by rw [Hdrop.out]; exact ho3, hb3⟩
                case measure => simp [intOf] <;> omega
              · rw [pastsOf_one, if_neg (by rw [Hl.out]; exact hle), List.append_nil] at hdrop
                have hmp := mPast_no (xs := xs) (x := x) (fun hh => hle (by have := hh.2; rw [Hl.out] at this; exact this))
                rw [hmp] at hcon
                rw [← hdrop] at hown
                have Hcon := Lib.hid hcon; clear hcon
                have Hdrop := Lib.hid hdrop; clear hdrop
                have Hmp := Lib.hid hmp; clear hmp
                go_wp2
                go_quiet (fail)
                go_wp2_with fail
                with_reducible refine (Hcon.out _).mono ?_
                rintro e w1 ⟨a1, n1, c1, rfl, ho1, hb1⟩
                have hown1 := (hown.drewN _).keep hb1
                have hbw := belowTrans (belowDrewN hb _) hb1 (Nat.le_refl _)
                clear hown hck
                go_wp2
                go_roundw
                case rel => exact ⟨k, a, p, c, by omega, valI (by omega), rfl, hown1.mono (Nat.le_refl _) hb1.size, hbw⟩
                case measure => simp [intOf] <;> omega
            · have hd : decide ((k : Int) < (n : Int) - 1) = false := by simp; omega
              have Hx := Lib.hid hx; clear hx
              have Hsame := Lib.hid hsame; clear hsame
              have hcon := fun q => pastBy_any _ n cap xs x (wr.drewN q) (h1.drewN q) HG.out
              by_cases hle : (n : Int) - 1 ≤ x
              · have hok : PastOk xs x := ⟨getD_mem Hx.out hlt Hl.out, by rw [Hl.out]; exact hle⟩
                rw [pastsOf_one, if_pos (by rw [Hl.out]; exact hle)] at hdrop
                have hmp := mPast_yes hok
                rw [hmp] at hcon
                have Hcon := Lib.hid hcon; clear hcon
                have Hdrop := Lib.hid hdrop; clear hdrop
                have Hok := Lib.hid hok; clear hok
                have Hmp := Lib.hid hmp; clear hmp
                go_wp2
                go_quiet (fail)
                go_wp2_with fail
                with_reducible refine (Hcon.out _).mono ?_
                rintro e w1 ⟨a1, n1, c1, rfl, ho1, hb1⟩
                have hown1 := (hown.drewN _).keep hb1
                have hbw := belowTrans (belowDrewN hb _) hb1 (Nat.le_refl _)
                clear hown hck
                go_wp2_with (at_builtin; refine wpList_pushR w1 rfl _ _ rfl w.heap.size wr.heap.size a p c _ rfl hown1 hb1.size a1 n1 c1 wr.heap.size _ ho1 hb.size ho1.ge rfl (by omega) hbw.size ?_)
                intro a3 c3 w3 ho3 hc3
                have hb3 : Below w.heap.size w w3 := hbw.trans (hown1.chgBelow hc3 hbw.size)
                clear hown1 hc3
                go_wp2
                go_roundw
                case rel => exact ⟨k, a3, p + 1, c3, by omega, valI (by omega), rfl, by rw [Hdrop.out]; exact ho3, hb3⟩
                case measure => simp [intOf] <;> omega
              · rw [pastsOf_one, if_neg (by rw [Hl.out]; exact hle), List.append_nil] at hdrop
                have hmp := mPast_no (xs := xs) (x := x) (fun hh => hle (by have := hh.2; rw [Hl.out] at this; exact this))
                rw [hmp] at hcon
                rw [← hdrop] at hown
                have Hcon := Lib.hid hcon; clear hcon
                have Hdrop := Lib.hid hdrop; clear hdrop
                have Hmp := Lib.hid hmp; clear hmp
                go_wp2
                go_quiet (fail)
                go_wp2_with fail
                with_reducible refine (Hcon.out _).mono ?_
                rintro e w1 ⟨a1, n1, c1, rfl, ho1, hb1⟩
                have hown1 := (hown.drewN _).keep hb1
                have hbw := belowTrans (belowDrewN hb _) hb1 (Nat.le_refl _)
                clear hown hck
                go_wp2
                go_roundw
                case rel => exact ⟨k, a, p, c, by omega, valI (by omega), rfl, hown1.mono (Nat.le_refl _) hb1.size, hbw⟩
                case measure => simp [intOf] <;> omega
        · obtain rfl : k' = 0 := by omega
          rw [List.drop_zero] at hown
          go_wp2
          go_ret2
          rw [Hm.out]
          refine ⟨_, _, _, rfl, ?_, hb⟩
          show OwnRows _ _ _ _ _ _ (pastsL xs)
          unfold pastsL
          rw [if_neg Hxs.out]
          exact hown

def mPastCount (xs : List Int) : Int × Bool := (if goodB xs then ((pastsL xs).length : Int) else 0, goodB xs)
theorem mPastCount_yes {xs : List Int} (h : goodB xs = true) : mPastCount xs = (((pastsL xs).length : Int), true) := by unfold mPastCount; rw [h]; rfl
theorem mPastCount_no {xs : List Int} (h : goodB xs = false) : mPastCount xs = (0, false) := by unfold mPastCount; rw [h]; rfl
theorem spec_PastCount (ao : Option Addr) (n cap : Nat) (xs : List Int) (w : World) (h : IntsAt w ao n cap xs) :
    Calls Tryz.prog 135 #[.slice ao n cap] w fun e w' => e = .returned (.tuple #[.int .i64 (mPastCount xs).1, .bool (mPastCount xs).2]) ∧ Below w.heap.size w w' := by
  cases hg : goodB xs
  · have hm := mPastCount_no hg
    have Hg := Lib.hid hg; clear hg
    have Hm := Lib.hid hm; clear hm
    go_enter Tryz.func135, Tryz.ntmps135
    go_wp2_with fail
    with_reducible refine (piGood_no _ _ _ _ _ h Hg.out).mono ?_
    rintro e w' ⟨rfl, rfl⟩
    go_wp2
    go_ret2
    rw [Hm.out]
    exact ⟨rfl, Below.refl _ _⟩
  · have hm := mPastCount_yes hg
    have Hg := Lib.hid hg; clear hg
    have Hm := Lib.hid hm; clear hm
    go_enter Tryz.func135, Tryz.ntmps135
    go_wp2_with fail
    with_reducible refine (piGood_yes _ _ _ _ _ h (good_iff.1 Hg.out)).mono ?_
    rintro e w' ⟨rfl, rfl⟩
    go_wp2_with fail
    with_reducible refine (piPasts_any _ _ _ _ _ h (good_iff.1 Hg.out)).mono ?_
    rintro e w1 ⟨a1, n1, c1, rfl, ho1, hb1⟩
    have hl := ho1.length
    have Hl := Lib.hid hl; clear hl
    go_wp2
    go_ret2
    rw [Hm.out, Hl.out]
    exact ⟨rfl, hb1⟩
theorem impl_PastCount (ao : Option Addr) (n cap : Nat) (xs : List Int) (w : World) (h : IntsAt w ao n cap xs) :
    Calls Tryz.prog 110 #[.slice ao n cap] w fun e w' => e = .returned (.tuple #[.int .i64 (mPastCount xs).1, .bool (mPastCount xs).2]) ∧ Below w.heap.size w w' := by
  have hcon := impl_PastsOf ao n cap xs w h
  have hm : (((mPastsOf xs).1.length : Nat) : Int) = (mPastCount xs).1 ∧ (mPastsOf xs).2 = (mPastCount xs).2 := by
    unfold mPastCount mPastsOf
    cases goodB xs <;> exact ⟨rfl, rfl⟩
  have Hcon := Lib.hid hcon; clear hcon
  have Hm := Lib.hid hm; clear hm
  go_enter Tryz.func110, Tryz.ntmps110
  go_wp2_with fail
  with_reducible refine (Hcon.out).mono ?_
  rintro e w1 ⟨a1, n1, c1, rfl, ho1, hb1⟩
  have hl := ho1.length
  have Hl := Lib.hid hl; clear hl
  go_wp2
  go_ret2
  rw [← Hm.out.1, ← Hm.out.2, Hl.out]
  exact ⟨rfl, hb1⟩
end
end Go.Proofs.YtimmjimeldejjaaGreatDoor
