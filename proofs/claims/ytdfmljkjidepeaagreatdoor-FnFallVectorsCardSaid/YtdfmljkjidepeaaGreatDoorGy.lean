/- Several texts in one: RowsT, RowsC, SrtI. No condition. -/
import Derived.Test.YtdfmljkjidepeaaGreatDoorRowsR
import Derived.Test.YtdfmljkjidepeaaGreatDoorGi
import Derived.Lib.SliceRun
import Derived.Test.YtdfmljkjidepeaaGreatDoorCmp
import Derived.Test.YtdfmljkjidepeaaGreatDoorSort
import Derived.Test.YtdfmljkjidepeaaGreatDoorGa
namespace Go.Proofs.YtdfmljkjidepeaaGreatDoor
section
open Go.RowKit
set_option linter.unusedVariables false
set_option linter.unusedSimpArgs false
set_option maxRecDepth 20000

theorem take_snocX {xs : List (List Int)} {k n : Nat} (hk : k < n) (hl : xs.length = n) : xs.take (k + 1) = xs.take k ++ [xs.getD k []] := take_snocR rfl hk hl
theorem getD_memR {xs : List (List Int)} {k n : Nat} (hk : k < n) (hl : xs.length = n) : xs.getD k [] ∈ xs := by
  subst hl
  rw [List.getD_eq_getElem?_getD, List.getElem?_eq_getElem hk]; exact List.getElem_mem _
set_option maxHeartbeats 3200000 in
set_option maxRecDepth 100000 in
theorem piAddW_any (B E C D : Nat) (ao : Option Addr) (n cap : Nat) (vs : List Value) (xss : List (List Int)) (a2 : Option Addr) (m c : Nat) (ys : List Int) (w : World) (h : Sp B E C D w ao n cap vs xss)
    (hy : Own C D w a2 m c ys) (hn : n ≤ 1048576) :
    Calls Tryz.prog 60 #[.slice ao n cap, .slice a2 m c] w fun e w' => ∃ ao' n' cap', e = .returned (.slice ao' n' cap') ∧ (∃ vs', Sp w.heap.size w'.heap.size C D w' ao' n' cap' vs' (addL xss ys)) ∧ Below w.heap.size w w' := by
  have hn' : (n : Int) ≤ 1048576 := by omega
  have hl := Lib.hid h.length
  have hra := h.at
  have hya := hy.at
  go_enter Tryz.func60, Tryz.ntmps60
  go_wp2
  go_loopw [5] (fun i wr => ∃ k : Nat, k ≤ n ∧ i = .int .i64 k ∧ (∀ l ∈ xss.take k, befB l ys = true) ∧ Below w.heap.size w wr) (fun i _ => n - (intOf i).toNat)
  case atStart => exact ⟨0, Nat.zero_le _, rfl, by simp, Below.refl _ _⟩
  case round =>
    obtain ⟨k, hk, rfl, hall, hb⟩ := hrel
    by_cases hgo : k < n ∧ befB (xss.getD k []) ys = true
    · obtain ⟨hlt, hbef⟩ := hgo
      have hd1 : decide (k < n) = true := decide_eq_true hlt
      have hr1 := hra.keep hb
      obtain ⟨b, oo, rfl, hbl, hc⟩ := hr1.cell k hlt
      obtain ⟨a, p, q, hck, hi⟩ := hc k hlt
      clear hc hr1
      generalize hx : xss.getD k [] = x at hi hbef
      have hcon := piBefore_any a a2 p m q c x ys wr hi (hya.keep hb)
      rw [hbef] at hcon
      have Hall := Lib.hid hall; clear hall
      have Hx := Lib.hid hx; clear hx
      have Hbef := Lib.hid hbef; clear hbef
      have Hcon := Lib.hid hcon; clear hcon
      have Hd1 := Lib.hid hd1; clear hd1
      go_wp2_with fail
      with_reducible refine (Hcon.out).mono ?_
      rintro e w1 ⟨rfl, hb1⟩
      go_wp2
      go_roundw
      case rel =>
        refine ⟨k + 1, by omega, by go_num, fun z hz => ?_, belowTrans hb hb1 (Nat.le_refl _)⟩
        rw [take_snocR Hx.out hlt hl.out] at hz
        rcases List.mem_append.1 hz with h' | h'
        · exact Hall.out z h'
        · rw [List.mem_singleton.1 h']; exact Hbef.out
      case measure => simp [intOf]; omega
    · have hput : addL xss ys = xss.take k ++ ys :: xss.drop k := addL_at hall fun l hl' => by
        by_cases hlt : k < n
        · have hno : befB (xss.getD k []) ys = false := by
            cases hh : befB (xss.getD k []) ys
            · rfl
            · exact absurd ⟨hlt, hh⟩ hgo
          rw [List.head?_drop, List.getElem?_eq_getElem (by rw [hl.out]; exact hlt)] at hl'
          rw [List.getD_eq_getElem?_getD, List.getElem?_eq_getElem (by rw [hl.out]; exact hlt)] at hno
          simp only [Option.some.injEq] at hl'
          rw [← hl']; exact hno
        · rw [List.drop_of_length_le (by rw [hl.out]; omega)] at hl'
          cases hl'
      have hv1 := h.spine
      have hv2 := h.rows
      have hvl := hv1.length
      have hone := hv2.oneCell
      have hins : RowsW C D w (vs.take k ++ .slice a2 m c :: vs.drop k) (xss.take k ++ ys :: xss.drop k) := (hv2.take k).append ((RowsW.one hy).append (hv2.drop k))
      have hva := hv1.at
      obtain ⟨b2, hsl2, hi2⟩ := slUptoR w vs hva k hk .i64
      obtain ⟨b3, hsl3, hi3⟩ := slFromR w vs hva k hk .i64
      have hone1 : ∀ u ∈ vs.take k, u.oneCell' = true := fun u hu => hone u (List.mem_of_mem_take hu)
      have hone3 : ∀ u ∈ vs.drop k, u.oneCell' = true := fun u hu => hone u (List.mem_of_mem_drop hu)
      have fin : ∀ (a5 : Option Addr) (c5 : Nat) (w5 : World), OwnRow w.heap.size w5.heap.size w5 24 a5 (k + 1 + (n - k)) c5 (vs.take k ++ .slice a2 m c :: vs.drop k) → Below w.heap.size w w5 → (∃ vs', Sp w.heap.size w5.heap.size C D w5 a5 (k + 1 + (n - k)) c5 vs' (addL xss ys)) ∧ Below w.heap.size w w5 := by
        intro a5 c5 w5 h5 hb5
        refine ⟨⟨_, h5, ?_⟩, hb5⟩
        rw [hput]
        exact hins.keep hb5
      have Fin := Lib.hid fin
      clear fin hone hva
      have Hput := Lib.hid hput; clear hput
      have Hall := Lib.hid hall; clear hall
      have Hvl := Lib.hid hvl; clear hvl
      have Hins := Lib.hid hins; clear hins
      by_cases hlt : k < n
      · have hd1 : decide (k < n) = true := decide_eq_true hlt
        have hno : befB (xss.getD k []) ys = false := by
          cases hh : befB (xss.getD k []) ys
          · rfl
          · exact absurd ⟨hlt, hh⟩ hgo
        have hr1 := hra.keep hb
        obtain ⟨b, oo, rfl, hbl, hc⟩ := hr1.cell k hlt
        obtain ⟨a, p, q, hck, hi⟩ := hc k hlt
        clear hc hr1 hgo
        generalize hx : xss.getD k [] = x at hi hno
        have hcon := piBefore_any a a2 p m q c x ys wr hi (hya.keep hb)
        rw [hno] at hcon
        have Hx := Lib.hid hx; clear hx
        have Hno := Lib.hid hno; clear hno
        have Hcon := Lib.hid hcon; clear hcon
        go_wp2_with fail
        with_reducible refine (Hcon.out).mono ?_
        rintro e w0 ⟨rfl, hb0⟩
        have hbw := belowTrans hb hb0 (Nat.le_refl _)
        clear hb hb0
        have hoe : OwnRow w.heap.size (w0.heap.size + 1) (w0.alloc (.cells #[] 24)) 24 (some ⟨w0.heap.size, 0, none⟩) 0 0 [] := (OwnRow.empty w0).mono hbw.size (Nat.le_refl _)
        have hbe : Below w.heap.size w (w0.alloc (.cells #[] 24)) := hbw.alloc hbw.size _
        have hi2' := hi2.keep hbe
        go_wp2_with (at_builtin; refine wpList_catV _ rfl _ _ 45 rfl 24 _ 24 Tryz.underlying45 Tryz.infoInts rfl (by decide) w.heap.size _ _ 0 0 [] rfl hoe b2 k cap _ rfl hi2' hone1 (by omega) hbe.size ?_)
        intro a1 c1 w1 ho1 hc1
        have hb1 := hbe.trans (hoe.chgBelow hc1 hbe.size)
        try simp only [Nat.zero_add, List.nil_append] at ho1 ⊢
        clear hoe hbe hi2' hi2 hc1
        have ho1a : OwnRow w.heap.size w1.heap.size (w1.alloc (.cells #[.slice a2 m c] 24)).drew 24 a1 k c1 (vs.take k) := OwnRow.drew (ho1.keep (belowAlloc w1 _))
        have hb1a : Below w.heap.size w (w1.alloc (.cells #[.slice a2 m c] 24)).drew := belowDrewN (hb1.alloc hb1.size _) 1
        have hone2 : ValsAt (w1.alloc (.cells #[.slice a2 m c] 24)).drew (some ⟨w1.heap.size, 0, none⟩) 1 1 [.slice a2 m c] := ValsAt.drew (valsAt_one w1 _)
        go_wp2
        go_region_law (first | (refine step_catV _ rfl (.tmp 26) (.tmp 28) 45 rfl 24 _ 24 Tryz.underlying45 Tryz.infoInts rfl (by decide) w.heap.size w1.heap.size a1 k c1 (vs.take k) rfl ho1a (some ⟨w1.heap.size, 0, none⟩) 1 1 [.slice a2 m c] rfl hone2 (fun u hu => by rw [List.mem_singleton.1 hu]; rfl) (by omega) hb1a.size ?_; intro a4 c4 w4 ho4 hc4; have hb4 := hb1a.trans (ho1a.chgBelow hc4 hb1a.size)) | (refine step_catV w4 rfl (.tmp 29) (.tmp 32) 45 rfl 24 _ 24 Tryz.underlying45 Tryz.infoInts rfl (by decide) w.heap.size w4.heap.size a4 (k + 1) c4 _ rfl ho4 b3 (n - k) (cap - k) (vs.drop k) rfl (hi3.keep hb4) hone3 (by omega) hb4.size ?_; intro a5 c5 w5 ho5 hc5; have hb5 := hb4.trans (ho4.chgBelow hc5 hb4.size)))
        go_wp2
        go_ret
        have hfin := Fin.out a5 c5 w5 (by rw [List.append_assoc] at ho5; exact ho5) hb5
        exact ⟨_, _, _, rfl, hfin.1, hfin.2⟩
      · have hd1 : decide (k < n) = false := decide_eq_false hlt
        clear hgo
        have hoe : OwnRow w.heap.size (wr.heap.size + 1) (wr.alloc (.cells #[] 24)) 24 (some ⟨wr.heap.size, 0, none⟩) 0 0 [] := (OwnRow.empty wr).mono hb.size (Nat.le_refl _)
        have hbe : Below w.heap.size w (wr.alloc (.cells #[] 24)) := hb.alloc hb.size _
        have hi2' := hi2.keep hbe
        go_wp2_with (at_builtin; refine wpList_catV _ rfl _ _ 45 rfl 24 _ 24 Tryz.underlying45 Tryz.infoInts rfl (by decide) w.heap.size _ _ 0 0 [] rfl hoe b2 k cap _ rfl hi2' hone1 (by omega) hbe.size ?_)
        intro a1 c1 w1 ho1 hc1
        have hb1 := hbe.trans (hoe.chgBelow hc1 hbe.size)
        try simp only [Nat.zero_add, List.nil_append] at ho1 ⊢
        clear hoe hbe hi2' hi2 hc1
        have ho1a : OwnRow w.heap.size w1.heap.size (w1.alloc (.cells #[.slice a2 m c] 24)).drew 24 a1 k c1 (vs.take k) := OwnRow.drew (ho1.keep (belowAlloc w1 _))
        have hb1a : Below w.heap.size w (w1.alloc (.cells #[.slice a2 m c] 24)).drew := belowDrewN (hb1.alloc hb1.size _) 1
        have hone2 : ValsAt (w1.alloc (.cells #[.slice a2 m c] 24)).drew (some ⟨w1.heap.size, 0, none⟩) 1 1 [.slice a2 m c] := ValsAt.drew (valsAt_one w1 _)
        go_wp2
        go_region_law (first | (refine step_catV _ rfl (.tmp 26) (.tmp 28) 45 rfl 24 _ 24 Tryz.underlying45 Tryz.infoInts rfl (by decide) w.heap.size w1.heap.size a1 k c1 (vs.take k) rfl ho1a (some ⟨w1.heap.size, 0, none⟩) 1 1 [.slice a2 m c] rfl hone2 (fun u hu => by rw [List.mem_singleton.1 hu]; rfl) (by omega) hb1a.size ?_; intro a4 c4 w4 ho4 hc4; have hb4 := hb1a.trans (ho1a.chgBelow hc4 hb1a.size)) | (refine step_catV w4 rfl (.tmp 29) (.tmp 32) 45 rfl 24 _ 24 Tryz.underlying45 Tryz.infoInts rfl (by decide) w.heap.size w4.heap.size a4 (k + 1) c4 _ rfl ho4 b3 (n - k) (cap - k) (vs.drop k) rfl (hi3.keep hb4) hone3 (by omega) hb4.size ?_; intro a5 c5 w5 ho5 hc5; have hb5 := hb4.trans (ho4.chgBelow hc5 hb4.size)))
        go_wp2
        go_ret
        have hfin := Fin.out a5 c5 w5 (by rw [List.append_assoc] at ho5; exact ho5) hb5
        exact ⟨_, _, _, rfl, hfin.1, hfin.2⟩

theorem flatMap_snocX (f : List Int → List (List Int)) {A : List (List Int)} {q m : Nat} (hq : q < m) (hl : A.length = m) : (A.take (q + 1)).flatMap f = (A.take q).flatMap f ++ f (A.getD q []) := by
  rw [take_snocX hq hl, List.flatMap_append]; simp
theorem flatMap_take_le (f : List Int → List (List Int)) (A : List (List Int)) (q : Nat) : ((A.take q).flatMap f).length ≤ (A.flatMap f).length := by
  have := congrArg (fun l => (l.flatMap f).length) (List.take_append_drop q A)
  simp only [List.flatMap_append, List.length_append] at this
  omega

end
end Go.Proofs.YtdfmljkjidepeaaGreatDoor
namespace Go.Proofs.YtdfmljkjidepeaaGreatDoor
section
open Go.RowKit
set_option linter.unusedVariables false
set_option linter.unusedSimpArgs false
set_option maxRecDepth 20000

theorem OwnRow.cut {B E w ty g n cap us} (h : OwnRow B E w ty (some ⟨g, 0, none⟩) n cap us) {k : Nat} (hk : k ≤ n) : OwnRow B E w ty (some ⟨g, 0, none⟩) k cap (us.take k) := by
  have hl := h.length
  rcases h.1.2 with ⟨hv, _⟩ | ⟨g', c', cur, hv, hg, hh, hnc, hcm, hcs, htake⟩
  · simp at hv
  · simp only [Value.slice.injEq, Option.some.injEq, Addr.mk.injEq, and_true, true_and] at hv
    obtain ⟨rfl, rfl⟩ := hv
    refine ⟨⟨by simp [hl]; omega, .inr ⟨g, cap, cur, rfl, hg, hh, by omega, hcm, hcs, ?_⟩⟩, h.2⟩
    rw [← htake, List.take_take]
    congr 1
    omega
theorem setCells_own {B E n cap : Nat} {ty : TypeId} (g : Nat) : ∀ (vs : List Value) (o : Nat) (w : World) (us : List Value), OwnRow B E w ty (some ⟨g, 0, none⟩) n cap us →
    ∃ us', OwnRow B E (w.setCells g o vs) ty (some ⟨g, 0, none⟩) n cap us' ∧ us'.take o = us.take o ∧ Chg (fun k => k = g) w (w.setCells g o vs)
  | [], o, w, us, h => ⟨us, h, rfl, Chg.refl _ _⟩
  | v :: r, o, w, us, h => by
    obtain ⟨h1, h2⟩ := World.ownsRow.stored h.1 o v
    obtain ⟨us', h3, h4, h5⟩ := setCells_own g r (o + 1) _ _ ⟨h1, h.2⟩
    refine ⟨us', h3, ?_, ((Chg.ofGrown h2).mono (fun k hk => by simpa using hk)).trans h5⟩
    have := congrArg (List.take o) h4
    rw [List.take_take, List.take_take, Nat.min_eq_left (by omega)] at this
    rw [this, List.take_set_of_le (by omega)]
theorem zeroInts (w : World) : (zeroValue 24).run Tryz.prog w = .ok (.slice none 0 0) w := by kernel_rfl
theorem slFromG (g n cap lo : Nat) (h1 : lo < n) (h2 : n ≤ cap) (k : IntKind) (w : World) : (Instr.sliceAt 45 (.slice (some ⟨g, 0, none⟩) n cap) (some (.int k (lo : Int))) none none).run Tryz.prog w = .ok (.slice (some ⟨g, lo, none⟩) (n - lo) (cap - lo)) w := by
  have hrun := run_slice_l (P := Tryz.prog) (w := w) 45 (some ⟨g, 0, none⟩) n cap Tryz.underlying45 k (lo : Int) (by omega) (by omega)
  rw [sizeInts] at hrun
  rw [run_sliceAt_slice _ _ _ _ _ _ Tryz.underlying45, hrun]
  have : ¬ cap = lo := by omega
  simp [Result.andThen, sliced, this, Addr.add_lit]
theorem slUptoG (g n cap hi : Nat) (h1 : hi ≤ n) (h2 : n ≤ cap) (h3 : 0 < cap) (k : IntKind) (w : World) : (Instr.sliceAt 45 (.slice (some ⟨g, 0, none⟩) n cap) none (some (.int k (hi : Int))) none).run Tryz.prog w = .ok (.slice (some ⟨g, 0, none⟩) hi cap) w := by
  have hrun := run_slice_h (P := Tryz.prog) (w := w) 45 (some ⟨g, 0, none⟩) n cap Tryz.underlying45 k (hi : Int) (by omega) (by omega)
  rw [sizeInts] at hrun
  rw [run_sliceAt_slice _ _ _ _ _ _ Tryz.underlying45, hrun]
  have : ¬ cap = 0 := by omega
  simp [Result.andThen, sliced, this, Addr.add_lit]
theorem clear_run (w : World) (B E : Nat) (g i n cap c2 : Nat) (us : List Value) (hown : OwnRow B E w 24 (some ⟨g, 0, none⟩) n cap us) (hi : i < n) (ty : TypeId) :
    ∃ w', (Builtin.clear_ #[45] ty #[.slice (some ⟨g, i, none⟩) (n - i) c2]).run Tryz.prog w = .ok (.tuple #[]) w' ∧ OwnRow B E w' 24 (some ⟨g, 0, none⟩) i cap (us.take i) ∧ Chg (fun k => k = g) w w' := by
  obtain ⟨us', h1, h2, h3⟩ := setCells_own g (List.replicate (n - i) (Value.slice none 0 0)) i w us hown
  have hl := hown.length
  have hr := Lib.run_clear_slice (P := Tryz.prog) w 45 24 ty (.slice none 0 0) Tryz.underlying45 zeroInts rfl rfl g i (n - i) c2 (by omega) (fun j hj => by
      rw [World.ownsRow.cellAt hown.1 (i + j) (by omega), List.getElem?_eq_getElem (by omega)]; rfl) (fun j hj => World.ownsRow.frozenAt hown.1 (i + j))
  refine ⟨_, hr, ?_, h3⟩
  rw [← h2]
  exact h1.cut (by omega)
theorem OwnRow.capLe {B E w ty ao n cap vs} (h : OwnRow B E w ty ao n cap vs) : n ≤ cap := h.at.le

theorem apart_snoc {vs : List Value} {B E F : Nat} {w w' : World} {xss : List (List Int)} (hr : RowsW B E w vs xss) (hp : vs.Pairwise apart) {a : Option Addr} {m c : Nat} {x : List Int} (ho : Own E F w' a m c x) : (vs ++ [Value.slice a m c]).Pairwise apart := by
  rw [List.pairwise_append]
  refine ⟨hp, by simp, fun v hv u hu => ?_⟩
  rw [List.mem_singleton.1 hu]
  obtain ⟨i, hi, rfl⟩ := List.getElem_of_mem hv
  obtain ⟨a', m', c', e, ho'⟩ := hr.row i (by rw [← hr.length]; exact hi)
  rw [List.getD_eq_getElem?_getD, List.getElem?_eq_getElem hi] at e
  simp only [Option.getD_some] at e
  rw [e]
  unfold apart
  cases h1 : (Value.slice a' m' c').ownBlock with
  | none => exact .inl rfl
  | some g =>
    right
    intro h2
    have h3 := ho'.2 g h1
    have h4 := (ho.1.lt g h2.symm).1
    omega
theorem apart_append {vs us : List Value} {C D C' D' : Nat} {w w' : World} {xss yss : List (List Int)} (hr : RowsW C D w vs xss) (hp : vs.Pairwise apart) (kr : RowsW C' D' w' us yss) (kp : us.Pairwise apart) (hd : D ≤ C') : (vs ++ us).Pairwise apart := by
  rw [List.pairwise_append]
  refine ⟨hp, kp, fun v hv u hu => ?_⟩
  obtain ⟨i, hi, rfl⟩ := List.getElem_of_mem hv
  obtain ⟨j, hj, rfl⟩ := List.getElem_of_mem hu
  obtain ⟨a, m, c, e, ho⟩ := hr.row i (by rw [← hr.length]; exact hi)
  obtain ⟨a', m', c', e', ho'⟩ := kr.row j (by rw [← kr.length]; exact hj)
  rw [List.getD_eq_getElem?_getD, List.getElem?_eq_getElem hi] at e
  rw [List.getD_eq_getElem?_getD, List.getElem?_eq_getElem hj] at e'
  simp only [Option.getD_some] at e e'
  rw [e, e']
  unfold apart
  cases h1 : (Value.slice a m c).ownBlock with
  | none => exact .inl rfl
  | some g =>
    right
    intro h2
    have h3 := ho.2 g h1
    have h4 := (ho'.1.lt g h2.symm).1
    omega
end
end Go.Proofs.YtdfmljkjidepeaaGreatDoor
namespace Go.Proofs.YtdfmljkjidepeaaGreatDoor
section
open Go.RowKit Go.Shelf Go.Lib Go.Sort
set_option linter.unusedVariables false
set_option linter.unusedSimpArgs false
set_option maxRecDepth 20000

theorem cmpL_neg (a b : List Int) : cmpL a b < 0 ↔ befB b a = true := by
  induction a generalizing b with
  | nil => cases b <;> simp [befB, cmpL]
  | cons x l ih =>
    cases b with
    | nil => simp [befB, cmpL]
    | cons y m =>
      show (if x = y then cmpL l m else if x < y then -1 else 1) < 0 ↔ (if y = x then befB m l else decide (x < y)) = true
      by_cases h : x = y
      · rw [if_pos h, if_pos h.symm]; exact ih m
      · have h' : ¬ y = x := fun e => h e.symm
        rw [if_neg h, if_neg h']
        by_cases h2 : x < y
        · rw [if_pos h2]; simp; omega
        · rw [if_neg h2]; simp; omega
set_option maxHeartbeats 400000 in
theorem cmpFirst_any (ao bo : Option Addr) (n m cap cap' : Nat) (xs ys : List Int) (w : World) (hx : IntsAt w ao n cap xs) (hy : IntsAt w bo m cap' ys) :
    Calls Tryz.prog 69 #[.slice ao n cap, .slice bo m cap'] w fun e w' => e = .returned (.int .i64 (cmpL ys xs)) ∧ w = w' := by
  have hcon := compare_any bo ao m n cap' cap ys xs w hy hx
  have Hcon := Lib.hid hcon; clear hcon
  go_enter Tryz.func69, Tryz.ntmps69
  go_wp2_with fail
  with_reducible refine (Hcon.out).mono ?_
  rintro e w' ⟨rfl, rfl⟩
  go_wp2
  go_ret
  exact ⟨rfl, rfl⟩
theorem apart_symm {v u : Value} (h : apart v u) : apart u v := by
  unfold apart at *
  cases e : u.ownBlock with
  | none => exact .inl rfl
  | some g =>
    right
    intro e2
    rcases h with h | h
    · rw [h] at e2; cases e2
    · exact h (e2.symm.trans e.symm)
def encR (vs : List Value) (m : Nat) (i : Fin (m + 1)) : Value := vs.getD i.val undef
def cfR (xss : List (List Int)) (m : Nat) (i j : Fin (m + 1)) : Int := cmpL (xss.getD j.val []) (xss.getD i.val [])
theorem ltR (xss : List (List Int)) (m : Nat) (i j : Fin (m + 1)) : ltOf (cfR xss m) i j = befB (xss.getD i.val []) (xss.getD j.val []) := by
  unfold ltOf cfR
  have := cmpL_neg (xss.getD j.val []) (xss.getD i.val [])
  cases h : befB (xss.getD i.val []) (xss.getD j.val [])
  · rw [decide_eq_false_iff_not]; rw [h] at this; simpa using this
  · rw [decide_eq_true_iff]; exact this.2 h
theorem swoR (xss : List (List Int)) (m : Nat) : SWO (ltOf (cfR xss m)) where
  irrefl x := by rw [ltR]; exact befB_irrefl _
  trans x y z h1 h2 := by rw [ltR] at *; exact bef_trans h1 h2
  ntrans x y z h1 h2 := by rw [ltR] at *; exact befN_trans h2 h1
theorem extract_all {α : Type} (d : Array α) (n : Nat) (h : d.size = n) : d.extract 0 n = d := by subst h; exact Array.extract_size
theorem ofFn_map {α : Type} (l : List α) (m : Nat) (d : α) (hl : l.length = m + 1) : (List.ofFn (fun i : Fin (m + 1) => i)).map (fun i => l.getD i.val d) = l := by
  apply List.ext_getElem
  · simp [hl]
  · intro i h1 h2
    rw [List.getElem_map, List.getElem_ofFn, List.getD_eq_getElem?_getD, List.getElem?_eq_getElem h2]; rfl

set_option maxHeartbeats 1600000 in
theorem sortRows_any (B E C D g m cap : Nat) (vs : List Value) (xss : List (List Int)) (w : World) (h : Sp B E C D w (some ⟨g, 0, none⟩) (m + 1) cap vs xss) (hap : vs.Pairwise apart) (hm : m ≤ 1048576) :
    Calls Tryz.prog 68 #[.slice (some ⟨g, 0, none⟩) (m + 1) cap, .func (.func 69) #[] #[]] w fun e w' =>
      e = .returned (.tuple #[]) ∧ ∃ us, Sp B E C D w' (some ⟨g, 0, none⟩) (m + 1) cap us (srt xss) ∧ us.Pairwise apart ∧ Chg (fun k => k = g) w w' := by
  have hxl := h.length
  have hvl := h.spine.length
  rcases h.spine.1.2 with ⟨hv, _⟩ | ⟨g', cap', cur, hv, hg, hh, hnc, hcm, hcs, htake⟩
  · simp at hv
  simp only [Value.slice.injEq, Option.some.injEq, Addr.mk.injEq, and_true, true_and] at hv
  obtain ⟨rfl, rfl⟩ := hv
  have hgw : g < w.heap.size := (Array.getElem?_eq_some_iff.1 hh).1
  obtain ⟨d, hd⟩ : ∃ d : Array (Fin (m + 1)), d.toList = List.ofFn (fun i : Fin (m + 1) => i) := ⟨⟨List.ofFn fun i => i⟩, rfl⟩
  have hds : d.size = m + 1 := by rw [← Array.length_toList, hd]; simp
  have hdj : ∀ j, (hj : j < m + 1) → d[j]! = ⟨j, hj⟩ := fun j hj => by
    have h1 : d.toList[j]? = some ⟨j, hj⟩ := by rw [hd, List.getElem?_ofFn, dif_pos hj]
    rw [Array.getElem?_toList, Array.getElem?_eq_getElem (by omega)] at h1
    rw [getElem!_pos d j (by omega)]
    exact Option.some.inj h1
  have hrow : ∀ i : Fin (m + 1), ∃ a k c, encR vs m i = .slice a k c ∧ Own C D w a k c (xss.getD i.val []) := fun i => h.rows.row i.val (by rw [hxl]; exact i.isLt)
  have hH : Holds (encR vs m) w g 0 d := by
    intro j hj
    rw [hds] at hj
    refine ⟨?_, ?_⟩
    · have h1 := World.ownsRow.cellAt h.spine.1 j (by omega)
      simp only [Nat.zero_add]
      rw [h1, hdj j hj]
      show vs[j]? = some (vs.getD j undef)
      rw [List.getD_eq_getElem?_getD, List.getElem?_eq_getElem (by omega)]; rfl
    · simp only [Nat.zero_add]; exact World.ownsRow.frozenAt h.spine.1 j
  have h1c : OneCell (encR vs m) := fun i => by
    obtain ⟨a, k, c, e, _⟩ := hrow i
    rw [e]; rfl
  have eg : ∀ args w, (callFunc 69 args).run Tryz.prog w = .ok (.enter 69 args) w := enters_of Tryz.func69 (by kernel_rfl) rfl
  have hchg : ∀ (q : Nat) (os : Array Obj) (dk : Array (Fin (m + 1))), Chg (fun k => k = g) w (sortWorld (encR vs m) w g 0 q dk os) := fun q os dk => by
    unfold sortWorld
    refine ⟨rfl, rfl, rfl, by simp [ahead], fun k hk hs => ?_⟩
    rw [heap_grow_old _ _ (by simp [ahead]; exact hk)]
    have : ¬ g = k := fun e => hs e.symm
    simp [putRow, mapBlock, ahead, Array.getElem?_modify, this]
  have hkeep : ∀ {w' : World} {a : Option Addr} {k c : Nat} {x : List Int}, Own C D w a k c x → Chg (fun k => k = g) w w' → Own C D w' a k c x := fun ho hc =>
    ho.chg hc (fun q h1 h2 h3 h4 => OwnRow.apart_ty ho h.spine (by decide) h3 (by simp [Value.ownBlock, h4]))
  have hcmp : CmpReads Tryz.prog 69 #[] (encR vs m) (cfR xss m) g 0 d.size w := fun q os dk _ x y => by
    obtain ⟨a, k, c, e, ho⟩ := hrow x
    obtain ⟨a', k', c', e', ho'⟩ := hrow y
    have hc := hchg q os dk
    rw [e, e']
    exact (cmpFirst_any a a' k k' c c' _ _ _ (hkeep ho hc).at (hkeep ho' hc).at).mono fun _ _ ⟨h1, h2⟩ => ⟨h1, 0, h2.symm⟩
  have hS := Any.slices_SortFunc Tryz.sortLL (encR vs m) h1c (cfR xss m) (swoR xss m) 69 #[] g 0 cap d w eg hcmp.lays hH hgw (by rw [hds]; omega)
  change Calls Tryz.prog 68 _ _ _ at hS
  rw [hds] at hS
  refine hS.mono fun e w' ⟨he, d', q, os, hp, hs, hw⟩ => ⟨he, ?_⟩
  obtain ⟨hp1, _, hp3⟩ := hp
  rw [hds] at hp1
  have hperm : d'.toList.Perm (List.ofFn fun i : Fin (m + 1) => i) := by
    have e1 : d'.extract 0 (m + 1) = d' := extract_all d' _ hp1
    have e2 : d.extract 0 (m + 1) = d := extract_all d _ hds
    rw [e1, e2, hd] at hp3
    exact hp3
  have hvs := ofFn_map vs m undef hvl
  have hxs := ofFn_map xss m [] hxl
  have hpv : (d'.toList.map (encR vs m)).Perm vs := by
    have := hperm.map (fun i : Fin (m + 1) => vs.getD i.val undef)
    rw [hvs] at this; exact this
  have hpx : (d'.toList.map (fun i => xss.getD i.val [])).Perm xss := by
    have := hperm.map (fun i : Fin (m + 1) => xss.getD i.val [])
    rw [hxs] at this; exact this
  have hsr : srtd (d'.toList.map (fun i => xss.getD i.val [])) := by
    unfold srtd
    rw [List.pairwise_map, List.pairwise_iff_getElem]
    intro i j hi hj hij
    have hi' : i < m + 1 := by rw [Array.length_toList, hp1] at hi; exact hi
    have hj' : j < m + 1 := by rw [Array.length_toList, hp1] at hj; exact hj
    have := hs i j (Nat.zero_le _) hij (by omega)
    rw [ltR, getElem!_pos d' j (by omega), getElem!_pos d' i (by omega)] at this
    simpa using this
  rw [← srt_unique hsr hpx]
  have hc := hchg q os d'
  rw [← hw] at hc
  refine ⟨d'.toList.map (encR vs m), ⟨?_, ?_⟩, ?_, hc⟩
  · have hheap : w'.heap[g]? = some (.cells (putCells (encR vs m) 0 d' cur) 24 (0, 0)) := by
      rw [hw]
      unfold sortWorld
      rw [heap_grow_old _ _ (by simp [ahead]; exact hgw)]
      simp [putRow, mapBlock, ahead, Array.getElem?_modify, hh, onCells]
    refine ⟨⟨by simp [hp1], .inr ⟨g, cap, _, rfl, hg, hheap, hnc, hcm, by simp [putCells, hcs], ?_⟩⟩, h.spine.2⟩
    apply List.ext_getElem
    · simp [putCells, hp1, hcs]; omega
    · intro i h1 h2
      simp [hp1] at h2
      simp [putCells, hp1, h2, getElem!_pos d' i (by omega)]
  · refine ⟨by simp, fun i hi => ?_⟩
    rw [List.length_map, Array.length_toList, hp1] at hi
    obtain ⟨a, k, c, e, ho⟩ := hrow (d'[i]'(by omega))
    refine ⟨a, k, c, ?_, ?_⟩
    · rw [List.getD_eq_getElem?_getD, List.getElem?_map, List.getElem?_eq_getElem (by rw [Array.length_toList, hp1]; exact hi)]
      simpa using e
    · rw [List.getD_eq_getElem?_getD, List.getElem?_map, List.getElem?_eq_getElem (by rw [Array.length_toList, hp1]; exact hi)]
      simpa using hkeep ho hc
  · exact (hpv.symm.pairwise_iff (fun {a b} h => apart_symm h)).1 hap
set_option maxHeartbeats 800000 in
theorem greatestFirst_any (B E : Nat) (ao : Option Addr) (n cap : Nat) (xss : List (List Int)) (w : World) (h : OwnRows B E w ao n cap xss) (hn : n ≤ 1048576) (hB : B ≤ w.heap.size) :
    Calls Tryz.prog 49 #[.slice ao n cap] w fun e w' => e = .returned (.slice ao n cap) ∧ OwnRows B E w' ao n cap (srt xss) ∧ Below B w w' := by
  obtain ⟨vs, hsp, hap⟩ := h.sp
  rcases hsp.spine.cases with ⟨rfl, rfl, rfl, hnil⟩ | ⟨g, rfl, hg, hgE, hgw⟩
  · have hx : xss = [] := List.eq_nil_of_length_eq_zero h.length
    subst hx
    have hcon := AnyF.slices_SortFunc_none (P := Tryz.prog) (ρ := Tryz.sortLL_ren) { Tryz.sortLL with } none 0 (.func (.func 69) #[] #[]) w
    change Calls Tryz.prog 68 _ _ _ at hcon
    have Hcon := Lib.hid hcon; clear hcon
    have Hnil := Lib.hid hnil; clear hnil
    go_enter Tryz.func49, Tryz.ntmps49
    go_wp2_with fail
    with_reducible refine (Hcon.out).mono ?_
    rintro e w' ⟨rfl, rfl⟩
    go_wp2
    go_ret
    exact ⟨rfl, h, Below.refl _ _⟩
  · by_cases hz : n = 0
    · subst hz
      have hx : xss = [] := List.eq_nil_of_length_eq_zero h.length
      subst hx
      have hcon := AnyF.slices_SortFunc_none (P := Tryz.prog) (ρ := Tryz.sortLL_ren) { Tryz.sortLL with } (some ⟨g, 0, none⟩) cap (.func (.func 69) #[] #[]) w
      change Calls Tryz.prog 68 _ _ _ at hcon
      have Hcon := Lib.hid hcon; clear hcon
      go_enter Tryz.func49, Tryz.ntmps49
      go_wp2_with fail
      with_reducible refine (Hcon.out).mono ?_
      rintro e w' ⟨rfl, rfl⟩
      go_wp2
      go_ret
      exact ⟨rfl, h, Below.refl _ _⟩
    · obtain ⟨m, rfl⟩ : ∃ m, n = m + 1 := ⟨n - 1, by omega⟩
      have hcon := sortRows_any B E B E g m cap vs xss w hsp hap (by omega)
      generalize hM : m + 1 = M at *
      have Hcon := Lib.hid hcon; clear hcon
      have Hap := Lib.hid hap; clear hap
      have HM := Lib.hid hM; clear hM
      clear hsp h
      go_enter Tryz.func49, Tryz.ntmps49
      go_wp2_with fail
      with_reducible refine (Hcon.out).mono ?_
      rintro e w' ⟨rfl, us, hs2, hap2, hc2⟩
      go_wp2
      go_ret
      exact ⟨rfl, hs2.own hap2 (Nat.le_refl _) (Nat.le_refl _) (Nat.le_refl _) (Nat.le_refl _), hc2.below hB (fun k hk => by omega)⟩
end
end Go.Proofs.YtdfmljkjidepeaaGreatDoor
