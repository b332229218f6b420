/- Chapter 5: RowPasts, by the program and by its specification. No condition. -/
import Derived.Test.YtbneibpakopllaaRowK
import Derived.Test.YtbneibpakopllaaRowJ
namespace Go.Proofs.Ytbneibpakopllaa
open Go.RowKit
set_option linter.unusedVariables false
set_option linter.unusedSimpArgs false
set_option maxRecDepth 20000

theorem mRowPasts_bound (xs : List Int) : (mRowPasts xs).1.length ≤ 1048576 ∧ total (mRowPasts xs).1 ≤ 1048576 := by
  unfold mRowPasts
  split
  · next h =>
    have hr := row_iff.1 h.1
    have h1 := pastsR_count hr
    have h2 := h.2
    have h3 : (pastsR xs).length ≤ 300 := by omega
    have h4 := total_le (pastsR xs) 28 (pastsR_mem hr)
    exact ⟨by show (pastsR xs).length ≤ _; omega, by show total (pastsR xs) ≤ _; omega⟩
  · exact ⟨by simp, by simp [total]⟩
theorem pastsR_cons {M : Nat} {t : List Int} : pastsR ((M : Int) :: t) = pR M t := by unfold pastsR; rw [if_neg (by simp)]; simp
theorem map_nilapp (l : List (List Int)) : l.map (([] : List Int) ++ ·) = l := by simp

set_option maxHeartbeats 1600000 in
theorem spec_RowPasts (ao : Option Addr) (n cap : Nat) (xs : List Int) (w : World) (h : IntsAt w ao n cap xs) :
    Calls Try.prog 42 #[.slice ao n cap] w fun e w' => ∃ ao' n' cap', e = .returned (.tuple #[.slice ao' n' cap', .bool (mRowPasts xs).2]) ∧ OwnRows w.heap.size w'.heap.size w' ao' n' cap' (mRowPasts xs).1 ∧ Below w.heap.size w w' := by
  cases hb : rowB xs
  · have hg := roGood_no ao n cap xs w h hb
    have hm := mRP_no1 hb
    rw [hm]
    have Hg := Lib.hid hg; clear hg
    have Hb := Lib.hid hb; clear hb
    go_enter Try.func42, Try.ntmps42
    go_wp2_with fail
    with_reducible refine ((Hg.out)).mono ?_
    rintro e w' ⟨rfl, rfl⟩
    go_wp2
    go_ret2
    exact ⟨none, 0, 0, rfl, OwnRows.nil _ _ _, Below.refl _ _⟩
  · have hr := row_iff.1 hb
    have hg := roGood_yes ao n cap xs w h hr
    have hc := roPastCount_any ao n cap xs w h hr
    by_cases h3 : pastC xs ≤ 300
    · have hm := mRP_yes hb h3
      rw [hm]
      have hl := h.length
      have hgt : decide (300 < pastC xs) = false := decide_eq_false (by omega)
      cases xs with
      | nil =>
        simp only [List.length_nil] at hl
        subst hl
        rw [show pastsR [] = [[]] from rfl]
        have hone := OwnRows.one (Own.nil w.heap.size w.heap.size w) w.heap.size (Nat.le_refl _) (Nat.le_refl _) (by omega)
        have hbb := belowAlloc w (.cells #[.slice none 0 0] 22)
        generalize pastC [] = P at *
        have Hg := Lib.hid hg; clear hg
        have Hc := Lib.hid hc; clear hc
        have Hone := Lib.hid hone; clear hone
        have Hbb := Lib.hid hbb; clear hbb
        have Hm := Lib.hid hm; clear hm
        have H3 := Lib.hid h3; clear h3
        have Hr := Lib.hid hr; clear hr
        have Hb := Lib.hid hb; clear hb
        go_enter Try.func42, Try.ntmps42
        go_wp2_with fail
        with_reducible refine ((Hg.out)).mono ?_
        rintro e w' ⟨rfl, rfl⟩
        go_wp2_with fail
        with_reducible refine ((Hc.out)).mono ?_
        rintro e w' ⟨rfl, rfl⟩
        go_wp2
        go_ret2
        exact ⟨_, _, _, rfl, by have := Hone.out; simpa using this, Hbb.out⟩
      | cons x t =>
        simp only [List.length_cons] at hl
        subst hl
        have hx := hr.mem (x := x) (by simp)
        have hlt28 := hr.len
        simp only [List.length_cons] at hlt28
        obtain ⟨M, rfl⟩ := Int.eq_ofNat_of_zero_le (show 0 ≤ x by omega)
        rw [pastsR_cons]
        have hx0 : ∃ b o, ao = some ⟨b, o, none⟩ ∧ w.cell? ⟨b, o, none⟩ = some (.int .i64 M) := by
          obtain ⟨b, o, e, hbl, hcc⟩ := h.cell 0 (by omega)
          have := hcc 0 (by omega)
          rw [Nat.add_zero] at this
          exact ⟨b, o, e, this⟩
        obtain ⟨b, o, rfl, hx1⟩ := hx0
        have hM8 : (M : Int) ≤ 28 := hx.2
        generalize pastC ((M : Int) :: t) = P at *
        generalize hrr : t.length = r at *
        by_cases hlt : M < r
        · rw [pR_short M t (by omega)]
          have hd : (M : Int) < (r : Int) + 1 - 1 := by omega
          have hd2 : (M : Int) < (r : Int) := by omega
          have hr8 : (r : Int) ≤ 28 := by omega
          have hne : ¬ (r : Int) + 1 = 0 := by omega
          clear hrr h hb hlt
          have Hg := Lib.hid hg; clear hg
          have Hc := Lib.hid hc; clear hc
          have Hm := Lib.hid hm; clear hm
          have H3 := Lib.hid h3; clear h3
          have Hr := Lib.hid hr; clear hr
          go_enter Try.func42, Try.ntmps42
          go_wp2_with fail
          with_reducible refine ((Hg.out)).mono ?_
          rintro e w' ⟨rfl, rfl⟩
          go_wp2_with fail
          with_reducible refine ((Hc.out)).mono ?_
          rintro e w' ⟨rfl, rfl⟩
          go_wp2
          go_ret2
          exact ⟨none, 0, 0, rfl, OwnRows.nil _ _ _, Below.refl _ _⟩
        · obtain ⟨O, rfl⟩ : ∃ O, M = r + O := ⟨M - r, by omega⟩
          obtain ⟨ra2, hsl, hra2⟩ := slFrom w (((r + O : Nat) : Int) :: t) h 1 (by omega) .i64
          rw [show r + 1 - 1 = r by omega] at hsl hra2
          rw [show (((r + O : Nat) : Int) :: t).drop 1 = t from rfl] at hra2
          rw [show ((1 : Nat) : Int) = 1 from rfl] at hsl
          have hcon := ro_any (r + O) t O none 0 0 [] ra2 r (cap - 1) w.drew (by omega) (by omega) (fun y hy => hr.mem (by simp [hy])) (IntsAt.nil _) (hra2.drewN 1)
          rw [map_nilapp] at hcon
          have hxd : w.drew.cell? ⟨b, o, none⟩ = some (.int .i64 ((r + O : Nat) : Int)) := hx1
          push_cast at hx1 hxd hM8
          have hd : ¬ ((r : Int) + (O : Int) < (r : Int)) := by omega
          have hr8 : (r : Int) ≤ 28 := by omega
          have hO8 : (O : Int) ≤ 28 := by omega
          have hne : ¬ (r : Int) + 1 = 0 := by omega
          have hw1 : IntKind.i64.wrap ((r : Int) + (O : Int) - ((r : Int) + 1)) = (r : Int) + (O : Int) - ((r : Int) + 1) := IntWalk.i64_in _ (by omega)
          have hw2 : IntKind.i64.wrap ((r : Int) + (O : Int) - ((r : Int) + 1) + 1) = (O : Int) := by rw [IntWalk.i64_in _ (by omega)]; omega
          have hrefl : Below w.heap.size w w.drew := belowDrewN (Below.refl w.heap.size w) 1
          generalize hZ : pR (r + O) t = Z at hcon ⊢
          clear hrr h hb hlt hra2 hZ hx
          have Hg := Lib.hid hg; clear hg
          have Hc := Lib.hid hc; clear hc
          have Hm := Lib.hid hm; clear hm
          have H3 := Lib.hid h3; clear h3
          have Hr := Lib.hid hr; clear hr
          have Hcon := Lib.hid hcon; clear hcon
          go_enter Try.func42, Try.ntmps42
          go_wp2_with fail
          with_reducible refine ((Hg.out)).mono ?_
          rintro e w' ⟨rfl, rfl⟩
          go_wp2_with fail
          with_reducible refine ((Hc.out)).mono ?_
          rintro e w' ⟨rfl, rfl⟩
          go_wp2
          go_region_law (go_simp; with_reducible refine (Hcon.out).mono ?_; rintro e w1 ⟨a1, n1, c1, rfl, ho1, hb1⟩)
          all_goals
            have hbb := belowTrans hrefl hb1 (Nat.le_refl _)
            have Ho1 := Lib.hid ho1; clear ho1
            have Hbb := Lib.hid hbb; clear hbb
            go_wp2
            go_ret2
            exact ⟨_, _, _, rfl, Ho1.out, Hbb.out⟩
    · have hm := mRP_no2 h3
      rw [hm]
      have hgt : decide (300 < pastC xs) = true := decide_eq_true (by omega)
      generalize pastC xs = P at *
      have Hg := Lib.hid hg; clear hg
      have Hc := Lib.hid hc; clear hc
      have H3 := Lib.hid h3; clear h3
      have Hm := Lib.hid hm; clear hm
      go_enter Try.func42, Try.ntmps42
      go_wp2_with fail
      with_reducible refine ((Hg.out)).mono ?_
      rintro e w' ⟨rfl, rfl⟩
      go_wp2_with fail
      with_reducible refine ((Hc.out)).mono ?_
      rintro e w' ⟨rfl, rfl⟩
      go_wp2
      go_ret2
      exact ⟨none, 0, 0, rfl, OwnRows.nil _ _ _, Below.refl _ _⟩

theorem Own.none0 (w : World) : Own w.heap.size (w.heap.size + 1) (w.alloc (.cells #[] 3)) (some ⟨w.heap.size, 0, none⟩) 0 0 [] :=
  ⟨⟨rfl, .inr ⟨w.heap.size, 0, #[], rfl, Nat.le_refl _, heap_alloc_new w _, Nat.le_refl _, Nat.zero_le _, rfl, rfl⟩⟩, fun g hg => by simp [Value.ownBlock] at hg; omega⟩
set_option maxHeartbeats 3200000 in
theorem impl_RowPasts (ao : Option Addr) (n cap : Nat) (xs : List Int) (w : World) (h : IntsAt w ao n cap xs) :
    Calls Try.prog 43 #[.slice ao n cap] w fun e w' => ∃ ao' n' cap', e = .returned (.tuple #[.slice ao' n' cap', .bool (mRowPasts xs).2]) ∧ OwnRows w.heap.size w'.heap.size w' ao' n' cap' (mRowPasts xs).1 ∧ Below w.heap.size w w' := by
  have hba := belowAlloc w (.cells #[.slice ao n cap] 22)
  have hc := rowPastCount_any ao n cap xs _ (h.keep hba)
  have hk : (w.alloc (.cells #[.slice ao n cap] 22)).cell? ⟨w.heap.size, 0, none⟩ = some (.slice ao n cap) := by rw [World.cell?_alloc_at _ _ _ _ rfl]; rfl
  cases hb : rowB xs
  · have hm := mRP_no1 hb
    rw [mRPC_no hb] at hc
    rw [hm]
    have Hc := Lib.hid hc; clear hc
    have Hb := Lib.hid hb; clear hb
    have Hba := Lib.hid hba; clear hba
    go_enter Try.func43, Try.ntmps43
    go_wp2_with fail
    with_reducible refine ((Hc.out)).mono ?_
    rintro e w' ⟨rfl, rfl⟩
    go_wp2
    go_ret2
    exact ⟨none, 0, 0, rfl, OwnRows.nil _ _ _, Hba.out⟩
  · have hr := row_iff.1 hb
    rw [mRPC_yes hb] at hc
    by_cases h3 : pastC xs ≤ 300
    · have hm := mRP_yes hb h3
      rw [hm]
      have hl := h.length
      have hgt : decide (300 < pastC xs) = false := decide_eq_false (by omega)
      have hcount := pastsR_count hr
      cases xs with
      | nil =>
        simp only [List.length_nil] at hl
        subst hl
        rw [show pastsR [] = [[]] from rfl]
        have hb2 := belowTrans hba (belowAlloc _ (.cells #[] 3)) (Nat.le_refl _)
        have hone := OwnRows.one (Own.none0 (w.alloc (.cells #[.slice ao 0 cap] 22))) w.heap.size (by simp) (by simp; omega) (by simp)
        have hb3 := belowTrans hb2 (belowAlloc _ (.cells #[.slice (some ⟨w.heap.size + 1, 0, none⟩) 0 0] 22)) (Nat.le_refl _)
        rw [show (w.alloc (.cells #[.slice ao 0 cap] 22)).heap.size = w.heap.size + 1 by simp] at hone
        generalize pastC [] = P at *
        clear hcount hba
        have Hc := Lib.hid hc; clear hc
        have Hone := Lib.hid hone; clear hone
        have Hb2 := Lib.hid hb2; clear hb2
        have Hb3 := Lib.hid hb3; clear hb3
        have Hm := Lib.hid hm; clear hm
        have H3 := Lib.hid h3; clear h3
        have Hr := Lib.hid hr; clear hr
        have Hb := Lib.hid hb; clear hb
        go_enter Try.func43, Try.ntmps43
        go_wp2_with fail
        with_reducible refine ((Hc.out)).mono ?_
        rintro e w' ⟨rfl, rfl⟩
        go_wp2
        go_ret2
        exact ⟨_, _, _, rfl, by have := Hone.out; simpa using this, by have := Hb3.out; simpa using this⟩
      | cons x t =>
        simp only [List.length_cons] at hl
        subst hl
        have hx := hr.mem (x := x) (by simp)
        have hlt28 := hr.len
        simp only [List.length_cons] at hlt28
        obtain ⟨M, rfl⟩ := Int.eq_ofNat_of_zero_le (show 0 ≤ x by omega)
        rw [pastsR_cons]
        rw [pastsR_cons] at hcount
        have hx0 : ∃ b o, ao = some ⟨b, o, none⟩ ∧ b < w.heap.size ∧ w.cell? ⟨b, o, none⟩ = some (.int .i64 M) := by
          obtain ⟨b, o, e, hbl, hcc⟩ := h.cell 0 (by omega)
          have := hcc 0 (by omega)
          rw [Nat.add_zero] at this
          exact ⟨b, o, e, hbl, this⟩
        obtain ⟨b, o, rfl, hbl, hx1⟩ := hx0
        have hM28 : M ≤ 28 := by omega
        have hplen : (pR M t).length ≤ 300 := by omega
        obtain ⟨ra2, hsl, hra2⟩ := slFrom w ((M : Int) :: t) h 1 (by omega) .i64
        rw [show t.length + 1 - 1 = t.length by omega] at hsl hra2
        rw [show ((M : Int) :: t).drop 1 = t from rfl] at hra2
        rw [show ((1 : Nat) : Int) = 1 from rfl] at hsl
        have hmf : ∀ (fn : Fn) (first cap : Array Value) (w : World), (Instr.makeFunc fn first cap).run Try.prog w = .ok (.func fn first cap) w := fun _ _ _ _ => rfl
        generalize hW : ((w.alloc (.cells #[.slice (some ⟨b, o, none⟩) (t.length + 1) cap] 22)).alloc (.cells #[.slice none 0 0] 59)).alloc (.cells #[extPV w.heap.size (w.heap.size + 1)] 102) = W
        have hWs : W.heap.size = w.heap.size + 1 + 2 := by rw [← hW]; simp
        have hWa : W.heap[w.heap.size]? = some (.cells #[.slice (some ⟨b, o, none⟩) (t.length + 1) cap] 22 (0, 0)) := by
          rw [← hW, Below.heap_alloc _ _ _ (by simp; omega), Below.heap_alloc _ _ _ (by simp)]; exact heap_alloc_new w _
        have hW0 : W.heap[w.heap.size + 1]? = some (.cells #[.slice none 0 0] 59 (0, 0)) := by
          rw [← hW, Below.heap_alloc _ _ _ (by simp)]
          have := heap_alloc_new (w.alloc (.cells #[.slice (some ⟨b, o, none⟩) (t.length + 1) cap] 22)) (.cells #[.slice none 0 0] 59)
          rw [show (w.alloc (.cells #[.slice (some ⟨b, o, none⟩) (t.length + 1) cap] 22)).heap.size = w.heap.size + 1 by simp] at this
          exact this
        have hW1 : W.heap[w.heap.size + 1 + 1]? = some (.cells #[extPV w.heap.size (w.heap.size + 1)] 102 (0, 0)) := by
          rw [← hW]
          have := heap_alloc_new ((w.alloc (.cells #[.slice (some ⟨b, o, none⟩) (t.length + 1) cap] 22)).alloc (.cells #[.slice none 0 0] 59)) (.cells #[extPV w.heap.size (w.heap.size + 1)] 102)
          rw [show ((w.alloc (.cells #[.slice (some ⟨b, o, none⟩) (t.length + 1) cap] 22)).alloc (.cells #[.slice none 0 0] 59)).heap.size = w.heap.size + 1 + 1 by simp] at this
          exact this
        have hbW : Below w.heap.size w W := by rw [← hW]; exact ((belowAlloc w _).alloc (by simp) _).alloc (by simp; omega) _
        have hst : StP w.heap.size (w.heap.size + 1) (fun _ => False) W.drew none 0 0 [] := ⟨hW0, hW1, [], OwnRow.nil _ _ _ _, ⟨rfl, fun i hi => absurd hi (Nat.not_lt_zero _), fun i j _ hj => absurd hj (Nat.not_lt_zero _)⟩, fun i hi => absurd hi (Nat.not_lt_zero _)⟩
        have hbox : BoxP w.heap.size b o (t.length + 1) cap M W.drew := ⟨hWa, by
          show W.cell? ⟨b, o, none⟩ = _
          rw [World.cell?_of_block (a := ⟨b, o, none⟩) (hbW.block b hbl)]; exact hx1, hbl⟩
        have hcon := ext_p (W0 := w) (A := w.heap.size) (B := w.heap.size + 1) (b0 := b) (o0 := o) (n0 := t.length + 1) (c0 := cap) (M := M) (by omega) hM28 (by omega) rfl M t ra2 t.length (cap - 1) (fun _ => False) none 0 0 [] none 0 0 [] W.drew (by omega) (fun y hy => hr.mem (by simp [hy])) (by omega) hra2 hbW.drew hbox (by omega) hst (Own.nil _ _ _) (fun g hg => by simp [Value.ownBlock] at hg) (fun k hk => hk.elim) (by show _ ≤ W.heap.size; omega)
        rw [map_nilapp, List.nil_append] at hcon
        have hcell := cell_of_one hW1
        have hcella := cell_of_one hWa
        have hcelld : W.drew.cell? ⟨w.heap.size + 1 + 1, 0, none⟩ = _ := hcell
        have hcellad : W.drew.cell? ⟨w.heap.size, 0, none⟩ = _ := hcella
        have hne : ¬ (t.length : Int) + 1 = 0 := by omega
        generalize pastC ((M : Int) :: t) = P at *
        generalize pR M t = Z at *
        have hbWd := hbW.drew
        unfold extPV at hW hcell hcelld
        clear hba hra2 hcount hst hbox
        have Hc := Lib.hid hc; clear hc
        have Hm := Lib.hid hm; clear hm
        have H3 := Lib.hid h3; clear h3
        have Hr := Lib.hid hr; clear hr
        have Hb := Lib.hid hb; clear hb
        have Hcon := Lib.hid hcon; clear hcon
        have HW0 := Lib.hid hW0; clear hW0
        have HW1 := Lib.hid hW1; clear hW1
        have HWa := Lib.hid hWa; clear hWa
        have HbW := Lib.hid hbW; clear hbW
        have HbWd := Lib.hid hbWd; clear hbWd
        have Hplen := Lib.hid hplen; clear hplen
        have Hx := Lib.hid hx; clear hx
        go_enter Try.func43, Try.ntmps43
        go_wp2_with fail
        with_reducible refine ((Hc.out)).mono ?_
        rintro e w' ⟨rfl, rfl⟩
        go_wp2
        go_region_law (go_simp; with_reducible refine (Hcon.out).mono ?_; rintro e w5 ⟨rfl, a5, p5, c5, hP⟩; have Hpp := Lib.hid hP; clear hP)
        all_goals
          have hc5 := cell_of_one Hpp.out.st.all
          clear hcell hcelld hcella hcellad hmf hsl
          have HW := Lib.hid hW; clear hW
          have HWs := Lib.hid hWs; clear hWs
          go_wp2
          go_ret2
          obtain ⟨vs, r1, r2, _⟩ := Hpp.out.st.rows
          have hrr := r2.rows r1
          refine ⟨_, _, _, rfl, hrr.mono (by omega) (Nat.le_refl _), HbWd.out.trans (Hpp.out.frame.below (by have := HWs.out; show _ ≤ W.heap.size; omega) (fun k hk => ?_))⟩
          rcases hk with h | h | h
          · omega
          · simp [Value.ownBlock] at h
          · simp [Value.ownBlock] at h
    · have hm := mRP_no2 h3
      rw [hm]
      have hgt : decide (300 < pastC xs) = true := decide_eq_true (by omega)
      generalize pastC xs = P at *
      have Hc := Lib.hid hc; clear hc
      have H3 := Lib.hid h3; clear h3
      have Hm := Lib.hid hm; clear hm
      have Hba := Lib.hid hba; clear hba
      go_enter Try.func43, Try.ntmps43
      go_wp2_with fail
      with_reducible refine ((Hc.out)).mono ?_
      rintro e w' ⟨rfl, rfl⟩
      go_wp2
      go_ret2
      exact ⟨none, 0, 0, rfl, OwnRows.nil _ _ _, Hba.out⟩
end Go.Proofs.Ytbneibpakopllaa
