/- FailedLines by the program. Its condition: what the world must hold, the library's type of errors with it. -/
import Derived.Test.YtimmjimeldejjaaGreatDoorErD
import Derived.Test.YtimmjimeldejjaaGreatDoorDk3
import Derived.Test.YtimmjimeldejjaaGreatDoorCo3
namespace Go.Proofs.YtimmjimeldejjaaGreatDoor
open Go.RowKit
set_option linter.unusedVariables false
set_option linter.unusedSimpArgs false
set_option maxRecDepth 20000

/-- the library's own variable holds the handle of the type of errors -/
structure TyOk (w : World) : Prop where
  ty : w.cell? ⟨0, 0, none⟩ = some (.iface 165 (.agg #[.pointer (some ⟨11, 73, none⟩)]))
  low : 0 < w.heap.size
theorem TyOk.keep {w w' : World} (h : TyOk w) (hb : Below w.heap.size w w') : TyOk w' :=
  ⟨by rw [hb.cell (p := ⟨0, 0, none⟩) h.low]; exact h.ty, by have := hb.size; have := h.low; omega⟩
theorem errsF_getD (pn pw : Addr) (l : List Ans) : ∀ (j k : Nat), k < l.length → (errsF pn pw j l).getD k undef = erV ((j + k + 1 : Nat) : Int) pn pw (l.getD k .what) := by
  induction l with
  | nil => intro j k h; simp at h
  | cons x l ih =>
    intro j k h
    cases k with
    | zero => rfl
    | succ k =>
      have := ih (j + 1) k (by simpa using h)
      simp only [errsF, List.getD_cons_succ]
      rw [this, show j + 1 + k + 1 = j + (k + 1) + 1 by omega]
set_option maxHeartbeats 6400000 in
theorem impl_FailedLines (pn pw : Addr) (s : ByteArray) (w : World) (hs : s.size ≤ 1048576) (hd : DkOk w pn pw) (hT : TyOk w) :
    Calls Tryz.prog 22 #[.string s] w fun e w' => ∃ a m c, e = .returned (.tuple #[.slice a m c, .bool (mFailedLines s.data.toList).2]) ∧ Own w.heap.size w'.heap.size w' a m c (mFailedLines s.data.toList).1 ∧ Below w.heap.size w w' := by
  have hcon := deskBehind_any pn pw s w hs hd
  unfold DbPost at hcon
  rw [mFL_resS]
  simp only
  have hlen := dkRes_len s.data.toList
  generalize (linesS s.data.toList).isSome = ok at *
  obtain ⟨As, hAs⟩ : ∃ As, As = (dkRes s.data.toList).2 := ⟨_, rfl⟩
  rw [← hAs] at hcon hlen ⊢
  have hcon2 := hcon.mono (R' := fun e w' => ∃ pa pk pc ra rn rc ea en ec, e = .returned (.tuple #[.agg #[.slice pa pk pc, .slice ra rn rc, .slice ea en ec], .bool ok]) ∧ OwnRow w.heap.size w'.heap.size w' 73 ea en ec (errsF pn pw 0 As) ∧ Below w.heap.size w w')
    (fun e w' ⟨pa, pk, pc, ra, rn, rc, ea, en, ec, e1, _, _, e4, e5⟩ => ⟨pa, pk, pc, ra, rn, rc, ea, en, ec, e1, e4, e5⟩)
  clear hs hcon hd hAs
  have Hcon2 := Lib.hid hcon2; clear hcon2
  go_enter Tryz.func22, Tryz.ntmps22
  go_wp2_with fail
  with_reducible refine (Hcon2.out).mono ?_
  rintro e w1 ⟨pa, pk, pc, ra, rn, rc, ea, en, ec, rfl, hE, hb1⟩
  obtain ⟨w2, hw2⟩ : ∃ w2, w2 = w1.alloc (.cells #[.slice pa pk pc, .slice ra rn rc, .slice ea en ec] 58) := ⟨_, rfl⟩
  have hbD : Below w1.heap.size w1 w2 := hw2 ▸ belowAlloc w1 _
  have D2 : DkB w2 w1.heap.size pa pk pc ra rn rc ea en ec := hw2 ▸ DkB.new w1 pa pk pc ra rn rc ea en ec
  have hal : As.length = en := by have := hE.length; rw [errsF_length] at this; exact this
  have hen8 : (en : Int) ≤ 50 := by omega
  have hb2 := belowTrans hb1 hbD (Nat.le_refl _)
  have hv : ValsAt w2 ea en ec (errsF pn pw 0 As) := (hE.keep hbD).at
  have hty2 := hT.keep hb2
  have hsz2 := hb2.size
  obtain ⟨⟨x0, x1, x2⟩, y0, y1, y2⟩ := D2.cells
  clear hE hb1 hbD hT D2
  have Hb2 := Lib.hid hb2; clear hb2
  have Hty2 := Lib.hid hty2; clear hty2
  subst hw2
  go_wp2_with fail
  generalize hw2 : w1.alloc (.cells #[.slice pa pk pc, .slice ra rn rc, .slice ea en ec] 58) = w2 at *
  go_loopw [6, 18] (fun v i wr => ∃ (k m : Nat) (a : Option Addr) (c : Nat), k ≤ en ∧ m ≤ k ∧ i = .int .i64 k ∧ v = .slice a m c ∧ Hid (Own w2.heap.size wr.heap.size wr a m c (failF 0 (As.take k)) ∧ Below w2.heap.size w2 wr)) (fun _ i _ => en - (intOf i).toNat)
  case atStart => exact ⟨0, 0, none, 0, Nat.zero_le _, Nat.le_refl _, rfl, rfl, Lib.hid ⟨Own.nil _ _ _, Below.refl _ _⟩⟩
  case round =>
    obtain ⟨k, m, a, c, hk, hm, rfl, rfl, Hq⟩ := hrel
    obtain ⟨hF, hbr⟩ := Hq.out
    by_cases hlt : k < en
    · have hvr := hv.keep hbr
      obtain ⟨b', o', rfl, hbl, hcl⟩ := hvr.cell k hlt
      have hck := hcl k hlt
      rw [errsF_getD pn pw As 0 k (by omega), Nat.zero_add] at hck
      have hst := failF_step hal hlt
      have hbA := belowAlloc wr (.cells #[.int .i64 0, .nilIface] 75)
      have bA : (wr.alloc (.cells #[.int .i64 0, .nilIface] 75)).heap[wr.heap.size]? = some (.cells #[.int .i64 0, .nilIface] 75 (0, 0)) := allocNew wr _
      have hba := belowTrans hbr hbA (Nat.le_refl _)
      have hFA := (hF.keep hbA).mono (Nat.le_refl _) hbA.size
      have hrsz := hbr.size
      have htyA := (Hty2.out).keep hba
      clear hcl hvr Hq
      cases hx : As.getD k .what with
      | ok t =>
        rw [hx] at hck hst
        rw [if_neg (by simp [badA]), List.append_nil] at hst
        simp only [erV] at hck
        have hq2 : Hid (Own w2.heap.size (wr.alloc (.cells #[.int .i64 0, .nilIface] 75)).heap.size (wr.alloc (.cells #[.int .i64 0, .nilIface] 75)) a m c (failF 0 (As.take (k + 1))) ∧ Below w2.heap.size w2 (wr.alloc (.cells #[.int .i64 0, .nilIface] 75))) := Lib.hid ⟨by rw [hst]; exact hFA, hba⟩
        have hcon := as_nil (.iface 77 (.pointer (some ⟨wr.heap.size, 0, none⟩))) (wr.alloc (.cells #[.int .i64 0, .nilIface] 75))
        clear hst hF hbr hx hbA bA hba hFA htyA
        have Hcon := Lib.hid hcon; clear hcon
        go_wp2_with fail
        with_reducible refine (Hcon.out).mono ?_
        rintro e w4 ⟨rfl, rfl⟩
        go_wp2
        go_roundw
        case rel => exact ⟨k + 1, m, a, c, by omega, by omega, by go_num, rfl, hq2⟩
        case measure => simp [intOf]; omega
      | no =>
        rw [hx] at hck hst
        rw [if_pos (by simp [badA])] at hst
        simp only [erV, errV] at hck
        have hcon := As_bad ((k + 1 : Nat) : Int) pn wr.heap.size _ _ (wr.alloc (.cells #[.int .i64 0, .nilIface] 75)) bA htyA.ty htyA.low
        have hm8 : m ≤ 50 := by omega
        have hk8 : ((k + 1 : Nat) : Int) ≤ 50 := by omega
        have hgF : w2.heap.size ≤ wr.heap.size := hrsz
        have hkeep := fun w4 (hc : Chg (fun q => q = wr.heap.size) (wr.alloc (.cells #[.int .i64 0, .nilIface] 75)) w4) => (⟨(hF.keep hbA).chg hc (fun q h1 h2 _ e => by omega), hba.trans (hc.below hba.size (fun q e => by omega))⟩ : Own w2.heap.size wr.heap.size w4 a m c (failF 0 (As.take k)) ∧ Below w2.heap.size w2 w4)
        generalize hkk : ((k + 1 : Nat) : Int) = K at *
        clear hF hbr hx hbA bA hba hFA htyA
        have Hcon := Lib.hid hcon; clear hcon
        have Hkeep := Lib.hid hkeep; clear hkeep
        have Hst := Lib.hid hst; clear hst
        have Hkk := Lib.hid hkk; clear hkk
        go_wp2_with fail
        with_reducible refine (Hcon.out).mono ?_
        rintro e w4 ⟨rfl, q1, q2⟩
        obtain ⟨hF4, hb4⟩ := Hkeep.out w4 q2
        have z0 := (cellOfB q1 0 _ rfl).1
        have hs4 := q2.size
        have hs4' : wr.heap.size ≤ w4.heap.size := by simp at hs4; omega
        clear q1 q2 hs4
        go_wp2_with (at_builtin; refine wpList_push w4 rfl _ _ rfl w2.heap.size wr.heap.size a m c _ rfl hF4 _ rfl (by omega) hb4.size ?_)
        intro a5 c5 w5 ho5 hc5
        have hb5 := hb4.trans (hF4.chgBelow hc5 hb4.size)
        have hq5 : Hid (Own w2.heap.size w5.heap.size w5 a5 (m + 1) c5 (failF 0 (As.take (k + 1))) ∧ Below w2.heap.size w2 w5) := Lib.hid ⟨by rw [Hst.out]; exact ho5, hb5⟩
        clear hF4 hb4 ho5 hc5 hb5
        go_wp2
        go_roundw
        case rel => exact ⟨k + 1, m + 1, a5, c5, by omega, by omega, by go_num, rfl, hq5⟩
        case measure => simp [intOf]; omega
      | what =>
        rw [hx] at hck hst
        rw [if_pos (by simp [badA])] at hst
        simp only [erV, errV] at hck
        have hcon := As_bad ((k + 1 : Nat) : Int) pw wr.heap.size _ _ (wr.alloc (.cells #[.int .i64 0, .nilIface] 75)) bA htyA.ty htyA.low
        have hm8 : m ≤ 50 := by omega
        have hk8 : ((k + 1 : Nat) : Int) ≤ 50 := by omega
        have hgF : w2.heap.size ≤ wr.heap.size := hrsz
        have hkeep := fun w4 (hc : Chg (fun q => q = wr.heap.size) (wr.alloc (.cells #[.int .i64 0, .nilIface] 75)) w4) => (⟨(hF.keep hbA).chg hc (fun q h1 h2 _ e => by omega), hba.trans (hc.below hba.size (fun q e => by omega))⟩ : Own w2.heap.size wr.heap.size w4 a m c (failF 0 (As.take k)) ∧ Below w2.heap.size w2 w4)
        generalize hkk : ((k + 1 : Nat) : Int) = K at *
        clear hF hbr hx hbA bA hba hFA htyA
        have Hcon := Lib.hid hcon; clear hcon
        have Hkeep := Lib.hid hkeep; clear hkeep
        have Hst := Lib.hid hst; clear hst
        have Hkk := Lib.hid hkk; clear hkk
        go_wp2_with fail
        with_reducible refine (Hcon.out).mono ?_
        rintro e w4 ⟨rfl, q1, q2⟩
        obtain ⟨hF4, hb4⟩ := Hkeep.out w4 q2
        have z0 := (cellOfB q1 0 _ rfl).1
        have hs4 := q2.size
        have hs4' : wr.heap.size ≤ w4.heap.size := by simp at hs4; omega
        clear q1 q2 hs4
        go_wp2_with (at_builtin; refine wpList_push w4 rfl _ _ rfl w2.heap.size wr.heap.size a m c _ rfl hF4 _ rfl (by omega) hb4.size ?_)
        intro a5 c5 w5 ho5 hc5
        have hb5 := hb4.trans (hF4.chgBelow hc5 hb4.size)
        have hq5 : Hid (Own w2.heap.size w5.heap.size w5 a5 (m + 1) c5 (failF 0 (As.take (k + 1))) ∧ Below w2.heap.size w2 w5) := Lib.hid ⟨by rw [Hst.out]; exact ho5, hb5⟩
        clear hF4 hb4 ho5 hc5 hb5
        go_wp2
        go_roundw
        case rel => exact ⟨k + 1, m + 1, a5, c5, by omega, by omega, by go_num, rfl, hq5⟩
        case measure => simp [intOf]; omega
    · obtain rfl : k = en := by omega
      have htk : As.take k = As := List.take_of_length_le (by omega)
      rw [htk] at hF
      have hbw := belowTrans Hb2.out hbr (Nat.le_refl _)
      have hF2 := hF.mono hsz2 (Nat.le_refl _)
      clear hF hbr Hq htk
      have HF2 := Lib.hid hF2; clear hF2
      have Hbw := Lib.hid hbw; clear hbw
      go_wp2
      go_ret2
      exact ⟨a, m, c, rfl, HF2.out, Hbw.out⟩
end Go.Proofs.YtimmjimeldejjaaGreatDoor
