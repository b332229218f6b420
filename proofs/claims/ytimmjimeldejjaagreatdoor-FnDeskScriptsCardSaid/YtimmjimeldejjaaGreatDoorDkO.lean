/- The console by the program: orders that change the piles. No condition but what the world must hold. -/
import Derived.Test.YtimmjimeldejjaaGreatDoorDk2
namespace Go.Proofs.YtimmjimeldejjaaGreatDoor
open Go.RowKit
set_option linter.unusedVariables false
set_option linter.unusedSimpArgs false
set_option maxRecDepth 20000

section
variable {w0 w : World} {g : Nat} {pa : Option Addr} {pk pc : Nat} {ra : Option Addr} {rn rc : Nat} {ea : Option Addr} {en ec : Nat}
set_option maxHeartbeats 3200000 in
theorem obey_take (pn pw : Addr) (hd : DkOk w0 pn pw) (h0 : Below w0.heap.size w0 w) (hg0 : w0.heap.size ≤ g) (D : DkB w g pa pk pc ra rn rc ea en ec) {a : List Int} (ha : Good a) (hP : Own w0.heap.size w.heap.size w pa pk pc a)
    {wa : Option Addr} {wn wc : Nat} {r : List (List UInt8)} (hW : ValsAt w wa wn wc (strVs r)) (hw : wn ≤ 4000) (hr : ∀ t ∈ r, t.length ≤ 1048576) :
    Calls Tryz.prog 66 #[.pointer (some ⟨g, 0, none⟩), .string ⟨#[116, 97, 107, 101]⟩, .slice wa wn wc] w fun e w' => ∃ s E, e = .returned (.tuple #[.string s, E]) ∧ ObRest pn pw g w0.heap.size (wordsA a (wordO .take :: r)) ra rn rc ea en ec w s E w' := by
  have hgd : Good (wordsA a (wordO .take :: r)).1 := words_good ha _
  have hrl : r.length = wn := by have := hW.length; simpa [strVs] using this
  have hX := w_take a r
  have hbx := belowAlloc w (.cells #[.pointer (some ⟨g, 0, none⟩)] 89)
  have bx : (w.alloc (.cells #[.pointer (some ⟨g, 0, none⟩)] 89)).cell? ⟨w.heap.size, 0, none⟩ = some (.pointer (some ⟨g, 0, none⟩)) := (World.cell?_alloc_at _ _ _ _ rfl).trans rfl
  have hbd := hbx.drew
  have bx1 : (w.alloc (.cells #[.pointer (some ⟨g, 0, none⟩)] 89)).drew.cell? ⟨w.heap.size, 0, none⟩ = some (.pointer (some ⟨g, 0, none⟩)) := bx
  have D1 : DkB (w.alloc (.cells #[.pointer (some ⟨g, 0, none⟩)] 89)).drew g pa pk pc ra rn rc ea en ec := (D.keep hbx).drew
  have hP1 : Own w0.heap.size w.heap.size (w.alloc (.cells #[.pointer (some ⟨g, 0, none⟩)] 89)).drew pa pk pc a := hP.keep hbd
  have h1 := belowTrans h0 hbd (Nat.le_refl _)
  have hcon := ofWord_take pn pw wa wn wc r (w.alloc (.cells #[.pointer (some ⟨g, 0, none⟩)] 89)).drew (hd.keep h1) (hW.keep hbd) hw hr
  generalize wordsA a (wordO .take :: r) = X at hX hgd ⊢
  have hcon2 := hcon.mono (R' := fun e w2 => ∃ a1 n1 c1 E, e = .returned (.tuple #[.slice a1 n1 c1, E]) ∧ w2.cell? ⟨w.heap.size, 0, none⟩ = some (.pointer (some ⟨g, 0, none⟩)) ∧ Calls Tryz.prog 92 #[.pointer (some ⟨g, 0, none⟩), .slice a1 n1 c1, E] w2 fun e w' => ∃ s E, e = .returned (.tuple #[.string s, E]) ∧ ObRest pn pw g w0.heap.size X ra rn rc ea en ec w s E w') (by
    rintro e w2 ⟨a1, n1, c1, e1, e2, e3⟩
    refine ⟨a1, n1, c1, _, e1, by rw [e3.cell (p := ⟨w.heap.size, 0, none⟩) (by simp [World.drew])]; exact bx1, ?_⟩
    have hsz := e3.size
    have hsw : w0.heap.size ≤ w.heap.size := h0.size
    have hs1 : (w.alloc (.cells #[.pointer (some ⟨g, 0, none⟩)] 89)).drew.heap.size = w.heap.size + 1 := by simp [World.drew]
    refine (become_any pn pw hd (belowTrans h1 e3 (by omega)) hg0 (D1.keep e3) ((hP1.keep e3).mono (Nat.le_refl _) (by omega)) hX hgd (fun x hx => (e2 x hx).mono (by omega) (Nat.le_refl _))).mono ?_
    rintro e w3 ⟨s, E, f1, f2⟩
    exact ⟨s, E, f1, (f2.behind e3).behind hbd⟩)
  obtain ⟨⟨x0, x1, x2⟩, y0, y1, y2⟩ := (D.keep hbx).cells
  clear hcon hX D hP hd h0 hW hr hbx hbd D1 hP1 h1
  have Hcon2 := Lib.hid hcon2; clear hcon2
  have Hgd := Lib.hid hgd; clear hgd
  go_enter Tryz.func66, Tryz.ntmps66
  go_wp2_with fail
  go_region_law (first | (go_simp; with_reducible refine (Hcon2.out).mono ?_; rintro e w2 ⟨a1, n1, c1, E, rfl, hbx2, hbe⟩; have Hbe := Lib.hid hbe; clear hbe) | (go_simp; with_reducible refine (Hbe.out).mono ?_; rintro e w3 ⟨s3, E3, rfl, hq⟩; have Hq := Lib.hid hq; clear hq))
  all_goals
    go_wp2
    go_ret2
    exact ⟨_, _, rfl, Hq.out⟩
set_option maxHeartbeats 3200000 in
theorem obey_step (pn pw : Addr) (hd : DkOk w0 pn pw) (h0 : Below w0.heap.size w0 w) (hg0 : w0.heap.size ≤ g) (D : DkB w g pa pk pc ra rn rc ea en ec) {a : List Int} (ha : Good a) (hP : Own w0.heap.size w.heap.size w pa pk pc a)
    {wa : Option Addr} {wn wc : Nat} {r : List (List UInt8)} (hW : ValsAt w wa wn wc (strVs r)) (hw : wn ≤ 4000) (hr : ∀ t ∈ r, t.length ≤ 1048576) :
    Calls Tryz.prog 66 #[.pointer (some ⟨g, 0, none⟩), .string ⟨#[115, 116, 101, 112]⟩, .slice wa wn wc] w fun e w' => ∃ s E, e = .returned (.tuple #[.string s, E]) ∧ ObRest pn pw g w0.heap.size (wordsA a (wordO .step :: r)) ra rn rc ea en ec w s E w' := by
  have hgd : Good (wordsA a (wordO .step :: r)).1 := words_good ha _
  have hrl : r.length = wn := by have := hW.length; simpa [strVs] using this
  have hX := w_z (o := .step) (a := a) rfl (x := mStepPiles a) rfl r
  rw [hrl] at hX
  have hbx := belowAlloc w (.cells #[.pointer (some ⟨g, 0, none⟩)] 89)
  have bx : (w.alloc (.cells #[.pointer (some ⟨g, 0, none⟩)] 89)).cell? ⟨w.heap.size, 0, none⟩ = some (.pointer (some ⟨g, 0, none⟩)) := (World.cell?_alloc_at _ _ _ _ rfl).trans rfl
  have hbd := hbx.drew
  have bx1 : (w.alloc (.cells #[.pointer (some ⟨g, 0, none⟩)] 89)).drew.cell? ⟨w.heap.size, 0, none⟩ = some (.pointer (some ⟨g, 0, none⟩)) := bx
  have D1 : DkB (w.alloc (.cells #[.pointer (some ⟨g, 0, none⟩)] 89)).drew g pa pk pc ra rn rc ea en ec := (D.keep hbx).drew
  have hP1 : Own w0.heap.size w.heap.size (w.alloc (.cells #[.pointer (some ⟨g, 0, none⟩)] 89)).drew pa pk pc a := hP.keep hbd
  have h1 := belowTrans h0 hbd (Nat.le_refl _)
  have hcon := ofNo_StepPiles pn pw wa wn wc pa pk pc a (w.alloc (.cells #[.pointer (some ⟨g, 0, none⟩)] 89)).drew (hd.keep h1) hw hP1.at
  generalize wordsA a (wordO .step :: r) = X at hX hgd ⊢
  have hcon2 := hcon.mono (R' := fun e w2 => ∃ a1 n1 c1 E, e = .returned (.tuple #[.slice a1 n1 c1, E]) ∧ w2.cell? ⟨w.heap.size, 0, none⟩ = some (.pointer (some ⟨g, 0, none⟩)) ∧ Calls Tryz.prog 92 #[.pointer (some ⟨g, 0, none⟩), .slice a1 n1 c1, E] w2 fun e w' => ∃ s E, e = .returned (.tuple #[.string s, E]) ∧ ObRest pn pw g w0.heap.size X ra rn rc ea en ec w s E w') (by
    rintro e w2 ⟨a1, n1, c1, e1, e2, e3⟩
    refine ⟨a1, n1, c1, _, e1, by rw [e3.cell (p := ⟨w.heap.size, 0, none⟩) (by simp [World.drew])]; exact bx1, ?_⟩
    have hsz := e3.size
    have hsw : w0.heap.size ≤ w.heap.size := h0.size
    have hs1 : (w.alloc (.cells #[.pointer (some ⟨g, 0, none⟩)] 89)).drew.heap.size = w.heap.size + 1 := by simp [World.drew]
    refine (become_any pn pw hd (belowTrans h1 e3 (by omega)) hg0 (D1.keep e3) ((hP1.keep e3).mono (Nat.le_refl _) (by omega)) hX hgd (fun x hx => (e2 x hx).mono (by omega) (Nat.le_refl _))).mono ?_
    rintro e w3 ⟨s, E, f1, f2⟩
    exact ⟨s, E, f1, (f2.behind e3).behind hbd⟩)
  obtain ⟨⟨x0, x1, x2⟩, y0, y1, y2⟩ := (D.keep hbx).cells
  clear hcon hX D hP hd h0 hW hr hbx hbd D1 hP1 h1
  have Hcon2 := Lib.hid hcon2; clear hcon2
  have Hgd := Lib.hid hgd; clear hgd
  go_enter Tryz.func66, Tryz.ntmps66
  go_wp2_with fail
  go_region_law (first | (go_simp; with_reducible refine (Hcon2.out).mono ?_; rintro e w2 ⟨a1, n1, c1, E, rfl, hbx2, hbe⟩; have Hbe := Lib.hid hbe; clear hbe) | (go_simp; with_reducible refine (Hbe.out).mono ?_; rintro e w3 ⟨s3, E3, rfl, hq⟩; have Hq := Lib.hid hq; clear hq))
  all_goals
    go_wp2
    go_ret2
    exact ⟨_, _, rfl, Hq.out⟩
set_option maxHeartbeats 3200000 in
theorem obey_side (pn pw : Addr) (hd : DkOk w0 pn pw) (h0 : Below w0.heap.size w0 w) (hg0 : w0.heap.size ≤ g) (D : DkB w g pa pk pc ra rn rc ea en ec) {a : List Int} (ha : Good a) (hP : Own w0.heap.size w.heap.size w pa pk pc a)
    {wa : Option Addr} {wn wc : Nat} {r : List (List UInt8)} (hW : ValsAt w wa wn wc (strVs r)) (hw : wn ≤ 4000) (hr : ∀ t ∈ r, t.length ≤ 1048576) :
    Calls Tryz.prog 66 #[.pointer (some ⟨g, 0, none⟩), .string ⟨#[115, 105, 100, 101]⟩, .slice wa wn wc] w fun e w' => ∃ s E, e = .returned (.tuple #[.string s, E]) ∧ ObRest pn pw g w0.heap.size (wordsA a (wordO .side :: r)) ra rn rc ea en ec w s E w' := by
  have hgd : Good (wordsA a (wordO .side :: r)).1 := words_good ha _
  have hrl : r.length = wn := by have := hW.length; simpa [strVs] using this
  have hX := w_z (o := .side) (a := a) rfl (x := mSideOf a) rfl r
  rw [hrl] at hX
  have hbx := belowAlloc w (.cells #[.pointer (some ⟨g, 0, none⟩)] 89)
  have bx : (w.alloc (.cells #[.pointer (some ⟨g, 0, none⟩)] 89)).cell? ⟨w.heap.size, 0, none⟩ = some (.pointer (some ⟨g, 0, none⟩)) := (World.cell?_alloc_at _ _ _ _ rfl).trans rfl
  have hbd := hbx.drew
  have bx1 : (w.alloc (.cells #[.pointer (some ⟨g, 0, none⟩)] 89)).drew.cell? ⟨w.heap.size, 0, none⟩ = some (.pointer (some ⟨g, 0, none⟩)) := bx
  have D1 : DkB (w.alloc (.cells #[.pointer (some ⟨g, 0, none⟩)] 89)).drew g pa pk pc ra rn rc ea en ec := (D.keep hbx).drew
  have hP1 : Own w0.heap.size w.heap.size (w.alloc (.cells #[.pointer (some ⟨g, 0, none⟩)] 89)).drew pa pk pc a := hP.keep hbd
  have h1 := belowTrans h0 hbd (Nat.le_refl _)
  have hcon := ofNo_SideOf pn pw wa wn wc pa pk pc a (w.alloc (.cells #[.pointer (some ⟨g, 0, none⟩)] 89)).drew (hd.keep h1) hw hP1.at
  generalize wordsA a (wordO .side :: r) = X at hX hgd ⊢
  have hcon2 := hcon.mono (R' := fun e w2 => ∃ a1 n1 c1 E, e = .returned (.tuple #[.slice a1 n1 c1, E]) ∧ w2.cell? ⟨w.heap.size, 0, none⟩ = some (.pointer (some ⟨g, 0, none⟩)) ∧ Calls Tryz.prog 92 #[.pointer (some ⟨g, 0, none⟩), .slice a1 n1 c1, E] w2 fun e w' => ∃ s E, e = .returned (.tuple #[.string s, E]) ∧ ObRest pn pw g w0.heap.size X ra rn rc ea en ec w s E w') (by
    rintro e w2 ⟨a1, n1, c1, e1, e2, e3⟩
    refine ⟨a1, n1, c1, _, e1, by rw [e3.cell (p := ⟨w.heap.size, 0, none⟩) (by simp [World.drew])]; exact bx1, ?_⟩
    have hsz := e3.size
    have hsw : w0.heap.size ≤ w.heap.size := h0.size
    have hs1 : (w.alloc (.cells #[.pointer (some ⟨g, 0, none⟩)] 89)).drew.heap.size = w.heap.size + 1 := by simp [World.drew]
    refine (become_any pn pw hd (belowTrans h1 e3 (by omega)) hg0 (D1.keep e3) ((hP1.keep e3).mono (Nat.le_refl _) (by omega)) hX hgd (fun x hx => (e2 x hx).mono (by omega) (Nat.le_refl _))).mono ?_
    rintro e w3 ⟨s, E, f1, f2⟩
    exact ⟨s, E, f1, (f2.behind e3).behind hbd⟩)
  obtain ⟨⟨x0, x1, x2⟩, y0, y1, y2⟩ := (D.keep hbx).cells
  clear hcon hX D hP hd h0 hW hr hbx hbd D1 hP1 h1
  have Hcon2 := Lib.hid hcon2; clear hcon2
  have Hgd := Lib.hid hgd; clear hgd
  go_enter Tryz.func66, Tryz.ntmps66
  go_wp2_with fail
  go_region_law (first | (go_simp; with_reducible refine (Hcon2.out).mono ?_; rintro e w2 ⟨a1, n1, c1, E, rfl, hbx2, hbe⟩; have Hbe := Lib.hid hbe; clear hbe) | (go_simp; with_reducible refine (Hbe.out).mono ?_; rintro e w3 ⟨s3, E3, rfl, hq⟩; have Hq := Lib.hid hq; clear hq))
  all_goals
    go_wp2
    go_ret2
    exact ⟨_, _, rfl, Hq.out⟩
set_option maxHeartbeats 3200000 in
theorem obey_steps (pn pw : Addr) (hd : DkOk w0 pn pw) (h0 : Below w0.heap.size w0 w) (hg0 : w0.heap.size ≤ g) (D : DkB w g pa pk pc ra rn rc ea en ec) {a : List Int} (ha : Good a) (hP : Own w0.heap.size w.heap.size w pa pk pc a)
    {wa : Option Addr} {wn wc : Nat} {r : List (List UInt8)} (hW : ValsAt w wa wn wc (strVs r)) (hw : wn ≤ 4000) (hr : ∀ t ∈ r, t.length ≤ 1048576) :
    Calls Tryz.prog 66 #[.pointer (some ⟨g, 0, none⟩), .string ⟨#[115, 116, 101, 112, 115]⟩, .slice wa wn wc] w fun e w' => ∃ s E, e = .returned (.tuple #[.string s, E]) ∧ ObRest pn pw g w0.heap.size (wordsA a (wordO .steps :: r)) ra rn rc ea en ec w s E w' := by
  have hgd : Good (wordsA a (wordO .steps :: r)).1 := words_good ha _
  have hrl : r.length = wn := by have := hW.length; simpa [strVs] using this
  have hX := w_steps a r
  have hbx := belowAlloc w (.cells #[.pointer (some ⟨g, 0, none⟩)] 89)
  have bx : (w.alloc (.cells #[.pointer (some ⟨g, 0, none⟩)] 89)).cell? ⟨w.heap.size, 0, none⟩ = some (.pointer (some ⟨g, 0, none⟩)) := (World.cell?_alloc_at _ _ _ _ rfl).trans rfl
  have hbd := hbx.drew
  have bx1 : (w.alloc (.cells #[.pointer (some ⟨g, 0, none⟩)] 89)).drew.cell? ⟨w.heap.size, 0, none⟩ = some (.pointer (some ⟨g, 0, none⟩)) := bx
  have D1 : DkB (w.alloc (.cells #[.pointer (some ⟨g, 0, none⟩)] 89)).drew g pa pk pc ra rn rc ea en ec := (D.keep hbx).drew
  have hP1 : Own w0.heap.size w.heap.size (w.alloc (.cells #[.pointer (some ⟨g, 0, none⟩)] 89)).drew pa pk pc a := hP.keep hbd
  have h1 := belowTrans h0 hbd (Nat.le_refl _)
  have hcon := ofWord_steps pn pw wa wn wc r (w.alloc (.cells #[.pointer (some ⟨g, 0, none⟩)] 89)).drew (hd.keep h1) (hW.keep hbd) hw hr w.heap.size g pa pk pc a bx1 D1.cells.1.1 (by simp [World.drew]) (by have := D.size; simp [World.drew]; omega) hP1.at
  generalize wordsA a (wordO .steps :: r) = X at hX hgd ⊢
  have hcon2 := hcon.mono (R' := fun e w2 => ∃ a1 n1 c1 E, e = .returned (.tuple #[.slice a1 n1 c1, E]) ∧ w2.cell? ⟨w.heap.size, 0, none⟩ = some (.pointer (some ⟨g, 0, none⟩)) ∧ Calls Tryz.prog 92 #[.pointer (some ⟨g, 0, none⟩), .slice a1 n1 c1, E] w2 fun e w' => ∃ s E, e = .returned (.tuple #[.string s, E]) ∧ ObRest pn pw g w0.heap.size X ra rn rc ea en ec w s E w') (by
    rintro e w2 ⟨a1, n1, c1, e1, e2, e3⟩
    refine ⟨a1, n1, c1, _, e1, by rw [e3.cell (p := ⟨w.heap.size, 0, none⟩) (by simp [World.drew])]; exact bx1, ?_⟩
    have hsz := e3.size
    have hsw : w0.heap.size ≤ w.heap.size := h0.size
    have hs1 : (w.alloc (.cells #[.pointer (some ⟨g, 0, none⟩)] 89)).drew.heap.size = w.heap.size + 1 := by simp [World.drew]
    refine (become_any pn pw hd (belowTrans h1 e3 (by omega)) hg0 (D1.keep e3) ((hP1.keep e3).mono (Nat.le_refl _) (by omega)) hX hgd (fun x hx => (e2 x hx).mono (by omega) (Nat.le_refl _))).mono ?_
    rintro e w3 ⟨s, E, f1, f2⟩
    exact ⟨s, E, f1, (f2.behind e3).behind hbd⟩)
  obtain ⟨⟨x0, x1, x2⟩, y0, y1, y2⟩ := (D.keep hbx).cells
  clear hcon hX D hP hd h0 hW hr hbx hbd D1 hP1 h1
  have Hcon2 := Lib.hid hcon2; clear hcon2
  have Hgd := Lib.hid hgd; clear hgd
  go_enter Tryz.func66, Tryz.ntmps66
  go_wp2_with fail
  go_region_law (first | (go_simp; with_reducible refine (Hcon2.out).mono ?_; rintro e w2 ⟨a1, n1, c1, E, rfl, hbx2, hbe⟩; have Hbe := Lib.hid hbe; clear hbe) | (go_simp; with_reducible refine (Hbe.out).mono ?_; rintro e w3 ⟨s3, E3, rfl, hq⟩; have Hq := Lib.hid hq; clear hq))
  all_goals
    go_wp2
    go_ret2
    exact ⟨_, _, rfl, Hq.out⟩
set_option maxHeartbeats 3200000 in
theorem obey_past (pn pw : Addr) (hd : DkOk w0 pn pw) (h0 : Below w0.heap.size w0 w) (hg0 : w0.heap.size ≤ g) (D : DkB w g pa pk pc ra rn rc ea en ec) {a : List Int} (ha : Good a) (hP : Own w0.heap.size w.heap.size w pa pk pc a)
    {wa : Option Addr} {wn wc : Nat} {r : List (List UInt8)} (hW : ValsAt w wa wn wc (strVs r)) (hw : wn ≤ 4000) (hr : ∀ t ∈ r, t.length ≤ 1048576) :
    Calls Tryz.prog 66 #[.pointer (some ⟨g, 0, none⟩), .string ⟨#[112, 97, 115, 116]⟩, .slice wa wn wc] w fun e w' => ∃ s E, e = .returned (.tuple #[.string s, E]) ∧ ObRest pn pw g w0.heap.size (wordsA a (wordO .past :: r)) ra rn rc ea en ec w s E w' := by
  have hgd : Good (wordsA a (wordO .past :: r)).1 := words_good ha _
  have hrl : r.length = wn := by have := hW.length; simpa [strVs] using this
  have hX := w_past a r
  have hbx := belowAlloc w (.cells #[.pointer (some ⟨g, 0, none⟩)] 89)
  have bx : (w.alloc (.cells #[.pointer (some ⟨g, 0, none⟩)] 89)).cell? ⟨w.heap.size, 0, none⟩ = some (.pointer (some ⟨g, 0, none⟩)) := (World.cell?_alloc_at _ _ _ _ rfl).trans rfl
  have hbd := hbx.drew
  have bx1 : (w.alloc (.cells #[.pointer (some ⟨g, 0, none⟩)] 89)).drew.cell? ⟨w.heap.size, 0, none⟩ = some (.pointer (some ⟨g, 0, none⟩)) := bx
  have D1 : DkB (w.alloc (.cells #[.pointer (some ⟨g, 0, none⟩)] 89)).drew g pa pk pc ra rn rc ea en ec := (D.keep hbx).drew
  have hP1 : Own w0.heap.size w.heap.size (w.alloc (.cells #[.pointer (some ⟨g, 0, none⟩)] 89)).drew pa pk pc a := hP.keep hbd
  have h1 := belowTrans h0 hbd (Nat.le_refl _)
  have hcon := ofWord_past pn pw wa wn wc r (w.alloc (.cells #[.pointer (some ⟨g, 0, none⟩)] 89)).drew (hd.keep h1) (hW.keep hbd) hw hr w.heap.size g pa pk pc a bx1 D1.cells.1.1 (by simp [World.drew]) (by have := D.size; simp [World.drew]; omega) hP1.at
  generalize wordsA a (wordO .past :: r) = X at hX hgd ⊢
  have hcon2 := hcon.mono (R' := fun e w2 => ∃ a1 n1 c1 E, e = .returned (.tuple #[.slice a1 n1 c1, E]) ∧ w2.cell? ⟨w.heap.size, 0, none⟩ = some (.pointer (some ⟨g, 0, none⟩)) ∧ Calls Tryz.prog 92 #[.pointer (some ⟨g, 0, none⟩), .slice a1 n1 c1, E] w2 fun e w' => ∃ s E, e = .returned (.tuple #[.string s, E]) ∧ ObRest pn pw g w0.heap.size X ra rn rc ea en ec w s E w') (by
    rintro e w2 ⟨a1, n1, c1, e1, e2, e3⟩
    refine ⟨a1, n1, c1, _, e1, by rw [e3.cell (p := ⟨w.heap.size, 0, none⟩) (by simp [World.drew])]; exact bx1, ?_⟩
    have hsz := e3.size
    have hsw : w0.heap.size ≤ w.heap.size := h0.size
    have hs1 : (w.alloc (.cells #[.pointer (some ⟨g, 0, none⟩)] 89)).drew.heap.size = w.heap.size + 1 := by simp [World.drew]
    refine (become_any pn pw hd (belowTrans h1 e3 (by omega)) hg0 (D1.keep e3) ((hP1.keep e3).mono (Nat.le_refl _) (by omega)) hX hgd (fun x hx => (e2 x hx).mono (by omega) (Nat.le_refl _))).mono ?_
    rintro e w3 ⟨s, E, f1, f2⟩
    exact ⟨s, E, f1, (f2.behind e3).behind hbd⟩)
  obtain ⟨⟨x0, x1, x2⟩, y0, y1, y2⟩ := (D.keep hbx).cells
  clear hcon hX D hP hd h0 hW hr hbx hbd D1 hP1 h1
  have Hcon2 := Lib.hid hcon2; clear hcon2
  have Hgd := Lib.hid hgd; clear hgd
  go_enter Tryz.func66, Tryz.ntmps66
  go_wp2_with fail
  go_region_law (first | (go_simp; with_reducible refine (Hcon2.out).mono ?_; rintro e w2 ⟨a1, n1, c1, E, rfl, hbx2, hbe⟩; have Hbe := Lib.hid hbe; clear hbe) | (go_simp; with_reducible refine (Hbe.out).mono ?_; rintro e w3 ⟨s3, E3, rfl, hq⟩; have Hq := Lib.hid hq; clear hq))
  all_goals
    go_wp2
    go_ret2
    exact ⟨_, _, rfl, Hq.out⟩
set_option maxHeartbeats 3200000 in
theorem obey_stairs (pn pw : Addr) (hd : DkOk w0 pn pw) (h0 : Below w0.heap.size w0 w) (hg0 : w0.heap.size ≤ g) (D : DkB w g pa pk pc ra rn rc ea en ec) {a : List Int} (ha : Good a) (hP : Own w0.heap.size w.heap.size w pa pk pc a)
    {wa : Option Addr} {wn wc : Nat} {r : List (List UInt8)} (hW : ValsAt w wa wn wc (strVs r)) (hw : wn ≤ 4000) (hr : ∀ t ∈ r, t.length ≤ 1048576) :
    Calls Tryz.prog 66 #[.pointer (some ⟨g, 0, none⟩), .string ⟨#[115, 116, 97, 105, 114, 115]⟩, .slice wa wn wc] w fun e w' => ∃ s E, e = .returned (.tuple #[.string s, E]) ∧ ObRest pn pw g w0.heap.size (wordsA a (wordO .stairs :: r)) ra rn rc ea en ec w s E w' := by
  have hgd : Good (wordsA a (wordO .stairs :: r)).1 := words_good ha _
  have hrl : r.length = wn := by have := hW.length; simpa [strVs] using this
  have hX := w_stairs a r
  have hbx := belowAlloc w (.cells #[.pointer (some ⟨g, 0, none⟩)] 89)
  have bx : (w.alloc (.cells #[.pointer (some ⟨g, 0, none⟩)] 89)).cell? ⟨w.heap.size, 0, none⟩ = some (.pointer (some ⟨g, 0, none⟩)) := (World.cell?_alloc_at _ _ _ _ rfl).trans rfl
  have hbd := hbx.drew
  have bx1 : (w.alloc (.cells #[.pointer (some ⟨g, 0, none⟩)] 89)).drew.cell? ⟨w.heap.size, 0, none⟩ = some (.pointer (some ⟨g, 0, none⟩)) := bx
  have D1 : DkB (w.alloc (.cells #[.pointer (some ⟨g, 0, none⟩)] 89)).drew g pa pk pc ra rn rc ea en ec := (D.keep hbx).drew
  have hP1 : Own w0.heap.size w.heap.size (w.alloc (.cells #[.pointer (some ⟨g, 0, none⟩)] 89)).drew pa pk pc a := hP.keep hbd
  have h1 := belowTrans h0 hbd (Nat.le_refl _)
  have hcon := ofWord_stairs pn pw wa wn wc r (w.alloc (.cells #[.pointer (some ⟨g, 0, none⟩)] 89)).drew (hd.keep h1) (hW.keep hbd) hw hr
  generalize wordsA a (wordO .stairs :: r) = X at hX hgd ⊢
  have hcon2 := hcon.mono (R' := fun e w2 => ∃ a1 n1 c1 E, e = .returned (.tuple #[.slice a1 n1 c1, E]) ∧ w2.cell? ⟨w.heap.size, 0, none⟩ = some (.pointer (some ⟨g, 0, none⟩)) ∧ Calls Tryz.prog 92 #[.pointer (some ⟨g, 0, none⟩), .slice a1 n1 c1, E] w2 fun e w' => ∃ s E, e = .returned (.tuple #[.string s, E]) ∧ ObRest pn pw g w0.heap.size X ra rn rc ea en ec w s E w') (by
    rintro e w2 ⟨a1, n1, c1, e1, e2, e3⟩
    refine ⟨a1, n1, c1, _, e1, by rw [e3.cell (p := ⟨w.heap.size, 0, none⟩) (by simp [World.drew])]; exact bx1, ?_⟩
    have hsz := e3.size
    have hsw : w0.heap.size ≤ w.heap.size := h0.size
    have hs1 : (w.alloc (.cells #[.pointer (some ⟨g, 0, none⟩)] 89)).drew.heap.size = w.heap.size + 1 := by simp [World.drew]
    refine (become_any pn pw hd (belowTrans h1 e3 (by omega)) hg0 (D1.keep e3) ((hP1.keep e3).mono (Nat.le_refl _) (by omega)) hX hgd (fun x hx => (e2 x hx).mono (by omega) (Nat.le_refl _))).mono ?_
    rintro e w3 ⟨s, E, f1, f2⟩
    exact ⟨s, E, f1, (f2.behind e3).behind hbd⟩)
  obtain ⟨⟨x0, x1, x2⟩, y0, y1, y2⟩ := (D.keep hbx).cells
  clear hcon hX D hP hd h0 hW hr hbx hbd D1 hP1 h1
  have Hcon2 := Lib.hid hcon2; clear hcon2
  have Hgd := Lib.hid hgd; clear hgd
  go_enter Tryz.func66, Tryz.ntmps66
  go_wp2_with fail
  go_region_law (first | (go_simp; with_reducible refine (Hcon2.out).mono ?_; rintro e w2 ⟨a1, n1, c1, E, rfl, hbx2, hbe⟩; have Hbe := Lib.hid hbe; clear hbe) | (go_simp; with_reducible refine (Hbe.out).mono ?_; rintro e w3 ⟨s3, E3, rfl, hq⟩; have Hq := Lib.hid hq; clear hq))
  all_goals
    go_wp2
    go_ret2
    exact ⟨_, _, rfl, Hq.out⟩
set_option maxHeartbeats 3200000 in
theorem obey_sort (pn pw : Addr) (hd : DkOk w0 pn pw) (h0 : Below w0.heap.size w0 w) (hg0 : w0.heap.size ≤ g) (D : DkB w g pa pk pc ra rn rc ea en ec) {a : List Int} (ha : Good a) (hP : Own w0.heap.size w.heap.size w pa pk pc a)
    {wa : Option Addr} {wn wc : Nat} {r : List (List UInt8)} (hW : ValsAt w wa wn wc (strVs r)) (hw : wn ≤ 4000) (hr : ∀ t ∈ r, t.length ≤ 1048576) :
    Calls Tryz.prog 66 #[.pointer (some ⟨g, 0, none⟩), .string ⟨#[115, 111, 114, 116]⟩, .slice wa wn wc] w fun e w' => ∃ s E, e = .returned (.tuple #[.string s, E]) ∧ ObRest pn pw g w0.heap.size (wordsA a (wordO .sort :: r)) ra rn rc ea en ec w s E w' := by
  have hgd : Good (wordsA a (wordO .sort :: r)).1 := words_good ha _
  have hrl : r.length = wn := by have := hW.length; simpa [strVs] using this
  have hX := w_sort a r
  have hbx := belowAlloc w (.cells #[.pointer (some ⟨g, 0, none⟩)] 89)
  have bx : (w.alloc (.cells #[.pointer (some ⟨g, 0, none⟩)] 89)).cell? ⟨w.heap.size, 0, none⟩ = some (.pointer (some ⟨g, 0, none⟩)) := (World.cell?_alloc_at _ _ _ _ rfl).trans rfl
  have hbd := hbx.drew
  have bx1 : (w.alloc (.cells #[.pointer (some ⟨g, 0, none⟩)] 89)).drew.cell? ⟨w.heap.size, 0, none⟩ = some (.pointer (some ⟨g, 0, none⟩)) := bx
  have D1 : DkB (w.alloc (.cells #[.pointer (some ⟨g, 0, none⟩)] 89)).drew g pa pk pc ra rn rc ea en ec := (D.keep hbx).drew
  have hP1 : Own w0.heap.size w.heap.size (w.alloc (.cells #[.pointer (some ⟨g, 0, none⟩)] 89)).drew pa pk pc a := hP.keep hbd
  have h1 := belowTrans h0 hbd (Nat.le_refl _)
  have hcon := ofWord_sort pn pw wa wn wc r (w.alloc (.cells #[.pointer (some ⟨g, 0, none⟩)] 89)).drew (hd.keep h1) (hW.keep hbd) hw hr
  generalize wordsA a (wordO .sort :: r) = X at hX hgd ⊢
  have hcon2 := hcon.mono (R' := fun e w2 => ∃ a1 n1 c1 E, e = .returned (.tuple #[.slice a1 n1 c1, E]) ∧ w2.cell? ⟨w.heap.size, 0, none⟩ = some (.pointer (some ⟨g, 0, none⟩)) ∧ Calls Tryz.prog 92 #[.pointer (some ⟨g, 0, none⟩), .slice a1 n1 c1, E] w2 fun e w' => ∃ s E, e = .returned (.tuple #[.string s, E]) ∧ ObRest pn pw g w0.heap.size X ra rn rc ea en ec w s E w') (by
    rintro e w2 ⟨a1, n1, c1, e1, e2, e3⟩
    refine ⟨a1, n1, c1, _, e1, by rw [e3.cell (p := ⟨w.heap.size, 0, none⟩) (by simp [World.drew])]; exact bx1, ?_⟩
    have hsz := e3.size
    have hsw : w0.heap.size ≤ w.heap.size := h0.size
    have hs1 : (w.alloc (.cells #[.pointer (some ⟨g, 0, none⟩)] 89)).drew.heap.size = w.heap.size + 1 := by simp [World.drew]
    refine (become_any pn pw hd (belowTrans h1 e3 (by omega)) hg0 (D1.keep e3) ((hP1.keep e3).mono (Nat.le_refl _) (by omega)) hX hgd (fun x hx => (e2 x hx).mono (by omega) (Nat.le_refl _))).mono ?_
    rintro e w3 ⟨s, E, f1, f2⟩
    exact ⟨s, E, f1, (f2.behind e3).behind hbd⟩)
  obtain ⟨⟨x0, x1, x2⟩, y0, y1, y2⟩ := (D.keep hbx).cells
  clear hcon hX D hP hd h0 hW hr hbx hbd D1 hP1 h1
  have Hcon2 := Lib.hid hcon2; clear hcon2
  have Hgd := Lib.hid hgd; clear hgd
  go_enter Tryz.func66, Tryz.ntmps66
  go_wp2_with fail
  go_region_law (first | (go_simp; with_reducible refine (Hcon2.out).mono ?_; rintro e w2 ⟨a1, n1, c1, E, rfl, hbx2, hbe⟩; have Hbe := Lib.hid hbe; clear hbe) | (go_simp; with_reducible refine (Hbe.out).mono ?_; rintro e w3 ⟨s3, E3, rfl, hq⟩; have Hq := Lib.hid hq; clear hq))
  all_goals
    go_wp2
    go_ret2
    exact ⟨_, _, rfl, Hq.out⟩
end
end Go.Proofs.YtimmjimeldejjaaGreatDoor
