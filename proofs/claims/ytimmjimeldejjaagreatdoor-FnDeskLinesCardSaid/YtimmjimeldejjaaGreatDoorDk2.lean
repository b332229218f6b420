/- Several texts in one: DkD, DkP. No condition. -/
import Derived.Test.YtimmjimeldejjaaGreatDoorDk1
import Derived.Test.YtimmjimeldejjaaGreatDoorDkW
import Derived.Test.YtimmjimeldejjaaGreatDoorDkX
namespace Go.Proofs.YtimmjimeldejjaaGreatDoor
section
open Go.RowKit
set_option linter.unusedVariables false
set_option linter.unusedSimpArgs false
set_option maxRecDepth 20000

/-- a desk's block, cell by cell -/
def DkB (w : World) (g : Nat) (pa : Option Addr) (pn pc : Nat) (ra : Option Addr) (rn rc : Nat) (ea : Option Addr) (en ec : Nat) : Prop :=
  w.heap[g]? = some (.cells #[.slice pa pn pc, .slice ra rn rc, .slice ea en ec] 58 (0, 0))
section
variable {w w' : World} {g : Nat} {pa : Option Addr} {pn pc : Nat} {ra : Option Addr} {rn rc : Nat} {ea : Option Addr} {en ec : Nat}
theorem DkB.cells (hh : DkB w g pa pn pc ra rn rc ea en ec) :
    (w.cell? ⟨g, 0, none⟩ = some (.slice pa pn pc) ∧ w.cell? ⟨g, 1, none⟩ = some (.slice ra rn rc) ∧ w.cell? ⟨g, 2, none⟩ = some (.slice ea en ec)) ∧
    w.frozen? ⟨g, 0, none⟩ = false ∧ w.frozen? ⟨g, 1, none⟩ = false ∧ w.frozen? ⟨g, 2, none⟩ = false := by
  unfold DkB at hh
  exact ⟨⟨(cellOfB hh 0 _ rfl).1, (cellOfB hh 1 _ rfl).1, (cellOfB hh 2 _ rfl).1⟩, (cellOfB hh 0 _ rfl).2, (cellOfB hh 1 _ rfl).2, (cellOfB hh 2 _ rfl).2⟩
theorem DkB.size (hh : DkB w g pa pn pc ra rn rc ea en ec) : g < w.heap.size := (Array.getElem?_eq_some_iff.1 hh).1
theorem DkB.keep (hh : DkB w g pa pn pc ra rn rc ea en ec) (hb : Below w.heap.size w w') : DkB w' g pa pn pc ra rn rc ea en ec := (keepAt hb hh.size).trans hh
theorem DkB.chg {S : Nat → Prop} (hh : DkB w g pa pn pc ra rn rc ea en ec) (hc : Chg S w w') (hs : ¬ S g) : DkB w' g pa pn pc ra rn rc ea en ec := (hc.block g hh.size hs).trans hh
theorem DkB.drew (hh : DkB w g pa pn pc ra rn rc ea en ec) : DkB w.drew g pa pn pc ra rn rc ea en ec := hh
theorem DkB.setP (hh : DkB w g pa pn pc ra rn rc ea en ec) (a : Option Addr) (n c : Nat) : DkB (w.setCell ⟨g, 0, none⟩ (.slice a n c)) g a n c ra rn rc ea en ec := by
  have := heap_setCell_same w g 0 _ _ (.slice a n c) hh
  unfold DkB
  rw [this]; rfl
theorem DkB.setR (hh : DkB w g pa pn pc ra rn rc ea en ec) (a : Option Addr) (n c : Nat) : DkB (w.setCell ⟨g, 1, none⟩ (.slice a n c)) g pa pn pc a n c ea en ec := by
  have := heap_setCell_same w g 1 _ _ (.slice a n c) hh
  unfold DkB
  rw [this]; rfl
theorem DkB.setE (hh : DkB w g pa pn pc ra rn rc ea en ec) (a : Option Addr) (n c : Nat) : DkB (w.setCell ⟨g, 2, none⟩ (.slice a n c)) g pa pn pc ra rn rc a n c := by
  have := heap_setCell_same w g 2 _ _ (.slice a n c) hh
  unfold DkB
  rw [this]; rfl
/-- a row of another type lies elsewhere -/
theorem DkB.off (hh : DkB w g pa pn pc ra rn rc ea en ec) {B E : Nat} {ty : TypeId} {a : Option Addr} {n c : Nat} {vs : List Value} (h : OwnRow B E w ty a n c vs) (ht : ty ≠ 58) : ¬ (Value.slice a n c).ownBlock = some g := by
  intro hg
  obtain ⟨cur, e1⟩ := h.typedI hg
  unfold DkB at hh
  rw [hh] at e1
  simp only [Option.some.injEq, Obj.cells.injEq] at e1
  exact ht e1.2.1.symm
end
theorem DkB.new (w : World) (pa : Option Addr) (pn pc : Nat) (ra : Option Addr) (rn rc : Nat) (ea : Option Addr) (en ec : Nat) :
    DkB (w.alloc (.cells #[.slice pa pn pc, .slice ra rn rc, .slice ea en ec] 58)) w.heap.size pa pn pc ra rn rc ea en ec := allocNew w _
/-- what a line has done to the desk, but for the lists of replies and errors -/
def ObRest (pn pw : Addr) (g B : Nat) (X : List Int × Ans) (ra : Option Addr) (rn rc : Nat) (ea : Option Addr) (en ec : Nat) (w : World) (s : ByteArray) (E : Value) (w' : World) : Prop :=
  E = errA pn pw X.2 ∧ (∀ t, X.2 = .ok t → s = ⟨t.toArray⟩) ∧ ∃ pa' pk' pc', DkB w' g pa' pk' pc' ra rn rc ea en ec ∧ Own B w'.heap.size w' pa' pk' pc' X.1 ∧ Chg (fun k => k = g) w w'
section
variable {w0 w : World} {g : Nat} {pa : Option Addr} {pk pc : Nat} {ra : Option Addr} {rn rc : Nat} {ea : Option Addr} {en ec : Nat}
theorem ObRest.behind {pn pw : Addr} {B : Nat} {X : List Int × Ans} {w1 w' : World} {s : ByteArray} {E : Value} (hb : Below w.heap.size w w1) (h : ObRest pn pw g B X ra rn rc ea en ec w1 s E w') : ObRest pn pw g B X ra rn rc ea en ec w s E w' := by
  obtain ⟨h1, h2, a, n, c, h3, h4, h5⟩ := h
  exact ⟨h1, h2, a, n, c, h3, h4, (Chg.ofBelow hb).trans h5⟩
theorem tx_rest {pn pw : Addr} {B : Nat} (D : DkB w g pa pk pc ra rn rc ea en ec) {a : List Int} (hP : Own B w.heap.size w pa pk pc a) {r : Got (List UInt8)} {X : List Int × Ans} (hX : gAnsT a r = X) {s : ByteArray} {w' : World} (hs : ∀ t, r = .got t → s = ⟨t.toArray⟩) (hb : Below w.heap.size w w') :
    ObRest pn pw g B X ra rn rc ea en ec w s (errG pn pw r) w' := by
  subst hX
  refine ⟨errT pn pw a r, fun t ht => ?_, pa, pk, pc, D.keep hb, ?_, Chg.ofBelow hb⟩
  · cases r with
    | got x => cases ht; exact hs _ rfl
    | no => cases ht
    | what => cases ht
  · have e : (gAnsT a r).1 = a := by cases r <;> rfl
    rw [e]
    exact (hP.keep hb).mono (Nat.le_refl _) hb.size
set_option maxHeartbeats 1600000 in
theorem become_any (pn pw : Addr) (hd : DkOk w0 pn pw) (h0 : Below w0.heap.size w0 w) (hg0 : w0.heap.size ≤ g) (D : DkB w g pa pk pc ra rn rc ea en ec) {a : List Int} (hP : Own w0.heap.size w.heap.size w pa pk pc a)
    {r : Got (List Int)} {X : List Int × Ans} (hX : gAnsL a r = X) (hgd : Good X.1) {a1 : Option Addr} {n1 c1 : Nat} (hr : ∀ x, r = .got x → Own w0.heap.size w.heap.size w a1 n1 c1 x) :
    Calls Tryz.prog 92 #[.pointer (some ⟨g, 0, none⟩), .slice a1 n1 c1, errG pn pw r] w fun e w' => ∃ s E, e = .returned (.tuple #[.string s, E]) ∧ ObRest pn pw g w0.heap.size X ra rn rc ea en ec w s E w' := by
  cases r with
  | got x =>
    have hox := hr x rfl
    have hgx : Good x := gAnsL_good hX hgd x rfl
    subst hX
    have D2 := D.setP a1 n1 c1
    have hc := chgCell w g 0 (.slice a1 n1 c1)
    have hox2 := hox.chg hc (fun g' _ _ e h => D.off hox (by decide) (h ▸ e))
    have hcon := impl_PilesText a1 n1 c1 x _ hox2.at
    rw [mText_yes (good_iff.2 hgx)] at hcon
    have hbs : Below w0.heap.size w0 (w.setCell ⟨g, 0, none⟩ (.slice a1 n1 c1)) := h0.setCell (p := ⟨g, 0, none⟩) hg0 _
    have hres := fun v w3 (hb : Below (w.setCell ⟨g, 0, none⟩ (.slice a1 n1 c1)).heap.size (w.setCell ⟨g, 0, none⟩ (.slice a1 n1 c1)) w3) => resStr_any pn pw v true w3 (hd.keep (belowTrans hbs hb (by have := hbs.size; omega)))
    obtain ⟨⟨u0, u1, u2⟩, f0, f1, f2⟩ := D.cells
    simp only [errG, errB, gAnsL] at hres ⊢
    clear hr hox hgx D hP h0 hd hbs
    have HD2 := Lib.hid D2; clear D2
    have Hcon := Lib.hid hcon; clear hcon
    have Hres := Lib.hid hres; clear hres
    have Hox2 := Lib.hid hox2; clear hox2
    have Hc := Lib.hid hc; clear hc
    go_enter Tryz.func92, Tryz.ntmps92
    go_wp2_with fail
    with_reducible refine (Hcon.out).mono ?_
    rintro e w1 ⟨rfl, hb1⟩
    go_wp2_with fail
    with_reducible refine (Hres.out _ _ hb1).mono ?_
    rintro e w2 ⟨rfl, hb2⟩
    have hb := belowTrans hb1 hb2 (Nat.le_refl _)
    clear hb1 hb2
    have Hb := Lib.hid hb; clear hb
    go_wp2
    go_ret2
    refine ⟨_, _, rfl, rfl, fun t ht => (by cases ht; rfl), a1, n1, c1, (HD2.out).keep Hb.out, ?_, (Hc.out).trans (Chg.ofBelow Hb.out)⟩
    exact ((Hox2.out).keep Hb.out).mono (Nat.le_refl _) (by have := (Hb.out).size; simp at this; omega)
  | no =>
    subst hX
    have hb0 := Below.refl w.heap.size w
    simp only [errG, errV]
    clear hr hd h0
    have HD := Lib.hid D; clear D
    have HP := Lib.hid hP; clear hP
    go_enter Tryz.func92, Tryz.ntmps92
    go_wp2
    go_ret2
    exact ⟨_, _, rfl, rfl, fun t ht => (by cases ht), pa, pk, pc, HD.out, HP.out, Chg.refl _ _⟩
  | what =>
    subst hX
    have hb0 := Below.refl w.heap.size w
    simp only [errG, errV]
    clear hr hd h0
    have HD := Lib.hid D; clear D
    have HP := Lib.hid hP; clear hP
    go_enter Tryz.func92, Tryz.ntmps92
    go_wp2
    go_ret2
    exact ⟨_, _, rfl, rfl, fun t ht => (by cases ht), pa, pk, pc, HD.out, HP.out, Chg.refl _ _⟩
end
end
end Go.Proofs.YtimmjimeldejjaaGreatDoor
namespace Go.Proofs.YtimmjimeldejjaaGreatDoor
section
open Go.RowKit
set_option linter.unusedVariables false
set_option linter.unusedSimpArgs false
set_option maxRecDepth 20000

theorem num_bound {n : Nat} {x : Int × Bool} (h : 0 ≤ x.1 ∧ x.1 ≤ 1000000) : ∀ y, noW n x = .got y → -9223372036854775808 ≤ y ∧ y ≤ 9223372036854775807 := by
  intro y hy
  unfold noW at hy
  split at hy
  · obtain ⟨x, b⟩ := x
    cases b
    · cases hy
    · cases hy; simp only at h; omega
  · cases hy
theorem cards_bd {a : List Int} (ha : Good a) : 0 ≤ (mCardsOf a).1 ∧ (mCardsOf a).1 ≤ 1000000 := by
  unfold mCardsOf
  rw [if_pos (good_iff.2 ha)]
  obtain ⟨n, h1, h2⟩ := good_sumN ha
  show 0 ≤ a.sum ∧ a.sum ≤ 1000000
  omega
theorem pasts_bd {a : List Int} (ha : Good a) : 0 ≤ (mPastCount a).1 ∧ (mPastCount a).1 ≤ 1000000 := by
  unfold mPastCount
  rw [if_pos (good_iff.2 ha)]
  have h1 := pastsL_length a
  have h2 := ha.len
  show 0 ≤ ((pastsL a).length : Int) ∧ ((pastsL a).length : Int) ≤ 1000000
  omega
theorem tail_bd {a : List Int} (ha : Good a) : 0 ≤ (mTailOf a).1 ∧ (mTailOf a).1 ≤ 1000000 := by
  unfold mTailOf
  rw [if_pos (good_iff.2 ha)]
  have h1 := (tailL_spec ha).1
  show 0 ≤ (tailL a : Int) ∧ (tailL a : Int) ≤ 1000000
  omega
theorem length_bd {a : List Int} (ha : Good a) : 0 ≤ (mCycleLength a).1 ∧ (mCycleLength a).1 ≤ 1000000 := by
  unfold mCycleLength
  rw [if_pos (good_iff.2 ha)]
  have h1 := cycL_length ha
  show 0 ≤ ((cycL a).length : Int) ∧ ((cycL a).length : Int) ≤ 1000000
  omega

section
variable {w0 w : World} {g : Nat} {pa : Option Addr} {pk pc : Nat} {ra : Option Addr} {rn rc : Nat} {ea : Option Addr} {en ec : Nat}
set_option maxHeartbeats 3200000 in
theorem obey_show (pn pw : Addr) (hd : DkOk w0 pn pw) (h0 : Below w0.heap.size w0 w) (hg0 : w0.heap.size ≤ g) (D : DkB w g pa pk pc ra rn rc ea en ec) {a : List Int} (ha : Good a) (hP : Own w0.heap.size w.heap.size w pa pk pc a)
    {wa : Option Addr} {wn wc : Nat} {r : List (List UInt8)} (hW : ValsAt w wa wn wc (strVs r)) (hw : wn ≤ 4000) (hr : ∀ t ∈ r, t.length ≤ 1048576) :
    Calls Tryz.prog 66 #[.pointer (some ⟨g, 0, none⟩), .string ⟨#[115, 104, 111, 119]⟩, .slice wa wn wc] w fun e w' => ∃ s E, e = .returned (.tuple #[.string s, E]) ∧ ObRest pn pw g w0.heap.size (wordsA a (wordO .shown :: r)) ra rn rc ea en ec w s E w' := by
  have hrl : r.length = wn := by have := hW.length; simpa [strVs] using this
  have hX := w_show (good_iff.2 ha) r
  rw [hrl] at hX
  have hbx := belowAlloc w (.cells #[.pointer (some ⟨g, 0, none⟩)] 89)
  have bx : (w.alloc (.cells #[.pointer (some ⟨g, 0, none⟩)] 89)).cell? ⟨w.heap.size, 0, none⟩ = some (.pointer (some ⟨g, 0, none⟩)) := (World.cell?_alloc_at _ _ _ _ rfl).trans rfl
  have hcon := ofNo_PilesText pn pw wa wn wc pa pk pc a _ (hd.keep (belowTrans h0 hbx (Nat.le_refl _))) hw (hP.keep hbx).at
  generalize wordsA a (wordO .shown :: r) = X at hX ⊢
  have hfin := fun (s : ByteArray) (w' : World) q hb => (tx_rest (pn := pn) (pw := pw) (D.keep hbx) ((hP.keep hbx).mono (Nat.le_refl _) hbx.size) hX (s := s) (w' := w') q hb).behind hbx
  obtain ⟨⟨x0, x1, x2⟩, y0, y1, y2⟩ := (D.keep hbx).cells
  clear hX D hP hd h0 hW hr hbx
  have Hcon := Lib.hid hcon; clear hcon
  have Hfin := Lib.hid hfin; clear hfin
  go_enter Tryz.func66, Tryz.ntmps66
  go_wp2_with fail
  with_reducible refine (Hcon.out).mono ?_
  rintro e w1 ⟨s1, rfl, hs1, hb1⟩
  have hall := Hfin.out s1 w1 hs1 hb1
  have Hall := Lib.hid hall; clear hall
  go_wp2
  go_ret2
  exact ⟨_, _, rfl, Hall.out⟩
set_option maxHeartbeats 3200000 in
theorem obey_cards (pn pw : Addr) (hd : DkOk w0 pn pw) (h0 : Below w0.heap.size w0 w) (hg0 : w0.heap.size ≤ g) (D : DkB w g pa pk pc ra rn rc ea en ec) {a : List Int} (ha : Good a) (hP : Own w0.heap.size w.heap.size w pa pk pc a)
    {wa : Option Addr} {wn wc : Nat} {r : List (List UInt8)} (hW : ValsAt w wa wn wc (strVs r)) (hw : wn ≤ 4000) (hr : ∀ t ∈ r, t.length ≤ 1048576) :
    Calls Tryz.prog 66 #[.pointer (some ⟨g, 0, none⟩), .string ⟨#[99, 97, 114, 100, 115]⟩, .slice wa wn wc] w fun e w' => ∃ s E, e = .returned (.tuple #[.string s, E]) ∧ ObRest pn pw g w0.heap.size (wordsA a (wordO .cards :: r)) ra rn rc ea en ec w s E w' := by
  have hrl : r.length = wn := by have := hW.length; simpa [strVs] using this
  have hX := w_num (o := .cards) rfl (cards_bd ha).1 rfl r
  rw [hrl] at hX
  have hbx := belowAlloc w (.cells #[.pointer (some ⟨g, 0, none⟩)] 89)
  have bx : (w.alloc (.cells #[.pointer (some ⟨g, 0, none⟩)] 89)).cell? ⟨w.heap.size, 0, none⟩ = some (.pointer (some ⟨g, 0, none⟩)) := (World.cell?_alloc_at _ _ _ _ rfl).trans rfl
  have hcon := ofNo_CardsOf pn pw wa wn wc pa pk pc a _ (hd.keep (belowTrans h0 hbx (Nat.le_refl _))) hw (hP.keep hbx).at
  have hbd := num_bound (n := wn) (cards_bd ha)
  generalize wordsA a (wordO .cards :: r) = X at hX ⊢
  have hfin := fun (s : ByteArray) (w' : World) q hb => (tx_rest (pn := pn) (pw := pw) (D.keep hbx) ((hP.keep hbx).mono (Nat.le_refl _) hbx.size) hX (s := s) (w' := w') q hb).behind hbx
  have hL := fun W (q : Below (w.alloc (.cells #[.pointer (some ⟨g, 0, none⟩)] 89)).heap.size (w.alloc (.cells #[.pointer (some ⟨g, 0, none⟩)] 89)) W) => (hd.keep (belowTrans (belowTrans h0 hbx (Nat.le_refl _)) q (by have := h0.size; have := hbx.size; omega))).lib
  generalize hG : noW wn (mCardsOf a) = G at hcon hbd hfin
  obtain ⟨⟨x0, x1, x2⟩, y0, y1, y2⟩ := (D.keep hbx).cells
  clear hX D hP hd h0 hW hr hbx hG
  have Hcon := Lib.hid hcon; clear hcon
  have Hfin := Lib.hid hfin; clear hfin
  have Hbd := Lib.hid hbd; clear hbd
  have HL := Lib.hid hL; clear hL
  go_enter Tryz.func66, Tryz.ntmps66
  go_wp2_with fail
  with_reducible refine (Hcon.out).mono ?_
  rintro e w1 ⟨x, rfl, hx1, hb1⟩
  have hdc := inDecimal_any pn pw x G w1 (fun y hy => Hbd.out y hy) hx1 (HL.out w1 hb1)
  clear hx1
  have Hdc := Lib.hid hdc; clear hdc
  have Hb1 := Lib.hid hb1; clear hb1
  go_wp2_with fail
  with_reducible refine (Hdc.out).mono ?_
  rintro e w2 ⟨s2, rfl, hs2, hb2⟩
  have hall := Hfin.out s2 w2 hs2 (belowTrans Hb1.out hb2 (Nat.le_refl _))
  rw [errG_dg] at hall
  rw [errG_dg]
  have Hall := Lib.hid hall; clear hall
  go_wp2
  go_ret2
  exact ⟨_, _, rfl, Hall.out⟩
set_option maxHeartbeats 3200000 in
theorem obey_pasts (pn pw : Addr) (hd : DkOk w0 pn pw) (h0 : Below w0.heap.size w0 w) (hg0 : w0.heap.size ≤ g) (D : DkB w g pa pk pc ra rn rc ea en ec) {a : List Int} (ha : Good a) (hP : Own w0.heap.size w.heap.size w pa pk pc a)
    {wa : Option Addr} {wn wc : Nat} {r : List (List UInt8)} (hW : ValsAt w wa wn wc (strVs r)) (hw : wn ≤ 4000) (hr : ∀ t ∈ r, t.length ≤ 1048576) :
    Calls Tryz.prog 66 #[.pointer (some ⟨g, 0, none⟩), .string ⟨#[112, 97, 115, 116, 115]⟩, .slice wa wn wc] w fun e w' => ∃ s E, e = .returned (.tuple #[.string s, E]) ∧ ObRest pn pw g w0.heap.size (wordsA a (wordO .pasts :: r)) ra rn rc ea en ec w s E w' := by
  have hrl : r.length = wn := by have := hW.length; simpa [strVs] using this
  have hX := w_num (o := .pasts) rfl (pasts_bd ha).1 rfl r
  rw [hrl] at hX
  have hbx := belowAlloc w (.cells #[.pointer (some ⟨g, 0, none⟩)] 89)
  have bx : (w.alloc (.cells #[.pointer (some ⟨g, 0, none⟩)] 89)).cell? ⟨w.heap.size, 0, none⟩ = some (.pointer (some ⟨g, 0, none⟩)) := (World.cell?_alloc_at _ _ _ _ rfl).trans rfl
  have hcon := ofNo_PastCount pn pw wa wn wc pa pk pc a _ (hd.keep (belowTrans h0 hbx (Nat.le_refl _))) hw (hP.keep hbx).at
  have hbd := num_bound (n := wn) (pasts_bd ha)
  generalize wordsA a (wordO .pasts :: r) = X at hX ⊢
  have hfin := fun (s : ByteArray) (w' : World) q hb => (tx_rest (pn := pn) (pw := pw) (D.keep hbx) ((hP.keep hbx).mono (Nat.le_refl _) hbx.size) hX (s := s) (w' := w') q hb).behind hbx
  have hL := fun W (q : Below (w.alloc (.cells #[.pointer (some ⟨g, 0, none⟩)] 89)).heap.size (w.alloc (.cells #[.pointer (some ⟨g, 0, none⟩)] 89)) W) => (hd.keep (belowTrans (belowTrans h0 hbx (Nat.le_refl _)) q (by have := h0.size; have := hbx.size; omega))).lib
  generalize hG : noW wn (mPastCount a) = G at hcon hbd hfin
  obtain ⟨⟨x0, x1, x2⟩, y0, y1, y2⟩ := (D.keep hbx).cells
  clear hX D hP hd h0 hW hr hbx hG
  have Hcon := Lib.hid hcon; clear hcon
  have Hfin := Lib.hid hfin; clear hfin
  have Hbd := Lib.hid hbd; clear hbd
  have HL := Lib.hid hL; clear hL
  go_enter Tryz.func66, Tryz.ntmps66
  go_wp2_with fail
  with_reducible refine (Hcon.out).mono ?_
  rintro e w1 ⟨x, rfl, hx1, hb1⟩
  have hdc := inDecimal_any pn pw x G w1 (fun y hy => Hbd.out y hy) hx1 (HL.out w1 hb1)
  clear hx1
  have Hdc := Lib.hid hdc; clear hdc
  have Hb1 := Lib.hid hb1; clear hb1
  go_wp2_with fail
  with_reducible refine (Hdc.out).mono ?_
  rintro e w2 ⟨s2, rfl, hs2, hb2⟩
  have hall := Hfin.out s2 w2 hs2 (belowTrans Hb1.out hb2 (Nat.le_refl _))
  rw [errG_dg] at hall
  rw [errG_dg]
  have Hall := Lib.hid hall; clear hall
  go_wp2
  go_ret2
  exact ⟨_, _, rfl, Hall.out⟩
set_option maxHeartbeats 3200000 in
theorem obey_tail (pn pw : Addr) (hd : DkOk w0 pn pw) (h0 : Below w0.heap.size w0 w) (hg0 : w0.heap.size ≤ g) (D : DkB w g pa pk pc ra rn rc ea en ec) {a : List Int} (ha : Good a) (hP : Own w0.heap.size w.heap.size w pa pk pc a)
    {wa : Option Addr} {wn wc : Nat} {r : List (List UInt8)} (hW : ValsAt w wa wn wc (strVs r)) (hw : wn ≤ 4000) (hr : ∀ t ∈ r, t.length ≤ 1048576) :
    Calls Tryz.prog 66 #[.pointer (some ⟨g, 0, none⟩), .string ⟨#[116, 97, 105, 108]⟩, .slice wa wn wc] w fun e w' => ∃ s E, e = .returned (.tuple #[.string s, E]) ∧ ObRest pn pw g w0.heap.size (wordsA a (wordO .tail :: r)) ra rn rc ea en ec w s E w' := by
  have hrl : r.length = wn := by have := hW.length; simpa [strVs] using this
  have hX := w_num (o := .tail) rfl (tail_bd ha).1 rfl r
  rw [hrl] at hX
  have hbx := belowAlloc w (.cells #[.pointer (some ⟨g, 0, none⟩)] 89)
  have bx : (w.alloc (.cells #[.pointer (some ⟨g, 0, none⟩)] 89)).cell? ⟨w.heap.size, 0, none⟩ = some (.pointer (some ⟨g, 0, none⟩)) := (World.cell?_alloc_at _ _ _ _ rfl).trans rfl
  have hcon := ofNo_TailOf pn pw wa wn wc pa pk pc a _ (hd.keep (belowTrans h0 hbx (Nat.le_refl _))) hw (hP.keep hbx).at
  have hbd := num_bound (n := wn) (tail_bd ha)
  generalize wordsA a (wordO .tail :: r) = X at hX ⊢
  have hfin := fun (s : ByteArray) (w' : World) q hb => (tx_rest (pn := pn) (pw := pw) (D.keep hbx) ((hP.keep hbx).mono (Nat.le_refl _) hbx.size) hX (s := s) (w' := w') q hb).behind hbx
  have hL := fun W (q : Below (w.alloc (.cells #[.pointer (some ⟨g, 0, none⟩)] 89)).heap.size (w.alloc (.cells #[.pointer (some ⟨g, 0, none⟩)] 89)) W) => (hd.keep (belowTrans (belowTrans h0 hbx (Nat.le_refl _)) q (by have := h0.size; have := hbx.size; omega))).lib
  generalize hG : noW wn (mTailOf a) = G at hcon hbd hfin
  obtain ⟨⟨x0, x1, x2⟩, y0, y1, y2⟩ := (D.keep hbx).cells
  clear hX D hP hd h0 hW hr hbx hG
  have Hcon := Lib.hid hcon; clear hcon
  have Hfin := Lib.hid hfin; clear hfin
  have Hbd := Lib.hid hbd; clear hbd
  have HL := Lib.hid hL; clear hL
  go_enter Tryz.func66, Tryz.ntmps66
  go_wp2_with fail
  with_reducible refine (Hcon.out).mono ?_
  rintro e w1 ⟨x, rfl, hx1, hb1⟩
  have hdc := inDecimal_any pn pw x G w1 (fun y hy => Hbd.out y hy) hx1 (HL.out w1 hb1)
  clear hx1
  have Hdc := Lib.hid hdc; clear hdc
  have Hb1 := Lib.hid hb1; clear hb1
  go_wp2_with fail
  with_reducible refine (Hdc.out).mono ?_
  rintro e w2 ⟨s2, rfl, hs2, hb2⟩
  have hall := Hfin.out s2 w2 hs2 (belowTrans Hb1.out hb2 (Nat.le_refl _))
  rw [errG_dg] at hall
  rw [errG_dg]
  have Hall := Lib.hid hall; clear hall
  go_wp2
  go_ret2
  exact ⟨_, _, rfl, Hall.out⟩
set_option maxHeartbeats 3200000 in
theorem obey_length (pn pw : Addr) (hd : DkOk w0 pn pw) (h0 : Below w0.heap.size w0 w) (hg0 : w0.heap.size ≤ g) (D : DkB w g pa pk pc ra rn rc ea en ec) {a : List Int} (ha : Good a) (hP : Own w0.heap.size w.heap.size w pa pk pc a)
    {wa : Option Addr} {wn wc : Nat} {r : List (List UInt8)} (hW : ValsAt w wa wn wc (strVs r)) (hw : wn ≤ 4000) (hr : ∀ t ∈ r, t.length ≤ 1048576) :
    Calls Tryz.prog 66 #[.pointer (some ⟨g, 0, none⟩), .string ⟨#[108, 101, 110, 103, 116, 104]⟩, .slice wa wn wc] w fun e w' => ∃ s E, e = .returned (.tuple #[.string s, E]) ∧ ObRest pn pw g w0.heap.size (wordsA a (wordO .length :: r)) ra rn rc ea en ec w s E w' := by
  have hrl : r.length = wn := by have := hW.length; simpa [strVs] using this
  have hX := w_num (o := .length) rfl (length_bd ha).1 rfl r
  rw [hrl] at hX
  have hbx := belowAlloc w (.cells #[.pointer (some ⟨g, 0, none⟩)] 89)
  have bx : (w.alloc (.cells #[.pointer (some ⟨g, 0, none⟩)] 89)).cell? ⟨w.heap.size, 0, none⟩ = some (.pointer (some ⟨g, 0, none⟩)) := (World.cell?_alloc_at _ _ _ _ rfl).trans rfl
  have hcon := ofNo_CycleLength pn pw wa wn wc pa pk pc a _ (hd.keep (belowTrans h0 hbx (Nat.le_refl _))) hw (hP.keep hbx).at
  have hbd := num_bound (n := wn) (length_bd ha)
  generalize wordsA a (wordO .length :: r) = X at hX ⊢
  have hfin := fun (s : ByteArray) (w' : World) q hb => (tx_rest (pn := pn) (pw := pw) (D.keep hbx) ((hP.keep hbx).mono (Nat.le_refl _) hbx.size) hX (s := s) (w' := w') q hb).behind hbx
  have hL := fun W (q : Below (w.alloc (.cells #[.pointer (some ⟨g, 0, none⟩)] 89)).heap.size (w.alloc (.cells #[.pointer (some ⟨g, 0, none⟩)] 89)) W) => (hd.keep (belowTrans (belowTrans h0 hbx (Nat.le_refl _)) q (by have := h0.size; have := hbx.size; omega))).lib
  generalize hG : noW wn (mCycleLength a) = G at hcon hbd hfin
  obtain ⟨⟨x0, x1, x2⟩, y0, y1, y2⟩ := (D.keep hbx).cells
  clear hX D hP hd h0 hW hr hbx hG
  have Hcon := Lib.hid hcon; clear hcon
  have Hfin := Lib.hid hfin; clear hfin
  have Hbd := Lib.hid hbd; clear hbd
  have HL := Lib.hid hL; clear hL
  go_enter Tryz.func66, Tryz.ntmps66
  go_wp2_with fail
  with_reducible refine (Hcon.out).mono ?_
  rintro e w1 ⟨x, rfl, hx1, hb1⟩
  have hdc := inDecimal_any pn pw x G w1 (fun y hy => Hbd.out y hy) hx1 (HL.out w1 hb1)
  clear hx1
  have Hdc := Lib.hid hdc; clear hdc
  have Hb1 := Lib.hid hb1; clear hb1
  go_wp2_with fail
  with_reducible refine (Hdc.out).mono ?_
  rintro e w2 ⟨s2, rfl, hs2, hb2⟩
  have hall := Hfin.out s2 w2 hs2 (belowTrans Hb1.out hb2 (Nat.le_refl _))
  rw [errG_dg] at hall
  rw [errG_dg]
  have Hall := Lib.hid hall; clear hall
  go_wp2
  go_ret2
  exact ⟨_, _, rfl, Hall.out⟩
set_option maxHeartbeats 3200000 in
theorem obey_row (pn pw : Addr) (hd : DkOk w0 pn pw) (h0 : Below w0.heap.size w0 w) (hg0 : w0.heap.size ≤ g) (D : DkB w g pa pk pc ra rn rc ea en ec) {a : List Int} (ha : Good a) (hP : Own w0.heap.size w.heap.size w pa pk pc a)
    {wa : Option Addr} {wn wc : Nat} {r : List (List UInt8)} (hW : ValsAt w wa wn wc (strVs r)) (hw : wn ≤ 4000) (hr : ∀ t ∈ r, t.length ≤ 1048576) :
    Calls Tryz.prog 66 #[.pointer (some ⟨g, 0, none⟩), .string ⟨#[114, 111, 119]⟩, .slice wa wn wc] w fun e w' => ∃ s E, e = .returned (.tuple #[.string s, E]) ∧ ObRest pn pw g w0.heap.size (wordsA a (wordO .row :: r)) ra rn rc ea en ec w s E w' := by
  have hrl : r.length = wn := by have := hW.length; simpa [strVs] using this
  have hX := w_row a r
  have hbx := belowAlloc w (.cells #[.pointer (some ⟨g, 0, none⟩)] 89)
  have bx : (w.alloc (.cells #[.pointer (some ⟨g, 0, none⟩)] 89)).cell? ⟨w.heap.size, 0, none⟩ = some (.pointer (some ⟨g, 0, none⟩)) := (World.cell?_alloc_at _ _ _ _ rfl).trans rfl
  have hcon := ofWord_row pn pw wa wn wc r _ (hd.keep (belowTrans h0 hbx (Nat.le_refl _))) (hW.keep hbx) hw hr
  generalize wordsA a (wordO .row :: r) = X at hX ⊢
  have hfin := fun (s : ByteArray) (w' : World) q hb => (tx_rest (pn := pn) (pw := pw) (D.keep hbx) ((hP.keep hbx).mono (Nat.le_refl _) hbx.size) hX (s := s) (w' := w') q hb).behind hbx
  obtain ⟨⟨x0, x1, x2⟩, y0, y1, y2⟩ := (D.keep hbx).cells
  clear hX D hP hd h0 hW hr hbx
  have Hcon := Lib.hid hcon; clear hcon
  have Hfin := Lib.hid hfin; clear hfin
  go_enter Tryz.func66, Tryz.ntmps66
  go_wp2_with fail
  with_reducible refine (Hcon.out).mono ?_
  rintro e w1 ⟨s1, rfl, hs1, hb1⟩
  have hall := Hfin.out s1 w1 hs1 hb1
  have Hall := Lib.hid hall; clear hall
  go_wp2
  go_ret2
  exact ⟨_, _, rfl, Hall.out⟩
set_option maxHeartbeats 3200000 in
theorem obey_orbit (pn pw : Addr) (hd : DkOk w0 pn pw) (h0 : Below w0.heap.size w0 w) (hg0 : w0.heap.size ≤ g) (D : DkB w g pa pk pc ra rn rc ea en ec) {a : List Int} (ha : Good a) (hP : Own w0.heap.size w.heap.size w pa pk pc a)
    {wa : Option Addr} {wn wc : Nat} {r : List (List UInt8)} (hW : ValsAt w wa wn wc (strVs r)) (hw : wn ≤ 4000) (hr : ∀ t ∈ r, t.length ≤ 1048576) :
    Calls Tryz.prog 66 #[.pointer (some ⟨g, 0, none⟩), .string ⟨#[111, 114, 98, 105, 116]⟩, .slice wa wn wc] w fun e w' => ∃ s E, e = .returned (.tuple #[.string s, E]) ∧ ObRest pn pw g w0.heap.size (wordsA a (wordO .orbit :: r)) ra rn rc ea en ec w s E w' := by
  have hrl : r.length = wn := by have := hW.length; simpa [strVs] using this
  have hX := w_orbit a r
  have hbx := belowAlloc w (.cells #[.pointer (some ⟨g, 0, none⟩)] 89)
  have bx : (w.alloc (.cells #[.pointer (some ⟨g, 0, none⟩)] 89)).cell? ⟨w.heap.size, 0, none⟩ = some (.pointer (some ⟨g, 0, none⟩)) := (World.cell?_alloc_at _ _ _ _ rfl).trans rfl
  have hcon := ofWord_orbit pn pw wa wn wc r _ (hd.keep (belowTrans h0 hbx (Nat.le_refl _))) (hW.keep hbx) hw hr
  generalize wordsA a (wordO .orbit :: r) = X at hX ⊢
  have hfin := fun (s : ByteArray) (w' : World) q hb => (tx_rest (pn := pn) (pw := pw) (D.keep hbx) ((hP.keep hbx).mono (Nat.le_refl _) hbx.size) hX (s := s) (w' := w') q hb).behind hbx
  obtain ⟨⟨x0, x1, x2⟩, y0, y1, y2⟩ := (D.keep hbx).cells
  clear hX D hP hd h0 hW hr hbx
  have Hcon := Lib.hid hcon; clear hcon
  have Hfin := Lib.hid hfin; clear hfin
  go_enter Tryz.func66, Tryz.ntmps66
  go_wp2_with fail
  with_reducible refine (Hcon.out).mono ?_
  rintro e w1 ⟨s1, rfl, hs1, hb1⟩
  have hall := Hfin.out s1 w1 hs1 hb1
  have Hall := Lib.hid hall; clear hall
  go_wp2
  go_ret2
  exact ⟨_, _, rfl, Hall.out⟩
set_option maxHeartbeats 3200000 in
theorem obey_bank (pn pw : Addr) (hd : DkOk w0 pn pw) (h0 : Below w0.heap.size w0 w) (hg0 : w0.heap.size ≤ g) (D : DkB w g pa pk pc ra rn rc ea en ec) {a : List Int} (ha : Good a) (hP : Own w0.heap.size w.heap.size w pa pk pc a)
    {wa : Option Addr} {wn wc : Nat} {r : List (List UInt8)} (hW : ValsAt w wa wn wc (strVs r)) (hw : wn ≤ 4000) (hr : ∀ t ∈ r, t.length ≤ 1048576) :
    Calls Tryz.prog 66 #[.pointer (some ⟨g, 0, none⟩), .string ⟨#[98, 97, 110, 107]⟩, .slice wa wn wc] w fun e w' => ∃ s E, e = .returned (.tuple #[.string s, E]) ∧ ObRest pn pw g w0.heap.size (wordsA a (wordO .bank :: r)) ra rn rc ea en ec w s E w' := by
  have hrl : r.length = wn := by have := hW.length; simpa [strVs] using this
  have hX := w_bank a r
  have hbx := belowAlloc w (.cells #[.pointer (some ⟨g, 0, none⟩)] 89)
  have bx : (w.alloc (.cells #[.pointer (some ⟨g, 0, none⟩)] 89)).cell? ⟨w.heap.size, 0, none⟩ = some (.pointer (some ⟨g, 0, none⟩)) := (World.cell?_alloc_at _ _ _ _ rfl).trans rfl
  have hcon := ofWord_bank pn pw wa wn wc r _ (hd.keep (belowTrans h0 hbx (Nat.le_refl _))) (hW.keep hbx) hw hr
  generalize wordsA a (wordO .bank :: r) = X at hX ⊢
  have hfin := fun (s : ByteArray) (w' : World) q hb => (tx_rest (pn := pn) (pw := pw) (D.keep hbx) ((hP.keep hbx).mono (Nat.le_refl _) hbx.size) hX (s := s) (w' := w') q hb).behind hbx
  obtain ⟨⟨x0, x1, x2⟩, y0, y1, y2⟩ := (D.keep hbx).cells
  clear hX D hP hd h0 hW hr hbx
  have Hcon := Lib.hid hcon; clear hcon
  have Hfin := Lib.hid hfin; clear hfin
  go_enter Tryz.func66, Tryz.ntmps66
  go_wp2_with fail
  with_reducible refine (Hcon.out).mono ?_
  rintro e w1 ⟨s1, rfl, hs1, hb1⟩
  have hall := Hfin.out s1 w1 hs1 hb1
  have Hall := Lib.hid hall; clear hall
  go_wp2
  go_ret2
  exact ⟨_, _, rfl, Hall.out⟩
set_option maxHeartbeats 3200000 in
theorem obey_start (pn pw : Addr) (hd : DkOk w0 pn pw) (h0 : Below w0.heap.size w0 w) (hg0 : w0.heap.size ≤ g) (D : DkB w g pa pk pc ra rn rc ea en ec) {a : List Int} (ha : Good a) (hP : Own w0.heap.size w.heap.size w pa pk pc a)
    {wa : Option Addr} {wn wc : Nat} {r : List (List UInt8)} (hW : ValsAt w wa wn wc (strVs r)) (hw : wn ≤ 4000) (hr : ∀ t ∈ r, t.length ≤ 1048576) :
    Calls Tryz.prog 66 #[.pointer (some ⟨g, 0, none⟩), .string ⟨#[115, 116, 97, 114, 116]⟩, .slice wa wn wc] w fun e w' => ∃ s E, e = .returned (.tuple #[.string s, E]) ∧ ObRest pn pw g w0.heap.size (wordsA a (wordO .start :: r)) ra rn rc ea en ec w s E w' := by
  have hrl : r.length = wn := by have := hW.length; simpa [strVs] using this
  have hX := w_start a r
  have hbx := belowAlloc w (.cells #[.pointer (some ⟨g, 0, none⟩)] 89)
  have bx : (w.alloc (.cells #[.pointer (some ⟨g, 0, none⟩)] 89)).cell? ⟨w.heap.size, 0, none⟩ = some (.pointer (some ⟨g, 0, none⟩)) := (World.cell?_alloc_at _ _ _ _ rfl).trans rfl
  have hcon := ofTwo_any pn pw wa wn wc r _ (hd.keep (belowTrans h0 hbx (Nat.le_refl _))) (hW.keep hbx) hw hr
  generalize wordsA a (wordO .start :: r) = X at hX ⊢
  have hfin := fun (s : ByteArray) (w' : World) q hb => (tx_rest (pn := pn) (pw := pw) (D.keep hbx) ((hP.keep hbx).mono (Nat.le_refl _) hbx.size) hX (s := s) (w' := w') q hb).behind hbx
  obtain ⟨⟨x0, x1, x2⟩, y0, y1, y2⟩ := (D.keep hbx).cells
  clear hX D hP hd h0 hW hr hbx
  have Hcon := Lib.hid hcon; clear hcon
  have Hfin := Lib.hid hfin; clear hfin
  go_enter Tryz.func66, Tryz.ntmps66
  go_wp2_with fail
  with_reducible refine (Hcon.out).mono ?_
  rintro e w1 ⟨s1, rfl, hs1, hb1⟩
  have hall := Hfin.out s1 w1 hs1 hb1
  have Hall := Lib.hid hall; clear hall
  go_wp2
  go_ret2
  exact ⟨_, _, rfl, Hall.out⟩
set_option maxHeartbeats 3200000 in
theorem obey_none (pn pw : Addr) (hd : DkOk w0 pn pw) (h0 : Below w0.heap.size w0 w) (hg0 : w0.heap.size ≤ g) (D : DkB w g pa pk pc ra rn rc ea en ec) {a : List Int} (ha : Good a) (hP : Own w0.heap.size w.heap.size w pa pk pc a)
    {wa : Option Addr} {wn wc : Nat} {r : List (List UInt8)} {v : List UInt8} (hv : ∀ o, v ≠ wordO o) (ho : ordOf v = none) :
    Calls Tryz.prog 66 #[.pointer (some ⟨g, 0, none⟩), .string ⟨v.toArray⟩, .slice wa wn wc] w fun e w' => ∃ s E, e = .returned (.tuple #[.string s, E]) ∧ ObRest pn pw g w0.heap.size (wordsA a (v :: r)) ra rn rc ea en ec w s E w' := by
  rw [words_none a ho r]
  have h1 := bytes_ne (s := ⟨v.toArray⟩) (hv .step)
  have h2 := bytes_ne (s := ⟨v.toArray⟩) (hv .side)
  have h3 := bytes_ne (s := ⟨v.toArray⟩) (hv .shown)
  have h4 := bytes_ne (s := ⟨v.toArray⟩) (hv .cards)
  have h5 := bytes_ne (s := ⟨v.toArray⟩) (hv .pasts)
  have h6 := bytes_ne (s := ⟨v.toArray⟩) (hv .tail)
  have h7 := bytes_ne (s := ⟨v.toArray⟩) (hv .length)
  have h8 := bytes_ne (s := ⟨v.toArray⟩) (hv .steps)
  have h9 := bytes_ne (s := ⟨v.toArray⟩) (hv .past)
  have h10 := bytes_ne (s := ⟨v.toArray⟩) (hv .stairs)
  have h11 := bytes_ne (s := ⟨v.toArray⟩) (hv .start)
  have h12 := bytes_ne (s := ⟨v.toArray⟩) (hv .take)
  have h13 := bytes_ne (s := ⟨v.toArray⟩) (hv .sort)
  have h14 := bytes_ne (s := ⟨v.toArray⟩) (hv .row)
  have h15 := bytes_ne (s := ⟨v.toArray⟩) (hv .orbit)
  have h16 := bytes_ne (s := ⟨v.toArray⟩) (hv .bank)
  simp only [wordO] at h1 h2 h3 h4 h5 h6 h7 h8 h9 h10 h11 h12 h13 h14 h15 h16
  generalize (⟨v.toArray⟩ : ByteArray) = s at *
  have hbx := belowAlloc w (.cells #[.pointer (some ⟨g, 0, none⟩)] 89)
  have hdw := (hd.keep (belowTrans h0 hbx (Nat.le_refl _))).what
  have hall := fun (w' : World) (s : ByteArray) hb => (tx_rest (pn := pn) (pw := pw) (D.keep hbx) ((hP.keep hbx).mono (Nat.le_refl _) hbx.size) (r := .what) (X := (a, .what)) rfl (s := s) (w' := w') (fun t ht => by cases ht) hb).behind hbx
  have hbb := fun q => belowDrewN (Below.refl (w.alloc (.cells #[.pointer (some ⟨g, 0, none⟩)] 89)).heap.size (w.alloc (.cells #[.pointer (some ⟨g, 0, none⟩)] 89))) q
  clear hv ho hd h0 D hP hbx
  have Hall := Lib.hid hall; clear hall
  have Hbb := Lib.hid hbb; clear hbb
  go_enter Tryz.func66, Tryz.ntmps66
  go_wp2
  go_quiet (fail)
  go_wp2
  go_ret2
  exact ⟨_, _, rfl, Hall.out _ _ (Hbb.out _)⟩
end
end
end Go.Proofs.YtimmjimeldejjaaGreatDoor
