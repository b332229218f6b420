/- Several texts in one: CoG, CoH. No condition. -/
import Derived.Test.YtimmjimeldejjaaGreatDoorCoR
namespace Go.Proofs.YtimmjimeldejjaaGreatDoor
section
open Go.RowKit
set_option linter.unusedVariables false
set_option linter.unusedSimpArgs false
set_option maxRecDepth 20000

theorem give_no (g : Nat) (ra : Option Addr) (rn rc : Nat) (w : World) :
    Calls Tryz.prog 126 #[.pointer (some ⟨g, 0, none⟩), .slice ra rn rc, .bool false] w fun e w' => e = .returned (.string ⟨#[110, 111]⟩) ∧ w = w' := by
  go_enter Tryz.func126, Tryz.ntmps126
  go_wp2
  go_ret
  exact ⟨rfl, rfl⟩
section
variable {g : Nat} {pa : Option Addr} {pn pc : Nat} {la : Option Addr} {ln lc : Nat} {bh bl : Int} {ba : Option Addr} {bn bc : Nat} {na : Option Addr} {nn nc : Nat} {ty : TypeId}
/-- a row of another type lies elsewhere -/
theorem LnB.off {w : World} (hh : LnB w g pa pn pc la ln lc bh bl ba bn bc na nn nc ty) {B E : Nat} {a : Option Addr} {n c : Nat} {xs : List Int} (h : Own B E w a n c xs) (ht : ty ≠ 3) : ¬ (Value.slice a n c).ownBlock = some g := by
  intro hg
  obtain ⟨cur, e1⟩ := OwnRow.typedI h hg
  unfold LnB at hh
  rw [hh] at e1
  simp only [Option.some.injEq, Obj.cells.injEq] at e1
  exact ht e1.2.1
theorem give_yes {w : World} (hh : LnB w g pa pn pc la ln lc bh bl ba bn bc na nn nc ty) {B E : Nat} {ra : Option Addr} {rn rc : Nat} {xs : List Int} (ho : Own B E w ra rn rc xs) (hB : g < B ∨ ty ≠ 3) (hg : Good xs) :
    Calls Tryz.prog 126 #[.pointer (some ⟨g, 0, none⟩), .slice ra rn rc, .bool true] w fun e w' => e = .returned (.string ⟨(textL xs).toArray⟩) ∧ LnB w' g ra rn rc la ln lc bh bl ba bn bc na nn nc ty ∧ Own B E w' ra rn rc xs ∧ Chg (fun k => k = g) w w' := by
  have ho2 : Own B E (w.setCell ⟨g, 0, none⟩ (.slice ra rn rc)) ra rn rc xs := by
    rcases hB with hB | hB
    · exact ho.offCell hB 0 (.slice ra rn rc)
    · exact ho.chg (chgCell w g 0 (.slice ra rn rc)) (fun q _ _ e h => hh.off ho hB (h ▸ e))
  have hcon := piText_any ra rn rc xs _ ho2.at hg
  have h2 := hh.setP ra rn rc
  have hc := chgCell w g 0 (.slice ra rn rc)
  obtain ⟨⟨u0, u1, u2, u3, u4, u5⟩, f0, f1, f2, f3, f4, f5⟩ := hh.cells
  clear hh
  have Hcon := Lib.hid hcon; clear hcon
  have Ho2 := Lib.hid ho2; clear ho2
  have H2 := Lib.hid h2; clear h2
  have Hc := Lib.hid hc; clear hc
  go_enter Tryz.func126, Tryz.ntmps126
  go_wp2_with fail
  with_reducible refine (Hcon.out).mono ?_
  rintro e w1 ⟨rfl, hb1⟩
  have q1 := H2.out.keep hb1
  have q2 := Ho2.out.keep hb1
  have q3 := Hc.out.trans (Chg.ofBelow hb1)
  have Q1 := Lib.hid q1; clear q1
  have Q2 := Lib.hid q2; clear q2
  have Q3 := Lib.hid q3; clear q3
  go_wp2
  go_ret
  exact ⟨rfl, Q1.out, Q2.out, Q3.out⟩
/-- a slice's block holds integers -/
def TyI (w : World) (a : Option Addr) : Prop := ∀ b o, a = some ⟨b, o, none⟩ → ∃ cur, w.heap[b]? = some (.cells cur 3 (0, 0))
theorem tyI_own {B E w a n c xs} (h : Own B E w a n c xs) : TyI w a := by
  intro b o e
  rcases h.cases with ⟨rfl, _⟩ | ⟨g, rfl, _, _, _⟩
  · cases e
  · cases e
    exact OwnRow.typedI h rfl
theorem TyI.keep {w w' : World} {a : Option Addr} (h : TyI w a) (hb : Below w.heap.size w w') : TyI w' a := fun b o e => by
  obtain ⟨cur, q⟩ := h b o e
  exact ⟨cur, ((Chg.ofBelow (S := fun _ => False) hb).block b (Array.getElem?_eq_some_iff.1 q).1 id).trans q⟩
/-- piles that are those before, or lie in a block of integers -/
def PlAt (pa : Option Addr) (w : World) (a : Option Addr) (n c : Nat) (xs : List Int) : Prop := IntsAt w a n c xs ∧ (a = pa ∨ TyI w a)
def MvPost (g : Nat) (pa : Option Addr) (la : Option Addr) (ln lc : Nat) (bh bl : Int) (ba : Option Addr) (bn bc : Nat) (na : Option Addr) (nn nc : Nat) (ty : TypeId) (r : List Int × Ans) (w : World) (e : Ending) (w' : World) : Prop :=
  ∃ pa' pn' pc', e = .returned (.string ⟨(repA r.2).toArray⟩) ∧ LnB w' g pa' pn' pc' la ln lc bh bl ba bn bc na nn nc ty ∧ PlAt pa w' pa' pn' pc' r.1 ∧ Chg (fun k => k = g) w w'
theorem give_any {w : World} (hh : LnB w g pa pn pc la ln lc bh bl ba bn bc na nn nc ty) {B E : Nat} {ra : Option Addr} {rn rc : Nat} {x : List Int × Bool} (ho : Own B E w ra rn rc x.1) (hB : g < B ∨ ty ≠ 3) (hg : x.2 = true → Good x.1) {a : List Int} (hP : IntsAt w pa pn pc a) :
    Calls Tryz.prog 126 #[.pointer (some ⟨g, 0, none⟩), .slice ra rn rc, .bool x.2] w fun e w' => MvPost g pa la ln lc bh bl ba bn bc na nn nc ty (giveA a x) w e w' := by
  obtain ⟨xs, b⟩ := x
  cases b
  · exact (give_no g ra rn rc w).mono fun e w' ⟨e1, e2⟩ => ⟨pa, pn, pc, e1, e2 ▸ hh, ⟨e2 ▸ hP, .inl rfl⟩, e2 ▸ Chg.refl _ _⟩
  · exact (give_yes hh ho hB (hg rfl)).mono fun e w' ⟨e1, e2, e3, e4⟩ => ⟨ra, rn, rc, e1, e2, ⟨e3.at, .inr (tyI_own e3)⟩, e4⟩
theorem MvPost.behind {w w1 : World} (hb : Below w.heap.size w w1) {r : List Int × Ans} {e : Ending} {w' : World} (h : MvPost g pa la ln lc bh bl ba bn bc na nn nc ty r w1 e w') : MvPost g pa la ln lc bh bl ba bn bc na nn nc ty r w e w' := by
  obtain ⟨a, n, c, h1, h2, h3, h4⟩ := h
  exact ⟨a, n, c, h1, h2, h3, (Chg.ofBelow hb).trans h4⟩
set_option maxHeartbeats 3200000 in
theorem moved_take {w : World} (hh : LnB w g pa pn pc la ln lc bh bl ba bn bc na nn nc ty) {a : List Int} (hP : IntsAt w pa pn pc a) (ha : Good a) {B E : Nat} {l : Ln} (ho : Own B E w la ln lc l.list) (hB : g < B ∨ ty ≠ 3) {C D : Nat} (hn : Own C D w na nn nc l.n) (hk : KdOk (kdO .take) l) :
    Calls Tryz.prog 70 #[.pointer (some ⟨g, 0, none⟩), .string ⟨#[116, 97, 107, 101]⟩] w fun e w' => MvPost g pa la ln lc bh bl ba bn bc na nn nc ty (runO a l .take) w e w' := by
  have hgood := run_good ha hk
  obtain ⟨⟨u0, u1, u2, u3, u4, u5⟩, f0, f1, f2, f3, f4, f5⟩ := hh.cells
  have hsz := hh.size
  have hcon := give_any (a := a) (x := (l.list, true)) hh ho hB (fun _ => hk) hP
  have Hcon := Lib.hid hcon; clear hcon
  have Hgood := Lib.hid hgood; clear hgood
  clear hh ho hn hP
  go_enter Tryz.func70, Tryz.ntmps70
  go_wp2_with fail
  with_reducible refine (Hcon.out).mono ?_
  rintro e w1 ⟨qa, qn, qc, rfl, q1, q2, q3⟩
  have Q1 := Lib.hid q1; clear q1
  have Q2 := Lib.hid q2; clear q2
  have Q3 := Lib.hid q3; clear q3
  go_wp2
  go_ret
  exact ⟨qa, qn, qc, rfl, Q1.out, Q2.out, Q3.out⟩
set_option maxHeartbeats 3200000 in
theorem moved_step {w : World} (hh : LnB w g pa pn pc la ln lc bh bl ba bn bc na nn nc ty) {a : List Int} (hP : IntsAt w pa pn pc a) (ha : Good a) {B E : Nat} {l : Ln} (ho : Own B E w la ln lc l.list) (hB : g < B ∨ ty ≠ 3) {C D : Nat} (hn : Own C D w na nn nc l.n) (hk : KdOk (kdO .step) l) :
    Calls Tryz.prog 70 #[.pointer (some ⟨g, 0, none⟩), .string ⟨#[115, 116, 101, 112]⟩] w fun e w' => MvPost g pa la ln lc bh bl ba bn bc na nn nc ty (runO a l .step) w e w' := by
  have hgood := run_good ha hk
  obtain ⟨⟨u0, u1, u2, u3, u4, u5⟩, f0, f1, f2, f3, f4, f5⟩ := hh.cells
  have hsz := hh.size
  have hcon := spec_StepPiles pa pn pc a w hP
  have hgd : (mStepPiles a).2 = true → Good (mStepPiles a).1 := fun h => by have q := hgood; simp only [runO, giveA, if_pos h] at q; exact q
  have Hcon := Lib.hid hcon; clear hcon
  have Hgood := Lib.hid hgood; clear hgood
  have Hgd := Lib.hid hgd; clear hgd
  go_enter Tryz.func70, Tryz.ntmps70
  go_wp2_with fail
  with_reducible refine (Hcon.out).mono ?_
  rintro e w1 ⟨a1, n1, c1, rfl, ho1, hb1⟩
  have hgv := give_any (hh.keep hb1) ho1 (.inl hsz) Hgd.out (hP.keep hb1)
  have Hb1 := Lib.hid hb1
  clear hb1 ho1
  have Hgv := Lib.hid hgv; clear hgv
  go_wp2_with fail
  with_reducible refine (Hgv.out).mono ?_
  rintro e w2 hq
  obtain ⟨qa, qn, qc, rfl, q1, q2, q3⟩ := hq.behind Hb1.out
  have Q1 := Lib.hid q1; clear q1
  have Q2 := Lib.hid q2; clear q2
  have Q3 := Lib.hid q3; clear q3
  go_wp2
  go_ret
  exact ⟨qa, qn, qc, rfl, Q1.out, Q2.out, Q3.out⟩
set_option maxHeartbeats 3200000 in
theorem moved_side {w : World} (hh : LnB w g pa pn pc la ln lc bh bl ba bn bc na nn nc ty) {a : List Int} (hP : IntsAt w pa pn pc a) (ha : Good a) {B E : Nat} {l : Ln} (ho : Own B E w la ln lc l.list) (hB : g < B ∨ ty ≠ 3) {C D : Nat} (hn : Own C D w na nn nc l.n) (hk : KdOk (kdO .side) l) :
    Calls Tryz.prog 70 #[.pointer (some ⟨g, 0, none⟩), .string ⟨#[115, 105, 100, 101]⟩] w fun e w' => MvPost g pa la ln lc bh bl ba bn bc na nn nc ty (runO a l .side) w e w' := by
  have hgood := run_good ha hk
  obtain ⟨⟨u0, u1, u2, u3, u4, u5⟩, f0, f1, f2, f3, f4, f5⟩ := hh.cells
  have hsz := hh.size
  have hcon := spec_SideOf pa pn pc a w hP
  have hgd : (mSideOf a).2 = true → Good (mSideOf a).1 := fun h => by have q := hgood; simp only [runO, giveA, if_pos h] at q; exact q
  have Hcon := Lib.hid hcon; clear hcon
  have Hgood := Lib.hid hgood; clear hgood
  have Hgd := Lib.hid hgd; clear hgd
  go_enter Tryz.func70, Tryz.ntmps70
  go_wp2_with fail
  with_reducible refine (Hcon.out).mono ?_
  rintro e w1 ⟨a1, n1, c1, rfl, ho1, hb1⟩
  have hgv := give_any (hh.keep hb1) ho1 (.inl hsz) Hgd.out (hP.keep hb1)
  have Hb1 := Lib.hid hb1
  clear hb1 ho1
  have Hgv := Lib.hid hgv; clear hgv
  go_wp2_with fail
  with_reducible refine (Hgv.out).mono ?_
  rintro e w2 hq
  obtain ⟨qa, qn, qc, rfl, q1, q2, q3⟩ := hq.behind Hb1.out
  have Q1 := Lib.hid q1; clear q1
  have Q2 := Lib.hid q2; clear q2
  have Q3 := Lib.hid q3; clear q3
  go_wp2
  go_ret
  exact ⟨qa, qn, qc, rfl, Q1.out, Q2.out, Q3.out⟩
set_option maxHeartbeats 3200000 in
theorem moved_sort {w : World} (hh : LnB w g pa pn pc la ln lc bh bl ba bn bc na nn nc ty) {a : List Int} (hP : IntsAt w pa pn pc a) (ha : Good a) {B E : Nat} {l : Ln} (ho : Own B E w la ln lc l.list) (hB : g < B ∨ ty ≠ 3) {C D : Nat} (hn : Own C D w na nn nc l.n) (hk : KdOk (kdO .sort) l) :
    Calls Tryz.prog 70 #[.pointer (some ⟨g, 0, none⟩), .string ⟨#[115, 111, 114, 116]⟩] w fun e w' => MvPost g pa la ln lc bh bl ba bn bc na nn nc ty (runO a l .sort) w e w' := by
  have hgood := run_good ha hk
  obtain ⟨⟨u0, u1, u2, u3, u4, u5⟩, f0, f1, f2, f3, f4, f5⟩ := hh.cells
  have hsz := hh.size
  have hcon := spec_SortRow la ln lc l.list w ho.at
  have hgd : (mSortRow l.list).2 = true → Good (mSortRow l.list).1 := fun h => by have q := hgood; simp only [runO, giveA, if_pos h] at q; exact q
  have Hcon := Lib.hid hcon; clear hcon
  have Hgood := Lib.hid hgood; clear hgood
  have Hgd := Lib.hid hgd; clear hgd
  go_enter Tryz.func70, Tryz.ntmps70
  go_wp2_with fail
  with_reducible refine (Hcon.out).mono ?_
  rintro e w1 ⟨a1, n1, c1, rfl, ho1, hb1⟩
  have hgv := give_any (hh.keep hb1) ho1 (.inl hsz) Hgd.out (hP.keep hb1)
  have Hb1 := Lib.hid hb1
  clear hb1 ho1
  have Hgv := Lib.hid hgv; clear hgv
  go_wp2_with fail
  with_reducible refine (Hgv.out).mono ?_
  rintro e w2 hq
  obtain ⟨qa, qn, qc, rfl, q1, q2, q3⟩ := hq.behind Hb1.out
  have Q1 := Lib.hid q1; clear q1
  have Q2 := Lib.hid q2; clear q2
  have Q3 := Lib.hid q3; clear q3
  go_wp2
  go_ret
  exact ⟨qa, qn, qc, rfl, Q1.out, Q2.out, Q3.out⟩
set_option maxHeartbeats 3200000 in
theorem moved_stairs {w : World} (hh : LnB w g pa pn pc la ln lc bh bl ba bn bc na nn nc ty) {a : List Int} (hP : IntsAt w pa pn pc a) (ha : Good a) {B E : Nat} {l : Ln} (ho : Own B E w la ln lc l.list) (hB : g < B ∨ ty ≠ 3) {C D : Nat} (hn : Own C D w na nn nc l.n) (hk : KdOk (kdO .stairs) l) :
    Calls Tryz.prog 70 #[.pointer (some ⟨g, 0, none⟩), .string ⟨#[115, 116, 97, 105, 114, 115]⟩] w fun e w' => MvPost g pa la ln lc bh bl ba bn bc na nn nc ty (runO a l .stairs) w e w' := by
  have hgood := run_good ha hk
  obtain ⟨⟨u0, u1, u2, u3, u4, u5⟩, f0, f1, f2, f3, f4, f5⟩ := hh.cells
  have hsz := hh.size
  obtain ⟨x, hx0, hx⟩ : ∃ x, 0 ≤ x ∧ l.n = [x] := hk
  have hln : nn = 1 := by have := hn.length; rw [hx] at this; exact this.symm
  subst hln
  obtain ⟨b3, o3, rfl, hbl3, hc3⟩ := hn.at.cell 0 (by omega)
  have hck := hc3 0 (by omega)
  rw [hx, List.getD_cons_zero, Nat.add_zero] at hck
  have hrx : l.n.getD 0 0 = x := by rw [hx]; rfl
  simp only [runO, hrx] at hgood ⊢
  clear hc3 hbl3 hx
  have hcon := spec_Staircase x w
  have hgd : (mStaircase x).2 = true → Good (mStaircase x).1 := fun h => by have q := hgood; simp only [giveA, if_pos h] at q; exact q
  have Hcon := Lib.hid hcon; clear hcon
  have Hgood := Lib.hid hgood; clear hgood
  have Hgd := Lib.hid hgd; clear hgd
  go_enter Tryz.func70, Tryz.ntmps70
  go_wp2_with fail
  with_reducible refine (Hcon.out).mono ?_
  rintro e w1 ⟨a1, n1, c1, rfl, ho1, hb1⟩
  have hgv := give_any (hh.keep hb1) ho1 (.inl hsz) Hgd.out (hP.keep hb1)
  have Hb1 := Lib.hid hb1
  clear hb1 ho1
  have Hgv := Lib.hid hgv; clear hgv
  go_wp2_with fail
  with_reducible refine (Hgv.out).mono ?_
  rintro e w2 hq
  obtain ⟨qa, qn, qc, rfl, q1, q2, q3⟩ := hq.behind Hb1.out
  have Q1 := Lib.hid q1; clear q1
  have Q2 := Lib.hid q2; clear q2
  have Q3 := Lib.hid q3; clear q3
  go_wp2
  go_ret
  exact ⟨qa, qn, qc, rfl, Q1.out, Q2.out, Q3.out⟩
set_option maxHeartbeats 3200000 in
theorem moved_steps {w : World} (hh : LnB w g pa pn pc la ln lc bh bl ba bn bc na nn nc ty) {a : List Int} (hP : IntsAt w pa pn pc a) (ha : Good a) {B E : Nat} {l : Ln} (ho : Own B E w la ln lc l.list) (hB : g < B ∨ ty ≠ 3) {C D : Nat} (hn : Own C D w na nn nc l.n) (hk : KdOk (kdO .steps) l) :
    Calls Tryz.prog 70 #[.pointer (some ⟨g, 0, none⟩), .string ⟨#[115, 116, 101, 112, 115]⟩] w fun e w' => MvPost g pa la ln lc bh bl ba bn bc na nn nc ty (runO a l .steps) w e w' := by
  have hgood := run_good ha hk
  obtain ⟨⟨u0, u1, u2, u3, u4, u5⟩, f0, f1, f2, f3, f4, f5⟩ := hh.cells
  have hsz := hh.size
  have hdr := (Below.refl w.heap.size w).drew
  obtain ⟨x, hx0, hx⟩ : ∃ x, 0 ≤ x ∧ l.n = [x] := hk
  have hln : nn = 1 := by have := hn.length; rw [hx] at this; exact this.symm
  subst hln
  obtain ⟨b3, o3, rfl, hbl3, hc3⟩ := hn.at.cell 0 (by omega)
  have hck := hc3 0 (by omega)
  rw [hx, List.getD_cons_zero, Nat.add_zero] at hck
  have hrx : l.n.getD 0 0 = x := by rw [hx]; rfl
  simp only [runO, hrx] at hgood ⊢
  clear hc3 hbl3 hx
  have hcon := spec_StepsFrom pa pn pc a x w.drew (hP.keep hdr)
  have hgd : (mStepsFrom a x).2 = true → Good (mStepsFrom a x).1 := fun h => by have q := hgood; simp only [giveA, if_pos h] at q; exact q
  have hcon2 := hcon.mono (R' := fun e w1 => ∃ a1 n1 c1, e = .returned (.tuple #[.slice a1 n1 c1, .bool (mStepsFrom a x).2]) ∧ Calls Tryz.prog 126 #[.pointer (some ⟨g, 0, none⟩), .slice a1 n1 c1, .bool (mStepsFrom a x).2] w1 fun e w2 => ∃ qa qn qc, e = .returned (.string ⟨(repA (giveA a (mStepsFrom a x)).2).toArray⟩) ∧ LnB w2 g qa qn qc la ln lc bh bl ba bn bc (some ⟨b3, o3, none⟩) 1 nc ty ∧ PlAt pa w2 qa qn qc (giveA a (mStepsFrom a x)).1 ∧ Chg (fun k => k = g) w w2)
    (fun e w1 ⟨a1, n1, c1, e1, e2, e3⟩ => ⟨a1, n1, c1, e1, (give_any (hh.drew.keep e3) e2 (.inl hsz) hgd ((hP.keep hdr).keep e3)).mono fun e w2 h => (h.behind e3).behind hdr⟩)
  clear hcon
  have Hcon2 := Lib.hid hcon2; clear hcon2
  have Hgood := Lib.hid hgood; clear hgood
  have Hgd := Lib.hid hgd; clear hgd
  go_enter Tryz.func70, Tryz.ntmps70
  go_wp2_with fail
  go_region_law (first | (go_simp; with_reducible refine (Hcon2.out).mono ?_; rintro e w1 ⟨a1, n1, c1, rfl, hgv⟩; have Hgv := Lib.hid hgv; clear hgv) | (go_simp; with_reducible refine (Hgv.out).mono ?_; rintro e w2 ⟨qa, qn, qc, rfl, q1, q2, q3⟩; have Q1 := Lib.hid q1; have Q2 := Lib.hid q2; have Q3 := Lib.hid q3; clear q1 q2 q3))
  all_goals
    go_wp2
    go_ret
    exact ⟨qa, qn, qc, rfl, Q1.out, Q2.out, Q3.out⟩
set_option maxHeartbeats 3200000 in
theorem moved_past {w : World} (hh : LnB w g pa pn pc la ln lc bh bl ba bn bc na nn nc ty) {a : List Int} (hP : IntsAt w pa pn pc a) (ha : Good a) {B E : Nat} {l : Ln} (ho : Own B E w la ln lc l.list) (hB : g < B ∨ ty ≠ 3) {C D : Nat} (hn : Own C D w na nn nc l.n) (hk : KdOk (kdO .past) l) :
    Calls Tryz.prog 70 #[.pointer (some ⟨g, 0, none⟩), .string ⟨#[112, 97, 115, 116]⟩] w fun e w' => MvPost g pa la ln lc bh bl ba bn bc na nn nc ty (runO a l .past) w e w' := by
  have hgood := run_good ha hk
  obtain ⟨⟨u0, u1, u2, u3, u4, u5⟩, f0, f1, f2, f3, f4, f5⟩ := hh.cells
  have hsz := hh.size
  have hdr := (Below.refl w.heap.size w).drew
  obtain ⟨x, hx0, hx⟩ : ∃ x, 0 ≤ x ∧ l.n = [x] := hk
  have hln : nn = 1 := by have := hn.length; rw [hx] at this; exact this.symm
  subst hln
  obtain ⟨b3, o3, rfl, hbl3, hc3⟩ := hn.at.cell 0 (by omega)
  have hck := hc3 0 (by omega)
  rw [hx, List.getD_cons_zero, Nat.add_zero] at hck
  have hrx : l.n.getD 0 0 = x := by rw [hx]; rfl
  simp only [runO, hrx] at hgood ⊢
  clear hc3 hbl3 hx
  have hcon := spec_PastBy pa pn pc a x w.drew (hP.keep hdr)
  have hgd : (mPastBy a x).2 = true → Good (mPastBy a x).1 := fun h => by have q := hgood; simp only [giveA, if_pos h] at q; exact q
  have hcon2 := hcon.mono (R' := fun e w1 => ∃ a1 n1 c1, e = .returned (.tuple #[.slice a1 n1 c1, .bool (mPastBy a x).2]) ∧ Calls Tryz.prog 126 #[.pointer (some ⟨g, 0, none⟩), .slice a1 n1 c1, .bool (mPastBy a x).2] w1 fun e w2 => ∃ qa qn qc, e = .returned (.string ⟨(repA (giveA a (mPastBy a x)).2).toArray⟩) ∧ LnB w2 g qa qn qc la ln lc bh bl ba bn bc (some ⟨b3, o3, none⟩) 1 nc ty ∧ PlAt pa w2 qa qn qc (giveA a (mPastBy a x)).1 ∧ Chg (fun k => k = g) w w2)
    (fun e w1 ⟨a1, n1, c1, e1, e2, e3⟩ => ⟨a1, n1, c1, e1, (give_any (hh.drew.keep e3) e2 (.inl hsz) hgd ((hP.keep hdr).keep e3)).mono fun e w2 h => (h.behind e3).behind hdr⟩)
  clear hcon
  have Hcon2 := Lib.hid hcon2; clear hcon2
  have Hgood := Lib.hid hgood; clear hgood
  have Hgd := Lib.hid hgd; clear hgd
  go_enter Tryz.func70, Tryz.ntmps70
  go_wp2_with fail
  go_region_law (first | (go_simp; with_reducible refine (Hcon2.out).mono ?_; rintro e w1 ⟨a1, n1, c1, rfl, hgv⟩; have Hgv := Lib.hid hgv; clear hgv) | (go_simp; with_reducible refine (Hgv.out).mono ?_; rintro e w2 ⟨qa, qn, qc, rfl, q1, q2, q3⟩; have Q1 := Lib.hid q1; have Q2 := Lib.hid q2; have Q3 := Lib.hid q3; clear q1 q2 q3))
  all_goals
    go_wp2
    go_ret
    exact ⟨qa, qn, qc, rfl, Q1.out, Q2.out, Q3.out⟩
theorem moved_any (o : Ord) (hm : movesO o = true) {w : World} (hh : LnB w g pa pn pc la ln lc bh bl ba bn bc na nn nc ty) {a : List Int} (hP : IntsAt w pa pn pc a) (ha : Good a) {B E : Nat} {l : Ln} (ho : Own B E w la ln lc l.list) (hB : g < B ∨ ty ≠ 3) {C D : Nat} (hn : Own C D w na nn nc l.n) (hk : KdOk (kdO o) l) :
    Calls Tryz.prog 70 #[.pointer (some ⟨g, 0, none⟩), .string ⟨(wordO o).toArray⟩] w fun e w' => MvPost g pa la ln lc bh bl ba bn bc na nn nc ty (runO a l o) w e w' := by
  cases o with
  | take => exact moved_take hh hP ha ho hB hn hk
  | step => exact moved_step hh hP ha ho hB hn hk
  | steps => exact moved_steps hh hP ha ho hB hn hk
  | side => exact moved_side hh hP ha ho hB hn hk
  | past => exact moved_past hh hP ha ho hB hn hk
  | stairs => exact moved_stairs hh hP ha ho hB hn hk
  | sort => exact moved_sort hh hP ha ho hB hn hk
  | _ => cases hm
end
end
end Go.Proofs.YtimmjimeldejjaaGreatDoor
namespace Go.Proofs.YtimmjimeldejjaaGreatDoor
section
open Go.RowKit
set_option linter.unusedVariables false
set_option linter.unusedSimpArgs false
set_option maxRecDepth 20000
section
variable {g : Nat} {pa : Option Addr} {pn pc : Nat} {la : Option Addr} {ln lc : Nat} {bh bl : Int} {ba : Option Addr} {bn bc : Nat} {na : Option Addr} {nn nc : Nat} {ty : TypeId}
theorem asked_show {w : World} (hh : LnB w g pa pn pc la ln lc bh bl ba bn bc na nn nc ty) {a : List Int} (hP : IntsAt w pa pn pc a) (ha : Good a) :
    Calls Tryz.prog 71 #[.pointer (some ⟨g, 0, none⟩), .string ⟨#[115, 104, 111, 119]⟩] w fun e w' => e = .returned (.string ⟨(textL a).toArray⟩) ∧ Below w.heap.size w w' := by
  obtain ⟨⟨u0, u1, u2, u3, u4, u5⟩, f0, f1, f2, f3, f4, f5⟩ := hh.cells
  have hcon := piText_any pa pn pc a w hP ha
  have Hcon := Lib.hid hcon; clear hcon
  go_enter Tryz.func71, Tryz.ntmps71
  go_wp2_with fail
  with_reducible refine (Hcon.out).mono ?_
  rintro e w1 ⟨rfl, hb1⟩
  go_wp2
  go_ret
  exact ⟨rfl, hb1⟩
theorem asked_cards {w : World} (hh : LnB w g pa pn pc la ln lc bh bl ba bn bc na nn nc ty) {a : List Int} (hP : IntsAt w pa pn pc a) {n : Nat} (hn : n ≤ 999999999) (hm : mCardsOf a = ((n : Int), true)) :
    Calls Tryz.prog 71 #[.pointer (some ⟨g, 0, none⟩), .string ⟨#[99, 97, 114, 100, 115]⟩] w fun e w' => e = .returned (.string ⟨(Lib.decDigits n).toArray⟩) ∧ Below w.heap.size w w' := by
  obtain ⟨⟨u0, u1, u2, u3, u4, u5⟩, f0, f1, f2, f3, f4, f5⟩ := hh.cells
  have hcon := spec_CardsOf pa pn pc a w hP
  rw [hm] at hcon
  have hnum := fun W => coNumber_yes n W hn
  clear hm
  have Hcon := Lib.hid hcon; clear hcon
  have Hnum := Lib.hid hnum; clear hnum
  go_enter Tryz.func71, Tryz.ntmps71
  go_wp2_with fail
  with_reducible refine (Hcon.out).mono ?_
  rintro e w1 ⟨rfl, hb1⟩
  go_wp2_with fail
  with_reducible refine (Hnum.out _).mono ?_
  rintro e w2 ⟨rfl, hb2⟩
  have hb := belowTrans hb1 hb2 (Nat.le_refl _)
  go_wp2
  go_ret
  exact ⟨rfl, hb⟩
theorem asked_pasts {w : World} (hh : LnB w g pa pn pc la ln lc bh bl ba bn bc na nn nc ty) {a : List Int} (hP : IntsAt w pa pn pc a) {n : Nat} (hn : n ≤ 999999999) (hm : mPastCount a = ((n : Int), true)) :
    Calls Tryz.prog 71 #[.pointer (some ⟨g, 0, none⟩), .string ⟨#[112, 97, 115, 116, 115]⟩] w fun e w' => e = .returned (.string ⟨(Lib.decDigits n).toArray⟩) ∧ Below w.heap.size w w' := by
  obtain ⟨⟨u0, u1, u2, u3, u4, u5⟩, f0, f1, f2, f3, f4, f5⟩ := hh.cells
  have hcon := spec_PastCount pa pn pc a w hP
  rw [hm] at hcon
  have hnum := fun W => coNumber_yes n W hn
  clear hm
  have Hcon := Lib.hid hcon; clear hcon
  have Hnum := Lib.hid hnum; clear hnum
  go_enter Tryz.func71, Tryz.ntmps71
  go_wp2_with fail
  with_reducible refine (Hcon.out).mono ?_
  rintro e w1 ⟨rfl, hb1⟩
  go_wp2_with fail
  with_reducible refine (Hnum.out _).mono ?_
  rintro e w2 ⟨rfl, hb2⟩
  have hb := belowTrans hb1 hb2 (Nat.le_refl _)
  go_wp2
  go_ret
  exact ⟨rfl, hb⟩
theorem asked_tail {w : World} (hh : LnB w g pa pn pc la ln lc bh bl ba bn bc na nn nc ty) {a : List Int} (hP : IntsAt w pa pn pc a) {n : Nat} (hn : n ≤ 999999999) (hm : mTailOf a = ((n : Int), true)) :
    Calls Tryz.prog 71 #[.pointer (some ⟨g, 0, none⟩), .string ⟨#[116, 97, 105, 108]⟩] w fun e w' => e = .returned (.string ⟨(Lib.decDigits n).toArray⟩) ∧ Below w.heap.size w w' := by
  obtain ⟨⟨u0, u1, u2, u3, u4, u5⟩, f0, f1, f2, f3, f4, f5⟩ := hh.cells
  have hcon := spec_TailOf pa pn pc a w hP
  rw [hm] at hcon
  have hnum := fun W => coNumber_yes n W hn
  clear hm
  have Hcon := Lib.hid hcon; clear hcon
  have Hnum := Lib.hid hnum; clear hnum
  go_enter Tryz.func71, Tryz.ntmps71
  go_wp2_with fail
  with_reducible refine (Hcon.out).mono ?_
  rintro e w1 ⟨rfl, hb1⟩
  go_wp2_with fail
  with_reducible refine (Hnum.out _).mono ?_
  rintro e w2 ⟨rfl, hb2⟩
  have hb := belowTrans hb1 hb2 (Nat.le_refl _)
  go_wp2
  go_ret
  exact ⟨rfl, hb⟩
theorem asked_length {w : World} (hh : LnB w g pa pn pc la ln lc bh bl ba bn bc na nn nc ty) {a : List Int} (hP : IntsAt w pa pn pc a) {n : Nat} (hn : n ≤ 999999999) (hm : mCycleLength a = ((n : Int), true)) :
    Calls Tryz.prog 71 #[.pointer (some ⟨g, 0, none⟩), .string ⟨#[108, 101, 110, 103, 116, 104]⟩] w fun e w' => e = .returned (.string ⟨(Lib.decDigits n).toArray⟩) ∧ Below w.heap.size w w' := by
  obtain ⟨⟨u0, u1, u2, u3, u4, u5⟩, f0, f1, f2, f3, f4, f5⟩ := hh.cells
  have hcon := spec_CycleLength pa pn pc a w hP
  rw [hm] at hcon
  have hnum := fun W => coNumber_yes n W hn
  clear hm
  have Hcon := Lib.hid hcon; clear hcon
  have Hnum := Lib.hid hnum; clear hnum
  go_enter Tryz.func71, Tryz.ntmps71
  go_wp2_with fail
  with_reducible refine (Hcon.out).mono ?_
  rintro e w1 ⟨rfl, hb1⟩
  go_wp2_with fail
  with_reducible refine (Hnum.out _).mono ?_
  rintro e w2 ⟨rfl, hb2⟩
  have hb := belowTrans hb1 hb2 (Nat.le_refl _)
  go_wp2
  go_ret
  exact ⟨rfl, hb⟩
theorem asked_row {w : World} (hh : LnB w g pa pn pc la ln lc bh bl ba bn bc na nn nc ty) {xs : List Int} (hP : IntsAt w la ln lc xs) (hg : RowOk xs) :
    Calls Tryz.prog 71 #[.pointer (some ⟨g, 0, none⟩), .string ⟨#[114, 111, 119]⟩] w fun e w' => e = .returned (.string ⟨(textW (rowStepL xs)).toArray⟩) ∧ Below w.heap.size w w' := by
  obtain ⟨⟨u0, u1, u2, u3, u4, u5⟩, f0, f1, f2, f3, f4, f5⟩ := hh.cells
  have hcon := roStep_any la ln lc xs w hP hg
  have hg2 := rowStepL_row hg
  have htx := fun a n c W h => roText_any a n c (rowStepL xs) W h hg2
  have Hcon := Lib.hid hcon; clear hcon
  have Htx := Lib.hid htx; clear htx
  go_enter Tryz.func71, Tryz.ntmps71
  go_wp2_with fail
  with_reducible refine (Hcon.out).mono ?_
  rintro e w1 ⟨a1, n1, c1, rfl, ho1, hb1⟩
  go_wp2_with fail
  with_reducible refine (Htx.out _ _ _ _ ho1.at).mono ?_
  rintro e w2 ⟨rfl, hb2⟩
  have hb := belowTrans hb1 hb2 (Nat.le_refl _)
  go_wp2
  go_ret
  exact ⟨rfl, hb⟩
theorem asked_orbitNo {w : World} (hh : LnB w g pa pn pc la ln lc bh bl ba bn bc na nn nc ty) {xs : List Int} (hP : IntsAt w la ln lc xs) {T L : Int} (hm : mRowOrbit xs = (T, L, false)) :
    Calls Tryz.prog 71 #[.pointer (some ⟨g, 0, none⟩), .string ⟨#[111, 114, 98, 105, 116]⟩] w fun e w' => e = .returned (.string ⟨#[110, 111]⟩) ∧ Below w.heap.size w w' := by
  obtain ⟨⟨u0, u1, u2, u3, u4, u5⟩, f0, f1, f2, f3, f4, f5⟩ := hh.cells
  have hcon := spec_RowOrbit la ln lc xs w hP
  rw [hm] at hcon
  clear hm
  have Hcon := Lib.hid hcon; clear hcon
  go_enter Tryz.func71, Tryz.ntmps71
  go_wp2_with fail
  with_reducible refine (Hcon.out).mono ?_
  rintro e w1 ⟨rfl, hb1⟩
  go_wp2
  go_ret
  exact ⟨rfl, hb1⟩
theorem asked_orbit {w : World} (hh : LnB w g pa pn pc la ln lc bh bl ba bn bc na nn nc ty) {xs : List Int} (hP : IntsAt w la ln lc xs) {T L : Nat} (hT : T ≤ 1000) (hL : L ≤ 1001) (hlT : (Lib.decDigits T).length ≤ 100) (hlL : (Lib.decDigits L).length ≤ 100) (hm : mRowOrbit xs = ((T : Int), (L : Int), true)) :
    Calls Tryz.prog 71 #[.pointer (some ⟨g, 0, none⟩), .string ⟨#[111, 114, 98, 105, 116]⟩] w fun e w' => e = .returned (.string ⟨(Lib.decDigits T ++ [32] ++ Lib.decDigits L).toArray⟩) ∧ Below w.heap.size w w' := by
  obtain ⟨⟨u0, u1, u2, u3, u4, u5⟩, f0, f1, f2, f3, f4, f5⟩ := hh.cells
  have hcon := spec_RowOrbit la ln lc xs w hP
  rw [hm] at hcon
  have hn1 := fun W => l1Num_any T T W (Nat.le_refl _) (by omega)
  have hn2 := fun W => l1Num_any L L W (Nat.le_refl _) (by omega)
  clear hm
  have hfin : (⟨(Lib.decDigits T).toArray⟩ : ByteArray) ++ ⟨#[32]⟩ ++ ⟨(Lib.decDigits L).toArray⟩ = ⟨(Lib.decDigits T ++ [32] ++ Lib.decDigits L).toArray⟩ := by
    apply ByteArray.ext
    simp [ByteArray.data_append]
  generalize Lib.decDigits T = D1 at *
  generalize Lib.decDigits L = D2 at *
  have n1 : ¬ (9223372036854775807 < D1.length + 1) := by omega
  have n2 : ¬ (9223372036854775807 < D1.length + 1 + D2.length) := by omega
  have Hcon := Lib.hid hcon; clear hcon
  have Hn1 := Lib.hid hn1; clear hn1
  have Hn2 := Lib.hid hn2; clear hn2
  have Hfin := Lib.hid hfin; clear hfin
  go_enter Tryz.func71, Tryz.ntmps71
  go_wp2_with fail
  with_reducible refine (Hcon.out).mono ?_
  rintro e w1 ⟨rfl, hb1⟩
  go_wp2_with fail
  with_reducible refine (Hn1.out _).mono ?_
  rintro e w2 ⟨rfl, hb2⟩
  go_wp2_with fail
  with_reducible refine (Hn2.out _).mono ?_
  rintro e w3 ⟨rfl, hb3⟩
  have hb := belowTrans (belowTrans hb1 hb2 (Nat.le_refl _)) hb3 (Nat.le_refl _)
  go_wp2
  go_ret
  refine ⟨?_, hb⟩
  have h := Hfin.out
  first
    | exact congrArg (fun x => Ending.returned (Value.string x)) h
    | (congr 2; rw [← h]; rfl)
    | (congr 2; apply ByteArray.ext; simp)
theorem asked_bank {w : World} (hh : LnB w g pa pn pc la ln lc bh bl ba bn bc na nn nc ty) {xs : List Int} (hP : IntsAt w ba bn bc xs) (hk : BankOk ⟨bh, bl, xs⟩) :
    Calls Tryz.prog 71 #[.pointer (some ⟨g, 0, none⟩), .string ⟨#[98, 97, 110, 107]⟩] w fun e w' => e = .returned (.string ⟨(bankL (stepB ⟨bh, bl, xs⟩)).toArray⟩) ∧ Below w.heap.size w w' := by
  obtain ⟨⟨u0, u1, u2, u3, u4, u5⟩, f0, f1, f2, f3, f4, f5⟩ := hh.cells
  have hcon := baStep_any bh bl ba bn bc xs w hP hk
  have hk2 := (step_ok hk).1
  generalize stepB ⟨bh, bl, xs⟩ = q at hcon hk2 ⊢
  obtain ⟨qh, ql, qp⟩ := q
  simp only at hcon
  have htx := fun a n c W h => baText_any qh ql a n c qp W h hk2
  have Hcon := Lib.hid hcon; clear hcon
  have Htx := Lib.hid htx; clear htx
  go_enter Tryz.func71, Tryz.ntmps71
  go_wp2_with fail
  with_reducible refine (Hcon.out).mono ?_
  rintro e w1 ⟨a1, n1, c1, rfl, ho1, hb1⟩
  have hba := belowAlloc w1 (.cells #[.int .i64 qh, .int .i64 ql, .slice a1 n1 c1] 84)
  obtain ⟨⟨p0, p1, p2⟩, q0, q1, q2⟩ := (Blk.new w1 qh ql a1 n1 c1 84).cells
  have hc2 := Htx.out _ _ _ _ (ho1.at.keep hba)
  have Hc2 := Lib.hid hc2; clear hc2
  go_wp2_with fail
  with_reducible refine (Hc2.out).mono ?_
  rintro e w2 ⟨rfl, hb2⟩
  have hb := belowTrans (belowTrans hb1 hba (Nat.le_refl _)) hb2 (Nat.le_refl _)
  go_wp2
  go_ret
  exact ⟨rfl, hb⟩
end
end
end Go.Proofs.YtimmjimeldejjaaGreatDoor
