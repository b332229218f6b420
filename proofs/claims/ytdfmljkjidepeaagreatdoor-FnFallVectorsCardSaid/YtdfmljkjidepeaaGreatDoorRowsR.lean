/- Lists of lists that can be read or are owned, two of which may lie in one block; spines and the rows behind them. No condition. -/
import Derived.Test.YtdfmljkjidepeaaGreatDoorAppX
namespace Go.Proofs.YtdfmljkjidepeaaGreatDoor
open Go.RowKit
set_option linter.unusedVariables false
set_option linter.unusedSimpArgs false
set_option maxRecDepth 20000

/-! ### Lists of lists that can be read, in blocks from B on, up to E -/
structure RowsR (B E : Nat) (w : World) (ao : Option Addr) (n cap : Nat) (xss : List (List Int)) : Prop where
  at_ : RowsAt w ao n cap xss
  spine : ∀ b o, ao = some ⟨b, o, none⟩ → 0 < n → B ≤ b ∧ b < E
  rows : ∀ b o i a m c, ao = some ⟨b, o, none⟩ → i < n → w.cell? ⟨b, o + i, none⟩ = some (.slice a m c) → ∀ p q, a = some ⟨p, q, none⟩ → B ≤ p ∧ p < E
theorem RowsR.length {B E w ao n cap xss} (h : RowsR B E w ao n cap xss) : xss.length = n := h.at_.length
theorem RowsR.at {B E w ao n cap xss} (h : RowsR B E w ao n cap xss) : RowsAt w ao n cap xss := h.at_
theorem RowsR.nil (B E : Nat) (w : World) : RowsR B E w none 0 0 [] :=
  ⟨⟨rfl, Nat.le_refl _, Nat.zero_le _, fun _ => ⟨rfl, rfl⟩, fun j hj => absurd hj (Nat.not_lt_zero _)⟩, (fun b o e => by cases e), (fun b o i a m c e => by cases e)⟩
theorem RowsR.chg {S : Nat → Prop} {B E w w' ao n cap xss} (h : RowsR B E w ao n cap xss) (hc : Chg S w w') (hs : ∀ g, B ≤ g → g < E → ¬ S g) : RowsR B E w' ao n cap xss := by
  have hcell : ∀ b o i, ao = some ⟨b, o, none⟩ → i < n → b < w.heap.size → w'.cell? ⟨b, o + i, none⟩ = w.cell? ⟨b, o + i, none⟩ := fun b o i e hi hb => by
    have hr := h.spine b o e (by omega)
    exact World.cell?_of_block (a := ⟨b, o + i, none⟩) (hc.block b hb (hs b hr.1 hr.2))
  refine ⟨⟨h.at_.length, h.at_.le, h.at_.max, h.at_.isNil, fun j hj => ?_⟩, h.spine, fun b o i a m c e hi hcl => ?_⟩
  · obtain ⟨b, o, e, hlt, hrow⟩ := h.at_.cell j hj
    refine ⟨b, o, e, Nat.lt_of_lt_of_le hlt hc.size, fun i hi => ?_⟩
    obtain ⟨a, m, c, h1, h2⟩ := hrow i hi
    refine ⟨a, m, c, by rw [hcell b o i e hi hlt]; exact h1, h2.chg hc fun p q e2 => ?_⟩
    have := h.rows b o i a m c e hi h1 p q e2
    exact hs p this.1 this.2
  · obtain ⟨b', o', e', hlt, hrow⟩ := h.at_.cell i hi
    rw [e] at e'
    simp only [Option.some.injEq, Addr.mk.injEq, and_true] at e'
    obtain ⟨rfl, rfl⟩ := e'
    rw [hcell b o i e hi hlt] at hcl
    exact h.rows b o i a m c e hi hcl
theorem RowsR.rg {B E C D w w' ao n cap xss} (h : RowsR B E w ao n cap xss) (hc : Chg (Rg C D) w w') (hd : E ≤ C ∨ D ≤ B) : RowsR B E w' ao n cap xss :=
  h.chg hc (fun g h1 h2 h3 => by have := h3.1; have := h3.2; omega)
theorem RowsR.keep {B E w w' ao n cap xss} (h : RowsR B E w ao n cap xss) (hb : Below w.heap.size w w') : RowsR B E w' ao n cap xss :=
  h.chg (S := fun _ => False) (Chg.ofBelow hb) (fun _ _ _ h => h)
theorem RowsR.mono {B B' E E' w ao n cap xss} (h : RowsR B E w ao n cap xss) (hB : B' ≤ B) (hE : E ≤ E') : RowsR B' E' w ao n cap xss :=
  ⟨h.at_, fun b o e hn => by have := h.spine b o e hn; omega, fun b o i a m c e hi hcl p q e2 => by have := h.rows b o i a m c e hi hcl p q e2; omega⟩
theorem ownAddr {B E w ty ao n cap vs} (h : OwnRow B E w ty ao n cap vs) {b o : Nat} (e : ao = some ⟨b, o, none⟩) : B ≤ b ∧ b < E := by
  rcases h.cases with ⟨e1, _⟩ | ⟨g, e1, h1, h2, _⟩
  · rw [e1] at e; cases e
  · rw [e1] at e; simp only [Option.some.injEq, Addr.mk.injEq, and_true] at e; omega
theorem Own.addr {B E w ao n cap xs} (h : Own B E w ao n cap xs) {b o : Nat} (e : ao = some ⟨b, o, none⟩) : B ≤ b ∧ b < E := ownAddr h e

/-- the lists from one on -/
theorem rowsFrom {B E w ao n cap xss} (h : OwnRows B E w ao n cap xss) (lo : Nat) (hlo : lo < n) :
    RowsR B E w (Option.map (fun x => x.add lo) ao) (n - lo) (cap - lo) (xss.drop lo) := by
  obtain ⟨vs, h1, h2⟩ := h.vals
  have hl := h.length
  have hcap := h.at.le
  have hv := h1.at.drop lo (by omega)
  simp only [Nat.mul_one] at hv
  obtain ⟨b', o', e', hlt', _⟩ := h.at.cell 0 (by omega)
  have hb' := ownAddr h1 e'
  subst e'
  rw [if_neg (by omega)] at hv
  have haddr : Option.map (fun x => x.add lo) (some (⟨b', o', none⟩ : Addr)) = some ⟨b', o' + lo, none⟩ := by simp [Addr.add_lit]
  rw [haddr] at hv ⊢
  refine ⟨⟨by simp [hl], hv.le, hv.max, hv.isNil, fun j hj => ?_⟩, fun b o e hn => ?_, fun b o i a m c e hi hcl p q e2 => ?_⟩
  · obtain ⟨b, o, e, hlt, hc⟩ := hv.cell j hj
    refine ⟨b, o, e, hlt, fun i hi => ?_⟩
    obtain ⟨a, m, c, e1, ho⟩ := h2.row (lo + i) (by omega)
    have e2 : (vs.drop lo).getD i undef = vs.getD (lo + i) undef := by rw [List.getD_eq_getElem?_getD, List.getElem?_drop, ← List.getD_eq_getElem?_getD]
    have e3 : (xss.drop lo).getD i [] = xss.getD (lo + i) [] := by rw [List.getD_eq_getElem?_getD, List.getElem?_drop, ← List.getD_eq_getElem?_getD]
    exact ⟨a, m, c, by rw [hc i hi, e2, e1], by rw [e3]; exact ho.at⟩
  · simp only [Option.some.injEq, Addr.mk.injEq, and_true] at e; omega
  · obtain ⟨b2, o2, e3, hlt, hc⟩ := hv.cell i hi
    rw [e] at e3
    simp only [Option.some.injEq, Addr.mk.injEq, and_true] at e3
    obtain ⟨rfl, rfl⟩ := e3
    rw [hc i hi] at hcl
    obtain ⟨a', m', c', e1, ho⟩ := h2.row (lo + i) (by omega)
    have e4 : (vs.drop lo).getD i undef = vs.getD (lo + i) undef := by rw [List.getD_eq_getElem?_getD, List.getElem?_drop, ← List.getD_eq_getElem?_getD]
    rw [e4, e1] at hcl
    simp only [Option.some.injEq, Value.slice.injEq] at hcl
    rw [← hcl.1] at e2
    exact ho.addr e2
theorem RowsR.drewN {B E w ao n cap xss} (h : RowsR B E w ao n cap xss) (q : Nat) : RowsR B E (w.drewN q) ao n cap xss := h.keep (belowDrewN (Below.refl _ _) q)

/-! ### Values behind which lists lie, two of which may lie in one block -/
structure RowsW (B E : Nat) (w : World) (vs : List Value) (xss : List (List Int)) : Prop where
  length : vs.length = xss.length
  row : ∀ i, i < xss.length → ∃ a m c, vs.getD i undef = .slice a m c ∧ Own B E w a m c (xss.getD i [])
theorem RowsV.toW {B E w vs xss} (h : RowsV B E w vs xss) : RowsW B E w vs xss := ⟨h.length, h.row⟩
theorem RowsW.mono {B B' E E' w vs xss} (h : RowsW B E w vs xss) (hB : B' ≤ B) (hE : E ≤ E') : RowsW B' E' w vs xss :=
  ⟨h.length, fun i hi => by obtain ⟨a, m, c, e, ho⟩ := h.row i hi; exact ⟨a, m, c, e, ho.mono hB hE⟩⟩
theorem RowsW.keep {B E w w' vs xss} (h : RowsW B E w vs xss) (hb : Below w.heap.size w w') : RowsW B E w' vs xss :=
  ⟨h.length, fun i hi => by obtain ⟨a, m, c, e, ho⟩ := h.row i hi; exact ⟨a, m, c, e, ho.keep hb⟩⟩
theorem RowsW.nil (B E : Nat) (w : World) : RowsW B E w [] [] := ⟨rfl, fun i hi => absurd hi (Nat.not_lt_zero _)⟩
theorem RowsW.oneCell {B E w vs xss} (h : RowsW B E w vs xss) : ∀ u ∈ vs, u.oneCell' = true := by
  intro u hu
  obtain ⟨i, hi, rfl⟩ := List.getElem_of_mem hu
  obtain ⟨a, m, c, e, _⟩ := h.row i (by rw [← h.length]; exact hi)
  rw [List.getD_eq_getElem?_getD, List.getElem?_eq_getElem hi] at e
  simp only [Option.getD_some] at e
  rw [e]; rfl
theorem RowsW.append {B E w vs xss us yss} (h : RowsW B E w vs xss) (k : RowsW B E w us yss) : RowsW B E w (vs ++ us) (xss ++ yss) := by
  refine ⟨by simp [h.length, k.length], fun i hi => ?_⟩
  by_cases hlt : i < xss.length
  · obtain ⟨a, m, c, e, ho⟩ := h.row i hlt
    refine ⟨a, m, c, ?_, ?_⟩
    · rw [List.getD_eq_getElem?_getD, List.getElem?_append_left (by rw [h.length]; exact hlt), ← List.getD_eq_getElem?_getD]; exact e
    · rw [List.getD_eq_getElem?_getD, List.getElem?_append_left hlt, ← List.getD_eq_getElem?_getD]; exact ho
  · rw [List.length_append] at hi
    obtain ⟨a, m, c, e, ho⟩ := k.row (i - xss.length) (by omega)
    refine ⟨a, m, c, ?_, ?_⟩
    · rw [List.getD_eq_getElem?_getD, List.getElem?_append_right (by rw [h.length]; omega), h.length, ← List.getD_eq_getElem?_getD]; exact e
    · rw [List.getD_eq_getElem?_getD, List.getElem?_append_right (by omega), ← List.getD_eq_getElem?_getD]; exact ho
theorem RowsW.chgSpine {B E w w' vs xss B' E' ao n cap us} (h : RowsW B E w vs xss) (k : OwnRow B' E' w 24 ao n cap us) (hc : Chg (fun q => (Value.slice ao n cap).ownBlock = some q) w w') : RowsW B E w' vs xss :=
  ⟨h.length, fun i hi => by
    obtain ⟨a, m, c, e, ho⟩ := h.row i hi
    exact ⟨a, m, c, e, ho.chg hc fun g _ _ hg hs => OwnRow.apart_ty ho k (by decide) hg hs⟩⟩
theorem RowsW.at {B E w vs xss ao n cap} (h : RowsW B E w vs xss) (hv : ValsAt w ao n cap vs) : RowsAt w ao n cap xss := by
  refine ⟨by rw [← h.length]; exact hv.length, hv.le, hv.max, hv.isNil, fun j hj => ?_⟩
  obtain ⟨b, o, e, hlt, hc⟩ := hv.cell j hj
  refine ⟨b, o, e, hlt, fun i hi => ?_⟩
  obtain ⟨a, m, c, e2, ho⟩ := h.row i (by rw [← h.length, hv.length]; exact hi)
  exact ⟨a, m, c, by rw [hc i hi, e2], ho.at⟩
theorem RowsW.toR {B E w vs xss ao n cap B' E'} (h : RowsW B E w vs xss) (hv : OwnRow B' E' w 24 ao n cap vs) {D F : Nat} (h1 : D ≤ B) (h2 : E ≤ F) (h3 : D ≤ B') (h4 : E' ≤ F) : RowsR D F w ao n cap xss := by
  refine ⟨h.at hv.at, fun b o e hn => by have := ownAddr hv e; omega, fun b o i a m c e hi hcl p q e2 => ?_⟩
  obtain ⟨b', o', e', hlt, hc⟩ := hv.at.cell i hi
  rw [e] at e'
  simp only [Option.some.injEq, Addr.mk.injEq, and_true] at e'
  obtain ⟨rfl, rfl⟩ := e'
  rw [hc i hi] at hcl
  have hvl := hv.length
  obtain ⟨a', m', c', e1, ho⟩ := h.row i (by rw [← h.length]; omega)
  rw [e1] at hcl
  simp only [Option.some.injEq, Value.slice.injEq] at hcl
  rw [← hcl.1] at e2
  have := ho.addr e2
  omega
/-- one list among them -/
theorem RowsW.one {B E w a m c ys} (h : Own B E w a m c ys) : RowsW B E w [.slice a m c] [ys] :=
  ⟨rfl, fun i hi => by
    obtain rfl : i = 0 := by simpa using hi
    exact ⟨a, m, c, rfl, h⟩⟩

structure RowsO (B E : Nat) (w : World) (ao : Option Addr) (n cap : Nat) (xss : List (List Int)) : Prop where
  ex : ∃ vs, ValsAt w ao n cap vs ∧ RowsW B E w vs xss
theorem RowsO.mono {B B' E E' w ao n cap xss} (h : RowsO B E w ao n cap xss) (hB : B' ≤ B) (hE : E ≤ E') : RowsO B' E' w ao n cap xss := by
  obtain ⟨vs, h1, h2⟩ := h.ex; exact ⟨vs, h1, h2.mono hB hE⟩
theorem RowsO.drewN {B E w ao n cap xss} (h : RowsO B E w ao n cap xss) (q : Nat) : RowsO B E (w.drewN q) ao n cap xss := by
  obtain ⟨vs, h1, h2⟩ := h.ex
  have hb : Below w.heap.size w (w.drewN q) := belowDrewN (Below.refl _ _) q
  exact ⟨vs, h1.keep hb, h2.keep hb⟩
theorem rowsFromO {B E w ao n cap xss} (h : OwnRows B E w ao n cap xss) (lo : Nat) (hlo : lo < n) :
    RowsO B E w (Option.map (fun x => x.add lo) ao) (n - lo) (cap - lo) (xss.drop lo) := by
  obtain ⟨vs, h1, h2⟩ := h.vals
  have hl := h.length
  have hcap := h.at.le
  have hv := h1.at.drop lo (by omega)
  simp only [Nat.mul_one] at hv
  rw [if_neg (by omega)] at hv
  refine ⟨vs.drop lo, hv, by simp [h2.length], fun i hi => ?_⟩
  rw [List.length_drop] at hi
  obtain ⟨a, m, c, e1, ho⟩ := h2.row (lo + i) (by omega)
  have e2 : (vs.drop lo).getD i undef = vs.getD (lo + i) undef := by rw [List.getD_eq_getElem?_getD, List.getElem?_drop, ← List.getD_eq_getElem?_getD]
  have e3 : (xss.drop lo).getD i [] = xss.getD (lo + i) [] := by rw [List.getD_eq_getElem?_getD, List.getElem?_drop, ← List.getD_eq_getElem?_getD]
  exact ⟨a, m, c, by rw [e2, e1], by rw [e3]; exact ho⟩

/-- append of all of a slice of values: where the row lies then -/
theorem wpList_catVX {ops : Array Oper} {rest : List Oper} {o : Oper} {a : Act} {Q : Exit → Act → World → Prop} (w : World) (hgd : o.guard = none) (s x : Operand)
    (ho : o.op = .call { callee := .builtin .append, args := #[s, x], argTypes := #[45, 45] })
    (B E : Nat) (ao : Option Addr) (n cap : Nat) (vs : List Value) (hs : a.eval s = .slice ao n cap) (hown : OwnRow B E w 24 ao n cap vs)
    (a2 : Option Addr) (m c : Nat) (us : List Value) (hx : a.eval x = .slice a2 m c) (hy : ValsAt w a2 m c us) (h1 : ∀ u ∈ us, u.oneCell' = true) (hm : 0 < m) (hn : n + m ≤ 1000000) (hB : B ≤ w.heap.size)
    (h : ∀ ao' cap' w', OwnRow B w'.heap.size w' 24 ao' (n + m) cap' (vs ++ us) → Chg (fun k => (Value.slice ao n cap).ownBlock = some k) w w' → NewOr w (.slice ao n cap) (.slice ao' (n + m) cap') → wpList Tryz.prog ops Q rest (a.put o.dst (.slice ao' (n + m) cap')) w') :
    wpList Tryz.prog ops Q (o :: rest) a w := by
  obtain ⟨bl, oo, rfl, hbl, hc⟩ := hy.cell 0 hm
  obtain ⟨ao', cap', w', hr, k1, k2, k3, _⟩ := run_app_x w 45 o.type 24 _ 24 Tryz.underlying45 Tryz.infoInts rfl (by decide) B ao n cap vs hown.1 ⟨bl, oo, none⟩ m c us hy.length (by
    intro j u hu
    have hj : j < m := by
      have := (List.getElem?_eq_some_iff.1 hu).1
      rw [hy.length] at this
      exact this
    rw [Addr.add_lit, hc j hj, List.getD_eq_getElem?_getD, hu]
    rfl) h1 (by omega) hB
  refine wpList_plain hgd fun K hK => ?_
  unfold Oper.wp
  simp [execOp, ho, resolve, invoke, builtin, hs, hx, hr, Result.andThen]
  exact hK _ _ (h ao' cap' w' (OwnRow.of k1) (chg_of_grown k2) k3)

/-! ### A spine (in blocks from B on, up to E) and what lies behind it (from C on, up to D) -/
structure Sp (B E C D : Nat) (w : World) (ao : Option Addr) (n cap : Nat) (vs : List Value) (xss : List (List Int)) : Prop where
  spine : OwnRow B E w 24 ao n cap vs
  rows : RowsW C D w vs xss
theorem Sp.length {B E C D w ao n cap vs xss} (h : Sp B E C D w ao n cap vs xss) : xss.length = n := by rw [← h.rows.length]; exact h.spine.length
theorem Sp.mono {B B' E E' C C' D D' w ao n cap vs xss} (h : Sp B E C D w ao n cap vs xss) (hB : B' ≤ B) (hE : E ≤ E') (hC : C' ≤ C) (hD : D ≤ D') : Sp B' E' C' D' w ao n cap vs xss := ⟨h.spine.mono hB hE, h.rows.mono hC hD⟩
theorem Sp.keep {B E C D w w' ao n cap vs xss} (h : Sp B E C D w ao n cap vs xss) (hb : Below w.heap.size w w') : Sp B E C D w' ao n cap vs xss := ⟨h.spine.keep hb, h.rows.keep hb⟩
theorem Sp.drewN {B E C D w ao n cap vs xss} (h : Sp B E C D w ao n cap vs xss) (q : Nat) : Sp B E C D (w.drewN q) ao n cap vs xss := h.keep (belowDrewN (Below.refl _ _) q)
theorem Sp.at {B E C D w ao n cap vs xss} (h : Sp B E C D w ao n cap vs xss) : RowsAt w ao n cap xss := h.rows.at h.spine.at
theorem Sp.toR {B E C D w ao n cap vs xss} (h : Sp B E C D w ao n cap vs xss) {X Y : Nat} (h1 : X ≤ B) (h2 : X ≤ C) (h3 : E ≤ Y) (h4 : D ≤ Y) : RowsR X Y w ao n cap xss := h.rows.toR h.spine h2 h4 h1 h3
theorem Sp.nil (B E C D : Nat) (w : World) : Sp B E C D w none 0 0 [] [] := ⟨OwnRow.nil _ _ _ _, RowsW.nil _ _ _⟩
theorem apart_iff (vs : List Value) : vs.Pairwise apart ↔ ∀ i j, i < j → j < vs.length → apart (vs.getD i undef) (vs.getD j undef) := by
  rw [List.pairwise_iff_getElem]
  constructor
  · intro h i j hij hj
    have := h i j (by omega) hj hij
    rw [List.getD_eq_getElem?_getD, List.getElem?_eq_getElem (by omega), List.getD_eq_getElem?_getD, List.getElem?_eq_getElem hj]
    exact this
  · intro h i j hi hj hij
    have := h i j hij hj
    rw [List.getD_eq_getElem?_getD, List.getElem?_eq_getElem hi, List.getD_eq_getElem?_getD, List.getElem?_eq_getElem hj] at this
    exact this
theorem OwnRows.sp {B E w ao n cap xss} (h : OwnRows B E w ao n cap xss) : ∃ vs, Sp B E B E w ao n cap vs xss ∧ vs.Pairwise apart := by
  obtain ⟨vs, h1, h2⟩ := h.vals
  exact ⟨vs, ⟨h1, h2.toW⟩, (apart_iff vs).2 fun i j hij hj => h2.two i j hij (by rw [← h2.length]; exact hj)⟩
theorem Sp.own {B E C D w ao n cap vs xss} (h : Sp B E C D w ao n cap vs xss) (hp : vs.Pairwise apart) {X Y : Nat} (h1 : X ≤ B) (h2 : X ≤ C) (h3 : E ≤ Y) (h4 : D ≤ Y) : OwnRows X Y w ao n cap xss :=
  ⟨vs, h.spine.mono h1 h3, by rw [h.length], fun i hi => (h.rows.mono h2 h4).row i (by rw [h.length]; exact hi), fun i j hij hj => (apart_iff vs).1 hp i j hij (by rw [h.rows.length, h.length]; exact hj)⟩
theorem RowsW.take {B E w vs xss} (h : RowsW B E w vs xss) (k : Nat) : RowsW B E w (vs.take k) (xss.take k) :=
  ⟨by rw [List.length_take, List.length_take, h.length], fun i hi => by
    rw [List.length_take] at hi
    obtain ⟨a, m, c, e, ho⟩ := h.row i (by omega)
    refine ⟨a, m, c, ?_, ?_⟩
    · rw [List.getD_eq_getElem?_getD, List.getElem?_take, if_pos (by omega), ← List.getD_eq_getElem?_getD]; exact e
    · rw [List.getD_eq_getElem?_getD, List.getElem?_take, if_pos (by omega), ← List.getD_eq_getElem?_getD]; exact ho⟩
theorem RowsW.drop {B E w vs xss} (h : RowsW B E w vs xss) (k : Nat) : RowsW B E w (vs.drop k) (xss.drop k) :=
  ⟨by rw [List.length_drop, List.length_drop, h.length], fun i hi => by
    rw [List.length_drop] at hi
    obtain ⟨a, m, c, e, ho⟩ := h.row (k + i) (by omega)
    refine ⟨a, m, c, ?_, ?_⟩
    · rw [List.getD_eq_getElem?_getD, List.getElem?_drop, ← List.getD_eq_getElem?_getD]; exact e
    · rw [List.getD_eq_getElem?_getD, List.getElem?_drop, ← List.getD_eq_getElem?_getD]; exact ho⟩
/-- the row at a place -/
theorem Sp.getRow {B E C D w ao n cap vs xss} (h : Sp B E C D w ao n cap vs xss) {k : Nat} (hk : k < n) : ∃ b o a m c, ao = some ⟨b, o, none⟩ ∧ b < w.heap.size ∧ w.cell? ⟨b, o + k, none⟩ = some (.slice a m c) ∧ vs.getD k undef = .slice a m c ∧ Own C D w a m c (xss.getD k []) := by
  obtain ⟨b, o, e, hlt, hc⟩ := h.spine.at.cell k hk
  obtain ⟨a, m, c, e2, ho⟩ := h.rows.row k (by rw [h.length]; exact hk)
  exact ⟨b, o, a, m, c, e, hlt, by rw [hc k hk, e2], e2, ho⟩
/-- one more list behind: at an append -/
theorem wpList_pushSp {ops : Array Oper} {rest : List Oper} {o : Oper} {a : Act} {Q : Exit → Act → World → Prop} (w : World) (hgd : o.guard = none) (s x : Operand)
    (ho : o.op = .call { callee := .builtin .append, args := #[s, x], argTypes := #[45, 45] })
    (B E C D : Nat) (ao : Option Addr) (n cap : Nat) (vs : List Value) (xss : List (List Int)) (hs : a.eval s = .slice ao n cap) (hown : Sp B E C D w ao n cap vs xss)
    (a2 : Option Addr) (m c : Nat) (ys : List Int) (hy : Own C D w a2 m c ys)
    (hx : a.eval x = .slice (some ⟨w.heap.size, 0, none⟩) 1 1) (hn : n ≤ 67108863) (hB : B ≤ w.heap.size)
    (h : ∀ ao' cap' w', Sp B w'.heap.size C D w' ao' (n + 1) cap' (vs ++ [.slice a2 m c]) (xss ++ [ys]) → Chg (fun k => (Value.slice ao n cap).ownBlock = some k) w w' → NewOr w (.slice ao n cap) (.slice ao' (n + 1) cap') → wpList Tryz.prog ops Q rest (a.put o.dst (.slice ao' (n + 1) cap')) w') :
    wpList Tryz.prog ops Q (o :: rest) a (w.alloc (.cells #[.slice a2 m c] 24)) := by
  refine wpList_pushVX w hgd s x 45 ho 24 _ 24 Tryz.underlying45 Tryz.infoInts rfl (by decide) B E ao n cap vs hs hown.spine _ rfl hx hn hB (fun ao' cap' w' ho' hc hnew => h ao' cap' w' ⟨ho', ?_⟩ hc hnew)
  exact (hown.rows.append (RowsW.one hy)).chgSpine hown.spine hc
/-- all lists of a slice behind: at an append -/
theorem wpList_catSp {ops : Array Oper} {rest : List Oper} {o : Oper} {a : Act} {Q : Exit → Act → World → Prop} (w : World) (hgd : o.guard = none) (s x : Operand)
    (ho : o.op = .call { callee := .builtin .append, args := #[s, x], argTypes := #[45, 45] })
    (B E C D : Nat) (ao : Option Addr) (n cap : Nat) (vs : List Value) (xss : List (List Int)) (hs : a.eval s = .slice ao n cap) (hown : Sp B E C D w ao n cap vs xss)
    (a2 : Option Addr) (m c : Nat) (us : List Value) (yss : List (List Int)) (hx : a.eval x = .slice a2 m c) (hy : ValsAt w a2 m c us) (hr : RowsW C D w us yss) (hn : n + m ≤ 67108864) (hB : B ≤ w.heap.size)
    (h : ∀ ao' cap' w', Sp B w'.heap.size C D w' ao' (n + m) cap' (vs ++ us) (xss ++ yss) → Chg (fun k => (Value.slice ao n cap).ownBlock = some k) w w' → wpList Tryz.prog ops Q rest (a.put o.dst (.slice ao' (n + m) cap')) w') :
    wpList Tryz.prog ops Q (o :: rest) a w := by
  refine wpList_catV w hgd s x 45 ho 24 _ 24 Tryz.underlying45 Tryz.infoInts rfl (by decide) B E ao n cap vs hs hown.spine a2 m c us hx hy hr.oneCell hn hB (fun ao' cap' w' ho' hc => h ao' cap' w' ⟨ho', ?_⟩ hc)
  exact (hown.rows.append hr).chgSpine hown.spine hc
theorem Sp.below {B E C D w w' ao n cap vs xss} (h : Sp B E C D w ao n cap vs xss) (hc : Chg (fun k => (Value.slice ao n cap).ownBlock = some k) w w') (hB : B ≤ w.heap.size) : Below B w w' := h.spine.chgBelow hc hB
end Go.Proofs.YtdfmljkjidepeaaGreatDoor
