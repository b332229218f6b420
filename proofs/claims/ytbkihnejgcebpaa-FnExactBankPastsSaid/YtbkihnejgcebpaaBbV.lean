/- Bank states that the program puts together out of rows that it lists: the rows still to come lie apart from those put in. No condition. -/
import Derived.Test.YtbkihnejgcebpaaBbP
namespace Go.Proofs.Ytbkihnejgcebpaa
open Go.RowKit
set_option linter.unusedVariables false
set_option linter.unusedSimpArgs false
set_option maxRecDepth 20000

/-- lists of lists that the call made, the rows by name -/
def RowsN (B E : Nat) (w : World) (ao : Option Addr) (n cap : Nat) (us : List Value) (xss : List (List Int)) : Prop :=
  OwnRow B E w 28 ao n cap us ∧ xss.length = n ∧
    (∀ i, i < n → ∃ a m c, us.getD i undef = .slice a m c ∧ Own B E w a m c (xss.getD i [])) ∧ (∀ i j, i < j → j < n → apart (us.getD i undef) (us.getD j undef))
theorem OwnRows.named {B E w ao n cap xss} (h : OwnRows B E w ao n cap xss) : ∃ us, RowsN B E w ao n cap us xss := h
theorem RowsN.keep {B E w w' ao n cap us xss} (h : RowsN B E w ao n cap us xss) (hb : Below w.heap.size w w') : RowsN B E w' ao n cap us xss := by
  obtain ⟨h1, h2, h3, h4⟩ := h
  refine ⟨h1.keep hb, h2, fun i hi => ?_, h4⟩
  obtain ⟨a, m, c, e, ho⟩ := h3 i hi
  exact ⟨a, m, c, e, ho.keep hb⟩
theorem RowsN.chg3 {B E w w' ao n cap us xss B' E' a' n' c' vs} (h : RowsN B E w ao n cap us xss) (k1 : Row3 B' E' w a' n' c' vs) (hc : Chg (fun q => (Value.slice a' n' c').ownBlock = some q) w w') : RowsN B E w' ao n cap us xss := by
  obtain ⟨h1, h2, h3, h4⟩ := h
  refine ⟨h1.chg hc fun g _ _ hg hs => ?_, h2, fun i hi => ?_, h4⟩
  · obtain ⟨cur, f1⟩ := k1.typed hs
    obtain ⟨cur', f2⟩ := OwnRow.typed h1 hg
    rw [f1] at f2
    simp at f2
  · obtain ⟨a, m, c, e, ho⟩ := h3 i hi
    exact ⟨a, m, c, e, ho.chg hc fun g _ _ hg hs => k1.apartInt ho hg hs⟩
/-- where a row lies -/
theorem RowsN.cell {B E w ao n cap us xss} (h : RowsN B E w ao n cap us xss) (i : Nat) (hi : i < n) :
    ∃ b a m c, ao = some ⟨b, 0, none⟩ ∧ b < w.heap.size ∧ us.getD i undef = .slice a m c ∧ w.cell? ⟨b, i, none⟩ = some (.slice a m c) ∧ Own B E w a m c (xss.getD i []) := by
  obtain ⟨h1, h2, h3, h4⟩ := h
  obtain ⟨a, m, c, e, ho⟩ := h3 i hi
  rcases h1.cases with ⟨_, rfl, _⟩ | ⟨b, rfl, _, _, hb⟩
  · omega
  have hl := h1.length
  refine ⟨b, a, m, c, rfl, hb, e, ?_, ho⟩
  have := World.ownsRow.cellAt h1.1 i (by omega)
  rw [this, ← e, List.getElem?_eq_getElem (by omega), List.getD_eq_getElem?_getD, List.getElem?_eq_getElem (by omega)]
  rfl

/-- bank states in a row of this call's, their piles in rows from B on, apart from the rows j, j + 1, .., m - 1 -/
def BksR (Bo B E : Nat) (w : World) (ao : Option Addr) (n cap : Nat) (bs : List Bk) (us : List Value) (j m : Nat) : Prop :=
  ∃ vs : List Value, Row3 Bo E w ao n cap vs ∧ bs.length = n ∧
    (∀ i, i < n → ∃ a m c, vs.getD (i * 3) undef = .int .i64 (bs.getD i noBank).h ∧ vs.getD (i * 3 + 1) undef = .int .i64 (bs.getD i noBank).l ∧ vs.getD (i * 3 + 2) undef = .slice a m c ∧ Own B E w a m c (bs.getD i noBank).p) ∧
    (∀ i j, i < j → j < n → apart (vs.getD (i * 3 + 2) undef) (vs.getD (j * 3 + 2) undef)) ∧
    ∀ t i, t < n → j ≤ i → i < m → apart (vs.getD (t * 3 + 2) undef) (us.getD i undef)
theorem BksR.own {Bo B E w ao n cap bs us j m} (h : BksR Bo B E w ao n cap bs us j m) (hB : B ≤ Bo) : BksOwn B E w ao n cap bs := by
  obtain ⟨vs, h1, h2, h3, h4, _⟩ := h
  exact ⟨vs, h1.mono hB (Nat.le_refl _), h2, h3, h4⟩
theorem BksR.length {Bo B E w ao n cap bs us j m} (h : BksR Bo B E w ao n cap bs us j m) : bs.length = n := by obtain ⟨_, _, h, _⟩ := h; exact h
theorem BksR.row3 {Bo B E w ao n cap bs us j m} (h : BksR Bo B E w ao n cap bs us j m) : ∃ vs, Row3 Bo E w ao n cap vs := by
  obtain ⟨vs, h1, _⟩ := h
  exact ⟨vs, h1⟩
theorem BksR.outer {Bo B E w ao n cap bs us j m} (h : BksR Bo B E w ao n cap bs us j m) (k : Nat) (hk : (Value.slice ao n cap).ownBlock = some k) : Bo ≤ k ∧ k < E := by
  obtain ⟨vs, h1, _⟩ := h
  exact ⟨(h1.1.lt k hk).1, h1.2 k hk⟩
theorem BksR.nil (Bo B E : Nat) (w : World) (us : List Value) (m : Nat) : BksR Bo B E w none 0 0 [] us 0 m :=
  ⟨[], Row3.nil Bo E w, rfl, fun i hi => absurd hi (Nat.not_lt_zero _), fun i j _ hj => absurd hj (Nat.not_lt_zero _), fun t i ht => absurd ht (Nat.not_lt_zero _)⟩
theorem BksR.skip {Bo B E w ao n cap bs us j m} (h : BksR Bo B E w ao n cap bs us j m) : BksR Bo B E w ao n cap bs us (j + 1) m := by
  obtain ⟨vs, h1, h2, h3, h4, h5⟩ := h
  exact ⟨vs, h1, h2, h3, h4, fun t i ht hi hm => h5 t i ht (by omega) hm⟩
theorem BksR.keep {Bo B E w w' ao n cap bs us j m} (h : BksR Bo B E w ao n cap bs us j m) (hb : Below w.heap.size w w') : BksR Bo B E w' ao n cap bs us j m := by
  obtain ⟨vs, h1, h2, h3, h4, h5⟩ := h
  have hc := Chg.ofBelow (S := fun _ => False) hb
  refine ⟨vs, h1.chg hc (fun g _ _ _ h => h), h2, fun i hi => ?_, h4, h5⟩
  obtain ⟨a, m, c, e0, e1, e2, ho⟩ := h3 i hi
  exact ⟨a, m, c, e0, e1, e2, ho.keep hb⟩
theorem BksR.mono {Bo B E E' : Nat} {w ao n cap bs us j m} (h : BksR Bo B E w ao n cap bs us j m) (hE : E ≤ E') : BksR Bo B E' w ao n cap bs us j m := by
  obtain ⟨vs, h1, h2, h3, h4, h5⟩ := h
  refine ⟨vs, h1.mono (Nat.le_refl _) hE, h2, fun i hi => ?_, h4, h5⟩
  obtain ⟨a, m, c, e0, e1, e2, ho⟩ := h3 i hi
  exact ⟨a, m, c, e0, e1, e2, ho.mono (Nat.le_refl _) hE⟩
theorem BksR.first {B C E w ao n cap bs us R a1 m c1} (h : BksOwn B C w ao n cap bs) (r : RowsN C E w a1 m c1 us R) (hE : C ≤ E) : BksR B B E w ao n cap bs us 0 m := by
  obtain ⟨vs, h1, h2, h3, h4⟩ := h
  refine ⟨vs, h1.mono (Nat.le_refl _) hE, h2, fun i hi => ?_, h4, fun t i ht _ hi => ?_⟩
  · obtain ⟨a, m, c, e0, e1, e2, ho⟩ := h3 i hi
    exact ⟨a, m, c, e0, e1, e2, ho.mono (Nat.le_refl _) hE⟩
  · obtain ⟨a, m', c, -, -, e2, ho⟩ := h3 t ht
    obtain ⟨a', m'', c', e, hr⟩ := r.2.2.1 i hi
    rw [e2, e]
    rcases ho.cases with ⟨rfl, -⟩ | ⟨g, rfl, -, g2, -⟩
    · exact .inl rfl
    · refine .inr fun e => ?_
      rcases hr.cases with ⟨rfl, -⟩ | ⟨g', rfl, g1, -, -⟩
      · cases e
      · simp [Value.ownBlock] at e
        omega
theorem RowsN.apart {B E w ao n cap us xss} (h : RowsN B E w ao n cap us xss) : ∀ i k, i < k → k < n → apart (us.getD i undef) (us.getD k undef) := h.2.2.2
/-- append of a bank state whose piles are the row j -/
theorem wpList_pushBR {ops : Array Oper} {rest : List Oper} {o : Oper} {a : Act} {Q : Exit → Act → World → Prop} (w : World) (hgd : o.guard = none) (s x : Operand)
    (ho : o.op = .call { callee := .builtin .append, args := #[s, x], argTypes := #[22, 22] })
    (Bo B C E E0 : Nat) (ao : Option Addr) (n cap : Nat) (bs : List Bk) (us : List Value) (m j : Nat) (hs : a.eval s = .slice ao n cap)
    (hown : BksR Bo B E w ao n cap bs us j m) (hap : ∀ i k, i < k → k < m → apart (us.getD i undef) (us.getD k undef)) (hj : j < m) (u0 u1 : Int) (pa : Option Addr) (pm pc : Nat) (p : List Int)
    (he : us.getD j undef = .slice pa pm pc) (hp : Own C E0 w pa pm pc p) (hBC : B ≤ C) (hCE : E0 ≤ E) (hE : E ≤ w.heap.size) (hBE : Bo ≤ E)
    (hx : a.eval x = .slice (some ⟨w.heap.size, 0, none⟩) 1 1) (hn : n ≤ 1048576)
    (h : ∀ ao' cap' w', BksR Bo B w'.heap.size w' ao' (n + 1) cap' (bs ++ [⟨u0, u1, p⟩]) us (j + 1) m → Chg (fun k => (Value.slice ao n cap).ownBlock = some k) w w' → wpList Try.prog ops Q rest (a.put o.dst (.slice ao' (n + 1) cap')) w') :
    wpList Try.prog ops Q (o :: rest) a (w.alloc (.cells #[.int .i64 u0, .int .i64 u1, .slice pa pm pc] 33)) := by
  obtain ⟨vs, h1, h2, h3, h4, h5⟩ := hown
  refine wpList_pushB w hgd s x ho Bo E ao n cap vs hs h1 u0 u1 pa pm pc hx hn (by omega) fun ao' cap' w' r hc => h ao' cap' w' ?_ hc
  have hl := h1.length
  have hp' := (hp.mono hBC hCE)
  have hEE : E ≤ w'.heap.size := Nat.le_trans hE hc.size
  refine ⟨_, r, by simp [h2], fun i hi => ?_, fun i k hik hk => ?_, fun t i ht hi hm => ?_⟩
  · by_cases hlt : i < n
    · obtain ⟨a, m, c, e0, e1, e2, ho⟩ := h3 i hlt
      rw [getD_appL _ _ _ _ (by omega), getD_appL _ _ _ _ (by omega), getD_appL _ _ _ _ (by omega), getD_appL _ _ _ _ (by omega)]
      exact ⟨a, m, c, e0, e1, e2, (ho.chg hc fun g _ _ hg hs => h1.apartInt ho hg hs).mono (Nat.le_refl _) hEE⟩
    · obtain rfl : i = n := by omega
      rw [getD_appR vs _ _ _ 0 (by omega), getD_appR vs _ _ _ 1 (by omega), getD_appR vs _ _ _ 2 (by omega), getD_appR bs _ _ _ 0 (by omega)]
      exact ⟨pa, pm, pc, rfl, rfl, rfl, (hp'.chg hc fun g _ _ hg hs => h1.apartInt hp' hg hs).mono (Nat.le_refl _) hEE⟩
  · rw [getD_appL _ _ _ _ (by omega)]
    by_cases hlt : k < n
    · rw [getD_appL _ _ _ _ (by omega)]
      exact h4 i k hik hlt
    · obtain rfl : k = n := by omega
      rw [getD_appR vs _ _ _ 2 (by omega)]
      have := h5 i j hik (Nat.le_refl _) hj
      rw [he] at this
      exact this
  · by_cases hlt : t < n
    · rw [getD_appL _ _ _ _ (by omega)]
      exact h5 t i hlt (by omega) hm
    · obtain rfl : t = n := by omega
      rw [getD_appR vs _ _ _ 2 (by omega)]
      have := hap j i (by omega) hm
      rw [he] at this
      exact this
theorem BksR.chgBelow {Bo B E w w' ao n cap bs us j m} (h : BksR Bo B E w ao n cap bs us j m) (hc : Chg (fun k => (Value.slice ao n cap).ownBlock = some k) w w') (hB : Bo ≤ w.heap.size) : Below Bo w w' :=
  hc.below hB (fun k hk => (h.outer k hk).1)
end Go.Proofs.Ytbkihnejgcebpaa
