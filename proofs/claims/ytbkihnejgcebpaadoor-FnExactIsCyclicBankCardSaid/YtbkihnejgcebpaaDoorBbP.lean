/- A bank state appended to a slice of them. No condition. -/
import Derived.Test.YtbkihnejgcebpaaDoorBbO
import Derived.Test.YtbkihnejgcebpaaDoorPush
namespace Go.Proofs.YtbkihnejgcebpaaDoor
open Go.RowKit
set_option linter.unusedVariables false
set_option linter.unusedSimpArgs false
set_option maxRecDepth 20000

theorem Tryd.infoBank : (Tryd.prog.info? 28).map (fun i => (i.zero, i.size, i.bytes)) = some (some (.agg #[.int .i64 0, .int .i64 0, .slice none 0 0]), 3, 40) := by kernel_rfl
theorem wpList_pushB {ops : Array Oper} {rest : List Oper} {o : Oper} {a : Act} {Q : Exit → Act → World → Prop} (w : World) (hgd : o.guard = none) (s x : Operand)
    (ho : o.op = .call { callee := .builtin .append, args := #[s, x], argTypes := #[34, 34] })
    (B E : Nat) (ao : Option Addr) (n cap : Nat) (vs : List Value) (hs : a.eval s = .slice ao n cap) (hown : Row3 B E w ao n cap vs) (u0 u1 : Int) (pa : Option Addr) (pm pc : Nat)
    (hx : a.eval x = .slice (some ⟨w.heap.size, 0, none⟩) 1 1) (hn : n ≤ 1048576) (hB : B ≤ w.heap.size)
    (h : ∀ ao' cap' w', Row3 B w'.heap.size w' ao' (n + 1) cap' (vs ++ [.int .i64 u0, .int .i64 u1, .slice pa pm pc]) → Chg (fun k => (Value.slice ao n cap).ownBlock = some k) w w' → wpList Tryd.prog ops Q rest (a.put o.dst (.slice ao' (n + 1) cap')) w') :
    wpList Tryd.prog ops Q (o :: rest) a (w.alloc (.cells #[.int .i64 u0, .int .i64 u1, .slice pa pm pc] 28)) := by
  obtain ⟨i0, hi, hz0, hz1, hz2⟩ := info_parts Tryd.infoBank
  refine wpList_append_own _ hgd s x 34 ho B 28 i0 _ 3 40 Tryd.underlying34 hi hz0 hz1 hz2 rfl (by decide) _ n vs hs (hown.1.alloc _) ⟨w.heap.size, 0, none⟩ 1 1 [.int .i64 u0, .int .i64 u1, .slice pa pm pc] hx rfl ?_ ?_ ?_ ?_ (by simp; omega) ?_
  · intro j u hu
    match j, hu with
    | 0, hu => simp at hu; subst hu; rw [Addr.add_lit, World.cell?_alloc_at _ _ _ _ rfl]; rfl
    | 1, hu => simp at hu; subst hu; rw [Addr.add_lit, World.cell?_alloc_at _ _ _ _ rfl]; rfl
    | 2, hu => simp at hu; subst hu; rw [Addr.add_lit, World.cell?_alloc_at _ _ _ _ rfl]; rfl
    | j + 3, hu => simp at hu
  · intro u hu
    simp at hu
    rcases hu with rfl | rfl | rfl <;> rfl
  · unfold maxLen; omega
  · omega
  · intro v' w1 hown' hgrow hnil
    have hv : ∃ ao' cap', v' = .slice ao' (n + 1) cap' := by
      rcases hown'.2 with ⟨e, hz⟩ | ⟨g, c, cur, e, _⟩
      · omega
      · exact ⟨_, _, e⟩
    obtain ⟨ao', cap', rfl⟩ := hv
    refine h ao' cap' w1 ⟨hown', fun g hg => (hown'.lt g hg).2⟩ ?_
    have hc := Chg.ofGrown hgrow
    refine ⟨hc.os, hc.tape, hc.output, Nat.le_trans (by simp) hc.size, fun k hk hs' => ?_⟩
    rw [hc.block k (by simp; omega) (fun e => hs' e.symm), Below.heap_alloc w _ k hk]

theorem getD_appL {α : Type} (l r : List α) (d : α) (i : Nat) (h : i < l.length) : (l ++ r).getD i d = l.getD i d := by
  rw [List.getD_eq_getElem?_getD, List.getElem?_append_left h, List.getD_eq_getElem?_getD]
theorem getD_appR {α : Type} (l r : List α) (d : α) (i k : Nat) (h : i = l.length + k) : (l ++ r).getD i d = r.getD k d := by
  subst h
  rw [List.getD_eq_getElem?_getD, List.getElem?_append_right (by omega), List.getD_eq_getElem?_getD]
  congr 2
  omega
theorem Row3.apartInt {B E w ao n cap vs B' E' a m c xs g} (h : Row3 B E w ao n cap vs) (hp : Own B' E' w a m c xs) (h1 : (Value.slice a m c).ownBlock = some g) (h2 : (Value.slice ao n cap).ownBlock = some g) : False := by
  obtain ⟨cur, f1⟩ := h.typed h2
  obtain ⟨cur', f2⟩ := OwnRow.typed hp h1
  rw [f1] at f2
  simp at f2
/-- what was there, one bank state more whose piles lie in a row of their own -/
theorem BksOwn.push {B E E' w w' ao n cap vs bs ao' cap' pa pm pc p} {u0 u1 : Int} (h1 : Row3 B E w ao n cap vs) (h2 : bs.length = n)
    (h3 : ∀ i, i < n → ∃ a m c, vs.getD (i * 3) undef = .int .i64 (bs.getD i noBank).h ∧ vs.getD (i * 3 + 1) undef = .int .i64 (bs.getD i noBank).l ∧ vs.getD (i * 3 + 2) undef = .slice a m c ∧ Own B E w a m c (bs.getD i noBank).p)
    (h4 : ∀ i j, i < j → j < n → apart (vs.getD (i * 3 + 2) undef) (vs.getD (j * 3 + 2) undef))
    (r : Row3 B E' w' ao' (n + 1) cap' (vs ++ [.int .i64 u0, .int .i64 u1, .slice pa pm pc])) (hc : Chg (fun k => (Value.slice ao n cap).ownBlock = some k) w w') (hE : E ≤ E') (hp : Own B E w pa pm pc p)
    (hap : ∀ i, i < n → apart (vs.getD (i * 3 + 2) undef) (.slice pa pm pc)) : BksOwn B E' w' ao' (n + 1) cap' (bs ++ [⟨u0, u1, p⟩]) := by
  have hl := h1.length
  refine ⟨_, r, by simp [h2], fun i hi => ?_, fun i j hij hj => ?_⟩
  · by_cases hlt : i < n
    · obtain ⟨a, m, c, e0, e1, e2, ho⟩ := h3 i hlt
      rw [getD_appL _ _ _ _ (by omega), getD_appL _ _ _ _ (by omega), getD_appL _ _ _ _ (by omega), getD_appL _ _ _ _ (by omega)]
      exact ⟨a, m, c, e0, e1, e2, (ho.chg hc fun g _ _ hg hs => h1.apartInt ho hg hs).mono (Nat.le_refl _) hE⟩
    · obtain rfl : i = n := by omega
      rw [getD_appR vs _ _ _ 0 (by omega), getD_appR vs _ _ _ 1 (by omega), getD_appR vs _ _ _ 2 (by omega), getD_appR bs _ _ _ 0 (by omega)]
      exact ⟨pa, pm, pc, rfl, rfl, rfl, (hp.chg hc fun g _ _ hg hs => h1.apartInt hp hg hs).mono (Nat.le_refl _) hE⟩
  · rw [getD_appL _ _ _ _ (by omega)]
    by_cases hlt : j < n
    · rw [getD_appL _ _ _ _ (by omega)]
      exact h4 i j hij hlt
    · obtain rfl : j = n := by omega
      rw [getD_appR vs _ _ _ 2 (by omega)]
      exact hap i hij
/-- append of a bank state whose piles were made behind all that lie in the slice -/
theorem wpList_pushBk {ops : Array Oper} {rest : List Oper} {o : Oper} {a : Act} {Q : Exit → Act → World → Prop} (w : World) (hgd : o.guard = none) (s x : Operand)
    (ho : o.op = .call { callee := .builtin .append, args := #[s, x], argTypes := #[34, 34] })
    (B C E : Nat) (ao : Option Addr) (n cap : Nat) (bs : List Bk) (hs : a.eval s = .slice ao n cap) (hown : BksOwn B C w ao n cap bs) (u0 u1 : Int) (pa : Option Addr) (pm pc : Nat) (p : List Int)
    (hp : Own C E w pa pm pc p) (hBC : B ≤ C) (hCE : C ≤ E) (hE : E ≤ w.heap.size)
    (hx : a.eval x = .slice (some ⟨w.heap.size, 0, none⟩) 1 1) (hn : n ≤ 1048576)
    (h : ∀ ao' cap' w', BksOwn B w'.heap.size w' ao' (n + 1) cap' (bs ++ [⟨u0, u1, p⟩]) → Chg (fun k => (Value.slice ao n cap).ownBlock = some k) w w' → wpList Tryd.prog ops Q rest (a.put o.dst (.slice ao' (n + 1) cap')) w') :
    wpList Tryd.prog ops Q (o :: rest) a (w.alloc (.cells #[.int .i64 u0, .int .i64 u1, .slice pa pm pc] 28)) := by
  obtain ⟨vs, h1, h2, h3, h4⟩ := hown
  refine wpList_pushB w hgd s x ho B C ao n cap vs hs h1 u0 u1 pa pm pc hx hn (by omega) fun ao' cap' w' r hc => h ao' cap' w' ?_ hc
  have h3' : ∀ i, i < n → ∃ a m c, vs.getD (i * 3) undef = .int .i64 (bs.getD i noBank).h ∧ vs.getD (i * 3 + 1) undef = .int .i64 (bs.getD i noBank).l ∧ vs.getD (i * 3 + 2) undef = .slice a m c ∧ Own B E w a m c (bs.getD i noBank).p := fun i hi => by
    obtain ⟨a, m, c, e0, e1, e2, ho⟩ := h3 i hi
    exact ⟨a, m, c, e0, e1, e2, ho.mono (Nat.le_refl _) hCE⟩
  refine BksOwn.push (h1.mono (Nat.le_refl _) hCE) h2 h3' h4 r hc (Nat.le_trans hE hc.size) (hp.mono hBC (Nat.le_refl _)) fun i hi => ?_
  obtain ⟨a, m, c, -, -, e2, ho⟩ := h3 i hi
  rw [e2]
  rcases ho.cases with ⟨rfl, -⟩ | ⟨g, rfl, -, g2, -⟩
  · exact .inl rfl
  · refine .inr fun e => ?_
    rcases hp.cases with ⟨rfl, -⟩ | ⟨g', rfl, g1, -, -⟩
    · cases e
    · simp [Value.ownBlock] at e
      omega

theorem BksOwn.chgBelow {B E w w' ao n cap bs} (h : BksOwn B E w ao n cap bs) (hc : Chg (fun k => (Value.slice ao n cap).ownBlock = some k) w w') (hB : B ≤ w.heap.size) : Below B w w' := by
  obtain ⟨vs, h1, -⟩ := h
  exact hc.below hB (fun k hk => (h1.1.lt k hk).1)
theorem BksOwn.chgRg {B E w w' ao n cap bs} (h : BksOwn B E w ao n cap bs) (hc : Chg (fun k => (Value.slice ao n cap).ownBlock = some k) w w') : Chg (Rg B E) w w' := by
  obtain ⟨vs, h1, -⟩ := h
  exact hc.mono fun k hk => ⟨(h1.1.lt k hk).1, h1.2 k hk⟩
/-- lists of lists stay where the outer row of bank states alone is written -/
theorem OwnRows.chgBks {B E w w' ao n cap xss B' E' a' n' c' bs} (h : OwnRows B E w ao n cap xss) (k : BksOwn B' E' w a' n' c' bs) (hc : Chg (fun q => (Value.slice a' n' c').ownBlock = some q) w w') : OwnRows B E w' ao n cap xss := by
  obtain ⟨us, k1, -⟩ := k
  obtain ⟨vs, h1, h2, h3, h4⟩ := h
  refine ⟨vs, h1.chg hc fun g _ _ hg hs => ?_, h2, fun i hi => ?_, h4⟩
  · obtain ⟨cur, f1⟩ := k1.typed hs
    obtain ⟨cur', f2⟩ := OwnRow.typed h1 hg
    rw [f1] at f2
    simp at f2
  · obtain ⟨a, m, c, e, ho⟩ := h3 i hi
    exact ⟨a, m, c, e, ho.chg hc fun g _ _ hg hs => k1.apartInt ho hg hs⟩
end Go.Proofs.YtbkihnejgcebpaaDoor
