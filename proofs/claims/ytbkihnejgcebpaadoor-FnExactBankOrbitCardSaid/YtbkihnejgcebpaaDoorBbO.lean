/- Slices of bank states that the call made: three cells each, the piles in rows of their own. No condition. -/
import Derived.Test.YtbkihnejgcebpaaDoorBbH
namespace Go.Proofs.YtbkihnejgcebpaaDoor
open Go.RowKit
set_option linter.unusedVariables false
set_option linter.unusedSimpArgs false
set_option maxRecDepth 20000

def Row3 (B E : Nat) (w : World) (ao : Option Addr) (n cap : Nat) (vs : List Value) : Prop :=
  w.ownsRow B 28 3 (.slice ao n cap) n vs ∧ ∀ g, (Value.slice ao n cap).ownBlock = some g → g < E
theorem Row3.length {B E w ao n cap vs} (h : Row3 B E w ao n cap vs) : vs.length = n * 3 := h.1.1
theorem Row3.mono {B B' E E' : Nat} {w ao n cap vs} (h : Row3 B E w ao n cap vs) (hB : B' ≤ B) (hE : E ≤ E') : Row3 B' E' w ao n cap vs := by
  refine ⟨⟨h.1.1, ?_⟩, fun g hg => Nat.lt_of_lt_of_le (h.2 g hg) hE⟩
  rcases h.1.2 with hn | ⟨g, c, cur, hv, hg, rest⟩
  · exact .inl hn
  · exact .inr ⟨g, c, cur, hv, Nat.le_trans hB hg, rest⟩
theorem Row3.nil (B E : Nat) (w : World) : Row3 B E w none 0 0 [] := ⟨World.ownsRow_nil w B _ 3, fun g hg => by simp [Value.ownBlock] at hg⟩
theorem Row3.cases {B E w ao n cap vs} (h : Row3 B E w ao n cap vs) : (ao = none ∧ n = 0 ∧ cap = 0 ∧ vs = []) ∨ ∃ g, ao = some ⟨g, 0, none⟩ ∧ B ≤ g ∧ g < E ∧ g < w.heap.size := by
  rcases h.1.2 with ⟨hv, hn⟩ | ⟨g, c, cur, hv, hg, hh, rest⟩
  · simp only [Value.slice.injEq] at hv
    obtain ⟨rfl, _, rfl⟩ := hv
    exact .inl ⟨rfl, hn, rfl, List.eq_nil_of_length_eq_zero (by rw [h.length]; omega)⟩
  · simp only [Value.slice.injEq] at hv
    exact .inr ⟨g, hv.1, hg, h.2 g (by rw [hv.1]; rfl), (Array.getElem?_eq_some_iff.1 hh).1⟩
theorem Row3.chg {S : Nat → Prop} {B E w w' ao n cap vs} (h : Row3 B E w ao n cap vs) (hc : Chg S w w') (hs : ∀ g, B ≤ g → g < E → (Value.slice ao n cap).ownBlock = some g → ¬ S g) : Row3 B E w' ao n cap vs := by
  refine ⟨⟨h.1.1, ?_⟩, h.2⟩
  rcases h.1.2 with hn | ⟨g, c, cur, hv, hg, hh, rest⟩
  · exact .inl hn
  · refine .inr ⟨g, c, cur, hv, hg, ?_, rest⟩
    have hb : (Value.slice ao n cap).ownBlock = some g := by rw [hv]; rfl
    rw [hc.block g (Array.getElem?_eq_some_iff.1 hh).1 (hs g hg (h.2 g hb) hb)]
    exact hh
theorem Row3.typed {B E w ao n cap vs g} (h : Row3 B E w ao n cap vs) (hg : (Value.slice ao n cap).ownBlock = some g) : ∃ cur, w.heap[g]? = some (.cells cur 28 (0, 0)) := by
  rcases h.1.2 with ⟨hv, _⟩ | ⟨g', c, cur, hv, hg', hh, _⟩
  · rw [hv] at hg; simp [Value.ownBlock] at hg
  · rw [hv] at hg; simp [Value.ownBlock] at hg; subst hg; exact ⟨cur, hh⟩
theorem Row3.cell {B E w g n cap vs} (h : Row3 B E w (some ⟨g, 0, none⟩) n cap vs) (j : Nat) (hj : j < n * 3) : w.cell? ⟨g, j, none⟩ = some (vs.getD j undef) := by
  have hl := h.length
  rw [World.ownsRow.cellAt h.1 j hj, List.getD_eq_getElem?_getD, List.getElem?_eq_getElem (by omega)]
  rfl
theorem Row3.put {B E w g n cap vs} (h : Row3 B E w (some ⟨g, 0, none⟩) n cap vs) (j : Nat) (u : Value) : Row3 B E (w.setCell ⟨g, j, none⟩ u) (some ⟨g, 0, none⟩) n cap (vs.set j u) := ⟨(World.ownsRow.stored h.1 j u).1, h.2⟩

/-- bank states that the call made -/
def BksOwn (B E : Nat) (w : World) (ao : Option Addr) (n cap : Nat) (bs : List Bk) : Prop :=
  ∃ vs : List Value, Row3 B E w ao n cap vs ∧ bs.length = n ∧
    (∀ i, i < n → ∃ a m c, vs.getD (i * 3) undef = .int .i64 (bs.getD i noBank).h ∧ vs.getD (i * 3 + 1) undef = .int .i64 (bs.getD i noBank).l ∧ vs.getD (i * 3 + 2) undef = .slice a m c ∧ Own B E w a m c (bs.getD i noBank).p) ∧
    (∀ i j, i < j → j < n → apart (vs.getD (i * 3 + 2) undef) (vs.getD (j * 3 + 2) undef))
theorem BksOwn.length {B E w ao n cap bs} (h : BksOwn B E w ao n cap bs) : bs.length = n := by obtain ⟨_, _, h, _⟩ := h; exact h
theorem BksOwn.nil (B E : Nat) (w : World) : BksOwn B E w none 0 0 [] := ⟨[], Row3.nil B E w, rfl, fun i hi => absurd hi (Nat.not_lt_zero _), fun i j _ hj => absurd hj (Nat.not_lt_zero _)⟩
theorem BksOwn.chg {S : Nat → Prop} {B E w w' ao n cap bs} (h : BksOwn B E w ao n cap bs) (hc : Chg S w w') (hs : ∀ g, B ≤ g → g < E → ¬ S g) : BksOwn B E w' ao n cap bs := by
  obtain ⟨vs, h1, h2, h3, h4⟩ := h
  refine ⟨vs, h1.chg hc (fun g a b _ => hs g a b), h2, fun i hi => ?_, h4⟩
  obtain ⟨a, m, c, e0, e1, e2, ho⟩ := h3 i hi
  exact ⟨a, m, c, e0, e1, e2, ho.chg hc (fun g a b _ => hs g a b)⟩
theorem BksOwn.rg {B E C D w w' ao n cap bs} (h : BksOwn B E w ao n cap bs) (hc : Chg (Rg C D) w w') (hd : E ≤ C ∨ D ≤ B) : BksOwn B E w' ao n cap bs :=
  h.chg hc (fun g h1 h2 h3 => by have := h3.1; have := h3.2; omega)
theorem BksOwn.keep {B E w w' ao n cap bs} (h : BksOwn B E w ao n cap bs) (hb : Below w.heap.size w w') : BksOwn B E w' ao n cap bs :=
  h.chg (S := fun _ => False) (Chg.ofBelow hb) (fun _ _ _ h => h)
theorem BksOwn.mono {B B' E E' : Nat} {w ao n cap bs} (h : BksOwn B E w ao n cap bs) (hB : B' ≤ B) (hE : E ≤ E') : BksOwn B' E' w ao n cap bs := by
  obtain ⟨vs, h1, h2, h3, h4⟩ := h
  refine ⟨vs, h1.mono hB hE, h2, fun i hi => ?_, h4⟩
  obtain ⟨a, m, c, e0, e1, e2, ho⟩ := h3 i hi
  exact ⟨a, m, c, e0, e1, e2, ho.mono hB hE⟩
theorem BksOwn.at {B E w ao n cap bs} (h : BksOwn B E w ao n cap bs) : BanksAt w ao n cap bs := by
  obtain ⟨vs, h1, h2, h3, h4⟩ := h
  have hrow := h1
  rcases h1.1.2 with ⟨hv, hn⟩ | ⟨g, c, cur, hv, hg, hh, hnc, hcm, hcs, htake⟩
  · simp only [Value.slice.injEq] at hv
    obtain ⟨rfl, _, rfl⟩ := hv
    exact ⟨h2, by omega, Nat.zero_le _, fun hj => by omega⟩
  · simp only [Value.slice.injEq] at hv
    obtain ⟨rfl, _, rfl⟩ := hv
    refine ⟨h2, hnc, hcm, fun hj => ⟨g, 0, rfl, (Array.getElem?_eq_some_iff.1 hh).1, fun i hi => ?_⟩⟩
    obtain ⟨a, m, c, e0, e1, e2, ho⟩ := h3 i hi
    refine ⟨a, m, c, ?_, ?_, ?_, ho.at⟩
    · rw [Nat.zero_add, hrow.cell _ (by omega), e0]
    · rw [Nat.zero_add, hrow.cell _ (by omega), e1]
    · rw [Nat.zero_add, hrow.cell _ (by omega), e2]

/-- one bank state of those that the call made: where it lies, and what becomes of all if it alone is written -/
theorem BksOwn.inner {B E w ao n cap bs} (h : BksOwn B E w ao n cap bs) (i : Nat) (hi : i < n) :
    ∃ b a m c, ao = some ⟨b, 0, none⟩ ∧ b < w.heap.size ∧ B ≤ b ∧ b < E ∧ (w.cell? ⟨b, i * 3, none⟩ = some (.int .i64 (bs.getD i noBank).h) ∧ w.cell? ⟨b, i * 3 + 1, none⟩ = some (.int .i64 (bs.getD i noBank).l) ∧ w.cell? ⟨b, i * 3 + 2, none⟩ = some (.slice a m c)) ∧
      (∀ j, w.frozen? ⟨b, j, none⟩ = false) ∧ Own B E w a m c (bs.getD i noBank).p ∧ (Value.slice a m c).ownBlock ≠ some b ∧
      ∀ w' x y ys, Chg (fun k => (Value.slice a m c).ownBlock = some k) ((w.setCell ⟨b, i * 3, none⟩ (.int .i64 x)).setCell ⟨b, i * 3 + 1, none⟩ (.int .i64 y)) w' → Own B E w' a m c ys → BksOwn B E w' ao n cap (bs.set i ⟨x, y, ys⟩) := by
  obtain ⟨vs, h1, h2, h3, h4⟩ := h
  rcases h1.cases with ⟨_, rfl, _⟩ | ⟨b, rfl, hb1, hb2, hb3⟩
  · omega
  obtain ⟨a, m, c, e0, e1, e2, ho⟩ := h3 i hi
  have hl := h1.length
  have hno : ∀ {a' : Option Addr} {m' c' : Nat} {ys : List Int}, Own B E w a' m' c' ys → (Value.slice a' m' c').ownBlock ≠ some b := fun {a' m' c' ys} ho' hs => by
    obtain ⟨cur, f1⟩ := h1.typed (g := b) rfl
    obtain ⟨cur', f2⟩ := OwnRow.typed ho' hs
    rw [f1] at f2
    simp at f2
  refine ⟨b, a, m, c, rfl, hb3, hb1, hb2, ⟨by rw [h1.cell _ (by omega), e0], by rw [h1.cell _ (by omega), e1], by rw [h1.cell _ (by omega), e2]⟩, World.ownsRow.frozenAt h1.1, ho, hno ho, fun w' x y ys hc hy => ?_⟩
  have hw1 : Chg (fun k => k = b) w ((w.setCell ⟨b, i * 3, none⟩ (.int .i64 x)).setCell ⟨b, i * 3 + 1, none⟩ (.int .i64 y)) := (chgCell w b (i * 3) _).trans (chgCell _ b (i * 3 + 1) _)
  refine ⟨(vs.set (i * 3) (.int .i64 x)).set (i * 3 + 1) (.int .i64 y), ((h1.put (i * 3) (.int .i64 x)).put (i * 3 + 1) (.int .i64 y)).chg hc fun g _ _ hg hs => ?_, by simpa using h2, fun j hj => ?_, fun j k hjk hk => ?_⟩
  · simp [Value.ownBlock] at hg
    subst hg
    exact hno ho hs
  · by_cases hji : i = j
    · subst hji
      refine ⟨a, m, c, ?_, ?_, ?_, ?_⟩
      · rw [getD_set_ne _ _ _ _ _ (by omega), getD_set_eq _ _ _ _ (by omega), getD_set_eq _ _ _ _ (by omega)]
      · rw [getD_set_eq _ _ _ _ (by rw [List.length_set]; omega), getD_set_eq _ _ _ _ (by omega)]
      · rw [getD_set_ne _ _ _ _ _ (by omega), getD_set_ne _ _ _ _ _ (by omega)]; exact e2
      · rw [getD_set_eq _ _ _ _ (by omega)]; exact hy
    · obtain ⟨a', m', c', f0, f1, f2, ho'⟩ := h3 j hj
      refine ⟨a', m', c', ?_, ?_, ?_, ?_⟩
      · rw [getD_set_ne _ _ _ _ _ (by omega), getD_set_ne _ _ _ _ _ (by omega), getD_set_ne _ _ _ _ _ hji]; exact f0
      · rw [getD_set_ne _ _ _ _ _ (by omega), getD_set_ne _ _ _ _ _ (by omega), getD_set_ne _ _ _ _ _ hji]; exact f1
      · rw [getD_set_ne _ _ _ _ _ (by omega), getD_set_ne _ _ _ _ _ (by omega)]; exact f2
      rw [getD_set_ne _ _ _ _ _ hji]
      refine (ho'.chg hw1 fun g _ _ hg hs => ?_).chg hc fun g _ _ hg hs => ?_
      · subst hs; exact hno ho' hg
      · have hap : apart (.slice a m c) (.slice a' m' c') ∨ apart (.slice a' m' c') (.slice a m c) := by
          rw [← e2, ← f2]
          rcases Nat.lt_or_gt_of_ne hji with hlt | hlt
          · exact .inl (h4 i j hlt hj)
          · exact .inr (h4 j i hlt hi)
        unfold apart at hap
        rw [hg, hs] at hap
        simp at hap
  · have hq := h4 j k hjk hk
    rw [getD_set_ne _ _ _ _ _ (by omega), getD_set_ne _ _ _ _ _ (by omega), getD_set_ne _ _ _ _ _ (by omega), getD_set_ne _ _ _ _ _ (by omega)]
    exact hq
end Go.Proofs.YtbkihnejgcebpaaDoor
