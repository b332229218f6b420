/- Several texts in one: BaH, BaL, BbH, BbO, BbM, BbQ, BbT. No condition. -/
import Derived.Test.YtnebfojnbjbogaaGreatDoorHelp
import Derived.Test.YtnebfojnbjbogaaGreatDoorGb
import Derived.Test.YtnebfojnbjbogaaGreatDoorBaM
import Derived.Deep.RegionLaw
import Derived.Test.YtnebfojnbjbogaaGreatDoorGa
namespace Go.Proofs.YtnebfojnbjbogaaGreatDoor
section
open Go.RowKit
set_option linter.unusedVariables false
set_option linter.unusedSimpArgs false
set_option maxRecDepth 20000

/-- a bank state: its height, what is left, the slice of its piles -/
def bankV (h l : Int) (a : Option Addr) (n c : Nat) : Value := .agg #[.int .i64 h, .int .i64 l, .slice a n c]

/-- the block of a bank state's three cells -/
def bankC (h l : Int) (a : Option Addr) (n c : Nat) (ty : TypeId) : Obj := .cells #[.int .i64 h, .int .i64 l, .slice a n c] ty
theorem cellOfB {w : World} {g : Nat} {cs : Array Value} {ty : TypeId} (h : w.heap[g]? = some (.cells cs ty (0, 0))) (i : Nat) (v : Value) (hv : cs[i]? = some v) : w.cell? ⟨g, i, none⟩ = some v ∧ w.frozen? ⟨g, i, none⟩ = false := by
  constructor
  · simp [World.cell?, h, hv]
  · simp [World.frozen?, h]
theorem allocNew (w : World) (o : Obj) : (w.alloc o).heap[w.heap.size]? = some o := by show (w.heap.push o)[w.heap.size]? = some o; simp
theorem keepAt {w w' : World} (hb : Below w.heap.size w w') {k : Nat} (hk : k < w.heap.size) : w'.heap[k]? = w.heap[k]? := (Chg.ofBelow (S := fun _ => False) hb).block k hk id
theorem bank3 {w : World} {g : Nat} {h l : Int} {a : Option Addr} {n c : Nat} {ty : TypeId} (hh : w.heap[g]? = some (bankC h l a n c ty)) :
    (w.cell? ⟨g, 0, none⟩ = some (.int .i64 h) ∧ w.cell? ⟨g, 1, none⟩ = some (.int .i64 l) ∧ w.cell? ⟨g, 2, none⟩ = some (.slice a n c)) ∧ w.frozen? ⟨g, 0, none⟩ = false ∧ w.frozen? ⟨g, 1, none⟩ = false ∧ w.frozen? ⟨g, 2, none⟩ = false := by
  unfold bankC at hh
  exact ⟨⟨(cellOfB hh 0 _ rfl).1, (cellOfB hh 1 _ rfl).1, (cellOfB hh 2 _ rfl).1⟩, (cellOfB hh 0 _ rfl).2, (cellOfB hh 1 _ rfl).2, (cellOfB hh 2 _ rfl).2⟩
theorem chgCell (w : World) (R i : Nat) (v : Value) : Chg (fun k => k = R) w (w.setCell ⟨R, i, none⟩ v) :=
  ⟨rfl, rfl, rfl, by simp, fun q _ hq => heap_setCell_other w ⟨R, i, none⟩ q _ (fun e => hq (by simp [e]))⟩
theorem Own.offCell {B E w a n c zs} (h : Own B E w a n c zs) {R : Nat} (hR : R < B) (i : Nat) (v : Value) : Own B E (w.setCell ⟨R, i, none⟩ v) a n c zs :=
  h.chg (chgCell w R i v) fun g hg _ _ e => by omega
theorem resCell {fn : Func} {p : Tmp} {ty : TypeId} (h : fn.results = #[.cell p ty]) (tmps : Array Value) (P : Program) (w : World) :
    (results fn tmps).run P w = ((asAddr (tmps.getD p undef)).run P w).andThen fun a w₁ => (loadVar ty a).run P w₁ := by
  simp only [results, h]
  simp [Sem.run_bind, Result.andThen]
end
end Go.Proofs.YtnebfojnbjbogaaGreatDoor
namespace Go.Proofs.YtnebfojnbjbogaaGreatDoor
section
open Go.RowKit
set_option linter.unusedVariables false
set_option linter.unusedSimpArgs false
set_option maxRecDepth 20000

/-- a bank state's block, cell by cell -/
def Blk (w : World) (g : Nat) (h l : Int) (a : Option Addr) (n c : Nat) (ty : TypeId) : Prop := w.heap[g]? = some (.cells #[.int .i64 h, .int .i64 l, .slice a n c] ty (0, 0))
theorem Blk.cells {w g h l a n c ty} (hh : Blk w g h l a n c ty) : (w.cell? ⟨g, 0, none⟩ = some (.int .i64 h) ∧ w.cell? ⟨g, 1, none⟩ = some (.int .i64 l) ∧ w.cell? ⟨g, 2, none⟩ = some (.slice a n c)) ∧ w.frozen? ⟨g, 0, none⟩ = false ∧ w.frozen? ⟨g, 1, none⟩ = false ∧ w.frozen? ⟨g, 2, none⟩ = false := bank3 hh
theorem Blk.size {w g h l a n c ty} (hh : Blk w g h l a n c ty) : g < w.heap.size := (Array.getElem?_eq_some_iff.1 hh).1
theorem Blk.keep {w w' g h l a n c ty} (hh : Blk w g h l a n c ty) (hb : Below w.heap.size w w') : Blk w' g h l a n c ty := (keepAt hb hh.size).trans hh
theorem Blk.drew {w g h l a n c ty} (hh : Blk w g h l a n c ty) : Blk w.drew g h l a n c ty := hh
theorem Blk.rg {B E w w' g h l a n c ty} (hh : Blk w g h l a n c ty) (hc : Chg (Rg B E) w w') (hd : E ≤ g ∨ g < B) : Blk w' g h l a n c ty := by
  unfold Blk
  rw [hc.block g hh.size (fun q => by have := q.1; have := q.2; omega)]
  exact hh
theorem Blk.new (w : World) (h l : Int) (a : Option Addr) (n c : Nat) (ty : TypeId) : Blk (w.alloc (.cells #[.int .i64 h, .int .i64 l, .slice a n c] ty)) w.heap.size h l a n c ty := allocNew w _
end
end Go.Proofs.YtnebfojnbjbogaaGreatDoor
namespace Go.Proofs.YtnebfojnbjbogaaGreatDoor
section
open Go.RowKit
set_option linter.unusedVariables false
set_option linter.unusedSimpArgs false
set_option maxRecDepth 20000

theorem IntsAt.drewB {w a n c xs} (h : IntsAt w a n c xs) : IntsAt w.drew a n c xs := ⟨h.length, h.le, h.max, h.isNil, h.cell⟩
def noBank : Bk := ⟨0, 0, []⟩
/-- a slice of bank states that can be read: three cells each -/
structure BanksAt (w : World) (ao : Option Addr) (n cap : Nat) (bs : List Bk) : Prop where
  length : bs.length = n
  le : n ≤ cap
  max : cap ≤ maxLen
  cell : 0 < n → ∃ b o, ao = some ⟨b, o, none⟩ ∧ b < w.heap.size ∧ ∀ i, i < n → ∃ a m c, w.cell? ⟨b, o + i * 3, none⟩ = some (.int .i64 (bs.getD i noBank).h) ∧ w.cell? ⟨b, o + i * 3 + 1, none⟩ = some (.int .i64 (bs.getD i noBank).l) ∧ w.cell? ⟨b, o + i * 3 + 2, none⟩ = some (.slice a m c) ∧ IntsAt w a m c (bs.getD i noBank).p
theorem BanksAt.lenInt {w ao n cap xs} (h : BanksAt w ao n cap xs) : (n : Int) ≤ 9223372036854775807 := maxLen_le (Nat.le_trans h.le h.max)
theorem BanksAt.keep {w w' ao n cap bs} (h : BanksAt w ao n cap bs) (hb : Below w.heap.size w w') : BanksAt w' ao n cap bs := by
  refine ⟨h.length, h.le, h.max, fun hn => ?_⟩
  obtain ⟨b, o, e, hlt, hc⟩ := h.cell hn
  refine ⟨b, o, e, Nat.lt_of_lt_of_le hlt hb.size, fun i hi => ?_⟩
  obtain ⟨a, m, c, c0, c1, c2, hI⟩ := hc i hi
  refine ⟨a, m, c, ?_, ?_, ?_, hI.keep hb⟩
  · rw [hb.cell (p := ⟨b, o + i * 3, none⟩) hlt]; exact c0
  · rw [hb.cell (p := ⟨b, o + i * 3 + 1, none⟩) hlt]; exact c1
  · rw [hb.cell (p := ⟨b, o + i * 3 + 2, none⟩) hlt]; exact c2

/-! ### What was marked is held -/
/-- bank states that are marked from a number on -/
def marksBk (k : Int) : List Nat → List Bk
  | [] => []
  | m :: ls => ⟨k, k + 1, marks (k + 1 + 1) m⟩ :: marksBk (k + 1 + 1 + m) ls
def plus2 (ls : List Nat) : List Nat := ls.map (· + 2)
theorem marksBk_length (k : Int) (ls : List Nat) : (marksBk k ls).length = ls.length := by
  induction ls generalizing k with
  | nil => rfl
  | cons m ls ih => simp [marksBk, ih]
theorem marksBk_getD (k : Int) (ls : List Nat) (j : Nat) (hj : j < ls.length) :
    (marksBk k ls).getD j noBank = ⟨k + (((plus2 ls).take j).sum : Nat), k + (((plus2 ls).take j).sum : Nat) + 1, marks (k + (((plus2 ls).take j).sum : Nat) + 1 + 1) (ls.getD j 0)⟩ := by
  induction ls generalizing k j with
  | nil => simp at hj
  | cons m ls ih =>
    cases j with
    | zero => simp [marksBk, plus2]
    | succ j =>
      have := ih (k + 1 + 1 + m) j (by simpa using hj)
      simp only [marksBk, List.getD_cons_succ, this, plus2, List.map_cons, List.take_succ_cons, List.sum_cons]
      have e : k + 1 + 1 + (m : Int) + ((((ls.map (· + 2)).take j).sum : Nat) : Int) = k + ((m + 2 + ((ls.map (· + 2)).take j).sum : Nat) : Int) := by omega
      rw [e]

end
end Go.Proofs.YtnebfojnbjbogaaGreatDoor
namespace Go.Proofs.YtnebfojnbjbogaaGreatDoor
section
open Go.RowKit
set_option linter.unusedVariables false
set_option linter.unusedSimpArgs false
set_option maxRecDepth 20000

def Row3 (B E : Nat) (w : World) (ao : Option Addr) (n cap : Nat) (vs : List Value) : Prop :=
  w.ownsRow B 32 3 (.slice ao n cap) n vs ∧ ∀ g, (Value.slice ao n cap).ownBlock = some g → g < E
theorem Row3.length {B E w ao n cap vs} (h : Row3 B E w ao n cap vs) : vs.length = n * 3 := h.1.1
theorem Row3.mono {B B' E E' : Nat} {w ao n cap vs} (h : Row3 B E w ao n cap vs) (hB : B' ≤ B) (hE : E ≤ E') : Row3 B' E' w ao n cap vs := by
  refine ⟨⟨h.1.1, ?_⟩, fun g hg => Nat.lt_of_lt_of_le (h.2 g hg) hE⟩
  rcases h.1.2 with hn | ⟨g, c, cur, hv, hg, rest⟩
  · exact .inl hn
  · exact .inr ⟨g, c, cur, hv, Nat.le_trans hB hg, rest⟩
theorem Row3.nil (B E : Nat) (w : World) : Row3 B E w none 0 0 [] := ⟨World.ownsRow_nil w B _ 3, fun g hg => by simp [Value.ownBlock] at hg⟩
theorem Row3.cases {B E w ao n cap vs} (h : Row3 B E w ao n cap vs) : (ao = none ∧ n = 0 ∧ cap = 0 ∧ vs = []) ∨ ∃ g, ao = some ⟨g, 0, none⟩ ∧ B ≤ g ∧ g < E ∧ g < w.heap.size := by
  rcases h.1.2 with ⟨hv, hn⟩ | ⟨g, c, cur, hv, hg, hh, rest⟩
  · simp only [Value.slice.injEq] at hv
    obtain ⟨rfl, _, rfl⟩ := hv
    exact .inl ⟨rfl, hn, rfl, List.eq_nil_of_length_eq_zero (by rw [h.length]; omega)⟩
  · simp only [Value.slice.injEq] at hv
    exact .inr ⟨g, hv.1, hg, h.2 g (by rw [hv.1]; rfl), (Array.getElem?_eq_some_iff.1 hh).1⟩
theorem Row3.chg {S : Nat → Prop} {B E w w' ao n cap vs} (h : Row3 B E w ao n cap vs) (hc : Chg S w w') (hs : ∀ g, B ≤ g → g < E → (Value.slice ao n cap).ownBlock = some g → ¬ S g) : Row3 B E w' ao n cap vs := by
  refine ⟨⟨h.1.1, ?_⟩, h.2⟩
  rcases h.1.2 with hn | ⟨g, c, cur, hv, hg, hh, rest⟩
  · exact .inl hn
  · refine .inr ⟨g, c, cur, hv, hg, ?_, rest⟩
    have hb : (Value.slice ao n cap).ownBlock = some g := by rw [hv]; rfl
    rw [hc.block g (Array.getElem?_eq_some_iff.1 hh).1 (hs g hg (h.2 g hb) hb)]
    exact hh
theorem Row3.typed {B E w ao n cap vs g} (h : Row3 B E w ao n cap vs) (hg : (Value.slice ao n cap).ownBlock = some g) : ∃ cur, w.heap[g]? = some (.cells cur 32 (0, 0)) := by
  rcases h.1.2 with ⟨hv, _⟩ | ⟨g', c, cur, hv, hg', hh, _⟩
  · rw [hv] at hg; simp [Value.ownBlock] at hg
  · rw [hv] at hg; simp [Value.ownBlock] at hg; subst hg; exact ⟨cur, hh⟩
theorem Row3.cell {B E w g n cap vs} (h : Row3 B E w (some ⟨g, 0, none⟩) n cap vs) (j : Nat) (hj : j < n * 3) : w.cell? ⟨g, j, none⟩ = some (vs.getD j undef) := by
  have hl := h.length
  rw [World.ownsRow.cellAt h.1 j hj, List.getD_eq_getElem?_getD, List.getElem?_eq_getElem (by omega)]
  rfl
theorem Row3.put {B E w g n cap vs} (h : Row3 B E w (some ⟨g, 0, none⟩) n cap vs) (j : Nat) (u : Value) : Row3 B E (w.setCell ⟨g, j, none⟩ u) (some ⟨g, 0, none⟩) n cap (vs.set j u) := ⟨(World.ownsRow.stored h.1 j u).1, h.2⟩

/-- bank states that the call made -/
def BksOwn (B E : Nat) (w : World) (ao : Option Addr) (n cap : Nat) (bs : List Bk) : Prop :=
  ∃ vs : List Value, Row3 B E w ao n cap vs ∧ bs.length = n ∧
    (∀ i, i < n → ∃ a m c, vs.getD (i * 3) undef = .int .i64 (bs.getD i noBank).h ∧ vs.getD (i * 3 + 1) undef = .int .i64 (bs.getD i noBank).l ∧ vs.getD (i * 3 + 2) undef = .slice a m c ∧ Own B E w a m c (bs.getD i noBank).p) ∧
    (∀ i j, i < j → j < n → apart (vs.getD (i * 3 + 2) undef) (vs.getD (j * 3 + 2) undef))
theorem BksOwn.length {B E w ao n cap bs} (h : BksOwn B E w ao n cap bs) : bs.length = n := by obtain ⟨_, _, h, _⟩ := h; exact h
theorem BksOwn.nil (B E : Nat) (w : World) : BksOwn B E w none 0 0 [] := ⟨[], Row3.nil B E w, rfl, fun i hi => absurd hi (Nat.not_lt_zero _), fun i j _ hj => absurd hj (Nat.not_lt_zero _)⟩
theorem BksOwn.chg {S : Nat → Prop} {B E w w' ao n cap bs} (h : BksOwn B E w ao n cap bs) (hc : Chg S w w') (hs : ∀ g, B ≤ g → g < E → ¬ S g) : BksOwn B E w' ao n cap bs := by
  obtain ⟨vs, h1, h2, h3, h4⟩ := h
  refine ⟨vs, h1.chg hc (fun g a b _ => hs g a b), h2, fun i hi => ?_, h4⟩
  obtain ⟨a, m, c, e0, e1, e2, ho⟩ := h3 i hi
  exact ⟨a, m, c, e0, e1, e2, ho.chg hc (fun g a b _ => hs g a b)⟩
theorem BksOwn.rg {B E C D w w' ao n cap bs} (h : BksOwn B E w ao n cap bs) (hc : Chg (Rg C D) w w') (hd : E ≤ C ∨ D ≤ B) : BksOwn B E w' ao n cap bs :=
  h.chg hc (fun g h1 h2 h3 => by have := h3.1; have := h3.2; omega)
theorem BksOwn.keep {B E w w' ao n cap bs} (h : BksOwn B E w ao n cap bs) (hb : Below w.heap.size w w') : BksOwn B E w' ao n cap bs :=
  h.chg (S := fun _ => False) (Chg.ofBelow hb) (fun _ _ _ h => h)
theorem BksOwn.mono {B B' E E' : Nat} {w ao n cap bs} (h : BksOwn B E w ao n cap bs) (hB : B' ≤ B) (hE : E ≤ E') : BksOwn B' E' w ao n cap bs := by
  obtain ⟨vs, h1, h2, h3, h4⟩ := h
  refine ⟨vs, h1.mono hB hE, h2, fun i hi => ?_, h4⟩
  obtain ⟨a, m, c, e0, e1, e2, ho⟩ := h3 i hi
  exact ⟨a, m, c, e0, e1, e2, ho.mono hB hE⟩
theorem BksOwn.at {B E w ao n cap bs} (h : BksOwn B E w ao n cap bs) : BanksAt w ao n cap bs := by
  obtain ⟨vs, h1, h2, h3, h4⟩ := h
  have hrow := h1
  rcases h1.1.2 with ⟨hv, hn⟩ | ⟨g, c, cur, hv, hg, hh, hnc, hcm, hcs, htake⟩
  · simp only [Value.slice.injEq] at hv
    obtain ⟨rfl, _, rfl⟩ := hv
    exact ⟨h2, by omega, Nat.zero_le _, fun hj => by omega⟩
  · simp only [Value.slice.injEq] at hv
    obtain ⟨rfl, _, rfl⟩ := hv
    refine ⟨h2, hnc, hcm, fun hj => ⟨g, 0, rfl, (Array.getElem?_eq_some_iff.1 hh).1, fun i hi => ?_⟩⟩
    obtain ⟨a, m, c, e0, e1, e2, ho⟩ := h3 i hi
    refine ⟨a, m, c, ?_, ?_, ?_, ho.at⟩
    · rw [Nat.zero_add, hrow.cell _ (by omega), e0]
    · rw [Nat.zero_add, hrow.cell _ (by omega), e1]
    · rw [Nat.zero_add, hrow.cell _ (by omega), e2]

/-- one bank state of those that the call made: where it lies, and what becomes of all if it alone is written -/
theorem BksOwn.inner {B E w ao n cap bs} (h : BksOwn B E w ao n cap bs) (i : Nat) (hi : i < n) :
    ∃ b a m c, ao = some ⟨b, 0, none⟩ ∧ b < w.heap.size ∧ B ≤ b ∧ b < E ∧ (w.cell? ⟨b, i * 3, none⟩ = some (.int .i64 (bs.getD i noBank).h) ∧ w.cell? ⟨b, i * 3 + 1, none⟩ = some (.int .i64 (bs.getD i noBank).l) ∧ w.cell? ⟨b, i * 3 + 2, none⟩ = some (.slice a m c)) ∧
      (∀ j, w.frozen? ⟨b, j, none⟩ = false) ∧ Own B E w a m c (bs.getD i noBank).p ∧ (Value.slice a m c).ownBlock ≠ some b ∧
      ∀ w' x y ys, Chg (fun k => (Value.slice a m c).ownBlock = some k) ((w.setCell ⟨b, i * 3, none⟩ (.int .i64 x)).setCell ⟨b, i * 3 + 1, none⟩ (.int .i64 y)) w' → Own B E w' a m c ys → BksOwn B E w' ao n cap (bs.set i ⟨x, y, ys⟩) := by
  obtain ⟨vs, h1, h2, h3, h4⟩ := h
  rcases h1.cases with ⟨_, rfl, _⟩ | ⟨b, rfl, hb1, hb2, hb3⟩
  · omega
  obtain ⟨a, m, c, e0, e1, e2, ho⟩ := h3 i hi
  have hl := h1.length
  have hno : ∀ {a' : Option Addr} {m' c' : Nat} {ys : List Int}, Own B E w a' m' c' ys → (Value.slice a' m' c').ownBlock ≠ some b := fun {a' m' c' ys} ho' hs => by
    obtain ⟨cur, f1⟩ := h1.typed (g := b) rfl
    obtain ⟨cur', f2⟩ := OwnRow.typed ho' hs
    rw [f1] at f2
    simp at f2
  refine ⟨b, a, m, c, rfl, hb3, hb1, hb2, ⟨by rw [h1.cell _ (by omega), e0], by rw [h1.cell _ (by omega), e1], by rw [h1.cell _ (by omega), e2]⟩, World.ownsRow.frozenAt h1.1, ho, hno ho, fun w' x y ys hc hy => ?_⟩
  have hw1 : Chg (fun k => k = b) w ((w.setCell ⟨b, i * 3, none⟩ (.int .i64 x)).setCell ⟨b, i * 3 + 1, none⟩ (.int .i64 y)) := (chgCell w b (i * 3) _).trans (chgCell _ b (i * 3 + 1) _)
  refine ⟨(vs.set (i * 3) (.int .i64 x)).set (i * 3 + 1) (.int .i64 y), ((h1.put (i * 3) (.int .i64 x)).put (i * 3 + 1) (.int .i64 y)).chg hc fun g _ _ hg hs => ?_, by simpa using h2, fun j hj => ?_, fun j k hjk hk => ?_⟩
  · simp [Value.ownBlock] at hg
    subst hg
    exact hno ho hs
  · by_cases hji : i = j
    · subst hji
      refine ⟨a, m, c, ?_, ?_, ?_, ?_⟩
      · rw [getD_set_ne _ _ _ _ _ (by omega), getD_set_eq _ _ _ _ (by omega), getD_set_eq _ _ _ _ (by omega)]
      · rw [getD_set_eq _ _ _ _ (by rw [List.length_set]; omega), getD_set_eq _ _ _ _ (by omega)]
      · rw [getD_set_ne _ _ _ _ _ (by omega), getD_set_ne _ _ _ _ _ (by omega)]; exact e2
      · rw [getD_set_eq _ _ _ _ (by omega)]; exact hy
    · obtain ⟨a', m', c', f0, f1, f2, ho'⟩ := h3 j hj
      refine ⟨a', m', c', ?_, ?_, ?_, ?_⟩
      · rw [getD_set_ne _ _ _ _ _ (by omega), getD_set_ne _ _ _ _ _ (by omega), getD_set_ne _ _ _ _ _ hji]; exact f0
      · rw [getD_set_ne _ _ _ _ _ (by omega), getD_set_ne _ _ _ _ _ (by omega), getD_set_ne _ _ _ _ _ hji]; exact f1
      · rw [getD_set_ne _ _ _ _ _ (by omega), getD_set_ne _ _ _ _ _ (by omega)]; exact f2
      rw [getD_set_ne _ _ _ _ _ hji]
      refine (ho'.chg hw1 fun g _ _ hg hs => ?_).chg hc fun g _ _ hg hs => ?_
      · subst hs; exact hno ho' hg
      · have hap : apart (.slice a m c) (.slice a' m' c') ∨ apart (.slice a' m' c') (.slice a m c) := by
          rw [← e2, ← f2]
          rcases Nat.lt_or_gt_of_ne hji with hlt | hlt
          · exact .inl (h4 i j hlt hj)
          · exact .inr (h4 j i hlt hi)
        unfold apart at hap
        rw [hg, hs] at hap
        simp at hap
  · have hq := h4 j k hjk hk
    rw [getD_set_ne _ _ _ _ _ (by omega), getD_set_ne _ _ _ _ _ (by omega), getD_set_ne _ _ _ _ _ (by omega), getD_set_ne _ _ _ _ _ (by omega)]
    exact hq
end
end Go.Proofs.YtnebfojnbjbogaaGreatDoor
namespace Go.Proofs.YtnebfojnbjbogaaGreatDoor
section
open Go.RowKit
set_option linter.unusedVariables false
set_option linter.unusedSimpArgs false
set_option maxRecDepth 20000

def lensB (bs : List Bk) : List Nat := bs.map fun b => b.p.length
theorem set_mix {α : Type} (M bs : List α) (d : α) (i : Nat) (hi : i < M.length) (hl : M.length = bs.length) : (M.take i ++ bs.drop i).set i (M.getD i d) = M.take (i + 1) ++ bs.drop (i + 1) := by
  apply List.ext_getElem
  · simp; omega
  · intro j h1 h2
    simp at h1
    rw [List.getElem_set]
    split
    · next h =>
      subst h
      rw [List.getD_eq_getElem?_getD, List.getElem?_eq_getElem (by omega)]
      simp [List.getElem_append, List.getElem_take, show i < min (i+1) M.length by omega]
    · next h =>
      simp only [List.getElem_append, List.length_take, List.getElem_take, List.getElem_drop]
      by_cases hj : j < i
      · simp [show j < min i M.length by omega, show j < min (i+1) M.length by omega]
      · simp only [show ¬ j < min i M.length by omega, show ¬ j < min (i+1) M.length by omega, dite_false]
        congr 1
        omega
theorem get_mix {α : Type} (M bs : List α) (d : α) (i : Nat) (hi : i < M.length) (hl : M.length = bs.length) : (M.take i ++ bs.drop i).getD i d = bs.getD i d := by
  rw [List.getD_eq_getElem?_getD, List.getElem?_append_right (by simp; omega), List.getElem?_drop, List.getD_eq_getElem?_getD]
  congr 2
  simp; omega

end
end Go.Proofs.YtnebfojnbjbogaaGreatDoor
namespace Go.Proofs.YtnebfojnbjbogaaGreatDoor
section
open Go.RowKit
set_option linter.unusedVariables false
set_option linter.unusedSimpArgs false

/-- the bank states with so many cards left -/
def rowBk (H N l : Nat) : List Bk := (allF (N - l) (N - l) H).map fun p => ⟨(H : Int), (l : Int), p⟩
/-- those with fewer than k cards left -/
def baL (H N k : Nat) : List Bk := (List.range k).flatMap (rowBk H N)
theorem baL_zero (H N : Nat) : baL H N 0 = [] := rfl
theorem baL_succ (H N k : Nat) : baL H N (k + 1) = baL H N k ++ rowBk H N k := by unfold baL; rw [List.range_succ, List.flatMap_append]; simp
theorem rowBk_length {H N : Nat} (h : H ≤ 10) (hN : N ≤ 14) (l : Nat) : (rowBk H N l).length ≤ 3718 := by
  unfold rowBk
  rw [List.length_map, allF_length (N - l) (N - l) H (Nat.le_refl _) (by omega) (by omega)]
  have := cnt_le H (by omega) (N - l) (by omega)
  omega
theorem baL_length {H N : Nat} (h : H ≤ 10) (hN : N ≤ 14) (k : Nat) : (baL H N k).length ≤ 3718 * k := by
  induction k with
  | zero => simp [baL_zero]
  | succ k ih =>
    rw [baL_succ, List.length_append]
    have := rowBk_length h hN k
    omega
theorem baL_piles {H N : Nat} (hN : N ≤ 14) (k : Nat) : ∀ b ∈ baL H N k, b.p.length ≤ 14 := by
  intro b hb
  unfold baL at hb
  obtain ⟨l, -, hl⟩ := List.mem_flatMap.1 hb
  unfold rowBk at hl
  obtain ⟨p, hp, rfl⟩ := List.mem_map.1 hl
  have := allF_row (N - l) (N - l) H p hp
  show p.length ≤ 14
  omega
theorem plus2_le (bs : List Bk) (c : Nat) (h : ∀ b ∈ bs, b.p.length ≤ c) : (plus2 (lensB bs)).sum ≤ bs.length * (c + 2) := by
  induction bs with
  | nil => simp [plus2, lensB]
  | cons b bs ih =>
    have h1 := h b (by simp)
    have h2 := ih (fun x hx => h x (by simp [hx]))
    have e : (plus2 (lensB (b :: bs))).sum = (b.p.length + 2) + (plus2 (lensB bs)).sum := by simp [plus2, lensB]
    rw [e, List.length_cons, Nat.succ_mul]
    omega
def mAllBanks (h n : Int) : List Bk × Bool := if (1 ≤ h ∧ h ≤ 10) ∧ 0 ≤ n ∧ n ≤ 14 then (baL h.toNat n.toNat (min h.toNat (n.toNat + 1)), true) else ([], false)
theorem mAllBanks_bound (h n : Int) : (mAllBanks h n).1.length ≤ 1048576 ∧ (plus2 (lensB (mAllBanks h n).1)).sum ≤ 1048576 := by
  unfold mAllBanks
  split
  · next q =>
    have h1 := baL_length (H := h.toNat) (N := n.toNat) (by omega) (by omega) (min h.toNat (n.toNat + 1))
    have h2 := plus2_le (baL h.toNat n.toNat (min h.toNat (n.toNat + 1))) 14 (baL_piles (by omega) _)
    have h3 : min h.toNat (n.toNat + 1) ≤ 10 := by omega
    have h4 : 3718 * min h.toNat (n.toNat + 1) ≤ 37180 := by omega
    exact ⟨by show (baL _ _ _).length ≤ _; omega, by show (plus2 (lensB (baL _ _ _))).sum ≤ _; omega⟩
  · simp [plus2, lensB]
end
end Go.Proofs.YtnebfojnbjbogaaGreatDoor
namespace Go.Proofs.YtnebfojnbjbogaaGreatDoor
section
open Go.RowKit
set_option linter.unusedVariables false
set_option linter.unusedSimpArgs false

theorem allF_fuel (f : Nat) : ∀ (g n most : Nat), n ≤ f → n ≤ g → allF f n most = allF g n most := by
  induction f with
  | zero =>
    intro g n most h1 h2
    obtain rfl : n = 0 := by omega
    rw [allF_zero, allF_zero]
  | succ f ih =>
    intro g n most h1 h2
    by_cases hn : n = 0
    · subst hn; rw [allF_zero, allF_zero]
    · obtain ⟨g, rfl⟩ : ∃ g', g = g' + 1 := ⟨g - 1, by omega⟩
      simp only [allF, if_neg hn]
      rw [List.flatMap_def, List.flatMap_def]
      congr 1
      apply List.map_congr_left
      intro x hx
      have := downs_mem hx
      rw [ih g (n - x) x (by omega) (by omega)]
theorem filter_none {α : Type} (l : List α) (p : α → Bool) (h : ∀ x ∈ l, p x = false) : l.filter p = [] := by
  apply List.filter_eq_nil_iff.2
  intro x hx
  rw [h x hx]; simp
theorem filter_all {α : Type} (l : List α) (p : α → Bool) (h : ∀ x ∈ l, p x = true) : l.filter p = l := List.filter_eq_self.2 h
theorem downs_flat (F : Nat → List (List Int)) (H : Nat) (hF1 : ∀ x, x ≤ H → ∀ ys ∈ F x, ys.getD 0 0 ≤ (H : Int)) (hF2 : ∀ x, H < x → ∀ ys ∈ F x, ¬ ys.getD 0 0 ≤ (H : Int)) (n : Nat) :
    ((downs n).flatMap F).filter (fun ys => decide (ys.getD 0 0 ≤ (H : Int))) = (downs (min n H)).flatMap F := by
  induction n with
  | zero => simp [downs]
  | succ n ih =>
    rw [show downs (n + 1) = (n + 1) :: downs n from rfl, List.flatMap_cons, List.filter_append, ih]
    by_cases hle : n + 1 ≤ H
    · rw [filter_all _ _ (fun ys hy => decide_eq_true (hF1 _ hle ys hy)), show min (n + 1) H = n + 1 by omega, show min n H = n by omega]
      rfl
    · rw [filter_none _ _ (fun ys hy => decide_eq_false (hF2 _ (by omega) ys hy)), show min (n + 1) H = min n H by omega]
      rfl
theorem allF_low (f n H : Nat) : (allF f n n).filter (fun ys => decide (ys.getD 0 0 ≤ (H : Int))) = allF f n H := by
  by_cases hn : n = 0
  · subst hn
    rw [allF_zero, allF_zero]
    simp
  · cases f with
    | zero => simp [allF, hn]
    | succ f =>
      simp only [allF, if_neg hn, Nat.min_self]
      refine downs_flat _ H (fun x hx ys hy => ?_) (fun x hx ys hy => ?_) n
      · obtain ⟨zs, -, rfl⟩ := List.mem_map.1 hy
        simp; omega
      · obtain ⟨zs, -, rfl⟩ := List.mem_map.1 hy
        simp; omega
/-- the piles of m cards with none above the height -/
theorem allL_low (m H : Nat) (hm : m ≤ 28) : (allL m).filter (fun ys => decide (ys.getD 0 0 ≤ (H : Int))) = allF m m H := by
  unfold allL
  rw [allF_low, allF_fuel 28 m m H hm (Nat.le_refl _)]
/-- which of all piles make a bank state of a height, with so many cards left -/
theorem bank_of_all {H N l : Nat} (hH : 1 ≤ H ∧ H ≤ 10) (hN : N ≤ 14) (h1 : l < H) (h2 : l ≤ N) {p : List Int} (hp : p ∈ allL (N - l)) : bankB ⟨(H : Int), (l : Int), p⟩ = decide (p.getD 0 0 ≤ (H : Int)) := by
  obtain ⟨hg, hs⟩ := allL_good (by omega) hp
  unfold bankB
  apply decide_eq_decide.2
  constructor
  · exact fun h => h.2.2.2.1
  · intro h
    refine ⟨⟨by show 1 ≤ (H : Int); omega, by show (H : Int) ≤ 10; omega⟩, ⟨by show 0 ≤ (l : Int); omega, by show (l : Int) ≤ H - 1; omega⟩, hg, h, ?_⟩
    show (l : Int) + p.sum ≤ 28
    omega
/-- the bank states that the program keeps of those with l cards left -/
theorem kept_row {H N l : Nat} (hH : 1 ≤ H ∧ H ≤ 10) (hN : N ≤ 14) (h1 : l < H) (h2 : l ≤ N) :
    ((allL (N - l)).map fun p => (⟨(H : Int), (l : Int), p⟩ : Bk)).filter bankB = rowBk H N l := by
  unfold rowBk
  rw [List.filter_map, ← allL_low (N - l) H (by omega)]
  congr 1
  apply List.filter_congr
  intro p hp
  exact bank_of_all hH hN h1 h2 hp
end
end Go.Proofs.YtnebfojnbjbogaaGreatDoor
