/- A list of bank states that have been met: in a row of this call's, the piles in rows of its own or where they came in. No condition. -/
import Derived.Test.YtnebfojnbjbogaaGreatDoorGw
import Derived.Test.YtnebfojnbjbogaaGreatDoorGf
import Derived.Laws.OwnMore
namespace Go.Proofs.YtnebfojnbjbogaaGreatDoor
open Go.RowKit
set_option linter.unusedVariables false
set_option linter.unusedSimpArgs false
set_option maxRecDepth 20000

theorem cutP3 {P Q : Prop} (f : Hid P → Q) (p : P) : Q := f (Lib.hid p)
/-- bank states in a row of this call's; the piles of each came in, or lie in a row of this call's -/
def SeenAt (w0 : World) (B E : Nat) (w : World) (ao : Option Addr) (n cap : Nat) (bs : List Bk) : Prop :=
  ∃ vs : List Value, Row3 B E w ao n cap vs ∧ bs.length = n ∧
    ∀ i, i < n → ∃ a m c, vs.getD (i * 3) undef = .int .i64 (bs.getD i noBank).h ∧ vs.getD (i * 3 + 1) undef = .int .i64 (bs.getD i noBank).l ∧ vs.getD (i * 3 + 2) undef = .slice a m c ∧ (IntsAt w0 a m c (bs.getD i noBank).p ∨ Own B E w a m c (bs.getD i noBank).p)
theorem SeenAt.length {w0 B E w ao n cap bs} (h : SeenAt w0 B E w ao n cap bs) : bs.length = n := by obtain ⟨_, _, h, _⟩ := h; exact h
theorem SeenAt.keep {w0 B E w w' ao n cap bs} (h : SeenAt w0 B E w ao n cap bs) (hb : Below w.heap.size w w') : SeenAt w0 B E w' ao n cap bs := by
  obtain ⟨vs, h1, h2, h3⟩ := h
  refine ⟨vs, h1.chg (S := fun _ => False) (Chg.ofBelow hb) (fun g _ _ _ h => h), h2, fun i hi => ?_⟩
  obtain ⟨a, m, c, e0, e1, e2, ho⟩ := h3 i hi
  exact ⟨a, m, c, e0, e1, e2, ho.imp id (fun q => q.keep hb)⟩
theorem SeenAt.mono {w0 B E E' w ao n cap bs} (h : SeenAt w0 B E w ao n cap bs) (hE : E ≤ E') : SeenAt w0 B E' w ao n cap bs := by
  obtain ⟨vs, h1, h2, h3⟩ := h
  refine ⟨vs, h1.mono (Nat.le_refl _) hE, h2, fun i hi => ?_⟩
  obtain ⟨a, m, c, e0, e1, e2, ho⟩ := h3 i hi
  exact ⟨a, m, c, e0, e1, e2, ho.imp id (fun q => q.mono (Nat.le_refl _) hE)⟩
theorem SeenAt.cell {w0 B E w ao n cap bs} (h : SeenAt w0 B E w ao n cap bs) (hb : Below w0.heap.size w0 w) (i : Nat) (hi : i < n) :
    ∃ b a m c, ao = some ⟨b, 0, none⟩ ∧ b < w.heap.size ∧ (w.cell? ⟨b, i * 3, none⟩ = some (.int .i64 (bs.getD i noBank).h) ∧ w.cell? ⟨b, i * 3 + 1, none⟩ = some (.int .i64 (bs.getD i noBank).l) ∧ w.cell? ⟨b, i * 3 + 2, none⟩ = some (.slice a m c)) ∧ IntsAt w a m c (bs.getD i noBank).p := by
  obtain ⟨vs, h1, h2, h3⟩ := h
  obtain ⟨a, m, c, e0, e1, e2, ho⟩ := h3 i hi
  rcases h1.cases with ⟨_, rfl, _⟩ | ⟨b, rfl, hb1, hb2, hb3⟩
  · omega
  have hl := h1.length
  refine ⟨b, a, m, c, rfl, hb3, ⟨by rw [h1.cell _ (by omega), e0], by rw [h1.cell _ (by omega), e1], by rw [h1.cell _ (by omega), e2]⟩, ?_⟩
  rcases ho with q | q
  · exact q.keep hb
  · exact q.at
theorem SeenAt.one (w0 w : World) (h l : Int) (a : Option Addr) (n c : Nat) (xs : List Int) (hA : IntsAt w0 a n c xs) : SeenAt w0 w.heap.size (w.heap.size + 1) (w.alloc (.cells #[.int .i64 h, .int .i64 l, .slice a n c] 32)) (some ⟨w.heap.size, 0, none⟩) 1 1 [⟨h, l, xs⟩] := by
  have hr : (w.alloc (.cells #[.int .i64 h, .int .i64 l, .slice a n c] 32)).ownsRow w.heap.size 32 3 (.slice (some ⟨w.heap.size, 0, none⟩) 1 1) 1 [.int .i64 h, .int .i64 l, .slice a n c] := World.ownsRow_lit w #[.int .i64 h, .int .i64 l, .slice a n c] 1 (Nat.le_refl _) (by unfold maxLen; omega) rfl
  refine ⟨_, ⟨hr, fun g hg => ?_⟩, rfl, fun i hi => ?_⟩
  · simp [Value.ownBlock] at hg
    omega
  · obtain rfl : i = 0 := by omega
    exact ⟨a, n, c, rfl, rfl, rfl, .inl hA⟩
/-- append of a bank state whose piles this call has made -/
theorem wpList_pushS {ops : Array Oper} {rest : List Oper} {o : Oper} {a : Act} {Q : Exit → Act → World → Prop} (w : World) (hgd : o.guard = none) (s x : Operand)
    (ho : o.op = .call { callee := .builtin .append, args := #[s, x], argTypes := #[26, 26] })
    (w0 : World) (B E : Nat) (ao : Option Addr) (n cap : Nat) (bs : List Bk) (hs : a.eval s = .slice ao n cap) (hown : SeenAt w0 B E w ao n cap bs) (u0 u1 : Int) (pa : Option Addr) (pm pc : Nat) (p : List Int)
    (hp : Own B E w pa pm pc p) (hE : E ≤ w.heap.size) (hB : B ≤ E)
    (hx : a.eval x = .slice (some ⟨w.heap.size, 0, none⟩) 1 1) (hn : n ≤ 1048576)
    (h : ∀ ao' cap' w', SeenAt w0 B w'.heap.size w' ao' (n + 1) cap' (bs ++ [⟨u0, u1, p⟩]) → Chg (fun k => (Value.slice ao n cap).ownBlock = some k) w w' → wpList Tryz.prog ops Q rest (a.put o.dst (.slice ao' (n + 1) cap')) w') :
    wpList Tryz.prog ops Q (o :: rest) a (w.alloc (.cells #[.int .i64 u0, .int .i64 u1, .slice pa pm pc] 32)) := by
  obtain ⟨vs, h1, h2, h3⟩ := hown
  have hl := h1.length
  refine wpList_pushB w hgd s x ho B E ao n cap vs hs h1 u0 u1 pa pm pc hx hn (by omega) fun ao' cap' w' r hc => h ao' cap' w' ?_ hc
  have hEE : E ≤ w'.heap.size := Nat.le_trans hE hc.size
  refine ⟨_, r, by simp [h2], fun i hi => ?_⟩
  by_cases hlt : i < n
  · obtain ⟨a, m, c, e0, e1, e2, ho⟩ := h3 i hlt
    rw [getD_appL _ _ _ _ (by omega), getD_appL _ _ _ _ (by omega), getD_appL _ _ _ _ (by omega), getD_appL _ _ _ _ (by omega)]
    exact ⟨a, m, c, e0, e1, e2, ho.imp id (fun q => (q.chg hc fun g _ _ hg hs => h1.apartInt q hg hs).mono (Nat.le_refl _) hEE)⟩
  · obtain rfl : i = n := by omega
    rw [getD_appR vs _ _ _ 0 (by omega), getD_appR vs _ _ _ 1 (by omega), getD_appR vs _ _ _ 2 (by omega), getD_appR bs _ _ _ 0 (by omega)]
    exact ⟨pa, pm, pc, rfl, rfl, rfl, .inr ((hp.chg hc fun g _ _ hg hs => h1.apartInt hp hg hs).mono (Nat.le_refl _) hEE)⟩
theorem SeenAt.chgBelow {w0 B E w w' ao n cap bs} (h : SeenAt w0 B E w ao n cap bs) (hc : Chg (fun k => (Value.slice ao n cap).ownBlock = some k) w w') (hB : B ≤ w.heap.size) : Below B w w' := by
  obtain ⟨vs, h1, -⟩ := h
  exact hc.below hB (fun k hk => (h1.1.lt k hk).1)
/-- the states that have been met before the step K -/
def seenL (b : Bk) (K : Nat) : List Bk := (List.range K).map fun i => stepsB i b
theorem seenL_one (b : Bk) : seenL b 1 = [b] := rfl
theorem seenL_succ (b : Bk) (K : Nat) : seenL b (K + 1) = seenL b K ++ [stepsB K b] := by unfold seenL; rw [List.range_succ, List.map_append]; rfl
theorem seenL_getD (b : Bk) {K i : Nat} (h : i < K) : (seenL b K).getD i noBank = stepsB i b := by
  unfold seenL
  rw [List.getD_eq_getElem?_getD, List.getElem?_map, List.getElem?_range h]; rfl
end Go.Proofs.YtnebfojnbjbogaaGreatDoor
