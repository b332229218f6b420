/- Chapter 5: RowOrbit, IsCyclicRow by the model. No condition. -/
import Derived.Test.YtjaodhjiibdbdaaGreatDoorGm
import Derived.Test.YtjaodhjiibdbdaaGreatDoorGg
import Derived.Test.YtjaodhjiibdbdaaGreatDoorOrbA
import Derived.Test.YtjaodhjiibdbdaaGreatDoorTail
namespace Go.Proofs.YtjaodhjiibdbdaaGreatDoor
open Go.RowKit
set_option linter.unusedVariables false
set_option linter.unusedSimpArgs false
set_option maxRecDepth 20000

/-- rows behind a spine: each one lies below R or was made here -/
structure RowsB (R B E : Nat) (w : World) (vs : List Value) (xss : List (List Int)) : Prop where
  length : vs.length = xss.length
  row : ∀ i, i < xss.length → ∃ a m c, vs.getD i undef = .slice a m c ∧ IntsAt w a m c (xss.getD i []) ∧ ((0 < m → ∀ b o, a = some ⟨b, o, none⟩ → b < R) ∨ Own B E w a m c (xss.getD i []))
theorem RowsB.keep {R B E w w' vs xss} (h : RowsB R B E w vs xss) (hb : Below w.heap.size w w') : RowsB R B E w' vs xss :=
  ⟨h.length, fun i hi => by
    obtain ⟨a, m, c, e, h1, h2⟩ := h.row i hi
    exact ⟨a, m, c, e, h1.keep hb, h2.imp id (fun h => h.keep hb)⟩⟩
theorem RowsB.mono {R B E E' w vs xss} (h : RowsB R B E w vs xss) (hE : E ≤ E') : RowsB R B E' w vs xss :=
  ⟨h.length, fun i hi => by
    obtain ⟨a, m, c, e, h1, h2⟩ := h.row i hi
    exact ⟨a, m, c, e, h1, h2.imp id (fun h => h.mono (Nat.le_refl _) hE)⟩⟩
theorem RowsB.chgSpine {R B E w w' vs xss B' E' ao n cap us} (h : RowsB R B E w vs xss) (k : OwnRow B' E' w 24 ao n cap us) (hR : R ≤ B') (hc : Chg (fun q => (Value.slice ao n cap).ownBlock = some q) w w') : RowsB R B E w' vs xss :=
  ⟨h.length, fun i hi => by
    obtain ⟨a, m, c, e, h1, h2⟩ := h.row i hi
    rcases h2 with h2 | h2
    · by_cases hm : m = 0
      · exact ⟨a, m, c, e, ⟨h1.length, h1.le, h1.max, h1.isNil, fun j hj => by omega⟩, .inl h2⟩
      refine ⟨a, m, c, e, h1.chg hc (fun b o e1 hs => ?_), .inl h2⟩
      have := h2 (by omega) b o e1
      rcases k.cases with ⟨rfl, _⟩ | ⟨g, rfl, hg, _⟩
      · simp [Value.ownBlock] at hs
      · simp [Value.ownBlock] at hs; omega
    · have h3 : Own B E w' a m c (xss.getD i []) := h2.chg hc (fun g _ _ g1 g2 => OwnRow.apart_ty h2 k (by decide) g1 g2)
      exact ⟨a, m, c, e, h3.at, .inr h3⟩⟩
theorem getD_last {α : Type} (l : List α) (x d : α) : (l ++ [x]).getD l.length d = x := by simp
theorem getD_left {α : Type} (l : List α) (x d : α) {i : Nat} (h : i < l.length) : (l ++ [x]).getD i d = l.getD i d := by
  rw [List.getD_eq_getElem?_getD, List.getElem?_append_left h, ← List.getD_eq_getElem?_getD]
theorem RowsB.snoc {R B E w vs xss a m c x} (h : RowsB R B E w vs xss) (ho : Own B E w a m c x) : RowsB R B E w (vs ++ [.slice a m c]) (xss ++ [x]) :=
  ⟨by simp [h.length], fun i hi => by
    simp only [List.length_append, List.length_singleton] at hi
    by_cases hlt : i < xss.length
    · obtain ⟨a2, m2, c2, e, h1, h2⟩ := h.row i hlt
      rw [getD_left _ _ _ hlt, getD_left _ _ _ (by rw [h.length]; exact hlt)]
      exact ⟨a2, m2, c2, e, h1, h2⟩
    · obtain rfl : i = xss.length := by omega
      rw [getD_last]
      have e2 : (vs ++ [Value.slice a m c]).getD xss.length undef = .slice a m c := by rw [← h.length]; exact getD_last _ _ _
      exact ⟨a, m, c, e2, ho.at, .inr ho⟩⟩
theorem RowsB.at {R B E w vs xss ao n cap} (h : RowsB R B E w vs xss) (hv : ValsAt w ao n cap vs) : RowsAt w ao n cap xss :=
  ⟨by rw [← h.length]; exact hv.length, hv.le, hv.max, hv.isNil, fun j hj => by
    obtain ⟨b, o, e, hlt, hc⟩ := hv.cell j hj
    refine ⟨b, o, e, hlt, fun i hi => ?_⟩
    obtain ⟨a, m, c, e2, h1, _⟩ := h.row i (by rw [← h.length, hv.length]; exact hi)
    exact ⟨a, m, c, by rw [hc i hi, e2], h1⟩⟩
theorem RowsB.one {R B E w a m c x} (h : IntsAt w a m c x) (hR : 0 < m → ∀ b o, a = some ⟨b, o, none⟩ → b < R) : RowsB R B E w [.slice a m c] [x] :=
  ⟨rfl, fun i hi => by
    obtain rfl : i = 0 := by simp at hi; omega
    exact ⟨a, m, c, rfl, h, .inl hR⟩⟩
theorem intsBlock {w : World} {a : Option Addr} {n c : Nat} {xs : List Int} (h : IntsAt w a n c xs) (hn : 0 < n) : ∀ b o, a = some ⟨b, o, none⟩ → b < w.heap.size := fun b o e => by
  obtain ⟨b2, o2, e2, hlt, _⟩ := h.cell 0 hn
  rw [e] at e2; cases e2; exact hlt

def seenR (xs : List Int) (j : Nat) : List (List Int) := (List.range j).map fun i => rowsL i xs
theorem seenR_length (xs : List Int) (j : Nat) : (seenR xs j).length = j := by simp [seenR]
theorem seenR_succ (xs : List Int) (j : Nat) : seenR xs (j + 1) = seenR xs j ++ [rowsL j xs] := by unfold seenR; rw [List.range_succ, List.map_append]; rfl
theorem seenR_getD (xs : List Int) (j i : Nat) (h : i < j) : (seenR xs j).getD i [] = rowsL i xs := by
  unfold seenR
  rw [List.getD_eq_getElem?_getD, List.getElem?_map, List.getElem?_range h]; rfl
/-- one row more behind: at an append -/
theorem wpList_pushBr {ops : Array Oper} {rest : List Oper} {o : Oper} {a : Act} {Q : Exit → Act → World → Prop} (w : World) (hgd : o.guard = none) (s x : Operand)
    (ho : o.op = .call { callee := .builtin .append, args := #[s, x], argTypes := #[83, 83] })
    (R B E D : Nat) (ao : Option Addr) (n cap : Nat) (vs : List Value) (xss : List (List Int)) (hs : a.eval s = .slice ao n cap) (hown : OwnRow B E w 24 ao n cap vs) (hrows : RowsB R B D w vs xss) (hR : R ≤ B)
    (a2 : Option Addr) (m c : Nat) (ys : List Int) (hy : Own B D w a2 m c ys)
    (hx : a.eval x = .slice (some ⟨w.heap.size, 0, none⟩) 1 1) (hn : n ≤ 67108863) (hB : B ≤ w.heap.size)
    (h : ∀ ao' cap' w', OwnRow B w'.heap.size w' 24 ao' (n + 1) cap' (vs ++ [.slice a2 m c]) → RowsB R B D w' (vs ++ [.slice a2 m c]) (xss ++ [ys]) → Chg (fun k => (Value.slice ao n cap).ownBlock = some k) w w' → wpList Tryz.prog ops Q rest (a.put o.dst (.slice ao' (n + 1) cap')) w') :
    wpList Tryz.prog ops Q (o :: rest) a (w.alloc (.cells #[.slice a2 m c] 24)) := by
  refine wpList_pushVX w hgd s x 83 ho 24 _ 24 Tryz.underlying83 Tryz.infoInts rfl (by decide) B E ao n cap vs hs hown _ rfl hx hn hB (fun ao' cap' w' ho' hc hnew => h ao' cap' w' ho' ?_ hc)
  exact (hrows.snoc hy).chgSpine hown hR hc

end Go.Proofs.YtjaodhjiibdbdaaGreatDoor
