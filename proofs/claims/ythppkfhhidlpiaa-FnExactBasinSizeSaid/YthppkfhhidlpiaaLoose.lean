/- Chapter 2: the pasts that are not cyclic, by the program. No condition but a bound on lengths. -/
import Derived.Test.YthppkfhhidlpiaaGa
import Derived.Test.YthppkfhhidlpiaaTailI
namespace Go.Proofs.Ythppkfhhidlpiaa
open Go.RowKit
set_option linter.unusedVariables false
set_option linter.unusedSimpArgs false
set_option maxRecDepth 20000

/-! ### Values behind which lists lie, two of which may lie in one block -/
structure RowsX (B E : Nat) (w : World) (vs : List Value) (xss : List (List Int)) : Prop where
  length : vs.length = xss.length
  row : ∀ i, i < xss.length → ∃ a m c, vs.getD i undef = .slice a m c ∧ Own B E w a m c (xss.getD i [])
theorem RowsV.toX {B E w vs xss} (h : RowsV B E w vs xss) : RowsX B E w vs xss := ⟨h.length, h.row⟩
theorem RowsX.mono {B B' E E' w vs xss} (h : RowsX B E w vs xss) (hB : B' ≤ B) (hE : E ≤ E') : RowsX B' E' w vs xss :=
  ⟨h.length, fun i hi => by obtain ⟨a, m, c, e, ho⟩ := h.row i hi; exact ⟨a, m, c, e, ho.mono hB hE⟩⟩
theorem RowsX.keep {B E w w' vs xss} (h : RowsX B E w vs xss) (hb : Below w.heap.size w w') : RowsX B E w' vs xss :=
  ⟨h.length, fun i hi => by obtain ⟨a, m, c, e, ho⟩ := h.row i hi; exact ⟨a, m, c, e, ho.keep hb⟩⟩
theorem RowsX.nil (B E : Nat) (w : World) : RowsX B E w [] [] := ⟨rfl, fun i hi => absurd hi (Nat.not_lt_zero _)⟩
theorem RowsX.append {B E w vs xss us yss} (h : RowsX B E w vs xss) (k : RowsX B E w us yss) : RowsX B E w (vs ++ us) (xss ++ yss) := by
  refine ⟨by simp [h.length, k.length], fun i hi => ?_⟩
  by_cases hlt : i < xss.length
  · obtain ⟨a, m, c, e, ho⟩ := h.row i hlt
    refine ⟨a, m, c, ?_, ?_⟩
    · rw [List.getD_eq_getElem?_getD, List.getElem?_append_left (by rw [h.length]; exact hlt), ← List.getD_eq_getElem?_getD]; exact e
    · rw [List.getD_eq_getElem?_getD, List.getElem?_append_left hlt, ← List.getD_eq_getElem?_getD]; exact ho
  · rw [List.length_append] at hi
    obtain ⟨a, m, c, e, ho⟩ := k.row (i - xss.length) (by omega)
    refine ⟨a, m, c, ?_, ?_⟩
    · rw [List.getD_eq_getElem?_getD, List.getElem?_append_right (by rw [h.length]; omega), h.length, ← List.getD_eq_getElem?_getD]; exact e
    · rw [List.getD_eq_getElem?_getD, List.getElem?_append_right (by omega), ← List.getD_eq_getElem?_getD]; exact ho
theorem RowsX.chgSpine {B E w w' vs xss B' E' ty ao n cap us} (h : RowsX B E w vs xss) (k : OwnRow B' E' w ty ao n cap us) (hne : 3 ≠ ty) (hc : Chg (fun q => (Value.slice ao n cap).ownBlock = some q) w w') : RowsX B E w' vs xss :=
  ⟨h.length, fun i hi => by
    obtain ⟨a, m, c, e, ho⟩ := h.row i hi
    exact ⟨a, m, c, e, ho.chg hc fun g _ _ hg hs => OwnRow.apart_ty ho k hne hg hs⟩⟩
theorem RowsX.at {B E w vs xss ao n cap} (h : RowsX B E w vs xss) (hv : ValsAt w ao n cap vs) : RowsAt w ao n cap xss := by
  refine ⟨by rw [← h.length]; exact hv.length, hv.le, hv.max, hv.isNil, fun j hj => ?_⟩
  obtain ⟨b, o, e, hlt, hc⟩ := hv.cell j hj
  refine ⟨b, o, e, hlt, fun i hi => ?_⟩
  obtain ⟨a, m, c, e2, ho⟩ := h.row i (by rw [← h.length, hv.length]; exact hi)
  exact ⟨a, m, c, by rw [hc i hi, e2], ho.at⟩
theorem RowsX.one {B E w a m c ys} (h : Own B E w a m c ys) : RowsX B E w [.slice a m c] [ys] :=
  ⟨rfl, fun i hi => by
    obtain rfl : i = 0 := by simpa using hi
    exact ⟨a, m, c, rfl, h⟩⟩

theorem looseL_take (xss : List (List Int)) (j n : Nat) (x : List Int) (hx : xss.getD j [] = x) (hj : j < n) (hl : xss.length = n) : looseL (xss.take (j + 1)) = looseL (xss.take j) ++ loosePasts x := by
  unfold looseL
  rw [take_snocR hx hj hl, List.flatMap_append]
  simp
theorem pastsL_len {xs : List Int} (hg : Good xs) : (pastsL xs).length ≤ 29 := by
  have hlen := hg.len
  by_cases hx : xs = []
  · subst hx; simp [pastsL]
  · have := pastsOf_take_length xs xs.length
    rw [List.take_length, asc_none] at this
    unfold pastsL
    rw [if_neg hx]; omega

end Go.Proofs.Ythppkfhhidlpiaa
