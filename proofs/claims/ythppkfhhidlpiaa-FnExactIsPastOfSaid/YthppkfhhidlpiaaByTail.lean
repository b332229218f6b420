/- Chapter 2: all piles by their tails, by the program. No condition but what the first list has. -/
import Derived.Test.YthppkfhhidlpiaaLoose
namespace Go.Proofs.Ythppkfhhidlpiaa
open Go.RowKit
set_option linter.unusedVariables false
set_option linter.unusedSimpArgs false
set_option maxRecDepth 20000

theorem Try.infoIntss : (Try.prog.info? 26).map (fun i => (i.zero, i.size, i.bytes)) = some (some (.slice none 0 0), 1, 24) := by kernel_rfl
/-- a list of lists behind a value -/
def LevAt (B E : Nat) (w : World) (v : Value) (xss : List (List Int)) : Prop :=
  ∃ a m c vs, v = .slice a m c ∧ OwnRow B E w 24 a m c vs ∧ RowsX B E w vs xss
theorem LevAt.keep {B E w w' v xss} (h : LevAt B E w v xss) (hb : Below w.heap.size w w') : LevAt B E w' v xss := by
  obtain ⟨a, m, c, vs, e, h1, h2⟩ := h; exact ⟨a, m, c, vs, e, h1.keep hb, h2.keep hb⟩
theorem LevAt.mono {B B' E E' w v xss} (h : LevAt B E w v xss) (hB : B' ≤ B) (hE : E ≤ E') : LevAt B' E' w v xss := by
  obtain ⟨a, m, c, vs, e, h1, h2⟩ := h; exact ⟨a, m, c, vs, e, h1.mono hB hE, h2.mono hB hE⟩
theorem LevAt.chg {B E w w' v xss B' E' ao n cap us} (h : LevAt B E w v xss) (k : OwnRow B' E' w 26 ao n cap us) (hc : Chg (fun q => (Value.slice ao n cap).ownBlock = some q) w w') : LevAt B E w' v xss := by
  obtain ⟨a, m, c, vs, e, h1, h2⟩ := h
  exact ⟨a, m, c, vs, e, h1.chg hc (fun g _ _ hg hs => OwnRow.apart_ty h1 k (by decide) hg hs), h2.chgSpine k (by decide) hc⟩
theorem LevAt.at {B E w a m c xss} (h : LevAt B E w (.slice a m c) xss) : RowsAt w a m c xss ∧ xss.length = m := by
  obtain ⟨a', m', c', vs, e, h1, h2⟩ := h
  simp only [Value.slice.injEq] at e
  obtain ⟨rfl, rfl, rfl⟩ := e
  have := h2.at h1.at
  exact ⟨this, this.length⟩
theorem oneTail (w : World) (v : Value) : OwnRow w.heap.size (w.heap.size + 1) (w.alloc (.cells #[v] 26)) 26 (some ⟨w.heap.size, 0, none⟩) 1 1 [v] :=
  ⟨⟨by simp, .inr ⟨w.heap.size, 1, #[v], rfl, Nat.le_refl _, heap_alloc_new w _, Nat.le_refl _, by unfold maxLen; omega, rfl, rfl⟩⟩, fun g hg => by simp [Value.ownBlock] at hg; omega⟩

end Go.Proofs.Ythppkfhhidlpiaa
