/- Chapter 5 by the program: the walk, whose steps are closures; StepRow, RowSteps, PlayRow. No condition. -/
import Derived.Test.YtbneibpakopllaaRowC
import Derived.Test.YtbneibpakopllaaOrder
import Derived.Test.YtbneibpakopllaaGk
import Derived.Laws.EntriesVeiled
import Derived.OneCell
namespace Go.Proofs.Ytbneibpakopllaa
open Go.RowKit
set_option linter.unusedVariables false
set_option linter.unusedSimpArgs false
set_option maxRecDepth 20000

def hereFn (g : Nat) : Value := .func (.func 148) #[] #[.pointer (some ⟨g, 0, none⟩)]
def stepFn (g : Nat) : Value := .func (.func 149) #[] #[.pointer (some ⟨g, 0, none⟩)]
/-- a walk: the cell that its closures share, and the row that it has come to -/
structure Walk (R : Nat) (w : World) (g : Nat) (xs : List Int) : Prop where
  lo : R ≤ g
  hi : g < w.heap.size
  cell : ∃ a m c, w.heap[g]? = some (.cells #[.slice a m c] 22 (0, 0)) ∧ m ≤ 28 ∧ IntsAt w a m c xs ∧ ((0 < m → ∀ b o, a = some ⟨b, o, none⟩ → b < R) ∨ Own (g + 1) w.heap.size w a m c xs)
theorem Walk.keep {R w w' g xs} (h : Walk R w g xs) (hb : Below w.heap.size w w') : Walk R w' g xs := by
  obtain ⟨lo, hi, a, m, c, h1, h2, h3, h4⟩ := h
  have hs := hb.size
  refine ⟨lo, by omega, a, m, c, ?_, h2, h3.keep hb, h4.imp id (fun k => (k.keep hb).mono (Nat.le_refl _) hs)⟩
  rw [(Chg.ofBelow (S := fun _ => False) hb).block g hi id]; exact h1
theorem Walk.chgSpine {R w w' g xs E' ao n cap us} (h : Walk R w g xs) (k : OwnRow (g + 1) E' w 22 ao n cap us) (hc : Chg (fun q => (Value.slice ao n cap).ownBlock = some q) w w') : Walk R w' g xs := by
  obtain ⟨lo, hi, a, m, c, h1, h2, h3, h4⟩ := h
  have hs := hc.size
  have hne : ∀ q, (Value.slice ao n cap).ownBlock = some q → g + 1 ≤ q := fun q hq => (k.1.lt q hq).1
  have h1' : w'.heap[g]? = some (.cells #[.slice a m c] 22 (0, 0)) := by
    rw [hc.block g hi (fun hh => by have := hne g hh; omega)]; exact h1
  rcases h4 with h4 | h4
  · by_cases hm : m = 0
    · exact ⟨lo, by omega, a, m, c, h1', h2, ⟨h3.length, h3.le, h3.max, h3.isNil, fun j hj => by omega⟩, .inl h4⟩
    · exact ⟨lo, by omega, a, m, c, h1', h2, h3.chg hc (fun b o e hh => by have := hne b hh; have := h4 (by omega) b o e; omega), .inl h4⟩
  · have h5 : Own (g + 1) w.heap.size w' a m c xs := h4.chg hc (fun q _ _ g1 g2 => OwnRow.apart_ty h4 k (by decide) g1 g2)
    exact ⟨lo, by omega, a, m, c, h1', h2, h5.at, .inr (h5.mono (Nat.le_refl _) hs)⟩

set_option maxHeartbeats 800000 in
theorem here_any (R g : Nat) (xs : List Int) (w : World) (h : Walk R w g xs) :
    Calls Try.prog 148 #[.pointer (some ⟨g, 0, none⟩)] w fun e w' => ∃ a n c, e = .returned (.slice a n c) ∧ Own w.heap.size w'.heap.size w' a n c xs ∧ Below w.heap.size w w' := by
  obtain ⟨lo, hi, a, m, c, h1, h2, h3, h4⟩ := h
  have hc0 := cell_of_one h1
  have hcon := copyOf_any a m c xs w h3 (by omega)
  have H1 := Lib.hid h1; clear h1
  have H3 := Lib.hid h3; clear h3
  have H4 := Lib.hid h4; clear h4
  have Hcon := Lib.hid hcon; clear hcon
  go_enter Try.func148, Try.ntmps148
  go_wp2_with fail
  with_reducible refine (Hcon.out).mono ?_
  rintro e w1 ⟨a1, c1, rfl, ho1, hb1⟩
  go_wp2
  go_ret
  exact ⟨_, _, _, rfl, ho1, hb1⟩
set_option maxHeartbeats 800000 in
theorem step_any (R g : Nat) (xs : List Int) (w : World) (h : Walk R w g xs) (hg : RowOk xs) :
    Calls Try.prog 149 #[.pointer (some ⟨g, 0, none⟩)] w fun e w' => e = .returned (.tuple #[]) ∧ Walk R w' g (rowStepL xs) ∧ Chg (fun k => k = g) w w' := by
  obtain ⟨lo, hi, a, m, c, h1, h2, h3, h4⟩ := h
  have hc0 := cell_of_one h1
  have hcon := stepOfRow_any a m c xs w h3 hg
  have hlen := (rowStepL_row hg).len
  have hfin : ∀ (w1 : World) (a1 : Option Addr) (n1 c1 : Nat), Own w.heap.size w1.heap.size w1 a1 n1 c1 (rowStepL xs) → Below w.heap.size w w1 →
      w1.cell? ⟨g, 0, none⟩ = some (.slice a m c) ∧ w1.frozen? ⟨g, 0, none⟩ = false ∧ Walk R (w1.setCell ⟨g, 0, none⟩ (.slice a1 n1 c1)) g (rowStepL xs) ∧ Chg (fun k => k = g) w (w1.setCell ⟨g, 0, none⟩ (.slice a1 n1 c1)) := by
    intro w1 a1 n1 c1 ho1 hb1
    have h8 : w1.heap[g]? = some (.cells #[.slice a m c] 22 (0, 0)) := by
      rw [(Chg.ofBelow (S := fun _ => False) hb1).block g hi id]; exact h1
    have hcs := chg_setCell w1 g (.slice a1 n1 c1)
    have hs1 := hb1.size
    have hs2 := hcs.size
    have ho2 : Own w.heap.size w1.heap.size (w1.setCell ⟨g, 0, none⟩ (.slice a1 n1 c1)) a1 n1 c1 (rowStepL xs) := ho1.chg hcs (fun q q1 _ _ hq => by omega)
    have hl1 := ho1.length
    exact ⟨cell_of_one h8, free_of_one h8, ⟨lo, by omega, a1, n1, c1, one_setCell h8, by omega, ho2.at, .inr (ho2.mono (by omega) (by omega))⟩, (Chg.ofBelow hb1).trans hcs⟩
  have H1 := Lib.hid h1; clear h1
  have H3 := Lib.hid h3; clear h3
  have H4 := Lib.hid h4; clear h4
  have Hcon := Lib.hid hcon; clear hcon
  have Hfin := Lib.hid hfin; clear hfin
  have Hlen := Lib.hid hlen; clear hlen
  go_enter Try.func149, Try.ntmps149
  go_wp2_with fail
  with_reducible refine (Hcon.out).mono ?_
  rintro e w1 ⟨a1, n1, c1, rfl, ho1, hb1⟩
  obtain ⟨q1, q2, q3, q4⟩ := Hfin.out w1 a1 n1 c1 ho1 hb1
  have Q3 := Lib.hid q3; clear q3
  have Q4 := Lib.hid q4; clear q4
  go_wp2
  go_end0
  exact ⟨rfl, Q3.out, Q4.out⟩
end Go.Proofs.Ytbneibpakopllaa
