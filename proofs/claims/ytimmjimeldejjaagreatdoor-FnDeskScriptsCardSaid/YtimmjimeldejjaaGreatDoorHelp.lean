/- The laws' own helpers: marks and what they held; lists of lists. No condition but a bound on lengths. -/
import Derived.Test.YtimmjimeldejjaaGreatDoorHelpA
namespace Go.Proofs.YtimmjimeldejjaaGreatDoor
open Go.RowKit
set_option linter.unusedVariables false
set_option linter.unusedSimpArgs false

/-- k, k + 1, .. -/
def marks (k : Int) : Nat → List Int
  | 0 => []
  | n + 1 => k :: marks (k + 1) n
/-! ### Lists of lists -/
theorem take_snocR {xs : List (List Int)} {k n : Nat} {x : List Int} (hx : xs.getD k [] = x) (hk : k < n) (hl : xs.length = n) : xs.take (k + 1) = xs.take k ++ [x] := by
  subst hx hl
  rw [List.take_add_one, List.getElem?_eq_getElem hk, List.getD_eq_getElem?_getD, List.getElem?_eq_getElem hk]
  rfl
theorem take_allR {xs : List (List Int)} {n : Nat} (hl : xs.length = n) : xs.take n = xs := List.take_of_length_le (Nat.le_of_eq hl)
theorem RowsAt.drewN {w ao n cap xs} (h : RowsAt w ao n cap xs) (q : Nat) : RowsAt (w.drewN q) ao n cap xs :=
  ⟨h.length, h.le, h.max, h.isNil, fun j hj => by
    obtain ⟨b, o, e, hb, hc⟩ := h.cell j hj
    exact ⟨b, o, e, hb, fun i hi => by obtain ⟨a, m, c, h1, h2⟩ := hc i hi; exact ⟨a, m, c, h1, h2.drewN q⟩⟩⟩

theorem getD_set_eq {α : Type} (l : List α) (i : Nat) (x d : α) (h : i < l.length) : (l.set i x).getD i d = x := by
  rw [List.getD_eq_getElem?_getD, List.getElem?_set_self h]; rfl
theorem getD_set_ne {α : Type} (l : List α) (i j : Nat) (x d : α) (h : i ≠ j) : (l.set i x).getD j d = l.getD j d := by
  rw [List.getD_eq_getElem?_getD, List.getElem?_set_ne h, List.getD_eq_getElem?_getD]

theorem OwnRow.typed {B E w ty ao n cap vs g} (h : OwnRow B E w ty ao n cap vs) (hg : (Value.slice ao n cap).ownBlock = some g) : ∃ cur, w.heap[g]? = some (.cells cur ty (0, 0)) := by
  rcases h.1.2 with ⟨hv, _⟩ | ⟨g', c, cur, hv, hg', hh, _⟩
  · rw [hv] at hg; simp [Value.ownBlock] at hg
  · rw [hv] at hg; simp [Value.ownBlock] at hg; subst hg; exact ⟨cur, hh⟩

end Go.Proofs.YtimmjimeldejjaaGreatDoor
