/- The piles of so many cards that are no higher than a height: mathematics. No condition. -/
import Derived.Test.YtbkihnejgcebpaaBbQ
import Derived.Test.YtbkihnejgcebpaaGa
namespace Go.Proofs.Ytbkihnejgcebpaa
open Go.RowKit
set_option linter.unusedVariables false
set_option linter.unusedSimpArgs false

theorem allF_fuel (f : Nat) : ∀ (g n most : Nat), n ≤ f → n ≤ g → allF f n most = allF g n most := by
  induction f with
  | zero =>
    intro g n most h1 h2
    obtain rfl : n = 0 := by omega
    rw [allF_zero, allF_zero]
  | succ f ih =>
    intro g n most h1 h2
    by_cases hn : n = 0
    · subst hn; rw [allF_zero, allF_zero]
    · obtain ⟨g, rfl⟩ : ∃ g', g = g' + 1 := ⟨g - 1, by omega⟩
      simp only [allF, if_neg hn]
      rw [List.flatMap_def, List.flatMap_def]
      congr 1
      apply List.map_congr_left
      intro x hx
      have := downs_mem hx
      rw [ih g (n - x) x (by omega) (by omega)]
theorem filter_none {α : Type} (l : List α) (p : α → Bool) (h : ∀ x ∈ l, p x = false) : l.filter p = [] := by
  apply List.filter_eq_nil_iff.2
  intro x hx
  rw [h x hx]; simp
theorem filter_all {α : Type} (l : List α) (p : α → Bool) (h : ∀ x ∈ l, p x = true) : l.filter p = l := List.filter_eq_self.2 h
theorem downs_flat (F : Nat → List (List Int)) (H : Nat) (hF1 : ∀ x, x ≤ H → ∀ ys ∈ F x, ys.getD 0 0 ≤ (H : Int)) (hF2 : ∀ x, H < x → ∀ ys ∈ F x, ¬ ys.getD 0 0 ≤ (H : Int)) (n : Nat) :
    ((downs n).flatMap F).filter (fun ys => decide (ys.getD 0 0 ≤ (H : Int))) = (downs (min n H)).flatMap F := by
  induction n with
  | zero => simp [downs]
  | succ n ih =>
    rw [show downs (n + 1) = (n + 1) :: downs n from rfl, List.flatMap_cons, List.filter_append, ih]
    by_cases hle : n + 1 ≤ H
    · rw [filter_all _ _ (fun ys hy => decide_eq_true (hF1 _ hle ys hy)), show min (n + 1) H = n + 1 by omega, show min n H = n by omega]
      rfl
    · rw [filter_none _ _ (fun ys hy => decide_eq_false (hF2 _ (by omega) ys hy)), show min (n + 1) H = min n H by omega]
      rfl
theorem allF_low (f n H : Nat) : (allF f n n).filter (fun ys => decide (ys.getD 0 0 ≤ (H : Int))) = allF f n H := by
  by_cases hn : n = 0
  · subst hn
    rw [allF_zero, allF_zero]
    simp
  · cases f with
    | zero => simp [allF, hn]
    | succ f =>
      simp only [allF, if_neg hn, Nat.min_self]
      refine downs_flat _ H (fun x hx ys hy => ?_) (fun x hx ys hy => ?_) n
      · obtain ⟨zs, -, rfl⟩ := List.mem_map.1 hy
        simp; omega
      · obtain ⟨zs, -, rfl⟩ := List.mem_map.1 hy
        simp; omega
/-- the piles of m cards with none above the height -/
theorem allL_low (m H : Nat) (hm : m ≤ 28) : (allL m).filter (fun ys => decide (ys.getD 0 0 ≤ (H : Int))) = allF m m H := by
  unfold allL
  rw [allF_low, allF_fuel 28 m m H hm (Nat.le_refl _)]
/-- which of all piles make a bank state of a height, with so many cards left -/
theorem bank_of_all {H N l : Nat} (hH : 1 ≤ H ∧ H ≤ 10) (hN : N ≤ 14) (h1 : l < H) (h2 : l ≤ N) {p : List Int} (hp : p ∈ allL (N - l)) : bankB ⟨(H : Int), (l : Int), p⟩ = decide (p.getD 0 0 ≤ (H : Int)) := by
  obtain ⟨hg, hs⟩ := allL_good (by omega) hp
  unfold bankB
  apply decide_eq_decide.2
  constructor
  · exact fun h => h.2.2.2.1
  · intro h
    refine ⟨⟨by show 1 ≤ (H : Int); omega, by show (H : Int) ≤ 10; omega⟩, ⟨by show 0 ≤ (l : Int); omega, by show (l : Int) ≤ H - 1; omega⟩, hg, h, ?_⟩
    show (l : Int) + p.sum ≤ 28
    omega
/-- the bank states that the program keeps of those with l cards left -/
theorem kept_row {H N l : Nat} (hH : 1 ≤ H ∧ H ≤ 10) (hN : N ≤ 14) (h1 : l < H) (h2 : l ≤ N) :
    ((allL (N - l)).map fun p => (⟨(H : Int), (l : Int), p⟩ : Bk)).filter bankB = rowBk H N l := by
  unfold rowBk
  rw [List.filter_map, ← allL_low (N - l) H (by omega)]
  congr 1
  apply List.filter_congr
  intro p hp
  exact bank_of_all hH hN h1 h2 hp
end Go.Proofs.Ytbkihnejgcebpaa
