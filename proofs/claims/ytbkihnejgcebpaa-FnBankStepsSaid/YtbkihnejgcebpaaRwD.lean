/- The draws of chapter 5's laws: rows, or something near them. No condition but sizes. -/
import Derived.Test.YtbkihnejgcebpaaGd
import Derived.Test.YtbkihnejgcebpaaRowB
namespace Go.Proofs.Ytbkihnejgcebpaa
open Go.RowKit
set_option linter.unusedVariables false
set_option linter.unusedSimpArgs false

/-- one of some numbers that are laid for it -/
theorem amongNew_any (xs : List Int) (w : World) (g A : Nat) (h : Cur w g A) (hA : A ≤ 900000000) (hn : 1 ≤ xs.length) (hn2 : xs.length ≤ 1048576) :
    Calls Try.prog 55 #[.pointer (some ⟨g, 0, none⟩), .slice (some ⟨w.heap.size, 0, none⟩) xs.length xs.length] (w.alloc (.cells (xs.map (Value.int .i64)).toArray 3)) fun e w' => ∃ z, z ∈ xs ∧ e = .returned (.int .i64 z) ∧ Cur w' g (A + 2) ∧ Chg (fun k => k = g) w w' := by
  have hlt := h.lt
  have ha := among_any xs.length xs.length _ xs _ g A (intsAt_new w xs (by unfold maxLen; omega)) (fun b o e => by cases e; omega) (h.keep ((Below.refl _ _).alloc (Nat.le_refl _) _)) hA hn hn2
  refine ha.mono fun e w' ⟨i, hi, he, hc, hg⟩ => ⟨xs.getD i 0, mem_of_getD hi, he, hc, hg.allocFirst⟩

theorem pow_fin9 : ∀ m : Nat, m < 29 → wrap64 (2 ^ m) = (cntR (m + 1) : Int) := by decide +kernel
theorem cntR_le9 : ∀ n, n < 30 → 1 ≤ cntR n ∧ cntR n ≤ 268435456 := by decide +kernel
theorem l1MostI_any (a b : Int) (w : World) :
    Calls Try.prog 58 #[.int .i64 a, .int .i64 b] w fun e w' => e = .returned (.int .i64 (max a b)) ∧ w = w' := by
  by_cases h : b < a
  · have e : max a b = a := by omega
    rw [e]
    go_enter Try.func58, Try.ntmps58
    go_wp2
    go_ret
    exact ⟨rfl, rfl⟩
  · have e : max a b = b := by omega
    rw [e]
    go_enter Try.func58, Try.ntmps58
    go_wp2
    go_ret
    exact ⟨rfl, rfl⟩
end Go.Proofs.Ytbkihnejgcebpaa
