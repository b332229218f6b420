/- Chapter 1: ranks of piles. No condition. -/
import Derived.Test.YtnebfojnbjbogaaGreatDoorGb
import Derived.Test.YtnebfojnbjbogaaGreatDoorGa
namespace Go.Proofs.YtnebfojnbjbogaaGreatDoor
open Go.RowKit
set_option linter.unusedVariables false
set_option linter.unusedSimpArgs false

theorem highestNext_any (left : Int) (ao : Option Addr) (n cap : Nat) (xs : List Int) (w : World) (h : IntsAt w ao n cap xs) :
    Calls Tryz.prog 53 #[.int .i64 left, .slice ao n cap] w fun e w' => e = .returned (.int .i64 (if n = 0 then left else min left (xs.getD (n - 1) 0))) ∧ w = w' := by
  have hn := h.lenInt
  by_cases hz : n = 0
  · subst hz
    go_enter Tryz.func53, Tryz.ntmps53
    go_wp2
    go_ret
    exact ⟨rfl, rfl⟩
  · have hne : ((n : Int) == 0) = false := by simp; omega
    obtain ⟨b, o, rfl, hb, hc⟩ := h.cell 0 (by omega)
    have hck := hc (n - 1) (by omega)
    clear hc
    generalize hx : xs.getD (n - 1) 0 = y at hck ⊢
    have Hx := Lib.hid hx; clear hx
    go_enter Tryz.func53, Tryz.ntmps53
    go_wp2
    all_goals (go_ret; exact ⟨retI (by omega), rfl⟩)

def mRankPiles (xs : List Int) : Int × Bool := (if goodB xs then rankL xs else 0, goodB xs)
theorem mRank_yes {xs : List Int} (h : goodB xs = true) : mRankPiles xs = (rankL xs, true) := by unfold mRankPiles; rw [h]; rfl
theorem mRank_no {xs : List Int} (h : goodB xs = false) : mRankPiles xs = (0, false) := by unfold mRankPiles; rw [h]; rfl
end Go.Proofs.YtnebfojnbjbogaaGreatDoor
