/- One column, settled: finite facts. Plain mathematics; no condition. -/
import Derived.Test.YtdfmljkjidepeaaGreatDoorGf
import Derived.Test.YtdfmljkjidepeaaGreatDoorGb
namespace Go.Proofs.YtdfmljkjidepeaaGreatDoor
set_option linter.unusedVariables false
set_option linter.unusedSimpArgs false

def restI (n : Nat) : Int := (n : Int) - ((tri (hgt n) : Nat) : Int)
def shapeB (n : Nat) : Bool := sandB (oneCol n) && sandB (settleL (oneCol n)) && decide ((settleL (oneCol n)).Pairwise (· ≥ ·)) && (settleL (oneCol n)).isPerm (if 0 < restI n then stairs (hgt n) ++ [restI n] else stairs (hgt n))
set_option maxRecDepth 100000 in
theorem shape_all : ∀ n : Fin 25, shapeB n.val = true := by decide +kernel
theorem shape_of {n : Nat} (h : n ≤ 24) : mSettledShape (n : Int) = (sortD (if 0 < restI n then stairs (hgt n) ++ [restI n] else stairs (hgt n)), true) := by
  have := shape_all ⟨n, by omega⟩
  unfold shapeB at this
  simp only [Bool.and_eq_true] at this
  obtain ⟨⟨⟨h0, h1⟩, h2⟩, h3⟩ := this
  have hs := sortD_unique (of_decide_eq_true h2) (List.isPerm_iff.1 h3)
  rw [mShape_yes (by omega), mSettle_yes h0, ifSand_yes h1, hs]
theorem stairs_down (k : Nat) : (stairs k).Pairwise (· ≥ ·) := by
  unfold stairs
  rw [List.pairwise_map]
  exact List.pairwise_lt_range.imp fun {a b} h => by show ((k - b : Nat) : Int) ≤ ((k - a : Nat) : Int); omega
end Go.Proofs.YtdfmljkjidepeaaGreatDoor
