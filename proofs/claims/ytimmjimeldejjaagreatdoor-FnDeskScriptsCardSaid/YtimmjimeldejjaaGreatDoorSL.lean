/- Several texts in one: StayM, Lawp. No condition. -/
import Derived.Test.YtimmjimeldejjaaGreatDoorGh
import Derived.Test.YtimmjimeldejjaaGreatDoorGi
import Derived.Test.YtimmjimeldejjaaGreatDoorGa
import Derived.Test.YtimmjimeldejjaaGreatDoorExA
import Derived.Test.YtimmjimeldejjaaGreatDoorHelp
import Derived.Test.YtimmjimeldejjaaGreatDoorGd
namespace Go.Proofs.YtimmjimeldejjaaGreatDoor
section
set_option linter.unusedVariables false

/-! ### Sorting that can be computed -/
/-! ### Staircases -/
structure Stay (k : Int) (xs : List Int) : Prop where
  step : mStepPiles xs = (xs, true)
  pastOk : (mPastsOf xs).2 = true
  past : xs ∈ (mPastsOf xs).1
  cards : mCardsOf xs = (k * (k + 1) / 2, true)
  height : mHeightFor (k * (k + 1) / 2) = (k, 0, true)
  all : k * (k + 1) / 2 ≤ 15 → (mAllPiles (k * (k + 1) / 2)).2 = true ∧ ∀ b ∈ (mAllPiles (k * (k + 1) / 2)).1, (mStepPiles b).2 = true ∧ (decide ((mStepPiles b).1 = b) = decide (b = xs))
end
end Go.Proofs.YtimmjimeldejjaaGreatDoor
namespace Go.Proofs.YtimmjimeldejjaaGreatDoor
section
open Go.RowKit
set_option linter.unusedVariables false
set_option linter.unusedSimpArgs false

theorem byteIn_row {w : World} {a : Option Addr} {len cap : Nat} {zs : List Int} (h : (a = none ∧ len = 0 ∧ cap = 0 ∧ zs = []) ∨
    ∃ x, a = some x ∧ len ≤ cap ∧ cap ≤ maxLen ∧ zs.length = cap ∧ (∀ i, i < zs.length → w.cell? (x.add i) = some (.int .u8 (zs.getD i 0))) ∧ ∀ n ∈ zs, (Lit.int .u8 n).wf = true) :
    ByteIn w w.heap.size a len := by
  intro j hj
  rcases h with ⟨rfl, rfl, rfl, rfl⟩ | ⟨⟨b, o, sp⟩, rfl, h1, h2, h3, h4, h5⟩
  · omega
  have hc0 := h4 0 (by omega)
  have hsp : sp = none := by simpa [Addr.add] using World.cell?_spot hc0
  subst hsp
  refine ⟨b, o, rfl, World.block_lt_of_cell? w _ (by simpa using hc0), fun i hi => ?_⟩
  have h6 := h4 i (by omega)
  rw [Addr.add_lit] at h6
  have h7 := h5 _ (mem_of_getD (xs := zs) (i := i) (by omega))
  have h8 : 0 ≤ zs.getD i 0 ∧ zs.getD i 0 ≤ 255 := by simpa [Lit.wf, IntKind.min, IntKind.max, IntKind.signed, IntKind.bits] using h7
  exact ⟨(zs.getD i 0).toNat, by omega, by rw [h6]; congr 2; omega⟩
theorem ByteIn.up {w w' : World} {g g' : Nat} {ac : Option Addr} {nc : Nat} (h : ByteIn w g ac nc) (hg : g ≤ w.heap.size) (hb : Below w.heap.size w w') (hg' : g ≤ g') : ByteIn w' g' ac nc := fun j hj => by
  obtain ⟨b, o, e, hlt, hi⟩ := h.chg (S := fun _ => False) hg (Chg.ofBelow hb) (fun _ _ h => h) j hj
  exact ⟨b, o, e, by omega, hi⟩

theorem big_yes (ao bo : Option Addr) (n m cap cap' : Nat) (w : World) (h : 1048576 < n ∨ (1048576 : Int) - n < m) (hn : n ≤ maxLen) :
    Calls Tryz.prog 9 #[.slice ao n cap, .slice bo m cap'] w fun e w' => e = .returned (.bool true) ∧ w = w' := by
  have hn8 := maxLen_le hn
  by_cases h1 : 1048576 < n
  · have hd : decide ((1048576 : Int) < n) = true := decide_eq_true (by omega)
    go_enter Tryz.func9, Tryz.ntmps9
    go_wp2
    go_ret
    exact ⟨rfl, rfl⟩
  · have h2 : (1048576 : Int) - n < m := by omega
    have hd : ¬ ((1048576 : Int) < n) := by omega
    go_enter Tryz.func9, Tryz.ntmps9
    go_wp2
    go_ret
    exact ⟨retB (by simp <;> omega), rfl⟩
theorem big_no (ao bo : Option Addr) (n m cap cap' : Nat) (w : World) (h : n ≤ 1048576) (h2 : (m : Int) ≤ 1048576 - n) :
    Calls Tryz.prog 9 #[.slice ao n cap, .slice bo m cap'] w fun e w' => e = .returned (.bool false) ∧ w = w' := by
  have hd : ¬ ((1048576 : Int) < n) := by omega
  go_enter Tryz.func9, Tryz.ntmps9
  go_wp2
  go_ret
  exact ⟨retB (by simp <;> omega), rfl⟩

end
end Go.Proofs.YtimmjimeldejjaaGreatDoor
