/- Chapter 2: states of plays; IsCyclic, BitsOf, FromBits, TurnBits by the program. No condition. -/
import Derived.Test.YtmfdimdcoeapoaaGreatRingE
namespace Go.Proofs.YtmfdimdcoeapoaaGreat
open Go.RowKit
set_option linter.unusedVariables false
set_option linter.unusedSimpArgs false
set_option maxRecDepth 20000

/-- what a play has come to: a ring, or loose piles -/
def StV (w : World) (v : Value) (xs : List Int) : Prop :=
  (Cyc xs ∧ v = .iface 76 (ringV (bitsL xs))) ∨ (¬ Cyc xs ∧ ∃ ao n c, v = .iface 79 (.slice ao n c) ∧ IntsAt w ao n c xs)
theorem StV.keep {w w' v xs} (h : StV w v xs) (hb : Below w.heap.size w w') : StV w' v xs := by
  rcases h with h | ⟨h1, ao, n, c, e, h⟩
  · exact .inl h
  · exact .inr ⟨h1, ao, n, c, e, h.keep hb⟩

set_option maxHeartbeats 800000 in
theorem stateOf_any (ao : Option Addr) (n cap : Nat) (xs : List Int) (w : World) (h : IntsAt w ao n cap xs) (hg : Good xs) :
    Calls Tryz.prog 41 #[.slice ao n cap] w fun e w' => ∃ v, e = .returned v ∧ StV w' v xs ∧ Below w.heap.size w w' := by
  have hcon := ringOf_any ao n cap xs w h hg
  by_cases hc : Cyc xs
  · have hcb := cyc_iff.2 hc
    obtain ⟨d0, d1, d2, d3, d4, d5, d6, d7, n', hr'⟩ := R9.of (bs := bitsL xs) (by rw [bitsL_length]; have := hL_le xs; omega)
    rw [ofV_yes hcb, hcb, hr'.v] at hcon
    have Hcon := Lib.hid hcon; clear hcon
    have Hc := Lib.hid hc; clear hc
    have Hcb := Lib.hid hcb; clear hcb
    have Hr' := Lib.hid hr'; clear hr'
    have Hg := Lib.hid hg; clear hg
    go_enter Tryz.func41, Tryz.ntmps41
    go_wp2_with fail
    with_reducible refine (Hcon.out).mono ?_
    rintro e w1 ⟨rfl, hb1⟩
    go_wp2_with fail
    go_ret
    exact ⟨_, rfl, .inl ⟨Hc.out, by rw [Hr'.out.v]; rfl⟩, hb1.alloc hb1.size _⟩
  · have hcb := cycBF hc
    rw [ofV_no hcb, hcb] at hcon
    unfold ring0 at hcon
    have Hcon := Lib.hid hcon; clear hcon
    have Hc := Lib.hid hc; clear hc
    have Hcb := Lib.hid hcb; clear hcb
    have Hg := Lib.hid hg; clear hg
    go_enter Tryz.func41, Tryz.ntmps41
    go_wp2_with fail
    with_reducible refine (Hcon.out).mono ?_
    rintro e w1 ⟨rfl, hb1⟩
    go_wp2_with fail
    go_ret
    exact ⟨_, rfl, .inr ⟨Hc.out, ao, n, cap, rfl, (h.keep hb1).keep (belowAlloc _ _)⟩, hb1.alloc hb1.size _⟩

/-! ### The methods -/
theorem mRingCyc (bs : List Int) (w : World) : (method 234 76 (ringV bs) "loop.example/g01114/impl.isCyclic").run Tryz.prog w = .ok (117, ringV bs) w := by
  unfold ringV; generalize ring9 _ _ _ _ _ _ _ _ _ = cs; kernel_rfl
theorem mLooseCyc (ao : Option Addr) (n c : Nat) (w : World) : (method 234 79 (.slice ao n c) "loop.example/g01114/impl.isCyclic").run Tryz.prog w = .ok (120, .slice ao n c) w := by kernel_rfl
theorem ringCyc (bs : List Int) (w : World) : Calls Tryz.prog 117 #[ringV bs] w fun e w' => e = .returned (.bool true) ∧ Below w.heap.size w w' := by
  unfold ringV ring9
  go_enter Tryz.func117, Tryz.ntmps117
  go_wp2_with fail
  go_ret
  exact ⟨rfl, belowAlloc _ _⟩
theorem looseCyc (ao : Option Addr) (n c : Nat) (w : World) : Calls Tryz.prog 120 #[.slice ao n c] w fun e w' => e = .returned (.bool false) ∧ w = w' := by
  go_enter Tryz.func120, Tryz.ntmps120
  go_wp2_with fail
  go_ret
  exact ⟨rfl, rfl⟩
end Go.Proofs.YtmfdimdcoeapoaaGreat
