/- Chapter 2: states of plays; IsCyclic, BitsOf, FromBits, TurnBits by the program. No condition. -/
import Derived.Test.YtmfdimdcoeapoaaRingE
namespace Go.Proofs.Ytmfdimdcoeapoaa
open Go.RowKit
set_option linter.unusedVariables false
set_option linter.unusedSimpArgs false
set_option maxRecDepth 20000

/-- what a play has come to: a ring, or loose piles -/
def StV (w : World) (v : Value) (xs : List Int) : Prop :=
  (Cyc xs ∧ v = .iface 82 (ringV (bitsL xs))) ∨ (¬ Cyc xs ∧ ∃ ao n c, v = .iface 85 (.slice ao n c) ∧ IntsAt w ao n c xs)
theorem StV.keep {w w' v xs} (h : StV w v xs) (hb : Below w.heap.size w w') : StV w' v xs := by
  rcases h with h | ⟨h1, ao, n, c, e, h⟩
  · exact .inl h
  · exact .inr ⟨h1, ao, n, c, e, h.keep hb⟩

set_option maxHeartbeats 800000 in
theorem stateOf_any (ao : Option Addr) (n cap : Nat) (xs : List Int) (w : World) (h : IntsAt w ao n cap xs) (hg : Good xs) :
    Calls Try.prog 88 #[.slice ao n cap] w fun e w' => ∃ v, e = .returned v ∧ StV w' v xs ∧ Below w.heap.size w w' := by
  have hcon := ringOf_any ao n cap xs w h hg
  by_cases hc : Cyc xs
  · have hcb := cyc_iff.2 hc
    obtain ⟨d0, d1, d2, d3, d4, d5, d6, d7, n', hr'⟩ := R9.of (bs := bitsL xs) (by rw [bitsL_length]; have := hL_le xs; omega)
    rw [ofV_yes hcb, hcb, hr'.v] at hcon
    have Hcon := Lib.hid hcon; clear hcon
    have Hc := Lib.hid hc; clear hc
    have Hcb := Lib.hid hcb; clear hcb
    have Hr' := Lib.hid hr'; clear hr'
    have Hg := Lib.hid hg; clear hg
    go_enter Try.func88, Try.ntmps88
    go_wp2_with fail
    with_reducible refine (Hcon.out).mono ?_
    rintro e w1 ⟨rfl, hb1⟩
    go_wp2_with fail
    go_ret
    exact ⟨_, rfl, .inl ⟨Hc.out, by rw [Hr'.out.v]; rfl⟩, hb1.alloc hb1.size _⟩
  · have hcb := cycBF hc
    rw [ofV_no hcb, hcb] at hcon
    unfold ring0 at hcon
    have Hcon := Lib.hid hcon; clear hcon
    have Hc := Lib.hid hc; clear hc
    have Hcb := Lib.hid hcb; clear hcb
    have Hg := Lib.hid hg; clear hg
    go_enter Try.func88, Try.ntmps88
    go_wp2_with fail
    with_reducible refine (Hcon.out).mono ?_
    rintro e w1 ⟨rfl, hb1⟩
    go_wp2_with fail
    go_ret
    exact ⟨_, rfl, .inr ⟨Hc.out, ao, n, cap, rfl, (h.keep hb1).keep (belowAlloc _ _)⟩, hb1.alloc hb1.size _⟩

/-! ### The methods -/
theorem mRingCyc (bs : List Int) (w : World) : (method 224 82 (ringV bs) "loop.example/g01114/impl.isCyclic").run Try.prog w = .ok (133, ringV bs) w := by
  unfold ringV; generalize ring9 _ _ _ _ _ _ _ _ _ = cs; kernel_rfl
theorem mRingNext (bs : List Int) (w : World) : (method 224 82 (ringV bs) "loop.example/g01114/impl.next").run Try.prog w = .ok (134, ringV bs) w := by
  unfold ringV; generalize ring9 _ _ _ _ _ _ _ _ _ = cs; kernel_rfl
theorem mLooseCyc (ao : Option Addr) (n c : Nat) (w : World) : (method 224 85 (.slice ao n c) "loop.example/g01114/impl.isCyclic").run Try.prog w = .ok (138, .slice ao n c) w := by kernel_rfl
theorem mLooseNext (ao : Option Addr) (n c : Nat) (w : World) : (method 224 85 (.slice ao n c) "loop.example/g01114/impl.next").run Try.prog w = .ok (139, .slice ao n c) w := by kernel_rfl
theorem ringCyc (bs : List Int) (w : World) : Calls Try.prog 133 #[ringV bs] w fun e w' => e = .returned (.bool true) ∧ Below w.heap.size w w' := by
  unfold ringV ring9
  go_enter Try.func133, Try.ntmps133
  go_wp2_with fail
  go_ret
  exact ⟨rfl, belowAlloc _ _⟩
theorem looseCyc (ao : Option Addr) (n c : Nat) (w : World) : Calls Try.prog 138 #[.slice ao n c] w fun e w' => e = .returned (.bool false) ∧ w = w' := by
  go_enter Try.func138, Try.ntmps138
  go_wp2_with fail
  go_ret
  exact ⟨rfl, rfl⟩
set_option maxHeartbeats 800000 in
theorem looseNext_any (ao : Option Addr) (n c : Nat) (xs : List Int) (w : World) (h : IntsAt w ao n c xs) (hg : Good xs) :
    Calls Try.prog 139 #[.slice ao n c] w fun e w' => ∃ v, e = .returned v ∧ StV w' v (stepL xs) ∧ Below w.heap.size w w' := by
  have hcon := stepOf_any ao n c xs w h hg
  have hG := stepL_good hg
  have Hcon := Lib.hid hcon; clear hcon
  have HG := Lib.hid hG; clear hG
  have Hg := Lib.hid hg; clear hg
  go_enter Try.func139, Try.ntmps139
  go_wp2_with fail
  with_reducible refine (Hcon.out).mono ?_
  rintro e w1 ⟨a1, m1, c1, rfl, ho1, hb1⟩
  go_wp2_with fail
  with_reducible refine (stateOf_any _ _ _ _ _ ho1.at HG.out).mono ?_
  rintro e w2 ⟨v, rfl, hst, hb2⟩
  go_wp2_with fail
  go_ret
  exact ⟨_, rfl, hst, belowTrans hb1 hb2 (Nat.le_refl _)⟩
set_option maxHeartbeats 800000 in
theorem ringNext_any (xs : List Int) (w : World) (hc : Cyc xs) (hg : Good xs) :
    Calls Try.prog 134 #[ringV (bitsL xs)] w fun e w' => ∃ v, e = .returned v ∧ StV w' v (stepL xs) ∧ Below w.heap.size w w' := by
  have hB := bitsL_isB hc
  have h0 := bits_zero hg hc
  have hnb : bitsL (stepL xs) = rotN 1 (bitsL xs) := by
    have e := from_bits hg hc
    conv => lhs; rw [← e, step_rot hB]
    refine bits_from (rotL_isB hB) (rotL_mem.2 h0) ?_
    rw [← step_rot hB, e, stepL_sum hg.1]; exact hg.2.2
  have hl8 : (bitsL xs).length ≤ 8 := by rw [bitsL_length]; have := hL_le xs; omega
  have hcon : ∀ w, Calls Try.prog 136 #[ringV (bitsL xs), .int .i64 1] w fun e w' => e = .returned (ringV (rotN 1 (bitsL xs))) ∧ Below w.heap.size w w' := fun w => turned_any (bitsL xs) 1 w hl8 (by omega)
  rw [← hnb] at hcon
  obtain ⟨d0, d1, d2, d3, d4, d5, d6, d7, n', hr'⟩ := R9.of (bs := bitsL xs) hl8
  obtain ⟨e0, e1, e2, e3, e4, e5, e6, e7, n2, hr2⟩ := R9.of (bs := bitsL (stepL xs)) (by rw [bitsL_length]; have := hL_le (stepL xs); omega)
  rw [hr'.v, hr2.v] at hcon
  rw [hr'.v]
  have hcs := cyc_step hg hc
  have HB := Lib.hid hB; clear hB
  have H0 := Lib.hid h0; clear h0
  have Hnb := Lib.hid hnb; clear hnb
  have Hl8 := Lib.hid hl8; clear hl8
  have Hcon := Lib.hid hcon; clear hcon
  have Hr' := Lib.hid hr'; clear hr'
  have Hr2 := Lib.hid hr2; clear hr2
  have Hcs := Lib.hid hcs; clear hcs
  have Hg := Lib.hid hg; clear hg
  have Hc := Lib.hid hc; clear hc
  go_enter Try.func134, Try.ntmps134
  go_wp2_with fail
  with_reducible refine (Hcon.out _).mono ?_
  rintro e w1 ⟨rfl, hb1⟩
  go_wp2_with fail
  go_ret
  exact ⟨_, rfl, .inl ⟨Hcs.out, by rw [Hr2.out.v]; rfl⟩, belowTrans (belowAlloc _ _) hb1 (Nat.le_refl _)⟩

set_option maxHeartbeats 800000 in
theorem impl_IsCyclic (ao : Option Addr) (n cap : Nat) (xs : List Int) (w : World) (h : IntsAt w ao n cap xs) :
    Calls Try.prog 67 #[.slice ao n cap] w fun e w' => e = .returned (.tuple #[.bool (mIsCyclic xs).1, .bool (mIsCyclic xs).2]) ∧ Below w.heap.size w w' := by
  cases hg : goodB xs
  · have hm := mIsC_no hg
    have Hg := Lib.hid hg; clear hg
    have Hm := Lib.hid hm; clear hm
    go_enter Try.func67, Try.ntmps67
    go_wp2_with fail
    with_reducible refine (isPiles_no _ _ _ _ _ h Hg.out).mono ?_
    rintro e w' ⟨rfl, rfl⟩
    go_wp2
    go_ret2
    rw [Hm.out]
    exact ⟨rfl, Below.refl _ _⟩
  · have hm := mIsC_yes hg
    have hG := good_iff.1 hg
    have Hg := Lib.hid hg; clear hg
    have Hm := Lib.hid hm; clear hm
    have HG := Lib.hid hG; clear hG
    go_enter Try.func67, Try.ntmps67
    go_wp2_with fail
    with_reducible refine (isPiles_yes _ _ _ _ _ h HG.out).mono ?_
    rintro e w' ⟨rfl, rfl⟩
    go_wp2_with fail
    with_reducible refine (stateOf_any _ _ _ _ _ h HG.out).mono ?_
    rintro e w1 ⟨v, rfl, hst, hb1⟩
    rcases hst with ⟨hc, rfl⟩ | ⟨hc, a1, m1, c1, rfl, hi1⟩
    · have hcb := cyc_iff.2 hc
      have hme := mRingCyc (bitsL xs)
      have Hcb := Lib.hid hcb; clear hcb
      go_wp2_with fail
      with_reducible refine (ringCyc _ _).mono ?_
      rintro e w2 ⟨rfl, hb2⟩
      go_wp2_with fail
      go_ret2
      rw [Hm.out, Hcb.out]
      exact ⟨rfl, belowTrans hb1 hb2 (Nat.le_refl _)⟩
    · have hcb := cycBF hc
      have hme := mLooseCyc a1 m1 c1
      have Hcb := Lib.hid hcb; clear hcb
      go_wp2_with fail
      with_reducible refine (looseCyc _ _ _ _).mono ?_
      rintro e w2 ⟨rfl, rfl⟩
      go_wp2_with fail
      go_ret2
      rw [Hm.out, Hcb.out]
      exact ⟨rfl, hb1⟩

end Go.Proofs.Ytmfdimdcoeapoaa
