/- Chapter 2: states of plays; IsCyclic, BitsOf, FromBits, TurnBits by the program. No condition. -/
import Derived.Test.YthppkfhhidlpiaaGreatRingE
namespace Go.Proofs.YthppkfhhidlpiaaGreat
open Go.RowKit
set_option linter.unusedVariables false
set_option linter.unusedSimpArgs false
set_option maxRecDepth 20000

/-- what a play has come to: a ring, or loose piles -/
def StV (w : World) (v : Value) (xs : List Int) : Prop :=
  (Cyc xs ∧ v = .iface 79 (ringV (bitsL xs))) ∨ (¬ Cyc xs ∧ ∃ ao n c, v = .iface 114 (.slice ao n c) ∧ IntsAt w ao n c xs)
theorem StV.keep {w w' v xs} (h : StV w v xs) (hb : Below w.heap.size w w') : StV w' v xs := by
  rcases h with h | ⟨h1, ao, n, c, e, h⟩
  · exact .inl h
  · exact .inr ⟨h1, ao, n, c, e, h.keep hb⟩

set_option maxHeartbeats 800000 in
theorem stateOf_any (ao : Option Addr) (n cap : Nat) (xs : List Int) (w : World) (h : IntsAt w ao n cap xs) (hg : Good xs) :
    Calls Tryz.prog 100 #[.slice ao n cap] w fun e w' => ∃ v, e = .returned v ∧ StV w' v xs ∧ Below w.heap.size w w' := by
  have hcon := ringOf_any ao n cap xs w h hg
  by_cases hc : Cyc xs
  · have hcb := cyc_iff.2 hc
    obtain ⟨d0, d1, d2, d3, d4, d5, d6, d7, n', hr'⟩ := R9.of (bs := bitsL xs) (by rw [bitsL_length]; have := hL_le xs; omega)
    rw [ofV_yes hcb, hcb, hr'.v] at hcon
    have Hcon := Lib.hid hcon; clear hcon
    have Hc := Lib.hid hc; clear hc
    have Hcb := Lib.hid hcb; clear hcb
    have Hr' := Lib.hid hr'; clear hr'
    have Hg := Lib.hid hg; clear hg
    go_enter Tryz.func100, Tryz.ntmps100
    go_wp2_with fail
    with_reducible refine (Hcon.out).mono ?_
    rintro e w1 ⟨rfl, hb1⟩
    go_wp2_with fail
    go_ret
    exact ⟨_, rfl, .inl ⟨Hc.out, by rw [Hr'.out.v]; rfl⟩, hb1.alloc hb1.size _⟩
  · have hcb := cycBF hc
    rw [ofV_no hcb, hcb] at hcon
    unfold ring0 at hcon
    have Hcon := Lib.hid hcon; clear hcon
    have Hc := Lib.hid hc; clear hc
    have Hcb := Lib.hid hcb; clear hcb
    have Hg := Lib.hid hg; clear hg
    go_enter Tryz.func100, Tryz.ntmps100
    go_wp2_with fail
    with_reducible refine (Hcon.out).mono ?_
    rintro e w1 ⟨rfl, hb1⟩
    go_wp2_with fail
    go_ret
    exact ⟨_, rfl, .inr ⟨Hc.out, ao, n, cap, rfl, (h.keep hb1).keep (belowAlloc _ _)⟩, hb1.alloc hb1.size _⟩

/-! ### The methods -/
theorem mRingCyc (bs : List Int) (w : World) : (method 260 79 (ringV bs) "loop.example/g01114/impl.isCyclic").run Tryz.prog w = .ok (188, ringV bs) w := by
  unfold ringV; generalize ring9 _ _ _ _ _ _ _ _ _ = cs; kernel_rfl
theorem mRingNext (bs : List Int) (w : World) : (method 260 79 (ringV bs) "loop.example/g01114/impl.next").run Tryz.prog w = .ok (189, ringV bs) w := by
  unfold ringV; generalize ring9 _ _ _ _ _ _ _ _ _ = cs; kernel_rfl
theorem mRingPiles (bs : List Int) (w : World) : (method 260 79 (ringV bs) "loop.example/g01114/impl.piles").run Tryz.prog w = .ok (70, ringV bs) w := by
  unfold ringV; generalize ring9 _ _ _ _ _ _ _ _ _ = cs; kernel_rfl
theorem mLooseCyc (ao : Option Addr) (n c : Nat) (w : World) : (method 260 114 (.slice ao n c) "loop.example/g01114/impl.isCyclic").run Tryz.prog w = .ok (190, .slice ao n c) w := by kernel_rfl
theorem mLooseNext (ao : Option Addr) (n c : Nat) (w : World) : (method 260 114 (.slice ao n c) "loop.example/g01114/impl.next").run Tryz.prog w = .ok (191, .slice ao n c) w := by kernel_rfl
theorem mLoosePiles (ao : Option Addr) (n c : Nat) (w : World) : (method 260 114 (.slice ao n c) "loop.example/g01114/impl.piles").run Tryz.prog w = .ok (192, .slice ao n c) w := by kernel_rfl

theorem ringCyc (bs : List Int) (w : World) : Calls Tryz.prog 188 #[ringV bs] w fun e w' => e = .returned (.bool true) ∧ Below w.heap.size w w' := by
  unfold ringV ring9
  go_enter Tryz.func188, Tryz.ntmps188
  go_wp2_with fail
  go_ret
  exact ⟨rfl, belowAlloc _ _⟩
theorem looseCyc (ao : Option Addr) (n c : Nat) (w : World) : Calls Tryz.prog 190 #[.slice ao n c] w fun e w' => e = .returned (.bool false) ∧ w = w' := by
  go_enter Tryz.func190, Tryz.ntmps190
  go_wp2_with fail
  go_ret
  exact ⟨rfl, rfl⟩
set_option maxHeartbeats 800000 in
theorem loosePiles_any (ao : Option Addr) (n c : Nat) (xs : List Int) (w : World) (h : IntsAt w ao n c xs) (hn : n ≤ 1048576) :
    Calls Tryz.prog 192 #[.slice ao n c] w fun e w' => ∃ ao' n' cap', e = .returned (.slice ao' n' cap') ∧ Own w.heap.size w'.heap.size w' ao' n' cap' xs ∧ Below w.heap.size w w' := by
  have hcon := copyOf_any ao n c xs w h hn
  have Hcon := Lib.hid hcon; clear hcon
  go_enter Tryz.func192, Tryz.ntmps192
  go_wp2_with fail
  with_reducible refine (Hcon.out).mono ?_
  rintro e w1 ⟨a1, c1, rfl, ho1, hb1⟩
  go_wp2_with fail
  go_ret
  exact ⟨_, _, _, rfl, ho1, hb1⟩
set_option maxHeartbeats 800000 in
theorem looseNext_any (ao : Option Addr) (n c : Nat) (xs : List Int) (w : World) (h : IntsAt w ao n c xs) (hg : Good xs) :
    Calls Tryz.prog 191 #[.slice ao n c] w fun e w' => ∃ v, e = .returned v ∧ StV w' v (stepL xs) ∧ Below w.heap.size w w' := by
  have hcon := stepOf_any ao n c xs w h hg
  have hG := stepL_good hg
  have Hcon := Lib.hid hcon; clear hcon
  have HG := Lib.hid hG; clear hG
  have Hg := Lib.hid hg; clear hg
  go_enter Tryz.func191, Tryz.ntmps191
  go_wp2_with fail
  with_reducible refine (Hcon.out).mono ?_
  rintro e w1 ⟨a1, m1, c1, rfl, ho1, hb1⟩
  go_wp2_with fail
  with_reducible refine (stateOf_any _ _ _ _ _ ho1.at HG.out).mono ?_
  rintro e w2 ⟨v, rfl, hst, hb2⟩
  go_wp2_with fail
  go_ret
  exact ⟨_, rfl, hst, belowTrans hb1 hb2 (Nat.le_refl _)⟩
set_option maxHeartbeats 800000 in
theorem ringNext_any (xs : List Int) (w : World) (hc : Cyc xs) (hg : Good xs) :
    Calls Tryz.prog 189 #[ringV (bitsL xs)] w fun e w' => ∃ v, e = .returned v ∧ StV w' v (stepL xs) ∧ Below w.heap.size w w' := by
  have hB := bitsL_isB hc
  have h0 := bits_zero hg hc
  have hnb : bitsL (stepL xs) = rotN 1 (bitsL xs) := by
    have e := from_bits hg hc
    conv => lhs; rw [← e, step_rot hB]
    refine bits_from (rotL_isB hB) (rotL_mem.2 h0) ?_
    rw [← step_rot hB, e, stepL_sum hg.1]; exact hg.2.2
  have hl8 : (bitsL xs).length ≤ 8 := by rw [bitsL_length]; have := hL_le xs; omega
  have hcon : ∀ w, Calls Tryz.prog 69 #[ringV (bitsL xs), .int .i64 1] w fun e w' => e = .returned (ringV (rotN 1 (bitsL xs))) ∧ Below w.heap.size w w' := fun w => turned_any (bitsL xs) 1 w hl8 (by omega)
  rw [← hnb] at hcon
  obtain ⟨d0, d1, d2, d3, d4, d5, d6, d7, n', hr'⟩ := R9.of (bs := bitsL xs) hl8
  obtain ⟨e0, e1, e2, e3, e4, e5, e6, e7, n2, hr2⟩ := R9.of (bs := bitsL (stepL xs)) (by rw [bitsL_length]; have := hL_le (stepL xs); omega)
  rw [hr'.v, hr2.v] at hcon
  rw [hr'.v]
  have hcs := cyc_step hg hc
  have HB := Lib.hid hB; clear hB
  have H0 := Lib.hid h0; clear h0
  have Hnb := Lib.hid hnb; clear hnb
  have Hl8 := Lib.hid hl8; clear hl8
  have Hcon := Lib.hid hcon; clear hcon
  have Hr' := Lib.hid hr'; clear hr'
  have Hr2 := Lib.hid hr2; clear hr2
  have Hcs := Lib.hid hcs; clear hcs
  have Hg := Lib.hid hg; clear hg
  have Hc := Lib.hid hc; clear hc
  go_enter Tryz.func189, Tryz.ntmps189
  go_wp2_with fail
  with_reducible refine (Hcon.out _).mono ?_
  rintro e w1 ⟨rfl, hb1⟩
  go_wp2_with fail
  go_ret
  exact ⟨_, rfl, .inl ⟨Hcs.out, by rw [Hr2.out.v]; rfl⟩, belowTrans (belowAlloc _ _) hb1 (Nat.le_refl _)⟩

set_option maxHeartbeats 800000 in
theorem impl_IsCyclic (ao : Option Addr) (n cap : Nat) (xs : List Int) (w : World) (h : IntsAt w ao n cap xs) :
    Calls Tryz.prog 80 #[.slice ao n cap] w fun e w' => e = .returned (.tuple #[.bool (mIsCyclic xs).1, .bool (mIsCyclic xs).2]) ∧ Below w.heap.size w w' := by
  cases hg : goodB xs
  · have hm := mIsC_no hg
    have Hg := Lib.hid hg; clear hg
    have Hm := Lib.hid hm; clear hm
    go_enter Tryz.func80, Tryz.ntmps80
    go_wp2_with fail
    with_reducible refine (isPiles_no _ _ _ _ _ h Hg.out).mono ?_
    rintro e w' ⟨rfl, rfl⟩
    go_wp2
    go_ret2
    rw [Hm.out]
    exact ⟨rfl, Below.refl _ _⟩
  · have hm := mIsC_yes hg
    have hG := good_iff.1 hg
    have Hg := Lib.hid hg; clear hg
    have Hm := Lib.hid hm; clear hm
    have HG := Lib.hid hG; clear hG
    go_enter Tryz.func80, Tryz.ntmps80
    go_wp2_with fail
    with_reducible refine (isPiles_yes _ _ _ _ _ h HG.out).mono ?_
    rintro e w' ⟨rfl, rfl⟩
    go_wp2_with fail
    with_reducible refine (stateOf_any _ _ _ _ _ h HG.out).mono ?_
    rintro e w1 ⟨v, rfl, hst, hb1⟩
    rcases hst with ⟨hc, rfl⟩ | ⟨hc, a1, m1, c1, rfl, hi1⟩
    · have hcb := cyc_iff.2 hc
      have hme := mRingCyc (bitsL xs)
      have Hcb := Lib.hid hcb; clear hcb
      go_wp2_with fail
      with_reducible refine (ringCyc _ _).mono ?_
      rintro e w2 ⟨rfl, hb2⟩
      go_wp2_with fail
      go_ret2
      rw [Hm.out, Hcb.out]
      exact ⟨rfl, belowTrans hb1 hb2 (Nat.le_refl _)⟩
    · have hcb := cycBF hc
      have hme := mLooseCyc a1 m1 c1
      have Hcb := Lib.hid hcb; clear hcb
      go_wp2_with fail
      with_reducible refine (looseCyc _ _ _ _).mono ?_
      rintro e w2 ⟨rfl, rfl⟩
      go_wp2_with fail
      go_ret2
      rw [Hm.out, Hcb.out]
      exact ⟨rfl, hb1⟩

set_option maxHeartbeats 800000 in
theorem impl_BitsOf (ao : Option Addr) (n cap : Nat) (xs : List Int) (w : World) (h : IntsAt w ao n cap xs) :
    Calls Tryz.prog 22 #[.slice ao n cap] w fun e w' => ∃ ao' n' cap', e = .returned (.tuple #[.slice ao' n' cap', .bool (mBitsOf xs).2]) ∧ Own w.heap.size w'.heap.size w' ao' n' cap' (mBitsOf xs).1 ∧ Below w.heap.size w w' := by
  cases hg : goodB xs
  · have hm := mBits_no1 hg
    have Hg := Lib.hid hg; clear hg
    have Hm := Lib.hid hm; clear hm
    go_enter Tryz.func22, Tryz.ntmps22
    go_wp2_with fail
    with_reducible refine (isPiles_no _ _ _ _ _ h Hg.out).mono ?_
    rintro e w' ⟨rfl, rfl⟩
    go_wp2
    go_ret2
    rw [Hm.out]
    exact ⟨none, 0, 0, rfl, Own.nil _ _ _, Below.refl _ _⟩
  have hG := good_iff.1 hg
  have hcon := ringOf_any ao n cap xs w h hG
  cases hc : cycB xs
  · rw [ofV_no hc, hc] at hcon
    unfold ring0 at hcon
    have hm := mBits_no2 hc
    have Hg := Lib.hid hg; clear hg
    have Hm := Lib.hid hm; clear hm
    have HG := Lib.hid hG; clear hG
    have Hc := Lib.hid hc; clear hc
    have Hcon := Lib.hid hcon; clear hcon
    go_enter Tryz.func22, Tryz.ntmps22
    go_wp2_with fail
    with_reducible refine (isPiles_yes _ _ _ _ _ h HG.out).mono ?_
    rintro e w' ⟨rfl, rfl⟩
    go_wp2_with fail
    with_reducible refine (Hcon.out).mono ?_
    rintro e w1 ⟨rfl, hb1⟩
    go_wp2_with fail
    go_ret2
    rw [Hm.out]
    exact ⟨none, 0, 0, rfl, Own.nil _ _ _, hb1.alloc hb1.size _⟩
  · obtain ⟨d0, d1, d2, d3, d4, d5, d6, d7, n', hr'⟩ := R9.of (bs := bitsL xs) (by rw [bitsL_length]; have := hL_le xs; omega)
    rw [ofV_yes hc, hc, hr'.v] at hcon
    have hm := mBits_yes hg hc
    have Hg := Lib.hid hg; clear hg
    have Hm := Lib.hid hm; clear hm
    have HG := Lib.hid hG; clear hG
    have Hc := Lib.hid hc; clear hc
    have Hcon := Lib.hid hcon; clear hcon
    have Hr' := Lib.hid hr'; clear hr'
    go_enter Tryz.func22, Tryz.ntmps22
    go_wp2_with fail
    with_reducible refine (isPiles_yes _ _ _ _ _ h HG.out).mono ?_
    rintro e w' ⟨rfl, rfl⟩
    go_wp2_with fail
    with_reducible refine (Hcon.out).mono ?_
    rintro e w1 ⟨rfl, hb1⟩
    go_wp2_with fail
    with_reducible refine (Hr'.out.list _).mono ?_
    rintro e w2 ⟨a2, c2, rfl, ho2, hb2⟩
    go_wp2_with fail
    go_ret2
    rw [Hm.out]
    have hb3 := hb1.alloc hb1.size (.cells #[.int .i64 d0, .int .i64 d1, .int .i64 d2, .int .i64 d3, .int .i64 d4, .int .i64 d5, .int .i64 d6, .int .i64 d7, .int .i64 n'] 79)
    exact ⟨_, _, _, rfl, ho2.mono hb3.size (Nat.le_refl _), belowTrans hb3 hb2 (Nat.le_refl _)⟩

set_option maxHeartbeats 800000 in
theorem impl_FromBits (ao : Option Addr) (n cap : Nat) (bs : List Int) (w : World) (h : IntsAt w ao n cap bs) :
    Calls Tryz.prog 26 #[.slice ao n cap] w fun e w' => ∃ ao' n' cap', e = .returned (.tuple #[.slice ao' n' cap', .bool (mFromBits bs).2]) ∧ Own w.heap.size w'.heap.size w' ao' n' cap' (mFromBits bs).1 ∧ Below w.heap.size w w' := by
  have hcon := ringWith_any ao n cap bs w h
  cases hb : bitsB bs
  · rw [withV_no hb, hb] at hcon
    unfold ring0 at hcon
    have hm := mFrom_no1 hb
    have Hb := Lib.hid hb; clear hb
    have Hm := Lib.hid hm; clear hm
    have Hcon := Lib.hid hcon; clear hcon
    go_enter Tryz.func26, Tryz.ntmps26
    go_wp2_with fail
    with_reducible refine (Hcon.out).mono ?_
    rintro e w1 ⟨rfl, hb1⟩
    go_wp2_with fail
    go_ret2
    rw [Hm.out]
    exact ⟨none, 0, 0, rfl, Own.nil _ _ _, hb1.alloc hb1.size _⟩
  · have hB := bits_iff.1 hb
    have hpi := fun w => piles_any bs w hB.isB hB.1.2
    obtain ⟨d0, d1, d2, d3, d4, d5, d6, d7, n', hr'⟩ := R9.of (bs := bs) hB.1.2
    rw [withV_yes hb, hb, hr'.v] at hcon
    rw [hr'.v] at hpi
    cases hg : goodB (fromB bs)
    · have hm := mFrom_no2 hg
      have Hb := Lib.hid hb; clear hb
      have Hm := Lib.hid hm; clear hm
      have Hcon := Lib.hid hcon; clear hcon
      have HB := Lib.hid hB; clear hB
      have Hpi := Lib.hid hpi; clear hpi
      have Hr' := Lib.hid hr'; clear hr'
      have Hg := Lib.hid hg; clear hg
      go_enter Tryz.func26, Tryz.ntmps26
      go_wp2_with fail
      with_reducible refine (Hcon.out).mono ?_
      rintro e w1 ⟨rfl, hb1⟩
      go_wp2_with fail
      with_reducible refine (Hpi.out _).mono ?_
      rintro e w2 ⟨a2, m2, c2, rfl, ho2, hb2⟩
      have hb3 := belowTrans (hb1.alloc hb1.size (.cells #[.int .i64 d0, .int .i64 d1, .int .i64 d2, .int .i64 d3, .int .i64 d4, .int .i64 d5, .int .i64 d6, .int .i64 d7, .int .i64 n'] 79)) hb2 (Nat.le_refl _)
      go_wp2_with fail
      with_reducible refine (isPiles_no _ _ _ _ _ ho2.at Hg.out).mono ?_
      rintro e w' ⟨rfl, rfl⟩
      go_wp2_with fail
      go_ret2
      rw [Hm.out]
      exact ⟨none, 0, 0, rfl, Own.nil _ _ _, hb3⟩
    · have hm := mFrom_yes hb hg
      have hG := good_iff.1 hg
      have Hb := Lib.hid hb; clear hb
      have Hm := Lib.hid hm; clear hm
      have Hcon := Lib.hid hcon; clear hcon
      have HB := Lib.hid hB; clear hB
      have Hpi := Lib.hid hpi; clear hpi
      have Hr' := Lib.hid hr'; clear hr'
      have Hg := Lib.hid hg; clear hg
      have HG := Lib.hid hG; clear hG
      go_enter Tryz.func26, Tryz.ntmps26
      go_wp2_with fail
      with_reducible refine (Hcon.out).mono ?_
      rintro e w1 ⟨rfl, hb1⟩
      go_wp2_with fail
      with_reducible refine (Hpi.out _).mono ?_
      rintro e w2 ⟨a2, m2, c2, rfl, ho2, hb2⟩
      have hb4 := hb1.alloc hb1.size (.cells #[.int .i64 d0, .int .i64 d1, .int .i64 d2, .int .i64 d3, .int .i64 d4, .int .i64 d5, .int .i64 d6, .int .i64 d7, .int .i64 n'] 79)
      have hb3 := belowTrans hb4 hb2 (Nat.le_refl _)
      have ho3 := ho2.mono hb4.size (Nat.le_refl _)
      clear ho2 hb2 hb4
      go_wp2_with fail
      with_reducible refine (isPiles_yes _ _ _ _ _ ho3.at HG.out).mono ?_
      rintro e w' ⟨rfl, rfl⟩
      go_wp2_with fail
      go_ret2
      rw [Hm.out]
      exact ⟨_, _, _, rfl, ho3, hb3⟩

set_option maxHeartbeats 800000 in
theorem impl_TurnBits (ao : Option Addr) (n cap : Nat) (bs : List Int) (b : Int) (w : World) (h : IntsAt w ao n cap bs) :
    Calls Tryz.prog 24 #[.slice ao n cap, .int .i64 b] w fun e w' => ∃ ao' n' cap', e = .returned (.tuple #[.slice ao' n' cap', .bool (mTurnBits bs b).2]) ∧ Own w.heap.size w'.heap.size w' ao' n' cap' (mTurnBits bs b).1 ∧ Below w.heap.size w w' := by
  have hcon := ringWith_any ao n cap bs w h
  cases hb : bitsB bs
  · rw [withV_no hb, hb] at hcon
    unfold ring0 at hcon
    have hm := mTurn_no1 (b := b) hb
    have Hb := Lib.hid hb; clear hb
    have Hm := Lib.hid hm; clear hm
    have Hcon := Lib.hid hcon; clear hcon
    go_enter Tryz.func24, Tryz.ntmps24
    go_wp2_with fail
    with_reducible refine (Hcon.out).mono ?_
    rintro e w1 ⟨rfl, hb1⟩
    go_wp2_with fail
    go_ret2
    rw [Hm.out]
    exact ⟨none, 0, 0, rfl, Own.nil _ _ _, hb1.alloc hb1.size _⟩
  · have hB := bits_iff.1 hb
    obtain ⟨d0, d1, d2, d3, d4, d5, d6, d7, n', hr'⟩ := R9.of (bs := bs) hB.1.2
    rw [withV_yes hb, hb, hr'.v] at hcon
    by_cases hk : 0 ≤ b ∧ b ≤ 1000
    · obtain ⟨q, rfl⟩ := Int.eq_ofNat_of_zero_le hk.1
      have hq : q ≤ 1000 := by omega
      have hm := mTurn_yes hb hq
      have hrl : (rotN q bs).length ≤ 8 := by rw [rotN_length]; exact hB.1.2
      have htu := fun w => turned_any bs q w hB.1.2 hq
      obtain ⟨e0, e1, e2, e3, e4, e5, e6, e7, n2, hr2⟩ := R9.of (bs := rotN q bs) hrl
      rw [hr'.v, hr2.v] at htu
      have Hb := Lib.hid hb; clear hb
      have Hm := Lib.hid hm; clear hm
      have Hcon := Lib.hid hcon; clear hcon
      have HB := Lib.hid hB; clear hB
      have Hr' := Lib.hid hr'; clear hr'
      have Hr2 := Lib.hid hr2; clear hr2
      have Htu := Lib.hid htu; clear htu
      have Hk := Lib.hid hk; clear hk
      have Hrl := Lib.hid hrl; clear hrl
      go_enter Tryz.func24, Tryz.ntmps24
      go_wp2_with fail
      with_reducible refine (Hcon.out).mono ?_
      rintro e w1 ⟨rfl, hb1⟩
      go_wp2_with fail
      with_reducible refine (inRange_yes _ _ _ Hk.out).mono ?_
      rintro e w' ⟨rfl, rfl⟩
      go_wp2_with fail
      with_reducible refine (Htu.out _).mono ?_
      rintro e w2 ⟨rfl, hb2⟩
      have hb3 := belowTrans (hb1.alloc hb1.size (.cells #[.int .i64 d0, .int .i64 d1, .int .i64 d2, .int .i64 d3, .int .i64 d4, .int .i64 d5, .int .i64 d6, .int .i64 d7, .int .i64 n'] 79)) hb2 (Nat.le_refl _)
      go_wp2_with fail
      with_reducible refine (Hr2.out.list _).mono ?_
      rintro e w3 ⟨a3, c3, rfl, ho3, hb4⟩
      go_wp2_with fail
      go_ret2
      rw [Hm.out]
      exact ⟨_, _, _, rfl, ho3.mono hb3.size (Nat.le_refl _), belowTrans hb3 hb4 (Nat.le_refl _)⟩
    · have hm := mTurn_no2 (bs := bs) hk
      have Hb := Lib.hid hb; clear hb
      have Hm := Lib.hid hm; clear hm
      have Hcon := Lib.hid hcon; clear hcon
      have HB := Lib.hid hB; clear hB
      have Hr' := Lib.hid hr'; clear hr'
      have Hk := Lib.hid hk; clear hk
      go_enter Tryz.func24, Tryz.ntmps24
      go_wp2_with fail
      with_reducible refine (Hcon.out).mono ?_
      rintro e w1 ⟨rfl, hb1⟩
      go_wp2_with fail
      with_reducible refine (inRange_no _ _ _ Hk.out).mono ?_
      rintro e w' ⟨rfl, rfl⟩
      go_wp2_with fail
      go_ret2
      rw [Hm.out]
      exact ⟨none, 0, 0, rfl, Own.nil _ _ _, hb1.alloc hb1.size _⟩
end Go.Proofs.YthppkfhhidlpiaaGreat
