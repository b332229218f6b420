/- Chapter 2: tails and cycles by the program. No condition. -/
import Derived.Test.YtbneibpakopllaaTail
import Derived.Test.YtbneibpakopllaaGt
namespace Go.Proofs.Ytbneibpakopllaa
open Go.RowKit
set_option linter.unusedVariables false
set_option linter.unusedSimpArgs false
set_option maxRecDepth 20000

theorem tail_least {xs : List Int} (hg : Good xs) {j : Nat} (h : ∀ i, i < j → ¬ Cyc (stepsL i xs)) : j ≤ tailL xs :=
  Nat.le_of_not_lt fun hl => h _ hl (tailL_spec hg).2.1

set_option maxHeartbeats 800000 in
theorem runToCycle_any (ao : Option Addr) (n cap : Nat) (xs : List Int) (w : World) (h : IntsAt w ao n cap xs) (hg : Good xs) :
    Calls Try.prog 132 #[.slice ao n cap] w fun e w' => e = .returned (.tuple #[.iface 138 (ringV (bitsL (endL xs))), .int .i64 (tailL xs)]) ∧ Below w.heap.size w w' := by
  have hcon := stateOf_any ao n cap xs w h hg
  have Hcon := Lib.hid hcon; clear hcon
  have Hg := Lib.hid hg; clear hg
  go_enter Try.func132, Try.ntmps132
  go_wp2_with fail
  with_reducible refine (Hcon.out).mono ?_
  rintro e w1 ⟨v, rfl, hst, hb1⟩
  go_wp2_with fail
  go_loopw [4, 5] (fun s t wr => ∃ (j : Nat), t = .int .i64 j ∧ StV wr s (stepsL j xs) ∧ (∀ i, i < j → ¬ Cyc (stepsL i xs)) ∧ Below w.heap.size w wr) (fun _ t _ => 3719 - (intOf t).toNat)
  case atStart => exact ⟨0, rfl, hst, fun i hi => by omega, hb1⟩
  case round =>
    obtain ⟨j, rfl, hst2, hno, hb⟩ := hrel
    have hG := stepsL_good Hg.out j
    have hjt := tail_least Hg.out hno
    have htl := (tailL_spec Hg.out).1
    rcases hst2 with ⟨hc, rfl⟩ | ⟨hc, a2, m2, c2, rfl, hi2⟩
    · have hj : tailL xs = j := tailL_unique Hg.out hc hno
      have hme := mRingCyc (bitsL (stepsL j xs))
      have HG := Lib.hid hG; clear hG
      have Hc := Lib.hid hc; clear hc
      have Hno := Lib.hid hno; clear hno
      have Hj := Lib.hid hj; clear hj
      clear hjt
      go_wp2_with fail
      with_reducible refine (ringCyc _ _).mono ?_
      rintro e w2 ⟨rfl, hb2⟩
      go_wp2_with fail
      go_ret2
      unfold endL
      rw [Hj.out]
      exact ⟨rfl, belowTrans hb hb2 (Nat.le_refl _)⟩
    · have hno2 : ∀ i, i < j + 1 → ¬ Cyc (stepsL i xs) := fun i hi => by
        by_cases e : i = j
        · subst e; exact hc
        · exact hno i (by omega)
      have hjt2 := tail_least Hg.out hno2
      have hme := mLooseCyc a2 m2 c2
      have hmn := mLooseNext a2 m2 c2
      have HG := Lib.hid hG; clear hG
      have Hc := Lib.hid hc; clear hc
      have Hno := Lib.hid hno; clear hno
      have Hno2 := Lib.hid hno2; clear hno2
      go_wp2_with fail
      with_reducible refine (looseCyc _ _ _ _).mono ?_
      rintro e w2 ⟨rfl, rfl⟩
      go_wp2_with fail
      with_reducible refine (looseNext_any _ _ _ _ _ hi2 HG.out).mono ?_
      rintro e w3 ⟨v3, rfl, hst3, hb3⟩
      go_wp2_with fail
      go_roundw
      case rel => exact ⟨j + 1, valI (by omega), hst3, Hno2.out, belowTrans hb hb3 (Nat.le_refl _)⟩
      case measure => simp [intOf]; omega

set_option maxHeartbeats 800000 in
theorem impl_TailOf (ao : Option Addr) (n cap : Nat) (xs : List Int) (w : World) (h : IntsAt w ao n cap xs) :
    Calls Try.prog 83 #[.slice ao n cap] w fun e w' => e = .returned (.tuple #[.int .i64 (mTailOf xs).1, .bool (mTailOf xs).2]) ∧ Below w.heap.size w w' := by
  cases hg : goodB xs
  · have hm := mTail_no hg
    have Hg := Lib.hid hg; clear hg
    have Hm := Lib.hid hm; clear hm
    go_enter Try.func83, Try.ntmps83
    go_wp2_with fail
    with_reducible refine (isPiles_no _ _ _ _ _ h Hg.out).mono ?_
    rintro e w' ⟨rfl, rfl⟩
    go_wp2
    go_ret2
    rw [Hm.out]
    exact ⟨rfl, Below.refl _ _⟩
  · have hm := mTail_yes hg
    have hG := good_iff.1 hg
    have Hg := Lib.hid hg; clear hg
    have Hm := Lib.hid hm; clear hm
    have HG := Lib.hid hG; clear hG
    go_enter Try.func83, Try.ntmps83
    go_wp2_with fail
    with_reducible refine (isPiles_yes _ _ _ _ _ h HG.out).mono ?_
    rintro e w' ⟨rfl, rfl⟩
    go_wp2_with fail
    with_reducible refine (runToCycle_any _ _ _ _ _ h HG.out).mono ?_
    rintro e w1 ⟨rfl, hb1⟩
    go_wp2_with fail
    go_ret2
    rw [Hm.out]
    exact ⟨rfl, hb1⟩

theorem ringNext_of (xs : List Int) (w : World) (hc : Cyc xs) (hg : Good xs) :
    Calls Try.prog 193 #[ringV (bitsL xs)] w fun e w' => e = .returned (.iface 138 (ringV (bitsL (stepL xs)))) ∧ Below w.heap.size w w' := by
  refine (ringNext_any xs w hc hg).mono ?_
  rintro e w' ⟨v, rfl, hst, hb⟩
  rcases hst with ⟨_, rfl⟩ | ⟨hn, _⟩
  · exact ⟨rfl, hb⟩
  · exact absurd (cyc_step hg hc) hn

theorem equal_yes (ao bo : Option Addr) (n m cap cap' : Nat) (xs ys : List Int) (w : World) (hx : IntsAt w ao n cap xs) (hy : IntsAt w bo m cap' ys) (h : xs = ys) :
    Calls Try.prog 124 #[.slice ao n cap, .slice bo m cap'] w fun e w' => e = .returned (.bool true) ∧ Below w.heap.size w w' :=
  (equal_any ao bo n m cap cap' xs ys w hx hy).mono fun e w' ⟨a, q, b⟩ => ⟨by rw [a, decide_eq_true h], b ▸ belowDrewN (Below.refl _ _) q⟩
theorem equal_no (ao bo : Option Addr) (n m cap cap' : Nat) (xs ys : List Int) (w : World) (hx : IntsAt w ao n cap xs) (hy : IntsAt w bo m cap' ys) (h : ¬ xs = ys) :
    Calls Try.prog 124 #[.slice ao n cap, .slice bo m cap'] w fun e w' => e = .returned (.bool false) ∧ Below w.heap.size w w' :=
  (equal_any ao bo n m cap cap' xs ys w hx hy).mono fun e w' ⟨a, q, b⟩ => ⟨by rw [a, decide_eq_false h], b ▸ belowDrewN (Below.refl _ _) q⟩

end Go.Proofs.Ytbneibpakopllaa
