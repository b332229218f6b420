/- What FnBankOrbits calls, in one, and the facts of an orbit. No condition. -/
import Derived.Test.YtnebfojnbjbogaaDoorBrM
import Derived.Test.YtnebfojnbjbogaaDoorBoX
import Derived.Test.YtnebfojnbjbogaaDoorBaE
import Derived.Test.YtnebfojnbjbogaaDoorBaK
import Derived.Test.YtnebfojnbjbogaaDoorBaQ
import Derived.Test.YtnebfojnbjbogaaDoorBrD
namespace Go.Proofs.YtnebfojnbjbogaaDoor
open Go.RowKit
set_option linter.unusedVariables false
set_option linter.unusedSimpArgs false
theorem mStep_yesB {b : Bk} (h : BankOk b) : mStepBank b = (stepB b, madeB b, true) := by unfold mStepBank; rw [if_pos (bank_iff.2 h)]
theorem mSteps_yesB {b : Bk} (h : BankOk b) {k : Nat} (hk : k ≤ 1000) : mBankSteps b k = (stepsB k b, true) := by
  unfold mBankSteps
  rw [if_pos ⟨bank_iff.2 h, by omega, by omega⟩, Int.toNat_natCast]
theorem mNewP_yesB {b : Bk} (h : BankOk b) {k : Nat} (hk : k ≤ 1000) : mNewPiles b k = (newL b k, true) := by
  unfold mNewPiles
  rw [if_pos ⟨bank_iff.2 h, by omega, by omega⟩, Int.toNat_natCast]
theorem mSteps_predB {b : Bk} (h : BankOk b) {k : Nat} (h0 : 0 < k) (hk : k ≤ 1000) : mBankSteps b ((k : Int) - 1) = (stepsB (k - 1) b, true) := by
  rw [show (k : Int) - 1 = ((k - 1 : Nat) : Int) by omega]
  exact mSteps_yesB h (by omega)
/-! ### Another bank state is laid into a block -/
theorem own_set3 {w : World} {g : Nat} {h l : Int} {a : Option Addr} {n c : Nat} {B : Nat} {a' : Option Addr} {n' c' : Nat} {xs : List Int} (hb : Blk w g h l a n c 26) (ho : Own B w.heap.size w a' n' c' xs) (h2 l2 : Int) (a2 : Option Addr) (n2 c2 : Nat) :
    Own B (((w.setCell ⟨g, 0, none⟩ (.int .i64 h2)).setCell ⟨g, 1, none⟩ (.int .i64 l2)).setCell ⟨g, 2, none⟩ (.slice a2 n2 c2)).heap.size (((w.setCell ⟨g, 0, none⟩ (.int .i64 h2)).setCell ⟨g, 1, none⟩ (.int .i64 l2)).setCell ⟨g, 2, none⟩ (.slice a2 n2 c2)) a' n' c' xs := by
  have hne := fun k q => hb.apartOwn ho (k := k) q
  have e1 := chgCell w g 0 (.int .i64 h2)
  have e2 := chgCell (w.setCell ⟨g, 0, none⟩ (.int .i64 h2)) g 1 (.int .i64 l2)
  have e3 := chgCell ((w.setCell ⟨g, 0, none⟩ (.int .i64 h2)).setCell ⟨g, 1, none⟩ (.int .i64 l2)) g 2 (.slice a2 n2 c2)
  have := ho.chg ((e1.trans e2).trans e3) (fun k _ _ q e => hne k q e)
  simpa using this
theorem below_set3 {B : Nat} {w w' : World} {b : Nat} (hb : Below B w w') (hB : B ≤ b) (h2 l2 : Int) (a2 : Option Addr) (n2 c2 : Nat) :
    Below B w (((w'.setCell ⟨b, 0, none⟩ (.int .i64 h2)).setCell ⟨b, 1, none⟩ (.int .i64 l2)).setCell ⟨b, 2, none⟩ (.slice a2 n2 c2)) :=
  ((hb.setCell (p := ⟨b, 0, none⟩) hB _).setCell (p := ⟨b, 1, none⟩) hB _).setCell (p := ⟨b, 2, none⟩) hB _
theorem xSum_big (ao : Option Addr) (n cap : Nat) (xs : List Int) (w : World) (h : IntsAt w ao n cap xs) (hn28 : n ≤ 1000) (hg : ∀ x, x ∈ xs → 0 ≤ x ∧ x ≤ 28) :
    Calls Tryd.prog 14 #[.slice ao n cap] w fun e w' => e = .returned (.int .i64 xs.sum) ∧ w = w' := by
  have hn := h.lenInt
  go_enter Tryd.func14, Tryd.ntmps14
  go_wp2
  go_loop [3, 8] (fun s i => ∃ k : Nat, ∃ t : Int, k ≤ n ∧ i = .int .i64 k ∧ s = .int .i64 t ∧ (xs.take k).sum = t ∧ 0 ≤ t ∧ t ≤ 28 * k) (fun _ i => n - (intOf i).toNat)
  case atStart => exact ⟨0, 0, Nat.zero_le _, rfl, rfl, rfl, by omega, by omega⟩
  case round =>
    obtain ⟨k, t, hk, rfl, rfl, ht, ht0, ht1⟩ := hrel
    have Ht := Lib.hid ht; clear ht
    by_cases hlt : k < n
    · obtain ⟨b, o, rfl, hb, hc⟩ := h.cell k hlt
      have hck := hc k hlt
      clear hc
      generalize hx : xs.getD k 0 = x at hck
      have Hx := Lib.hid hx; clear hx
      have hm := hg _ (getD_mem Hx.out hlt h.length)
      have e := take_snoc Hx.out hlt h.length
      have e2 : (xs.take (k + 1)).sum = t + x := by rw [e, List.sum_append, Ht.out]; simp
      have E2 := Lib.hid e2; clear e2
      have Hg := Lib.hid hg; clear hg
      clear e h
      go_wp2
      go_round
      case rel => exact ⟨k + 1, t + x, by omega, by go_num, rfl, E2.out, by omega, by omega⟩
      case measure => simp [intOf]; omega
    · go_wp2
      go_ret
      obtain rfl : n = k := by omega
      have hh := Ht.out
      rw [take_all h.length] at hh
      exact ⟨by first | rfl | (rw [hh]; rfl), rfl⟩
/-- what is known of a told orbit -/
theorem orbit_facts {b : Bk} (h : (mBankOrbit b).2.2 = true) : ∃ I L : Nat, BankOk b ∧ mBankOrbit b = ((I : Int), (L : Int), true) ∧ 1 ≤ L ∧ I + L ≤ 1000 ∧
    stepsB L (stepsB I b) = stepsB I b ∧ (∀ i, 0 < i → i < L → stepsB i (stepsB I b) ≠ stepsB I b) ∧ (0 < I → stepsB (I - 1) b ≠ stepsB (L - 1) (stepsB I b)) := by
  by_cases hk : BankOk b
  · rw [mOrbit_yes hk] at h ⊢
    obtain ⟨i, M, h1, h2, h3, h4, h5⟩ := orb_foundB h
    refine ⟨i, M - i, hk, ?_, by omega, by omega, ?_, fun j hj1 hj2 e => ?_, fun hi e => ?_⟩
    · rw [h3]
      have : ((M - i : Nat) : Int) = (M : Int) - i := by omega
      rw [this]
    · rw [← stepsB_plus, show M - i + i = M by omega]
      exact h4.symm
    · rw [← stepsB_plus] at e
      exact h5 (j + i) (by omega) i (by omega) e.symm
    · rw [← stepsB_plus] at e
      exact h5 (M - i - 1 + i) (by omega) (i - 1) (by omega) e
  · rw [mOrbit_no hk] at h
    cases h
theorem cyclic_fact {b : Bk} {I L : Nat} (h : mBankOrbit b = ((I : Int), (L : Int), true)) : mIsCyclicBank b = (((I : Int) == 0), true) := by
  unfold mIsCyclicBank
  rw [h]
  have e : decide (((I : Int), (L : Int), true).2.2 = true ∧ ((I : Int), (L : Int), true).1 = 0) = ((I : Int) == 0) := by
    rw [Bool.eq_iff_iff]
    simp
  rw [e]
/-- the cards that are taken around the cycle: as many as the new piles have -/
theorem taken_round {b : Bk} (hk : BankOk b) {L : Nat} (h : stepsB L b = b) : takenB b L = b.h * (newL b L).sum := by
  have := takenB_made hk L
  rw [h] at this
  omega
end Go.Proofs.YtnebfojnbjbogaaDoor
