/- What FnBankPasts calls, in one. No condition. -/
import Derived.Test.YtjaodhjiibdbdaaGreatDoorBsP
import Derived.Test.YtjaodhjiibdbdaaGreatDoorBcX
import Derived.Test.YtjaodhjiibdbdaaGreatDoorBtU
import Derived.Test.YtjaodhjiibdbdaaGreatDoorBtV
import Derived.Test.YtjaodhjiibdbdaaGreatDoorBaQ
import Derived.Test.YtjaodhjiibdbdaaGreatDoorGn
namespace Go.Proofs.YtjaodhjiibdbdaaGreatDoor
open Go.RowKit
set_option linter.unusedVariables false
set_option linter.unusedSimpArgs false
theorem mStep_yesB {b : Bk} (h : BankOk b) : mStepBank b = (stepB b, madeB b, true) := by unfold mStepBank; rw [if_pos (bank_iff.2 h)]
theorem past_ok {b : Bk} (h : BankOk b) (h14 : b.l + b.p.sum ≤ 14) : (mBankPasts b).2 = true := by unfold mBankPasts; rw [if_pos ⟨bank_iff.2 h, h14⟩]
theorem found_step {Q : List Bk} {b : Bk} {J : Nat} {f : Bool} (h : f = true ↔ ∃ t, t < J ∧ Q.getD t noBank = b) :
    (f = true → (true = true ↔ ∃ t, t < J + 1 ∧ Q.getD t noBank = b)) ∧ (f = false → (decide (Q.getD J noBank = b) = true ↔ ∃ t, t < J + 1 ∧ Q.getD t noBank = b)) := by
  refine ⟨fun q => ⟨fun _ => ?_, fun _ => rfl⟩, fun q => ⟨fun e => ⟨J, by omega, of_decide_eq_true e⟩, fun ⟨t, ht, e⟩ => ?_⟩⟩
  · obtain ⟨t, ht, e⟩ := h.1 q
    exact ⟨t, by omega, e⟩
  · by_cases htJ : t < J
    · have := h.2 ⟨t, htJ, e⟩
      rw [q] at this
      cases this
    · obtain rfl : t = J := by omega
      exact decide_eq_true e
theorem found_all {Q : List Bk} {b : Bk} {n : Nat} (h : b ∈ Q) (hn : Q.length ≤ n) : ∃ t, t < n ∧ Q.getD t noBank = b := by
  obtain ⟨i, hi, rfl⟩ := List.getElem_of_mem h
  exact ⟨i, by omega, by rw [List.getD_eq_getElem?_getD, List.getElem?_eq_getElem hi]; rfl⟩
theorem parseBank_facts (t : ByteArray) (h : (mParseBank t).2 = true) : BankOk (mParseBank t).1 ∧ (⟨(bankL (mParseBank t).1).toArray⟩ : ByteArray) = t := by
  by_cases q : ∃ b, BankOk b ∧ bankL b = t.data.toList
  · obtain ⟨b, hb, e⟩ := q
    rw [mPB_yes hb e]
    exact ⟨hb, by show (⟨(bankL b).toArray⟩ : ByteArray) = t; rw [e]⟩
  · rw [mPB_no (fun b hb e => q ⟨b, hb, e⟩)] at h
    cases h
end Go.Proofs.YtjaodhjiibdbdaaGreatDoor
