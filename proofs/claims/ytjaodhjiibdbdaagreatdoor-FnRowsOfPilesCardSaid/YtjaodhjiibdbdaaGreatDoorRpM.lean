/- Rows of some piles counted one by one, and rows read back from their texts: mathematics. No condition. -/
import Derived.Test.YtjaodhjiibdbdaaGreatDoorRowG
import Derived.Test.YtjaodhjiibdbdaaGreatDoorRowQ
import Derived.Test.YtjaodhjiibdbdaaGreatDoorStayM
import Derived.Test.YtjaodhjiibdbdaaGreatDoorRtM
namespace Go.Proofs.YtjaodhjiibdbdaaGreatDoor
open Go.RowKit
set_option linter.unusedVariables false
set_option linter.unusedSimpArgs false

/-- how many of the first k rows of n cards have these piles -/
def foundR (p : List Int) (n : Nat) : Nat → Nat
  | 0 => 0
  | k + 1 => foundR p n k + if isort (rowAt n k) = p then 1 else 0
theorem foundR_succ (p : List Int) (n k : Nat) : foundR p n (k + 1) = foundR p n k + if isort (rowAt n k) = p then 1 else 0 := rfl
theorem foundR_le (p : List Int) (n : Nat) : ∀ k, foundR p n k ≤ k
  | 0 => Nat.le_refl _
  | k + 1 => by have := foundR_le p n k; unfold foundR; split <;> omega
def rowsOk (n : Nat) : Bool := (allL n).all fun p => decide ((foundR p n (cntR n) : Int) = rowsR p p.length)
set_option maxRecDepth 100000 in
theorem rows_all : ∀ n, n < 11 → rowsOk n = true := by decide +kernel
theorem rows_found {p : List Int} (hg : Good p) {n : Nat} (hs : p.sum = n) (hn : n ≤ 10) : (foundR p n (cntR n) : Int) = rowsR p p.length := by
  have h := rows_all n (by omega)
  unfold rowsOk at h
  have hm := mem_allL hg
  rw [hs, Int.toNat_natCast] at hm
  exact of_decide_eq_true (List.all_eq_true.1 h p hm)

theorem dd_no45 (v : Nat) (h1 : v ≤ 28) : Lib.decDigits v ≠ [45] := by
  have key : ∀ d, d < 10 → UInt8.ofNat (48 + d) ≠ (45 : UInt8) := by decide +kernel
  by_cases h2 : v < 10
  · rw [Lib.decDigits_one h2]; intro e; injection e with e _; exact key v h2 e
  · rw [Lib.decDigits_two h2 (by omega)]; intro e; injection e with _ e; cases e
theorem joinW_no45 {xs : List Int} (h0 : xs ≠ []) (h : ∀ x ∈ xs, 1 ≤ x ∧ x ≤ 28) : joinW xs ≠ [45] := by
  intro e
  have hs := split_joinW h0 h
  rw [e, show splitL 44 [45] = [[45]] from splitL_none _ _ (by simp)] at hs
  cases xs with
  | nil => exact h0 rfl
  | cons x r =>
    injection hs with hs _
    have hx := h x List.mem_cons_self
    exact dd_no45 x.toNat (by omega) hs.symm
theorem parse_row {p : List Int} (h : rowB p = true) : mParseRow ⟨(textW p).toArray⟩ = (p, true) := by
  have hd : (⟨(textW p).toArray⟩ : ByteArray).data.toList = textW p := by simp
  by_cases h0 : p = []
  · subst h0; exact mPRow_zero (by rw [hd]; rfl)
  · have hm := fun x hx => (row_iff.1 h).mem (x := x) hx
    have e : textW p = joinW p := by unfold textW; rw [if_neg h0]
    have hz : (⟨(textW p).toArray⟩ : ByteArray).data.toList ≠ [45] := by rw [hd, e]; exact joinW_no45 h0 hm
    have ho : outW (textW p) = p := by
      unfold outW
      rw [e, split_joinW h0 hm, List.map_map]
      conv => rhs; rw [← List.map_id p]
      apply List.map_congr_left
      intro x hx
      have := hm x hx
      show readL (Lib.decDigits x.toNat) = x
      rw [read_dd _ (by omega)]
      omega
    have hr := mPRow_yes hz (by rw [hd, ho]; exact h)
    rw [hr, hd, ho]
theorem row_back {s : ByteArray} (h : (mParseRow s).2 = true) : rowB (mParseRow s).1 = true ∧ (⟨(textW (mParseRow s).1).toArray⟩ : ByteArray) = s := by
  by_cases hz : s.data.toList = [45]
  · rw [mPRow_zero hz]
    refine ⟨row_iff.2 row_nil, ?_⟩
    apply ByteArray.ext
    show (textW []).toArray = s.data
    rw [show textW [] = s.data.toList from hz.symm]
  · cases hg : rowB (outW s.data.toList)
    · rw [mPRow_no hz hg] at h; cases h
    · rw [mPRow_yes hz hg]
      refine ⟨hg, ?_⟩
      apply ByteArray.ext
      show (textW (outW s.data.toList)).toArray = s.data
      rw [outW_text hg]
theorem textW_small {xs : List Int} (h : RowOk xs) : (textW xs).length ≤ 100 := by
  have hl := h.len
  unfold textW
  split
  · simp
  · have := joinW_length (fun x hx => (h.mem hx).2) xs.length
    rw [List.take_length] at this
    omega
end Go.Proofs.YtjaodhjiibdbdaaGreatDoor
