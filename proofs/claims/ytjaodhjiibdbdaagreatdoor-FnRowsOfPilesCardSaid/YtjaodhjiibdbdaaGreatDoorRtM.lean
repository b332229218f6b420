/- Texts of rows in mathematics: what the model and the program come to. No condition. -/
import Derived.Test.YtjaodhjiibdbdaaGreatDoorGj
namespace Go.Proofs.YtjaodhjiibdbdaaGreatDoor
open Go.RowKit
set_option linter.unusedVariables false
set_option linter.unusedSimpArgs false

theorem dd_no44 (v : Nat) (h : v ≤ 28) : (44 : UInt8) ∉ Lib.decDigits v := by
  have key : ∀ d, d < 10 → (44 : UInt8) ≠ UInt8.ofNat (48 + d) := by decide +kernel
  by_cases h1 : v < 10
  · rw [Lib.decDigits_one h1]; simpa using key v h1
  · rw [Lib.decDigits_two h1 (by omega)]
    simp only [List.mem_cons, List.mem_nil_iff, or_false, not_or]
    exact ⟨key _ (by omega), key _ (by omega)⟩
def joinW (xs : List Int) : List UInt8 := Lib.join (xs.map dd) [44]
theorem joinW_snoc (xs : List Int) (x : Int) : joinW (xs ++ [x]) = if xs = [] then dd x else joinW xs ++ [44] ++ dd x := by
  unfold joinW
  rw [List.map_append]
  by_cases h : xs = []
  · subst h; rw [if_pos rfl]; simp [Lib.join_one]
  · rw [if_neg h]; exact join_snoc _ _ _ (by simpa using h)
theorem joinW_length {xs : List Int} (h : ∀ x ∈ xs, x ≤ 28) (k : Nat) : (joinW (xs.take k)).length ≤ 3 * k := by
  induction k with
  | zero => simp [joinW, Lib.join_nil]
  | succ k ih =>
    by_cases hk : k < xs.length
    · have e : xs.take (k + 1) = xs.take k ++ [xs[k]] := by rw [List.take_add_one, List.getElem?_eq_getElem hk]; rfl
      have hd := dd_length xs[k] (h _ (List.getElem_mem hk))
      rw [e, joinW_snoc]
      split
      · omega
      · simp only [List.length_append, List.length_singleton]; omega
    · rw [List.take_of_length_le (by omega)]
      rw [List.take_of_length_le (by omega)] at ih
      omega
def textW (xs : List Int) : List UInt8 := if xs = [] then [45] else joinW xs
theorem jnL_textW {xs : List Int} (h : ∀ x ∈ xs, 0 ≤ x) : jnL 44 [45] xs = textW xs := by
  unfold jnL textW joinW
  have : xs.map Lib.itoa = xs.map dd := List.map_congr_left fun x hx => itoa_dd (h x hx)
  rw [this]
def mRowText (xs : List Int) : List UInt8 × Bool := (if rowB xs then textW xs else [], rowB xs)
theorem mRText_yes {xs : List Int} (h : rowB xs = true) : mRowText xs = (textW xs, true) := by unfold mRowText; rw [h]; rfl
theorem mRText_no {xs : List Int} (h : rowB xs = false) : mRowText xs = ([], false) := by unfold mRowText; rw [h]; rfl
theorem split_joinW {xs : List Int} (h0 : xs ≠ []) (h : ∀ x ∈ xs, 1 ≤ x ∧ x ≤ 28) : splitL 44 (joinW xs) = xs.map dd := by
  unfold joinW
  induction xs with
  | nil => exact absurd rfl h0
  | cons x r ih =>
    have hx := h x (by simp)
    have hno : (44 : UInt8) ∉ dd x := dd_no44 x.toNat (by omega)
    cases r with
    | nil => simp only [List.map_cons, List.map_nil, Lib.join_one]; exact splitL_none _ _ hno
    | cons y r =>
      have := ih (by simp) (fun z hz => h z (by simp [hz]))
      have e : Lib.join ((x :: y :: r).map dd) [44] = dd x ++ 44 :: Lib.join ((y :: r).map dd) [44] := by
        simp only [List.map_cons]
        rw [Lib.join_cons, Lib.join_cons]
        simp [Lib.joinTail]
      rw [e, splitL_app _ _ _ hno, this]
      rfl
def outW (l : List UInt8) : List Int := (splitL 44 l).map readL
def mParseRow (s : ByteArray) : List Int × Bool := if s.data.toList = [45] then ([], true) else if rowB (outW s.data.toList) then (outW s.data.toList, true) else ([], false)
theorem mParseRow_bound (s : ByteArray) : (mParseRow s).1.length ≤ 1048576 := by
  unfold mParseRow
  split
  · simp
  · split
    · next h => have := (row_iff.1 h).len; show (outW s.data.toList).length ≤ _; omega
    · simp
theorem outW_mem {l w : List UInt8} (hg : rowB (outW l) = true) (hw : w ∈ splitL 44 l) : 1 ≤ readL w ∧ readL w ≤ 28 := (row_iff.1 hg).mem (List.mem_map_of_mem hw)
theorem outW_text {l : List UInt8} (hg : rowB (outW l) = true) : textW (outW l) = l := by
  have hne : outW l ≠ [] := fun e => splitL_ne 44 l (by simpa [outW] using e)
  unfold textW
  rw [if_neg hne]
  unfold joinW
  have : (outW l).map dd = splitL 44 l := by
    unfold outW
    rw [List.map_map]
    conv => rhs; rw [← List.map_id (splitL 44 l)]
    apply List.map_congr_left
    intro w hw
    have := outW_mem hg hw
    exact (readL_small w this.1 this.2).symm
  rw [this]
  exact join_split 44 l
theorem vals_outW {l : List UInt8} {vals : List Int} (hlen : vals.length = (splitL 44 l).length) (hv : ∀ i, i < vals.length → Lib.atoiAll ((splitL 44 l).getD i []) = .ok (vals.getD i 0)) :
    (rowB vals = true ∧ textW vals = l) ↔ (rowB (outW l) = true ∧ vals = outW l) := by
  have hne : vals ≠ [] := fun e => splitL_ne 44 l (by rw [e] at hlen; exact List.eq_nil_of_length_eq_zero hlen.symm)
  constructor
  · rintro ⟨hg, ht⟩
    have hm := fun x hx => (row_iff.1 hg).mem (x := x) hx
    have : outW l = vals := by
      unfold textW at ht
      rw [if_neg hne] at ht
      unfold outW
      rw [← ht, split_joinW hne hm, List.map_map]
      conv => rhs; rw [← List.map_id vals]
      apply List.map_congr_left
      intro x hx
      have := hm x hx
      show readL (Lib.decDigits x.toNat) = x
      rw [read_dd _ (by omega)]
      omega
    exact ⟨by rw [this]; exact hg, this.symm⟩
  · rintro ⟨hg, rfl⟩
    exact ⟨hg, outW_text hg⟩
theorem vals_eqW {l : List UInt8} {vals : List Int} (hlen : vals.length = (splitL 44 l).length) (hv : ∀ i, i < vals.length → Lib.atoiAll ((splitL 44 l).getD i []) = .ok (vals.getD i 0)) (hg : rowB (outW l) = true) : vals = outW l := by
  apply List.ext_getElem
  · rw [hlen]; simp [outW]
  · intro i h1 h2
    have := hv i h1
    have hi : i < (splitL 44 l).length := by omega
    rw [List.getD_eq_getElem?_getD, List.getElem?_eq_getElem hi, List.getD_eq_getElem?_getD, List.getElem?_eq_getElem h1] at this
    simp only [Option.getD_some] at this
    have hw := outW_mem hg (List.getElem_mem hi)
    rw [atoi_word hw.1 hw.2] at this
    simp only [outW, List.getElem_map]
    injection this with h
    exact h.symm
theorem mPRow_zero {s : ByteArray} (h : s.data.toList = [45]) : mParseRow s = ([], true) := by unfold mParseRow; rw [if_pos h]
theorem mPRow_yes {s : ByteArray} (h : s.data.toList ≠ [45]) (hg : rowB (outW s.data.toList) = true) : mParseRow s = (outW s.data.toList, true) := by unfold mParseRow; rw [if_neg h, if_pos hg]
theorem mPRow_no {s : ByteArray} (h : s.data.toList ≠ [45]) (hg : rowB (outW s.data.toList) = false) : mParseRow s = ([], false) := by unfold mParseRow; rw [if_neg h, if_neg (by rw [hg]; simp)]
theorem mPRow_bad {s : ByteArray} {k : Nat} (hz : s.data.toList ≠ [45]) (hk : k < (splitL 44 s.data.toList).length) (h : ∀ v, Lib.atoiAll ((splitL 44 s.data.toList).getD k []) ≠ .ok v) : mParseRow s = ([], false) := by
  refine mPRow_no hz ?_
  cases hg : rowB (outW s.data.toList)
  · rfl
  · have hw := outW_mem hg (List.getElem_mem hk)
    exact absurd (atoi_word hw.1 hw.2) (by rw [List.getD_eq_getElem?_getD, List.getElem?_eq_getElem hk] at h; exact h _)
theorem mPRow_vals {s : ByteArray} {vals : List Int} (hz : s.data.toList ≠ [45]) (hlen : vals.length = (splitL 44 s.data.toList).length) (hv : ∀ i, i < vals.length → Lib.atoiAll ((splitL 44 s.data.toList).getD i []) = .ok (vals.getD i 0)) :
    (rowB vals = false → mParseRow s = ([], false)) ∧ (rowB vals = true → textW vals ≠ s.data.toList → mParseRow s = ([], false)) ∧ (rowB vals = true → textW vals = s.data.toList → mParseRow s = (vals, true)) := by
  refine ⟨fun hg => mPRow_no hz ?_, fun hg ht => mPRow_no hz ?_, fun hg ht => ?_⟩
  · cases ho : rowB (outW s.data.toList)
    · rfl
    · rw [vals_eqW hlen hv ho, ho] at hg; cases hg
  · cases ho : rowB (outW s.data.toList)
    · rfl
    · exact absurd (by rw [vals_eqW hlen hv ho]; exact outW_text ho) ht
  · obtain ⟨h1, h2⟩ := (vals_outW hlen hv).1 ⟨hg, ht⟩
    rw [h2]; exact mPRow_yes hz h1
theorem row_of_split {s : ByteArray} {vals : List Int} {b : Bool} (h : SplitIs 44 [45] s.data.toList vals b) :
    (b = false → mParseRow s = ([], false)) ∧ (b = true → rowB vals = false → mParseRow s = ([], false)) ∧ (b = true → rowB vals = true → mParseRow s = (vals, true)) := by
  rcases h with ⟨h1, rfl, rfl⟩ | ⟨hz, ⟨rfl, rfl, k, hk, hno⟩ | ⟨hlen, hok, rfl⟩⟩
  · exact ⟨fun h => (by cases h), fun _ h => absurd (row_iff.2 row_nil) (by rw [h]; simp), fun _ _ => mPRow_zero h1⟩
  · exact ⟨fun _ => mPRow_bad hz hk hno, fun h => (by cases h), fun h => (by cases h)⟩
  · obtain ⟨h1, h2, h3⟩ := mPRow_vals hz hlen hok
    refine ⟨fun h => ?_, fun _ hg => h1 hg, fun h hg => ?_⟩
    · cases hg : rowB vals
      · exact h1 hg
      · rw [decide_eq_false_iff_not, jnL_textW (fun x hx => by have := (row_iff.1 hg).mem hx; omega)] at h
        exact h2 hg h
    · rw [decide_eq_true_iff, jnL_textW (fun x hx => by have := (row_iff.1 hg).mem hx; omega)] at h
      exact h3 hg h
end Go.Proofs.YtjaodhjiibdbdaaGreatDoor
