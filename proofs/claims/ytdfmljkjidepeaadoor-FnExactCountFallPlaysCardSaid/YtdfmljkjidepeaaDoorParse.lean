/- Texts of piles that are read: what the model and the program come to; the model's functions. No condition but sizes. -/
import Derived.Test.YtdfmljkjidepeaaDoorText
import Derived.Test.YtdfmljkjidepeaaDoorParseM
import Derived.Lib.Join
namespace Go.Proofs.YtdfmljkjidepeaaDoor
open Go.RowKit
set_option linter.unusedVariables false
set_option linter.unusedSimpArgs false

theorem split_join {xs : List Int} (h0 : xs ≠ []) (h : ∀ x ∈ xs, 1 ≤ x ∧ x ≤ 28) : splitL 43 (joinL xs) = xs.map dd := by
  unfold joinL
  induction xs with
  | nil => exact absurd rfl h0
  | cons x r ih =>
    have hx := h x (by simp)
    have hno : (43 : UInt8) ∉ dd x := dd_no43 x.toNat (by omega)
    cases r with
    | nil => simp only [List.map_cons, List.map_nil, Lib.join_one]; exact splitL_none _ _ hno
    | cons y r =>
      have := ih (by simp) (fun z hz => h z (by simp [hz]))
      have e : Lib.join ((x :: y :: r).map dd) [43] = dd x ++ 43 :: Lib.join ((y :: r).map dd) [43] := by
        simp only [List.map_cons]
        rw [Lib.join_cons, Lib.join_cons]
        simp [Lib.joinTail]
      rw [e, splitL_app _ _ _ hno, this]
      rfl
theorem join_split (b : UInt8) (l : List UInt8) : Lib.join (splitL b l) [b] = l := by
  induction l with
  | nil => simp [splitL, Lib.join_one]
  | cons c l ih =>
    unfold splitL
    cases hs : splitL b l with
    | nil => exact absurd hs (splitL_ne b l)
    | cons h t =>
      rw [hs, Lib.join_cons] at ih
      by_cases hc : c = b
      · rw [if_pos hc, Lib.join_cons]
        simp only [Lib.joinTail, List.map_cons, List.flatten_cons, List.nil_append] at ih ⊢
        rw [hc, List.append_assoc, ih]
        rfl
      · rw [if_neg hc, Lib.join_cons, List.cons_append, ih]

def outL (l : List UInt8) : List Int := (splitL 43 l).map readL
def mParsePiles (s : ByteArray) : List Int × Bool := if s.data.toList = [48] then ([], true) else if goodB (outL s.data.toList) then (outL s.data.toList, true) else ([], false)
theorem mParsePiles_bound (s : ByteArray) : (mParsePiles s).1.length ≤ 1048576 := by
  unfold mParsePiles
  split
  · simp
  · split
    · next h => have := (good_iff.1 h).len; show (outL s.data.toList).length ≤ _; omega
    · simp
/-- how Atoi ends at a word whose number is one of piles -/
theorem atoi_word {w : List UInt8} (h1 : 1 ≤ readL w) (h2 : readL w ≤ 28) : Lib.atoiAll w = .ok (readL w) := by
  have e := readL_small w h1 h2
  have := atoi_dd (readL w).toNat (by omega)
  rw [← e] at this
  rw [this]
  congr 1
  omega
theorem outL_mem {l w : List UInt8} (hg : goodB (outL l) = true) (hw : w ∈ splitL 43 l) : 1 ≤ readL w ∧ readL w ≤ 28 := (good_iff.1 hg).mem (List.mem_map_of_mem hw)
theorem outL_text {l : List UInt8} (hg : goodB (outL l) = true) : textL (outL l) = l := by
  have hne : outL l ≠ [] := fun e => splitL_ne 43 l (by simpa [outL] using e)
  unfold textL
  rw [if_neg hne]
  unfold joinL
  have : (outL l).map dd = splitL 43 l := by
    unfold outL
    rw [List.map_map]
    conv => rhs; rw [← List.map_id (splitL 43 l)]
    apply List.map_congr_left
    intro w hw
    have := outL_mem hg hw
    exact (readL_small w this.1 this.2).symm
  rw [this]
  exact join_split 43 l
/-- what the program finds is what the model finds -/
theorem vals_out {l : List UInt8} {vals : List Int} (hlen : vals.length = (splitL 43 l).length) (hv : ∀ i, i < vals.length → Lib.atoiAll ((splitL 43 l).getD i []) = .ok (vals.getD i 0)) :
    (goodB vals = true ∧ textL vals = l) ↔ (goodB (outL l) = true ∧ vals = outL l) := by
  have hne : vals ≠ [] := fun e => splitL_ne 43 l (by rw [e] at hlen; exact List.eq_nil_of_length_eq_zero hlen.symm)
  constructor
  · rintro ⟨hg, ht⟩
    have hm := fun x hx => (good_iff.1 hg).mem (x := x) hx
    have : outL l = vals := by
      unfold textL at ht
      rw [if_neg hne] at ht
      unfold outL
      rw [← ht, split_join hne hm, List.map_map]
      conv => rhs; rw [← List.map_id vals]
      apply List.map_congr_left
      intro x hx
      have := hm x hx
      show readL (Lib.decDigits x.toNat) = x
      rw [read_dd _ (by omega)]
      omega
    exact ⟨by rw [this]; exact hg, this.symm⟩
  · rintro ⟨hg, rfl⟩
    exact ⟨hg, outL_text hg⟩
theorem vals_eq {l : List UInt8} {vals : List Int} (hlen : vals.length = (splitL 43 l).length) (hv : ∀ i, i < vals.length → Lib.atoiAll ((splitL 43 l).getD i []) = .ok (vals.getD i 0)) (hg : goodB (outL l) = true) : vals = outL l := by
  apply List.ext_getElem
  · rw [hlen]; simp [outL]
  · intro i h1 h2
    have := hv i h1
    have hi : i < (splitL 43 l).length := by omega
    rw [List.getD_eq_getElem?_getD, List.getElem?_eq_getElem hi, List.getD_eq_getElem?_getD, List.getElem?_eq_getElem h1] at this
    simp only [Option.getD_some] at this
    have hw := outL_mem hg (List.getElem_mem hi)
    rw [atoi_word hw.1 hw.2] at this
    simp only [outL, List.getElem_map]
    injection this with h
    exact h.symm

theorem data_get (s : ByteArray) (k : Nat) (h : k < s.size) : s.data.toList[k]? = some s[k] := by
  rw [List.getElem?_eq_getElem (by simpa using h)]; rfl
theorem take_data (s : ByteArray) (k : Nat) (h : k < s.size) : s.data.toList.take (k + 1) = s.data.toList.take k ++ [s[k]] := by
  rw [List.take_add_one, data_get s k h]; rfl

end Go.Proofs.YtdfmljkjidepeaaDoor
