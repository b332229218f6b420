/- Several texts in one: ParseM, Parse, DdM. No condition. -/
import Derived.Lib.Split
import Derived.Lib.SplitLaws
import Derived.Lib.CountLaws
import Derived.Lib.AtoiAll
import Derived.Lib.ItoaNum
import Derived.Test.YtdfmljkjidepeaaGreatDoorText
import Derived.Lib.Join
namespace Go.Proofs.YtdfmljkjidepeaaGreatDoor
section
set_option linter.unusedVariables false
set_option linter.unusedSimpArgs false

/-- the parts between the bytes b -/
def splitL (b : UInt8) : List UInt8 → List (List UInt8)
  | [] => [[]]
  | c :: l => if c = b then [] :: splitL b l else match splitL b l with
    | [] => [[c]]
    | h :: t => (c :: h) :: t
theorem splitL_ne (b : UInt8) (l : List UInt8) : splitL b l ≠ [] := by
  cases l with
  | nil => simp [splitL]
  | cons c l => unfold splitL; split; simp; split <;> simp
theorem splitL_app (b : UInt8) (w r : List UInt8) (h : b ∉ w) : splitL b (w ++ b :: r) = w :: splitL b r := by
  induction w with
  | nil => simp [splitL]
  | cons c w ih =>
    have hc : ¬ c = b := fun e => h (by simp [e])
    have := ih (fun hm => h (by simp [hm]))
    simp only [List.cons_append, splitL, if_neg hc, this]
theorem splitL_none (b : UInt8) (w : List UInt8) (h : b ∉ w) : splitL b w = [w] := by
  induction w with
  | nil => rfl
  | cons c w ih =>
    have hc : ¬ c = b := fun e => h (by simp [e])
    simp only [splitL, if_neg hc, ih (fun hm => h (by simp [hm]))]
theorem splitL_length (b : UInt8) (l : List UInt8) : (splitL b l).length = l.count b + 1 := by
  induction l with
  | nil => rfl
  | cons c l ih =>
    unfold splitL
    by_cases hc : c = b
    · rw [if_pos hc, List.length_cons, ih, hc, List.count_cons_self]
    · rw [if_neg hc, List.count_cons_of_ne hc]
      cases hs : splitL b l with
      | nil => exact absurd hs (splitL_ne b l)
      | cons h t => rw [hs] at ih; simpa using ih

theorem first_b (b : UInt8) (l : List UInt8) (h : b ∈ l) : ∃ w r, l = w ++ b :: r ∧ b ∉ w := by
  induction l with
  | nil => cases h
  | cons c l ih =>
    by_cases hc : c = b
    · exact ⟨[], l, by simp [hc], by simp⟩
    · have : b ∈ l := by
        rcases List.mem_cons.1 h with e | e
        · exact absurd e.symm hc
        · exact e
      obtain ⟨w, r, rfl, hw⟩ := ih this
      exact ⟨c :: w, r, rfl, fun hm => by
        rcases List.mem_cons.1 hm with e | e
        · exact hc e.symm
        · exact hw e⟩
theorem occ_false (b : UInt8) (l : List UInt8) (j : Nat) (h : l[j]? ≠ some b) : Lib.occAt l [b] j = false := by
  cases ho : Lib.occAt l [b] j
  · rfl
  · exact absurd (Lib.occAt_head rfl ho) h
theorem index_split (b : UInt8) (w r : List UInt8) (h : b ∉ w) : Lib.index (w ++ b :: r) [b] = w.length := by
  refine Lib.index_first (by simp) ?_ (fun j hj => occ_false b _ j fun e => ?_)
  · unfold Lib.occAt
    rw [List.drop_left']
    · simp
    · rfl
  · rw [List.getElem?_append_left hj] at e
    exact h (List.mem_of_getElem? e)
theorem index_miss (b : UInt8) (l : List UInt8) (h : b ∉ l) : Lib.index l [b] = -1 :=
  Lib.index_none fun j _ => occ_false b l j fun e => h (List.mem_of_getElem? e)
theorem splitK_eq (b : UInt8) (k : Nat) : ∀ l : List UInt8, l.count b ≤ k → Lib.splitK [b] 0 k l = splitL b l := by
  induction k with
  | zero =>
    intro l h
    rw [splitL_none b l (List.count_eq_zero.1 (by omega))]
    rfl
  | succ k ih =>
    intro l h
    by_cases hm : b ∈ l
    · obtain ⟨w, r, rfl, hw⟩ := first_b b l hm
      have hc : r.count b ≤ k := by
        rw [List.count_append, List.count_cons_self] at h
        omega
      unfold Lib.splitK
      rw [index_split b w r hw, if_neg (by simp), splitL_app b w r hw]
      have hd : (w ++ b :: r).drop (w.length + 1) = r := by
        rw [← List.singleton_append, ← List.append_assoc, List.drop_left' (by simp)]
      simp only [Int.toNat_natCast, Nat.add_zero, List.take_left, List.length_singleton, hd, ih r hc]
    · unfold Lib.splitK
      rw [index_miss b l hm, if_pos (by simp), splitL_none b l hm]

/-! ### Numbers that are read -/
def isDig (c : UInt8) : Prop := 48 ≤ c.toNat ∧ c.toNat ≤ 57
instance (c : UInt8) : Decidable (isDig c) := by unfold isDig; infer_instance
def numV (w : List UInt8) : Nat := w.foldl (fun n c => 10 * n + (c.toNat - 48)) 0
theorem numV_snoc (w : List UInt8) (c : UInt8) : numV (w ++ [c]) = 10 * numV w + (c.toNat - 48) := by unfold numV; rw [List.foldl_append]; rfl
def ReadOk (w : List UInt8) : Prop := 1 ≤ w.length ∧ w.length ≤ 6 ∧ ¬ (w.getD 0 0 = 48 ∧ 1 < w.length) ∧ ∀ c ∈ w, isDig c
instance (w : List UInt8) : Decidable (ReadOk w) := by unfold ReadOk; infer_instance
def readL (w : List UInt8) : Int := if ReadOk w then (numV w : Int) else -1
theorem numV_lt (w : List UInt8) (h : ∀ c ∈ w, isDig c) : numV w < 10 ^ w.length := by
  have gen : ∀ (r : List UInt8) (n : Nat), (∀ c ∈ r, isDig c) → r.foldl (fun n c => 10 * n + (c.toNat - 48)) n < (n + 1) * 10 ^ r.length := by
    intro r
    induction r with
    | nil => intro n _; simp
    | cons c r ih =>
      intro n hd
      have hc := hd c (by simp)
      have := ih (10 * n + (c.toNat - 48)) (fun x hx => hd x (by simp [hx]))
      simp only [List.foldl_cons, List.length_cons, Nat.pow_succ]
      refine Nat.lt_of_lt_of_le this ?_
      have h1 : 10 * n + (c.toNat - 48) + 1 ≤ (n + 1) * 10 := by unfold isDig at hc; omega
      calc (10 * n + (c.toNat - 48) + 1) * 10 ^ r.length ≤ ((n + 1) * 10) * 10 ^ r.length := Nat.mul_le_mul_right _ h1
        _ = (n + 1) * (10 ^ r.length * 10) := by rw [Nat.mul_assoc, Nat.mul_comm 10]
  have := gen w 0 h
  simpa [numV] using this
theorem readL_bounds (w : List UInt8) : -1 ≤ readL w ∧ readL w ≤ 999999 := by
  unfold readL
  split
  · next h =>
    have := numV_lt w h.2.2.2
    have h6 : 10 ^ w.length ≤ 10 ^ 6 := Nat.pow_le_pow_right (by omega) h.2.1
    omega
  · omega
theorem dig_eq (c : UInt8) (h : isDig c) : c = UInt8.ofNat (48 + (c.toNat - 48)) := by
  unfold isDig at h
  apply UInt8.toNat_inj.1
  rw [UInt8.toNat_ofNat']
  omega
/-- a small number that is read is written so -/
theorem readL_small (w : List UInt8) (h1 : 1 ≤ readL w) (h2 : readL w ≤ 28) : w = Lib.decDigits (readL w).toNat := by
  unfold readL at h1 h2 ⊢
  split at h1
  · next h =>
    rw [if_pos h] at h2 ⊢
    obtain ⟨l1, l6, hz, hd⟩ := h
    simp only [Int.toNat_natCast]
    match w, l1, l6, hz, hd, h1, h2 with
    | [c], _, _, _, hd, h1, h2 =>
      have hc := hd c (by simp)
      have hv : numV [c] = c.toNat - 48 := by simp [numV]
      rw [hv] at h2 ⊢
      unfold isDig at hc
      rw [Lib.decDigits_one (by omega), ← dig_eq c hc]
    | [c, d], _, _, hz, hd, h1, h2 =>
      have hc := hd c (by simp); have hdd := hd d (by simp)
      have hv : numV [c, d] = 10 * (c.toNat - 48) + (d.toNat - 48) := by simp [numV]
      rw [hv] at h2 ⊢
      have hc0 : c.toNat ≠ 48 := fun e => hz ⟨UInt8.toNat_inj.1 (by simpa using e), by simp⟩
      have hc' := hc; have hd' := hdd
      unfold isDig at hc' hd'
      rw [Lib.decDigits_two (by omega) (by omega), show (10 * (c.toNat - 48) + (d.toNat - 48)) / 10 = c.toNat - 48 by omega, show (10 * (c.toNat - 48) + (d.toNat - 48)) % 10 = d.toNat - 48 by omega, ← dig_eq c hc, ← dig_eq d hdd]
    | c :: d :: e :: r, _, _, hz, hd, h1, h2 =>
      exfalso
      have hc := hd c (by simp)
      unfold isDig at hc
      have hc0 : c.toNat ≠ 48 := fun e => hz ⟨UInt8.toNat_inj.1 (by simpa using e), by simp⟩
      have mono : ∀ (l : List UInt8) (n : Nat), n ≤ l.foldl (fun n c => 10 * n + (c.toNat - 48)) n := by
        intro l
        induction l with
        | nil => intro n; exact Nat.le_refl _
        | cons x l ih => intro n; exact Nat.le_trans (show n ≤ 10 * n + (x.toNat - 48) by omega) (ih _)
      have := mono r (10 * (10 * (10 * 0 + (c.toNat - 48)) + (d.toNat - 48)) + (e.toNat - 48))
      have hv : numV (c :: d :: e :: r) = r.foldl (fun n c => 10 * n + (c.toNat - 48)) (10 * (10 * (10 * 0 + (c.toNat - 48)) + (d.toNat - 48)) + (e.toNat - 48)) := rfl
      rw [← hv] at this
      omega
  · omega

def okIs (l : List UInt8) (v : Nat) : Bool := match Lib.atoiAll l with
  | .ok u => u == (v : Int)
  | _ => false
theorem okIs_one : ∀ v, v < 10 → okIs [UInt8.ofNat (48 + v)] v = true := by decide +kernel
theorem okIs_two : ∀ v, v < 29 → 10 ≤ v → okIs [UInt8.ofNat (48 + v / 10), UInt8.ofNat (48 + v % 10)] v = true := by decide +kernel
theorem okIs_eq {l : List UInt8} {v : Nat} (h : okIs l v = true) : Lib.atoiAll l = .ok (v : Int) := by
  unfold okIs at h
  split at h
  · next u hu => rw [hu]; congr 1; simpa using h
  · cases h
theorem atoi_dd (v : Nat) (h : v ≤ 28) : Lib.atoiAll (Lib.decDigits v) = .ok (v : Int) := by
  by_cases h1 : v < 10
  · rw [Lib.decDigits_one h1]; exact okIs_eq (okIs_one v h1)
  · rw [Lib.decDigits_two h1 (by omega)]; exact okIs_eq (okIs_two v (by omega) (by omega))
def readIs (l : List UInt8) (v : Nat) : Bool := decide (readL l = (v : Int))
theorem readIs_one : ∀ v, v < 10 → readIs [UInt8.ofNat (48 + v)] v = true := by decide +kernel
theorem readIs_two : ∀ v, v < 29 → 10 ≤ v → readIs [UInt8.ofNat (48 + v / 10), UInt8.ofNat (48 + v % 10)] v = true := by decide +kernel
theorem read_dd (v : Nat) (h : v ≤ 28) : readL (Lib.decDigits v) = v := by
  by_cases h1 : v < 10
  · rw [Lib.decDigits_one h1]; exact of_decide_eq_true (readIs_one v h1)
  · rw [Lib.decDigits_two h1 (by omega)]; exact of_decide_eq_true (readIs_two v (by omega) (by omega))
theorem dd_no43 (v : Nat) (h : v ≤ 28) : (43 : UInt8) ∉ Lib.decDigits v := by
  have key : ∀ d, d < 10 → (43 : UInt8) ≠ UInt8.ofNat (48 + d) := by decide +kernel
  by_cases h1 : v < 10
  · rw [Lib.decDigits_one h1]; simpa using key v h1
  · rw [Lib.decDigits_two h1 (by omega)]
    simp only [List.mem_cons, List.mem_nil_iff, or_false, not_or]
    exact ⟨key _ (by omega), key _ (by omega)⟩
end
end Go.Proofs.YtdfmljkjidepeaaGreatDoor
namespace Go.Proofs.YtdfmljkjidepeaaGreatDoor
section
open Go.RowKit
set_option linter.unusedVariables false
set_option linter.unusedSimpArgs false

theorem split_join {xs : List Int} (h0 : xs ≠ []) (h : ∀ x ∈ xs, 1 ≤ x ∧ x ≤ 28) : splitL 43 (joinL xs) = xs.map dd := by
  unfold joinL
  induction xs with
  | nil => exact absurd rfl h0
  | cons x r ih =>
    have hx := h x (by simp)
    have hno : (43 : UInt8) ∉ dd x := dd_no43 x.toNat (by omega)
    cases r with
    | nil => simp only [List.map_cons, List.map_nil, Lib.join_one]; exact splitL_none _ _ hno
    | cons y r =>
      have := ih (by simp) (fun z hz => h z (by simp [hz]))
      have e : Lib.join ((x :: y :: r).map dd) [43] = dd x ++ 43 :: Lib.join ((y :: r).map dd) [43] := by
        simp only [List.map_cons]
        rw [Lib.join_cons, Lib.join_cons]
        simp [Lib.joinTail]
      rw [e, splitL_app _ _ _ hno, this]
      rfl
theorem join_split (b : UInt8) (l : List UInt8) : Lib.join (splitL b l) [b] = l := by
  induction l with
  | nil => simp [splitL, Lib.join_one]
  | cons c l ih =>
    unfold splitL
    cases hs : splitL b l with
    | nil => exact absurd hs (splitL_ne b l)
    | cons h t =>
      rw [hs, Lib.join_cons] at ih
      by_cases hc : c = b
      · rw [if_pos hc, Lib.join_cons]
        simp only [Lib.joinTail, List.map_cons, List.flatten_cons, List.nil_append] at ih ⊢
        rw [hc, List.append_assoc, ih]
        rfl
      · rw [if_neg hc, Lib.join_cons, List.cons_append, ih]

def outL (l : List UInt8) : List Int := (splitL 43 l).map readL
def mParsePiles (s : ByteArray) : List Int × Bool := if s.data.toList = [48] then ([], true) else if goodB (outL s.data.toList) then (outL s.data.toList, true) else ([], false)
theorem mParsePiles_bound (s : ByteArray) : (mParsePiles s).1.length ≤ 1048576 := by
  unfold mParsePiles
  split
  · simp
  · split
    · next h => have := (good_iff.1 h).len; show (outL s.data.toList).length ≤ _; omega
    · simp
/-- how Atoi ends at a word whose number is one of piles -/
theorem atoi_word {w : List UInt8} (h1 : 1 ≤ readL w) (h2 : readL w ≤ 28) : Lib.atoiAll w = .ok (readL w) := by
  have e := readL_small w h1 h2
  have := atoi_dd (readL w).toNat (by omega)
  rw [← e] at this
  rw [this]
  congr 1
  omega
theorem outL_mem {l w : List UInt8} (hg : goodB (outL l) = true) (hw : w ∈ splitL 43 l) : 1 ≤ readL w ∧ readL w ≤ 28 := (good_iff.1 hg).mem (List.mem_map_of_mem hw)
theorem outL_text {l : List UInt8} (hg : goodB (outL l) = true) : textL (outL l) = l := by
  have hne : outL l ≠ [] := fun e => splitL_ne 43 l (by simpa [outL] using e)
  unfold textL
  rw [if_neg hne]
  unfold joinL
  have : (outL l).map dd = splitL 43 l := by
    unfold outL
    rw [List.map_map]
    conv => rhs; rw [← List.map_id (splitL 43 l)]
    apply List.map_congr_left
    intro w hw
    have := outL_mem hg hw
    exact (readL_small w this.1 this.2).symm
  rw [this]
  exact join_split 43 l
/-- what the program finds is what the model finds -/
theorem vals_out {l : List UInt8} {vals : List Int} (hlen : vals.length = (splitL 43 l).length) (hv : ∀ i, i < vals.length → Lib.atoiAll ((splitL 43 l).getD i []) = .ok (vals.getD i 0)) :
    (goodB vals = true ∧ textL vals = l) ↔ (goodB (outL l) = true ∧ vals = outL l) := by
  have hne : vals ≠ [] := fun e => splitL_ne 43 l (by rw [e] at hlen; exact List.eq_nil_of_length_eq_zero hlen.symm)
  constructor
  · rintro ⟨hg, ht⟩
    have hm := fun x hx => (good_iff.1 hg).mem (x := x) hx
    have : outL l = vals := by
      unfold textL at ht
      rw [if_neg hne] at ht
      unfold outL
      rw [← ht, split_join hne hm, List.map_map]
      conv => rhs; rw [← List.map_id vals]
      apply List.map_congr_left
      intro x hx
      have := hm x hx
      show readL (Lib.decDigits x.toNat) = x
      rw [read_dd _ (by omega)]
      omega
    exact ⟨by rw [this]; exact hg, this.symm⟩
  · rintro ⟨hg, rfl⟩
    exact ⟨hg, outL_text hg⟩
theorem vals_eq {l : List UInt8} {vals : List Int} (hlen : vals.length = (splitL 43 l).length) (hv : ∀ i, i < vals.length → Lib.atoiAll ((splitL 43 l).getD i []) = .ok (vals.getD i 0)) (hg : goodB (outL l) = true) : vals = outL l := by
  apply List.ext_getElem
  · rw [hlen]; simp [outL]
  · intro i h1 h2
    have := hv i h1
    have hi : i < (splitL 43 l).length := by omega
    rw [List.getD_eq_getElem?_getD, List.getElem?_eq_getElem hi, List.getD_eq_getElem?_getD, List.getElem?_eq_getElem h1] at this
    simp only [Option.getD_some] at this
    have hw := outL_mem hg (List.getElem_mem hi)
    rw [atoi_word hw.1 hw.2] at this
    simp only [outL, List.getElem_map]
    injection this with h
    exact h.symm

theorem data_get (s : ByteArray) (k : Nat) (h : k < s.size) : s.data.toList[k]? = some s[k] := by
  rw [List.getElem?_eq_getElem (by simpa using h)]; rfl
theorem take_data (s : ByteArray) (k : Nat) (h : k < s.size) : s.data.toList.take (k + 1) = s.data.toList.take k ++ [s[k]] := by
  rw [List.take_add_one, data_get s k h]; rfl

end
end Go.Proofs.YtdfmljkjidepeaaGreatDoor
namespace Go.Proofs.YtdfmljkjidepeaaGreatDoor
section
open Go.RowKit
set_option linter.unusedVariables false
set_option linter.unusedSimpArgs false

theorem read_ddI {x : Int} (h0 : 0 ≤ x) (h1 : x ≤ 28) : readL (dd x) = x := by
  unfold dd
  rw [read_dd _ (by omega)]
  omega
theorem atoi_ddI {x : Int} (h0 : 0 ≤ x) (h1 : x ≤ 28) : Lib.atoiAll (dd x) = .ok x := by
  unfold dd
  rw [atoi_dd _ (by omega)]
  congr 1
  omega
end
end Go.Proofs.YtdfmljkjidepeaaGreatDoor
