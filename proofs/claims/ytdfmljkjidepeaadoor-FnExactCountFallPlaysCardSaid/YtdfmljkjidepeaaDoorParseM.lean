/- Texts split at a byte, numbers read: mathematics over lists of bytes. No condition. -/
import Derived.Lib.Split
import Derived.Lib.SplitLaws
import Derived.Lib.CountLaws
import Derived.Lib.AtoiAll
import Derived.Lib.ItoaNum
namespace Go.Proofs.YtdfmljkjidepeaaDoor
set_option linter.unusedVariables false
set_option linter.unusedSimpArgs false

/-- the parts between the bytes b -/
def splitL (b : UInt8) : List UInt8 → List (List UInt8)
  | [] => [[]]
  | c :: l => if c = b then [] :: splitL b l else match splitL b l with
    | [] => [[c]]
    | h :: t => (c :: h) :: t
theorem splitL_ne (b : UInt8) (l : List UInt8) : splitL b l ≠ [] := by
  cases l with
  | nil => simp [splitL]
  | cons c l => unfold splitL; split; simp; split <;> simp
theorem splitL_app (b : UInt8) (w r : List UInt8) (h : b ∉ w) : splitL b (w ++ b :: r) = w :: splitL b r := by
  induction w with
  | nil => simp [splitL]
  | cons c w ih =>
    have hc : ¬ c = b := fun e => h (by simp [e])
    have := ih (fun hm => h (by simp [hm]))
    simp only [List.cons_append, splitL, if_neg hc, this]
theorem splitL_none (b : UInt8) (w : List UInt8) (h : b ∉ w) : splitL b w = [w] := by
  induction w with
  | nil => rfl
  | cons c w ih =>
    have hc : ¬ c = b := fun e => h (by simp [e])
    simp only [splitL, if_neg hc, ih (fun hm => h (by simp [hm]))]
theorem splitL_length (b : UInt8) (l : List UInt8) : (splitL b l).length = l.count b + 1 := by
  induction l with
  | nil => rfl
  | cons c l ih =>
    unfold splitL
    by_cases hc : c = b
    · rw [if_pos hc, List.length_cons, ih, hc, List.count_cons_self]
    · rw [if_neg hc, List.count_cons_of_ne hc]
      cases hs : splitL b l with
      | nil => exact absurd hs (splitL_ne b l)
      | cons h t => rw [hs] at ih; simpa using ih

theorem first_b (b : UInt8) (l : List UInt8) (h : b ∈ l) : ∃ w r, l = w ++ b :: r ∧ b ∉ w := by
  induction l with
  | nil => cases h
  | cons c l ih =>
    by_cases hc : c = b
    · exact ⟨[], l, by simp [hc], by simp⟩
    · have : b ∈ l := by
        rcases List.mem_cons.1 h with e | e
        · exact absurd e.symm hc
        · exact e
      obtain ⟨w, r, rfl, hw⟩ := ih this
      exact ⟨c :: w, r, rfl, fun hm => by
        rcases List.mem_cons.1 hm with e | e
        · exact hc e.symm
        · exact hw e⟩
theorem occ_false (b : UInt8) (l : List UInt8) (j : Nat) (h : l[j]? ≠ some b) : Lib.occAt l [b] j = false := by
  cases ho : Lib.occAt l [b] j
  · rfl
  · exact absurd (Lib.occAt_head rfl ho) h
theorem index_split (b : UInt8) (w r : List UInt8) (h : b ∉ w) : Lib.index (w ++ b :: r) [b] = w.length := by
  refine Lib.index_first (by simp) ?_ (fun j hj => occ_false b _ j fun e => ?_)
  · unfold Lib.occAt
    rw [List.drop_left']
    · simp
    · rfl
  · rw [List.getElem?_append_left hj] at e
    exact h (List.mem_of_getElem? e)
theorem index_miss (b : UInt8) (l : List UInt8) (h : b ∉ l) : Lib.index l [b] = -1 :=
  Lib.index_none fun j _ => occ_false b l j fun e => h (List.mem_of_getElem? e)
theorem splitK_eq (b : UInt8) (k : Nat) : ∀ l : List UInt8, l.count b ≤ k → Lib.splitK [b] 0 k l = splitL b l := by
  induction k with
  | zero =>
    intro l h
    rw [splitL_none b l (List.count_eq_zero.1 (by omega))]
    rfl
  | succ k ih =>
    intro l h
    by_cases hm : b ∈ l
    · obtain ⟨w, r, rfl, hw⟩ := first_b b l hm
      have hc : r.count b ≤ k := by
        rw [List.count_append, List.count_cons_self] at h
        omega
      unfold Lib.splitK
      rw [index_split b w r hw, if_neg (by simp), splitL_app b w r hw]
      have hd : (w ++ b :: r).drop (w.length + 1) = r := by
        rw [← List.singleton_append, ← List.append_assoc, List.drop_left' (by simp)]
      simp only [Int.toNat_natCast, Nat.add_zero, List.take_left, List.length_singleton, hd, ih r hc]
    · unfold Lib.splitK
      rw [index_miss b l hm, if_pos (by simp), splitL_none b l hm]

/-! ### Numbers that are read -/
def isDig (c : UInt8) : Prop := 48 ≤ c.toNat ∧ c.toNat ≤ 57
instance (c : UInt8) : Decidable (isDig c) := by unfold isDig; infer_instance
def numV (w : List UInt8) : Nat := w.foldl (fun n c => 10 * n + (c.toNat - 48)) 0
theorem numV_snoc (w : List UInt8) (c : UInt8) : numV (w ++ [c]) = 10 * numV w + (c.toNat - 48) := by unfold numV; rw [List.foldl_append]; rfl
def ReadOk (w : List UInt8) : Prop := 1 ≤ w.length ∧ w.length ≤ 6 ∧ ¬ (w.getD 0 0 = 48 ∧ 1 < w.length) ∧ ∀ c ∈ w, isDig c
instance (w : List UInt8) : Decidable (ReadOk w) := by unfold ReadOk; infer_instance
def readL (w : List UInt8) : Int := if ReadOk w then (numV w : Int) else -1
theorem numV_lt (w : List UInt8) (h : ∀ c ∈ w, isDig c) : numV w < 10 ^ w.length := by
  have gen : ∀ (r : List UInt8) (n : Nat), (∀ c ∈ r, isDig c) → r.foldl (fun n c => 10 * n + (c.toNat - 48)) n < (n + 1) * 10 ^ r.length := by
    intro r
    induction r with
    | nil => intro n _; simp
    | cons c r ih =>
      intro n hd
      have hc := hd c (by simp)
      have := ih (10 * n + (c.toNat - 48)) (fun x hx => hd x (by simp [hx]))
      simp only [List.foldl_cons, List.length_cons, Nat.pow_succ]
      refine Nat.lt_of_lt_of_le this ?_
      have h1 : 10 * n + (c.toNat - 48) + 1 ≤ (n + 1) * 10 := by unfold isDig at hc; omega
      calc (10 * n + (c.toNat - 48) + 1) * 10 ^ r.length ≤ ((n + 1) * 10) * 10 ^ r.length := Nat.mul_le_mul_right _ h1
        _ = (n + 1) * (10 ^ r.length * 10) := by rw [Nat.mul_assoc, Nat.mul_comm 10]
  have := gen w 0 h
  simpa [numV] using this
theorem readL_bounds (w : List UInt8) : -1 ≤ readL w ∧ readL w ≤ 999999 := by
  unfold readL
  split
  · next h =>
    have := numV_lt w h.2.2.2
    have h6 : 10 ^ w.length ≤ 10 ^ 6 := Nat.pow_le_pow_right (by omega) h.2.1
    omega
  · omega
theorem dig_eq (c : UInt8) (h : isDig c) : c = UInt8.ofNat (48 + (c.toNat - 48)) := by
  unfold isDig at h
  apply UInt8.toNat_inj.1
  rw [UInt8.toNat_ofNat']
  omega
/-- a small number that is read is written so -/
theorem readL_small (w : List UInt8) (h1 : 1 ≤ readL w) (h2 : readL w ≤ 28) : w = Lib.decDigits (readL w).toNat := by
  unfold readL at h1 h2 ⊢
  split at h1
  · next h =>
    rw [if_pos h] at h2 ⊢
    obtain ⟨l1, l6, hz, hd⟩ := h
    simp only [Int.toNat_natCast]
    match w, l1, l6, hz, hd, h1, h2 with
    | [c], _, _, _, hd, h1, h2 =>
      have hc := hd c (by simp)
      have hv : numV [c] = c.toNat - 48 := by simp [numV]
      rw [hv] at h2 ⊢
      unfold isDig at hc
      rw [Lib.decDigits_one (by omega), ← dig_eq c hc]
    | [c, d], _, _, hz, hd, h1, h2 =>
      have hc := hd c (by simp); have hdd := hd d (by simp)
      have hv : numV [c, d] = 10 * (c.toNat - 48) + (d.toNat - 48) := by simp [numV]
      rw [hv] at h2 ⊢
      have hc0 : c.toNat ≠ 48 := fun e => hz ⟨UInt8.toNat_inj.1 (by simpa using e), by simp⟩
      have hc' := hc; have hd' := hdd
      unfold isDig at hc' hd'
      rw [Lib.decDigits_two (by omega) (by omega), show (10 * (c.toNat - 48) + (d.toNat - 48)) / 10 = c.toNat - 48 by omega, show (10 * (c.toNat - 48) + (d.toNat - 48)) % 10 = d.toNat - 48 by omega, ← dig_eq c hc, ← dig_eq d hdd]
    | c :: d :: e :: r, _, _, hz, hd, h1, h2 =>
      exfalso
      have hc := hd c (by simp)
      unfold isDig at hc
      have hc0 : c.toNat ≠ 48 := fun e => hz ⟨UInt8.toNat_inj.1 (by simpa using e), by simp⟩
      have mono : ∀ (l : List UInt8) (n : Nat), n ≤ l.foldl (fun n c => 10 * n + (c.toNat - 48)) n := by
        intro l
        induction l with
        | nil => intro n; exact Nat.le_refl _
        | cons x l ih => intro n; exact Nat.le_trans (show n ≤ 10 * n + (x.toNat - 48) by omega) (ih _)
      have := mono r (10 * (10 * (10 * 0 + (c.toNat - 48)) + (d.toNat - 48)) + (e.toNat - 48))
      have hv : numV (c :: d :: e :: r) = r.foldl (fun n c => 10 * n + (c.toNat - 48)) (10 * (10 * (10 * 0 + (c.toNat - 48)) + (d.toNat - 48)) + (e.toNat - 48)) := rfl
      rw [← hv] at this
      omega
  · omega

def okIs (l : List UInt8) (v : Nat) : Bool := match Lib.atoiAll l with
  | .ok u => u == (v : Int)
  | _ => false
theorem okIs_one : ∀ v, v < 10 → okIs [UInt8.ofNat (48 + v)] v = true := by decide +kernel
theorem okIs_two : ∀ v, v < 29 → 10 ≤ v → okIs [UInt8.ofNat (48 + v / 10), UInt8.ofNat (48 + v % 10)] v = true := by decide +kernel
theorem okIs_eq {l : List UInt8} {v : Nat} (h : okIs l v = true) : Lib.atoiAll l = .ok (v : Int) := by
  unfold okIs at h
  split at h
  · next u hu => rw [hu]; congr 1; simpa using h
  · cases h
theorem atoi_dd (v : Nat) (h : v ≤ 28) : Lib.atoiAll (Lib.decDigits v) = .ok (v : Int) := by
  by_cases h1 : v < 10
  · rw [Lib.decDigits_one h1]; exact okIs_eq (okIs_one v h1)
  · rw [Lib.decDigits_two h1 (by omega)]; exact okIs_eq (okIs_two v (by omega) (by omega))
def readIs (l : List UInt8) (v : Nat) : Bool := decide (readL l = (v : Int))
theorem readIs_one : ∀ v, v < 10 → readIs [UInt8.ofNat (48 + v)] v = true := by decide +kernel
theorem readIs_two : ∀ v, v < 29 → 10 ≤ v → readIs [UInt8.ofNat (48 + v / 10), UInt8.ofNat (48 + v % 10)] v = true := by decide +kernel
theorem read_dd (v : Nat) (h : v ≤ 28) : readL (Lib.decDigits v) = v := by
  by_cases h1 : v < 10
  · rw [Lib.decDigits_one h1]; exact of_decide_eq_true (readIs_one v h1)
  · rw [Lib.decDigits_two h1 (by omega)]; exact of_decide_eq_true (readIs_two v (by omega) (by omega))
theorem dd_no43 (v : Nat) (h : v ≤ 28) : (43 : UInt8) ∉ Lib.decDigits v := by
  have key : ∀ d, d < 10 → (43 : UInt8) ≠ UInt8.ofNat (48 + d) := by decide +kernel
  by_cases h1 : v < 10
  · rw [Lib.decDigits_one h1]; simpa using key v h1
  · rw [Lib.decDigits_two h1 (by omega)]
    simp only [List.mem_cons, List.mem_nil_iff, or_false, not_or]
    exact ⟨key _ (by omega), key _ (by omega)⟩
end Go.Proofs.YtdfmljkjidepeaaDoor
