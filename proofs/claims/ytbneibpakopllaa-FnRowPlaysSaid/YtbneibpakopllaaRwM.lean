/- Mathematics of chapter 5's laws: rows and their piles, orbits, ranks. No condition. -/
import Derived.Test.YtbneibpakopllaaRowE
import Derived.Test.YtbneibpakopllaaRowH
import Derived.Test.YtbneibpakopllaaRwL
namespace Go.Proofs.Ytbneibpakopllaa
set_option linter.unusedVariables false
set_option linter.unusedSimpArgs false

theorem lowL_perm {xs ys : List Int} (h : xs.Perm ys) : (lowL xs).Perm (lowL ys) := (h.filter _).map _
theorem sort_step (xs : List Int) : sortD (rowStepL xs) = stepL (sortD xs) := by
  rw [stepL_row]
  apply sortD_perm_eq
  have hp := (sortD_perm xs).symm
  unfold rowStepL
  by_cases h : xs = []
  · subst h; rw [if_pos rfl, sortD_nil]; simp
  · have h2 : sortD xs ≠ [] := fun e => h (by rw [← List.length_eq_zero_iff, ← sortD_length, e]; rfl)
    rw [if_neg h, if_neg h2, sortD_length]
    exact (lowL_perm hp).cons _
theorem sort_steps (k : Nat) (xs : List Int) : sortD (rowsL k xs) = stepsL k (sortD xs) := by
  induction k with
  | zero => rfl
  | succ k ih => rw [rowsL_add, sort_step, ih]; rfl
theorem sort_good {xs : List Int} (h : RowOk xs) : Good (sortD xs) :=
  ⟨fun x hx => h.1 x ((sortD_perm xs).mem_iff.1 hx), sortD_sorted xs, by
    have : (sortD xs).sum = xs.sum := perm_sum (sortD_perm xs)
    rw [this]; exact h.2⟩
theorem sort_sum (xs : List Int) : (sortD xs).sum = xs.sum := perm_sum (sortD_perm xs)
theorem rowsL_plus (i j : Nat) (xs : List Int) : rowsL (i + j) xs = rowsL i (rowsL j xs) := by
  induction i with
  | zero => rw [Nat.zero_add]; rfl
  | succ i ih => rw [Nat.add_right_comm, rowsL_add, ih]; rfl
theorem metR_of {xs : List Int} {j i : Nat} (h : metR xs j = some i) : i < j ∧ rowsL i xs = rowsL j xs := by
  unfold metR at h
  rw [List.find?_eq_some_iff_getElem] at h
  obtain ⟨h1, i', h2, h3, _⟩ := h
  simp at h2 h3
  subst h3
  exact ⟨h2, by simpa using h1⟩
theorem metR_no {xs : List Int} {j : Nat} (h : metR xs j = none) {i : Nat} (hi : i < j) : rowsL i xs ≠ rowsL j xs := by
  unfold metR at h
  rw [List.find?_eq_none] at h
  have := h i (List.mem_range.2 hi)
  simpa using this
/-- an orbit that was found -/
theorem orb_found {xs : List Int} (h : (orbR xs).2.2 = true) : ∃ i j : Nat, i < j ∧ j ≤ 1000 ∧ orbR xs = ((i : Int), (j : Int) - (i : Int), true) ∧ rowsL i xs = rowsL j xs ∧ ∀ p q, p < q → q < j → rowsL p xs ≠ rowsL q xs := by
  unfold orbR at h
  cases ha : againR xs with
  | none => rw [ha] at h; simp at h
  | some j =>
    unfold againR at ha
    rw [List.find?_eq_some_iff_getElem] at ha
    obtain ⟨h1, j', h2, h3, h4⟩ := ha
    simp at h2 h3
    subst h3
    obtain ⟨i, hi⟩ := Option.isSome_iff_exists.1 h1
    obtain ⟨e1, e2⟩ := metR_of hi
    have hn : ∀ k, k < j' → metR xs k = none := fun k hk => by
      have := h4 k hk
      simpa using this
    exact ⟨i, j', e1, by omega, orbR_some (by omega) e1 hi hn, e2, fun p q hpq hq => metR_no (hn q hq) hpq⟩
theorem orb_lost {xs : List Int} (h : (orbR xs).2.2 = false) : orbR xs = (0, 0, false) := by
  unfold orbR at h ⊢
  cases ha : againR xs with
  | none => rfl
  | some j => rw [ha] at h; simp at h
/-! ### Ranks -/
theorem mod_bit (E c : Nat) : E % 2 ^ (c + 1) = E % 2 ^ c + 2 ^ c * (E / 2 ^ c % 2) := by rw [Nat.pow_succ, Nat.mod_mul]
theorem endR_go {E : Nat} (h0 : E.testBit 0 = true) : ∀ (c p : Nat), endR (goR E c p) = E % 2 ^ c
  | 0, p => by simp [goR, endR, Nat.mod_one]
  | c + 1, p => by
    rw [goR_cons, mod_bit]
    have ht : E.testBit c = decide (E / 2 ^ c % 2 = 1) := Nat.testBit_eq_decide_div_mod_eq
    cases hb : E.testBit c
    · rw [hb] at ht
      have : E / 2 ^ c % 2 = 0 := by have := of_decide_eq_false ht.symm; omega
      rw [if_neg (by simp), endR_go h0 c (p + 1), this]; simp
    · rw [if_pos rfl]
      show 2 ^ (goR E c 0).sum.toNat + endR (goR E c 0) = _
      rw [endR_go h0 c 0, (goR_sum h0 c 0 (.inr rfl)).1, Int.toNat_natCast, Nat.zero_add]
      rw [hb] at ht
      rw [of_decide_eq_true ht.symm]
      omega
theorem odd_bit (r : Nat) : (2 * r + 1).testBit 0 = true := by rw [Nat.testBit_zero]; simp
theorem rank_rowAt {n r : Nat} (hn : n ≤ 28) (hr : r < cntR n) : rankR (rowAt n r) = r := by
  have h1 := endR_half (rowAt_row (r := r) hn).1.1
  have h2 := endR_go (odd_bit r) n 0
  rw [← h1.1]
  unfold rowAt
  rw [h2]
  cases n with
  | zero => have : r = 0 := by have : cntR 0 = 1 := rfl; omega
            subst this; rfl
  | succ n =>
    rw [cntR_pos (by omega), Nat.add_sub_cancel] at hr
    rw [Nat.mod_eq_of_lt (by rw [Nat.pow_succ]; omega)]
    omega
theorem bef_rank : ∀ (xs ys : List Int), (∀ x ∈ xs, 1 ≤ x) → (∀ y ∈ ys, 1 ≤ y) → xs.sum = ys.sum → rankR xs < rankR ys → befX xs ys = true
  | [], ys, h1, h2, hs, hr => by
    cases ys with
    | nil => simp [rankR] at hr
    | cons y m =>
      have := sum_nonneg (fun z hz => h2 z (List.mem_cons_of_mem y hz))
      have := h2 y (by simp)
      simp at hs; omega
  | x :: l, [], h1, h2, hs, hr => by simp [rankR] at hr
  | x :: l, y :: m, h1, h2, hs, hr => by
    have hl := fun z hz => h1 z (List.mem_cons_of_mem x hz)
    have hm := fun z hz => h2 z (List.mem_cons_of_mem y hz)
    rw [List.sum_cons, List.sum_cons] at hs
    have e1 : rankR (x :: l) = sumR l.sum.toNat + rankR l := rfl
    have e2 : rankR (y :: m) = sumR m.sum.toNat + rankR m := rfl
    have n1 : 0 ≤ l.sum := by have := sum_nonneg hl; omega
    have n2 : 0 ≤ m.sum := by have := sum_nonneg hm; omega
    rw [e1, e2] at hr
    by_cases hxy : x = y
    · subst hxy
      have hls : l.sum = m.sum := by omega
      rw [hls] at hr
      have := bef_rank l m hl hm hls (by omega)
      simp [befX, this]
    · have : y < x := by
        apply Decidable.byContradiction
        intro hc
        have h3 := sumR_mono (show m.sum.toNat + 1 ≤ l.sum.toNat by omega)
        have h4 := sumR_succ m.sum.toNat
        have h5 := rankR_lt hm
        omega
      simp [befX, hxy, this]
end Go.Proofs.Ytbneibpakopllaa
