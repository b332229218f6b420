/- Several texts in one: RwM, RwP. No condition. -/
import Derived.Test.YtbneibpakopllaaRowE
import Derived.Test.YtbneibpakopllaaRowH
import Derived.Test.YtbneibpakopllaaGz
namespace Go.Proofs.Ytbneibpakopllaa
section
set_option linter.unusedVariables false
set_option linter.unusedSimpArgs false

theorem lowL_perm {xs ys : List Int} (h : xs.Perm ys) : (lowL xs).Perm (lowL ys) := (h.filter _).map _
theorem sort_step (xs : List Int) : sortD (rowStepL xs) = stepL (sortD xs) := by
  rw [stepL_row]
  apply sortD_perm_eq
  have hp := (sortD_perm xs).symm
  unfold rowStepL
  by_cases h : xs = []
  · subst h; rw [if_pos rfl, sortD_nil]; simp
  · have h2 : sortD xs ≠ [] := fun e => h (by rw [← List.length_eq_zero_iff, ← sortD_length, e]; rfl)
    rw [if_neg h, if_neg h2, sortD_length]
    exact (lowL_perm hp).cons _
theorem sort_steps (k : Nat) (xs : List Int) : sortD (rowsL k xs) = stepsL k (sortD xs) := by
  induction k with
  | zero => rfl
  | succ k ih => rw [rowsL_add, sort_step, ih]; rfl
theorem sort_good {xs : List Int} (h : RowOk xs) : Good (sortD xs) :=
  ⟨fun x hx => h.1 x ((sortD_perm xs).mem_iff.1 hx), sortD_sorted xs, by
    have : (sortD xs).sum = xs.sum := perm_sum (sortD_perm xs)
    rw [this]; exact h.2⟩
theorem sort_sum (xs : List Int) : (sortD xs).sum = xs.sum := perm_sum (sortD_perm xs)
theorem rowsL_plus (i j : Nat) (xs : List Int) : rowsL (i + j) xs = rowsL i (rowsL j xs) := by
  induction i with
  | zero => rw [Nat.zero_add]; rfl
  | succ i ih => rw [Nat.add_right_comm, rowsL_add, ih]; rfl
theorem metR_of {xs : List Int} {j i : Nat} (h : metR xs j = some i) : i < j ∧ rowsL i xs = rowsL j xs := by
  unfold metR at h
  rw [List.find?_eq_some_iff_getElem] at h
  obtain ⟨h1, i', h2, h3, _⟩ := h
  simp at h2 h3
  subst h3
  exact ⟨h2, by simpa using h1⟩
theorem metR_no {xs : List Int} {j : Nat} (h : metR xs j = none) {i : Nat} (hi : i < j) : rowsL i xs ≠ rowsL j xs := by
  unfold metR at h
  rw [List.find?_eq_none] at h
  have := h i (List.mem_range.2 hi)
  simpa using this
/-- an orbit that was found -/
theorem orb_found {xs : List Int} (h : (orbR xs).2.2 = true) : ∃ i j : Nat, i < j ∧ j ≤ 1000 ∧ orbR xs = ((i : Int), (j : Int) - (i : Int), true) ∧ rowsL i xs = rowsL j xs ∧ ∀ p q, p < q → q < j → rowsL p xs ≠ rowsL q xs := by
  unfold orbR at h
  cases ha : againR xs with
  | none => rw [ha] at h; simp at h
  | some j =>
    unfold againR at ha
    rw [List.find?_eq_some_iff_getElem] at ha
    obtain ⟨h1, j', h2, h3, h4⟩ := ha
    simp at h2 h3
    subst h3
    obtain ⟨i, hi⟩ := Option.isSome_iff_exists.1 h1
    obtain ⟨e1, e2⟩ := metR_of hi
    have hn : ∀ k, k < j' → metR xs k = none := fun k hk => by
      have := h4 k hk
      simpa using this
    exact ⟨i, j', e1, by omega, orbR_some (by omega) e1 hi hn, e2, fun p q hpq hq => metR_no (hn q hq) hpq⟩
theorem orb_lost {xs : List Int} (h : (orbR xs).2.2 = false) : orbR xs = (0, 0, false) := by
  unfold orbR at h ⊢
  cases ha : againR xs with
  | none => rfl
  | some j => rw [ha] at h; simp at h
/-! ### Ranks -/
theorem mod_bit (E c : Nat) : E % 2 ^ (c + 1) = E % 2 ^ c + 2 ^ c * (E / 2 ^ c % 2) := by rw [Nat.pow_succ, Nat.mod_mul]
theorem endR_go {E : Nat} (h0 : E.testBit 0 = true) : ∀ (c p : Nat), endR (goR E c p) = E % 2 ^ c
  | 0, p => by simp [goR, endR, Nat.mod_one]
  | c + 1, p => by
    rw [goR_cons, mod_bit]
    have ht : E.testBit c = decide (E / 2 ^ c % 2 = 1) := Nat.testBit_eq_decide_div_mod_eq
    cases hb : E.testBit c
    · rw [hb] at ht
      have : E / 2 ^ c % 2 = 0 := by have := of_decide_eq_false ht.symm; omega
      rw [if_neg (by simp), endR_go h0 c (p + 1), this]; simp
    · rw [if_pos rfl]
      show 2 ^ (goR E c 0).sum.toNat + endR (goR E c 0) = _
      rw [endR_go h0 c 0, (goR_sum h0 c 0 (.inr rfl)).1, Int.toNat_natCast, Nat.zero_add]
      rw [hb] at ht
      rw [of_decide_eq_true ht.symm]
      omega
theorem odd_bit (r : Nat) : (2 * r + 1).testBit 0 = true := by rw [Nat.testBit_zero]; simp
theorem rank_rowAt {n r : Nat} (hn : n ≤ 28) (hr : r < cntR n) : rankR (rowAt n r) = r := by
  have h1 := endR_half (rowAt_row (r := r) hn).1.1
  have h2 := endR_go (odd_bit r) n 0
  rw [← h1.1]
  unfold rowAt
  rw [h2]
  cases n with
  | zero => have : r = 0 := by have : cntR 0 = 1 := rfl; omega
            subst this; rfl
  | succ n =>
    rw [cntR_pos (by omega), Nat.add_sub_cancel] at hr
    rw [Nat.mod_eq_of_lt (by rw [Nat.pow_succ]; omega)]
    omega
theorem bef_rank : ∀ (xs ys : List Int), (∀ x ∈ xs, 1 ≤ x) → (∀ y ∈ ys, 1 ≤ y) → xs.sum = ys.sum → rankR xs < rankR ys → befX xs ys = true
  | [], ys, h1, h2, hs, hr => by
    cases ys with
    | nil => simp [rankR] at hr
    | cons y m =>
      have := sum_nonneg (fun z hz => h2 z (List.mem_cons_of_mem y hz))
      have := h2 y (by simp)
      simp at hs; omega
  | x :: l, [], h1, h2, hs, hr => by simp [rankR] at hr
  | x :: l, y :: m, h1, h2, hs, hr => by
    have hl := fun z hz => h1 z (List.mem_cons_of_mem x hz)
    have hm := fun z hz => h2 z (List.mem_cons_of_mem y hz)
    rw [List.sum_cons, List.sum_cons] at hs
    have e1 : rankR (x :: l) = sumR l.sum.toNat + rankR l := rfl
    have e2 : rankR (y :: m) = sumR m.sum.toNat + rankR m := rfl
    have n1 : 0 ≤ l.sum := by have := sum_nonneg hl; omega
    have n2 : 0 ≤ m.sum := by have := sum_nonneg hm; omega
    rw [e1, e2] at hr
    by_cases hxy : x = y
    · subst hxy
      have hls : l.sum = m.sum := by omega
      rw [hls] at hr
      have := bef_rank l m hl hm hls (by omega)
      simp [befX, this]
    · have : y < x := by
        apply Decidable.byContradiction
        intro hc
        have h3 := sumR_mono (show m.sum.toNat + 1 ≤ l.sum.toNat by omega)
        have h4 := sumR_succ m.sum.toNat
        have h5 := rankR_lt hm
        omega
      simp [befX, hxy, this]
end
end Go.Proofs.Ytbneibpakopllaa
namespace Go.Proofs.Ytbneibpakopllaa
section
set_option linter.unusedVariables false
set_option linter.unusedSimpArgs false

theorem pR_low : ∀ (f : Nat) (rs : List Int), (∀ x ∈ rs, 1 ≤ x) → ∀ ys ∈ pR f rs, (∀ y ∈ ys, 1 ≤ y) ∧ lowL ys = rs
  | 0, [], _, ys, h => by simp [pR] at h; subst h; exact ⟨by simp, rfl⟩
  | 0, _ :: _, _, ys, h => by simp [pR] at h
  | f + 1, [], h1, ys, h => by
    rw [pR_nil, List.mem_map] at h
    obtain ⟨z, hz, rfl⟩ := h
    have := pR_low f [] h1 z hz
    refine ⟨fun y hy => ?_, by rw [lowL_cons_lo _ (by omega)]; exact this.2⟩
    rcases List.mem_cons.1 hy with rfl | hy
    · omega
    · exact this.1 y hy
  | f + 1, x :: t, h1, ys, h => by
    rw [pR_cons, List.mem_append, List.mem_map, List.mem_map] at h
    have hx := h1 x (by simp)
    rcases h with ⟨z, hz, rfl⟩ | ⟨z, hz, rfl⟩
    · have := pR_low f t (fun y hy => h1 y (by simp [hy])) z hz
      refine ⟨fun y hy => ?_, by rw [lowL_cons_hi _ (by omega), this.2]; congr 1; omega⟩
      rcases List.mem_cons.1 hy with rfl | hy
      · omega
      · exact this.1 y hy
    · have := pR_low f (x :: t) h1 z hz
      refine ⟨fun y hy => ?_, by rw [lowL_cons_lo _ (by omega)]; exact this.2⟩
      rcases List.mem_cons.1 hy with rfl | hy
      · omega
      · exact this.1 y hy
theorem pastsR_step {xs : List Int} (h : RowOk xs) : ∀ ys ∈ pastsR xs, RowOk ys ∧ rowStepL ys = xs := by
  intro ys hy
  unfold pastsR at hy
  by_cases hne : xs = []
  · subst hne
    rw [if_pos rfl] at hy
    simp at hy
    subst hy
    exact ⟨h, rfl⟩
  · rw [if_neg hne] at hy
    obtain ⟨x, t, rfl⟩ := List.exists_cons_of_ne_nil hne
    have hx := h.mem (x := x) (by simp)
    obtain ⟨M, rfl⟩ := Int.eq_ofNat_of_zero_le (show 0 ≤ x by omega)
    have e : (((M : Int) :: t).getD 0 0).toNat = M := by simp
    rw [e, List.tail_cons] at hy
    have h1 := pR_low M t (fun y hy => h.1 y (by simp [hy])) ys hy
    have h2 := pR_len M t ys hy
    have hs := lowL_sum h1.1
    rw [h1.2, h2] at hs
    have hsum := h.2
    rw [List.sum_cons] at hsum
    refine ⟨⟨h1.1, by omega⟩, ?_⟩
    unfold rowStepL
    rw [if_neg (by intro e; rw [e] at h2; simp at h2; omega), h1.2, h2]
theorem pR_order : ∀ (f : Nat) (rs : List Int), (∀ x ∈ rs, 1 ≤ x) → (pR f rs).Pairwise fun a b => befX a b = true
  | 0, [], _ => by simp [pR]
  | 0, _ :: _, _ => by simp [pR]
  | f + 1, [], h1 => by
    rw [pR_nil, List.pairwise_map]
    exact (pR_order f [] h1).imp fun h => by simp [befX, h]
  | f + 1, x :: t, h1 => by
    have hx := h1 x (by simp)
    rw [pR_cons, List.pairwise_append, List.pairwise_map, List.pairwise_map]
    refine ⟨(pR_order f t (fun y hy => h1 y (by simp [hy]))).imp fun h => by simp [befX, h], (pR_order f (x :: t) h1).imp fun h => by simp [befX, h], fun a ha b hb => ?_⟩
    rw [List.mem_map] at ha hb
    obtain ⟨a', _, rfl⟩ := ha
    obtain ⟨b', _, rfl⟩ := hb
    have h2 : ¬ x + 1 = 1 := by omega
    simp [befX, h2]; omega
theorem pastsR_order {xs : List Int} (h : RowOk xs) : (pastsR xs).Pairwise fun a b => befX a b = true := by
  unfold pastsR
  by_cases hne : xs = []
  · rw [if_pos hne]; simp
  · rw [if_neg hne]
    exact pR_order _ _ fun x hx => h.1 x (List.mem_of_mem_tail hx)
theorem pastsR_next {xs : List Int} (h : RowOk xs) {i : Nat} (hi : i + 1 < (pastsR xs).length) : befX ((pastsR xs).getD i []) ((pastsR xs).getD (i + 1) []) = true := by
  have := List.pairwise_iff_getElem.1 (pastsR_order h) i (i + 1) (by omega) hi (by omega)
  rw [List.getD_eq_getElem?_getD, List.getD_eq_getElem?_getD, List.getElem?_eq_getElem hi, List.getElem?_eq_getElem (by omega)]
  exact this
theorem pR_all : ∀ (b : List Int), (∀ y ∈ b, 1 ≤ y) → b ∈ pR b.length (lowL b)
  | [], _ => by simp [pR, lowL]
  | y :: t, h => by
    have ih := pR_all t (fun z hz => h z (by simp [hz]))
    have hy := h y (by simp)
    by_cases h1 : 1 < y
    · rw [lowL_cons_hi _ h1, List.length_cons, pR_cons, List.mem_append]
      refine .inl (List.mem_map.2 ⟨t, ih, ?_⟩)
      congr 1; omega
    · obtain rfl : y = 1 := by omega
      rw [lowL_cons_lo _ h1, List.length_cons]
      cases hl : lowL t with
      | nil => rw [pR_nil]; rw [hl] at ih; exact List.mem_map.2 ⟨t, ih, rfl⟩
      | cons x s => rw [pR_cons, List.mem_append]; rw [hl] at ih; exact .inr (List.mem_map.2 ⟨t, ih, rfl⟩)
theorem pastsR_all {b : List Int} (h : RowOk b) : b ∈ pastsR (rowStepL b) := by
  unfold rowStepL
  by_cases hne : b = []
  · subst hne; simp [pastsR]
  · rw [if_neg hne]
    unfold pastsR
    rw [if_neg (by simp)]
    simpa using pR_all b h.1
theorem memR {xss : List (List Int)} {i : Nat} (hi : i < xss.length) : xss.getD i [] ∈ xss := by
  rw [List.getD_eq_getElem?_getD, List.getElem?_eq_getElem hi]; exact List.getElem_mem hi
end
end Go.Proofs.Ytbneibpakopllaa
