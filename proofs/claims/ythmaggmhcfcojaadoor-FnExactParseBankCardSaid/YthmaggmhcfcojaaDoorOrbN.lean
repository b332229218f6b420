/- Chapter 2: bits, turns, tails and cycles: plain mathematics. No condition. -/
import Derived.Test.YthmaggmhcfcojaaDoorOrbM
namespace Go.Proofs.YthmaggmhcfcojaaDoor
set_option linter.unusedVariables false
set_option linter.unusedSimpArgs false

/-! ### Bits -/
def fromB : List Int → List Int
  | [] => []
  | b :: l => if 0 < (l.length : Int) + b then ((l.length : Int) + b) :: fromB l else fromB l
def IsB (bs : List Int) : Prop := ∀ b ∈ bs, b = 0 ∨ b = 1
theorem fromB_low {bs : List Int} (h : IsB bs) {b : Int} (hb : b = 0 ∨ b = 1) : lowL (fromB (bs ++ [b])) = fromB bs := by
  induction bs with
  | nil =>
    rcases hb with rfl | rfl <;> rfl
  | cons c l ih =>
    have ih := ih (fun x hx => h x (by simp [hx]))
    have hc := h c (by simp)
    have hl : (((l ++ [b]).length : Nat) : Int) = (l.length : Int) + 1 := by simp
    rw [List.cons_append]
    unfold fromB
    rw [hl, if_pos (by omega)]
    by_cases hp : 0 < (l.length : Int) + c
    · rw [if_pos hp, lowL_cons_hi _ (by omega), ih]
      congr 1; omega
    · rw [if_neg hp, lowL_cons_lo _ (by omega), ih]
theorem fromB_length {bs : List Int} (h : IsB bs) {b : Int} (hb : b = 0 ∨ b = 1) : (((fromB (bs ++ [b])).length : Nat) : Int) = bs.length + b := by
  induction bs with
  | nil => rcases hb with rfl | rfl <;> rfl
  | cons c l ih =>
    have ih := ih (fun x hx => h x (by simp [hx]))
    have hc := h c (by simp)
    have hl : (((l ++ [b]).length : Nat) : Int) = (l.length : Int) + 1 := by simp
    rw [List.cons_append]
    unfold fromB
    rw [hl, if_pos (by omega)]
    simp only [List.length_cons]
    omega
theorem fromB_le {bs : List Int} (h : IsB bs) : ∀ x ∈ fromB bs, 1 ≤ x ∧ x ≤ bs.length := by
  induction bs with
  | nil => intro x hx; cases hx
  | cons c l ih =>
    have ih := ih (fun x hx => h x (by simp [hx]))
    have hc := h c (by simp)
    intro x hx
    unfold fromB at hx
    simp only [List.length_cons]
    split at hx
    · rcases List.mem_cons.1 hx with rfl | hx
      · omega
      · have := ih x hx; omega
    · have := ih x hx; omega
theorem fromB_sorted {bs : List Int} (h : IsB bs) : (fromB bs).Pairwise (· ≥ ·) := by
  induction bs with
  | nil => exact List.Pairwise.nil
  | cons c l ih =>
    have hl : IsB l := fun x hx => h x (by simp [hx])
    have ih := ih hl
    have hc := h c (by simp)
    unfold fromB
    split
    · rw [List.pairwise_cons]
      refine ⟨fun x hx => ?_, ih⟩
      have := fromB_le hl x hx
      show _ ≥ x; omega
    · exact ih
theorem fromB_getD {bs : List Int} (h : IsB bs) (i : Nat) : (fromB bs).getD i 0 = if i < bs.length then (bs.length : Int) - 1 - i + bs.getD i 0 else 0 := by
  induction bs generalizing i with
  | nil => simp [fromB]
  | cons c l ih =>
    have hl : IsB l := fun x hx => h x (by simp [hx])
    have ih := fun i => ih hl i
    have hc := h c (by simp)
    unfold fromB
    simp only [List.length_cons]
    by_cases hp : 0 < (l.length : Int) + c
    · rw [if_pos hp]
      cases i with
      | zero => simp
      | succ i =>
        simp only [List.getD_cons_succ]
        rw [ih i]
        by_cases hi : i < l.length
        · rw [if_pos hi, if_pos (by omega)]; omega
        · rw [if_neg hi, if_neg (by omega)]
    · rw [if_neg hp]
      have h0 : l.length = 0 := by omega
      obtain rfl := List.eq_nil_of_length_eq_zero h0
      simp only [fromB]
      cases i with
      | zero => simp at hp ⊢; first | done | omega
      | succ i => simp
/-- the last bit becomes the first one -/
def rotL (bs : List Int) : List Int := match bs.getLast? with
  | none => []
  | some b => b :: bs.dropLast
theorem rotL_snoc (bs : List Int) (b : Int) : rotL (bs ++ [b]) = b :: bs := by unfold rotL; simp
theorem rotL_length (bs : List Int) : (rotL bs).length = bs.length := by
  rcases List.eq_nil_or_concat bs with rfl | ⟨l, b, rfl⟩
  · rfl
  · rw [List.concat_eq_append, rotL_snoc]; simp
theorem rotL_isB {bs : List Int} (h : IsB bs) : IsB (rotL bs) := by
  rcases List.eq_nil_or_concat bs with rfl | ⟨l, b, rfl⟩
  · exact h
  · rw [List.concat_eq_append] at h ⊢
    rw [rotL_snoc]
    intro x hx
    apply h
    simp at hx ⊢
    rcases hx with rfl | hx
    · exact .inr rfl
    · exact .inl hx
theorem step_rot {bs : List Int} (h : IsB bs) : stepL (fromB bs) = fromB (rotL bs) := by
  rcases List.eq_nil_or_concat bs with rfl | ⟨l, b, rfl⟩
  · rfl
  · rw [List.concat_eq_append] at h ⊢
    have hb := h b (by simp)
    have hl : IsB l := fun x hx => h x (by simp [hx])
    rw [rotL_snoc]
    by_cases hne : fromB (l ++ [b]) = []
    · have hlen := fromB_length hl hb
      rw [hne] at hlen ⊢
      simp at hlen
      have h0 : l.length = 0 := by omega
      obtain rfl := List.eq_nil_of_length_eq_zero h0
      obtain rfl : b = 0 := by simp at hlen; omega
      rfl
    · rw [stepL_ins (fromB_sorted h) hne, fromB_low hl hb, fromB_length hl hb]
      have hpos : 0 < (l.length : Int) + b := by
        rw [← fromB_length hl hb]
        have : (fromB (l ++ [b])).length ≠ 0 := fun e => hne (List.eq_nil_of_length_eq_zero e)
        omega
      rw [show fromB (b :: l) = (l.length + b) :: fromB l by rw [fromB, if_pos hpos]]
      have := fromB_le hl
      cases hf : fromB l with
      | nil => rfl
      | cons x m =>
        rw [hf] at this
        have := this x (by simp)
        unfold insL
        rw [if_neg (by omega)]
def rotN : Nat → List Int → List Int
  | 0, bs => bs
  | k + 1, bs => rotL (rotN k bs)
theorem rotN_length (k : Nat) (bs : List Int) : (rotN k bs).length = bs.length := by
  induction k with
  | zero => rfl
  | succ k ih => show (rotL (rotN k bs)).length = _; rw [rotL_length, ih]
theorem rotN_isB {bs : List Int} (h : IsB bs) (k : Nat) : IsB (rotN k bs) := by
  induction k with
  | zero => exact h
  | succ k ih => exact rotL_isB ih
theorem steps_rot {bs : List Int} (h : IsB bs) (k : Nat) : stepsL k (fromB bs) = fromB (rotN k bs) := by
  induction k with
  | zero => rfl
  | succ k ih => show stepL (stepsL k (fromB bs)) = fromB (rotL (rotN k bs)); rw [ih, step_rot (rotN_isB h k)]
theorem rotL_getD (bs : List Int) (i : Nat) (hi : i < bs.length) : (rotL bs).getD i 0 = bs.getD ((i + bs.length - 1) % bs.length) 0 := by
  rcases List.eq_nil_or_concat bs with rfl | ⟨l, b, rfl⟩
  · simp at hi
  · rw [List.concat_eq_append] at hi ⊢
    rw [rotL_snoc]
    simp only [List.length_append, List.length_singleton] at hi ⊢
    cases i with
    | zero =>
      rw [show 0 + (l.length + 1) - 1 = l.length by omega, Nat.mod_eq_of_lt (by omega)]
      simp
    | succ i =>
      rw [show i + 1 + (l.length + 1) - 1 = i + (l.length + 1) by omega, Nat.add_mod_right, Nat.mod_eq_of_lt (by omega)]
      simp only [List.getD_cons_succ]
      rw [List.getD_eq_getElem?_getD, List.getD_eq_getElem?_getD, List.getElem?_append_left (by omega)]
theorem mod_turn (n i k : Nat) (hn : 0 < n) (hi : i < n) : ((i + n - 1) % n + n - k % n) % n = (i + n - (k + 1) % n) % n := by
  have hk := Nat.mod_lt k hn
  have e1 : (k + 1) % n = if k % n + 1 = n then 0 else k % n + 1 := by
    rw [Nat.add_mod]
    by_cases h1 : n = 1
    · subst h1; simp [Nat.mod_one]
    · rw [Nat.mod_eq_of_lt (show 1 < n by omega)]
      split
      · next e => rw [e]; exact Nat.mod_self n
      · exact Nat.mod_eq_of_lt (by omega)
  have e2 : (i + n - 1) % n = if i = 0 then n - 1 else i - 1 := by
    split
    · next e => subst e; rw [show 0 + n - 1 = n - 1 by omega]; exact Nat.mod_eq_of_lt (by omega)
    · rw [show i + n - 1 = (i - 1) + n by omega, Nat.add_mod_right]; exact Nat.mod_eq_of_lt (by omega)
  rw [e1, e2]
  generalize k % n = q at *
  by_cases h0 : i = 0
  · rw [if_pos h0]
    split
    · next e => rw [show n - 1 + n - q = n by omega, show i + n - 0 = n by omega]
    · next e => rw [show n - 1 + n - q = (n - 1 - q) + n by omega, Nat.add_mod_right, show i + n - (q + 1) = n - 1 - q by omega]
  · rw [if_neg h0]
    split
    · next e => rw [show i - 1 + n - q = i by omega, show i + n - 0 = i + n by omega, Nat.add_mod_right]
    · next e => rw [show i - 1 + n - q = i + n - (q + 1) by omega]
theorem rotN_getD (k : Nat) (bs : List Int) (i : Nat) (hi : i < bs.length) : (rotN k bs).getD i 0 = bs.getD ((i + bs.length - k % bs.length) % bs.length) 0 := by
  induction k generalizing i with
  | zero => show bs.getD i 0 = _; rw [Nat.zero_mod, Nat.sub_zero, Nat.add_mod_right, Nat.mod_eq_of_lt hi]
  | succ k ih =>
    show (rotL (rotN k bs)).getD i 0 = _
    rw [rotL_getD _ _ (by rw [rotN_length]; exact hi), rotN_length, ih _ (Nat.mod_lt _ (by omega)), mod_turn _ _ _ (by omega) hi]
theorem list_ext_getD {xs ys : List Int} (hl : xs.length = ys.length) (h : ∀ i, i < ys.length → xs.getD i 0 = ys.getD i 0) : xs = ys := by
  apply List.ext_getElem hl
  intro i h1 h2
  have := h i h2
  rw [List.getD_eq_getElem?_getD, List.getD_eq_getElem?_getD, List.getElem?_eq_getElem h1, List.getElem?_eq_getElem h2] at this
  exact this
theorem rotN_full (bs : List Int) : rotN bs.length bs = bs := by
  apply list_ext_getD (rotN_length _ _)
  intro i hi
  rw [rotN_getD _ _ _ hi, Nat.mod_self, Nat.sub_zero, Nat.add_mod_right, Nat.mod_eq_of_lt hi]

/-! ### Cyclic piles -/
def hL (xs : List Int) : Nat := hgt xs.sum.toNat
def bitsL (xs : List Int) : List Int := (List.range (hL xs + 1)).map fun (i : Nat) => xs.getD i 0 - (hL xs - i)
theorem bitsL_length (xs : List Int) : (bitsL xs).length = hL xs + 1 := by simp [bitsL]
theorem bitsL_getD (xs : List Int) (i : Nat) (h : i < hL xs + 1) : (bitsL xs).getD i 0 = xs.getD i 0 - (hL xs - i) := by
  unfold bitsL
  rw [List.getD_eq_getElem?_getD, List.getElem?_map, List.getElem?_range h]; rfl
theorem bitsL_isB {xs : List Int} (h : Cyc xs) : IsB (bitsL xs) := by
  intro b hb
  obtain ⟨i, hi, rfl⟩ := List.mem_map.1 hb
  exact h.2 i (List.mem_range.1 hi)
theorem pos_ext {xs ys : List Int} (hx : ∀ x ∈ xs, 1 ≤ x) (hy : ∀ x ∈ ys, 1 ≤ x) (h : ∀ i, xs.getD i 0 = ys.getD i 0) : xs = ys := by
  apply list_ext_getD
  · apply eq_of_lt_iff
    intro i
    rw [← (getD_nonneg hx i).2, ← (getD_nonneg hy i).2, h i]
  · intro i _; exact h i
theorem from_bits {xs : List Int} (hg : Good xs) (h : Cyc xs) : fromB (bitsL xs) = xs := by
  have hB := bitsL_isB h
  apply pos_ext (fun x hx => (fromB_le hB x hx).1) hg.1
  intro i
  rw [fromB_getD hB, bitsL_length]
  split
  · next hi => rw [bitsL_getD _ _ hi]; omega
  · next hi =>
    have := h.1
    rw [List.getD_eq_getElem?_getD, List.getElem?_eq_none (by unfold hL at hi; omega)]; rfl
theorem fromB_sum {bs : List Int} (h : IsB bs) (h0 : 0 ∈ bs) : (tri (bs.length - 1) : Int) ≤ (fromB bs).sum ∧ (fromB bs).sum ≤ tri (bs.length - 1) + (bs.length - 1 : Nat) := by
  have hn : 0 < bs.length := List.length_pos_of_mem h0
  have hl : (fromB bs).length ≤ bs.length - 1 + 1 := by
    by_cases hlt : bs.length < (fromB bs).length
    · have := (getD_nonneg (fun x hx => (fromB_le h x hx).1) bs.length).2.2 hlt
      rw [fromB_getD h, if_neg (by omega)] at this
      omega
    · omega
  have hb : ∀ i, i < bs.length → bs.getD i 0 = 0 ∨ bs.getD i 0 = 1 := by
    intro i hi
    rw [List.getD_eq_getElem?_getD, List.getElem?_eq_getElem hi]
    exact h _ (List.getElem_mem hi)
  have := near_sum (bs.length - 1) (fromB bs) hl (fun i hi => by
    rw [fromB_getD h, if_pos (by omega)]
    have := hb i (by omega)
    omega)
  refine ⟨this.1, this.2.2 ?_⟩
  obtain ⟨i, hi, e⟩ := List.mem_iff_getElem.1 h0
  refine ⟨i, by omega, ?_⟩
  rw [fromB_getD h, if_pos hi]
  have : bs.getD i 0 = 0 := by rw [List.getD_eq_getElem?_getD, List.getElem?_eq_getElem hi]; exact e
  omega
theorem fromB_hL {bs : List Int} (h : IsB bs) (h0 : 0 ∈ bs) (hs : (fromB bs).sum ≤ 28) : hL (fromB bs) + 1 = bs.length := by
  have := fromB_sum h h0
  have hn : 0 < bs.length := List.length_pos_of_mem h0
  unfold hL
  rw [hgt_unique (L := bs.length - 1) (by omega) (by omega) (by omega)]
  omega
theorem fromB_cyc {bs : List Int} (h : IsB bs) (h0 : 0 ∈ bs) (hs : (fromB bs).sum ≤ 28) : Cyc (fromB bs) := by
  have hk := fromB_hL h h0 hs
  unfold hL at hk
  refine ⟨?_, fun i hi => ?_⟩
  · rw [hk]
    by_cases hlt : bs.length < (fromB bs).length
    · have := (getD_nonneg (fun x hx => (fromB_le h x hx).1) bs.length).2.2 hlt
      rw [fromB_getD h, if_neg (by omega)] at this
      omega
    · omega
  · rw [fromB_getD h, if_pos (by omega)]
    have : bs.getD i 0 = 0 ∨ bs.getD i 0 = 1 := by
      rw [List.getD_eq_getElem?_getD, List.getElem?_eq_getElem (by omega)]
      exact h _ (List.getElem_mem _)
    omega
theorem bits_zero {xs : List Int} (hg : Good xs) (h : Cyc xs) : 0 ∈ bitsL xs := by
  apply Classical.byContradiction
  intro hno
  have hB := bitsL_isB h
  have h1 : ∀ i, i < hL xs + 1 → (bitsL xs).getD i 0 = 1 := by
    intro i hi
    have hi' : i < (bitsL xs).length := by rw [bitsL_length]; exact hi
    rw [List.getD_eq_getElem?_getD, List.getElem?_eq_getElem hi']
    rcases hB _ (List.getElem_mem hi') with e | e
    · exact absurd (e ▸ List.getElem_mem hi') hno
    · exact e
  have hs : xs.length ≤ hL xs + 1 + 1 := by have := h.1; unfold hL; omega
  have hn := near_sum (hL xs + 1) xs hs (fun i hi => by
    by_cases hi' : i < hL xs + 1
    · have a := h1 i hi'
      rw [bitsL_getD _ _ hi'] at a
      omega
    · have e : i = hL xs + 1 := by omega
      subst e
      have := h.1
      rw [List.getD_eq_getElem?_getD, List.getElem?_eq_none (by unfold hL; omega)]
      simp)
  have hsum := sum_nonneg hg.1
  have := (tri_hgt xs.sum.toNat (by have := hg.2.2; omega))
  have ht := tri_succ (hL xs)
  unfold hL at *
  omega
theorem bits_from {bs : List Int} (h : IsB bs) (h0 : 0 ∈ bs) (hs : (fromB bs).sum ≤ 28) : bitsL (fromB bs) = bs := by
  have hk := fromB_hL h h0 hs
  apply list_ext_getD
  · rw [bitsL_length, hk]
  · intro i hi
    rw [bitsL_getD _ _ (by omega), fromB_getD h, if_pos hi]
    omega
theorem rotL_mem {bs : List Int} {x : Int} : x ∈ rotL bs ↔ x ∈ bs := by
  rcases List.eq_nil_or_concat bs with rfl | ⟨l, b, rfl⟩
  · exact Iff.rfl
  · rw [List.concat_eq_append, rotL_snoc]; simp; exact Or.comm
theorem cyc_step {xs : List Int} (hg : Good xs) (h : Cyc xs) : Cyc (stepL xs) := by
  have e := from_bits hg h
  have hB := bitsL_isB h
  have h0 := bits_zero hg h
  have hs := stepL_sum hg.1
  rw [← e, step_rot hB]
  refine fromB_cyc (rotL_isB hB) (rotL_mem.2 h0) ?_
  rw [← step_rot hB, e, hs]
  exact hg.2.2
theorem cyc_steps {xs : List Int} (hg : Good xs) (h : Cyc xs) (k : Nat) : Cyc (stepsL k xs) := by
  induction k with
  | zero => exact h
  | succ k ih => exact cyc_step (stepsL_good hg k) ih
/-- the whole ring -/
theorem cyc_round {xs : List Int} (hg : Good xs) (h : Cyc xs) : stepsL (hL xs + 1) xs = xs := by
  have e := from_bits hg h
  have hB := bitsL_isB h
  have : stepsL (hL xs + 1) (fromB (bitsL xs)) = fromB (bitsL xs) := by
    rw [steps_rot hB, ← bitsL_length, rotN_full]
  rwa [e] at this
theorem hL_le (xs : List Int) : hL xs ≤ 7 := hgt_le _

/-! ### The length of a cycle -/
def perL (z : List Int) : Nat := (((List.range 8).find? fun p => decide (stepsL (p + 1) z = z)).getD 7) + 1
theorem perL_spec {z : List Int} (hg : Good z) (h : Cyc z) : 1 ≤ perL z ∧ perL z ≤ hL z + 1 ∧ stepsL (perL z) z = z ∧ ∀ p, 0 < p → p < perL z → stepsL p z ≠ z := by
  have hr := cyc_round hg h
  have h7 := hL_le z
  unfold perL
  cases hf : (List.range 8).find? fun p => decide (stepsL (p + 1) z = z) with
  | none =>
    rw [List.find?_eq_none] at hf
    exact absurd (by simpa using hr) (hf (hL z) (List.mem_range.2 (by omega)))
  | some p =>
    have hp := List.find?_some hf
    simp only [Option.getD_some]
    rw [List.find?_range_eq_some] at hf
    refine ⟨by omega, ?_, by simpa using hp, fun q hq1 hq2 e => ?_⟩
    · apply Classical.byContradiction
      intro hc
      have := hf.2.2 (hL z) (by omega)
      simp [hr] at this
    · have := hf.2.2 (q - 1) (by omega)
      rw [show q - 1 + 1 = q by omega] at this
      simp [e] at this
theorem perL_unique {z : List Int} (hg : Good z) (h : Cyc z) {p : Nat} (h1 : 0 < p) (h2 : stepsL p z = z) (h3 : ∀ q, 0 < q → q < p → stepsL q z ≠ z) : p = perL z := by
  have hs := perL_spec hg h
  rcases Nat.lt_trichotomy p (perL z) with hl | he | hl
  · exact absurd h2 (hs.2.2.2 p h1 hl)
  · exact he
  · exact absurd hs.2.2.1 (h3 _ (by omega) hl)
theorem per_distinct {z : List Int} (hg : Good z) (h : Cyc z) {i j : Nat} (hij : i < j) (hj : j < perL z) : stepsL i z ≠ stepsL j z := by
  intro e
  have hs := perL_spec hg h
  have e1 : stepsL (perL z - j) (stepsL i z) = stepsL (perL z - j) (stepsL j z) := by rw [e]
  rw [← stepsL_plus, ← stepsL_plus, show perL z - j + j = perL z by omega, hs.2.2.1] at e1
  exact hs.2.2.2 (perL z - j + i) (by omega) (by omega) e1

/-! ### The tail -/
theorem nodup_len {α : Type} [BEq α] [LawfulBEq α] {l m : List α} (h : l.Nodup) (hs : ∀ x ∈ l, x ∈ m) : l.length ≤ m.length := by
  induction l generalizing m with
  | nil => simp
  | cons x l ih =>
    have hc := List.nodup_cons.1 h
    have hx := hs x (by simp)
    have := ih (m := m.erase x) hc.2 (fun y hy => by
      have hne : y ≠ x := fun e => hc.1 (e ▸ hy)
      exact (List.mem_erase_of_ne hne).2 (hs y (by simp [hy])))
    have hl := (List.perm_cons_erase hx).length_eq
    simp only [List.length_cons] at hl ⊢
    omega
theorem stepsL_mem {xs : List Int} (hg : Good xs) (k : Nat) : stepsL k xs ∈ allL xs.sum.toNat := by
  have := mem_allL (stepsL_good hg k)
  rwa [stepsL_sum hg k] at this
theorem allL_length {n : Nat} (hn : n ≤ 28) : (allL n).length = cnt n n := allF_length 28 n n hn hn hn
def runL (xs : List Int) (n : Nat) : List (List Int) := (List.range n).map fun i => stepsL i xs
theorem runL_length (xs : List Int) (n : Nat) : (runL xs n).length = n := by simp [runL]
theorem runL_succ (xs : List Int) (n : Nat) : runL xs (n + 1) = runL xs n ++ [stepsL n xs] := by
  unfold runL; rw [List.range_succ, List.map_append]; rfl
theorem runL_getD (xs : List Int) (n i : Nat) (h : i < n) : (runL xs n).getD i [] = stepsL i xs := by
  unfold runL
  rw [List.getD_eq_getElem?_getD, List.getElem?_map, List.getElem?_range h]; rfl
theorem runL_mem {xs ys : List Int} {n : Nat} : ys ∈ runL xs n ↔ ∃ i, i < n ∧ stepsL i xs = ys := by
  unfold runL
  rw [List.mem_map]
  constructor
  · rintro ⟨i, hi, e⟩; exact ⟨i, List.mem_range.1 hi, e⟩
  · rintro ⟨i, hi, e⟩; exact ⟨i, List.mem_range.2 hi, e⟩
/-- plays without piles that come again are short -/
theorem runL_short {xs : List Int} (hg : Good xs) {n : Nat} (h : (runL xs n).Nodup) : n ≤ 3718 := by
  have hs := sum_nonneg hg.1
  have hn : xs.sum.toNat ≤ 28 := by have := hg.2.2; omega
  have := nodup_len h (fun y hy => by
    obtain ⟨i, _, rfl⟩ := runL_mem.1 hy
    exact stepsL_mem hg i)
  rw [runL_length, allL_length hn] at this
  have := cnt_le xs.sum.toNat (by omega) xs.sum.toNat (by omega)
  omega
theorem reach_cyc {xs : List Int} (hg : Good xs) : ∃ k, k < 3719 ∧ Cyc (stepsL k xs) := by
  apply Classical.byContradiction
  intro hno
  have hd : ∀ n, n ≤ 3719 → (runL xs n).Nodup := by
    intro n
    induction n with
    | zero => intro _; exact List.nodup_nil
    | succ n ih =>
      intro hn
      rw [runL_succ, List.nodup_append]
      refine ⟨ih (by omega), by simp, ?_⟩
      intro a ha b hb
      rw [List.mem_singleton.1 hb]
      rintro rfl
      obtain ⟨i, hi, e⟩ := runL_mem.1 ha
      refine hno ⟨i, by omega, cyc_of_again (p := n - i) (stepsL_good hg i) (by omega) ?_⟩
      rw [← stepsL_plus, show n - i + i = n by omega, e]
  have := runL_short hg (hd 3719 (by omega))
  omega
def tailL (xs : List Int) : Nat := ((List.range 3719).find? fun k => cycB (stepsL k xs)).getD 0
theorem tailL_spec {xs : List Int} (hg : Good xs) : tailL xs ≤ 3718 ∧ Cyc (stepsL (tailL xs) xs) ∧ ∀ k, k < tailL xs → ¬ Cyc (stepsL k xs) := by
  obtain ⟨k, hk, hc⟩ := reach_cyc hg
  unfold tailL
  cases hf : (List.range 3719).find? fun k => cycB (stepsL k xs) with
  | none =>
    rw [List.find?_eq_none] at hf
    exact absurd (cyc_iff.2 hc) (hf k (List.mem_range.2 hk))
  | some p =>
    have hp := List.find?_some hf
    rw [List.find?_range_eq_some] at hf
    simp only [Option.getD_some]
    have := List.mem_range.1 hf.2.1
    refine ⟨by omega, cyc_iff.1 hp, fun q hq hcq => ?_⟩
    have := hf.2.2 q hq
    rw [cyc_iff.2 hcq] at this
    simp at this
theorem tailL_unique {xs : List Int} (hg : Good xs) {k : Nat} (h1 : Cyc (stepsL k xs)) (h2 : ∀ q, q < k → ¬ Cyc (stepsL q xs)) : tailL xs = k := by
  have hs := tailL_spec hg
  rcases Nat.lt_trichotomy (tailL xs) k with hl | he | hl
  · exact absurd hs.2.1 (h2 _ hl)
  · exact he
  · exact absurd h1 (hs.2.2 _ hl)
theorem cyc_from {xs : List Int} (hg : Good xs) {k : Nat} (hk : tailL xs ≤ k) : Cyc (stepsL k xs) := by
  have := cyc_steps (stepsL_good hg (tailL xs)) (tailL_spec hg).2.1 (k - tailL xs)
  rwa [← stepsL_plus, show k - tailL xs + tailL xs = k by omega] at this
theorem tail_step {xs : List Int} (hg : Good xs) (h : ¬ Cyc xs) : tailL xs = tailL (stepL xs) + 1 := by
  have hs := tailL_spec (stepL_good hg)
  apply tailL_unique hg
  · rw [stepsL_front]; exact hs.2.1
  · intro q hq
    cases q with
    | zero => exact h
    | succ q => rw [stepsL_front]; exact hs.2.2 q (by omega)
theorem tail_cyc {xs : List Int} (hg : Good xs) : tailL xs = 0 ↔ Cyc xs := by
  constructor
  · intro h; have := (tailL_spec hg).2.1; rw [h] at this; exact this
  · intro h; exact tailL_unique hg h (fun q hq => by omega)

/-! ### The cycle -/
def endL (xs : List Int) : List Int := stepsL (tailL xs) xs
theorem endL_good {xs : List Int} (hg : Good xs) : Good (endL xs) := stepsL_good hg _
theorem endL_cyc {xs : List Int} (hg : Good xs) : Cyc (endL xs) := (tailL_spec hg).2.1
def cycL (xs : List Int) : List (List Int) := runL (endL xs) (perL (endL xs))
/-- the first piles that come again -/
theorem first_again {xs : List Int} (hg : Good xs) {i j : Nat} (hij : i < j) (he : stepsL i xs = stepsL j xs) (hd : (runL xs j).Nodup) : i = tailL xs ∧ j = tailL xs + perL (endL xs) := by
  have hci : Cyc (stepsL i xs) := cyc_of_again (p := j - i) (stepsL_good hg i) (by omega) (by rw [← stepsL_plus, show j - i + i = j by omega, he])
  have ht := tailL_spec hg
  have hti : tailL xs ≤ i := Nat.le_of_not_lt fun hl => ht.2.2 i hl hci
  have hp := perL_spec (endL_good hg) (endL_cyc hg)
  have hdd : ∀ a b, a < b → b < j → stepsL a xs ≠ stepsL b xs := by
    intro a b hab hb e
    have h1 : (runL xs j)[a]? = some (stepsL a xs) := by unfold runL; rw [List.getElem?_map, List.getElem?_range (by omega)]; rfl
    have h2 : (runL xs j)[b]? = some (stepsL b xs) := by unfold runL; rw [List.getElem?_map, List.getElem?_range (by omega)]; rfl
    obtain ⟨l1, e1⟩ := List.getElem?_eq_some_iff.1 h1
    obtain ⟨l2, e2⟩ := List.getElem?_eq_some_iff.1 h2
    have := List.pairwise_iff_getElem.1 hd a b l1 l2 hab
    rw [e1, e2] at this
    exact this e
  have hlow : j ≤ tailL xs + perL (endL xs) := by
    apply Nat.le_of_not_lt
    intro hl
    apply hdd (tailL xs) (tailL xs + perL (endL xs)) (by omega) hl
    rw [Nat.add_comm, stepsL_plus]
    exact hp.2.2.1.symm
  by_cases hjj : j < tailL xs + perL (endL xs)
  · have := per_distinct (endL_good hg) (endL_cyc hg) (i := i - tailL xs) (j := j - tailL xs) (by omega) (by omega)
    unfold endL at this
    rw [← stepsL_plus, ← stepsL_plus, show i - tailL xs + tailL xs = i by omega, show j - tailL xs + tailL xs = j by omega] at this
    exact absurd he this
  · have hj : j = tailL xs + perL (endL xs) := by omega
    refine ⟨?_, hj⟩
    by_cases hi : i = tailL xs
    · exact hi
    · have := per_distinct (endL_good hg) (endL_cyc hg) (i := 0) (j := i - tailL xs) (by omega) (by omega)
      unfold endL at this
      rw [← stepsL_plus, ← stepsL_plus, show i - tailL xs + tailL xs = i by omega, Nat.zero_add] at this
      apply absurd _ this
      rw [he, hj, Nat.add_comm (tailL xs), stepsL_plus]
      exact hp.2.2.1.symm
theorem cycL_drop {xs : List Int} (hg : Good xs) : (runL xs (tailL xs + perL (endL xs))).drop (tailL xs) = cycL xs := by
  unfold cycL
  apply List.ext_getElem
  · rw [List.length_drop, runL_length, runL_length]; omega
  · intro i h1 h2
    rw [List.getElem_drop]
    simp only [runL, List.getElem_map, List.getElem_range]
    unfold endL
    rw [← stepsL_plus, Nat.add_comm]
theorem runL_nodup {xs : List Int} (hg : Good xs) : (runL xs (tailL xs + perL (endL xs))).Nodup := by
  unfold List.Nodup
  rw [List.pairwise_iff_getElem]
  intro i j hi hj hij
  simp only [runL_length] at hi hj
  simp only [runL, List.getElem_map, List.getElem_range]
  intro e
  have hci : Cyc (stepsL i xs) := cyc_of_again (p := j - i) (stepsL_good hg i) (by omega) (by rw [← stepsL_plus, show j - i + i = j by omega, e])
  have ht := tailL_spec hg
  have hti : tailL xs ≤ i := Nat.le_of_not_lt fun hl => ht.2.2 i hl hci
  have := per_distinct (endL_good hg) (endL_cyc hg) (i := i - tailL xs) (j := j - tailL xs) (by omega) (by omega)
  unfold endL at this
  rw [← stepsL_plus, ← stepsL_plus, show i - tailL xs + tailL xs = i by omega, show j - tailL xs + tailL xs = j by omega] at this
  exact this e
end Go.Proofs.YthmaggmhcfcojaaDoor
