/- Several texts in one: BsM, BsX. No condition. -/
import Derived.Test.YtbkihnejgcebpaaBaM
import Derived.Test.YtbkihnejgcebpaaBaJ
import Derived.Test.YtbkihnejgcebpaaGa
import Derived.Test.YtbkihnejgcebpaaBaU
import Derived.Test.YtbkihnejgcebpaaBaG
import Derived.Test.YtbkihnejgcebpaaBaQ
import Derived.Test.YtbkihnejgcebpaaGh
namespace Go.Proofs.Ytbkihnejgcebpaa
section
set_option linter.unusedVariables false
set_option linter.unusedSimpArgs false

theorem agesL_at (b : Bk) {i : Nat} (hi : i < b.h.toNat) : (agesL b).getD i 0 = ((b.p.countP fun x => decide (b.h - x = i) : Nat) : Int) := by
  unfold agesL
  rw [agesT_getD b _ hi]
  unfold ageI
  rw [List.take_length]
theorem agesL_length (b : Bk) : (agesL b).length = b.h.toNat := agesT_length b _
theorem count_none {l : List Int} {P : Int → Bool} (h : ∀ x ∈ l, P x = false) : l.countP P = 0 := by
  rw [List.countP_eq_zero]
  intro x hx
  rw [h x hx]
  simp
theorem ages_zero {b : Bk} (h : BankOk b) : (agesL (stepB b)).getD 0 0 = madeB b := by
  have h1 : 1 ≤ b.h ∧ b.h ≤ 10 := h.1
  have h0 : (stepB b).h = b.h := rfl
  have hm := step_ok h
  rw [agesL_at (stepB b) (by rw [h0]; omega), h0]
  show ((List.countP _ (List.replicate ((b.l + b.p.length) / b.h).toNat b.h ++ lowL b.p) : Nat) : Int) = (b.l + b.p.length) / b.h
  rw [List.countP_append, List.countP_replicate, if_pos (by simp), count_none (l := lowL b.p) (fun x hx => by
    obtain ⟨y, hy, h2, rfl⟩ := lowL_mem hx
    have := h.le hy
    apply decide_eq_false
    simp
    omega)]
  have : 0 ≤ (b.l + b.p.length) / b.h := hm.2.2.1
  omega
theorem ages_next {b : Bk} (h : BankOk b) {i : Nat} (hi : i + 1 < b.h.toNat) : (agesL (stepB b)).getD (i + 1) 0 = (agesL b).getD i 0 := by
  have h1 : 1 ≤ b.h ∧ b.h ≤ 10 := h.1
  have h0 : (stepB b).h = b.h := rfl
  rw [agesL_at (stepB b) (by rw [h0]; omega), agesL_at b (by omega), h0]
  show ((List.countP _ (List.replicate ((b.l + b.p.length) / b.h).toNat b.h ++ lowL b.p) : Nat) : Int) = _
  rw [List.countP_append, List.countP_replicate, if_neg (by simp; omega), Nat.zero_add]
  congr 1
  unfold lowL
  rw [List.countP_map, List.countP_filter]
  apply List.countP_congr
  intro x hx
  have := h.le hx
  simp only [Function.comp, Bool.and_eq_true, decide_eq_true_eq]
  constructor
  · intro q; omega
  · intro q; constructor <;> omega
theorem step_left {b : Bk} (h : BankOk b) : (stepB b).l + madeB b * b.h = b.l + b.p.length := by
  show (b.l + b.p.length) % b.h + (b.l + b.p.length) / b.h * b.h = _
  rw [Int.mul_comm]
  have := Int.mul_ediv_add_emod (b.l + b.p.length) b.h
  omega
/-- the piles of one height in sorted piles -/
theorem sorted_part {p : List Int} (hs : p.Pairwise (· ≥ ·)) (t : Int) : p.filter (fun x => decide (t - 1 < x)) = p.filter (fun x => decide (t < x)) ++ List.replicate (p.countP fun x => decide (x = t)) t := by
  induction p with
  | nil => rfl
  | cons a l ih =>
    have hc := List.pairwise_cons.1 hs
    by_cases h1 : t < a
    · rw [List.filter_cons_of_pos (by simp; omega), List.filter_cons_of_pos (by simpa using h1), List.countP_cons_of_neg (by simp; omega), ih hc.2]; rfl
    · by_cases h2 : a = t
      · subst h2
        have hz : l.filter (fun x => decide (a < x)) = [] := by
          rw [List.filter_eq_nil_iff]
          intro x hx
          have : a ≥ x := hc.1 x hx
          simp; omega
        rw [List.filter_cons_of_pos (by simp; omega), List.filter_cons_of_neg (by simp), List.countP_cons_of_pos (by simp), ih hc.2, hz, List.replicate_succ]
        rfl
      · have hz : ∀ s, a ≤ s → (a :: l).filter (fun x => decide (s < x)) = [] := fun s hs => by
          rw [List.filter_eq_nil_iff]
          intro x hx
          rcases List.mem_cons.1 hx with rfl | hm
          · simp; omega
          · have : a ≥ x := hc.1 x hm
            simp; omega
        rw [hz (t - 1) (by omega), hz t (by omega), count_none (fun x hx => by
          rcases List.mem_cons.1 hx with rfl | hm
          · exact decide_eq_false h2
          · have : a ≥ x := hc.1 x hm
            exact decide_eq_false (by omega))]
        rfl
theorem fromA_ages {b : Bk} (h : BankOk b) : ∀ k, k ≤ b.h.toNat → fromA b.h (agesL b) k = b.p.filter (fun x => decide (b.h - k < x))
  | 0, _ => by
    symm
    show List.filter _ _ = []
    rw [List.filter_eq_nil_iff]
    intro x hx
    have := h.le hx
    simp; omega
  | k + 1, hk => by
    have ih := fromA_ages h k (by omega)
    show fromA b.h (agesL b) k ++ List.replicate ((agesL b).getD k 0).toNat (b.h - k) = _
    rw [ih, agesL_at b (by omega), Int.toNat_natCast]
    have := sorted_part h.2.2.1.2.1 (b.h - k)
    rw [show b.h - ((k + 1 : Nat) : Int) = b.h - k - 1 by omega, this]
    congr 2
    apply List.countP_congr
    intro x _
    simp only [decide_eq_true_eq]
    omega
theorem ages_back {b : Bk} (h : BankOk b) : mFromAges b.h b.l (agesL b) = (b, true) := by
  have h1 : 1 ≤ b.h ∧ b.h ≤ 10 := h.1
  have hl := agesL_length b
  have hf : fromA b.h (agesL b) (agesL b).length = b.p := by
    rw [hl, fromA_ages h _ (Nat.le_refl _), List.filter_eq_self.2]
    intro x hx
    have := h.le hx
    simp; omega
  have ho : agesOk (agesL b) := fun x hx => by
    obtain ⟨i, hi, rfl⟩ := List.getElem_of_mem hx
    have h2 := agesT_getD b b.p.length (i := i) (by omega)
    have h3 := ageI_bound b b.p.length i
    have h4 := h.len
    have h5 : (agesL b).getD i 0 = (agesL b)[i] := by rw [List.getD_eq_getElem?_getD, List.getElem?_eq_getElem hi]; rfl
    rw [← h5]
    show 0 ≤ (agesT b b.p.length).getD i 0 ∧ (agesT b b.p.length).getD i 0 ≤ 28
    rw [h2]
    omega
  unfold mFromAges
  rw [hf, if_pos ⟨⟨h1, by rw [hl]; omega, ho⟩, h⟩]
theorem count_from (h : Int) (ages : List Int) (ho : agesOk ages) (i : Nat) : ∀ k, k ≤ ages.length → (((fromA h ages k).countP fun x => decide (h - x = i) : Nat) : Int) = if i < k then ages.getD i 0 else 0
  | 0, _ => rfl
  | k + 1, hk => by
    have ih := count_from h ages ho i k (by omega)
    show ((List.countP _ (fromA h ages k ++ List.replicate (ages.getD k 0).toNat (h - k)) : Nat) : Int) = _
    rw [List.countP_append, List.countP_replicate]
    have hx : 0 ≤ ages.getD k 0 := by
      rw [List.getD_eq_getElem?_getD, List.getElem?_eq_getElem (by omega)]
      exact (ho _ (List.getElem_mem _)).1
    by_cases hik : i = k
    · subst hik
      rw [if_pos (by simp; omega), if_pos (by omega)]
      rw [if_neg (Nat.lt_irrefl _)] at ih
      push_cast
      rw [ih]
      omega
    · rw [if_neg (by simp; omega)]
      by_cases h2 : i < k
      · rw [if_pos h2] at ih; rw [if_pos (by omega)]; push_cast; omega
      · rw [if_neg h2] at ih; rw [if_neg (by omega)]; push_cast; omega
theorem ages_of_from {h l : Int} {ages : List Int} (hf : (mFromAges h l ages).2 = true) : BankOk (mFromAges h l ages).1 ∧ agesL (mFromAges h l ages).1 = ages := by
  unfold mFromAges at hf ⊢
  split at hf
  · next q =>
    rw [if_pos q]
    obtain ⟨⟨h1, h2, h3⟩, hk⟩ := q
    refine ⟨hk, ?_⟩
    have hl := agesL_length ⟨h, l, fromA h ages ages.length⟩
    apply List.ext_getElem
    · rw [hl]; show h.toNat = _; omega
    · intro i g1 g2
      have e1 := agesL_at ⟨h, l, fromA h ages ages.length⟩ (i := i) (by show i < h.toNat; omega)
      have e2 := count_from h ages h3 i ages.length (Nat.le_refl _)
      rw [if_pos g2] at e2
      have e3 : (agesL ⟨h, l, fromA h ages ages.length⟩).getD i 0 = (agesL ⟨h, l, fromA h ages ages.length⟩)[i] := by rw [List.getD_eq_getElem?_getD, List.getElem?_eq_getElem g1]; rfl
      have e4 : ages.getD i 0 = ages[i] := by rw [List.getD_eq_getElem?_getD, List.getElem?_eq_getElem g2]; rfl
      rw [← e3, ← e4, e1]
      exact e2
  · cases hf
end
end Go.Proofs.Ytbkihnejgcebpaa
namespace Go.Proofs.Ytbkihnejgcebpaa
section
open Go.RowKit
set_option linter.unusedVariables false
set_option linter.unusedSimpArgs false
theorem mCards_yes {b : Bk} (h : BankOk b) : mBankCards b = (b.l + b.p.sum, true) := by unfold mBankCards; rw [if_pos (bank_iff.2 h)]
theorem mAges_yes {b : Bk} (h : BankOk b) : mAgesOf b = (agesL b, true) := by unfold mAgesOf; rw [if_pos (bank_iff.2 h)]
theorem start_fact (m k : Int) (h : (mStartBank m k).2 = true) : (mStartBank m k).1.h = m ∧ BankOk (mStartBank m k).1 ∧ (mStartBank m k).1.l + (mStartBank m k).1.p.sum = k := by
  unfold mStartBank at h ⊢
  split at h
  · next q =>
    rw [if_pos q]
    have := fill_ok (h := m) (c := k) (older := []) q.1 q.2.1 (fun x hx => by cases hx) List.Pairwise.nil (by simp; omega)
    exact ⟨rfl, this.1, by have e := this.2.1; simpa using e⟩
  · cases h
end
end Go.Proofs.Ytbkihnejgcebpaa
