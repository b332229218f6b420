/- Chapter 1: what the laws that are not exact ask of steps, sides, pasts, lists and ranks: plain mathematics. No condition. -/
import Derived.Test.YthmaggmhcfcojaaDoorAllM
namespace Go.Proofs.YthmaggmhcfcojaaDoor
set_option linter.unusedVariables false
set_option linter.unusedSimpArgs false

/-! ### Steps -/
theorem stepsL_front (k : Nat) (xs : List Int) : stepsL (k + 1) xs = stepsL k (stepL xs) := by
  induction k with
  | zero => rfl
  | succ k ih => show stepL (stepsL (k + 1) xs) = stepL (stepsL k (stepL xs)); rw [ih]
theorem stepsL_sum {xs : List Int} (h : Good xs) (k : Nat) : (stepsL k xs).sum = xs.sum := by
  induction k with
  | zero => rfl
  | succ k ih => show (stepL (stepsL k xs)).sum = _; rw [stepL_sum (stepsL_good h k).1, ih]

/-! ### Sides -/
theorem side_headD {xs : List Int} (h : Good xs) : (sideL xs).headD 0 = xs.length := by
  rw [head_getD]
  cases xs with
  | nil => rfl
  | cons a l =>
    have ha := h.1 a (by simp)
    rw [sideL_getD _ _ (by simp only [List.headD_cons]; omega)]
    unfold above
    rw [List.countP_eq_length.2 (fun x hx => by have := h.1 x hx; simp; omega)]
theorem side_side {xs : List Int} (h : Good xs) : sideL (sideL xs) = xs := by
  have hl := side_headD h
  apply List.ext_getElem
  · rw [sideL_length, hl]; simp
  · intro i h1 h2
    have h3 : i < ((sideL xs).headD 0).toNat := by rw [hl]; simpa using h2
    have e := sideL_getD (sideL xs) i h3
    rw [List.getD_eq_getElem?_getD, List.getElem?_eq_getElem h1] at e
    simp only [Option.getD_some] at e
    rw [e, above_side h.2.1 (fun x hx => by have := h.1 x hx; omega), List.getD_eq_getElem?_getD, List.getElem?_eq_getElem h2]
    rfl
theorem side_sum {xs : List Int} (h : Good xs) : (sideL xs).sum = xs.sum := by
  have := sum_above xs (xs.headD 0).toNat (fun x hx => by have := good_le_head h hx; have := h.1 x hx; have := h.head; omega)
  exact this

/-! ### Order -/
theorem befB_irrefl (a : List Int) : befB a a = false := by
  induction a with
  | nil => rfl
  | cons x l ih => simp only [befB, if_true]; exact ih
theorem befB_total {a b : List Int} (h : befB a b = false) : a = b ∨ befB b a = true := by
  induction a generalizing b with
  | nil => cases b with
    | nil => exact .inl rfl
    | cons y m => exact .inr rfl
  | cons x l ih => cases b with
    | nil => simp [befB] at h
    | cons y m =>
      simp only [befB] at h ⊢
      by_cases hxy : x = y
      · subst hxy
        simp only [if_true] at h ⊢
        rcases ih h with rfl | h
        · exact .inl rfl
        · exact .inr h
      · rw [if_neg hxy] at h
        rw [if_neg (fun e => hxy e.symm)]
        right
        rw [decide_eq_false_iff_not] at h
        rw [decide_eq_true_iff]
        omega
theorem nodup_of_bef {l : List (List Int)} (h : l.Pairwise (fun a b => befB a b = true)) : l.Nodup :=
  h.imp (fun {a b} hab e => by subst e; rw [befB_irrefl] at hab; cases hab)

/-! ### Pasts -/
theorem past_low {xs : List Int} (hg : Good xs) (x : Int) : lowL (pastL xs x) = xs.erase x := by
  unfold lowL pastL
  rw [List.filter_append, List.map_append]
  have h1 : ((xs.erase x).map (· + 1)).filter (fun x => decide (1 < x)) = (xs.erase x).map (· + 1) := by
    rw [List.filter_eq_self]
    intro y hy
    obtain ⟨z, hz, rfl⟩ := List.mem_map.1 hy
    have := hg.1 z (List.mem_of_mem_erase hz)
    simp; omega
  have h2 : (List.replicate (x.toNat - (xs.length - 1)) (1 : Int)).filter (fun x => decide (1 < x)) = [] := by
    rw [List.filter_eq_nil_iff]
    intro y hy
    rw [List.mem_replicate] at hy
    simp; omega
  rw [h1, h2, List.map_map, List.map_nil, List.append_nil]
  conv => rhs; rw [← List.map_id (xs.erase x)]
  apply List.map_congr_left
  intro a _
  simp
theorem past_length {xs : List Int} {x : Int} (hx : x ∈ xs) (h1 : (xs.length : Int) - 1 ≤ x) (h0 : 1 ≤ x) : ((pastL xs x).length : Int) = x := by
  have hl := (List.perm_cons_erase hx).length_eq
  simp only [List.length_cons] at hl
  unfold pastL
  rw [List.length_append, List.length_map, List.length_replicate]
  omega
theorem past_step {xs : List Int} (hg : Good xs) {x : Int} (hx : x ∈ xs) (h1 : (xs.length : Int) - 1 ≤ x) : stepL (pastL xs x) = xs := by
  have h0 := hg.1 x hx
  have hl := past_length hx h1 h0
  have hne : pastL xs x ≠ [] := fun e => by rw [e] at hl; simp at hl; omega
  rw [stepL_cons hne, past_low hg, hl]
  rw [sortD_perm_eq (show (xs.erase x ++ [x]).Perm xs from List.perm_append_comm.trans (List.perm_cons_erase hx).symm), sortD_of_sorted hg.2.1]
theorem pasts_sound {xs ys : List Int} (hg : Good xs) (h : ys ∈ pastsL xs) : stepL ys = xs ∧ Good ys := by
  unfold pastsL at h
  split at h
  · next e => rw [List.mem_singleton.1 h, e]; exact ⟨rfl, good_nil⟩
  · obtain ⟨x, hx, h1, rfl⟩ := pastsOf_mem h
    exact ⟨past_step hg (ascL_mem hx) h1, past_good hg x (ascL_mem hx) h1⟩
theorem mem_ascL {xs : List Int} {x : Int} (h : x ∈ xs) : x ∈ ascL xs := by
  induction xs with
  | nil => cases h
  | cons a l ih =>
    rw [show ascL (a :: l) = ascL l ++ (if l.head? = some a then [] else [a]) from rfl, List.mem_append]
    rcases List.mem_cons.1 h with rfl | h
    · by_cases hh : l.head? = some x
      · exact .inl (ih (List.mem_of_head? hh))
      · rw [if_neg hh]; exact .inr (by simp)
    · exact .inl (ih h)
theorem mem_pasts {xs : List Int} {x : Int} (h : x ∈ xs) (h1 : (xs.length : Int) - 1 ≤ x) : pastL xs x ∈ pastsL xs := by
  unfold pastsL
  rw [if_neg (fun e => by rw [e] at h; cases h)]
  unfold pastsOf
  exact List.mem_map.2 ⟨x, List.mem_filter.2 ⟨mem_ascL h, by simpa using h1⟩, rfl⟩
theorem ascL_up {xs : List Int} (h : xs.Pairwise (· ≥ ·)) : (ascL xs).Pairwise (· < ·) := by
  induction xs with
  | nil => exact List.Pairwise.nil
  | cons a l ih =>
    rw [List.pairwise_cons] at h
    rw [show ascL (a :: l) = ascL l ++ (if l.head? = some a then [] else [a]) from rfl, List.pairwise_append]
    refine ⟨ih h.2, ?_, ?_⟩
    · split <;> simp
    · intro x hx y hy
      split at hy
      · cases hy
      · next hne =>
        rw [List.mem_singleton.1 hy]
        have hxl := ascL_mem hx
        cases l with
        | nil => cases hxl
        | cons b m =>
          have hb : b ≤ a := h.1 b (by simp)
          have hba : b ≠ a := fun e => hne (by rw [e]; rfl)
          have hxb : x ≤ b := by
            rcases List.mem_cons.1 hxl with rfl | hm
            · exact Int.le_refl _
            · exact (List.pairwise_cons.1 h.2).1 x hm
          omega
theorem pasts_up {xs : List Int} (hg : Good xs) : (pastsL xs).Pairwise (fun a b => befB a b = true) := by
  unfold pastsL
  split
  · exact List.pairwise_singleton _ _
  · unfold pastsOf
    rw [List.pairwise_map, List.pairwise_filter]
    refine (ascL_up hg.2.1).imp_of_mem ?_
    intro y x hy hx hyx h1 h2
    have hym := ascL_mem hy
    have hxm := ascL_mem hx
    have h1' : (xs.length : Int) - 1 ≤ y := by simpa using h1
    have h2' : (xs.length : Int) - 1 ≤ x := by simpa using h2
    rcases befB_total (past_order hg.2.1 hxm hym hyx (List.replicate (x.toNat - (xs.length - 1)) 1) (List.replicate (y.toNat - (xs.length - 1)) 1)) with e | e
    · have hly := past_length hym h1' (hg.1 y hym)
      have hlx := past_length hxm h2' (hg.1 x hxm)
      have : pastL xs x = pastL xs y := e
      rw [this] at hlx
      omega
    · exact e
theorem erase_sorted {xs : List Int} (h : xs.Pairwise (· ≥ ·)) (x : Int) : (xs.erase x).Pairwise (· ≥ ·) := h.sublist List.erase_sublist
theorem up_low {p : List Int} (h0 : ∀ x ∈ p, 1 ≤ x) (hs : p.Pairwise (· ≥ ·)) : (lowL p).map (· + 1) ++ List.replicate (p.length - (lowL p).length) 1 = p := by
  induction p with
  | nil => rfl
  | cons a l ih =>
    have hc := List.pairwise_cons.1 hs
    have ha := h0 a (by simp)
    have hl := ih (fun x hx => h0 x (by simp [hx])) hc.2
    have hll := lowL_length l
    by_cases h1 : 1 < a
    · have e : lowL (a :: l) = (a - 1) :: lowL l := by unfold lowL; rw [List.filter_cons_of_pos (by simpa using h1)]; rfl
      rw [e]
      simp only [List.map_cons, List.length_cons, List.cons_append]
      rw [show l.length + 1 - ((lowL l).length + 1) = l.length - (lowL l).length by omega, hl]
      congr 1
      omega
    · have ha1 : a = 1 := by omega
      subst ha1
      have hone : ∀ x ∈ l, x = 1 := fun x hx => by have := hc.1 x hx; have := h0 x (by simp [hx]); omega
      have e1 : lowL l = [] := by
        unfold lowL
        rw [List.filter_eq_nil_iff.2 (fun x hx => by rw [hone x hx]; decide)]; rfl
      have e : lowL (1 :: l) = [] := by
        unfold lowL
        rw [List.filter_cons_of_neg (by decide), List.filter_eq_nil_iff.2 (fun x hx => by rw [hone x hx]; decide)]; rfl
      rw [e]
      simp only [List.map_nil, List.nil_append, List.length_nil, Nat.sub_zero, List.length_cons, List.replicate_succ]
      rw [e1] at hl
      simp only [List.map_nil, List.nil_append, List.length_nil, Nat.sub_zero] at hl
      rw [hl]
theorem past_of_step {p xs : List Int} (hp : Good p) (h : stepL p = xs) : p ∈ pastsL xs := by
  by_cases hne : p = []
  · subst hne; rw [stepL_nil] at h; subst h; simp [pastsL]
  · rw [stepL_cons hne] at h
    have hperm : xs.Perm (lowL p ++ [(p.length : Int)]) := by rw [← h]; exact sortD_perm _
    have hs : xs.Pairwise (· ≥ ·) := by rw [← h]; exact sortD_sorted _
    have hm : (p.length : Int) ∈ xs := hperm.mem_iff.2 (by simp)
    have hlen := hperm.length_eq
    rw [List.length_append, List.length_singleton] at hlen
    have hll := lowL_length p
    have he : xs.erase (p.length : Int) = lowL p := by
      apply sorted_unique (erase_sorted hs _) (lowL_sorted hp.2.1)
      have h1 := (List.perm_cons_erase hm).symm.trans (hperm.trans List.perm_append_comm)
      exact List.Perm.cons_inv h1
    have hpe : pastL xs (p.length : Int) = p := by
      unfold pastL
      rw [he, hlen, Int.toNat_natCast, show p.length - ((lowL p).length + 1 - 1) = p.length - (lowL p).length by omega]
      exact up_low hp.1 hp.2.1
    have := mem_pasts hm (show (xs.length : Int) - 1 ≤ p.length by omega)
    rwa [hpe] at this

/-! ### All piles -/
theorem mem_downs {m x : Nat} (h1 : 1 ≤ x) (h2 : x ≤ m) : x ∈ downs m := by
  induction m with
  | zero => omega
  | succ m ih =>
    unfold downs
    by_cases h : x = m + 1
    · subst h; exact List.mem_cons_self
    · exact List.mem_cons_of_mem _ (ih (by omega))
theorem downs_down (m : Nat) : (downs m).Pairwise (· > ·) := by
  induction m with
  | zero => exact List.Pairwise.nil
  | succ m ih => exact List.pairwise_cons.2 ⟨fun x hx => by have := downs_mem hx; omega, ih⟩
theorem allF_succ (f n most : Nat) (hn : n ≠ 0) : allF (f + 1) n most = (downs (min n most)).flatMap fun x => (allF f (n - x) x).map ((x : Int) :: ·) := by simp [allF, hn]
theorem mem_allF (f : Nat) : ∀ (n most : Nat) (xs : List Int), n ≤ f → (∀ x ∈ xs, 1 ≤ x) → xs.Pairwise (· ≥ ·) → (∀ x ∈ xs, x ≤ most) → xs.sum = n → xs ∈ allF f n most := by
  induction f with
  | zero =>
    intro n most xs hn h1 hs hm hsum
    have hl := sum_nonneg h1
    have : xs = [] := List.eq_nil_of_length_eq_zero (by omega)
    subst this
    have : n = 0 := by omega
    subst this
    simp [allF]
  | succ f ih =>
    intro n most xs hn h1 hs hm hsum
    by_cases hz : n = 0
    · subst hz
      have hl := sum_nonneg h1
      have : xs = [] := List.eq_nil_of_length_eq_zero (by omega)
      subst this
      rw [allF_zero]; simp
    · rw [allF_succ f n most hz]
      cases xs with
      | nil => simp at hsum; omega
      | cons x l =>
        have hx1 := h1 x (by simp)
        have hxm := hm x (by simp)
        obtain ⟨X, rfl⟩ := Int.eq_ofNat_of_zero_le (show 0 ≤ x by omega)
        have hl := sum_nonneg (fun y hy => h1 y (List.mem_cons_of_mem _ hy))
        rw [List.sum_cons] at hsum
        refine List.mem_flatMap.2 ⟨X, mem_downs (by omega) (by omega), List.mem_map.2 ⟨l, ih (n - X) X l (by omega) (fun y hy => h1 y (by simp [hy])) (List.pairwise_cons.1 hs).2 (fun y hy => (List.pairwise_cons.1 hs).1 y hy) (by omega), rfl⟩⟩
theorem allF_sound (f : Nat) : ∀ (n most : Nat) (xs : List Int), n ≤ f → xs ∈ allF f n most → (∀ x ∈ xs, 1 ≤ x) ∧ xs.Pairwise (· ≥ ·) ∧ (∀ x ∈ xs, x ≤ most) ∧ xs.sum = n := by
  induction f with
  | zero =>
    intro n most xs hn h
    obtain rfl : n = 0 := by omega
    rw [allF_zero] at h
    rw [List.mem_singleton.1 h]
    simp
  | succ f ih =>
    intro n most xs hn h
    by_cases hz : n = 0
    · subst hz
      rw [allF_zero] at h
      rw [List.mem_singleton.1 h]
      simp
    · rw [allF_succ f n most hz] at h
      obtain ⟨x, hx, hy⟩ := List.mem_flatMap.1 h
      obtain ⟨zs, hzs, rfl⟩ := List.mem_map.1 hy
      have hd := downs_mem hx
      obtain ⟨a, b, c, d⟩ := ih (n - x) x zs (by omega) hzs
      refine ⟨fun y hy => ?_, List.pairwise_cons.2 ⟨fun y hy => c y hy, b⟩, fun y hy => ?_, by rw [List.sum_cons]; omega⟩
      · rcases List.mem_cons.1 hy with rfl | hy
        · omega
        · exact a y hy
      · rcases List.mem_cons.1 hy with rfl | hy
        · omega
        · have := c y hy; omega
theorem allF_up (f : Nat) : ∀ (n most : Nat), (allF f n most).Pairwise (fun a b => befB a b = true) := by
  induction f with
  | zero =>
    intro n most
    unfold allF
    split
    · exact List.pairwise_singleton _ _
    · exact List.Pairwise.nil
  | succ f ih =>
    intro n most
    by_cases hz : n = 0
    · subst hz; rw [allF_zero]; exact List.pairwise_singleton _ _
    · rw [allF_succ f n most hz, List.pairwise_flatMap]
      refine ⟨fun x hx => ?_, (downs_down _).imp ?_⟩
      · rw [List.pairwise_map]
        exact (ih (n - x) x).imp (fun {a b} h => by simp only [befB, if_true]; exact h)
      · intro x y hxy p hp q hq
        obtain ⟨p', _, rfl⟩ := List.mem_map.1 hp
        obtain ⟨q', _, rfl⟩ := List.mem_map.1 hq
        simp only [befB]
        rw [if_neg (by omega)]
        simp; omega
theorem mem_allL {xs : List Int} (h : Good xs) : xs ∈ allL xs.sum.toNat := by
  have hs := sum_nonneg h.1
  exact mem_allF 28 _ _ xs (by have := h.2.2; omega) h.1 h.2.1 (fun x hx => by have := mem_le_sum h.1 hx; omega) (by omega)
theorem allL_good {n : Nat} (hn : n ≤ 28) {xs : List Int} (h : xs ∈ allL n) : Good xs ∧ xs.sum = n := by
  obtain ⟨a, b, _, d⟩ := allF_sound 28 n n xs hn h
  exact ⟨⟨a, b, by omega⟩, d⟩
theorem allL_up (n : Nat) : (allL n).Pairwise (fun a b => befB a b = true) := allF_up 28 n n
/-- as many of the piles step to these as these have pasts -/
theorem pasts_count {xs : List Int} (h : Good xs) : ((allL xs.sum.toNat).filter (fun p => decide (stepL p = xs))).length = (pastsL xs).length := by
  have hs := sum_nonneg h.1
  have hp : ((allL xs.sum.toNat).filter (fun p => decide (stepL p = xs))).Perm (pastsL xs) := by
    rw [List.perm_ext_iff_of_nodup ((nodup_of_bef (allL_up _)).filter _) (nodup_of_bef (pasts_up h))]
    intro p
    rw [List.mem_filter]
    constructor
    · rintro ⟨hp, he⟩
      exact past_of_step (allL_good (by have := h.2.2; omega) hp).1 (by simpa using he)
    · intro hp
      obtain ⟨he, hg⟩ := pasts_sound h hp
      refine ⟨?_, by simpa using he⟩
      have hsum : p.sum = xs.sum := by rw [← he]; exact (stepL_sum hg.1).symm
      rw [← hsum]
      exact mem_allL hg
  exact hp.length_eq

/-! ### Ranks -/
theorem findX_rank {n q : Nat} (hn1 : 1 ≤ n) (hn : n ≤ 28) : ∀ r, q ≤ n → r < cnt q n → 1 ≤ (findX n q r).1 ∧ (findX n q r).1 ≤ q ∧ (findX n q r).2 < cnt (findX n q r).1 (n - (findX n q r).1) ∧ r + cnt (findX n q r).1 n = cnt q n + (findX n q r).2 := by
  induction q with
  | zero =>
    intro r _ hr
    have := cnt_none n (by omega)
    rw [if_neg (by omega)] at this
    omega
  | succ q ih =>
    intro r hq hr
    have hrec := cnt_rec q (by omega) n (by omega)
    rw [if_pos hq] at hrec
    by_cases hle : cnt (q + 1) (n - (q + 1)) ≤ r
    · rw [findX_step n (q + 1) r hle (by omega), show q + 1 - 1 = q by omega]
      obtain ⟨a, b, c, d⟩ := ih (r - cnt (q + 1) (n - (q + 1))) (by omega) (by omega)
      exact ⟨a, by omega, c, by omega⟩
    · rw [findX_stop n (q + 1) r (by omega) (by omega)]
      exact ⟨by show 1 ≤ q + 1; omega, Nat.le_refl _, by show r < cnt (q + 1) (n - (q + 1)); omega, by show r + cnt (q + 1) n = cnt (q + 1) n + r; omega⟩
theorem flat_at (f n : Nat) (hn1 : 1 ≤ n) (hn : n ≤ 28) (hf : n ≤ f + 1) : ∀ q r, q ≤ n → r < cnt q n →
    ((downs q).flatMap fun x => (allF f (n - x) x).map ((x : Int) :: ·))[r]? = ((allF f (n - (findX n q r).1) (findX n q r).1)[(findX n q r).2]?).map (((findX n q r).1 : Int) :: ·) := by
  intro q
  induction q with
  | zero =>
    intro r _ hr
    have := cnt_none n (by omega)
    rw [if_neg (by omega)] at this
    omega
  | succ q ih =>
    intro r hq hr
    have hrec := cnt_rec q (by omega) n (by omega)
    rw [if_pos hq] at hrec
    have hlen : (allF f (n - (q + 1)) (q + 1)).length = cnt (q + 1) (n - (q + 1)) := allF_length f _ _ (by omega) (by omega) (by omega)
    unfold downs
    rw [List.flatMap_cons]
    by_cases hle : cnt (q + 1) (n - (q + 1)) ≤ r
    · rw [findX_step n (q + 1) r hle (by omega), show q + 1 - 1 = q by omega, List.getElem?_append_right (by rw [List.length_map, hlen]; exact hle), List.length_map, hlen]
      exact ih _ (by omega) (by omega)
    · rw [findX_stop n (q + 1) r (by omega) (by omega), List.getElem?_append_left (by rw [List.length_map, hlen]; omega), List.getElem?_map]
theorem allF_at (f : Nat) : ∀ n most r, n ≤ f → n ≤ 28 → most ≤ 28 → r < cnt most n → (allF f n most)[r]? = some (withF f n most r) := by
  induction f with
  | zero =>
    intro n most r h1 h2 h3 hr
    obtain rfl : n = 0 := by omega
    rw [cnt_zero most (by omega)] at hr
    obtain rfl : r = 0 := by omega
    rfl
  | succ f ih =>
    intro n most r h1 h2 h3 hr
    by_cases hz : n = 0
    · subst hz
      rw [cnt_zero most (by omega)] at hr
      obtain rfl : r = 0 := by omega
      rw [allF_zero]; simp [withF]
    · have hr' : r < cnt (min n most) n := by rw [cnt_min h2 h3]; exact hr
      obtain ⟨a, b, c, d⟩ := findX_rank (by omega) h2 r (Nat.min_le_left n most) hr'
      rw [allF_succ f n most hz, flat_at f n (by omega) h2 h1 _ r (Nat.min_le_left _ _) hr', ih _ _ _ (by omega) (by omega) (by omega) c]
      rw [show withF (f + 1) n most r = if n = 0 then [] else ((findX n (min n most) r).1 : Int) :: withF f (n - (findX n (min n most) r).1) (findX n (min n most) r).1 (findX n (min n most) r).2 from rfl, if_neg hz]
      rfl
theorem allL_at {n r : Nat} (hn : n ≤ 28) (hr : r < cnt n n) : (allL n)[r]? = some (withL n r) := allF_at 28 n n r hn hn hn hr
theorem withL_mem {n r : Nat} (hn : n ≤ 28) (hr : r < cnt n n) : withL n r ∈ allL n := List.mem_of_getElem? (allL_at hn hr)
theorem withL_next {n r : Nat} (hn : n ≤ 28) (hr : r + 1 < cnt n n) : befB (withL n r) (withL n (r + 1)) = true := by
  have h1 := allL_at hn (show r < cnt n n by omega)
  have h2 := allL_at hn hr
  obtain ⟨l1, e1⟩ := List.getElem?_eq_some_iff.1 h1
  obtain ⟨l2, e2⟩ := List.getElem?_eq_some_iff.1 h2
  have := List.pairwise_iff_getElem.1 (allL_up n) r (r + 1) l1 l2 (by omega)
  rwa [e1, e2] at this
/-- the rank, number by number -/
def rankG (n most : Int) : List Int → Int
  | [] => 0
  | x :: l => (cnt (min n most).toNat n.toNat : Int) - (cnt x.toNat n.toNat : Int) + rankG (n - x) x l
theorem rankTo_split (l : List Int) : ∀ pre : List Int, rankTo (pre ++ l) (pre.length + l.length) = rankTo (pre ++ l) pre.length + rankG (leftAt (pre ++ l) pre.length) (mostAt (pre ++ l) pre.length) l := by
  induction l with
  | nil => intro pre; simp [rankG]
  | cons x l ih =>
    intro pre
    have h := ih (pre ++ [x])
    have e1 : pre ++ [x] ++ l = pre ++ x :: l := by simp
    have e2 : (pre ++ [x]).length = pre.length + 1 := by simp
    rw [e1, e2] at h
    have e3 : pre.length + (x :: l).length = pre.length + 1 + l.length := by simp; omega
    rw [e3, h]
    have hx : (pre ++ x :: l).getD pre.length 0 = x := by
      rw [List.getD_eq_getElem?_getD, List.getElem?_append_right (Nat.le_refl _)]; simp
    have e4 : rankTo (pre ++ x :: l) (pre.length + 1) = rankTo (pre ++ x :: l) pre.length + rankT (pre ++ x :: l) pre.length := rfl
    have e5 : leftAt (pre ++ x :: l) (pre.length + 1) = leftAt (pre ++ x :: l) pre.length - x := by
      unfold leftAt
      have h1 : (pre ++ x :: l).take (pre.length + 1) = pre ++ [x] := by
        rw [List.take_append, List.take_of_length_le (by omega)]; simp
      have h2 : (pre ++ x :: l).take pre.length = pre := by simp
      rw [h1, h2, List.sum_append (l₁ := pre) (l₂ := [x])]
      simp only [List.sum_cons, List.sum_nil]
      omega
    have e6 : mostAt (pre ++ x :: l) (pre.length + 1) = x := by
      unfold mostAt
      rw [if_neg (by omega), show pre.length + 1 - 1 = pre.length by omega, hx]
    rw [e4, e5, e6]
    unfold rankT
    rw [hx]
    show _ = _ + rankG _ _ (x :: l)
    rw [show ∀ a b, rankG a b (x :: l) = (cnt (min a b).toNat a.toNat : Int) - (cnt x.toNat a.toNat : Int) + rankG (a - x) x l from fun _ _ => rfl]
    omega
theorem rankL_eq (xs : List Int) : rankL xs = rankG xs.sum xs.sum xs := by
  have h := rankTo_split xs []
  simp only [List.nil_append, List.length_nil, Nat.zero_add] at h
  unfold rankL
  rw [h]
  unfold leftAt mostAt
  simp [rankTo]
theorem rankG_with (f : Nat) : ∀ n most r, n ≤ f → n ≤ 28 → most ≤ 28 → r < cnt most n → rankG n most (withF f n most r) = r := by
  induction f with
  | zero =>
    intro n most r h1 h2 h3 hr
    obtain rfl : n = 0 := by omega
    rw [cnt_zero most (by omega)] at hr
    obtain rfl : r = 0 := by omega
    rfl
  | succ f ih =>
    intro n most r h1 h2 h3 hr
    by_cases hz : n = 0
    · subst hz
      rw [cnt_zero most (by omega)] at hr
      obtain rfl : r = 0 := by omega
      simp [withF, rankG]
    · have hr' : r < cnt (min n most) n := by rw [cnt_min h2 h3]; exact hr
      obtain ⟨a, b, c, d⟩ := findX_rank (by omega) h2 r (Nat.min_le_left n most) hr'
      rw [show withF (f + 1) n most r = if n = 0 then [] else ((findX n (min n most) r).1 : Int) :: withF f (n - (findX n (min n most) r).1) (findX n (min n most) r).1 (findX n (min n most) r).2 from rfl, if_neg hz]
      generalize (findX n (min n most) r).1 = X at a b c d ⊢
      generalize (findX n (min n most) r).2 = R at c d ⊢
      have hi := ih (n - X) X R (by omega) (by omega) (by omega) c
      rw [show rankG (n : Int) most ((X : Int) :: withF f (n - X) X R) = (cnt (min (n : Int) most).toNat (n : Int).toNat : Int) - (cnt (X : Int).toNat (n : Int).toNat : Int) + rankG ((n : Int) - X) X (withF f (n - X) X R) from rfl]
      rw [show ((n : Int) - X) = ((n - X : Nat) : Int) by omega, hi, show (min (n : Int) most).toNat = min n most by omega]
      simp only [Int.toNat_natCast]
      omega
theorem rankL_with {n r : Nat} (hn : n ≤ 28) (hr : r < cnt n n) : rankL (withL n r) = r := by
  rw [rankL_eq, (allL_good hn (withL_mem hn hr)).2]
  exact rankG_with 28 n n r hn hn hn hr
end Go.Proofs.YthmaggmhcfcojaaDoor
