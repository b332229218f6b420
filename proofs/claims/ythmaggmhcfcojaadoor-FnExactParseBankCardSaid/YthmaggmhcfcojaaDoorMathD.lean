/- Chapter 1: lists of pasts, ranks, piles of a rank, all piles: plain mathematics. No condition. -/
import Derived.Test.YthmaggmhcfcojaaDoorMathC
namespace Go.Proofs.YthmaggmhcfcojaaDoor
set_option linter.unusedVariables false
set_option linter.unusedSimpArgs false

/-! ### The different numbers of a list, from the last one on -/
def ascP : Option Int → List Int → List Int
  | _, [] => []
  | p, x :: l => ascP (some x) l ++ (if p = some x then [] else [x])
def ascL : List Int → List Int
  | [] => []
  | x :: l => ascL l ++ (if l.head? = some x then [] else [x])
theorem asc_eq (p : Int) (l : List Int) : ascL (p :: l) = ascP (some p) l ++ [p] := by
  induction l generalizing p with
  | nil => rfl
  | cons x l ih =>
    rw [show ascL (p :: x :: l) = ascL (x :: l) ++ (if (x :: l).head? = some p then [] else [p]) from rfl, ih, List.head?_cons,
      show ascP (some p) (x :: l) = ascP (some x) l ++ (if some p = some x then [] else [x]) from rfl]
    by_cases h : x = p
    · subst h; simp
    · have h' : ¬ p = x := fun e => h e.symm
      simp [h, h']
theorem asc_none (xs : List Int) : ascP none xs = ascL xs := by
  cases xs with
  | nil => rfl
  | cons x l => rw [asc_eq]; simp [ascP]
theorem ascP_snoc (p : Option Int) (l : List Int) (x : Int) : ascP p (l ++ [x]) = (if l.getLast?.or p = some x then [] else [x]) ++ ascP p l := by
  induction l generalizing p with
  | nil => cases p <;> simp [ascP]
  | cons a l ih =>
    rw [List.cons_append, show ascP p (a :: (l ++ [x])) = ascP (some a) (l ++ [x]) ++ (if p = some a then [] else [a]) from rfl, ih,
      show ascP p (a :: l) = ascP (some a) l ++ (if p = some a then [] else [a]) from rfl, List.append_assoc]
    congr 2
    cases l with
    | nil => simp
    | cons b l => simp [List.getLast?_cons_cons]; cases h : (b :: l).getLast? with
      | none => simp at h
      | some z => simp
theorem ascL_mem {xs : List Int} {x : Int} (h : x ∈ ascL xs) : x ∈ xs := by
  induction xs with
  | nil => cases h
  | cons a l ih =>
    rcases List.mem_append.1 h with h | h
    · exact List.mem_cons_of_mem _ (ih h)
    · split at h
      · cases h
      · rw [List.mem_singleton.1 h]; exact List.mem_cons_self

/-- the pasts of those numbers of a list -/
def pastsOf (xs l : List Int) : List (List Int) := (l.filter (fun x => decide ((xs.length : Int) - 1 ≤ x))).map (pastL xs)
def pastsL (xs : List Int) : List (List Int) := if xs = [] then [[]] else pastsOf xs (ascL xs)
theorem pastsOf_append (xs l m : List Int) : pastsOf xs (l ++ m) = pastsOf xs l ++ pastsOf xs m := by unfold pastsOf; rw [List.filter_append, List.map_append]
theorem pastsOf_one (xs : List Int) (x : Int) : pastsOf xs [x] = if (xs.length : Int) - 1 ≤ x then [pastL xs x] else [] := by
  unfold pastsOf
  by_cases h : (xs.length : Int) - 1 ≤ x <;> simp [h, List.filter_cons]
theorem pastsOf_nil (xs : List Int) : pastsOf xs [] = [] := rfl
theorem ascL_length (xs : List Int) : (ascL xs).length ≤ xs.length := by
  induction xs with
  | nil => exact Nat.le_refl _
  | cons a l ih =>
    rw [show ascL (a :: l) = ascL l ++ (if l.head? = some a then [] else [a]) from rfl, List.length_append]
    split <;> simp <;> omega
theorem pastsOf_length (xs l : List Int) : (pastsOf xs l).length ≤ l.length := by
  unfold pastsOf; rw [List.length_map]; exact List.length_filter_le _ _
theorem pastsL_length (xs : List Int) : (pastsL xs).length ≤ xs.length + 1 := by
  unfold pastsL
  split
  · simp
  · have := pastsOf_length xs (ascL xs); have := ascL_length xs; omega
theorem pastsOf_mem {xs l ys : List Int} (h : ys ∈ pastsOf xs l) : ∃ x ∈ l, (xs.length : Int) - 1 ≤ x ∧ ys = pastL xs x := by
  unfold pastsOf at h
  obtain ⟨x, hx, rfl⟩ := List.mem_map.1 h
  obtain ⟨h1, h2⟩ := List.mem_filter.1 hx
  exact ⟨x, h1, by simpa using h2, rfl⟩

/-- a list put into lists in order -/
def addL (ls : List (List Int)) (a : List Int) : List (List Int) := ls.takeWhile (fun l => befB l a) ++ a :: ls.dropWhile (fun l => befB l a)
theorem addL_front {ls : List (List Int)} {a : List Int} (h : ∀ l ∈ ls, befB l a = false) : addL ls a = a :: ls := by
  unfold addL
  cases ls with
  | nil => rfl
  | cons l ls => rw [List.takeWhile_cons_of_neg (by rw [h l (by simp)]; simp), List.dropWhile_cons_of_neg (by rw [h l (by simp)]; simp)]; rfl

/-- the round of the model's pasts -/
theorem pasts_round {xs : List Int} (hg : Good xs) {k n : Nat} {x : Int} (hk : k < n) (hl : xs.length = n) (hx : xs.getD k 0 = x) :
    (n : Int) - 1 ≤ x → (k = 0 ∨ ∃ y, xs.getD (k - 1) 0 = y ∧ y ≠ x) → pastsOf xs (ascP none (xs.take (k + 1))) = addL (pastsOf xs (ascP none (xs.take k))) (pastL xs x) := by
  intro h1 h2
  have e : xs.take (k + 1) = xs.take k ++ [x] := by
    subst hx hl
    rw [List.take_add_one, List.getElem?_eq_getElem hk, List.getD_eq_getElem?_getD, List.getElem?_eq_getElem hk]
    rfl
  have hxm : x ∈ xs := by
    subst hx hl
    rw [List.getD_eq_getElem?_getD, List.getElem?_eq_getElem hk]
    exact List.getElem_mem hk
  have hlast : (xs.take k).getLast?.or none ≠ some x := by
    rcases Nat.eq_zero_or_pos k with rfl | hk0
    · simp
    · rcases h2 with h2 | ⟨y, hy, hyx⟩
      · omega
      · rw [getLast_take hk0 (by omega) hl hy]; simp; exact hyx
  rw [e, ascP_snoc, if_neg hlast, pastsOf_append, pastsOf_one, if_pos (by omega)]
  rw [addL_front]
  · rfl
  · intro l hlm
    obtain ⟨y, hy, hy1, rfl⟩ := pastsOf_mem hlm
    rw [asc_none] at hy
    have hyt := ascL_mem hy
    have hym : y ∈ xs := List.mem_of_mem_take hyt
    have hlt : x < y := by
      rcases Nat.eq_zero_or_pos k with rfl | hk0
      · simp at hyt
      · rcases h2 with h2 | ⟨z, hz, hzx⟩
        · omega
        · have hp := (hg.take (k + 1)).2.1
          rw [e] at hp
          have h3 : ∀ a ∈ xs.take k, a ≥ x := fun a ha => (List.pairwise_append.1 hp).2.2 a ha x (by simp)
          have hzl := getLast_take hk0 (Nat.le_of_lt hk) hl hz
          have hzm := List.mem_of_getLast? hzl
          have hzx' := h3 z hzm
          have : y ≥ z := by
            obtain ⟨m, hm⟩ := List.getLast?_eq_some_iff.1 hzl
            have hp2 := (hg.take k).2.1
            rw [hm] at hp2 hyt
            rcases List.mem_append.1 hyt with h | h
            · exact (List.pairwise_append.1 hp2).2.2 y h z (by simp)
            · rw [List.mem_singleton.1 h]; exact Int.le_refl _
          omega
    exact past_order hg.2.1 hym hxm hlt _ _
theorem pasts_skip {xs : List Int} {k n : Nat} {x : Int} (hk : k < n) (hl : xs.length = n) (hx : xs.getD k 0 = x) :
    (x < (n : Int) - 1 ∨ (0 < k ∧ xs.getD (k - 1) 0 = x)) → pastsOf xs (ascP none (xs.take (k + 1))) = pastsOf xs (ascP none (xs.take k)) := by
  intro h
  have e : xs.take (k + 1) = xs.take k ++ [x] := by
    subst hx hl
    rw [List.take_add_one, List.getElem?_eq_getElem hk, List.getD_eq_getElem?_getD, List.getElem?_eq_getElem hk]
    rfl
  rw [e, ascP_snoc]
  split
  · simp [pastsOf_append, pastsOf_nil]
  · next hn =>
    rcases h with h | ⟨hk0, h⟩
    · rw [pastsOf_append, pastsOf_one, if_neg (by omega)]; rfl
    · exact absurd (by rw [getLast_take hk0 (Nat.le_of_lt hk) hl h]; rfl) hn
theorem ascL_drop {xs : List Int} {k n : Nat} {x : Int} (hk : k < n) (hl : xs.length = n) (hx : xs.getD k 0 = x) :
    ascL (xs.drop k) = ascL (xs.drop (k + 1)) ++ (if k + 1 < n ∧ xs.getD (k + 1) 0 = x then [] else [x]) := by
  subst hx hl
  rw [List.drop_eq_getElem_cons hk]
  rw [show ∀ (a : Int) (l : List Int), ascL (a :: l) = ascL l ++ (if l.head? = some a then [] else [a]) from fun _ _ => rfl]
  rw [List.head?_drop, List.getD_eq_getElem?_getD, List.getD_eq_getElem?_getD, List.getElem?_eq_getElem hk]
  by_cases h : k + 1 < xs.length
  · rw [List.getElem?_eq_getElem h]; simp [h]
  · rw [List.getElem?_eq_none (by omega)]; simp [h]

/-! ### Ranks -/
def leftAt (xs : List Int) (k : Nat) : Int := xs.sum - (xs.take k).sum
def mostAt (xs : List Int) (k : Nat) : Int := if k = 0 then xs.sum else xs.getD (k - 1) 0
def rankT (xs : List Int) (k : Nat) : Int := (cnt (min (leftAt xs k) (mostAt xs k)).toNat (leftAt xs k).toNat : Int) - (cnt (xs.getD k 0).toNat (leftAt xs k).toNat : Int)
def rankTo (xs : List Int) : Nat → Int
  | 0 => 0
  | k + 1 => rankTo xs k + rankT xs k
def rankL (xs : List Int) : Int := rankTo xs xs.length
theorem left_bounds {xs : List Int} (h : Good xs) {k n : Nat} {x : Int} (hk : k < n) (hl : xs.length = n) (hx : xs.getD k 0 = x) :
    1 ≤ x ∧ x ≤ leftAt xs k ∧ leftAt xs k ≤ 28 ∧ x ≤ mostAt xs k ∧ mostAt xs k ≤ 28 ∧ leftAt xs (k + 1) = leftAt xs k - x := by
  have hG := h
  have e : xs.take (k + 1) = xs.take k ++ [x] := by
    subst hx hl
    rw [List.take_add_one, List.getElem?_eq_getElem hk, List.getD_eq_getElem?_getD, List.getElem?_eq_getElem hk]
    rfl
  have hxm : x ∈ xs := by
    subst hx hl
    rw [List.getD_eq_getElem?_getD, List.getElem?_eq_getElem hk]
    exact List.getElem_mem hk
  have h1 := h.mem hxm
  have hs := congrArg List.sum (List.take_append_drop (k + 1) xs)
  rw [List.sum_append] at hs
  have hd := sum_nonneg (fun y hy => h.1 y (List.mem_of_mem_drop hy) : ∀ y ∈ xs.drop (k + 1), 1 ≤ y)
  have ht := sum_nonneg (h.take k).1
  have hsum := h.2.2
  have e2 : (xs.take (k + 1)).sum = (xs.take k).sum + x := by rw [e, List.sum_append]; simp
  have hm : x ≤ mostAt xs k ∧ mostAt xs k ≤ 28 := by
    unfold mostAt
    split
    · exact ⟨by omega, by omega⟩
    · next hk0 =>
      have hg := (good_spec.1 h).2.2.1 k (by omega) (by omega)
      rw [hx] at hg
      refine ⟨hg, ?_⟩
      have hm : xs.getD (k - 1) 0 ∈ xs := by
        rw [List.getD_eq_getElem?_getD, List.getElem?_eq_getElem (by omega)]
        exact List.getElem_mem (by omega)
      exact (h.mem hm).2
  unfold leftAt
  exact ⟨h1.1, by omega, by omega, hm.1, hm.2, by omega⟩
theorem cnt_mono_le {a b n : Nat} (hab : a ≤ b) (hb : b < 29) (hn : n < 29) : cnt a n ≤ cnt b n := by
  induction b with
  | zero => have : a = 0 := by omega
            subst this; exact Nat.le_refl _
  | succ b ih =>
    by_cases h : a = b + 1
    · subst h; exact Nat.le_refl _
    · exact Nat.le_trans (ih (by omega) (by omega)) (cnt_mono b (by omega) n hn)
theorem rankT_bounds {xs : List Int} (h : Good xs) {k n : Nat} (hk : k < n) (hl : xs.length = n) : 0 ≤ rankT xs k ∧ rankT xs k ≤ 3718 := by
  obtain ⟨h1, h2, h3, h4, h5, _⟩ := left_bounds h hk hl rfl
  have := cnt_mono_le (a := (xs.getD k 0).toNat) (b := (min (leftAt xs k) (mostAt xs k)).toNat) (n := (leftAt xs k).toNat) (by omega) (by omega) (by omega)
  have := cnt_le (min (leftAt xs k) (mostAt xs k)).toNat (by omega) (leftAt xs k).toNat (by omega)
  unfold rankT
  omega
theorem rankTo_bounds {xs : List Int} (h : Good xs) {k n : Nat} (hk : k ≤ n) (hl : xs.length = n) : 0 ≤ rankTo xs k ∧ rankTo xs k ≤ 3718 * k := by
  induction k with
  | zero => exact ⟨Int.le_refl _, Int.le_refl _⟩
  | succ k ih =>
    have := ih (by omega)
    have := rankT_bounds h (show k < n by omega) hl
    unfold rankTo
    omega

/-! ### Piles of a rank -/
def findX (n : Nat) : Nat → Nat → Nat × Nat
  | 0, r => (0, r)
  | x + 1, r => if cnt (x + 1) (n - (x + 1)) ≤ r then findX n x (r - cnt (x + 1) (n - (x + 1))) else (x + 1, r)
def withF : Nat → Nat → Nat → Nat → List Int
  | 0, _, _, _ => []
  | f + 1, n, most, r => if n = 0 then [] else ((findX n (min n most) r).1 : Int) :: withF f (n - (findX n (min n most) r).1) (findX n (min n most) r).1 (findX n (min n most) r).2
def withL (n r : Nat) : List Int := withF 28 n n r
theorem findX_step (n x r : Nat) (h : cnt x (n - x) ≤ r) (hx : 1 ≤ x) : findX n x r = findX n (x - 1) (r - cnt x (n - x)) := by
  cases x with
  | zero => omega
  | succ x => rw [show findX n (x + 1) r = if cnt (x + 1) (n - (x + 1)) ≤ r then findX n x (r - cnt (x + 1) (n - (x + 1))) else (x + 1, r) from rfl, if_pos h]; rfl
theorem findX_stop (n x r : Nat) (h : r < cnt x (n - x)) (hx : 1 ≤ x) : findX n x r = (x, r) := by
  cases x with
  | zero => omega
  | succ x => rw [show findX n (x + 1) r = if cnt (x + 1) (n - (x + 1)) ≤ r then findX n x (r - cnt (x + 1) (n - (x + 1))) else (x + 1, r) from rfl, if_neg (by omega)]
/-- what is left of the rank is less than there are -/
theorem rank_step {n x r : Nat} (hx : 1 ≤ x) (hxn : x ≤ n) (hn : n ≤ 28) (hr : r < cnt x n) (h : cnt x (n - x) ≤ r) : r - cnt x (n - x) < cnt (x - 1) n ∧ 2 ≤ x := by
  have := cnt_rec (x - 1) (by omega) n (by omega)
  rw [show x - 1 + 1 = x by omega, if_pos hxn] at this
  refine ⟨by omega, ?_⟩
  by_cases h1 : x = 1
  · subst h1
    have h0 := cnt_none n (by omega)
    rw [if_neg (by omega)] at h0
    simp only [Nat.sub_self] at this
    omega
  · omega
theorem cnt_min {n x : Nat} (hn : n ≤ 28) (hx : x ≤ 28) : cnt (min n x) n = cnt x n := by
  by_cases h : n ≤ x
  · rw [Nat.min_eq_left h, cnt_big x (by omega) n h]
  · rw [Nat.min_eq_right (by omega)]

/-! ### All piles -/
def downs : Nat → List Nat
  | 0 => []
  | n + 1 => (n + 1) :: downs n
def allF : Nat → Nat → Nat → List (List Int)
  | 0, n, _ => if n = 0 then [[]] else []
  | f + 1, n, most => if n = 0 then [[]] else (downs (min n most)).flatMap fun x => (allF f (n - x) x).map ((x : Int) :: ·)
def allL (n : Nat) : List (List Int) := allF 28 n n
end Go.Proofs.YthmaggmhcfcojaaDoor
