/- Sand: whatever falls are taken, the end is the same, and each place has as many falls. Plain mathematics; no condition. -/
import Derived.Test.YtdfmljkjidepeaaDoorSaX
namespace Go.Proofs.YtdfmljkjidepeaaDoor
set_option linter.unusedVariables false
set_option linter.unusedSimpArgs false

theorem steep_iff {xs : List Int} {i : Nat} : steepB xs i = true ↔ xs.getD (i + 1) 0 + 2 ≤ xs.getD i 0 := by unfold steepB; simp
theorem ext_getDI {l m : List Int} (h1 : l.length = m.length) (h2 : ∀ j, l.getD j 0 = m.getD j 0) : l = m := by
  apply List.ext_getElem h1
  intro j hj hk
  have := h2 j
  rw [List.getD_eq_getElem?_getD, List.getD_eq_getElem?_getD, List.getElem?_eq_getElem hj, List.getElem?_eq_getElem hk] at this
  exact this
/-- two falls can be taken in either order -/
theorem fall_comm {xs : List Int} {i k : Nat} (hik : i ≠ k) (hi : i < xs.length) (hk : k < xs.length) (si : steepB xs i = true) (sk : steepB xs k = true) :
    k < (fallL xs i).length ∧ steepB (fallL xs i) k = true ∧ fallL (fallL xs i) k = fallL (fallL xs k) i := by
  have li := fallL_length hi
  have lk := fallL_length hk
  have hki : k < (fallL xs i).length := by rw [li]; split <;> omega
  have hik2 : i < (fallL xs k).length := by rw [lk]; split <;> omega
  have gi := fallL_getD hi
  have gk := fallL_getD hk
  rw [steep_iff] at si sk
  refine ⟨hki, ?_, ?_⟩
  · rw [steep_iff, gi, gi]
    by_cases e1 : k + 1 = i
    · subst e1
      rw [if_pos rfl, if_neg (by omega), if_neg (by omega)]; omega
    · rw [if_neg e1]
      by_cases e2 : k = i + 1
      · subst e2
        rw [if_neg (by omega), if_neg (by omega), if_pos rfl]; omega
      · rw [if_neg (by omega), if_neg (by omega), if_neg e2]; exact sk
  · apply ext_getDI
    · rw [fallL_length hki, fallL_length hik2, li, lk]
      by_cases e1 : i + 1 = xs.length <;> by_cases e2 : k + 1 = xs.length <;> simp [e1, e2] <;> omega
    · intro j
      rw [fallL_getD hki, fallL_getD hik2, gi, gi, gi, gk, gk, gk]
      by_cases e1 : j = i
      · subst e1
        by_cases e2 : j = k + 1
        · subst e2; simp <;> omega
        · simp [hik, e2] <;> split <;> omega
      · by_cases e2 : j = k
        · subst e2
          by_cases e3 : j = i + 1
          · subst e3; simp <;> omega
          · simp [e1, e3] <;> split <;> omega
        · by_cases e3 : j = i + 1
          · subst e3
            by_cases e4 : i + 1 = k + 1
            · omega
            · simp [e2, e4] <;> split <;> omega
          · simp [e1, e2, e3]
            split
            · subst_vars; simp; split <;> omega
            · rfl
/-- so many falls lead from one to the other -/
inductive FallTo : Nat → List Int → List Int → Prop
  | refl (xs : List Int) : FallTo 0 xs xs
  | step {n : Nat} {xs ys : List Int} (i : Nat) (h1 : i < xs.length) (h2 : steepB xs i = true) (h : FallTo n (fallL xs i) ys) : FallTo (n + 1) xs ys
theorem FallTo.snoc {n : Nat} {xs ys : List Int} (h : FallTo n xs ys) {i : Nat} (h1 : i < ys.length) (h2 : steepB ys i = true) : FallTo (n + 1) xs (fallL ys i) := by
  induction h with
  | refl xs => exact .step i h1 h2 (.refl _)
  | step k k1 k2 _ ih => exact .step k k1 k2 (ih h1 h2)
theorem FallTo.last : ∀ {n : Nat} {xs ys : List Int}, FallTo (n + 1) xs ys → ∃ x i, FallTo n xs x ∧ i < x.length ∧ steepB x i = true ∧ ys = fallL x i := by
  intro n
  induction n with
  | zero =>
    intro xs ys h
    cases h with
    | step i h1 h2 h => cases h; exact ⟨xs, i, .refl _, h1, h2, rfl⟩
  | succ n ih =>
    intro xs ys h
    cases h with
    | step i h1 h2 h =>
      obtain ⟨x, k, k1, k2, k3, k4⟩ := ih h
      exact ⟨x, k, .step i h1 h2 k1, k2, k3, k4⟩
def still (z : List Int) : Prop := ∀ i, i < z.length → steepB z i = false
theorem still_iff {z : List Int} : still z ↔ fallsL z = [] := by
  constructor
  · intro h
    cases hf : fallsL z with
    | nil => rfl
    | cons x l =>
      obtain ⟨i, _, h1, h2⟩ := mem_fallsL.1 (show x ∈ fallsL z by rw [hf]; simp)
      rw [h i h1] at h2; cases h2
  · intro h i hi
    cases hs : steepB z i with
    | false => rfl
    | true =>
      have : ((i : Nat) : Int) ∈ fallsL z := mem_fallsL.2 ⟨i, rfl, hi, hs⟩
      rw [h] at this; cases this
theorem conf : ∀ (n : Nat) {xs z : List Int}, FallTo n xs z → still z → ∀ i, i < xs.length → steepB xs i = true → ∃ m, n = m + 1 ∧ FallTo m (fallL xs i) z := by
  intro n
  induction n with
  | zero =>
    intro xs z h hz i h1 h2
    cases h
    rw [hz i h1] at h2; cases h2
  | succ n ih =>
    intro xs z h hz i h1 h2
    cases h with
    | step k k1 k2 hk =>
      by_cases e : i = k
      · subst e; exact ⟨n, rfl, hk⟩
      · obtain ⟨c1, c2, c3⟩ := fall_comm (Ne.symm e) k1 h1 k2 h2
        obtain ⟨d1, d2, _⟩ := fall_comm e h1 k1 h2 k2
        obtain ⟨m, rfl, hm⟩ := ih hk hz i c1 c2
        exact ⟨m + 1, rfl, .step k d1 d2 (by rw [← c3]; exact hm)⟩
theorem end_unique : ∀ (m : Nat) {n : Nat} {xs z y : List Int}, FallTo n xs z → still z → FallTo m xs y → ∃ d, FallTo d y z ∧ n = m + d := by
  intro m
  induction m with
  | zero => intro n xs z y h hz hy; cases hy; exact ⟨n, h, by omega⟩
  | succ m ih =>
    intro n xs z y h hz hy
    cases hy with
    | step k k1 k2 hk =>
      obtain ⟨q, rfl, hq⟩ := conf n h hz k k1 k2
      obtain ⟨d, h1, h2⟩ := ih hq hz hk
      exact ⟨d, h1, by omega⟩
theorem FallTo.grains {n : Nat} {xs ys : List Int} (h : FallTo n xs ys) (hg : Grains xs) : Grains ys ∧ ys.sum = xs.sum ∧ wt 0 ys = wt 0 xs + n := by
  induction h with
  | refl xs => exact ⟨hg, rfl, by simp⟩
  | step k k1 k2 _ ih =>
    obtain ⟨a, b, c⟩ := ih (fall_grains hg k1 k2)
    exact ⟨a, by rw [b, fall_sum k1], by rw [c, fall_wt k1]; push_cast; omega⟩
theorem step_to {xs : List Int} : ∀ t, (∀ u, u < t → firstN (stepsS xs u) ≠ none) → FallTo t xs (stepsS xs t)
  | 0, _ => .refl _
  | t + 1, h => by
    have ih := step_to t (fun u hu => h u (by omega))
    obtain ⟨i, hi⟩ := Option.ne_none_iff_exists'.1 (h t (by omega))
    cases hf : fallsL (stepsS xs t) with
    | nil => rw [firstN_nil.2 hf] at hi; cases hi
    | cons x l =>
      obtain ⟨i', _, e1, e2, e3⟩ := firstN_cons hf
      rw [(step_fall e1).1]
      exact ih.snoc e2 e3
theorem settle_to {xs : List Int} (hg : Grains xs) : ∃ t, FallTo t xs (settleL xs) ∧ still (settleL xs) := by
  obtain ⟨t, h1, h2⟩ := settle_ex hg
  obtain ⟨e1, _⟩ := settle_at hg h1 h2
  have hs := step_to t h1
  have hz := still_iff.2 (firstN_nil.1 h2)
  generalize stepsS xs t = z at e1 hs hz
  generalize settleL xs = y at e1 ⊢
  subst e1
  exact ⟨t, hs, hz⟩
theorem settle_same {n : Nat} {xs ys : List Int} (h : FallTo n xs ys) (hg : Grains xs) : settleL ys = settleL xs := by
  obtain ⟨t, h1, h2⟩ := settle_to hg
  obtain ⟨u, h3, h4⟩ := settle_to (h.grains hg).1
  obtain ⟨d, h5, _⟩ := end_unique n h1 h2 h
  obtain ⟨e, h6, h7⟩ := end_unique u h5 h2 h3
  clear h1 h2 h3 h5
  generalize settleL xs = a at h6 ⊢
  generalize settleL ys = b at h4 h6 ⊢
  cases h6 with
  | refl => rfl
  | step k k1 k2 _ => rw [h4 k k1] at k2; cases k2
/-! ### How many falls at each place -/
theorem take_fall_eq {xs : List Int} {i : Nat} (hi : i < xs.length) : ∀ k, ((fallL xs i).take k).sum = (xs.take k).sum - if k = i + 1 then 1 else 0
  | 0 => by simp
  | k + 1 => by
    rw [take_grow, take_grow, take_fall_eq hi k, fallL_getD hi]
    by_cases e1 : k = i
    · subst e1; simp; omega
    · by_cases e2 : k = i + 1
      · subst e2; simp; omega
      · simp [e1, e2]
theorem bump_getD (t : List Int) (k d : Nat) : (bump t k).getD d 0 = t.getD d 0 + if d = k then 1 else 0 := by
  unfold bump
  by_cases h : d = k
  · subst h
    rw [getD_set_eqM _ _ _ _ (by simp; omega), getD_pad, if_pos rfl]
  · rw [getD_set_neM _ _ _ _ _ (by omega), getD_pad, if_neg h]; omega
theorem zeros_sum (m : Nat) : (List.replicate m (0 : Int)).sum = 0 := by
  induction m with
  | zero => rfl
  | succ m ih => rw [List.replicate_succ, List.sum_cons, ih]; rfl
theorem bump_sum (t : List Int) (k : Nat) : (bump t k).sum = t.sum + 1 := by
  unfold bump
  rw [sum_set _ _ _ (by simp; omega), List.sum_append, zeros_sum]; omega
theorem cnt_eq {xs : List Int} : ∀ t, (∀ u, u < t → firstN (stepsS xs u) ≠ none) → (∀ i, (cntS xs t).getD i 0 = (xs.take (i + 1)).sum - ((stepsS xs t).take (i + 1)).sum) ∧ (cntS xs t).sum = t
  | 0, _ => ⟨fun i => by show ([] : List Int).getD i 0 = _; simp [stepsS], rfl⟩
  | t + 1, h => by
    obtain ⟨h1, h2⟩ := cnt_eq t (fun u hu => h u (by omega))
    obtain ⟨i, hi⟩ := Option.ne_none_iff_exists'.1 (h t (by omega))
    cases hf : fallsL (stepsS xs t) with
    | nil => rw [firstN_nil.2 hf] at hi; cases hi
    | cons x l =>
      obtain ⟨i', _, e1, e2, e3⟩ := firstN_cons hf
      obtain ⟨q1, q2⟩ := step_fall e1
      rw [q1, q2]
      refine ⟨fun j => ?_, by rw [bump_sum, h2]; push_cast; rfl⟩
      rw [bump_getD, take_fall_eq e2, h1]
      by_cases e : j = i'
      · subst e; simp; omega
      · have : ¬ j + 1 = i' + 1 := by omega
        simp [e, this]
theorem counts_at {xs : List Int} (hg : Grains xs) : (∀ i, (countsL xs).getD i 0 = (xs.take (i + 1)).sum - ((settleL xs).take (i + 1)).sum) ∧ (countsL xs).sum = wt 0 (settleL xs) - wt 0 xs ∧ ∀ i : Nat, 0 ≤ (countsL xs).getD i 0 ∧ (countsL xs).getD i 0 ≤ 576 := by
  obtain ⟨t, h1, h2⟩ := settle_ex hg
  obtain ⟨e1, e2⟩ := settle_at hg h1 h2
  obtain ⟨c1, c2⟩ := cnt_eq t h1
  obtain ⟨_, g2, _, g4⟩ := steps_go hg h1
  have ht := steps_few hg h1
  generalize stepsS xs t = z at e1 c1 g2
  generalize settleL xs = y at e1 ⊢
  generalize cntS xs t = v at e2 c1 c2 g4
  generalize countsL xs = u at e2 ⊢
  subst e1 e2
  exact ⟨c1, by rw [c2, g2]; omega, fun i => by have := g4 i; omega⟩
theorem mem_bd {l : List Int} {a b : Int} (h : ∀ i : Nat, a ≤ l.getD i 0 ∧ l.getD i 0 ≤ b) : ∀ x ∈ l, a ≤ x ∧ x ≤ b := fun x hx => by
  obtain ⟨i, hi, rfl⟩ := List.mem_iff_getElem.1 hx
  have := h i
  rwa [List.getD_eq_getElem?_getD, List.getElem?_eq_getElem hi, Option.getD_some] at this
theorem fall1_to {xs ys : List Int} {i : Int} (h : fall1 xs i = some ys) : ∃ k : Nat, i = (k : Int) ∧ k < xs.length ∧ steepB xs k = true ∧ ys = fallL xs k := by
  unfold fall1 at h
  split at h
  · next hc =>
    cases h
    exact ⟨i.toNat, by omega, by omega, hc.2.2, rfl⟩
  · cases h
theorem playF_to {xs : List Int} {fs : List Int} : ∀ {ys : List Int}, playF xs fs = some ys → FallTo fs.length xs ys ∧ ∀ i : Nat, (xs.take (i + 1)).sum - (ys.take (i + 1)).sum = (fs.count (i : Int) : Nat) := by
  induction fs using snoc_ind with
  | h0 => intro ys h; cases h; exact ⟨.refl _, fun i => by simp⟩
  | h1 l x ih =>
    intro ys h
    rw [playF_snoc] at h
    cases hp : playF xs l with
    | none => rw [hp] at h; cases h
    | some zs =>
      rw [hp] at h
      obtain ⟨k, rfl, k1, k2, rfl⟩ := fall1_to h
      obtain ⟨i1, i2⟩ := ih hp
      rw [List.length_append, List.length_singleton]
      refine ⟨i1.snoc k1 k2, fun i => ?_⟩
      have := i2 i
      rw [take_fall_eq k1, List.count_append, List.count_singleton]
      by_cases e : i = k
      · subst e; simp; omega
      · have e2 : ¬ i + 1 = k + 1 := by omega
        have e3 : ¬ ((k : Int) = (i : Int)) := by omega
        simp [e2, e3]; omega
/-- the counts of both ends of a play -/
theorem play_counts {xs fs ys : List Int} (hg : Grains xs) (h : playF xs fs = some ys) : settleL ys = settleL xs ∧ (∀ i : Nat, (countsL xs).getD i 0 = ((fs.count (i : Int) : Nat) : Int) + (countsL ys).getD i 0) ∧ (countsL xs).sum = (countsL ys).sum + fs.length := by
  obtain ⟨h1, h2⟩ := playF_to h
  obtain ⟨g1, g2, g3⟩ := h1.grains hg
  have hs := settle_same h1 hg
  obtain ⟨a1, a2, _⟩ := counts_at hg
  obtain ⟨b1, b2, _⟩ := counts_at g1
  generalize settleL xs = z at hs a1 a2 ⊢
  generalize settleL ys = z' at hs b1 b2 ⊢
  generalize countsL xs = u at a1 a2 ⊢
  generalize countsL ys = v at b1 b2 ⊢
  refine ⟨hs, fun i => ?_, ?_⟩
  · have := h2 i
    rw [a1, b1, hs]; omega
  · rw [a2, b2, hs, g3]; omega
/-! ### Order of what is reached -/
theorem befB_at : ∀ (i : Nat) {xs ys : List Int}, (∀ j, j < i → xs.getD j 0 = ys.getD j 0) → i < xs.length → i < ys.length → ys.getD i 0 < xs.getD i 0 → befB xs ys = true
  | 0, a :: l, b :: m, _, _, _, h => by
    simp only [List.getD_cons_zero] at h
    simp only [befB]
    rw [if_neg (by omega)]; simpa using h
  | i + 1, a :: l, b :: m, h0, h1, h2, h => by
    have e := h0 0 (by omega)
    simp only [List.getD_cons_zero] at e
    simp only [befB]
    rw [if_pos e]
    simp only [List.length_cons] at h1 h2
    exact befB_at i (fun j hj => by simpa using h0 (j + 1) (by omega)) (by omega) (by omega) (by simpa using h)
  | _, [], _, _, h, _, _ => by simp at h
  | _, _ :: _, [], _, _, h, _ => by simp at h
theorem fall_before {xs : List Int} {i : Nat} (hi : i < xs.length) : befB xs (fallL xs i) = true := by
  have hl := fallL_length hi
  refine befB_at i (fun j hj => ?_) hi (by rw [hl]; split <;> omega) ?_
  · rw [fallL_getD hi, if_neg (by omega), if_neg (by omega)]
  · rw [fallL_getD hi, if_pos rfl]; omega
theorem FallTo.before {n : Nat} {xs ys : List Int} (h : FallTo n xs ys) : xs = ys ∨ befB xs ys = true := by
  induction h with
  | refl xs => exact .inl rfl
  | step k k1 k2 _ ih =>
    rcases ih with e | e
    · rw [← e]; exact .inr (fall_before k1)
    · exact .inr (bef_trans (fall_before k1) e)
theorem fr_to {xs : List Int} : ∀ (t : Nat) {y : List Int}, y ∈ frS xs t ↔ FallTo t xs y
  | 0, y => by
    constructor
    · intro h
      simp [frS] at h
      subst h; exact .refl _
    · intro h; cases h; simp [frS]
  | t + 1, y => by
    rw [mem_frS_succ]
    constructor
    · rintro ⟨x, hx, hy⟩
      obtain ⟨i, h1, h2, rfl⟩ := mem_behL.1 hy
      exact ((fr_to t).1 hx).snoc h1 h2
    · intro h
      obtain ⟨x, i, hx, h1, h2, rfl⟩ := FallTo.last h
      exact ⟨x, (fr_to t).2 hx, mem_behL.2 ⟨i, h1, h2, rfl⟩⟩
theorem rch_to {xs y : List Int} (hg : Grains xs) : y ∈ rchS xs ↔ ∃ n, FallTo n xs y := by
  unfold rchS
  rw [mem_rsS]
  constructor
  · rintro ⟨t, _, h⟩; exact ⟨t, (fr_to t).1 h⟩
  · rintro ⟨n, h⟩
    refine ⟨n, ?_, (fr_to n).2 h⟩
    obtain ⟨g, _, e⟩ := h.grains hg
    have h1 := g.wt
    have h2 := hg.wt
    omega
/-! ### The list of all that is reached -/
theorem srt_first {l : List (List Int)} {x : List Int} (hx : x ∈ l) (h : ∀ y ∈ l, x = y ∨ befB x y = true) : (srt l).getD 0 [] = x := by
  obtain ⟨j, hj, e⟩ := List.mem_iff_getElem.1 (srt_mem.2 hx)
  have h0 : 0 < (srt l).length := by omega
  have hm : (srt l).getD 0 [] ∈ l := srt_mem.1 (by rw [List.getD_eq_getElem?_getD, List.getElem?_eq_getElem h0]; exact List.getElem_mem h0)
  rcases h _ hm with e1 | e1
  · exact e1.symm
  · by_cases hj0 : j = 0
    · subst hj0; rw [List.getD_eq_getElem?_getD, List.getElem?_eq_getElem h0]; exact e
    · have := srtd_at (srt_srtd l) (i := 0) (j := j) (by omega) hj
      rw [show (srt l).getD j [] = x by rw [List.getD_eq_getElem?_getD, List.getElem?_eq_getElem hj]; exact e, e1] at this
      cases this
theorem srt_last {l : List (List Int)} {x : List Int} (hx : x ∈ l) (h : ∀ y ∈ l, y = x ∨ befB y x = true) : (srt l).getD ((srt l).length - 1) [] = x := by
  obtain ⟨j, hj, e⟩ := List.mem_iff_getElem.1 (srt_mem.2 hx)
  have hL : (srt l).length - 1 < (srt l).length := by omega
  have hm : (srt l).getD ((srt l).length - 1) [] ∈ l := srt_mem.1 (by rw [List.getD_eq_getElem?_getD, List.getElem?_eq_getElem hL]; exact List.getElem_mem hL)
  rcases h _ hm with e1 | e1
  · exact e1
  · by_cases hj0 : j = (srt l).length - 1
    · subst hj0; rw [List.getD_eq_getElem?_getD, List.getElem?_eq_getElem hL]; exact e
    · have := srtd_at (srt_srtd l) (i := j) (j := (srt l).length - 1) (by omega) hL
      rw [show (srt l).getD j [] = x by rw [List.getD_eq_getElem?_getD, List.getElem?_eq_getElem hj]; exact e, e1] at this
      cases this
theorem srt_strict {l : List (List Int)} (hn : l.Nodup) : (srt l).Pairwise fun a b => befB a b = true := by
  have h1 := srt_srtd l
  have h2 : (srt l).Nodup := (srt_perm l).nodup_iff.2 hn
  unfold srtd at h1
  refine (h1.and h2).imp fun {a b} ⟨p, q⟩ => ?_
  rcases befB_total p with e | e
  · exact absurd e.symm q
  · exact e
/-- what the law asks of all that is reached -/
theorem rch_facts {xs : List Int} (hg : Grains xs) (hok : okR xs) : (rchL xs).getD 0 [] = xs ∧ (rchL xs).getD ((rchL xs).length - 1) [] = settleL xs ∧ (rchL xs).Pairwise (fun a b => befB a b = true) ∧ 0 < (rchL xs).length ∧ (∀ s ∈ rchL xs, Sand s ∧ ∀ i : Nat, i < s.length → steepB s i = true → fallL s i ∈ rchL xs) := by
  rw [rchL_yes hok]
  have hall : ∀ y ∈ rchS xs, Sand y := hok.2
  have hse : settleL xs ∈ rchS xs := by
    obtain ⟨t, h1, _⟩ := settle_to hg
    exact (rch_to hg).2 ⟨t, h1⟩
  refine ⟨srt_first (self_mem xs) (fun y hy => ?_), srt_last hse (fun y hy => ?_), srt_strict (rsS_nodup hg 600), ?_, fun s hs => ⟨hall s (srt_mem.1 hs), fun i h1 h2 => srt_mem.2 ?_⟩⟩
  · obtain ⟨n, hn⟩ := (rch_to hg).1 hy
    exact hn.before
  · obtain ⟨n, hn⟩ := (rch_to hg).1 hy
    obtain ⟨t, h1, h2⟩ := settle_to hg
    obtain ⟨d, h3, _⟩ := end_unique n h1 h2 hn
    exact h3.before
  · exact List.length_pos_of_mem (srt_mem.2 (self_mem xs))
  · obtain ⟨n, hn⟩ := (rch_to hg).1 (srt_mem.1 hs)
    exact (rch_to hg).2 ⟨n + 1, hn.snoc h1 h2⟩
/-! ### The sum of a vector -/
theorem vec_zero (ys : List Int) : ∀ n, (vecT ys ys n).sum = 0
  | 0 => rfl
  | n + 1 => by rw [vecT_succ, List.sum_append, vec_zero ys n]; simp [diffI]
theorem vec_fall {xs ys : List Int} {k : Nat} (hk : k < xs.length) : ∀ n, (vecT xs ys n).sum = (vecT (fallL xs k) ys n).sum + if k < n then 1 else 0
  | 0 => by simp [vecT]
  | n + 1 => by
    have h1 := vec_fall (ys := ys) hk n
    rw [vecT_succ, vecT_succ, List.sum_append, List.sum_append, h1]
    have h2 := take_fall_eq hk (n + 1)
    simp only [List.sum_singleton, diffI]
    rw [h2]
    by_cases e1 : k = n
    · subst e1; simp; omega
    · by_cases e2 : k < n
      · have e3 : ¬ n + 1 = k + 1 := by omega
        rw [if_pos e2, if_neg e3, if_pos (by omega)]; omega
      · have e3 : ¬ n + 1 = k + 1 := by omega
        rw [if_neg e2, if_neg e3, if_neg (by omega)]; omega
theorem FallTo.longer {n : Nat} {xs ys : List Int} (h : FallTo n xs ys) : xs.length ≤ ys.length := by
  induction h with
  | refl xs => exact Nat.le_refl _
  | step k k1 k2 _ ih => have := fallL_length k1; split at this <;> omega
theorem vec_sum {n : Nat} {xs ys : List Int} (h : FallTo n xs ys) : (vecT xs ys ys.length).sum = n := by
  induction h with
  | refl xs => exact vec_zero _ _
  | step k k1 k2 hk ih =>
    have hl := hk.longer
    have hl2 := fallL_length k1
    rw [vec_fall k1, ih, if_pos (by split at hl2 <;> omega)]; push_cast; rfl
theorem trim_sum (v : List Int) : ∀ k, (v.take (trimN v k)).sum = (v.take k).sum
  | 0 => rfl
  | k + 1 => by
    unfold trimN
    split
    · next h => rw [trim_sum v k, take_grow, h]; omega
    · rfl
theorem vecL_facts {xs ys : List Int} (hg : Grains xs) (hy : ys ∈ rchS xs) : (vecL xs ys).sum = wt 0 ys - wt 0 xs ∧ (∀ x ∈ vecL xs ys, 0 ≤ x ∧ x ≤ 24) ∧ (vecL xs ys).length ≤ ys.length := by
  obtain ⟨n, hn⟩ := (rch_to hg).1 hy
  obtain ⟨g, _, e⟩ := hn.grains hg
  have hs := vec_sum hn
  refine ⟨?_, ?_, ?_⟩
  · unfold vecL
    rw [trim_sum, List.take_of_length_le (by rw [vecT_length]; exact Nat.le_refl _), hs]; omega
  · intro x hx
    have hx2 := List.mem_of_mem_take hx
    refine mem_bd (l := vecT xs ys ys.length) (fun i => ⟨vec_nonneg hg hy i, ?_⟩) x hx2
    by_cases hi : i < ys.length
    · rw [vecT_getD _ _ hi]; exact (diff_bound hg g (i + 1)).2
    · rw [getD_past (by rw [vecT_length]; omega)]; omega
  · unfold vecL
    rw [List.length_take, vecT_length]; omega
end Go.Proofs.YtdfmljkjidepeaaDoor
