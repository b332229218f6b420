/- Chapter 2: piles by their tails: plain mathematics. No condition. -/
import Derived.Test.YthmaggmhcfcojaaDoorOrbN
namespace Go.Proofs.YthmaggmhcfcojaaDoor
set_option linter.unusedVariables false
set_option linter.unusedSimpArgs false

/-- the pasts of these piles that are not cyclic -/
def loosePasts (a : List Int) : List (List Int) := (pastsL a).filter fun p => !cycB p
def looseL (all : List (List Int)) : List (List Int) := all.flatMap loosePasts
def levL (c : List (List Int)) : Nat → List (List Int)
  | 0 => c
  | t + 1 => looseL (levL c t)
structure Cyclics (c : List (List Int)) (s : Nat) : Prop where
  small : s ≤ 28
  good : ∀ x ∈ c, Good x
  cyc : ∀ x ∈ c, Cyc x
  sum : ∀ x ∈ c, x.sum = s
  nodup : c.Nodup
theorem mem_loose {a p : List Int} (ha : Good a) : p ∈ loosePasts a ↔ Good p ∧ stepL p = a ∧ ¬ Cyc p := by
  unfold loosePasts
  rw [List.mem_filter]
  constructor
  · rintro ⟨h1, h2⟩
    obtain ⟨e, hg⟩ := pasts_sound ha h1
    refine ⟨hg, e, fun hc => ?_⟩
    rw [cyc_iff.2 hc] at h2
    simp at h2
  · rintro ⟨hg, e, hc⟩
    refine ⟨past_of_step hg e, ?_⟩
    cases hb : cycB p with
    | false => rfl
    | true => exact absurd (cyc_iff.1 hb) hc
theorem end_step {p : List Int} (hp : Good p) (hc : ¬ Cyc p) : endL p = endL (stepL p) := by
  unfold endL
  rw [tail_step hp hc, stepsL_front]
theorem mem_lev {c : List (List Int)} {s : Nat} (h : Cyclics c s) (t : Nat) : ∀ x, x ∈ levL c t ↔ Good x ∧ tailL x = t ∧ endL x ∈ c := by
  induction t with
  | zero =>
    intro x
    show x ∈ c ↔ _
    constructor
    · intro hx
      have hg := h.good x hx
      have ht := (tail_cyc hg).2 (h.cyc x hx)
      refine ⟨hg, ht, ?_⟩
      unfold endL; rw [ht]; exact hx
    · rintro ⟨hg, ht, he⟩
      unfold endL at he; rw [ht] at he; exact he
  | succ t ih =>
    intro x
    show x ∈ looseL (levL c t) ↔ _
    unfold looseL
    rw [List.mem_flatMap]
    constructor
    · rintro ⟨a, ha, hx⟩
      obtain ⟨ga, ta, ea⟩ := (ih a).1 ha
      obtain ⟨gx, sx, cx⟩ := (mem_loose ga).1 hx
      refine ⟨gx, by rw [tail_step gx cx, sx, ta], by rw [end_step gx cx, sx]; exact ea⟩
    · rintro ⟨gx, tx, ex⟩
      have cx : ¬ Cyc x := fun hc => by have := (tail_cyc gx).2 hc; omega
      have hts := tail_step gx cx
      have gs := stepL_good gx
      refine ⟨stepL x, (ih _).2 ⟨gs, by omega, by rw [← end_step gx cx]; exact ex⟩, (mem_loose gs).2 ⟨gx, rfl, cx⟩⟩
theorem lev_good {c : List (List Int)} {s : Nat} (h : Cyclics c s) {t : Nat} {x : List Int} (hx : x ∈ levL c t) : Good x := ((mem_lev h t x).1 hx).1
theorem end_sum {x : List Int} (hx : Good x) : (endL x).sum = x.sum := stepsL_sum hx _
theorem lev_sum {c : List (List Int)} {s : Nat} (h : Cyclics c s) {t : Nat} {x : List Int} (hx : x ∈ levL c t) : x.sum = s := by
  obtain ⟨g, _, e⟩ := (mem_lev h t x).1 hx
  rw [← end_sum g]; exact h.sum _ e
theorem loose_nodup {a : List Int} (ha : Good a) : (loosePasts a).Nodup := (nodup_of_bef (pasts_up ha)).filter _
theorem lev_nodup {c : List (List Int)} {s : Nat} (h : Cyclics c s) (t : Nat) : (levL c t).Nodup := by
  induction t with
  | zero => exact h.nodup
  | succ t ih =>
    show (looseL (levL c t)).Nodup
    unfold looseL
    unfold List.Nodup
    rw [List.pairwise_flatMap]
    refine ⟨fun a ha => loose_nodup (lev_good h ha), ?_⟩
    refine ih.imp_of_mem ?_
    intro a b ha hb hab x hx y hy e
    subst e
    have h1 := ((mem_loose (lev_good h ha)).1 hx).2.1
    have h2 := ((mem_loose (lev_good h hb)).1 hy).2.1
    exact hab (h1.symm.trans h2)
theorem lev_mem_all {c : List (List Int)} {s : Nat} (h : Cyclics c s) {t : Nat} {x : List Int} (hx : x ∈ levL c t) : x ∈ allL s := by
  have := mem_allL (lev_good h hx)
  rw [lev_sum h hx] at this
  simpa using this
theorem lev_length {c : List (List Int)} {s : Nat} (h : Cyclics c s) (t : Nat) : (levL c t).length ≤ 3718 := by
  have := nodup_len (lev_nodup h t) (fun x hx => lev_mem_all h hx)
  rw [allL_length h.small] at this
  have := cnt_le s (by have := h.small; omega) s (by have := h.small; omega)
  omega
theorem lev_far {c : List (List Int)} {s : Nat} (h : Cyclics c s) : levL c 3719 = [] := by
  rw [List.eq_nil_iff_forall_not_mem]
  intro x hx
  obtain ⟨g, t, _⟩ := (mem_lev h _ x).1 hx
  have := (tailL_spec g).1
  omega
/-- how many lists there are before the first empty one -/
theorem lev_some {c : List (List Int)} {s : Nat} (h : Cyclics c s) {t : Nat} (ht : levL c t ≠ []) : t ≤ 3718 := by
  cases hl : levL c t with
  | nil => exact absurd hl ht
  | cons x l =>
    have hx : x ∈ levL c t := by rw [hl]; exact List.mem_cons_self
    obtain ⟨g, e, _⟩ := (mem_lev h _ x).1 hx
    have := (tailL_spec g).1
    omega
/-- all levels below one that is not empty are not empty -/
theorem lev_down {c : List (List Int)} {s : Nat} (h : Cyclics c s) {t u : Nat} (hu : u ≤ t) (ht : levL c t ≠ []) : levL c u ≠ [] := by
  cases hl : levL c t with
  | nil => exact absurd hl ht
  | cons x l =>
    have hx : x ∈ levL c t := by rw [hl]; exact List.mem_cons_self
    obtain ⟨g, e, ee⟩ := (mem_lev h _ x).1 hx
    intro hn
    have hy : stepsL (t - u) x ∈ levL c u := by
      have gy := stepsL_good g (t - u)
      have hty : tailL (stepsL (t - u) x) = u := by
        apply tailL_unique gy
        · rw [← stepsL_plus, show u + (t - u) = tailL x by omega]; exact (tailL_spec g).2.1
        · intro q hq
          rw [← stepsL_plus]
          exact (tailL_spec g).2.2 _ (by omega)
      refine (mem_lev h u _).2 ⟨gy, hty, ?_⟩
      have : endL (stepsL (t - u) x) = endL x := by
        unfold endL
        rw [hty, ← stepsL_plus, show u + (t - u) = tailL x by omega]
      rw [this]; exact ee
    rw [hn] at hy
    cases hy

/-! ### The longest tail -/
def longStep (s : Int × List Int) (a : List Int) : Int × List Int := if s.1 < (tailL a : Int) then ((tailL a : Int), a) else s
def longF (l : List (List Int)) : Int × List Int := l.foldl longStep (-1, [])
theorem longF_snoc (l : List (List Int)) (a : List Int) : longF (l ++ [a]) = longStep (longF l) a := by unfold longF; rw [List.foldl_append]; rfl
theorem longF_spec (l : List (List Int)) (hs : l.Pairwise (fun a b => befB a b = true)) : (l = [] ∧ longF l = (-1, [])) ∨
    ((longF l).2 ∈ l ∧ (longF l).1 = (tailL (longF l).2 : Int) ∧ (∀ a ∈ l, (tailL a : Int) ≤ (longF l).1) ∧ ∀ a ∈ l, (tailL a : Int) = (longF l).1 → a = (longF l).2 ∨ befB (longF l).2 a = true) := by
  have key : ∀ n, ∀ l : List (List Int), l.length = n → l.Pairwise (fun a b => befB a b = true) → (l = [] ∧ longF l = (-1, [])) ∨
    ((longF l).2 ∈ l ∧ (longF l).1 = (tailL (longF l).2 : Int) ∧ (∀ a ∈ l, (tailL a : Int) ≤ (longF l).1) ∧ ∀ a ∈ l, (tailL a : Int) = (longF l).1 → a = (longF l).2 ∨ befB (longF l).2 a = true) := by
    intro n
    induction n with
    | zero => intro l hl _; left; exact ⟨List.eq_nil_of_length_eq_zero hl, by rw [List.eq_nil_of_length_eq_zero hl]; rfl⟩
    | succ n ih =>
      intro l hl hs
      rcases List.eq_nil_or_concat l with rfl | ⟨m, a, rfl⟩
      · simp at hl
      · rw [List.concat_eq_append] at hl hs ⊢
        right
        rw [longF_snoc]
        have hp := List.pairwise_append.1 hs
        have hi := ih m (by simpa using hl) hp.1
        unfold longStep
        rcases hi with ⟨rfl, e⟩ | ⟨h1, h2, h3, h4⟩
        · rw [e, if_pos (by show (-1 : Int) < _; omega)]
          refine ⟨by simp, rfl, fun b hb => by simp at hb; subst hb; exact Int.le_refl _, fun b hb _ => by simp at hb; exact .inl hb⟩
        · split
          · next hlt =>
            refine ⟨by simp, rfl, fun b hb => ?_, fun b hb hbe => ?_⟩
            · rcases List.mem_append.1 hb with hb | hb
              · have := h3 b hb; show (tailL b : Int) ≤ (tailL a : Int); omega
              · simp at hb; subst hb; exact Int.le_refl _
            · rcases List.mem_append.1 hb with hb | hb
              · have := h3 b hb; have hbe : (tailL b : Int) = (tailL a : Int) := hbe; omega
              · simp at hb; exact .inl hb
          · next hlt =>
            refine ⟨by simp [h1], h2, fun b hb => ?_, fun b hb hbe => ?_⟩
            · rcases List.mem_append.1 hb with hb | hb
              · exact h3 b hb
              · simp at hb; subst hb; omega
            · rcases List.mem_append.1 hb with hb | hb
              · exact h4 b hb hbe
              · simp at hb; subst hb
                exact .inr (hp.2.2 _ h1 _ (by simp))
  exact key l.length l rfl hs

/-! ### All cyclic piles -/
theorem fromB_total (bs : List Int) (h : IsB bs) : (fromB bs).sum = (tri (bs.length - 1) : Int) + bs.sum := by
  induction bs with
  | nil => rfl
  | cons b l ih =>
    have ih := ih (fun x hx => h x (by simp [hx]))
    have hb := h b (by simp)
    have e : (fromB (b :: l)).sum = (l.length : Int) + b + (fromB l).sum := by
      rw [show fromB (b :: l) = if 0 < (l.length : Int) + b then ((l.length : Int) + b) :: fromB l else fromB l from rfl]
      split
      · rw [List.sum_cons]
      · have : (l.length : Int) + b = 0 := by omega
        omega
    rw [e, ih, List.sum_cons]
    cases l with
    | nil => simp [tri]
    | cons c m =>
      have := tri_succ m.length
      simp only [List.length_cons, Nat.add_sub_cancel] at *
      omega
/-- all cyclic piles of a number of cards, given as a list -/
structure AllCyc (c : List (List Int)) (n : Nat) : Prop extends Cyclics c n where
  all : ∀ x, Good x → Cyc x → x.sum = n → x ∈ c
theorem long_lev {c : List (List Int)} {n : Nat} (h : AllCyc c n) : ∃ M : Nat, (longF (allL n)).1 = M ∧ levL c M ≠ [] ∧ levL c (M + 1) = [] ∧ (longF (allL n)).2 ∈ levL c M ∧ (∀ g ∈ levL c M, g = (longF (allL n)).2 ∨ befB (longF (allL n)).2 g = true) := by
  have hne : allL n ≠ [] := by
    intro e
    have := allL_length h.small
    rw [e] at this
    have h1 : ∀ m, m < 29 → 1 ≤ cnt m m := by decide +kernel
    have := h1 n (by have := h.small; omega)
    simp at *
    omega
  rcases longF_spec (allL n) (allL_up n) with ⟨e, _⟩ | ⟨h1, h2, h3, h4⟩
  · exact absurd e hne
  · have hgf := allL_good h.small h1
    have hmem : (longF (allL n)).2 ∈ levL c (tailL (longF (allL n)).2) :=
      (mem_lev h.toCyclics _ _).2 ⟨hgf.1, rfl, h.all _ (endL_good hgf.1) (endL_cyc hgf.1) (by rw [end_sum hgf.1, hgf.2])⟩
    refine ⟨tailL (longF (allL n)).2, h2, (fun e => by rw [e] at hmem; cases hmem), ?_, hmem, fun g hg => ?_⟩
    · rw [List.eq_nil_iff_forall_not_mem]
      intro x hx
      obtain ⟨gx, tx, _⟩ := (mem_lev h.toCyclics _ x).1 hx
      have := h3 x (lev_mem_all h.toCyclics hx)
      omega
    · obtain ⟨gx, tx, _⟩ := (mem_lev h.toCyclics _ g).1 hg
      exact h4 g (lev_mem_all h.toCyclics hg) (by omega)

/-! ### The greatest of a list -/
def maxStep (m a : List Int) : List Int := if befB a m = true then a else m
theorem bef_trans {a b c : List Int} (h1 : befB a b = true) (h2 : befB b c = true) : befB a c = true := by
  induction a generalizing b c with
  | nil => simp [befB] at h1
  | cons x l ih =>
    cases b with
    | nil => simp [befB] at h2
    | cons y m =>
      cases c with
      | nil => rfl
      | cons z k =>
        simp only [befB] at h1 h2 ⊢
        by_cases hxy : x = y
        · subst hxy
          simp only [if_true] at h1
          by_cases hyz : x = z
          · subst hyz
            simp only [if_true] at h2 ⊢
            exact ih h1 h2
          · rw [if_neg hyz] at h2 ⊢; exact h2
        · rw [if_neg hxy] at h1
          have h1' : y < x := by simpa using h1
          by_cases hyz : y = z
          · subst hyz
            rw [if_neg hxy]; exact h1
          · rw [if_neg hyz] at h2
            have h2' : z < y := by simpa using h2
            rw [if_neg (by omega)]
            simp; omega
theorem max_spec (x : List Int) (l : List (List Int)) : (l.foldl maxStep x = x ∨ l.foldl maxStep x ∈ l) ∧ befB x (l.foldl maxStep x) = false ∧ ∀ a ∈ l, befB a (l.foldl maxStep x) = false := by
  induction l generalizing x with
  | nil => exact ⟨.inl rfl, befB_irrefl x, fun a ha => by cases ha⟩
  | cons b l ih =>
    obtain ⟨h1, h2, h3⟩ := ih (maxStep x b)
    simp only [List.foldl_cons]
    have hm : maxStep x b = x ∨ maxStep x b = b := by unfold maxStep; split <;> simp
    have hxb : befB x (maxStep x b) = false ∧ befB b (maxStep x b) = false := by
      unfold maxStep
      split
      · next h =>
        refine ⟨?_, befB_irrefl b⟩
        cases hh : befB x b with
        | false => rfl
        | true => have := bef_trans hh h; rw [befB_irrefl] at this; cases this
      · next h => exact ⟨befB_irrefl x, by simpa using h⟩
    have step : ∀ y, befB y (maxStep x b) = false → befB (maxStep x b) (l.foldl maxStep (maxStep x b)) = false → befB y (l.foldl maxStep (maxStep x b)) = false := by
      intro y hy hz
      cases hh : befB y (l.foldl maxStep (maxStep x b)) with
      | false => rfl
      | true =>
        rcases befB_total hy with e | e
        · rw [e] at hh; rw [hh] at hz; exact hz
        · rcases befB_total hz with e2 | e2
          · rw [← e2] at hh; rw [hh] at hy; exact hy
          · have := bef_trans e hh
            rw [this] at hz; cases hz
    refine ⟨?_, step x hxb.1 h2, fun a ha => ?_⟩
    · rcases h1 with e | e
      · rw [e]
        rcases hm with e2 | e2
        · exact .inl e2
        · right; rw [e2]; exact List.mem_cons_self
      · exact .inr (List.mem_cons_of_mem _ e)
    · rcases List.mem_cons.1 ha with rfl | ha
      · exact step a hxb.2 h2
      · exact h3 a ha

/-! ### Basins -/
theorem basin_count {c : List (List Int)} {s : Nat} (h : Cyclics c s) {T : Nat} (hT : levL c T = []) :
    (((List.range T).map fun t => (levL c t).length).sum) = ((allL s).filter fun b => decide (endL b ∈ c)).length := by
  have e : ((List.range T).map fun t => (levL c t).length).sum = ((List.range T).flatMap fun t => levL c t).length := by rw [List.length_flatMap]
  rw [e]
  apply List.Perm.length_eq
  rw [List.perm_ext_iff_of_nodup]
  · intro x
    rw [List.mem_flatMap, List.mem_filter]
    constructor
    · rintro ⟨t, _, hx⟩
      exact ⟨lev_mem_all h hx, by simpa using ((mem_lev h t x).1 hx).2.2⟩
    · rintro ⟨hx, he⟩
      have hg := (allL_good h.small hx).1
      refine ⟨tailL x, List.mem_range.2 ?_, (mem_lev h _ x).2 ⟨hg, rfl, by simpa using he⟩⟩
      apply Nat.lt_of_not_le
      intro hle
      have hm : x ∈ levL c (tailL x) := (mem_lev h _ x).2 ⟨hg, rfl, by simpa using he⟩
      exact lev_down h hle (fun e => by rw [e] at hm; cases hm) hT
  · unfold List.Nodup
    rw [List.pairwise_flatMap]
    refine ⟨fun t _ => lev_nodup h t, ?_⟩
    refine List.nodup_range.imp ?_
    intro t u htu x hx y hy e
    subst e
    have h1 := ((mem_lev h t x).1 hx).2.1
    have h2 := ((mem_lev h u x).1 hy).2.1
    omega
  · exact (nodup_of_bef (allL_up s)).filter _
end Go.Proofs.YthmaggmhcfcojaaDoor
