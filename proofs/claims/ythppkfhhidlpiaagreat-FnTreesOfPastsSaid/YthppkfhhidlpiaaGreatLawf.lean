/- FnTreesOfPasts in mathematics: the tree of piles. No condition. -/
import Derived.Test.YthppkfhhidlpiaaGreatGx
import Derived.Test.YthppkfhhidlpiaaGreatGe
namespace Go.Proofs.YthppkfhhidlpiaaGreat
set_option linter.unusedVariables false
set_option linter.unusedSimpArgs false

theorem tree_mem {a b : List Int} : b ∈ treeL a ↔ ∃ t, t < depN a ∧ b ∈ levL [a] t := by
  unfold treeL
  rw [srt_mem, List.mem_flatten]
  constructor
  · rintro ⟨l, hl, hb⟩
    obtain ⟨t, ht, rfl⟩ := List.mem_map.1 hl
    exact ⟨t, List.mem_range.1 ht, hb⟩
  · rintro ⟨t, ht, hb⟩
    exact ⟨_, List.mem_map.2 ⟨t, List.mem_range.2 ht, rfl⟩, hb⟩
theorem lev_one {a : List Int} (hg : Good a) {t : Nat} {b : List Int} : b ∈ levL [a] t ↔ Good b ∧ stepsL t b = a ∧ ∀ j, j < t → ¬ Cyc (stepsL j b) := by
  have h := mem_levR (c := [a]) (fun x hx => by rw [List.mem_singleton.1 hx]; exact hg) t b
  rw [h, List.mem_singleton]
theorem back_cyc {a : List Int} (hg : Good a) {q : Nat} (hq : 1 ≤ q) (h : stepsL q a = a) : Cyc a := by
  have hc := (tailL_spec hg).2.1
  -- behind as many rounds as it takes, a itself is met again
  have hk : ∀ k, stepsL (k * q) a = a := fun k => by
    induction k with
    | zero => rw [Nat.zero_mul]; exact steps_none a
    | succ k ih => rw [Nat.succ_mul, Nat.add_comm, stepsL_plus, ih, h]
  have h1 := hk (tailL a)
  have h2 : tailL a * q = (tailL a * q - tailL a) + tailL a := by
    have := Nat.mul_le_mul_left (tailL a) hq
    omega
  rw [h2, stepsL_plus] at h1
  have h3 := cyc_steps (stepsL_good hg (tailL a)) hc (tailL a * q - tailL a)
  rw [h1] at h3
  exact h3
theorem tree_past {a : List Int} (hg : Good a) {t : Nat} {b : List Int} (hb : b ∈ levL [a] t) : mIsPastOf b a = ((t : Int), true) := by
  obtain ⟨h1, h2, h3⟩ := (lev_one hg).1 hb
  obtain ⟨s, _, _, hr⟩ := roots_one hg
  have hs := levR_short hr hb
  have hp := (perL_spec (endL_good h1) (endL_cyc h1)).1
  refine mIPO_yes (good_iff.2 h1) (good_iff.2 hg) h2 (fun i hi e => ?_) (by omega)
  have hn := h3 i hi
  rw [e] at hn
  refine hn (back_cyc hg (q := t - i) (by omega) ?_)
  have : stepsL t b = stepsL (t - i) (stepsL i b) := by rw [← stepsL_plus]; congr 1; omega
  rw [e, h2] at this
  exact this.symm
theorem tree_cyc {a : List Int} (hg : Good a) {t : Nat} {b : List Int} (hb : b ∈ levL [a] t) (hc : Cyc b) : b = a ∧ t = 0 := by
  obtain ⟨h1, h2, h3⟩ := (lev_one hg).1 hb
  have ht : t = 0 := by
    rcases Nat.eq_zero_or_pos t with h | h
    · exact h
    · exact absurd hc (h3 0 h)
  subst ht
  exact ⟨h2, rfl⟩
theorem tree_tail {a : List Int} (hg : Good a) (hc : Cyc a) {t : Nat} {b : List Int} (hb : b ∈ levL [a] t) : tailL b = t := by
  obtain ⟨h1, h2, h3⟩ := (lev_one hg).1 hb
  obtain ⟨_, h5, h6⟩ := tailL_spec h1
  rcases Nat.lt_trichotomy (tailL b) t with h | h | h
  · exact absurd h5 (h3 _ h)
  · exact h
  · exact absurd (by rw [h2]; exact hc) (h6 t h)
theorem far_first {a : List Int} (hg : Good a) {b : List Int} (hb : b ∈ levL [a] (depN a - 1)) : befB b (farL a) = false := by
  unfold farL
  rw [plL_eq]
  have hs := srt_srtd (levL [a] (depN a - 1))
  have hm : b ∈ srt (levL [a] (depN a - 1)) := srt_mem.2 hb
  cases e : srt (levL [a] (depN a - 1)) with
  | nil => rw [e] at hm; cases hm
  | cons x r =>
    rw [e] at hm hs
    show befB b x = false
    rcases List.mem_cons.1 hm with rfl | hm
    · exact befB_irrefl _
    · exact (List.pairwise_cons.1 hs).1 b hm
theorem tree_at {a : List Int} (hg : Good a) {b : List Int} (hb : b ∈ treeL a) : ∃ t : Nat, t < depN a ∧ goodB b = true ∧ mIsPastOf b a = ((t : Int), true) ∧ (cycB b = true → b = a) ∧ (t + 1 = depN a → befB b (farL a) = false) ∧ (cycB a = true → tailL b = t) := by
  obtain ⟨t, ht, hl⟩ := tree_mem.1 hb
  refine ⟨t, ht, good_iff.2 ((lev_one hg).1 hl).1, tree_past hg hl, fun hc => (tree_cyc hg hl (cyc_iff.1 hc)).1, fun e => ?_, fun hc => tree_tail hg (cyc_iff.1 hc) hl⟩
  refine far_first hg ?_
  rw [show depN a - 1 = t by omega]; exact hl
/-- the greatest number of steps among the first j -/
def dpT (a : List Int) (l : List (List Int)) : Nat → Int
  | 0 => 0
  | j + 1 => if dpT a l j < (mIsPastOf (l.getD j []) a).1 then (mIsPastOf (l.getD j []) a).1 else dpT a l j
theorem dpT_le {a : List Int} {l : List (List Int)} {d : Int} (h0 : 0 ≤ d) (h : ∀ b ∈ l, (mIsPastOf b a).1 ≤ d) : ∀ j, j ≤ l.length → 0 ≤ dpT a l j ∧ dpT a l j ≤ d
  | 0, _ => ⟨Int.le_refl _, h0⟩
  | j + 1, hj => by
    have ih := dpT_le h0 h j (by omega)
    have hm : l.getD j [] ∈ l := by rw [List.getD_eq_getElem?_getD, List.getElem?_eq_getElem (by omega)]; exact List.getElem_mem _
    have := h _ hm
    unfold dpT
    split <;> omega
theorem dpT_ge {a : List Int} {l : List (List Int)} {i : Nat} : ∀ j, i < j → (mIsPastOf (l.getD i []) a).1 ≤ dpT a l j
  | 0, h => by omega
  | j + 1, h => by
    unfold dpT
    by_cases e : i = j
    · subst e; split <;> omega
    · have := dpT_ge (a := a) (l := l) (i := i) j (by omega)
      split <;> omega
theorem dpT_all {a : List Int} (hg : Good a) : dpT a (treeL a) (treeL a).length = (depN a : Int) - 1 := by
  obtain ⟨d1, _, _, _⟩ := depN_spec hg
  have hup := dpT_le (a := a) (l := treeL a) (d := (depN a : Int) - 1) (by omega) (fun b hb => by
    obtain ⟨t, ht, _, e, _⟩ := tree_at hg hb
    rw [e]; show (t : Int) ≤ _; omega) (treeL a).length (Nat.le_refl _)
  obtain ⟨hf, hne⟩ := far_mem hg
  rw [plL_eq, srt_mem] at hf
  have hfm : farL a ∈ treeL a := tree_mem.2 ⟨depN a - 1, by omega, hf⟩
  obtain ⟨i, hi, e⟩ := List.getElem_of_mem hfm
  have hge := dpT_ge (a := a) (l := treeL a) (i := i) (treeL a).length hi
  rw [List.getD_eq_getElem?_getD, List.getElem?_eq_getElem hi] at hge
  simp only [Option.getD_some] at hge
  rw [e, tree_past hg hf] at hge
  have : ((depN a - 1 : Nat) : Int) ≤ dpT a (treeL a) (treeL a).length := hge
  omega
theorem countP_one {A : List (List Int)} (hA : A.Nodup) {y : List Int} (hy : y ∈ A) : A.countP (fun c => decide (y = c)) = 1 := by
  induction A with
  | nil => cases hy
  | cons a A ih =>
    rw [List.countP_cons]
    obtain ⟨h1, h2⟩ := List.nodup_cons.1 hA
    by_cases e : y = a
    · subst e
      have : A.countP (fun c => decide (y = c)) = 0 := List.countP_eq_zero.2 fun c hc => by
        simp only [decide_eq_true_iff]; intro e; subst e; exact h1 hc
      rw [this]; simp
    · rw [ih h2 ((List.mem_cons.1 hy).resolve_left e)]; simp [e]
theorem tree_end {c p : List Int} (hg : Good c) (hc : Cyc c) : p ∈ treeL c ↔ Good p ∧ endL p = c := by
  constructor
  · intro h
    obtain ⟨t, ht, hl⟩ := tree_mem.1 h
    obtain ⟨h1, h2, _⟩ := (lev_one hg).1 hl
    have ht2 := tree_tail hg hc hl
    exact ⟨h1, by unfold endL; rw [ht2]; exact h2⟩
  · rintro ⟨h1, h2⟩
    have hm : p ∈ levL [c] (tailL p) := (lev_one hg).2 ⟨h1, h2, (tailL_spec h1).2.2⟩
    obtain ⟨_, _, h3, _⟩ := depN_spec hg
    refine tree_mem.2 ⟨tailL p, ?_, hm⟩
    rcases Nat.lt_or_ge (tailL p) (depN c) with h | h
    · exact h
    · exfalso
      have := levR_stop h3 (tailL p - depN c)
      rw [show depN c + (tailL p - depN c) = tailL p by omega] at this
      rw [this] at hm; cases hm
theorem tree_count {c : List Int} (hg : Good c) (hc : Cyc c) {n : Nat} (hn : c.sum = n) : (treeL c).length = ((allL n).filter fun p => decide (endL p = c)).length := by
  obtain ⟨s, _, _, hr⟩ := roots_one hg
  have h1 : (treeL c).Nodup := (srt_perm _).nodup_iff.2 (tree_nodup hr (apart_one hg) (depN c))
  have h2 : ((allL n).filter fun p => decide (endL p = c)).Nodup := (nodup_of_bef (allL_up n)).filter _
  apply List.Perm.length_eq
  rw [List.perm_ext_iff_of_nodup h1 h2]
  intro p
  rw [tree_end hg hc, List.mem_filter, decide_eq_true_iff]
  constructor
  · rintro ⟨a1, a2⟩
    refine ⟨?_, a2⟩
    have := mem_allL a1
    rw [← end_sum a1, a2, hn] at this
    simpa using this
  · rintro ⟨a1, a2⟩
    have h28 : n ≤ 28 := by have := hg.2.2; omega
    exact ⟨(allL_good h28 a1).1, a2⟩
def treS (l : List (List Int)) (k : Nat) : Int := ((l.take k).map fun b => (((treeL b).length : Nat) : Int)).sum
theorem treS_succ {l : List (List Int)} {k : Nat} (h : k < l.length) : treS l (k + 1) = treS l k + ((treeL (l.getD k [])).length : Int) := by
  unfold treS
  have e : l.take (k + 1) = l.take k ++ [l.getD k []] := by
    rw [List.take_add_one, List.getD_eq_getElem?_getD, List.getElem?_eq_getElem h]; rfl
  rw [e, List.map_append, List.sum_append]; simp
theorem treS_le (l : List (List Int)) (k : Nat) : 0 ≤ treS l k ∧ treS l k ≤ (l.map fun b => (((treeL b).length : Nat) : Int)).sum := by
  have h0 : ∀ m : List (List Int), 0 ≤ (m.map fun b => (((treeL b).length : Nat) : Int)).sum := fun m => by
    induction m with
    | nil => exact Int.le_refl _
    | cons a m ih => rw [List.map_cons, List.sum_cons]; omega
  have := congrArg (fun m : List (List Int) => (m.map fun b => (((treeL b).length : Nat) : Int)).sum) (List.take_append_drop k l)
  simp only [List.map_append, List.sum_append] at this
  have h1 := h0 (l.take k)
  have h2 := h0 (l.drop k)
  unfold treS
  omega
theorem trees_add {c : List (List Int)} {n : Nat} (h : AllCyc c n) : (c.map fun b => (((treeL b).length : Nat) : Int)).sum = ((allL n).length : Int) := by
  refine Eq.trans (congrArg List.sum (List.map_congr_left fun b hb => ?_)) (swap_one c (fun p b => decide (endL p = b)) (allL n) (fun p hp => by
    obtain ⟨hg, hs⟩ := allL_good h.toCyclics.small hp
    exact countP_one h.toCyclics.nodup (h.all _ (endL_good hg) (endL_cyc hg) (by rw [end_sum hg, hs]))))
  rw [tree_count (h.toCyclics.good b hb) (h.toCyclics.cyc b hb) (h.toCyclics.sum b hb)]
theorem tree_ord {a : List Int} (hg : Good a) : ordB (treeL a) = true := by
  obtain ⟨s, _, _, hr⟩ := roots_one hg
  exact ordB_of (srt_up (tree_nodup hr (apart_one hg) (depN a)))
theorem tree_has {a : List Int} (hg : Good a) : a ∈ treeL a ∧ farL a ∈ treeL a := by
  obtain ⟨d1, _, _, _⟩ := depN_spec hg
  obtain ⟨hf, _⟩ := far_mem hg
  rw [plL_eq, srt_mem] at hf
  exact ⟨tree_mem.2 ⟨0, by omega, by show a ∈ [a]; simp⟩, tree_mem.2 ⟨depN a - 1, by omega, hf⟩⟩
end Go.Proofs.YthppkfhhidlpiaaGreat
