/- Lists of lists in the order of chapter 1: putting in place, sorting. Plain mathematics; no condition. -/
import Derived.Test.YthmaggmhcfcojaaDoorByTailM
import Derived.Test.YthmaggmhcfcojaaDoorLawM
namespace Go.Proofs.YthmaggmhcfcojaaDoor
set_option linter.unusedVariables false
set_option linter.unusedSimpArgs false

theorem befB_asymm {a b : List Int} (h : befB a b = true) : befB b a = false := by
  cases hb : befB b a with
  | false => rfl
  | true => have := bef_trans h hb; rw [befB_irrefl] at this; cases this
theorem befN_antisymm {a b : List Int} (h1 : befB a b = false) (h2 : befB b a = false) : a = b := by
  rcases befB_total h1 with h | h
  · exact h
  · rw [h] at h2; cases h2
theorem befN_trans {a b c : List Int} (h1 : befB b a = false) (h2 : befB c b = false) : befB c a = false := by
  cases h : befB c a with
  | false => rfl
  | true =>
    rcases befB_total h1 with e | h3
    · subst e; rw [h] at h2; cases h2
    · have := bef_trans h h3; rw [this] at h2; cases h2
/-- in order, where the same list may come again -/
def srtd (l : List (List Int)) : Prop := l.Pairwise (fun a b => befB b a = false)
theorem srtd_up {l : List (List Int)} (h : l.Pairwise (fun a b => befB a b = true)) : srtd l := h.imp (fun {a b} h => befB_asymm h)
theorem srtd_unique {l m : List (List Int)} (hl : srtd l) (hm : srtd m) (hp : l.Perm m) : l = m :=
  List.Perm.eq_of_pairwise (fun a b _ _ h h' => befN_antisymm h' h) hl hm hp
theorem mem_tw {p : List Int → Bool} {l : List (List Int)} {x : List Int} (h : x ∈ l.takeWhile p) : p x = true := by
  induction l with
  | nil => cases h
  | cons a l ih =>
    rw [List.takeWhile_cons] at h
    split at h
    · next hp =>
      rcases List.mem_cons.1 h with rfl | h
      · exact hp
      · exact ih h
    · cases h
theorem addL_perm (ls : List (List Int)) (a : List Int) : (addL ls a).Perm (a :: ls) := by
  unfold addL
  have h := List.takeWhile_append_dropWhile (p := fun l => befB l a) (l := ls)
  refine List.perm_middle.trans ?_
  rw [h]
theorem addL_srtd {ls : List (List Int)} {a : List Int} (h : srtd ls) : srtd (addL ls a) := by
  have hs := List.takeWhile_append_dropWhile (p := fun l => befB l a) (l := ls)
  unfold addL
  unfold srtd at h ⊢
  rw [← hs, List.pairwise_append] at h
  obtain ⟨h1, h2, h3⟩ := h
  have ht : ∀ x ∈ ls.takeWhile (fun l => befB l a), befB x a = true := fun x hx => mem_tw (p := fun l => befB l a) hx
  have hd : ∀ x ∈ ls.dropWhile (fun l => befB l a), befB x a = false := by
    intro x hx
    cases hq : ls.dropWhile (fun l => befB l a) with
    | nil => rw [hq] at hx; cases hx
    | cons y m =>
      have hy : befB y a = false := by
        have := List.head?_dropWhile_not (fun l => befB l a) ls
        rw [hq] at this
        simpa using this
      rw [hq] at hx h2
      rcases List.mem_cons.1 hx with rfl | hm
      · exact hy
      · exact befN_trans hy ((List.pairwise_cons.1 h2).1 x hm)
  rw [List.pairwise_append]
  refine ⟨h1, List.pairwise_cons.2 ⟨hd, h2⟩, fun x hx y hy => ?_⟩
  rcases List.mem_cons.1 hy with rfl | hy
  · exact befB_asymm (ht x hx)
  · exact h3 x hx y hy
/-- lists in order -/
def srt (l : List (List Int)) : List (List Int) := l.foldl addL []
theorem foldl_addL_perm (l acc : List (List Int)) : (l.foldl addL acc).Perm (acc ++ l) := by
  induction l generalizing acc with
  | nil => simp
  | cons a l ih =>
    rw [List.foldl_cons]
    refine (ih _).trans ?_
    refine ((addL_perm acc a).append_right l).trans ?_
    rw [List.cons_append]
    exact List.perm_middle.symm
theorem foldl_addL_srtd (l acc : List (List Int)) (h : srtd acc) : srtd (l.foldl addL acc) := by
  induction l generalizing acc with
  | nil => exact h
  | cons a l ih => rw [List.foldl_cons]; exact ih _ (addL_srtd h)
theorem srt_perm (l : List (List Int)) : (srt l).Perm l := by have := foldl_addL_perm l []; simpa [srt] using this
theorem srt_srtd (l : List (List Int)) : srtd (srt l) := foldl_addL_srtd l [] List.Pairwise.nil
theorem srt_unique {l m : List (List Int)} (h : srtd m) (hp : m.Perm l) : m = srt l := srtd_unique h (srt_srtd l) (hp.trans (srt_perm l).symm)
theorem srt_of_perm {l m : List (List Int)} (hp : l.Perm m) : srt l = srt m := srt_unique (srt_srtd l) ((srt_perm l).trans hp)
theorem srt_nil : srt [] = [] := rfl
theorem srt_one (a : List Int) : srt [a] = [a] := rfl
theorem srt_snoc (l : List (List Int)) (a : List Int) : srt (l ++ [a]) = addL (srt l) a := by unfold srt; rw [List.foldl_append]; rfl
theorem srt_length (l : List (List Int)) : (srt l).length = l.length := (srt_perm l).length_eq
theorem srt_mem {l : List (List Int)} {a : List Int} : a ∈ srt l ↔ a ∈ l := (srt_perm l).mem_iff
theorem srt_of_srtd {l : List (List Int)} (h : srtd l) : srt l = l := (srt_unique h (List.Perm.refl _)).symm
theorem srt_up {l : List (List Int)} (h : l.Nodup) : (srt l).Pairwise (fun a b => befB a b = true) := by
  have hn := (srt_perm l).symm.nodup_iff.1 h
  have hs := srt_srtd l
  unfold srtd at hs
  refine hs.imp₂ ?_ hn
  intro a b h1 h2
  rcases befB_total h1 with e | h3
  · exact absurd e.symm h2
  · exact h3
theorem total_perm {l m : List (List Int)} (h : l.Perm m) : (l.map List.length).sum = (m.map List.length).sum := (h.map _).sum_nat

/-! ### Levels back from some roots -/
/-- the piles from which t steps lead to some of c, the first t of them not cyclic -/
theorem mem_levR {c : List (List Int)} (hc : ∀ x ∈ c, Good x) (t : Nat) : ∀ x, x ∈ levL c t ↔ Good x ∧ stepsL t x ∈ c ∧ ∀ j, j < t → ¬ Cyc (stepsL j x) := by
  induction t with
  | zero => intro x; exact ⟨fun h => ⟨hc x h, h, fun j hj => absurd hj (Nat.not_lt_zero _)⟩, fun h => h.2.1⟩
  | succ t ih =>
    intro x
    show x ∈ looseL (levL c t) ↔ _
    unfold looseL
    rw [List.mem_flatMap]
    constructor
    · rintro ⟨a, ha, hx⟩
      obtain ⟨ga, sa, na⟩ := (ih a).1 ha
      obtain ⟨gx, sx, cx⟩ := (mem_loose ga).1 hx
      refine ⟨gx, by rw [stepsL_front, sx]; exact sa, fun j hj => ?_⟩
      cases j with
      | zero => exact cx
      | succ j => rw [stepsL_front, sx]; exact na j (by omega)
    · rintro ⟨gx, sx, nx⟩
      have gs := stepL_good gx
      refine ⟨stepL x, (ih _).2 ⟨gs, by rw [← stepsL_front]; exact sx, fun j hj => by rw [← stepsL_front]; exact nx (j + 1) (by omega)⟩, (mem_loose gs).2 ⟨gx, rfl, nx 0 (by omega)⟩⟩
structure Roots (c : List (List Int)) (s : Nat) : Prop where
  small : s ≤ 28
  good : ∀ x ∈ c, Good x
  sum : ∀ x ∈ c, x.sum = s
  nodup : c.Nodup
theorem Cyclics.roots {c : List (List Int)} {s : Nat} (h : Cyclics c s) : Roots c s := ⟨h.small, h.good, h.sum, h.nodup⟩
theorem roots_one {a : List Int} (h : Good a) : ∃ s : Nat, a.sum = s ∧ s ≤ 28 ∧ Roots [a] s := by
  have h0 := sum_nonneg h.1
  have h1 := h.2.2
  refine ⟨a.sum.toNat, by omega, by omega, ⟨by omega, fun x hx => ?_, fun x hx => ?_, by simp⟩⟩
  · rw [List.mem_singleton.1 hx]; exact h
  · rw [List.mem_singleton.1 hx]; omega
theorem levR_good {c : List (List Int)} {s : Nat} (h : Roots c s) {t : Nat} {x : List Int} (hx : x ∈ levL c t) : Good x := ((mem_levR h.good t x).1 hx).1
theorem levR_sum {c : List (List Int)} {s : Nat} (h : Roots c s) {t : Nat} {x : List Int} (hx : x ∈ levL c t) : x.sum = s := by
  obtain ⟨g, e, _⟩ := (mem_levR h.good t x).1 hx
  rw [← stepsL_sum g t]; exact h.sum _ e
theorem levR_nodup {c : List (List Int)} {s : Nat} (h : Roots c s) (t : Nat) : (levL c t).Nodup := by
  induction t with
  | zero => exact h.nodup
  | succ t ih =>
    show (looseL (levL c t)).Nodup
    unfold looseL
    unfold List.Nodup
    rw [List.pairwise_flatMap]
    refine ⟨fun a ha => loose_nodup (levR_good h ha), ?_⟩
    refine ih.imp_of_mem ?_
    intro a b ha hb hab x hx y hy e
    subst e
    have h1 := ((mem_loose (levR_good h ha)).1 hx).2.1
    have h2 := ((mem_loose (levR_good h hb)).1 hy).2.1
    exact hab (h1.symm.trans h2)
theorem levR_mem_all {c : List (List Int)} {s : Nat} (h : Roots c s) {t : Nat} {x : List Int} (hx : x ∈ levL c t) : x ∈ allL s := by
  have := mem_allL (levR_good h hx)
  rw [levR_sum h hx] at this
  simpa using this
theorem levR_length {c : List (List Int)} {s : Nat} (h : Roots c s) (t : Nat) : (levL c t).length ≤ 3718 := by
  have := nodup_len (levR_nodup h t) (fun x hx => levR_mem_all h hx)
  rw [allL_length h.small] at this
  have := cnt_le s (by have := h.small; omega) s (by have := h.small; omega)
  omega
theorem levR_short {c : List (List Int)} {s : Nat} (h : Roots c s) {t : Nat} {x : List Int} (hx : x ∈ levL c t) : t ≤ tailL x := by
  obtain ⟨g, _, hn⟩ := (mem_levR h.good t x).1 hx
  have h1 := (tailL_spec g).2.1
  rcases Nat.lt_or_ge (tailL x) t with h2 | h2
  · exact absurd h1 (hn _ h2)
  · exact h2
theorem levR_some {c : List (List Int)} {s : Nat} (h : Roots c s) {t : Nat} (ht : levL c t ≠ []) : t ≤ 3718 := by
  cases hl : levL c t with
  | nil => exact absurd hl ht
  | cons x l =>
    have hx : x ∈ levL c t := by rw [hl]; exact List.mem_cons_self
    have := levR_short h hx
    have := (tailL_spec (levR_good h hx)).1
    omega
theorem levR_far {c : List (List Int)} {s : Nat} (h : Roots c s) : levL c 3719 = [] := by
  cases hl : levL c 3719 with
  | nil => rfl
  | cons x l => have := levR_some h (t := 3719) (by rw [hl]; simp); omega
theorem levR_stop {c : List (List Int)} {t : Nat} (h : levL c t = []) (d : Nat) : levL c (t + d) = [] := by
  induction d with
  | zero => exact h
  | succ d ih => show looseL (levL c (t + d)) = []; rw [ih]; rfl
/-- how many levels there are before the first empty one -/
def levN (c : List (List Int)) : Nat := ((List.range 3720).find? fun t => (levL c t).isEmpty).getD 0
theorem levN_spec {c : List (List Int)} {s : Nat} (h : Roots c s) : levN c ≤ 3719 ∧ levL c (levN c) = [] ∧ ∀ t, t < levN c → levL c t ≠ [] := by
  unfold levN
  cases hf : (List.range 3720).find? fun t => (levL c t).isEmpty with
  | none =>
    rw [List.find?_eq_none] at hf
    have := hf 3719 (by simp)
    rw [levR_far h] at this
    simp at this
  | some t =>
    obtain ⟨h1, as, bs, e, h2⟩ := List.find?_eq_some_iff_append.1 hf
    have hm : t ∈ List.range 3720 := by rw [e]; simp
    have hm' := List.mem_range.1 hm
    refine ⟨by simp only [Option.getD_some]; omega, by simpa using h1, fun u hu => ?_⟩
    simp only [Option.getD_some] at hu
    have hmu : u ∈ as := by
      have hu2 : u ∈ List.range 3720 := List.mem_range.2 (by omega)
      have hp := List.pairwise_lt_range (n := 3720)
      rw [e] at hu2 hp
      rcases List.mem_append.1 hu2 with h3 | h3
      · exact h3
      · rcases List.mem_cons.1 h3 with h4 | h4
        · omega
        · have := (List.pairwise_cons.1 (List.pairwise_append.1 hp).2.1).1 u h4
          omega
    have := h2 u hmu
    simpa using this
theorem levN_unique {c : List (List Int)} {s N : Nat} (h : Roots c s) (h1 : levL c N = []) (h2 : ∀ t, t < N → levL c t ≠ []) : N = levN c := by
  obtain ⟨_, h3, h4⟩ := levN_spec h
  rcases Nat.lt_trichotomy N (levN c) with h5 | h5 | h5
  · exact absurd h1 (h4 N h5)
  · exact h5
  · exact absurd h3 (h2 _ h5)
theorem levN_pos {c : List (List Int)} {s : Nat} (h : Roots c s) (hc : c ≠ []) : 1 ≤ levN c := by
  have := (levN_spec h).2.1
  rcases Nat.eq_zero_or_pos (levN c) with h0 | h0
  · rw [h0] at this; exact absurd this hc
  · exact h0
/-- all levels -/
def levs (c : List (List Int)) (N : Nat) : List (List (List Int)) := (List.range N).map (levL c)
theorem levs_succ (c : List (List Int)) (N : Nat) : levs c (N + 1) = levs c N ++ [levL c N] := by unfold levs; rw [List.range_succ, List.map_append]; rfl
theorem levs_length (c : List (List Int)) (N : Nat) : (levs c N).length = N := by simp [levs]
theorem levs_getD (c : List (List Int)) (N t : Nat) (h : t < N) : (levs c N).getD t [] = levL c t := by
  unfold levs
  rw [List.getD_eq_getElem?_getD, List.getElem?_eq_getElem (by simpa using h)]
  simp
/-- roots none of which leads to another one behind steps that are not cyclic -/
def RootsApart (c : List (List Int)) : Prop := ∀ x y, x ∈ c → y ∈ c → ∀ d, 0 < d → stepsL d x = y → (∀ j, j < d → ¬ Cyc (stepsL j x)) → False
theorem apart_cyc {c : List (List Int)} (h : ∀ x ∈ c, Cyc x) : RootsApart c := fun x y hx _ d hd _ hn => hn 0 hd (h x hx)
theorem apart_one {a : List Int} (ha : Good a) : RootsApart [a] := by
  intro x y hx hy d hd e hn
  have ex := List.mem_singleton.1 hx
  have ey := List.mem_singleton.1 hy
  subst ex
  rw [ey] at e
  exact hn 0 hd (cyc_of_again ha hd e)
theorem tree_nodup {c : List (List Int)} {s : Nat} (h : Roots c s) (ha : RootsApart c) (N : Nat) : (levs c N).flatten.Nodup := by
  unfold levs
  rw [← List.flatMap_def]
  unfold List.Nodup
  rw [List.pairwise_flatMap]
  refine ⟨fun t _ => levR_nodup h t, ?_⟩
  refine (List.pairwise_lt_range (n := N)).imp ?_
  intro t u htu x hx y hy e
  subst e
  obtain ⟨g, h1, n1⟩ := (mem_levR h.good t x).1 hx
  obtain ⟨_, h2, n2⟩ := (mem_levR h.good u x).1 hy
  refine ha _ _ h1 h2 (u - t) (by omega) (by rw [← stepsL_plus]; congr 1; omega) (fun j hj => ?_)
  rw [← stepsL_plus]
  exact n2 _ (by omega)
theorem levs_all {c : List (List Int)} {s : Nat} (h : Roots c s) {N : Nat} {x : List Int} (hx : x ∈ (levs c N).flatten) : x ∈ allL s ∧ Good x := by
  obtain ⟨l, hl, hx⟩ := List.mem_flatten.1 hx
  obtain ⟨t, _, rfl⟩ := List.mem_map.1 hl
  exact ⟨levR_mem_all h hx, levR_good h hx⟩
theorem tree_length {c : List (List Int)} {s : Nat} (h : Roots c s) (ha : RootsApart c) (N : Nat) : (levs c N).flatten.length ≤ 3718 := by
  have := nodup_len (tree_nodup h ha N) (fun x hx => (levs_all h hx).1)
  rw [allL_length h.small] at this
  have := cnt_le s (by have := h.small; omega) s (by have := h.small; omega)
  omega

/-! ### Pasts at some steps -/
def lvA (a : List Int) : Nat → List (List Int)
  | 0 => [a]
  | k + 1 => (lvA a k).flatMap pastsL
theorem mem_pastsG {a p : List Int} (ha : Good a) : p ∈ pastsL a ↔ Good p ∧ stepL p = a :=
  ⟨fun h => by obtain ⟨e, hg⟩ := pasts_sound ha h; exact ⟨hg, e⟩, fun h => past_of_step h.1 h.2⟩
theorem mem_lvA {a : List Int} (ha : Good a) (k : Nat) : ∀ x, x ∈ lvA a k ↔ Good x ∧ stepsL k x = a := by
  induction k with
  | zero => intro x; show x ∈ [a] ↔ _; rw [List.mem_singleton]; exact ⟨fun e => by subst e; exact ⟨ha, rfl⟩, fun h => h.2⟩
  | succ k ih =>
    intro x
    show x ∈ (lvA a k).flatMap pastsL ↔ _
    rw [List.mem_flatMap]
    constructor
    · rintro ⟨b, hb, hx⟩
      obtain ⟨gb, sb⟩ := (ih b).1 hb
      obtain ⟨gx, sx⟩ := (mem_pastsG gb).1 hx
      exact ⟨gx, by rw [stepsL_front, sx]; exact sb⟩
    · rintro ⟨gx, sx⟩
      have gs := stepL_good gx
      exact ⟨stepL x, (ih _).2 ⟨gs, by rw [← stepsL_front]; exact sx⟩, (mem_pastsG gs).2 ⟨gx, rfl⟩⟩
theorem lvA_nodup {a : List Int} (ha : Good a) (k : Nat) : (lvA a k).Nodup := by
  induction k with
  | zero => simp [lvA]
  | succ k ih =>
    show ((lvA a k).flatMap pastsL).Nodup
    unfold List.Nodup
    rw [List.pairwise_flatMap]
    refine ⟨fun b hb => nodup_of_bef (pasts_up ((mem_lvA ha k b).1 hb).1), ?_⟩
    refine ih.imp_of_mem ?_
    intro b c hb hc hbc x hx y hy e
    subst e
    have h1 := ((mem_pastsG ((mem_lvA ha k b).1 hb).1).1 hx).2
    have h2 := ((mem_pastsG ((mem_lvA ha k c).1 hc).1).1 hy).2
    exact hbc (h1.symm.trans h2)
theorem lvA_sum {a : List Int} (ha : Good a) {k : Nat} {x : List Int} (hx : x ∈ lvA a k) : x.sum = a.sum := by
  obtain ⟨g, e⟩ := (mem_lvA ha k x).1 hx
  rw [← e, stepsL_sum g]
theorem lvA_length {a : List Int} (ha : Good a) (k : Nat) : (lvA a k).length ≤ 3718 := by
  have h0 := sum_nonneg ha.1
  have h1 := ha.2.2
  have hm : ∀ x ∈ lvA a k, x ∈ allL a.sum.toNat := fun x hx => by
    have := mem_allL ((mem_lvA ha k x).1 hx).1
    rw [lvA_sum ha hx] at this
    exact this
  have := nodup_len (lvA_nodup ha k) hm
  rw [allL_length (by omega)] at this
  have := cnt_le a.sum.toNat (by omega) a.sum.toNat (by omega)
  omega

/-! ### Tables of how often a number comes -/
def topT (f : List Int → Nat) (l : List (List Int)) : Nat := l.foldl (fun m x => max m (f x + 1)) 0
def tabT (f : List Int → Nat) (l : List (List Int)) : List Int := (List.range (topT f l)).map fun d => ((l.countP fun x => decide (f x = d) : Nat) : Int)
theorem snoc_ind {α : Type} {P : List α → Prop} (l : List α) (h0 : P []) (h1 : ∀ l x, P l → P (l ++ [x])) : P l := by
  have : ∀ m : List α, P m.reverse := by
    intro m
    induction m with
    | nil => exact h0
    | cons a m ih => rw [List.reverse_cons]; exact h1 _ _ ih
  simpa using this l.reverse
theorem topT_snoc (f : List Int → Nat) (l : List (List Int)) (x : List Int) : topT f (l ++ [x]) = max (topT f l) (f x + 1) := by unfold topT; rw [List.foldl_append]; rfl
theorem topT_le {f : List Int → Nat} {l : List (List Int)} : ∀ {x : List Int}, x ∈ l → f x < topT f l := by
  refine snoc_ind (P := fun l => ∀ {x : List Int}, x ∈ l → f x < topT f l) l (fun h => by cases h) (fun l y ih => ?_)
  intro x h
  rw [topT_snoc]
  rcases List.mem_append.1 h with h | h
  · have := ih h; omega
  · rw [List.mem_singleton.1 h]; omega
theorem topT_ex {f : List Int → Nat} {l : List (List Int)} : 0 < topT f l → ∃ x ∈ l, f x + 1 = topT f l := by
  refine snoc_ind (P := fun l => 0 < topT f l → ∃ x ∈ l, f x + 1 = topT f l) l (fun h => by simp [topT] at h) (fun l y ih => ?_)
  · intro h
    rw [topT_snoc] at h ⊢
    rcases Nat.lt_or_ge (f y + 1) (topT f l) with h1 | h1
    · obtain ⟨x, hx, e⟩ := ih (by omega)
      exact ⟨x, by simp [hx], by omega⟩
    · exact ⟨y, by simp, by omega⟩
theorem topT_bound {f : List Int → Nat} {l : List (List Int)} {b : Nat} (h : ∀ x ∈ l, f x < b) : topT f l ≤ b := by
  rcases Nat.eq_zero_or_pos (topT f l) with h0 | h0
  · omega
  · obtain ⟨x, hx, e⟩ := topT_ex h0
    have := h x hx
    omega
theorem tabT_length (f : List Int → Nat) (l : List (List Int)) : (tabT f l).length = topT f l := by simp [tabT]
theorem tabT_getD (f : List Int → Nat) (l : List (List Int)) (d : Nat) : (tabT f l).getD d 0 = ((l.countP fun x => decide (f x = d) : Nat) : Int) := by
  unfold tabT
  rw [List.getD_eq_getElem?_getD, List.getElem?_map]
  by_cases h : d < topT f l
  · rw [List.getElem?_range h]; rfl
  · rw [List.getElem?_eq_none (by simp; omega)]
    simp only [Option.map_none, Option.getD_none]
    symm
    have : l.countP (fun x => decide (f x = d)) = 0 := by
      rw [List.countP_eq_zero]
      intro x hx e
      have := topT_le (f := f) hx
      simp at e
      omega
    rw [this]; rfl
theorem getD_set_eqM {α : Type} (l : List α) (i : Nat) (x d : α) (h : i < l.length) : (l.set i x).getD i d = x := by
  rw [List.getD_eq_getElem?_getD, List.getElem?_set_self h]; rfl
theorem getD_set_neM {α : Type} (l : List α) (i j : Nat) (x d : α) (h : i ≠ j) : (l.set i x).getD j d = l.getD j d := by
  rw [List.getD_eq_getElem?_getD, List.getD_eq_getElem?_getD, List.getElem?_set_ne h]
/-- a table that is made longer if need be, with 1 added at a place -/
def bump (t : List Int) (k : Nat) : List Int := (t ++ List.replicate (k + 1 - t.length) 0).set k ((t ++ List.replicate (k + 1 - t.length) 0).getD k 0 + 1)
theorem bump_length (t : List Int) (k : Nat) : (bump t k).length = max t.length (k + 1) := by simp [bump]; omega
theorem getD_pad (t : List Int) (m d : Nat) : (t ++ List.replicate m 0).getD d 0 = t.getD d 0 := by
  rw [List.getD_eq_getElem?_getD, List.getD_eq_getElem?_getD]
  by_cases h : d < t.length
  · rw [List.getElem?_append_left h]
  · rw [List.getElem?_append_right (by omega), List.getElem?_eq_none (l := t) (by omega), List.getElem?_replicate]
    split <;> rfl
theorem tabT_snoc (f : List Int → Nat) (l : List (List Int)) (x : List Int) : tabT f (l ++ [x]) = bump (tabT f l) (f x) := by
  apply list_ext_getD
  · rw [bump_length, tabT_length, tabT_length, topT_snoc]
  · intro d hd
    rw [tabT_getD, List.countP_append]
    unfold bump
    by_cases e : d = f x
    · subst e
      rw [getD_set_eqM _ _ _ _ (by simp [tabT_length]; omega), getD_pad, tabT_getD]
      simp
    · rw [getD_set_neM _ _ _ _ _ (fun h => e h.symm), getD_pad, tabT_getD]
      have : ¬ f x = d := fun h => e h.symm
      simp [this]
end Go.Proofs.YthmaggmhcfcojaaDoor
