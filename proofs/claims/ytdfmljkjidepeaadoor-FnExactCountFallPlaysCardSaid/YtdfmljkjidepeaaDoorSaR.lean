/- Grains on a line: what falls reach, level by level. Plain mathematics; no condition. -/
import Derived.Test.YtdfmljkjidepeaaDoorSaM
namespace Go.Proofs.YtdfmljkjidepeaaDoor
set_option linter.unusedVariables false
set_option linter.unusedSimpArgs false

/-! ### Lists behind one fall -/
def behT (xs : List Int) (k : Nat) : List (List Int) := (fallsN xs k).map (fallL xs)
def behL (xs : List Int) : List (List Int) := behT xs xs.length
theorem fallsN_mem {xs : List Int} {k i : Nat} : i ∈ fallsN xs k ↔ i < k ∧ steepB xs i = true := by unfold fallsN; simp [List.mem_filter]
theorem fallsN_length (xs : List Int) (k : Nat) : (fallsN xs k).length ≤ k := by have := fallsT_length xs k; unfold fallsT at this; simpa using this
theorem mem_behL {xs y : List Int} : y ∈ behL xs ↔ ∃ i, i < xs.length ∧ steepB xs i = true ∧ y = fallL xs i := by
  unfold behL behT
  rw [List.mem_map]
  constructor
  · rintro ⟨i, hi, rfl⟩; obtain ⟨h1, h2⟩ := fallsN_mem.1 hi; exact ⟨i, h1, h2, rfl⟩
  · rintro ⟨i, h1, h2, rfl⟩; exact ⟨i, fallsN_mem.2 ⟨h1, h2⟩, rfl⟩
theorem behL_length {xs : List Int} (h : Grains xs) : (behL xs).length ≤ 24 := by
  unfold behL behT
  rw [List.length_map]
  exact Nat.le_trans (fallsN_length _ _) h.len
theorem behL_grains {xs y : List Int} (h : Grains xs) (hy : y ∈ behL xs) : Grains y ∧ wt 0 y = wt 0 xs + 1 := by
  obtain ⟨i, h1, h2, rfl⟩ := mem_behL.1 hy
  exact ⟨fall_grains h h1 h2, fall_wt h1 0⟩

/-! ### Each list only once -/
def addN (l : List (List Int)) (c : List Int) : List (List Int) := if c ∈ l then l else l ++ [c]
theorem addN_old {l : List (List Int)} {c : List Int} (h : c ∈ l) : addN l c = l := by unfold addN; rw [if_pos h]
theorem addN_new {l : List (List Int)} {c : List Int} (h : c ∉ l) : addN l c = l ++ [c] := by unfold addN; rw [if_neg h]
theorem addN_nodup {l : List (List Int)} {c : List Int} (h : l.Nodup) : (addN l c).Nodup := by
  by_cases hc : c ∈ l
  · rw [addN_old hc]; exact h
  · rw [addN_new hc, List.nodup_append]
    refine ⟨h, by simp, fun a ha b hb => ?_⟩
    rw [List.mem_singleton.1 hb]
    intro e; rw [e] at ha; exact hc ha
theorem mem_addN {l : List (List Int)} {c x : List Int} : x ∈ addN l c ↔ x ∈ l ∨ x = c := by
  by_cases hc : c ∈ l
  · rw [addN_old hc]
    exact ⟨.inl, fun h => h.elim id (fun e => e ▸ hc)⟩
  · rw [addN_new hc]; simp
theorem addN_length (l : List (List Int)) (c : List Int) : l.length ≤ (addN l c).length := by
  by_cases hc : c ∈ l
  · rw [addN_old hc]; exact Nat.le_refl _
  · rw [addN_new hc]; simp
def once (l : List (List Int)) : List (List Int) := l.foldl addN []
theorem once_snoc (l : List (List Int)) (c : List Int) : once (l ++ [c]) = addN (once l) c := by unfold once; rw [List.foldl_append]; rfl
theorem once_mem {l : List (List Int)} {x : List Int} : x ∈ once l ↔ x ∈ l := by
  induction l using snoc_ind with
  | h0 => simp [once]
  | h1 l c ih => rw [once_snoc, mem_addN, ih]; simp
theorem once_nodup (l : List (List Int)) : (once l).Nodup := by
  induction l using snoc_ind with
  | h0 => simp [once]
  | h1 l c ih => rw [once_snoc]; exact addN_nodup ih
theorem foldl_addN_length (m : List (List Int)) : ∀ l : List (List Int), l.length ≤ (m.foldl addN l).length := by
  induction m with
  | nil => intro l; exact Nat.le_refl _
  | cons c m ih => intro l; rw [List.foldl_cons]; exact Nat.le_trans (addN_length l c) (ih _)
theorem once_pre (l m : List (List Int)) : (once l).length ≤ (once (l ++ m)).length := by
  unfold once; rw [List.foldl_append]; exact foldl_addN_length m _
theorem once_len (l : List (List Int)) : (once l).length ≤ l.length := by
  induction l using snoc_ind with
  | h0 => simp [once]
  | h1 l c ih =>
    rw [once_snoc, List.length_append, List.length_singleton]
    by_cases hc : c ∈ once l
    · rw [addN_old hc]; omega
    · rw [addN_new hc]; simp; omega

/-! ### Levels -/
def frS (xs : List Int) : Nat → List (List Int)
  | 0 => [xs]
  | t + 1 => once ((frS xs t).flatMap behL)
def rsS (xs : List Int) (N : Nat) : List (List Int) := (List.range N).flatMap (frS xs)
theorem rsS_zero (xs : List Int) : rsS xs 0 = [] := rfl
theorem rsS_succ (xs : List Int) (N : Nat) : rsS xs (N + 1) = rsS xs N ++ frS xs N := by unfold rsS; rw [List.range_succ, List.flatMap_append]; simp
def rchS (xs : List Int) : List (List Int) := rsS xs 600
theorem frS_nodup (xs : List Int) (t : Nat) : (frS xs t).Nodup := by
  cases t with
  | zero => simp [frS]
  | succ t => exact once_nodup _
theorem mem_frS_succ {xs y : List Int} {t : Nat} : y ∈ frS xs (t + 1) ↔ ∃ x ∈ frS xs t, y ∈ behL x := by
  show y ∈ once _ ↔ _
  rw [once_mem, List.mem_flatMap]
theorem frS_good {xs : List Int} (hg : Grains xs) : ∀ (t : Nat) {x : List Int}, x ∈ frS xs t → Grains x ∧ wt 0 x = wt 0 xs + t := by
  intro t
  induction t with
  | zero =>
    intro x hx
    have : x = xs := by simpa [frS] using hx
    subst this
    exact ⟨hg, by simp⟩
  | succ t ih =>
    intro x hx
    obtain ⟨y, hy, hb⟩ := mem_frS_succ.1 hx
    obtain ⟨h1, h2⟩ := ih hy
    obtain ⟨h3, h4⟩ := behL_grains h1 hb
    exact ⟨h3, by rw [h4, h2]; push_cast; omega⟩
theorem frS_far {xs : List Int} (hg : Grains xs) {t : Nat} (ht : 576 < t) : frS xs t = [] := by
  cases h : frS xs t with
  | nil => rfl
  | cons x l =>
    obtain ⟨h1, h2⟩ := frS_good hg t (x := x) (by rw [h]; simp)
    have := h1.wt
    have := hg.wt
    omega
theorem frS_stop {xs : List Int} {t : Nat} (h : frS xs t = []) (d : Nat) : frS xs (t + d) = [] := by
  induction d with
  | zero => exact h
  | succ d ih => show once ((frS xs (t + d)).flatMap behL) = []; rw [ih]; rfl
theorem rsS_stop {xs : List Int} {t : Nat} (h : frS xs t = []) (d : Nat) : rsS xs (t + d) = rsS xs t := by
  induction d with
  | zero => rfl
  | succ d ih => rw [← Nat.add_assoc, rsS_succ, ih, frS_stop h]; simp
theorem rchS_at {xs : List Int} {t : Nat} (h : frS xs t = []) (ht : t ≤ 600) : rchS xs = rsS xs t := by
  have := rsS_stop h (600 - t)
  rw [show t + (600 - t) = 600 by omega] at this
  exact this
theorem mem_rsS {xs x : List Int} {N : Nat} : x ∈ rsS xs N ↔ ∃ t, t < N ∧ x ∈ frS xs t := by unfold rsS; rw [List.mem_flatMap]; simp
theorem rsS_mono (xs : List Int) {N M : Nat} (h : N ≤ M) : (rsS xs N).length ≤ (rsS xs M).length := by
  obtain ⟨d, rfl⟩ : ∃ d, M = N + d := ⟨M - N, by omega⟩
  clear h
  induction d with
  | zero => exact Nat.le_refl _
  | succ d ih => rw [← Nat.add_assoc, rsS_succ, List.length_append]; omega
theorem rsS_nodup {xs : List Int} (hg : Grains xs) (N : Nat) : (rsS xs N).Nodup := by
  induction N with
  | zero => simp [rsS]
  | succ N ih =>
    rw [rsS_succ, List.nodup_append]
    refine ⟨ih, frS_nodup xs N, fun a ha b hb e => ?_⟩
    subst e
    obtain ⟨t, ht, hm⟩ := mem_rsS.1 ha
    have h1 := (frS_good hg t hm).2
    have h2 := (frS_good hg N hb).2
    omega
theorem some_level {xs : List Int} (hg : Grains xs) {t : Nat} (h : ∀ u, u < t → frS xs u ≠ []) : t ≤ 577 := by
  apply Classical.byContradiction
  intro hn
  exact h 577 (by omega) (frS_far hg (by omega))
/-- what is noted of a level while its falls are made: new ones are on no other level -/
theorem place_new {xs : List Int} (hg : Grains xs) {t : Nat} {l : List (List Int)} {c : List Int} (hc : Grains c ∧ wt 0 c = wt 0 xs + ((t + 1 : Nat) : Int)) : c ∈ srt (rsS xs (t + 1) ++ l) ↔ c ∈ l := by
  rw [srt_mem, List.mem_append]
  constructor
  · rintro (h | h)
    · obtain ⟨u, hu, hm⟩ := mem_rsS.1 h
      have := (frS_good hg u hm).2
      have := hc.2
      omega
    · exact h
  · exact .inr
/-! ### What is reached -/
def okR (xs : List Int) : Prop := (rchS xs).length ≤ 400 ∧ ∀ x ∈ rchS xs, Sand x
instance (xs : List Int) : Decidable (okR xs) := by unfold okR; infer_instance
def rchL (xs : List Int) : List (List Int) := if okR xs then srt (rchS xs) else []
theorem rchL_yes {xs : List Int} (h : okR xs) : rchL xs = srt (rchS xs) := by unfold rchL; rw [if_pos h]
theorem rchL_no {xs : List Int} (h : ¬ okR xs) : rchL xs = [] := by unfold rchL; rw [if_neg h]
theorem self_mem (xs : List Int) : xs ∈ rchS xs := mem_rsS.2 ⟨0, by omega, by simp [frS]⟩
theorem rchL_nil {xs : List Int} : rchL xs = [] ↔ ¬ okR xs := by
  constructor
  · intro h hok
    rw [rchL_yes hok] at h
    have := srt_mem.2 (self_mem xs)
    rw [h] at this
    cases this
  · exact rchL_no
/-- a level with a list that is no sand -/
theorem bad_level {xs c : List Int} {t : Nat} (hg : Grains xs) (hm : c ∈ frS xs t) (hs : sandB c = false) : ¬ okR xs := fun hok => by
  have ht : t ≤ 576 := by
    apply Classical.byContradiction
    intro hn
    rw [frS_far hg (by omega)] at hm
    cases hm
  exact (sand_no.1 hs) (hok.2 c (mem_rsS.2 ⟨t, by omega, hm⟩))
theorem long_level {xs : List Int} {t : Nat} (ht : t ≤ 600) (h : 400 < (rsS xs t).length) : ¬ okR xs := fun hok => by
  have := hok.1
  have h2 := rsS_mono xs ht
  unfold rchS at this
  omega
theorem good_end {xs : List Int} {t : Nat} (ht : t ≤ 600) (h0 : frS xs t = []) (hlen : (rsS xs t).length ≤ 400) (hall : ∀ x ∈ rsS xs t, Sand x) : rchL xs = srt (rsS xs t) := by
  have e := rchS_at h0 ht
  have hok : okR xs := by unfold okR; rw [e]; exact ⟨hlen, hall⟩
  rw [rchL_yes hok, e]
theorem good_ok {xs : List Int} {t : Nat} (ht : t ≤ 600) (h0 : frS xs t = []) (hlen : (rsS xs t).length ≤ 400) (hall : ∀ x ∈ rsS xs t, Sand x) : okR xs := by
  unfold okR; rw [rchS_at h0 ht]; exact ⟨hlen, hall⟩
theorem rchL_len (xs : List Int) : (rchL xs).length ≤ 400 := by
  by_cases h : okR xs
  · rw [rchL_yes h, srt_length]; exact h.1
  · rw [rchL_no h]; simp
theorem rchL_sand {xs x : List Int} (hx : x ∈ rchL xs) : Sand x := by
  by_cases h : okR xs
  · rw [rchL_yes h, srt_mem] at hx; exact h.2 x hx
  · rw [rchL_no h] at hx; cases hx
/-! ### A way of falls, part by part -/
theorem frS_add {xs y z : List Int} (s : Nat) : ∀ t, y ∈ frS xs s → z ∈ frS y t → z ∈ frS xs (s + t) := by
  intro t
  induction t generalizing z with
  | zero => intro h1 h2; have : z = y := by simpa [frS] using h2
            subst this; exact h1
  | succ t ih =>
    intro h1 h2
    obtain ⟨u, hu, hb⟩ := mem_frS_succ.1 h2
    exact mem_frS_succ.2 ⟨u, ih h1 hu, hb⟩
theorem rch_trans {xs y z : List Int} (hg : Grains xs) (h1 : y ∈ rchS xs) (h2 : z ∈ rchS y) : z ∈ rchS xs := by
  obtain ⟨s, _, hs⟩ := mem_rsS.1 h1
  obtain ⟨t, _, ht⟩ := mem_rsS.1 h2
  have hm := frS_add s t hs ht
  refine mem_rsS.2 ⟨s + t, ?_, hm⟩
  apply Classical.byContradiction
  intro hn
  rw [frS_far hg (by omega)] at hm
  cases hm
theorem rch_grains {xs x : List Int} (hg : Grains xs) (hx : x ∈ rchS xs) : Grains x := by
  obtain ⟨t, _, ht⟩ := mem_rsS.1 hx
  exact (frS_good hg t ht).1
theorem ok_sub {xs y : List Int} (hg : Grains xs) (hok : okR xs) (hy : y ∈ rchS xs) : okR y := by
  have hsub : ∀ x ∈ rchS y, x ∈ rchS xs := fun x hx => rch_trans hg hy hx
  refine ⟨?_, fun x hx => hok.2 x (hsub x hx)⟩
  have hn := rsS_nodup (rch_grains hg hy) 600
  have := List.Nodup.length_le_of_subset hn hsub
  exact Nat.le_trans this hok.1

/-! ### Sorted lists without those that come again at once -/
def keepI (l : List (List Int)) (j : Nat) : Bool := decide (j = 0) || decide (l.getD j [] ≠ l.getD (j - 1) [])
def compI (l : List (List Int)) (k : Nat) : List Nat := (List.range k).filter (keepI l)
def compX (l : List (List Int)) (k : Nat) : List (List Int) := (compI l k).map fun j => l.getD j []
theorem compI_succ (l : List (List Int)) (k : Nat) : compI l (k + 1) = compI l k ++ if keepI l k then [k] else [] := by
  unfold compI
  rw [List.range_succ, List.filter_append]
  cases h : keepI l k <;> simp [h]
theorem compX_sub (l : List (List Int)) : (compX l l.length).Sublist l := by
  have h1 : (compI l l.length).Sublist (List.range l.length) := List.filter_sublist
  have h2 := h1.map fun j => l.getD j []
  have e : (List.range l.length).map (fun j => l.getD j []) = l := by
    apply List.ext_getElem
    · simp
    · intro i h3 h4
      rw [List.getElem_map, List.getElem_range, List.getD_eq_getElem?_getD, List.getElem?_eq_getElem h4]; rfl
  rw [e] at h2
  exact h2
theorem srtd_at {l : List (List Int)} (h : srtd l) {i j : Nat} (hij : i < j) (hj : j < l.length) : befB (l.getD j []) (l.getD i []) = false := by
  have := List.pairwise_iff_getElem.1 h i j (by omega) hj hij
  rw [List.getD_eq_getElem?_getD, List.getElem?_eq_getElem hj, List.getD_eq_getElem?_getD, List.getElem?_eq_getElem (by omega)]
  exact this
theorem compX_nodup {l : List (List Int)} (h : srtd l) : (compX l l.length).Nodup := by
  unfold compX compI
  unfold List.Nodup
  rw [List.pairwise_map]
  have hp : ((List.range l.length).filter (keepI l)).Pairwise (· < ·) := List.Pairwise.filter _ List.pairwise_lt_range
  have hm : ∀ x ∈ (List.range l.length).filter (keepI l), x < l.length ∧ keepI l x = true := fun x hx => by
    obtain ⟨h1, h2⟩ := List.mem_filter.1 hx
    exact ⟨List.mem_range.1 h1, h2⟩
  refine (List.Pairwise.and_mem.1 hp).imp ?_
  rintro i j ⟨_, hj, hij⟩ e
  obtain ⟨hjl, hk⟩ := hm j hj
  unfold keepI at hk
  have hne : l.getD j [] ≠ l.getD (j - 1) [] := by
    have hj0 : j ≠ 0 := by omega
    simpa [hj0] using hk
  have h1 := srtd_at h (show j - 1 < j by omega) hjl
  rcases befB_total h1 with e1 | h2
  · exact hne e1
  · by_cases he : i = j - 1
    · subst he; exact hne e.symm
    · have h3 := srtd_at h (show i < j - 1 by omega) (by omega)
      rw [e] at h3
      rw [h2] at h3
      cases h3
theorem compX_mem {l : List (List Int)} {x : List Int} : x ∈ compX l l.length ↔ x ∈ l := by
  constructor
  · exact fun h => (compX_sub l).subset h
  · intro hx
    obtain ⟨i, hi, rfl⟩ := List.getElem_of_mem hx
    have key : ∀ i, i < l.length → l.getD i [] ∈ compX l l.length := by
      intro i
      induction i with
      | zero => intro hi; exact List.mem_map.2 ⟨0, List.mem_filter.2 ⟨List.mem_range.2 hi, by simp [keepI]⟩, rfl⟩
      | succ i ih =>
        intro hi
        cases hk : keepI l (i + 1)
        · have e : l.getD (i + 1) [] = l.getD i [] := by
            unfold keepI at hk
            simpa using hk
          rw [e]; exact ih (by omega)
        · exact List.mem_map.2 ⟨i + 1, List.mem_filter.2 ⟨List.mem_range.2 hi, hk⟩, rfl⟩
    have := key i hi
    rw [List.getD_eq_getElem?_getD, List.getElem?_eq_getElem hi] at this
    exact this
theorem same_perm {l m : List (List Int)} (hl : l.Nodup) (hm : m.Nodup) (h : ∀ x, x ∈ l ↔ x ∈ m) : l.Perm m := (List.perm_ext_iff_of_nodup hl hm).2 h
theorem compX_srt (l : List (List Int)) : compX (srt l) (srt l).length = srt (once l) :=
  srt_unique ((srt_srtd l).sublist (compX_sub _)) (same_perm (compX_nodup (srt_srtd l)) (once_nodup l) fun x => by rw [compX_mem, srt_mem, once_mem])
/-- a level, in order, out of the one before -/
def lvS (xs : List Int) (t : Nat) : List (List Int) := srt (frS xs t)
theorem lvS_succ (xs : List Int) (t : Nat) : srt (once ((lvS xs t).flatMap behL)) = lvS xs (t + 1) :=
  srt_of_perm (same_perm (once_nodup _) (frS_nodup xs (t + 1)) fun x => by
    rw [once_mem, List.mem_flatMap, mem_frS_succ]
    constructor
    · rintro ⟨y, hy, hb⟩; exact ⟨y, srt_mem.1 hy, hb⟩
    · rintro ⟨y, hy, hb⟩; exact ⟨y, srt_mem.2 hy, hb⟩)
theorem lvS_zero (xs : List Int) : lvS xs 0 = [xs] := rfl
theorem lvS_nil {xs : List Int} {t : Nat} : lvS xs t = [] ↔ frS xs t = [] := by
  unfold lvS
  constructor
  · intro h
    have := srt_length (frS xs t)
    rw [h] at this
    exact List.eq_nil_of_length_eq_zero this.symm
  · intro h; rw [h]; rfl
def lvsS (xs : List Int) (N : Nat) : List (List Int) := (List.range N).flatMap (lvS xs)
theorem lvsS_succ (xs : List Int) (N : Nat) : lvsS xs (N + 1) = lvsS xs N ++ lvS xs N := by unfold lvsS; rw [List.range_succ, List.flatMap_append]; simp
theorem lvsS_perm (xs : List Int) (N : Nat) : (lvsS xs N).Perm (rsS xs N) := by
  induction N with
  | zero => exact List.Perm.refl _
  | succ N ih => rw [lvsS_succ, rsS_succ]; exact ih.append (srt_perm _)
theorem lvsS_len (xs : List Int) (N : Nat) : (lvsS xs N).length = (rsS xs N).length := (lvsS_perm xs N).length_eq
theorem lvsS_srt (xs : List Int) (N : Nat) : srt (lvsS xs N) = srt (rsS xs N) := srt_of_perm (lvsS_perm xs N)
theorem lvS_mem {xs x : List Int} {t : Nat} : x ∈ lvS xs t ↔ x ∈ frS xs t := srt_mem
theorem flatMap_behL_len {L : List (List Int)} (h : ∀ x ∈ L, Grains x) : (L.flatMap behL).length ≤ 24 * L.length := by
  induction L with
  | nil => simp
  | cons x l ih =>
    have h1 := behL_length (h x (by simp))
    have h2 := ih (fun y hy => h y (by simp [hy]))
    rw [List.flatMap_cons, List.length_append, List.length_cons]
    omega
/-! ### What the functions come to -/
def mReachSand (xs : List Int) : List (List Int) × Bool := if sandB xs = true ∧ okR xs then (rchL xs, true) else ([], false)
theorem mReach_yes {xs : List Int} (h : sandB xs = true) (hok : okR xs) : mReachSand xs = (rchL xs, true) := by unfold mReachSand; rw [if_pos ⟨h, hok⟩]
theorem mReach_no1 {xs : List Int} (h : sandB xs = false) : mReachSand xs = ([], false) := by unfold mReachSand; rw [if_neg (by rw [h]; simp)]
theorem mReach_no2 {xs : List Int} (h : ¬ okR xs) : mReachSand xs = ([], false) := by unfold mReachSand; rw [if_neg (fun hh => h hh.2)]
set_option maxRecDepth 100000 in
theorem mReachSand_small (xs : List Int) : (mReachSand xs).1.length ≤ 400 ∧ ∀ x ∈ (mReachSand xs).1, x.length ≤ 28 := by
  unfold mReachSand
  split
  · exact ⟨rchL_len xs, fun x hx => (rchL_sand hx).good.len⟩
  · exact ⟨by simp, fun x hx => by cases hx⟩
def mCountReach (xs : List Int) : Int × Bool := (((mReachSand xs).1.length : Int), (mReachSand xs).2)
def canB (xs ys : List Int) : Bool := decide (ys ∈ rchL xs)
def mCanReach (xs ys : List Int) : Bool × Bool := if sandB xs = true ∧ sandB ys = true then (canB xs ys, decide (okR xs)) else (false, false)
def reaB (xs ys : List Int) : Bool := sandB xs && (sandB ys && canB xs ys)
end Go.Proofs.YtdfmljkjidepeaaDoor
