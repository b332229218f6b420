/- Chapter 4: what its functions come to. Plain mathematics; no condition. -/
import Derived.Test.YthppkfhhidlpiaaGa
import Derived.Test.YthppkfhhidlpiaaRowsV
namespace Go.Proofs.Ythppkfhhidlpiaa
set_option linter.unusedVariables false
set_option linter.unusedSimpArgs false

/-! ### Gardens -/
def gardB (xs : List Int) : Bool := decide (xs ≠ []) && decide (xs.headD 0 < (xs.length : Int) - 1)
def mIsGarden (xs : List Int) : Bool × Bool := (goodB xs && gardB xs, goodB xs)
theorem mGard_yes {xs : List Int} (h : goodB xs = true) : mIsGarden xs = (gardB xs, true) := by unfold mIsGarden; rw [h]; rfl
theorem mGard_no {xs : List Int} (h : goodB xs = false) : mIsGarden xs = (false, false) := by unfold mIsGarden; rw [h]; rfl
def gardL (n : Nat) : List (List Int) := (allL n).filter gardB
def mGardensOf (n : Int) : List (List Int) × Bool := if 0 ≤ n ∧ n ≤ 28 then (gardL n.toNat, true) else ([], false)
theorem mGards_yes (n : Nat) (h : n ≤ 28) : mGardensOf n = (gardL n, true) := by unfold mGardensOf; rw [if_pos (by omega)]; rfl
theorem mGards_no (n : Int) (h : ¬ (0 ≤ n ∧ n ≤ 28)) : mGardensOf n = ([], false) := by unfold mGardensOf; rw [if_neg h]
def mCountGardens (n : Int) : Int × Bool := if 0 ≤ n ∧ n ≤ 28 then ((((gardL n.toNat).length : Nat) : Int), true) else (0, false)
theorem mCGard_yes (n : Nat) (h : n ≤ 28) : mCountGardens n = ((((gardL n).length : Nat) : Int), true) := by unfold mCountGardens; rw [if_pos (by omega)]; rfl
theorem mCGard_no (n : Int) (h : ¬ (0 ≤ n ∧ n ≤ 28)) : mCountGardens n = (0, false) := by unfold mCountGardens; rw [if_neg h]
theorem allL_le {n : Nat} (hn : n ≤ 28) : (allL n).length ≤ 3718 := by
  rw [allL_length hn]
  have := cnt_le n (by omega) n (by omega)
  omega
theorem gardL_le {n : Nat} (hn : n ≤ 28) : (gardL n).length ≤ 3718 := Nat.le_trans (List.length_filter_le _ _) (allL_le hn)
theorem gardL_good {n : Nat} (hn : n ≤ 28) {x : List Int} (hx : x ∈ gardL n) : Good x := (allL_good hn (List.mem_filter.1 hx).1).1

/-- a list of lists of so many numbers at most is small -/
theorem rows_bound {xss : List (List Int)} (h1 : xss.length ≤ 3718) (h2 : ∀ x ∈ xss, x.length ≤ 28) : xss.length ≤ 1048576 ∧ total xss ≤ 1048576 := by
  refine ⟨by omega, ?_⟩
  have := total_le xss 28 h2
  have : xss.length * 28 ≤ 3718 * 28 := Nat.mul_le_mul_right 28 h1
  omega
theorem mGardensOf_bound (n : Int) : (mGardensOf n).1.length ≤ 1048576 ∧ total (mGardensOf n).1 ≤ 1048576 := by
  unfold mGardensOf
  split
  · next h => exact rows_bound (gardL_le (by omega)) (fun x hx => (gardL_good (by omega) hx).len)
  · exact ⟨by simp, by simp [total]⟩

/-! ### Pasts at some steps -/
def atL (xs : List Int) (k : Nat) : List (List Int) := srt (lvA xs k)
theorem atL_zero (xs : List Int) : atL xs 0 = [xs] := rfl
theorem atL_succ {xs : List Int} (k : Nat) : atL xs (k + 1) = srt ((atL xs k).flatMap pastsL) := by
  unfold atL
  show srt ((lvA xs k).flatMap pastsL) = _
  exact srt_of_perm ((srt_perm (lvA xs k)).symm.flatMap_right pastsL)
theorem atL_good {xs : List Int} (hg : Good xs) {k : Nat} {x : List Int} (hx : x ∈ atL xs k) : Good x := ((mem_lvA hg k x).1 (srt_mem.1 hx)).1
theorem atL_le {xs : List Int} (hg : Good xs) (k : Nat) : (atL xs k).length ≤ 3718 := by unfold atL; rw [srt_length]; exact lvA_length hg k
def mPastsAt (xs : List Int) (k : Int) : List (List Int) × Bool := if goodB xs = true ∧ 0 ≤ k ∧ k ≤ 60 then (atL xs k.toNat, true) else ([], false)
theorem mPA_yes {xs : List Int} {k : Nat} (h : goodB xs = true) (hk : k ≤ 60) : mPastsAt xs k = (atL xs k, true) := by unfold mPastsAt; rw [if_pos ⟨h, by omega, by omega⟩]; rfl
theorem mPA_no1 {xs : List Int} {k : Int} (h : goodB xs = false) : mPastsAt xs k = ([], false) := by unfold mPastsAt; rw [if_neg (by rw [h]; simp)]
theorem mPA_no2 {xs : List Int} {k : Int} (h : ¬ (0 ≤ k ∧ k ≤ 60)) : mPastsAt xs k = ([], false) := by unfold mPastsAt; rw [if_neg (fun hh => h hh.2)]
theorem mPastsAt_bound (xs : List Int) (k : Int) : (mPastsAt xs k).1.length ≤ 1048576 ∧ total (mPastsAt xs k).1 ≤ 1048576 := by
  unfold mPastsAt
  split
  · next h => exact rows_bound (atL_le (good_iff.1 h.1) _) (fun x hx => (atL_good (good_iff.1 h.1) hx).len)
  · exact ⟨by simp, by simp [total]⟩
def mCountAt (xs : List Int) (k : Int) : Int × Bool := if goodB xs = true ∧ 0 ≤ k ∧ k ≤ 60 then ((((atL xs k.toNat).length : Nat) : Int), true) else (0, false)
theorem mCA_yes {xs : List Int} {k : Nat} (h : goodB xs = true) (hk : k ≤ 60) : mCountAt xs k = ((((atL xs k).length : Nat) : Int), true) := by unfold mCountAt; rw [if_pos ⟨h, by omega, by omega⟩]; rfl
theorem mCA_no1 {xs : List Int} {k : Int} (h : goodB xs = false) : mCountAt xs k = (0, false) := by unfold mCountAt; rw [if_neg (by rw [h]; simp)]
theorem mCA_no2 {xs : List Int} {k : Int} (h : ¬ (0 ≤ k ∧ k ≤ 60)) : mCountAt xs k = (0, false) := by unfold mCountAt; rw [if_neg (fun hh => h hh.2)]

/-! ### Trees -/
/-- the levels of a tree, each in order -/
def plL (xs : List Int) : Nat → List (List Int)
  | 0 => [xs]
  | t + 1 => srt ((plL xs t).flatMap loosePasts)
theorem plL_eq (xs : List Int) (t : Nat) : plL xs t = srt (levL [xs] t) := by
  induction t with
  | zero => rfl
  | succ t ih =>
    show srt ((plL xs t).flatMap loosePasts) = srt (looseL (levL [xs] t))
    rw [ih]
    unfold looseL
    exact srt_of_perm ((srt_perm (levL [xs] t)).flatMap_right loosePasts)
theorem plL_nil (xs : List Int) (t : Nat) : plL xs t = [] ↔ levL [xs] t = [] := by
  rw [plL_eq]
  have h := srt_length (levL [xs] t)
  constructor
  · intro e; rw [e] at h; exact List.eq_nil_of_length_eq_zero h.symm
  · intro e; rw [e]; rfl
def depN (xs : List Int) : Nat := levN [xs]
theorem depN_spec {xs : List Int} (hg : Good xs) : 1 ≤ depN xs ∧ depN xs ≤ 3719 ∧ levL [xs] (depN xs) = [] ∧ ∀ t, t < depN xs → levL [xs] t ≠ [] := by
  obtain ⟨s, _, _, hr⟩ := roots_one hg
  obtain ⟨h1, h2, h3⟩ := levN_spec hr
  exact ⟨levN_pos hr (by simp), h1, h2, h3⟩
theorem depN_unique {xs : List Int} (hg : Good xs) {N : Nat} (h1 : levL [xs] N = []) (h2 : ∀ t, t < N → levL [xs] t ≠ []) : N = depN xs := by
  obtain ⟨s, _, _, hr⟩ := roots_one hg
  exact levN_unique hr h1 h2
def plevs (xs : List Int) (N : Nat) : List (List (List Int)) := (List.range N).map (plL xs)
theorem plevs_succ (xs : List Int) (N : Nat) : plevs xs (N + 1) = plevs xs N ++ [plL xs N] := by unfold plevs; rw [List.range_succ, List.map_append]; rfl
theorem plevs_length (xs : List Int) (N : Nat) : (plevs xs N).length = N := by simp [plevs]
def treeL (xs : List Int) : List (List Int) := srt (levs [xs] (depN xs)).flatten
theorem plevs_perm (xs : List Int) (N : Nat) : (plevs xs N).flatten.Perm (levs [xs] N).flatten := by
  induction N with
  | zero => exact List.Perm.refl _
  | succ N ih =>
    rw [plevs_succ, levs_succ, List.flatten_append, List.flatten_append]
    refine ih.append ?_
    simp only [List.flatten_cons, List.flatten_nil, List.append_nil]
    rw [plL_eq]; exact srt_perm _
theorem treeL_plevs (xs : List Int) : treeL xs = srt (plevs xs (depN xs)).flatten := (srt_of_perm (plevs_perm xs (depN xs))).symm
theorem tree_len {xs : List Int} (hg : Good xs) (N : Nat) : (levs [xs] N).flatten.length ≤ 3718 := by
  obtain ⟨s, _, _, hr⟩ := roots_one hg
  exact tree_length hr (apart_one hg) N
theorem plevs_len {xs : List Int} (hg : Good xs) (N : Nat) : (plevs xs N).flatten.length ≤ 3718 := by rw [(plevs_perm xs N).length_eq]; exact tree_len hg N
theorem plL_good {xs : List Int} (hg : Good xs) {t : Nat} {x : List Int} (hx : x ∈ plL xs t) : Good x := by
  rw [plL_eq, srt_mem] at hx
  exact ((mem_levR (fun y hy => by rw [List.mem_singleton.1 hy]; exact hg) t x).1 hx).1
theorem plL_le {xs : List Int} (hg : Good xs) (t : Nat) : (plL xs t).length ≤ 3718 := by
  rw [plL_eq, srt_length]
  obtain ⟨s, _, _, hr⟩ := roots_one hg
  exact levR_length hr t
theorem treeL_good {xs : List Int} (hg : Good xs) {x : List Int} (hx : x ∈ treeL xs) : Good x := by
  obtain ⟨s, _, _, hr⟩ := roots_one hg
  exact (levs_all hr (srt_mem.1 hx)).2
theorem treeL_le {xs : List Int} (hg : Good xs) : (treeL xs).length ≤ 3718 := by unfold treeL; rw [srt_length]; exact tree_len hg _
def mTreeOf (xs : List Int) : List (List Int) × Bool := if goodB xs = true then (treeL xs, true) else ([], false)
theorem mTree_yes {xs : List Int} (h : goodB xs = true) : mTreeOf xs = (treeL xs, true) := by unfold mTreeOf; rw [if_pos h]
theorem mTree_no {xs : List Int} (h : goodB xs = false) : mTreeOf xs = ([], false) := by unfold mTreeOf; rw [if_neg (by rw [h]; simp)]
set_option maxRecDepth 100000 in
theorem mTreeOf_bound (xs : List Int) : (mTreeOf xs).1.length ≤ 1048576 ∧ total (mTreeOf xs).1 ≤ 1048576 := by
  unfold mTreeOf
  split
  · next h =>
    show (treeL xs).length ≤ 1048576 ∧ total (treeL xs) ≤ 1048576
    exact rows_bound (treeL_le (good_iff.1 h)) (fun x hx => (treeL_good (good_iff.1 h) hx).len)
  · exact ⟨by simp, by simp [total]⟩
def mTreeSize (xs : List Int) : Int × Bool := if goodB xs = true then ((((treeL xs).length : Nat) : Int), true) else (0, false)
theorem mTSize_yes {xs : List Int} (h : goodB xs = true) : mTreeSize xs = ((((treeL xs).length : Nat) : Int), true) := by unfold mTreeSize; rw [if_pos h]
theorem mTSize_no {xs : List Int} (h : goodB xs = false) : mTreeSize xs = (0, false) := by unfold mTreeSize; rw [if_neg (by rw [h]; simp)]
theorem tsize_eq (xs : List Int) : (treeL xs).length = (plevs xs (depN xs)).flatten.length := by rw [treeL_plevs, srt_length]
def mDepthOf (xs : List Int) : Int × Bool := if goodB xs = true then ((depN xs : Int) - 1, true) else (0, false)
theorem mDep_yes {xs : List Int} (h : goodB xs = true) : mDepthOf xs = ((depN xs : Int) - 1, true) := by unfold mDepthOf; rw [if_pos h]
theorem mDep_no {xs : List Int} (h : goodB xs = false) : mDepthOf xs = (0, false) := by unfold mDepthOf; rw [if_neg (by rw [h]; simp)]
def farL (xs : List Int) : List Int := (plL xs (depN xs - 1)).headD []
theorem far_mem {xs : List Int} (hg : Good xs) : farL xs ∈ plL xs (depN xs - 1) ∧ plL xs (depN xs - 1) ≠ [] := by
  obtain ⟨h1, h2, h3, h4⟩ := depN_spec hg
  have hne : plL xs (depN xs - 1) ≠ [] := fun e => h4 (depN xs - 1) (by omega) ((plL_nil xs _).1 e)
  refine ⟨?_, hne⟩
  unfold farL
  cases h : plL xs (depN xs - 1) with
  | nil => exact absurd h hne
  | cons a l => simp
def mFarthestPast (xs : List Int) : List Int × Bool := if goodB xs = true then (farL xs, true) else ([], false)
theorem mFarP_yes {xs : List Int} (h : goodB xs = true) : mFarthestPast xs = (farL xs, true) := by unfold mFarthestPast; rw [if_pos h]
theorem mFarP_no {xs : List Int} (h : goodB xs = false) : mFarthestPast xs = ([], false) := by unfold mFarthestPast; rw [if_neg (by rw [h]; simp)]
set_option maxRecDepth 100000 in
theorem mFarthestPast_bound (xs : List Int) : (mFarthestPast xs).1.length ≤ 1048576 := by
  unfold mFarthestPast
  split
  · next h =>
    show (farL xs).length ≤ 1048576
    have := (plL_good (good_iff.1 h) (far_mem (good_iff.1 h)).1).len
    generalize (farL xs).length = q at *
    omega
  · simp

/-! ### The first past, and lines back -/
def mFirstPast (xs : List Int) : List Int × Bool := if goodB xs = true ∧ loosePasts xs ≠ [] then ((loosePasts xs).headD [], true) else ([], false)
theorem mFP_yes {xs : List Int} (h : goodB xs = true) (h2 : loosePasts xs ≠ []) : mFirstPast xs = ((loosePasts xs).headD [], true) := by unfold mFirstPast; rw [if_pos ⟨h, h2⟩]
theorem mFP_no1 {xs : List Int} (h : goodB xs = false) : mFirstPast xs = ([], false) := by unfold mFirstPast; rw [if_neg (by rw [h]; simp)]
theorem mFP_no2 {xs : List Int} (h : loosePasts xs = []) : mFirstPast xs = ([], false) := by unfold mFirstPast; rw [if_neg (fun hh => hh.2 h)]
theorem loose_head {xs : List Int} (h : loosePasts xs ≠ []) : (loosePasts xs).headD [] ∈ loosePasts xs := by
  cases e : loosePasts xs with
  | nil => exact absurd e h
  | cons a l => simp
theorem loose_good {xs p : List Int} (hg : Good xs) (h : p ∈ loosePasts xs) : Good p := ((mem_loose hg).1 h).1
theorem loose_len {xs : List Int} (hg : Good xs) : (loosePasts xs).length ≤ 29 := by
  have h1 : (loosePasts xs).length ≤ (pastsL xs).length := List.length_filter_le _ _
  have h2 := pastsL_length xs
  have h3 := hg.len
  omega
theorem mFirstPast_bound (xs : List Int) : (mFirstPast xs).1.length ≤ 1048576 := by
  unfold mFirstPast
  split
  · next h => have := (loose_good (good_iff.1 h.1) (loose_head h.2)).len; show ((loosePasts xs).headD []).length ≤ _; omega
  · simp
/-- the line back: its element t, as long as there is one -/
def lineE (xs : List Int) : Nat → List Int
  | 0 => xs
  | t + 1 => (loosePasts (lineE xs t)).headD []
def lineTo (xs : List Int) (N : Nat) : List (List Int) := (List.range N).map (lineE xs)
theorem lineTo_succ (xs : List Int) (N : Nat) : lineTo xs (N + 1) = lineTo xs N ++ [lineE xs N] := by unfold lineTo; rw [List.range_succ, List.map_append]; rfl
theorem lineTo_length (xs : List Int) (N : Nat) : (lineTo xs N).length = N := by simp [lineTo]
/-- where the line ends -/
def lineN (xs : List Int) : Nat := ((List.range 3720).find? fun t => (loosePasts (lineE xs t)).isEmpty).getD 0
theorem line_lev {xs : List Int} (t : Nat) (h : ∀ u, u < t → loosePasts (lineE xs u) ≠ []) : lineE xs t ∈ levL [xs] t := by
  induction t with
  | zero => show xs ∈ [xs]; simp
  | succ t ih =>
    have h1 := ih (fun u hu => h u (by omega))
    show _ ∈ looseL (levL [xs] t)
    unfold looseL
    exact List.mem_flatMap.2 ⟨_, h1, loose_head (h t (by omega))⟩
theorem lineN_spec {xs : List Int} (hg : Good xs) : lineN xs < depN xs ∧ loosePasts (lineE xs (lineN xs)) = [] ∧ ∀ t, t < lineN xs → loosePasts (lineE xs t) ≠ [] := by
  obtain ⟨d1, d2, d3, d4⟩ := depN_spec hg
  have hex : ∃ t, t < depN xs ∧ loosePasts (lineE xs t) = [] := by
    by_cases h : ∃ t, t < depN xs ∧ loosePasts (lineE xs t) = []
    · exact h
    · exfalso
      have := line_lev (xs := xs) (depN xs) (fun u hu e => h ⟨u, hu, e⟩)
      rw [d3] at this
      cases this
  obtain ⟨m, ⟨hm1, hm2⟩, hm3⟩ := (fun h => let ⟨m, h1, h2⟩ := least_hole (fun t => t < depN xs ∧ loosePasts (lineE xs t) = []) _ h; ⟨m, h1, h2⟩ : ∀ {t}, (t < depN xs ∧ loosePasts (lineE xs t) = []) → ∃ m, (m < depN xs ∧ loosePasts (lineE xs m) = []) ∧ ∀ k, k < m → ¬ (k < depN xs ∧ loosePasts (lineE xs k) = [])) hex.choose_spec
  have hN : lineN xs = m := by
    unfold lineN
    have : (List.range 3720).find? (fun t => (loosePasts (lineE xs t)).isEmpty) = some m := by
      rw [List.find?_range_eq_some]
      refine ⟨by rw [hm2]; rfl, by simp; omega, fun j hj => ?_⟩
      have := hm3 j hj
      have hne : loosePasts (lineE xs j) ≠ [] := fun e => this ⟨by omega, e⟩
      simpa using hne
    rw [this]; rfl
  rw [hN]
  exact ⟨hm1, hm2, fun t ht e => hm3 t ht ⟨by omega, e⟩⟩
theorem lineE_good {xs : List Int} (hg : Good xs) {t : Nat} (h : ∀ u, u < t → loosePasts (lineE xs u) ≠ []) : Good (lineE xs t) := by
  have := line_lev t h
  exact ((mem_levR (fun y hy => by rw [List.mem_singleton.1 hy]; exact hg) t _).1 this).1
theorem lineN_unique {xs : List Int} (hg : Good xs) {N : Nat} (h1 : loosePasts (lineE xs N) = []) (h2 : ∀ t, t < N → loosePasts (lineE xs t) ≠ []) : N = lineN xs := by
  obtain ⟨_, h3, h4⟩ := lineN_spec hg
  rcases Nat.lt_trichotomy N (lineN xs) with h5 | h5 | h5
  · exact absurd h1 (h4 N h5)
  · exact h5
  · exact absurd h3 (h2 _ h5)
theorem line_short {xs : List Int} (hg : Good xs) {t : Nat} (h : ∀ u, u < t → loosePasts (lineE xs u) ≠ []) : t ≤ 3718 := by
  obtain ⟨h1, h2, h3⟩ := lineN_spec hg
  have := (depN_spec hg).2.1
  rcases Nat.lt_or_ge (lineN xs) t with h4 | h4
  · exact absurd h2 (h _ h4)
  · omega
def lineL (xs : List Int) : List (List Int) := lineTo xs (lineN xs + 1)
def mLineBack (xs : List Int) : List (List Int) × Bool := if goodB xs = true then (lineL xs, true) else ([], false)
theorem mLine_yes {xs : List Int} (h : goodB xs = true) : mLineBack xs = (lineL xs, true) := by unfold mLineBack; rw [if_pos h]
theorem mLine_no {xs : List Int} (h : goodB xs = false) : mLineBack xs = ([], false) := by unfold mLineBack; rw [if_neg (by rw [h]; simp)]
set_option maxRecDepth 100000 in
theorem mLineBack_bound (xs : List Int) : (mLineBack xs).1.length ≤ 1048576 ∧ total (mLineBack xs).1 ≤ 1048576 := by
  unfold mLineBack
  split
  · next h =>
    have hg := good_iff.1 h
    obtain ⟨h1, h2, h3⟩ := lineN_spec hg
    have := (depN_spec hg).2.1
    have h5 : (lineL xs).length ≤ 3719 := by unfold lineL; rw [lineTo_length]; omega
    show (lineL xs).length ≤ 1048576 ∧ total (lineL xs) ≤ 1048576
    refine ⟨Nat.le_trans h5 (by omega), ?_⟩
    have h6 : ∀ x ∈ lineL xs, x.length ≤ 28 := by
      intro x hx
      unfold lineL lineTo at hx
      obtain ⟨t, ht, rfl⟩ := List.mem_map.1 hx
      have ht := List.mem_range.1 ht
      exact (lineE_good hg (fun u hu => h3 u (by omega))).len
    have h7 := total_le (lineL xs) 28 h6
    have : (lineL xs).length * 28 ≤ 3719 * 28 := Nat.mul_le_mul_right 28 h5
    exact Nat.le_trans h7 (by omega)
  · exact ⟨by simp, by simp [total]⟩

/-! ### Tables -/
def depT (n : Nat) : List Int := tabT tailL (allL n)
def mDepthTable (n : Int) : List Int × Bool := if 0 ≤ n ∧ n ≤ 28 then (depT n.toNat, true) else ([], false)
theorem mDT_yes (n : Nat) (h : n ≤ 28) : mDepthTable n = (depT n, true) := by unfold mDepthTable; rw [if_pos (by omega)]; rfl
theorem mDT_no (n : Int) (h : ¬ (0 ≤ n ∧ n ≤ 28)) : mDepthTable n = ([], false) := by unfold mDepthTable; rw [if_neg h]
def pasN (xs : List Int) : Nat := (pastsL xs).length
theorem pasN_le {xs : List Int} (hg : Good xs) : pasN xs ≤ 29 := by have := pastsL_length xs; have := hg.len; unfold pasN; omega
def pasT (n : Nat) : List Int := tabT pasN (allL n)
def mPastTable (n : Int) : List Int × Bool := if 0 ≤ n ∧ n ≤ 28 then (pasT n.toNat, true) else ([], false)
theorem mPT_yes (n : Nat) (h : n ≤ 28) : mPastTable n = (pasT n, true) := by unfold mPastTable; rw [if_pos (by omega)]; rfl
theorem mPT_no (n : Int) (h : ¬ (0 ≤ n ∧ n ≤ 28)) : mPastTable n = ([], false) := by unfold mPastTable; rw [if_neg h]
theorem tabT_le {f : List Int → Nat} {l : List (List Int)} {b : Nat} (h : ∀ x ∈ l, f x < b) : (tabT f l).length ≤ b := by rw [tabT_length]; exact topT_bound h
theorem tabT_val (f : List Int → Nat) (l : List (List Int)) (d : Nat) : 0 ≤ (tabT f l).getD d 0 ∧ (tabT f l).getD d 0 ≤ l.length := by
  rw [tabT_getD]
  have := List.countP_le_length (p := fun x => decide (f x = d)) (l := l)
  omega
theorem mDepthTable_bound (n : Int) : (mDepthTable n).1.length ≤ 1048576 := by
  unfold mDepthTable
  split
  · next h =>
    have := tabT_le (f := tailL) (l := allL n.toNat) (b := 3719) (fun x hx => by have := (tailL_spec (allL_good (n := n.toNat) (by omega) hx).1).1; omega)
    show (depT n.toNat).length ≤ _
    unfold depT; omega
  · simp
theorem mPastTable_bound (n : Int) : (mPastTable n).1.length ≤ 1048576 := by
  unfold mPastTable
  split
  · next h =>
    have := tabT_le (f := pasN) (l := allL n.toNat) (b := 30) (fun x hx => by have := pasN_le (allL_good (n := n.toNat) (by omega) hx).1; omega)
    show (pasT n.toNat).length ≤ _
    unfold pasT; omega
  · simp
/-- the table of tails by levels -/
theorem depT_levs {c : List (List Int)} {n : Nat} (h : AllCyc c n) (hne : c ≠ []) : depT n = (levs c (levN c)).map (fun l => ((l.length : Nat) : Int)) := by
  have hr := h.toCyclics.roots
  obtain ⟨h1, h2, h3⟩ := levN_spec hr
  have hn : n ≤ 28 := hr.small
  have hperm : ∀ t, (levL c t).length = (allL n).countP (fun x => decide (tailL x = t)) := by
    intro t
    rw [List.countP_eq_length_filter]
    have hnd : ((allL n).filter fun x => decide (tailL x = t)).Nodup := (nodup_of_bef (allL_up n)).filter _
    have hm : ∀ x, x ∈ levL c t ↔ x ∈ (allL n).filter fun x => decide (tailL x = t) := by
      intro x
      rw [List.mem_filter, mem_lev h.toCyclics]
      constructor
      · rintro ⟨g, e, he⟩
        refine ⟨?_, by simpa using e⟩
        have := lev_mem_all h.toCyclics ((mem_lev h.toCyclics t x).2 ⟨g, e, he⟩)
        exact this
      · rintro ⟨hx, e⟩
        have g := (allL_good hn hx).1
        exact ⟨g, by simpa using e, h.all _ (endL_good g) (endL_cyc g) (by rw [end_sum g]; exact (allL_good hn hx).2)⟩
    exact Nat.le_antisymm (nodup_len (lev_nodup h.toCyclics t) (fun x hx => (hm x).1 hx)) (nodup_len hnd (fun x hx => (hm x).2 hx))
  have htop : topT tailL (allL n) = levN c := by
    apply Nat.le_antisymm
    · refine topT_bound (fun x hx => ?_)
      have g := (allL_good hn hx).1
      have hx2 : x ∈ levL c (tailL x) := (mem_lev h.toCyclics _ x).2 ⟨g, rfl, h.all _ (endL_good g) (endL_cyc g) (by rw [end_sum g]; exact (allL_good hn hx).2)⟩
      rcases Nat.lt_or_ge (tailL x) (levN c) with h4 | h4
      · exact h4
      · have := levR_stop h2 (tailL x - levN c)
        rw [show levN c + (tailL x - levN c) = tailL x by omega] at this
        rw [this] at hx2; cases hx2
    · have hp := levN_pos hr hne
      have h4 := h3 (levN c - 1) (by omega)
      cases e : levL c (levN c - 1) with
      | nil => exact absurd e h4
      | cons x l =>
        have hx : x ∈ levL c (levN c - 1) := by rw [e]; simp
        have ht := ((mem_lev h.toCyclics _ x).1 hx).2.1
        have := topT_le (f := tailL) (lev_mem_all h.toCyclics hx)
        omega
  unfold depT tabT levs
  rw [htop, List.map_map]
  apply List.map_congr_left
  intro t _
  simp only [Function.comp]
  rw [hperm]

/-! ### Which past -/
def mIsPastOf (x y : List Int) : Int × Bool := if goodB x = true ∧ goodB y = true then (match (List.range (tailL x + perL (endL x))).find? fun k => decide (stepsL k x = y) with | some k => ((k : Int), true) | none => (0, false)) else (0, false)
theorem mIPO_no1 {x y : List Int} (h : goodB x = false) : mIsPastOf x y = (0, false) := by unfold mIsPastOf; rw [if_neg (by rw [h]; simp)]
theorem mIPO_no2 {x y : List Int} (h : goodB y = false) : mIsPastOf x y = (0, false) := by unfold mIsPastOf; rw [if_neg (by rw [h]; simp)]
theorem mIPO_yes {x y : List Int} {k : Nat} (hx : goodB x = true) (hy : goodB y = true) (h1 : stepsL k x = y) (h2 : ∀ i, i < k → stepsL i x ≠ y) (hk : k < tailL x + perL (endL x)) : mIsPastOf x y = ((k : Int), true) := by
  unfold mIsPastOf
  rw [if_pos ⟨hx, hy⟩]
  have : (List.range (tailL x + perL (endL x))).find? (fun k => decide (stepsL k x = y)) = some k := by
    rw [List.find?_range_eq_some]
    exact ⟨by simpa using h1, by simpa using hk, fun j hj => by simpa using h2 j hj⟩
  rw [this]
theorem mIPO_none {x y : List Int} (hx : goodB x = true) (hy : goodB y = true) (h : ∀ k, k < tailL x + perL (endL x) → stepsL k x ≠ y) : mIsPastOf x y = (0, false) := by
  unfold mIsPastOf
  rw [if_pos ⟨hx, hy⟩]
  have : (List.range (tailL x + perL (endL x))).find? (fun k => decide (stepsL k x = y)) = none := by
    rw [List.find?_eq_none]
    intro k hk
    simpa using h k (List.mem_range.1 hk)
  rw [this]
end Go.Proofs.Ythppkfhhidlpiaa
