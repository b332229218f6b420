/- Several texts in one: PaM, PaS, PaT, PaU, PaV. No condition. -/
import Derived.Test.YtmfdimdcoeapoaaGreatGa
import Derived.Test.YtmfdimdcoeapoaaGreatRowsV
import Derived.Test.YtmfdimdcoeapoaaGreatGy
import Derived.Test.YtmfdimdcoeapoaaGreatRowsR
import Derived.Test.YtmfdimdcoeapoaaGreatOrbB
import Derived.Test.YtmfdimdcoeapoaaGreatGk
import Derived.Test.YtmfdimdcoeapoaaGreatPastsB
import Derived.Test.YtmfdimdcoeapoaaGreatGl
namespace Go.Proofs.YtmfdimdcoeapoaaGreat
section
set_option linter.unusedVariables false
set_option linter.unusedSimpArgs false

/-! ### Gardens -/
def gardB (xs : List Int) : Bool := decide (xs ≠ []) && decide (xs.headD 0 < (xs.length : Int) - 1)
def mIsGarden (xs : List Int) : Bool × Bool := (goodB xs && gardB xs, goodB xs)
theorem mGard_yes {xs : List Int} (h : goodB xs = true) : mIsGarden xs = (gardB xs, true) := by unfold mIsGarden; rw [h]; rfl
theorem mGard_no {xs : List Int} (h : goodB xs = false) : mIsGarden xs = (false, false) := by unfold mIsGarden; rw [h]; rfl
def gardL (n : Nat) : List (List Int) := (allL n).filter gardB
def mGardensOf (n : Int) : List (List Int) × Bool := if 0 ≤ n ∧ n ≤ 28 then (gardL n.toNat, true) else ([], false)
theorem mGards_yes (n : Nat) (h : n ≤ 28) : mGardensOf n = (gardL n, true) := by unfold mGardensOf; rw [if_pos (by omega)]; rfl
theorem mGards_no (n : Int) (h : ¬ (0 ≤ n ∧ n ≤ 28)) : mGardensOf n = ([], false) := by unfold mGardensOf; rw [if_neg h]
def mCountGardens (n : Int) : Int × Bool := if 0 ≤ n ∧ n ≤ 28 then ((((gardL n.toNat).length : Nat) : Int), true) else (0, false)
theorem mCGard_yes (n : Nat) (h : n ≤ 28) : mCountGardens n = ((((gardL n).length : Nat) : Int), true) := by unfold mCountGardens; rw [if_pos (by omega)]; rfl
theorem mCGard_no (n : Int) (h : ¬ (0 ≤ n ∧ n ≤ 28)) : mCountGardens n = (0, false) := by unfold mCountGardens; rw [if_neg h]
theorem allL_le {n : Nat} (hn : n ≤ 28) : (allL n).length ≤ 3718 := by
  rw [allL_length hn]
  have := cnt_le n (by omega) n (by omega)
  omega
theorem gardL_le {n : Nat} (hn : n ≤ 28) : (gardL n).length ≤ 3718 := Nat.le_trans (List.length_filter_le _ _) (allL_le hn)
theorem gardL_good {n : Nat} (hn : n ≤ 28) {x : List Int} (hx : x ∈ gardL n) : Good x := (allL_good hn (List.mem_filter.1 hx).1).1

/-- a list of lists of so many numbers at most is small -/
theorem rows_bound {xss : List (List Int)} (h1 : xss.length ≤ 3718) (h2 : ∀ x ∈ xss, x.length ≤ 28) : xss.length ≤ 1048576 ∧ total xss ≤ 1048576 := by
  refine ⟨by omega, ?_⟩
  have := total_le xss 28 h2
  have : xss.length * 28 ≤ 3718 * 28 := Nat.mul_le_mul_right 28 h1
  omega
theorem mGardensOf_bound (n : Int) : (mGardensOf n).1.length ≤ 1048576 ∧ total (mGardensOf n).1 ≤ 1048576 := by
  unfold mGardensOf
  split
  · next h => exact rows_bound (gardL_le (by omega)) (fun x hx => (gardL_good (by omega) hx).len)
  · exact ⟨by simp, by simp [total]⟩

/-! ### Pasts at some steps -/
def atL (xs : List Int) (k : Nat) : List (List Int) := srt (lvA xs k)
theorem atL_zero (xs : List Int) : atL xs 0 = [xs] := rfl
theorem atL_succ {xs : List Int} (k : Nat) : atL xs (k + 1) = srt ((atL xs k).flatMap pastsL) := by
  unfold atL
  show srt ((lvA xs k).flatMap pastsL) = _
  exact srt_of_perm ((srt_perm (lvA xs k)).symm.flatMap_right pastsL)
theorem atL_good {xs : List Int} (hg : Good xs) {k : Nat} {x : List Int} (hx : x ∈ atL xs k) : Good x := ((mem_lvA hg k x).1 (srt_mem.1 hx)).1
theorem atL_le {xs : List Int} (hg : Good xs) (k : Nat) : (atL xs k).length ≤ 3718 := by unfold atL; rw [srt_length]; exact lvA_length hg k
def mPastsAt (xs : List Int) (k : Int) : List (List Int) × Bool := if goodB xs = true ∧ 0 ≤ k ∧ k ≤ 60 then (atL xs k.toNat, true) else ([], false)
theorem mPA_yes {xs : List Int} {k : Nat} (h : goodB xs = true) (hk : k ≤ 60) : mPastsAt xs k = (atL xs k, true) := by unfold mPastsAt; rw [if_pos ⟨h, by omega, by omega⟩]; rfl
theorem mPA_no1 {xs : List Int} {k : Int} (h : goodB xs = false) : mPastsAt xs k = ([], false) := by unfold mPastsAt; rw [if_neg (by rw [h]; simp)]
theorem mPA_no2 {xs : List Int} {k : Int} (h : ¬ (0 ≤ k ∧ k ≤ 60)) : mPastsAt xs k = ([], false) := by unfold mPastsAt; rw [if_neg (fun hh => h hh.2)]
theorem mPastsAt_bound (xs : List Int) (k : Int) : (mPastsAt xs k).1.length ≤ 1048576 ∧ total (mPastsAt xs k).1 ≤ 1048576 := by
  unfold mPastsAt
  split
  · next h => exact rows_bound (atL_le (good_iff.1 h.1) _) (fun x hx => (atL_good (good_iff.1 h.1) hx).len)
  · exact ⟨by simp, by simp [total]⟩
def mCountAt (xs : List Int) (k : Int) : Int × Bool := if goodB xs = true ∧ 0 ≤ k ∧ k ≤ 60 then ((((atL xs k.toNat).length : Nat) : Int), true) else (0, false)
theorem mCA_yes {xs : List Int} {k : Nat} (h : goodB xs = true) (hk : k ≤ 60) : mCountAt xs k = ((((atL xs k).length : Nat) : Int), true) := by unfold mCountAt; rw [if_pos ⟨h, by omega, by omega⟩]; rfl
theorem mCA_no1 {xs : List Int} {k : Int} (h : goodB xs = false) : mCountAt xs k = (0, false) := by unfold mCountAt; rw [if_neg (by rw [h]; simp)]
theorem mCA_no2 {xs : List Int} {k : Int} (h : ¬ (0 ≤ k ∧ k ≤ 60)) : mCountAt xs k = (0, false) := by unfold mCountAt; rw [if_neg (fun hh => h hh.2)]

/-! ### Trees -/
/-- the levels of a tree, each in order -/
def plL (xs : List Int) : Nat → List (List Int)
  | 0 => [xs]
  | t + 1 => srt ((plL xs t).flatMap loosePasts)
theorem plL_eq (xs : List Int) (t : Nat) : plL xs t = srt (levL [xs] t) := by
  induction t with
  | zero => rfl
  | succ t ih =>
    show srt ((plL xs t).flatMap loosePasts) = srt (looseL (levL [xs] t))
    rw [ih]
    unfold looseL
    exact srt_of_perm ((srt_perm (levL [xs] t)).flatMap_right loosePasts)
theorem plL_nil (xs : List Int) (t : Nat) : plL xs t = [] ↔ levL [xs] t = [] := by
  rw [plL_eq]
  have h := srt_length (levL [xs] t)
  constructor
  · intro e; rw [e] at h; exact List.eq_nil_of_length_eq_zero h.symm
  · intro e; rw [e]; rfl
def depN (xs : List Int) : Nat := levN [xs]
theorem depN_spec {xs : List Int} (hg : Good xs) : 1 ≤ depN xs ∧ depN xs ≤ 3719 ∧ levL [xs] (depN xs) = [] ∧ ∀ t, t < depN xs → levL [xs] t ≠ [] := by
  obtain ⟨s, _, _, hr⟩ := roots_one hg
  obtain ⟨h1, h2, h3⟩ := levN_spec hr
  exact ⟨levN_pos hr (by simp), h1, h2, h3⟩
theorem depN_unique {xs : List Int} (hg : Good xs) {N : Nat} (h1 : levL [xs] N = []) (h2 : ∀ t, t < N → levL [xs] t ≠ []) : N = depN xs := by
  obtain ⟨s, _, _, hr⟩ := roots_one hg
  exact levN_unique hr h1 h2
def plevs (xs : List Int) (N : Nat) : List (List (List Int)) := (List.range N).map (plL xs)
theorem plevs_succ (xs : List Int) (N : Nat) : plevs xs (N + 1) = plevs xs N ++ [plL xs N] := by unfold plevs; rw [List.range_succ, List.map_append]; rfl
theorem plevs_length (xs : List Int) (N : Nat) : (plevs xs N).length = N := by simp [plevs]
def treeL (xs : List Int) : List (List Int) := srt (levs [xs] (depN xs)).flatten
theorem plevs_perm (xs : List Int) (N : Nat) : (plevs xs N).flatten.Perm (levs [xs] N).flatten := by
  induction N with
  | zero => exact List.Perm.refl _
  | succ N ih =>
    rw [plevs_succ, levs_succ, List.flatten_append, List.flatten_append]
    refine ih.append ?_
    simp only [List.flatten_cons, List.flatten_nil, List.append_nil]
    rw [plL_eq]; exact srt_perm _
theorem treeL_plevs (xs : List Int) : treeL xs = srt (plevs xs (depN xs)).flatten := (srt_of_perm (plevs_perm xs (depN xs))).symm
theorem tree_len {xs : List Int} (hg : Good xs) (N : Nat) : (levs [xs] N).flatten.length ≤ 3718 := by
  obtain ⟨s, _, _, hr⟩ := roots_one hg
  exact tree_length hr (apart_one hg) N
theorem plevs_len {xs : List Int} (hg : Good xs) (N : Nat) : (plevs xs N).flatten.length ≤ 3718 := by rw [(plevs_perm xs N).length_eq]; exact tree_len hg N
theorem plL_good {xs : List Int} (hg : Good xs) {t : Nat} {x : List Int} (hx : x ∈ plL xs t) : Good x := by
  rw [plL_eq, srt_mem] at hx
  exact ((mem_levR (fun y hy => by rw [List.mem_singleton.1 hy]; exact hg) t x).1 hx).1
theorem plL_le {xs : List Int} (hg : Good xs) (t : Nat) : (plL xs t).length ≤ 3718 := by
  rw [plL_eq, srt_length]
  obtain ⟨s, _, _, hr⟩ := roots_one hg
  exact levR_length hr t
theorem treeL_good {xs : List Int} (hg : Good xs) {x : List Int} (hx : x ∈ treeL xs) : Good x := by
  obtain ⟨s, _, _, hr⟩ := roots_one hg
  exact (levs_all hr (srt_mem.1 hx)).2
theorem treeL_le {xs : List Int} (hg : Good xs) : (treeL xs).length ≤ 3718 := by unfold treeL; rw [srt_length]; exact tree_len hg _
def mTreeOf (xs : List Int) : List (List Int) × Bool := if goodB xs = true then (treeL xs, true) else ([], false)
theorem mTree_yes {xs : List Int} (h : goodB xs = true) : mTreeOf xs = (treeL xs, true) := by unfold mTreeOf; rw [if_pos h]
theorem mTree_no {xs : List Int} (h : goodB xs = false) : mTreeOf xs = ([], false) := by unfold mTreeOf; rw [if_neg (by rw [h]; simp)]
set_option maxRecDepth 100000 in
theorem mTreeOf_bound (xs : List Int) : (mTreeOf xs).1.length ≤ 1048576 ∧ total (mTreeOf xs).1 ≤ 1048576 := by
  unfold mTreeOf
  split
  · next h =>
    show (treeL xs).length ≤ 1048576 ∧ total (treeL xs) ≤ 1048576
    exact rows_bound (treeL_le (good_iff.1 h)) (fun x hx => (treeL_good (good_iff.1 h) hx).len)
  · exact ⟨by simp, by simp [total]⟩
def mTreeSize (xs : List Int) : Int × Bool := if goodB xs = true then ((((treeL xs).length : Nat) : Int), true) else (0, false)
theorem mTSize_yes {xs : List Int} (h : goodB xs = true) : mTreeSize xs = ((((treeL xs).length : Nat) : Int), true) := by unfold mTreeSize; rw [if_pos h]
theorem mTSize_no {xs : List Int} (h : goodB xs = false) : mTreeSize xs = (0, false) := by unfold mTreeSize; rw [if_neg (by rw [h]; simp)]
theorem tsize_eq (xs : List Int) : (treeL xs).length = (plevs xs (depN xs)).flatten.length := by rw [treeL_plevs, srt_length]
def mDepthOf (xs : List Int) : Int × Bool := if goodB xs = true then ((depN xs : Int) - 1, true) else (0, false)
theorem mDep_yes {xs : List Int} (h : goodB xs = true) : mDepthOf xs = ((depN xs : Int) - 1, true) := by unfold mDepthOf; rw [if_pos h]
theorem mDep_no {xs : List Int} (h : goodB xs = false) : mDepthOf xs = (0, false) := by unfold mDepthOf; rw [if_neg (by rw [h]; simp)]
def farL (xs : List Int) : List Int := (plL xs (depN xs - 1)).headD []
theorem far_mem {xs : List Int} (hg : Good xs) : farL xs ∈ plL xs (depN xs - 1) ∧ plL xs (depN xs - 1) ≠ [] := by
  obtain ⟨h1, h2, h3, h4⟩ := depN_spec hg
  have hne : plL xs (depN xs - 1) ≠ [] := fun e => h4 (depN xs - 1) (by omega) ((plL_nil xs _).1 e)
  refine ⟨?_, hne⟩
  unfold farL
  cases h : plL xs (depN xs - 1) with
  | nil => exact absurd h hne
  | cons a l => simp
def mFarthestPast (xs : List Int) : List Int × Bool := if goodB xs = true then (farL xs, true) else ([], false)
theorem mFarP_yes {xs : List Int} (h : goodB xs = true) : mFarthestPast xs = (farL xs, true) := by unfold mFarthestPast; rw [if_pos h]
theorem mFarP_no {xs : List Int} (h : goodB xs = false) : mFarthestPast xs = ([], false) := by unfold mFarthestPast; rw [if_neg (by rw [h]; simp)]
set_option maxRecDepth 100000 in
theorem mFarthestPast_bound (xs : List Int) : (mFarthestPast xs).1.length ≤ 1048576 := by
  unfold mFarthestPast
  split
  · next h =>
    show (farL xs).length ≤ 1048576
    have := (plL_good (good_iff.1 h) (far_mem (good_iff.1 h)).1).len
    generalize (farL xs).length = q at *
    omega
  · simp

/-! ### The first past, and lines back -/
def mFirstPast (xs : List Int) : List Int × Bool := if goodB xs = true ∧ loosePasts xs ≠ [] then ((loosePasts xs).headD [], true) else ([], false)
theorem mFP_yes {xs : List Int} (h : goodB xs = true) (h2 : loosePasts xs ≠ []) : mFirstPast xs = ((loosePasts xs).headD [], true) := by unfold mFirstPast; rw [if_pos ⟨h, h2⟩]
theorem mFP_no1 {xs : List Int} (h : goodB xs = false) : mFirstPast xs = ([], false) := by unfold mFirstPast; rw [if_neg (by rw [h]; simp)]
theorem mFP_no2 {xs : List Int} (h : loosePasts xs = []) : mFirstPast xs = ([], false) := by unfold mFirstPast; rw [if_neg (fun hh => hh.2 h)]
theorem loose_head {xs : List Int} (h : loosePasts xs ≠ []) : (loosePasts xs).headD [] ∈ loosePasts xs := by
  cases e : loosePasts xs with
  | nil => exact absurd e h
  | cons a l => simp
theorem loose_good {xs p : List Int} (hg : Good xs) (h : p ∈ loosePasts xs) : Good p := ((mem_loose hg).1 h).1
theorem loose_len {xs : List Int} (hg : Good xs) : (loosePasts xs).length ≤ 29 := by
  have h1 : (loosePasts xs).length ≤ (pastsL xs).length := List.length_filter_le _ _
  have h2 := pastsL_length xs
  have h3 := hg.len
  omega
theorem mFirstPast_bound (xs : List Int) : (mFirstPast xs).1.length ≤ 1048576 := by
  unfold mFirstPast
  split
  · next h => have := (loose_good (good_iff.1 h.1) (loose_head h.2)).len; show ((loosePasts xs).headD []).length ≤ _; omega
  · simp
/-- the line back: its element t, as long as there is one -/
def lineE (xs : List Int) : Nat → List Int
  | 0 => xs
  | t + 1 => (loosePasts (lineE xs t)).headD []
def lineTo (xs : List Int) (N : Nat) : List (List Int) := (List.range N).map (lineE xs)
theorem lineTo_succ (xs : List Int) (N : Nat) : lineTo xs (N + 1) = lineTo xs N ++ [lineE xs N] := by unfold lineTo; rw [List.range_succ, List.map_append]; rfl
theorem lineTo_length (xs : List Int) (N : Nat) : (lineTo xs N).length = N := by simp [lineTo]
/-- where the line ends -/
def lineN (xs : List Int) : Nat := ((List.range 3720).find? fun t => (loosePasts (lineE xs t)).isEmpty).getD 0
theorem line_lev {xs : List Int} (t : Nat) (h : ∀ u, u < t → loosePasts (lineE xs u) ≠ []) : lineE xs t ∈ levL [xs] t := by
  induction t with
  | zero => show xs ∈ [xs]; simp
  | succ t ih =>
    have h1 := ih (fun u hu => h u (by omega))
    show _ ∈ looseL (levL [xs] t)
    unfold looseL
    exact List.mem_flatMap.2 ⟨_, h1, loose_head (h t (by omega))⟩
theorem lineN_spec {xs : List Int} (hg : Good xs) : lineN xs < depN xs ∧ loosePasts (lineE xs (lineN xs)) = [] ∧ ∀ t, t < lineN xs → loosePasts (lineE xs t) ≠ [] := by
  obtain ⟨d1, d2, d3, d4⟩ := depN_spec hg
  have hex : ∃ t, t < depN xs ∧ loosePasts (lineE xs t) = [] := by
    by_cases h : ∃ t, t < depN xs ∧ loosePasts (lineE xs t) = []
    · exact h
    · exfalso
      have := line_lev (xs := xs) (depN xs) (fun u hu e => h ⟨u, hu, e⟩)
      rw [d3] at this
      cases this
  obtain ⟨m, ⟨hm1, hm2⟩, hm3⟩ := (fun h => let ⟨m, h1, h2⟩ := least_hole (fun t => t < depN xs ∧ loosePasts (lineE xs t) = []) _ h; ⟨m, h1, h2⟩ : ∀ {t}, (t < depN xs ∧ loosePasts (lineE xs t) = []) → ∃ m, (m < depN xs ∧ loosePasts (lineE xs m) = []) ∧ ∀ k, k < m → ¬ (k < depN xs ∧ loosePasts (lineE xs k) = [])) hex.choose_spec
  have hN : lineN xs = m := by
    unfold lineN
    have : (List.range 3720).find? (fun t => (loosePasts (lineE xs t)).isEmpty) = some m := by
      rw [List.find?_range_eq_some]
      refine ⟨by rw [hm2]; rfl, by simp; omega, fun j hj => ?_⟩
      have := hm3 j hj
      have hne : loosePasts (lineE xs j) ≠ [] := fun e => this ⟨by omega, e⟩
      simpa using hne
    rw [this]; rfl
  rw [hN]
  exact ⟨hm1, hm2, fun t ht e => hm3 t ht ⟨by omega, e⟩⟩
theorem lineE_good {xs : List Int} (hg : Good xs) {t : Nat} (h : ∀ u, u < t → loosePasts (lineE xs u) ≠ []) : Good (lineE xs t) := by
  have := line_lev t h
  exact ((mem_levR (fun y hy => by rw [List.mem_singleton.1 hy]; exact hg) t _).1 this).1
theorem lineN_unique {xs : List Int} (hg : Good xs) {N : Nat} (h1 : loosePasts (lineE xs N) = []) (h2 : ∀ t, t < N → loosePasts (lineE xs t) ≠ []) : N = lineN xs := by
  obtain ⟨_, h3, h4⟩ := lineN_spec hg
  rcases Nat.lt_trichotomy N (lineN xs) with h5 | h5 | h5
  · exact absurd h1 (h4 N h5)
  · exact h5
  · exact absurd h3 (h2 _ h5)
theorem line_short {xs : List Int} (hg : Good xs) {t : Nat} (h : ∀ u, u < t → loosePasts (lineE xs u) ≠ []) : t ≤ 3718 := by
  obtain ⟨h1, h2, h3⟩ := lineN_spec hg
  have := (depN_spec hg).2.1
  rcases Nat.lt_or_ge (lineN xs) t with h4 | h4
  · exact absurd h2 (h _ h4)
  · omega
def lineL (xs : List Int) : List (List Int) := lineTo xs (lineN xs + 1)
def mLineBack (xs : List Int) : List (List Int) × Bool := if goodB xs = true then (lineL xs, true) else ([], false)
theorem mLine_yes {xs : List Int} (h : goodB xs = true) : mLineBack xs = (lineL xs, true) := by unfold mLineBack; rw [if_pos h]
theorem mLine_no {xs : List Int} (h : goodB xs = false) : mLineBack xs = ([], false) := by unfold mLineBack; rw [if_neg (by rw [h]; simp)]
set_option maxRecDepth 100000 in
theorem mLineBack_bound (xs : List Int) : (mLineBack xs).1.length ≤ 1048576 ∧ total (mLineBack xs).1 ≤ 1048576 := by
  unfold mLineBack
  split
  · next h =>
    have hg := good_iff.1 h
    obtain ⟨h1, h2, h3⟩ := lineN_spec hg
    have := (depN_spec hg).2.1
    have h5 : (lineL xs).length ≤ 3719 := by unfold lineL; rw [lineTo_length]; omega
    show (lineL xs).length ≤ 1048576 ∧ total (lineL xs) ≤ 1048576
    refine ⟨Nat.le_trans h5 (by omega), ?_⟩
    have h6 : ∀ x ∈ lineL xs, x.length ≤ 28 := by
      intro x hx
      unfold lineL lineTo at hx
      obtain ⟨t, ht, rfl⟩ := List.mem_map.1 hx
      have ht := List.mem_range.1 ht
      exact (lineE_good hg (fun u hu => h3 u (by omega))).len
    have h7 := total_le (lineL xs) 28 h6
    have : (lineL xs).length * 28 ≤ 3719 * 28 := Nat.mul_le_mul_right 28 h5
    exact Nat.le_trans h7 (by omega)
  · exact ⟨by simp, by simp [total]⟩

/-! ### Tables -/
def depT (n : Nat) : List Int := tabT tailL (allL n)
def mDepthTable (n : Int) : List Int × Bool := if 0 ≤ n ∧ n ≤ 28 then (depT n.toNat, true) else ([], false)
theorem mDT_yes (n : Nat) (h : n ≤ 28) : mDepthTable n = (depT n, true) := by unfold mDepthTable; rw [if_pos (by omega)]; rfl
theorem mDT_no (n : Int) (h : ¬ (0 ≤ n ∧ n ≤ 28)) : mDepthTable n = ([], false) := by unfold mDepthTable; rw [if_neg h]
def pasN (xs : List Int) : Nat := (pastsL xs).length
theorem pasN_le {xs : List Int} (hg : Good xs) : pasN xs ≤ 29 := by have := pastsL_length xs; have := hg.len; unfold pasN; omega
def pasT (n : Nat) : List Int := tabT pasN (allL n)
def mPastTable (n : Int) : List Int × Bool := if 0 ≤ n ∧ n ≤ 28 then (pasT n.toNat, true) else ([], false)
theorem mPT_yes (n : Nat) (h : n ≤ 28) : mPastTable n = (pasT n, true) := by unfold mPastTable; rw [if_pos (by omega)]; rfl
theorem mPT_no (n : Int) (h : ¬ (0 ≤ n ∧ n ≤ 28)) : mPastTable n = ([], false) := by unfold mPastTable; rw [if_neg h]
theorem tabT_le {f : List Int → Nat} {l : List (List Int)} {b : Nat} (h : ∀ x ∈ l, f x < b) : (tabT f l).length ≤ b := by rw [tabT_length]; exact topT_bound h
theorem tabT_val (f : List Int → Nat) (l : List (List Int)) (d : Nat) : 0 ≤ (tabT f l).getD d 0 ∧ (tabT f l).getD d 0 ≤ l.length := by
  rw [tabT_getD]
  have := List.countP_le_length (p := fun x => decide (f x = d)) (l := l)
  omega
theorem mDepthTable_bound (n : Int) : (mDepthTable n).1.length ≤ 1048576 := by
  unfold mDepthTable
  split
  · next h =>
    have := tabT_le (f := tailL) (l := allL n.toNat) (b := 3719) (fun x hx => by have := (tailL_spec (allL_good (n := n.toNat) (by omega) hx).1).1; omega)
    show (depT n.toNat).length ≤ _
    unfold depT; omega
  · simp
theorem mPastTable_bound (n : Int) : (mPastTable n).1.length ≤ 1048576 := by
  unfold mPastTable
  split
  · next h =>
    have := tabT_le (f := pasN) (l := allL n.toNat) (b := 30) (fun x hx => by have := pasN_le (allL_good (n := n.toNat) (by omega) hx).1; omega)
    show (pasT n.toNat).length ≤ _
    unfold pasT; omega
  · simp
/-- the table of tails by levels -/
theorem depT_levs {c : List (List Int)} {n : Nat} (h : AllCyc c n) (hne : c ≠ []) : depT n = (levs c (levN c)).map (fun l => ((l.length : Nat) : Int)) := by
  have hr := h.toCyclics.roots
  obtain ⟨h1, h2, h3⟩ := levN_spec hr
  have hn : n ≤ 28 := hr.small
  have hperm : ∀ t, (levL c t).length = (allL n).countP (fun x => decide (tailL x = t)) := by
    intro t
    rw [List.countP_eq_length_filter]
    have hnd : ((allL n).filter fun x => decide (tailL x = t)).Nodup := (nodup_of_bef (allL_up n)).filter _
    have hm : ∀ x, x ∈ levL c t ↔ x ∈ (allL n).filter fun x => decide (tailL x = t) := by
      intro x
      rw [List.mem_filter, mem_lev h.toCyclics]
      constructor
      · rintro ⟨g, e, he⟩
        refine ⟨?_, by simpa using e⟩
        have := lev_mem_all h.toCyclics ((mem_lev h.toCyclics t x).2 ⟨g, e, he⟩)
        exact this
      · rintro ⟨hx, e⟩
        have g := (allL_good hn hx).1
        exact ⟨g, by simpa using e, h.all _ (endL_good g) (endL_cyc g) (by rw [end_sum g]; exact (allL_good hn hx).2)⟩
    exact Nat.le_antisymm (nodup_len (lev_nodup h.toCyclics t) (fun x hx => (hm x).1 hx)) (nodup_len hnd (fun x hx => (hm x).2 hx))
  have htop : topT tailL (allL n) = levN c := by
    apply Nat.le_antisymm
    · refine topT_bound (fun x hx => ?_)
      have g := (allL_good hn hx).1
      have hx2 : x ∈ levL c (tailL x) := (mem_lev h.toCyclics _ x).2 ⟨g, rfl, h.all _ (endL_good g) (endL_cyc g) (by rw [end_sum g]; exact (allL_good hn hx).2)⟩
      rcases Nat.lt_or_ge (tailL x) (levN c) with h4 | h4
      · exact h4
      · have := levR_stop h2 (tailL x - levN c)
        rw [show levN c + (tailL x - levN c) = tailL x by omega] at this
        rw [this] at hx2; cases hx2
    · have hp := levN_pos hr hne
      have h4 := h3 (levN c - 1) (by omega)
      cases e : levL c (levN c - 1) with
      | nil => exact absurd e h4
      | cons x l =>
        have hx : x ∈ levL c (levN c - 1) := by rw [e]; simp
        have ht := ((mem_lev h.toCyclics _ x).1 hx).2.1
        have := topT_le (f := tailL) (lev_mem_all h.toCyclics hx)
        omega
  unfold depT tabT levs
  rw [htop, List.map_map]
  apply List.map_congr_left
  intro t _
  simp only [Function.comp]
  rw [hperm]

/-! ### Which past -/
def mIsPastOf (x y : List Int) : Int × Bool := if goodB x = true ∧ goodB y = true then (match (List.range (tailL x + perL (endL x))).find? fun k => decide (stepsL k x = y) with | some k => ((k : Int), true) | none => (0, false)) else (0, false)
theorem mIPO_no1 {x y : List Int} (h : goodB x = false) : mIsPastOf x y = (0, false) := by unfold mIsPastOf; rw [if_neg (by rw [h]; simp)]
theorem mIPO_no2 {x y : List Int} (h : goodB y = false) : mIsPastOf x y = (0, false) := by unfold mIsPastOf; rw [if_neg (by rw [h]; simp)]
theorem mIPO_yes {x y : List Int} {k : Nat} (hx : goodB x = true) (hy : goodB y = true) (h1 : stepsL k x = y) (h2 : ∀ i, i < k → stepsL i x ≠ y) (hk : k < tailL x + perL (endL x)) : mIsPastOf x y = ((k : Int), true) := by
  unfold mIsPastOf
  rw [if_pos ⟨hx, hy⟩]
  have : (List.range (tailL x + perL (endL x))).find? (fun k => decide (stepsL k x = y)) = some k := by
    rw [List.find?_range_eq_some]
    exact ⟨by simpa using h1, by simpa using hk, fun j hj => by simpa using h2 j hj⟩
  rw [this]
theorem mIPO_none {x y : List Int} (hx : goodB x = true) (hy : goodB y = true) (h : ∀ k, k < tailL x + perL (endL x) → stepsL k x ≠ y) : mIsPastOf x y = (0, false) := by
  unfold mIsPastOf
  rw [if_pos ⟨hx, hy⟩]
  have : (List.range (tailL x + perL (endL x))).find? (fun k => decide (stepsL k x = y)) = none := by
    rw [List.find?_eq_none]
    intro k hk
    simpa using h k (List.mem_range.1 hk)
  rw [this]
end
end Go.Proofs.YtmfdimdcoeapoaaGreat
namespace Go.Proofs.YtmfdimdcoeapoaaGreat
section
open Go.RowKit
set_option linter.unusedVariables false
set_option linter.unusedSimpArgs false
set_option maxRecDepth 20000

theorem filter_snoc {α : Type} (p : α → Bool) (l : List α) (x : α) : (l ++ [x]).filter p = l.filter p ++ if p x then [x] else [] := by
  rw [List.filter_append]; cases h : p x <;> simp [h]
theorem gardB_nil : gardB [] = false := rfl
theorem gardB_eq {xs : List Int} {n : Nat} {x : Int} (hn : n ≠ 0) (hl : xs.length = n) (hx : xs.getD 0 0 = x) : gardB xs = decide (x < (n : Int) - 1) := by
  have hne : xs ≠ [] := fun e => hn (by rw [← hl, e]; rfl)
  unfold gardB
  rw [decide_eq_true hne, head_getD, hx, hl]; rfl

end
end Go.Proofs.YtmfdimdcoeapoaaGreat
namespace Go.Proofs.YtmfdimdcoeapoaaGreat
section
open Go.RowKit
set_option linter.unusedVariables false
set_option linter.unusedSimpArgs false
set_option maxRecDepth 20000

set_option maxHeartbeats 3200000 in
theorem paAt_any (ao : Option Addr) (n cap : Nat) (xs : List Int) (k : Nat) (w : World) (h : IntsAt w ao n cap xs) (hg : Good xs) (hk : k ≤ 60) :
    Calls Tryz.prog 28 #[.slice ao n cap, .int .i64 k] w fun e w' => ∃ a m c, e = .returned (.slice a m c) ∧ RowsR w.heap.size w'.heap.size w' a m c (atL xs k) ∧ Below w.heap.size w w' := by
  have hlen := hg.len
  have hl0 := h.length
  have hcon := l1Own_any ao n cap xs w h (by omega)
  have Hg := Lib.hid hg; clear hg
  have Hl0 := Lib.hid hl0; clear hl0
  have Hcon := Lib.hid hcon; clear hcon
  go_enter Tryz.func28, Tryz.ntmps28
  go_wp2_with fail
  with_reducible refine (Hcon.out).mono ?_
  rintro e w1 ⟨a1, c1, rfl, ho1, hb1⟩
  have h1 := OwnRows.one ho1 w.heap.size (Nat.le_refl _) hb1.size (by omega)
  obtain ⟨vs1, hs1, _⟩ := h1.sp
  have hba := hb1.alloc hb1.size (.cells #[.slice a1 n c1] 24)
  have hs1' : Sp w.heap.size (w1.alloc (.cells #[.slice a1 n c1] 24)).heap.size w.heap.size (w1.alloc (.cells #[.slice a1 n c1] 24)).heap.size (w1.alloc (.cells #[.slice a1 n c1] 24)) (some ⟨w1.heap.size, 0, none⟩) 1 1 vs1 (atL xs 0) := hs1.mono (Nat.le_refl _) (by simp) (Nat.le_refl _) (by simp)
  clear h1 hs1 ho1 hb1
  go_wp2_with fail
  go_loopw [1, 5] (fun i v wr => ∃ (j : Nat) (a : Option Addr) (m c : Nat) (vs : List Value), j ≤ k ∧ i = .int .i64 (k - j : Nat) ∧ v = .slice a m c ∧ Sp w.heap.size wr.heap.size w.heap.size wr.heap.size wr a m c vs (atL xs j) ∧ Below w.heap.size w wr) (fun i _ _ => (intOf i).toNat)
  case atStart => exact ⟨0, _, _, _, _, Nat.zero_le _, rfl, rfl, hs1', hba⟩
  case round =>
    obtain ⟨j, a, m, c, vs, hj, rfl, rfl, hv, hb⟩ := hrel
    clear hs1' hba
    by_cases hlt : j < k
    · have hkj : 0 < k - j := by omega
      have hm := hv.length
      have hle := atL_le Hg.out j
      have hle2 := atL_le Hg.out (j + 1)
      have e := atL_succ (xs := xs) j
      have hGa : ∀ x ∈ atL xs j, Good x := fun x hx => atL_good Hg.out hx
      rw [e, srt_length] at hle2
      generalize atL xs j = A at *
      have hm8 : m ≤ 3718 := by omega
      have E := Lib.hid e; clear e
      have Hm := Lib.hid hm; clear hm
      have HGa := Lib.hid hGa; clear hGa
      obtain ⟨wo, hwo⟩ : ∃ wo : World, wo = wr := ⟨_, rfl⟩
      subst hwo
      have hwosz := hb.size
      go_wp2_with fail
      go_loopw [6, 20] (fun v i wr => ∃ (q : Nat) (a' : Option Addr) (p c' : Nat) (us : List Value), q ≤ m ∧ i = .int .i64 q ∧ v = .slice a' p c' ∧ Sp w.heap.size wr.heap.size w.heap.size wr.heap.size wr a' p c' us (srt ((A.take q).flatMap pastsL)) ∧ Below wo.heap.size wo wr) (fun _ i _ => m - (intOf i).toNat)
      case atStart => exact ⟨0, none, 0, 0, [], Nat.zero_le _, rfl, rfl, Sp.nil _ _ _ _ _, Below.refl _ _⟩
      case round =>
        obtain ⟨q, a', p, c', us, hq, rfl, rfl, hu, hb2⟩ := hrel
        by_cases hlt2 : q < m
        · obtain ⟨b, oo, a3, m3, c3, rfl, hbl, hck, _, hrow⟩ := (hv.keep hb2).getRow hlt2
          have hg3 := HGa.out _ (getD_memR hlt2 Hm.out)
          have e3 := flatMap_snocX pastsL hlt2 Hm.out
          have hle3 := flatMap_take_le pastsL A (q + 1)
          rw [e3, List.length_append] at hle3
          generalize A.getD q [] = x at *
          have hcon := piPasts_any a3 m3 c3 x wr hrow.at hg3
          generalize hP : pastsL x = P at *
          generalize hL : (A.take q).flatMap pastsL = L at *
          have Hcon := Lib.hid hcon; clear hcon
          have E3 := Lib.hid e3; clear e3
          have Hg3 := Lib.hid hg3; clear hg3
          have HP := Lib.hid hP; clear hP
          have HL := Lib.hid hL; clear hL
          clear hrow
          go_wp2_with fail
          with_reducible refine (Hcon.out).mono ?_
          rintro e wi ⟨a4, n4, c4, rfl, ho4, hb4⟩
          have hn4 := ho4.length
          obtain ⟨ps, hps, _⟩ := ho4.sp
          have hu2 := (hu.keep hb4).mono (Nat.le_refl _) hb4.size (Nat.le_refl _) hb4.size
          have hwr := hb2.size
          have hwi := hb4.size
          have hb24 := belowTrans hb2 hb4 (Nat.le_refl _)
          clear ho4 hu hb2 hb4
          have Hn4 := Lib.hid hn4; clear hn4
          have hn48 : n4 ≤ 3718 := by have := Hn4.out; omega
          go_wp2_with fail
          go_loopw [6, 27] (fun v i wx => ∃ (r : Nat) (a5 : Option Addr) (p5 c5 : Nat) (us5 : List Value), r ≤ n4 ∧ i = .int .i64 r ∧ v = .slice a5 p5 c5 ∧ Sp w.heap.size wx.heap.size w.heap.size wx.heap.size wx a5 p5 c5 us5 (srt (L ++ P.take r)) ∧ Below wi.heap.size wi wx) (fun _ i _ => n4 - (intOf i).toNat)
          case atStart => exact ⟨0, a', p, c', us, Nat.zero_le _, rfl, rfl, by simpa using hu2, Below.refl _ _⟩
          case round =>
            obtain ⟨r, a5, p5, c5, us5, hr, rfl, rfl, h5, hb5⟩ := hrel
            clear hu2
            by_cases hlt3 : r < n4
            · obtain ⟨b6, o6, a6, m6, c6, rfl, hbl6, hck6, _, hrow6⟩ := (hps.keep hb5).getRow hlt3
              have e6 := srt_snoc (L ++ P.take r) (P.getD r [])
              rw [List.append_assoc, ← take_snocX hlt3 Hn4.out] at e6
              have hl5 := h5.length
              rw [srt_length, List.length_append, List.length_take] at hl5
              have hs5 := hb5.size
              have hp5 : p5 ≤ 1048576 := by have := Hn4.out; omega
              generalize P.getD r [] = y at *
              generalize srt (L ++ P.take r) = Z at *
              have hcon := piAddW_any _ _ _ _ _ _ _ _ _ a6 m6 c6 y _ h5 (hrow6.mono (by omega) (by omega)) hp5
              have Hcon := Lib.hid hcon; clear hcon
              have E6 := Lib.hid e6; clear e6
              have Hl5 := Lib.hid hl5; clear hl5
              go_wp2_with fail
              with_reducible refine (Hcon.out).mono ?_
              rintro e w7 ⟨a7, n7, c7, rfl, ⟨vs7, ho7⟩, hb7⟩
              have hs7 := hb7.size
              have h7 := ho7.mono (show w.heap.size ≤ _ by omega) (Nat.le_refl _) (Nat.le_refl _) hs7
              have hb57 := belowTrans hb5 hb7 (Nat.le_refl _)
              clear ho7 h5 hb5 hb7 hrow6
              go_wp2
              go_roundw
              case rel => exact ⟨r + 1, a7, n7, c7, vs7, by omega, by go_num, rfl, by rw [E6.out]; exact h7, hb57⟩
              case measure => simp [intOf]; omega
            · obtain rfl : n4 = r := by omega
              rw [take_allR Hn4.out, ← E3.out] at h5
              go_wp2
              go_roundw
              case rel => exact ⟨q + 1, a5, p5, c5, us5, by omega, by go_num, rfl, h5, belowTrans hb24 hb5 (Nat.le_refl _)⟩
              case measure => simp [intOf]; omega
        · obtain rfl : m = q := by omega
          rw [take_allR Hm.out, ← E.out] at hu
          go_wp2
          go_roundw
          case rel => exact ⟨j + 1, a', p, c', us, by omega, valI (by omega), rfl, hu, belowTrans hb hb2 (Nat.le_refl _)⟩
          case measure => simp [intOf]; omega
    · obtain rfl : k = j := by omega
      go_wp2
      go_ret
      exact ⟨_, _, _, rfl, hv.toR (Nat.le_refl _) (Nat.le_refl _) (Nat.le_refl _) (Nat.le_refl _), hb⟩
theorem spec_PastsAt (ao : Option Addr) (n cap : Nat) (xs : List Int) (k : Int) (w : World) (h : IntsAt w ao n cap xs) :
    Calls Tryz.prog 7 #[.slice ao n cap, .int .i64 k] w fun e w' => ∃ ao' n' cap', e = .returned (.tuple #[.slice ao' n' cap', .bool (mPastsAt xs k).2]) ∧ RowsR w.heap.size w'.heap.size w' ao' n' cap' (mPastsAt xs k).1 ∧ Below w.heap.size w w' := by
  cases hg : goodB xs
  · have hm := mPA_no1 (k := k) hg
    have Hg := Lib.hid hg; clear hg
    have Hm := Lib.hid hm; clear hm
    go_enter Tryz.func7, Tryz.ntmps7
    go_wp2_with fail
    with_reducible refine (piGood_no _ _ _ _ _ h Hg.out).mono ?_
    rintro e w' ⟨rfl, rfl⟩
    go_wp2
    go_ret2
    rw [Hm.out]
    exact ⟨none, 0, 0, rfl, RowsR.nil _ _ _, Below.refl _ _⟩
  · by_cases hk : 0 ≤ k ∧ k ≤ 60
    · obtain ⟨q, rfl⟩ := Int.eq_ofNat_of_zero_le hk.1
      have hq : q ≤ 60 := by omega
      have hm := mPA_yes hg hq
      have Hg := Lib.hid hg; clear hg
      have Hm := Lib.hid hm; clear hm
      have Hk := Lib.hid hk; clear hk
      go_enter Tryz.func7, Tryz.ntmps7
      go_wp2_with fail
      with_reducible refine (piGood_yes _ _ _ _ _ h (good_iff.1 Hg.out)).mono ?_
      rintro e w' ⟨rfl, rfl⟩
      go_wp2_with fail
      with_reducible refine (l1In_yes _ _ _ _ Hk.out).mono ?_
      rintro e w' ⟨rfl, rfl⟩
      go_wp2_with fail
      with_reducible refine (paAt_any _ _ _ _ _ _ h (good_iff.1 Hg.out) hq).mono ?_
      rintro e w' ⟨ao', n', cap', rfl, ho, hb⟩
      go_wp2
      go_ret2
      rw [Hm.out]
      exact ⟨_, _, _, rfl, ho, hb⟩
    · have hm := mPA_no2 (xs := xs) hk
      have Hg := Lib.hid hg; clear hg
      have Hm := Lib.hid hm; clear hm
      have Hk := Lib.hid hk; clear hk
      go_enter Tryz.func7, Tryz.ntmps7
      go_wp2_with fail
      with_reducible refine (piGood_yes _ _ _ _ _ h (good_iff.1 Hg.out)).mono ?_
      rintro e w' ⟨rfl, rfl⟩
      go_wp2_with fail
      with_reducible refine (l1In_no _ _ _ _ Hk.out).mono ?_
      rintro e w' ⟨rfl, rfl⟩
      go_wp2
      go_ret2
      rw [Hm.out]
      exact ⟨none, 0, 0, rfl, RowsR.nil _ _ _, Below.refl _ _⟩
theorem spec_CountAt (ao : Option Addr) (n cap : Nat) (xs : List Int) (k : Int) (w : World) (h : IntsAt w ao n cap xs) :
    Calls Tryz.prog 11 #[.slice ao n cap, .int .i64 k] w fun e w' => e = .returned (.tuple #[.int .i64 (mCountAt xs k).1, .bool (mCountAt xs k).2]) ∧ Below w.heap.size w w' := by
  cases hg : goodB xs
  · have hm := mCA_no1 (k := k) hg
    have Hg := Lib.hid hg; clear hg
    have Hm := Lib.hid hm; clear hm
    go_enter Tryz.func11, Tryz.ntmps11
    go_wp2_with fail
    with_reducible refine (piGood_no _ _ _ _ _ h Hg.out).mono ?_
    rintro e w' ⟨rfl, rfl⟩
    go_wp2
    go_ret2
    rw [Hm.out]
    exact ⟨rfl, Below.refl _ _⟩
  · by_cases hk : 0 ≤ k ∧ k ≤ 60
    · obtain ⟨q, rfl⟩ := Int.eq_ofNat_of_zero_le hk.1
      have hq : q ≤ 60 := by omega
      have hm := mCA_yes hg hq
      have Hg := Lib.hid hg; clear hg
      have Hm := Lib.hid hm; clear hm
      have Hk := Lib.hid hk; clear hk
      go_enter Tryz.func11, Tryz.ntmps11
      go_wp2_with fail
      with_reducible refine (piGood_yes _ _ _ _ _ h (good_iff.1 Hg.out)).mono ?_
      rintro e w' ⟨rfl, rfl⟩
      go_wp2_with fail
      with_reducible refine (l1In_yes _ _ _ _ Hk.out).mono ?_
      rintro e w' ⟨rfl, rfl⟩
      go_wp2_with fail
      with_reducible refine (paAt_any _ _ _ _ _ _ h (good_iff.1 Hg.out) hq).mono ?_
      rintro e w' ⟨ao', n', cap', rfl, ho, hb⟩
      have hl := ho.length
      have Hl := Lib.hid hl; clear hl
      go_wp2
      go_ret2
      rw [Hm.out]
      exact ⟨by rw [Hl.out]; rfl, hb⟩
    · have hm := mCA_no2 (xs := xs) hk
      have Hg := Lib.hid hg; clear hg
      have Hm := Lib.hid hm; clear hm
      have Hk := Lib.hid hk; clear hk
      go_enter Tryz.func11, Tryz.ntmps11
      go_wp2_with fail
      with_reducible refine (piGood_yes _ _ _ _ _ h (good_iff.1 Hg.out)).mono ?_
      rintro e w' ⟨rfl, rfl⟩
      go_wp2_with fail
      with_reducible refine (l1In_no _ _ _ _ Hk.out).mono ?_
      rintro e w' ⟨rfl, rfl⟩
      go_wp2
      go_ret2
      rw [Hm.out]
      exact ⟨rfl, Below.refl _ _⟩
end
end Go.Proofs.YtmfdimdcoeapoaaGreat
namespace Go.Proofs.YtmfdimdcoeapoaaGreat
section
open Go.RowKit
set_option linter.unusedVariables false
set_option linter.unusedSimpArgs false
set_option maxRecDepth 20000

theorem Tryz.infoLists : (Tryz.prog.info? 27).map (fun i => (i.zero, i.size, i.bytes)) = some (some (.slice none 0 0), 1, 24) := by kernel_rfl
/-! ### Levels: each a spine with rows behind it -/
structure LvW (B E : Nat) (w : World) (lvs : List Value) (lss : List (List (List Int))) : Prop where
  length : lvs.length = lss.length
  lev : ∀ i, i < lss.length → ∃ a m c vs, lvs.getD i undef = .slice a m c ∧ Sp B E B E w a m c vs (lss.getD i [])
theorem LvW.mono {B B' E E' w lvs lss} (h : LvW B E w lvs lss) (hB : B' ≤ B) (hE : E ≤ E') : LvW B' E' w lvs lss :=
  ⟨h.length, fun i hi => by obtain ⟨a, m, c, vs, e, hs⟩ := h.lev i hi; exact ⟨a, m, c, vs, e, hs.mono hB hE hB hE⟩⟩
theorem LvW.keep {B E w w' lvs lss} (h : LvW B E w lvs lss) (hb : Below w.heap.size w w') : LvW B E w' lvs lss :=
  ⟨h.length, fun i hi => by obtain ⟨a, m, c, vs, e, hs⟩ := h.lev i hi; exact ⟨a, m, c, vs, e, hs.keep hb⟩⟩
theorem LvW.nil (B E : Nat) (w : World) : LvW B E w [] [] := ⟨rfl, fun i hi => absurd hi (Nat.not_lt_zero _)⟩
theorem LvW.snoc {B E w lvs lss a m c vs l} (h : LvW B E w lvs lss) (k : Sp B E B E w a m c vs l) : LvW B E w (lvs ++ [.slice a m c]) (lss ++ [l]) := by
  refine ⟨by simp [h.length], fun i hi => ?_⟩
  rw [List.length_append, List.length_singleton] at hi
  by_cases hlt : i < lss.length
  · obtain ⟨a', m', c', vs', e, hs⟩ := h.lev i hlt
    refine ⟨a', m', c', vs', ?_, ?_⟩
    · rw [List.getD_eq_getElem?_getD, List.getElem?_append_left (by rw [h.length]; exact hlt), ← List.getD_eq_getElem?_getD]; exact e
    · rw [List.getD_eq_getElem?_getD, List.getElem?_append_left hlt, ← List.getD_eq_getElem?_getD]; exact hs
  · obtain rfl : i = lss.length := by omega
    refine ⟨a, m, c, vs, ?_, ?_⟩
    · rw [List.getD_eq_getElem?_getD, List.getElem?_append_right (by rw [h.length]; exact Nat.le_refl _), h.length, Nat.sub_self]; rfl
    · rw [List.getD_eq_getElem?_getD, List.getElem?_append_right (Nat.le_refl _), Nat.sub_self]; exact k
theorem Sp.chgL {B E C D w w' ao n cap vs xss B' E' ao' n' cap' us} (h : Sp B E C D w ao n cap vs xss) (k : OwnRow B' E' w 27 ao' n' cap' us) (hc : Chg (fun q => (Value.slice ao' n' cap').ownBlock = some q) w w') : Sp B E C D w' ao n cap vs xss :=
  ⟨OwnRow.chg h.spine hc fun g _ _ hg hs => OwnRow.apart_ty h.spine k (by decide) hg hs, ⟨h.rows.length, fun i hi => by
    obtain ⟨a, m, c, e, ho⟩ := h.rows.row i hi
    exact ⟨a, m, c, e, ho.chg hc fun g _ _ hg hs => OwnRow.apart_ty ho k (by decide) hg hs⟩⟩⟩
theorem LvW.chgL {B E w w' lvs lss B' E' ao n cap us} (h : LvW B E w lvs lss) (k : OwnRow B' E' w 27 ao n cap us) (hc : Chg (fun q => (Value.slice ao n cap).ownBlock = some q) w w') : LvW B E w' lvs lss :=
  ⟨h.length, fun i hi => by obtain ⟨a, m, c, vs, e, hs⟩ := h.lev i hi; exact ⟨a, m, c, vs, e, hs.chgL k hc⟩⟩
/-- a level at a place -/
theorem lvRow {B E B' E' : Nat} {w : World} {ao : Option Addr} {n cap : Nat} {lvs : List Value} {lss : List (List (List Int))} (h : OwnRow B E w 27 ao n cap lvs) (k : LvW B' E' w lvs lss) {i : Nat} (hi : i < n) :
    ∃ b o a m c vs, ao = some ⟨b, o, none⟩ ∧ b < w.heap.size ∧ w.cell? ⟨b, o + i, none⟩ = some (.slice a m c) ∧ Sp B' E' B' E' w a m c vs (lss.getD i []) := by
  obtain ⟨b, o, e, hlt, hc⟩ := h.at.cell i hi
  obtain ⟨a, m, c, vs, e2, hs⟩ := k.lev i (by rw [← k.length, h.length]; exact hi)
  exact ⟨b, o, a, m, c, vs, e, hlt, by rw [hc i hi, e2], hs⟩

theorem levs_take_len (A : List (List (List Int))) (q : Nat) : ((A.take q).flatten).length ≤ A.flatten.length := by
  have := congrArg (fun l => l.flatten.length) (List.take_append_drop q A)
  simp only [List.flatten_append, List.length_append] at this
  omega
theorem take_snocL {xs : List (List (List Int))} {k n : Nat} (hk : k < n) (hl : xs.length = n) : xs.take (k + 1) = xs.take k ++ [xs.getD k []] := by
  subst hl
  rw [List.take_add_one, List.getElem?_eq_getElem hk, List.getD_eq_getElem?_getD, List.getElem?_eq_getElem hk]; rfl

theorem headD_getD (A : List (List Int)) : A.headD [] = A.getD 0 [] := by cases A <;> rfl
end
end Go.Proofs.YtmfdimdcoeapoaaGreat
namespace Go.Proofs.YtmfdimdcoeapoaaGreat
section
open Go.RowKit
set_option linter.unusedVariables false
set_option linter.unusedSimpArgs false
set_option maxRecDepth 20000

theorem headD_getD' (A : List (List Int)) : A.headD [] = A.getD 0 [] := by cases A <;> rfl
/-! ### Tables -/
end
end Go.Proofs.YtmfdimdcoeapoaaGreat
