/- Several texts in one: PaM, PaS, PaT, PaU, PaV. No condition. -/
import Derived.Test.YthppkfhhidlpiaaGreatGa
import Derived.Test.YthppkfhhidlpiaaGreatRowsV
import Derived.Test.YthppkfhhidlpiaaGreatRowsR
import Derived.Test.YthppkfhhidlpiaaGreatOrbB
import Derived.Test.YthppkfhhidlpiaaGreatGk
import Derived.Test.YthppkfhhidlpiaaGreatPastsB
import Derived.Test.YthppkfhhidlpiaaGreatGl
namespace Go.Proofs.YthppkfhhidlpiaaGreat
section
set_option linter.unusedVariables false
set_option linter.unusedSimpArgs false

/-! ### Gardens -/
def gardB (xs : List Int) : Bool := decide (xs ≠ []) && decide (xs.headD 0 < (xs.length : Int) - 1)
def mIsGarden (xs : List Int) : Bool × Bool := (goodB xs && gardB xs, goodB xs)
theorem mGard_yes {xs : List Int} (h : goodB xs = true) : mIsGarden xs = (gardB xs, true) := by unfold mIsGarden; rw [h]; rfl
theorem mGard_no {xs : List Int} (h : goodB xs = false) : mIsGarden xs = (false, false) := by unfold mIsGarden; rw [h]; rfl
def gardL (n : Nat) : List (List Int) := (allL n).filter gardB
def mGardensOf (n : Int) : List (List Int) × Bool := if 0 ≤ n ∧ n ≤ 28 then (gardL n.toNat, true) else ([], false)
theorem mGards_yes (n : Nat) (h : n ≤ 28) : mGardensOf n = (gardL n, true) := by unfold mGardensOf; rw [if_pos (by omega)]; rfl
theorem mGards_no (n : Int) (h : ¬ (0 ≤ n ∧ n ≤ 28)) : mGardensOf n = ([], false) := by unfold mGardensOf; rw [if_neg h]
def mCountGardens (n : Int) : Int × Bool := if 0 ≤ n ∧ n ≤ 28 then ((((gardL n.toNat).length : Nat) : Int), true) else (0, false)
theorem mCGard_yes (n : Nat) (h : n ≤ 28) : mCountGardens n = ((((gardL n).length : Nat) : Int), true) := by unfold mCountGardens; rw [if_pos (by omega)]; rfl
theorem mCGard_no (n : Int) (h : ¬ (0 ≤ n ∧ n ≤ 28)) : mCountGardens n = (0, false) := by unfold mCountGardens; rw [if_neg h]
theorem allL_le {n : Nat} (hn : n ≤ 28) : (allL n).length ≤ 3718 := by
  rw [allL_length hn]
  have := cnt_le n (by omega) n (by omega)
  omega
theorem gardL_le {n : Nat} (hn : n ≤ 28) : (gardL n).length ≤ 3718 := Nat.le_trans (List.length_filter_le _ _) (allL_le hn)
theorem gardL_good {n : Nat} (hn : n ≤ 28) {x : List Int} (hx : x ∈ gardL n) : Good x := (allL_good hn (List.mem_filter.1 hx).1).1

/-- a list of lists of so many numbers at most is small -/
theorem rows_bound {xss : List (List Int)} (h1 : xss.length ≤ 3718) (h2 : ∀ x ∈ xss, x.length ≤ 28) : xss.length ≤ 1048576 ∧ total xss ≤ 1048576 := by
  refine ⟨by omega, ?_⟩
  have := total_le xss 28 h2
  have : xss.length * 28 ≤ 3718 * 28 := Nat.mul_le_mul_right 28 h1
  omega
theorem mGardensOf_bound (n : Int) : (mGardensOf n).1.length ≤ 1048576 ∧ total (mGardensOf n).1 ≤ 1048576 := by
  unfold mGardensOf
  split
  · next h => exact rows_bound (gardL_le (by omega)) (fun x hx => (gardL_good (by omega) hx).len)
  · exact ⟨by simp, by simp [total]⟩

/-! ### Pasts at some steps -/
def atL (xs : List Int) (k : Nat) : List (List Int) := srt (lvA xs k)
theorem atL_zero (xs : List Int) : atL xs 0 = [xs] := rfl
theorem atL_succ {xs : List Int} (k : Nat) : atL xs (k + 1) = srt ((atL xs k).flatMap pastsL) := by
  unfold atL
  show srt ((lvA xs k).flatMap pastsL) = _
  exact srt_of_perm ((srt_perm (lvA xs k)).symm.flatMap_right pastsL)
theorem atL_good {xs : List Int} (hg : Good xs) {k : Nat} {x : List Int} (hx : x ∈ atL xs k) : Good x := ((mem_lvA hg k x).1 (srt_mem.1 hx)).1
theorem atL_le {xs : List Int} (hg : Good xs) (k : Nat) : (atL xs k).length ≤ 3718 := by unfold atL; rw [srt_length]; exact lvA_length hg k
def mPastsAt (xs : List Int) (k : Int) : List (List Int) × Bool := if goodB xs = true ∧ 0 ≤ k ∧ k ≤ 60 then (atL xs k.toNat, true) else ([], false)
theorem mPA_yes {xs : List Int} {k : Nat} (h : goodB xs = true) (hk : k ≤ 60) : mPastsAt xs k = (atL xs k, true) := by unfold mPastsAt; rw [if_pos ⟨h, by omega, by omega⟩]; rfl
theorem mPA_no1 {xs : List Int} {k : Int} (h : goodB xs = false) : mPastsAt xs k = ([], false) := by unfold mPastsAt; rw [if_neg (by rw [h]; simp)]
theorem mPA_no2 {xs : List Int} {k : Int} (h : ¬ (0 ≤ k ∧ k ≤ 60)) : mPastsAt xs k = ([], false) := by unfold mPastsAt; rw [if_neg (fun hh => h hh.2)]
theorem mPastsAt_bound (xs : List Int) (k : Int) : (mPastsAt xs k).1.length ≤ 1048576 ∧ total (mPastsAt xs k).1 ≤ 1048576 := by
  unfold mPastsAt
  split
  · next h => exact rows_bound (atL_le (good_iff.1 h.1) _) (fun x hx => (atL_good (good_iff.1 h.1) hx).len)
  · exact ⟨by simp, by simp [total]⟩
def mCountAt (xs : List Int) (k : Int) : Int × Bool := if goodB xs = true ∧ 0 ≤ k ∧ k ≤ 60 then ((((atL xs k.toNat).length : Nat) : Int), true) else (0, false)
theorem mCA_yes {xs : List Int} {k : Nat} (h : goodB xs = true) (hk : k ≤ 60) : mCountAt xs k = ((((atL xs k).length : Nat) : Int), true) := by unfold mCountAt; rw [if_pos ⟨h, by omega, by omega⟩]; rfl
theorem mCA_no1 {xs : List Int} {k : Int} (h : goodB xs = false) : mCountAt xs k = (0, false) := by unfold mCountAt; rw [if_neg (by rw [h]; simp)]
theorem mCA_no2 {xs : List Int} {k : Int} (h : ¬ (0 ≤ k ∧ k ≤ 60)) : mCountAt xs k = (0, false) := by unfold mCountAt; rw [if_neg (fun hh => h hh.2)]

/-! ### Trees -/
/-- the levels of a tree, each in order -/
def plL (xs : List Int) : Nat → List (List Int)
  | 0 => [xs]
  | t + 1 => srt ((plL xs t).flatMap loosePasts)
theorem plL_eq (xs : List Int) (t : Nat) : plL xs t = srt (levL [xs] t) := by
  induction t with
  | zero => rfl
  | succ t ih =>
    show srt ((plL xs t).flatMap loosePasts) = srt (looseL (levL [xs] t))
    rw [ih]
    unfold looseL
    exact srt_of_perm ((srt_perm (levL [xs] t)).flatMap_right loosePasts)
theorem plL_nil (xs : List Int) (t : Nat) : plL xs t = [] ↔ levL [xs] t = [] := by
  rw [plL_eq]
  have h := srt_length (levL [xs] t)
  constructor
  · intro e; rw [e] at h; exact List.eq_nil_of_length_eq_zero h.symm
  · intro e; rw [e]; rfl
def depN (xs : List Int) : Nat := levN [xs]
theorem depN_spec {xs : List Int} (hg : Good xs) : 1 ≤ depN xs ∧ depN xs ≤ 3719 ∧ levL [xs] (depN xs) = [] ∧ ∀ t, t < depN xs → levL [xs] t ≠ [] := by
  obtain ⟨s, _, _, hr⟩ := roots_one hg
  obtain ⟨h1, h2, h3⟩ := levN_spec hr
  exact ⟨levN_pos hr (by simp), h1, h2, h3⟩
theorem depN_unique {xs : List Int} (hg : Good xs) {N : Nat} (h1 : levL [xs] N = []) (h2 : ∀ t, t < N → levL [xs] t ≠ []) : N = depN xs := by
  obtain ⟨s, _, _, hr⟩ := roots_one hg
  exact levN_unique hr h1 h2
def plevs (xs : List Int) (N : Nat) : List (List (List Int)) := (List.range N).map (plL xs)
theorem plevs_succ (xs : List Int) (N : Nat) : plevs xs (N + 1) = plevs xs N ++ [plL xs N] := by unfold plevs; rw [List.range_succ, List.map_append]; rfl
theorem plevs_length (xs : List Int) (N : Nat) : (plevs xs N).length = N := by simp [plevs]
def treeL (xs : List Int) : List (List Int) := srt (levs [xs] (depN xs)).flatten
theorem plevs_perm (xs : List Int) (N : Nat) : (plevs xs N).flatten.Perm (levs [xs] N).flatten := by
  induction N with
  | zero => exact List.Perm.refl _
  | succ N ih =>
    rw [plevs_succ, levs_succ, List.flatten_append, List.flatten_append]
    refine ih.append ?_
    simp only [List.flatten_cons, List.flatten_nil, List.append_nil]
    rw [plL_eq]; exact srt_perm _
theorem treeL_plevs (xs : List Int) : treeL xs = srt (plevs xs (depN xs)).flatten := (srt_of_perm (plevs_perm xs (depN xs))).symm
theorem tree_len {xs : List Int} (hg : Good xs) (N : Nat) : (levs [xs] N).flatten.length ≤ 3718 := by
  obtain ⟨s, _, _, hr⟩ := roots_one hg
  exact tree_length hr (apart_one hg) N
theorem plevs_len {xs : List Int} (hg : Good xs) (N : Nat) : (plevs xs N).flatten.length ≤ 3718 := by rw [(plevs_perm xs N).length_eq]; exact tree_len hg N
theorem plL_good {xs : List Int} (hg : Good xs) {t : Nat} {x : List Int} (hx : x ∈ plL xs t) : Good x := by
  rw [plL_eq, srt_mem] at hx
  exact ((mem_levR (fun y hy => by rw [List.mem_singleton.1 hy]; exact hg) t x).1 hx).1
theorem plL_le {xs : List Int} (hg : Good xs) (t : Nat) : (plL xs t).length ≤ 3718 := by
  rw [plL_eq, srt_length]
  obtain ⟨s, _, _, hr⟩ := roots_one hg
  exact levR_length hr t
theorem treeL_good {xs : List Int} (hg : Good xs) {x : List Int} (hx : x ∈ treeL xs) : Good x := by
  obtain ⟨s, _, _, hr⟩ := roots_one hg
  exact (levs_all hr (srt_mem.1 hx)).2
theorem treeL_le {xs : List Int} (hg : Good xs) : (treeL xs).length ≤ 3718 := by unfold treeL; rw [srt_length]; exact tree_len hg _
def mTreeOf (xs : List Int) : List (List Int) × Bool := if goodB xs = true then (treeL xs, true) else ([], false)
theorem mTree_yes {xs : List Int} (h : goodB xs = true) : mTreeOf xs = (treeL xs, true) := by unfold mTreeOf; rw [if_pos h]
theorem mTree_no {xs : List Int} (h : goodB xs = false) : mTreeOf xs = ([], false) := by unfold mTreeOf; rw [if_neg (by rw [h]; simp)]
set_option maxRecDepth 100000 in
theorem mTreeOf_bound (xs : List Int) : (mTreeOf xs).1.length ≤ 1048576 ∧ total (mTreeOf xs).1 ≤ 1048576 := by
  unfold mTreeOf
  split
  · next h =>
    show (treeL xs).length ≤ 1048576 ∧ total (treeL xs) ≤ 1048576
    exact rows_bound (treeL_le (good_iff.1 h)) (fun x hx => (treeL_good (good_iff.1 h) hx).len)
  · exact ⟨by simp, by simp [total]⟩
def mTreeSize (xs : List Int) : Int × Bool := if goodB xs = true then ((((treeL xs).length : Nat) : Int), true) else (0, false)
theorem mTSize_yes {xs : List Int} (h : goodB xs = true) : mTreeSize xs = ((((treeL xs).length : Nat) : Int), true) := by unfold mTreeSize; rw [if_pos h]
theorem mTSize_no {xs : List Int} (h : goodB xs = false) : mTreeSize xs = (0, false) := by unfold mTreeSize; rw [if_neg (by rw [h]; simp)]
theorem tsize_eq (xs : List Int) : (treeL xs).length = (plevs xs (depN xs)).flatten.length := by rw [treeL_plevs, srt_length]
def mDepthOf (xs : List Int) : Int × Bool := if goodB xs = true then ((depN xs : Int) - 1, true) else (0, false)
theorem mDep_yes {xs : List Int} (h : goodB xs = true) : mDepthOf xs = ((depN xs : Int) - 1, true) := by unfold mDepthOf; rw [if_pos h]
theorem mDep_no {xs : List Int} (h : goodB xs = false) : mDepthOf xs = (0, false) := by unfold mDepthOf; rw [if_neg (by rw [h]; simp)]
def farL (xs : List Int) : List Int := (plL xs (depN xs - 1)).headD []
theorem far_mem {xs : List Int} (hg : Good xs) : farL xs ∈ plL xs (depN xs - 1) ∧ plL xs (depN xs - 1) ≠ [] := by
  obtain ⟨h1, h2, h3, h4⟩ := depN_spec hg
  have hne : plL xs (depN xs - 1) ≠ [] := fun e => h4 (depN xs - 1) (by omega) ((plL_nil xs _).1 e)
  refine ⟨?_, hne⟩
  unfold farL
  cases h : plL xs (depN xs - 1) with
  | nil => exact absurd h hne
  | cons a l => simp
def mFarthestPast (xs : List Int) : List Int × Bool := if goodB xs = true then (farL xs, true) else ([], false)
theorem mFarP_yes {xs : List Int} (h : goodB xs = true) : mFarthestPast xs = (farL xs, true) := by unfold mFarthestPast; rw [if_pos h]
theorem mFarP_no {xs : List Int} (h : goodB xs = false) : mFarthestPast xs = ([], false) := by unfold mFarthestPast; rw [if_neg (by rw [h]; simp)]
set_option maxRecDepth 100000 in
theorem mFarthestPast_bound (xs : List Int) : (mFarthestPast xs).1.length ≤ 1048576 := by
  unfold mFarthestPast
  split
  · next h =>
    show (farL xs).length ≤ 1048576
    have := (plL_good (good_iff.1 h) (far_mem (good_iff.1 h)).1).len
    generalize (farL xs).length = q at *
    omega
  · simp

/-! ### The first past, and lines back -/
def mFirstPast (xs : List Int) : List Int × Bool := if goodB xs = true ∧ loosePasts xs ≠ [] then ((loosePasts xs).headD [], true) else ([], false)
theorem mFP_yes {xs : List Int} (h : goodB xs = true) (h2 : loosePasts xs ≠ []) : mFirstPast xs = ((loosePasts xs).headD [], true) := by unfold mFirstPast; rw [if_pos ⟨h, h2⟩]
theorem mFP_no1 {xs : List Int} (h : goodB xs = false) : mFirstPast xs = ([], false) := by unfold mFirstPast; rw [if_neg (by rw [h]; simp)]
theorem mFP_no2 {xs : List Int} (h : loosePasts xs = []) : mFirstPast xs = ([], false) := by unfold mFirstPast; rw [if_neg (fun hh => hh.2 h)]
theorem loose_head {xs : List Int} (h : loosePasts xs ≠ []) : (loosePasts xs).headD [] ∈ loosePasts xs := by
  cases e : loosePasts xs with
  | nil => exact absurd e h
  | cons a l => simp
theorem loose_good {xs p : List Int} (hg : Good xs) (h : p ∈ loosePasts xs) : Good p := ((mem_loose hg).1 h).1
theorem loose_len {xs : List Int} (hg : Good xs) : (loosePasts xs).length ≤ 29 := by
  have h1 : (loosePasts xs).length ≤ (pastsL xs).length := List.length_filter_le _ _
  have h2 := pastsL_length xs
  have h3 := hg.len
  omega
theorem mFirstPast_bound (xs : List Int) : (mFirstPast xs).1.length ≤ 1048576 := by
  unfold mFirstPast
  split
  · next h => have := (loose_good (good_iff.1 h.1) (loose_head h.2)).len; show ((loosePasts xs).headD []).length ≤ _; omega
  · simp
/-- the line back: its element t, as long as there is one -/
def lineE (xs : List Int) : Nat → List Int
  | 0 => xs
  | t + 1 => (loosePasts (lineE xs t)).headD []
def lineTo (xs : List Int) (N : Nat) : List (List Int) := (List.range N).map (lineE xs)
theorem lineTo_succ (xs : List Int) (N : Nat) : lineTo xs (N + 1) = lineTo xs N ++ [lineE xs N] := by unfold lineTo; rw [List.range_succ, List.map_append]; rfl
theorem lineTo_length (xs : List Int) (N : Nat) : (lineTo xs N).length = N := by simp [lineTo]
/-- where the line ends -/
def lineN (xs : List Int) : Nat := ((List.range 3720).find? fun t => (loosePasts (lineE xs t)).isEmpty).getD 0
theorem line_lev {xs : List Int} (t : Nat) (h : ∀ u, u < t → loosePasts (lineE xs u) ≠ []) : lineE xs t ∈ levL [xs] t := by
  induction t with
  | zero => show xs ∈ [xs]; simp
  | succ t ih =>
    have h1 := ih (fun u hu => h u (by omega))
    show _ ∈ looseL (levL [xs] t)
    unfold looseL
    exact List.mem_flatMap.2 ⟨_, h1, loose_head (h t (by omega))⟩
theorem lineN_spec {xs : List Int} (hg : Good xs) : lineN xs < depN xs ∧ loosePasts (lineE xs (lineN xs)) = [] ∧ ∀ t, t < lineN xs → loosePasts (lineE xs t) ≠ [] := by
  obtain ⟨d1, d2, d3, d4⟩ := depN_spec hg
  have hex : ∃ t, t < depN xs ∧ loosePasts (lineE xs t) = [] := by
    by_cases h : ∃ t, t < depN xs ∧ loosePasts (lineE xs t) = []
    · exact h
    · exfalso
      have := line_lev (xs := xs) (depN xs) (fun u hu e => h ⟨u, hu, e⟩)
      rw [d3] at this
      cases this
  obtain ⟨m, ⟨hm1, hm2⟩, hm3⟩ := (fun h => let ⟨m, h1, h2⟩ := least_hole (fun t => t < depN xs ∧ loosePasts (lineE xs t) = []) _ h; ⟨m, h1, h2⟩ : ∀ {t}, (t < depN xs ∧ loosePasts (lineE xs t) = []) → ∃ m, (m < depN xs ∧ loosePasts (lineE xs m) = []) ∧ ∀ k, k < m → ¬ (k < depN xs ∧ loosePasts (lineE xs k) = [])) hex.choose_spec
  have hN : lineN xs = m := by
    unfold lineN
    have : (List.range 3720).find? (fun t => (loosePasts (lineE xs t)).isEmpty) = some m := by
      rw [List.find?_range_eq_some]
      refine ⟨by rw [hm2]; rfl, by simp; omega, fun j hj => ?_⟩
      have := hm3 j hj
      have hne : loosePasts (lineE xs j) ≠ [] := fun e => this ⟨by omega, e⟩
      simpa using hne
    rw [this]; rfl
  rw [hN]
  exact ⟨hm1, hm2, fun t ht e => hm3 t ht ⟨by omega, e⟩⟩
theorem lineE_good {xs : List Int} (hg : Good xs) {t : Nat} (h : ∀ u, u < t → loosePasts (lineE xs u) ≠ []) : Good (lineE xs t) := by
  have := line_lev t h
  exact ((mem_levR (fun y hy => by rw [List.mem_singleton.1 hy]; exact hg) t _).1 this).1
theorem lineN_unique {xs : List Int} (hg : Good xs) {N : Nat} (h1 : loosePasts (lineE xs N) = []) (h2 : ∀ t, t < N → loosePasts (lineE xs t) ≠ []) : N = lineN xs := by
  obtain ⟨_, h3, h4⟩ := lineN_spec hg
  rcases Nat.lt_trichotomy N (lineN xs) with h5 | h5 | h5
  · exact absurd h1 (h4 N h5)
  · exact h5
  · exact absurd h3 (h2 _ h5)
theorem line_short {xs : List Int} (hg : Good xs) {t : Nat} (h : ∀ u, u < t → loosePasts (lineE xs u) ≠ []) : t ≤ 3718 := by
  obtain ⟨h1, h2, h3⟩ := lineN_spec hg
  have := (depN_spec hg).2.1
  rcases Nat.lt_or_ge (lineN xs) t with h4 | h4
  · exact absurd h2 (h _ h4)
  · omega
def lineL (xs : List Int) : List (List Int) := lineTo xs (lineN xs + 1)
def mLineBack (xs : List Int) : List (List Int) × Bool := if goodB xs = true then (lineL xs, true) else ([], false)
theorem mLine_yes {xs : List Int} (h : goodB xs = true) : mLineBack xs = (lineL xs, true) := by unfold mLineBack; rw [if_pos h]
theorem mLine_no {xs : List Int} (h : goodB xs = false) : mLineBack xs = ([], false) := by unfold mLineBack; rw [if_neg (by rw [h]; simp)]
set_option maxRecDepth 100000 in
theorem mLineBack_bound (xs : List Int) : (mLineBack xs).1.length ≤ 1048576 ∧ total (mLineBack xs).1 ≤ 1048576 := by
  unfold mLineBack
  split
  · next h =>
    have hg := good_iff.1 h
    obtain ⟨h1, h2, h3⟩ := lineN_spec hg
    have := (depN_spec hg).2.1
    have h5 : (lineL xs).length ≤ 3719 := by unfold lineL; rw [lineTo_length]; omega
    show (lineL xs).length ≤ 1048576 ∧ total (lineL xs) ≤ 1048576
    refine ⟨Nat.le_trans h5 (by omega), ?_⟩
    have h6 : ∀ x ∈ lineL xs, x.length ≤ 28 := by
      intro x hx
      unfold lineL lineTo at hx
      obtain ⟨t, ht, rfl⟩ := List.mem_map.1 hx
      have ht := List.mem_range.1 ht
      exact (lineE_good hg (fun u hu => h3 u (by omega))).len
    have h7 := total_le (lineL xs) 28 h6
    have : (lineL xs).length * 28 ≤ 3719 * 28 := Nat.mul_le_mul_right 28 h5
    exact Nat.le_trans h7 (by omega)
  · exact ⟨by simp, by simp [total]⟩

/-! ### Tables -/
def depT (n : Nat) : List Int := tabT tailL (allL n)
def mDepthTable (n : Int) : List Int × Bool := if 0 ≤ n ∧ n ≤ 28 then (depT n.toNat, true) else ([], false)
theorem mDT_yes (n : Nat) (h : n ≤ 28) : mDepthTable n = (depT n, true) := by unfold mDepthTable; rw [if_pos (by omega)]; rfl
theorem mDT_no (n : Int) (h : ¬ (0 ≤ n ∧ n ≤ 28)) : mDepthTable n = ([], false) := by unfold mDepthTable; rw [if_neg h]
def pasN (xs : List Int) : Nat := (pastsL xs).length
theorem pasN_le {xs : List Int} (hg : Good xs) : pasN xs ≤ 29 := by have := pastsL_length xs; have := hg.len; unfold pasN; omega
def pasT (n : Nat) : List Int := tabT pasN (allL n)
def mPastTable (n : Int) : List Int × Bool := if 0 ≤ n ∧ n ≤ 28 then (pasT n.toNat, true) else ([], false)
theorem mPT_yes (n : Nat) (h : n ≤ 28) : mPastTable n = (pasT n, true) := by unfold mPastTable; rw [if_pos (by omega)]; rfl
theorem mPT_no (n : Int) (h : ¬ (0 ≤ n ∧ n ≤ 28)) : mPastTable n = ([], false) := by unfold mPastTable; rw [if_neg h]
theorem tabT_le {f : List Int → Nat} {l : List (List Int)} {b : Nat} (h : ∀ x ∈ l, f x < b) : (tabT f l).length ≤ b := by rw [tabT_length]; exact topT_bound h
theorem tabT_val (f : List Int → Nat) (l : List (List Int)) (d : Nat) : 0 ≤ (tabT f l).getD d 0 ∧ (tabT f l).getD d 0 ≤ l.length := by
  rw [tabT_getD]
  have := List.countP_le_length (p := fun x => decide (f x = d)) (l := l)
  omega
theorem mDepthTable_bound (n : Int) : (mDepthTable n).1.length ≤ 1048576 := by
  unfold mDepthTable
  split
  · next h =>
    have := tabT_le (f := tailL) (l := allL n.toNat) (b := 3719) (fun x hx => by have := (tailL_spec (allL_good (n := n.toNat) (by omega) hx).1).1; omega)
    show (depT n.toNat).length ≤ _
    unfold depT; omega
  · simp
theorem mPastTable_bound (n : Int) : (mPastTable n).1.length ≤ 1048576 := by
  unfold mPastTable
  split
  · next h =>
    have := tabT_le (f := pasN) (l := allL n.toNat) (b := 30) (fun x hx => by have := pasN_le (allL_good (n := n.toNat) (by omega) hx).1; omega)
    show (pasT n.toNat).length ≤ _
    unfold pasT; omega
  · simp
/-- the table of tails by levels -/
theorem depT_levs {c : List (List Int)} {n : Nat} (h : AllCyc c n) (hne : c ≠ []) : depT n = (levs c (levN c)).map (fun l => ((l.length : Nat) : Int)) := by
  have hr := h.toCyclics.roots
  obtain ⟨h1, h2, h3⟩ := levN_spec hr
  have hn : n ≤ 28 := hr.small
  have hperm : ∀ t, (levL c t).length = (allL n).countP (fun x => decide (tailL x = t)) := by
    intro t
    rw [List.countP_eq_length_filter]
    have hnd : ((allL n).filter fun x => decide (tailL x = t)).Nodup := (nodup_of_bef (allL_up n)).filter _
    have hm : ∀ x, x ∈ levL c t ↔ x ∈ (allL n).filter fun x => decide (tailL x = t) := by
      intro x
      rw [List.mem_filter, mem_lev h.toCyclics]
      constructor
      · rintro ⟨g, e, he⟩
        refine ⟨?_, by simpa using e⟩
        have := lev_mem_all h.toCyclics ((mem_lev h.toCyclics t x).2 ⟨g, e, he⟩)
        exact this
      · rintro ⟨hx, e⟩
        have g := (allL_good hn hx).1
        exact ⟨g, by simpa using e, h.all _ (endL_good g) (endL_cyc g) (by rw [end_sum g]; exact (allL_good hn hx).2)⟩
    exact Nat.le_antisymm (nodup_len (lev_nodup h.toCyclics t) (fun x hx => (hm x).1 hx)) (nodup_len hnd (fun x hx => (hm x).2 hx))
  have htop : topT tailL (allL n) = levN c := by
    apply Nat.le_antisymm
    · refine topT_bound (fun x hx => ?_)
      have g := (allL_good hn hx).1
      have hx2 : x ∈ levL c (tailL x) := (mem_lev h.toCyclics _ x).2 ⟨g, rfl, h.all _ (endL_good g) (endL_cyc g) (by rw [end_sum g]; exact (allL_good hn hx).2)⟩
      rcases Nat.lt_or_ge (tailL x) (levN c) with h4 | h4
      · exact h4
      · have := levR_stop h2 (tailL x - levN c)
        rw [show levN c + (tailL x - levN c) = tailL x by omega] at this
        rw [this] at hx2; cases hx2
    · have hp := levN_pos hr hne
      have h4 := h3 (levN c - 1) (by omega)
      cases e : levL c (levN c - 1) with
      | nil => exact absurd e h4
      | cons x l =>
        have hx : x ∈ levL c (levN c - 1) := by rw [e]; simp
        have ht := ((mem_lev h.toCyclics _ x).1 hx).2.1
        have := topT_le (f := tailL) (lev_mem_all h.toCyclics hx)
        omega
  unfold depT tabT levs
  rw [htop, List.map_map]
  apply List.map_congr_left
  intro t _
  simp only [Function.comp]
  rw [hperm]

/-! ### Which past -/
def mIsPastOf (x y : List Int) : Int × Bool := if goodB x = true ∧ goodB y = true then (match (List.range (tailL x + perL (endL x))).find? fun k => decide (stepsL k x = y) with | some k => ((k : Int), true) | none => (0, false)) else (0, false)
theorem mIPO_no1 {x y : List Int} (h : goodB x = false) : mIsPastOf x y = (0, false) := by unfold mIsPastOf; rw [if_neg (by rw [h]; simp)]
theorem mIPO_no2 {x y : List Int} (h : goodB y = false) : mIsPastOf x y = (0, false) := by unfold mIsPastOf; rw [if_neg (by rw [h]; simp)]
theorem mIPO_yes {x y : List Int} {k : Nat} (hx : goodB x = true) (hy : goodB y = true) (h1 : stepsL k x = y) (h2 : ∀ i, i < k → stepsL i x ≠ y) (hk : k < tailL x + perL (endL x)) : mIsPastOf x y = ((k : Int), true) := by
  unfold mIsPastOf
  rw [if_pos ⟨hx, hy⟩]
  have : (List.range (tailL x + perL (endL x))).find? (fun k => decide (stepsL k x = y)) = some k := by
    rw [List.find?_range_eq_some]
    exact ⟨by simpa using h1, by simpa using hk, fun j hj => by simpa using h2 j hj⟩
  rw [this]
theorem mIPO_none {x y : List Int} (hx : goodB x = true) (hy : goodB y = true) (h : ∀ k, k < tailL x + perL (endL x) → stepsL k x ≠ y) : mIsPastOf x y = (0, false) := by
  unfold mIsPastOf
  rw [if_pos ⟨hx, hy⟩]
  have : (List.range (tailL x + perL (endL x))).find? (fun k => decide (stepsL k x = y)) = none := by
    rw [List.find?_eq_none]
    intro k hk
    simpa using h k (List.mem_range.1 hk)
  rw [this]
end
end Go.Proofs.YthppkfhhidlpiaaGreat
namespace Go.Proofs.YthppkfhhidlpiaaGreat
section
open Go.RowKit
set_option linter.unusedVariables false
set_option linter.unusedSimpArgs false
set_option maxRecDepth 20000

theorem take_snocX {xs : List (List Int)} {k n : Nat} (hk : k < n) (hl : xs.length = n) : xs.take (k + 1) = xs.take k ++ [xs.getD k []] := take_snocR rfl hk hl
theorem getD_memR {xs : List (List Int)} {k n : Nat} (hk : k < n) (hl : xs.length = n) : xs.getD k [] ∈ xs := by
  subst hl
  rw [List.getD_eq_getElem?_getD, List.getElem?_eq_getElem hk]; exact List.getElem_mem _
theorem filter_snoc {α : Type} (p : α → Bool) (l : List α) (x : α) : (l ++ [x]).filter p = l.filter p ++ if p x then [x] else [] := by
  rw [List.filter_append]; cases h : p x <;> simp [h]
theorem gardB_nil : gardB [] = false := rfl
theorem gardB_eq {xs : List Int} {n : Nat} {x : Int} (hn : n ≠ 0) (hl : xs.length = n) (hx : xs.getD 0 0 = x) : gardB xs = decide (x < (n : Int) - 1) := by
  have hne : xs ≠ [] := fun e => hn (by rw [← hl, e]; rfl)
  unfold gardB
  rw [decide_eq_true hne, head_getD, hx, hl]; rfl

end
end Go.Proofs.YthppkfhhidlpiaaGreat
namespace Go.Proofs.YthppkfhhidlpiaaGreat
section
open Go.RowKit
set_option linter.unusedVariables false
set_option linter.unusedSimpArgs false
set_option maxRecDepth 20000

set_option maxHeartbeats 3200000 in
set_option maxRecDepth 100000 in
theorem piAddW_any (B E C D : Nat) (ao : Option Addr) (n cap : Nat) (vs : List Value) (xss : List (List Int)) (a2 : Option Addr) (m c : Nat) (ys : List Int) (w : World) (h : Sp B E C D w ao n cap vs xss)
    (hy : Own C D w a2 m c ys) (hn : n ≤ 1048576) :
    Calls Tryz.prog 74 #[.slice ao n cap, .slice a2 m c] w fun e w' => ∃ ao' n' cap', e = .returned (.slice ao' n' cap') ∧ (∃ vs', Sp w.heap.size w'.heap.size C D w' ao' n' cap' vs' (addL xss ys)) ∧ Below w.heap.size w w' := by
  have hn' : (n : Int) ≤ 1048576 := by omega
  have hl := Lib.hid h.length
  have hra := h.at
  have hya := hy.at
  go_enter Tryz.func74, Tryz.ntmps74
  go_wp2
  go_loopw [5] (fun i wr => ∃ k : Nat, k ≤ n ∧ i = .int .i64 k ∧ (∀ l ∈ xss.take k, befB l ys = true) ∧ Below w.heap.size w wr) (fun i _ => n - (intOf i).toNat)
  case atStart => exact ⟨0, Nat.zero_le _, rfl, by simp, Below.refl _ _⟩
  case round =>
    obtain ⟨k, hk, rfl, hall, hb⟩ := hrel
    by_cases hgo : k < n ∧ befB (xss.getD k []) ys = true
    · obtain ⟨hlt, hbef⟩ := hgo
      have hd1 : decide (k < n) = true := decide_eq_true hlt
      have hr1 := hra.keep hb
      obtain ⟨b, oo, rfl, hbl, hc⟩ := hr1.cell k hlt
      obtain ⟨a, p, q, hck, hi⟩ := hc k hlt
      clear hc hr1
      generalize hx : xss.getD k [] = x at hi hbef
      have hcon := piBefore_any a a2 p m q c x ys wr hi (hya.keep hb)
      rw [hbef] at hcon
      have Hall := Lib.hid hall; clear hall
      have Hx := Lib.hid hx; clear hx
      have Hbef := Lib.hid hbef; clear hbef
      have Hcon := Lib.hid hcon; clear hcon
      have Hd1 := Lib.hid hd1; clear hd1
      go_wp2_with fail
      with_reducible refine (Hcon.out).mono ?_
      rintro e w1 ⟨rfl, hb1⟩
      go_wp2
      go_roundw
      case rel =>
        refine ⟨k + 1, by omega, by go_num, fun z hz => ?_, belowTrans hb hb1 (Nat.le_refl _)⟩
        rw [take_snocR Hx.out hlt hl.out] at hz
        rcases List.mem_append.1 hz with h' | h'
        · exact Hall.out z h'
        · rw [List.mem_singleton.1 h']; exact Hbef.out
      case measure => simp [intOf]; omega
    · have hput : addL xss ys = xss.take k ++ ys :: xss.drop k := addL_at hall fun l hl' => by
        by_cases hlt : k < n
        · have hno : befB (xss.getD k []) ys = false := by
            cases hh : befB (xss.getD k []) ys
            · rfl
            · exact absurd ⟨hlt, hh⟩ hgo
          rw [List.head?_drop, List.getElem?_eq_getElem (by rw [hl.out]; exact hlt)] at hl'
          rw [List.getD_eq_getElem?_getD, List.getElem?_eq_getElem (by rw [hl.out]; exact hlt)] at hno
          simp only [Option.some.injEq] at hl'
          rw [← hl']; exact hno
        · rw [List.drop_of_length_le (by rw [hl.out]; omega)] at hl'
          cases hl'
      have hv1 := h.spine
      have hv2 := h.rows
      have hvl := hv1.length
      have hone := hv2.oneCell
      have hins : RowsW C D w (vs.take k ++ .slice a2 m c :: vs.drop k) (xss.take k ++ ys :: xss.drop k) := (hv2.take k).append ((RowsW.one hy).append (hv2.drop k))
      have hva := hv1.at
      obtain ⟨b2, hsl2, hi2⟩ := slUptoR w vs hva k hk .i64
      obtain ⟨b3, hsl3, hi3⟩ := slFromR w vs hva k hk .i64
      have hone1 : ∀ u ∈ vs.take k, u.oneCell' = true := fun u hu => hone u (List.mem_of_mem_take hu)
      have hone3 : ∀ u ∈ vs.drop k, u.oneCell' = true := fun u hu => hone u (List.mem_of_mem_drop hu)
      have fin : ∀ (a5 : Option Addr) (c5 : Nat) (w5 : World), OwnRow w.heap.size w5.heap.size w5 27 a5 (k + 1 + (n - k)) c5 (vs.take k ++ .slice a2 m c :: vs.drop k) → Below w.heap.size w w5 → (∃ vs', Sp w.heap.size w5.heap.size C D w5 a5 (k + 1 + (n - k)) c5 vs' (addL xss ys)) ∧ Below w.heap.size w w5 := by
        intro a5 c5 w5 h5 hb5
        refine ⟨⟨_, h5, ?_⟩, hb5⟩
        rw [hput]
        exact hins.keep hb5
      have Fin := Lib.hid fin
      clear fin hone hva
      have Hput := Lib.hid hput; clear hput
      have Hall := Lib.hid hall; clear hall
      have Hvl := Lib.hid hvl; clear hvl
      have Hins := Lib.hid hins; clear hins
      by_cases hlt : k < n
      · have hd1 : decide (k < n) = true := decide_eq_true hlt
        have hno : befB (xss.getD k []) ys = false := by
          cases hh : befB (xss.getD k []) ys
          · rfl
          · exact absurd ⟨hlt, hh⟩ hgo
        have hr1 := hra.keep hb
        obtain ⟨b, oo, rfl, hbl, hc⟩ := hr1.cell k hlt
        obtain ⟨a, p, q, hck, hi⟩ := hc k hlt
        clear hc hr1 hgo
        generalize hx : xss.getD k [] = x at hi hno
        have hcon := piBefore_any a a2 p m q c x ys wr hi (hya.keep hb)
        rw [hno] at hcon
        have Hx := Lib.hid hx; clear hx
        have Hno := Lib.hid hno; clear hno
        have Hcon := Lib.hid hcon; clear hcon
        go_wp2_with fail
        with_reducible refine (Hcon.out).mono ?_
        rintro e w0 ⟨rfl, hb0⟩
        have hbw := belowTrans hb hb0 (Nat.le_refl _)
        clear hb hb0
        have hoe : OwnRow w.heap.size (w0.heap.size + 1) (w0.alloc (.cells #[] 27)) 27 (some ⟨w0.heap.size, 0, none⟩) 0 0 [] := (OwnRow.empty w0).mono hbw.size (Nat.le_refl _)
        have hbe : Below w.heap.size w (w0.alloc (.cells #[] 27)) := hbw.alloc hbw.size _
        have hi2' := hi2.keep hbe
        go_wp2_with (at_builtin; refine wpList_catV _ rfl _ _ 35 rfl 27 _ 24 Tryz.underlying35 Tryz.infoInts rfl (by decide) w.heap.size _ _ 0 0 [] rfl hoe b2 k cap _ rfl hi2' hone1 (by omega) hbe.size ?_)
        intro a1 c1 w1 ho1 hc1
        have hb1 := hbe.trans (hoe.chgBelow hc1 hbe.size)
        try simp only [Nat.zero_add, List.nil_append] at ho1 ⊢
        clear hoe hbe hi2' hi2 hc1
        have ho1a : OwnRow w.heap.size w1.heap.size (w1.alloc (.cells #[.slice a2 m c] 27)).drew 27 a1 k c1 (vs.take k) := OwnRow.drew (ho1.keep (belowAlloc w1 _))
        have hb1a : Below w.heap.size w (w1.alloc (.cells #[.slice a2 m c] 27)).drew := belowDrewN (hb1.alloc hb1.size _) 1
        have hone2 : ValsAt (w1.alloc (.cells #[.slice a2 m c] 27)).drew (some ⟨w1.heap.size, 0, none⟩) 1 1 [.slice a2 m c] := ValsAt.drew (valsAt_one w1 _)
        go_wp2
        go_region_law (first | (refine step_catV _ rfl (.tmp 26) (.tmp 28) 35 rfl 27 _ 24 Tryz.underlying35 Tryz.infoInts rfl (by decide) w.heap.size w1.heap.size a1 k c1 (vs.take k) rfl ho1a (some ⟨w1.heap.size, 0, none⟩) 1 1 [.slice a2 m c] rfl hone2 (fun u hu => by rw [List.mem_singleton.1 hu]; rfl) (by omega) hb1a.size ?_; intro a4 c4 w4 ho4 hc4; have hb4 := hb1a.trans (ho1a.chgBelow hc4 hb1a.size)) | (refine step_catV w4 rfl (.tmp 29) (.tmp 32) 35 rfl 27 _ 24 Tryz.underlying35 Tryz.infoInts rfl (by decide) w.heap.size w4.heap.size a4 (k + 1) c4 _ rfl ho4 b3 (n - k) (cap - k) (vs.drop k) rfl (hi3.keep hb4) hone3 (by omega) hb4.size ?_; intro a5 c5 w5 ho5 hc5; have hb5 := hb4.trans (ho4.chgBelow hc5 hb4.size)))
        go_wp2
        go_ret
        have hfin := Fin.out a5 c5 w5 (by rw [List.append_assoc] at ho5; exact ho5) hb5
        exact ⟨_, _, _, rfl, hfin.1, hfin.2⟩
      · have hd1 : decide (k < n) = false := decide_eq_false hlt
        clear hgo
        have hoe : OwnRow w.heap.size (wr.heap.size + 1) (wr.alloc (.cells #[] 27)) 27 (some ⟨wr.heap.size, 0, none⟩) 0 0 [] := (OwnRow.empty wr).mono hb.size (Nat.le_refl _)
        have hbe : Below w.heap.size w (wr.alloc (.cells #[] 27)) := hb.alloc hb.size _
        have hi2' := hi2.keep hbe
        go_wp2_with (at_builtin; refine wpList_catV _ rfl _ _ 35 rfl 27 _ 24 Tryz.underlying35 Tryz.infoInts rfl (by decide) w.heap.size _ _ 0 0 [] rfl hoe b2 k cap _ rfl hi2' hone1 (by omega) hbe.size ?_)
        intro a1 c1 w1 ho1 hc1
        have hb1 := hbe.trans (hoe.chgBelow hc1 hbe.size)
        try simp only [Nat.zero_add, List.nil_append] at ho1 ⊢
        clear hoe hbe hi2' hi2 hc1
        have ho1a : OwnRow w.heap.size w1.heap.size (w1.alloc (.cells #[.slice a2 m c] 27)).drew 27 a1 k c1 (vs.take k) := OwnRow.drew (ho1.keep (belowAlloc w1 _))
        have hb1a : Below w.heap.size w (w1.alloc (.cells #[.slice a2 m c] 27)).drew := belowDrewN (hb1.alloc hb1.size _) 1
        have hone2 : ValsAt (w1.alloc (.cells #[.slice a2 m c] 27)).drew (some ⟨w1.heap.size, 0, none⟩) 1 1 [.slice a2 m c] := ValsAt.drew (valsAt_one w1 _)
        go_wp2
        go_region_law (first | (refine step_catV _ rfl (.tmp 26) (.tmp 28) 35 rfl 27 _ 24 Tryz.underlying35 Tryz.infoInts rfl (by decide) w.heap.size w1.heap.size a1 k c1 (vs.take k) rfl ho1a (some ⟨w1.heap.size, 0, none⟩) 1 1 [.slice a2 m c] rfl hone2 (fun u hu => by rw [List.mem_singleton.1 hu]; rfl) (by omega) hb1a.size ?_; intro a4 c4 w4 ho4 hc4; have hb4 := hb1a.trans (ho1a.chgBelow hc4 hb1a.size)) | (refine step_catV w4 rfl (.tmp 29) (.tmp 32) 35 rfl 27 _ 24 Tryz.underlying35 Tryz.infoInts rfl (by decide) w.heap.size w4.heap.size a4 (k + 1) c4 _ rfl ho4 b3 (n - k) (cap - k) (vs.drop k) rfl (hi3.keep hb4) hone3 (by omega) hb4.size ?_; intro a5 c5 w5 ho5 hc5; have hb5 := hb4.trans (ho4.chgBelow hc5 hb4.size)))
        go_wp2
        go_ret
        have hfin := Fin.out a5 c5 w5 (by rw [List.append_assoc] at ho5; exact ho5) hb5
        exact ⟨_, _, _, rfl, hfin.1, hfin.2⟩

theorem flatMap_snocX (f : List Int → List (List Int)) {A : List (List Int)} {q m : Nat} (hq : q < m) (hl : A.length = m) : (A.take (q + 1)).flatMap f = (A.take q).flatMap f ++ f (A.getD q []) := by
  rw [take_snocX hq hl, List.flatMap_append]; simp
theorem flatMap_take_le (f : List Int → List (List Int)) (A : List (List Int)) (q : Nat) : ((A.take q).flatMap f).length ≤ (A.flatMap f).length := by
  have := congrArg (fun l => (l.flatMap f).length) (List.take_append_drop q A)
  simp only [List.flatMap_append, List.length_append] at this
  omega

set_option maxHeartbeats 1600000 in
theorem paFree_any (ao : Option Addr) (n cap : Nat) (xs : List Int) (w : World) (h : IntsAt w ao n cap xs) (hg : Good xs) :
    Calls Tryz.prog 112 #[.slice ao n cap] w fun e w' => ∃ ao' m c, e = .returned (.slice ao' m c) ∧ (∃ vs, Sp w.heap.size w'.heap.size w.heap.size w'.heap.size w' ao' m c vs (loosePasts xs)) ∧ Below w.heap.size w w' := by
  have hcon := piPasts_any ao n cap xs w h hg
  have hG : ∀ x ∈ pastsL xs, Good x := fun x hx => ((mem_pastsG hg).1 hx).1
  have hle : (pastsL xs).length ≤ 29 := by have := pastsL_length xs; have := hg.len; omega
  unfold loosePasts
  generalize pastsL xs = A at *
  have Hcon := Lib.hid hcon; clear hcon
  have HG := Lib.hid hG; clear hG
  go_enter Tryz.func112, Tryz.ntmps112
  go_wp2_with fail
  with_reducible refine (Hcon.out).mono ?_
  rintro e w1 ⟨a1, n1, c1, rfl, ho1, hb1⟩
  have hn1 := ho1.length
  have hs1 := hb1.size
  obtain ⟨avs, hsp, _⟩ := ho1.sp
  have hn8 : n1 ≤ 3718 := by omega
  clear ho1
  have Hn1 := Lib.hid hn1; clear hn1
  go_wp2_with fail
  go_loopw [3, 9] (fun v i wr => ∃ (j : Nat) (a : Option Addr) (p c : Nat) (vs : List Value), j ≤ n1 ∧ p ≤ j ∧ i = .int .i64 j ∧ v = .slice a p c ∧ Sp w1.heap.size wr.heap.size w.heap.size w1.heap.size wr a p c vs ((A.take j).filter fun p => !cycB p) ∧ Below w1.heap.size w1 wr) (fun _ i _ => n1 - (intOf i).toNat)
  case atStart => exact ⟨0, none, 0, 0, [], Nat.zero_le _, Nat.le_refl _, rfl, rfl, Sp.nil _ _ _ _ _, Below.refl _ _⟩
  case round =>
    obtain ⟨j, a, p, c, vs, hj, hp, rfl, rfl, hv, hb⟩ := hrel
    by_cases hlt : j < n1
    · obtain ⟨b, oo, a3, m3, c3, rfl, hbl, hck, _, hrow⟩ := (hsp.keep hb).getRow hlt
      have hg3 := HG.out _ (getD_memR hlt Hn1.out)
      have e := filter_snoc (fun p => !cycB p) (A.take j) (A.getD j [])
      rw [← take_snocX hlt Hn1.out] at e
      generalize A.getD j [] = x at *
      have hcon := orCyclic_any a3 m3 c3 x wr hrow.at hg3
      cases hgb : cycB x
      · rw [hgb] at hcon
        simp only [hgb, if_true, Bool.false_eq_true, if_false, List.append_nil, Bool.not_true, Bool.not_false] at e
        have Hcon := Lib.hid hcon; clear hcon
        have E := Lib.hid e; clear e
        have Hg3 := Lib.hid hg3; clear hg3
        have Hgb := Lib.hid hgb; clear hgb
        go_wp2_with fail
        with_reducible refine (Hcon.out).mono ?_
        rintro e w2 ⟨rfl, rfl⟩
        go_wp2_with (at_builtin; refine wpList_pushSp wr rfl _ _ rfl w1.heap.size wr.heap.size w.heap.size w1.heap.size a p c vs _ rfl hv a3 m3 c3 x hrow rfl (by omega) hb.size ?_)
        intro a4 c4 w4 hv4 hc4 _
        have hb4 := hb.trans (hv.below hc4 hb.size)
        clear hv hc4
        go_wp2
        go_roundw
        case rel => exact ⟨j + 1, a4, p + 1, c4, _, by omega, by omega, by go_num, rfl, by rw [E.out]; exact hv4, hb4⟩
        case measure => simp [intOf]; omega
      · rw [hgb] at hcon
        simp only [hgb, if_true, Bool.false_eq_true, if_false, List.append_nil, Bool.not_true, Bool.not_false] at e
        have Hcon := Lib.hid hcon; clear hcon
        have E := Lib.hid e; clear e
        have Hg3 := Lib.hid hg3; clear hg3
        have Hgb := Lib.hid hgb; clear hgb
        go_wp2_with fail
        with_reducible refine (Hcon.out).mono ?_
        rintro e w2 ⟨rfl, rfl⟩
        go_wp2
        go_roundw
        case rel => exact ⟨j + 1, a, p, c, vs, by omega, by omega, by go_num, rfl, by rw [E.out]; simpa using hv, hb⟩
        case measure => simp [intOf]; omega
    · obtain rfl : n1 = j := by omega
      rw [take_allR Hn1.out] at hv
      have hs := hb.size
      go_wp2
      go_ret
      exact ⟨_, _, _, rfl, ⟨_, hv.mono (by omega) (by omega) (by omega) (by omega)⟩, belowTrans hb1 hb (Nat.le_refl _)⟩

end
end Go.Proofs.YthppkfhhidlpiaaGreat
namespace Go.Proofs.YthppkfhhidlpiaaGreat
section
open Go.RowKit
set_option linter.unusedVariables false
set_option linter.unusedSimpArgs false
set_option maxRecDepth 20000

theorem Tryz.infoLists : (Tryz.prog.info? 35).map (fun i => (i.zero, i.size, i.bytes)) = some (some (.slice none 0 0), 1, 24) := by kernel_rfl
/-! ### Levels: each a spine with rows behind it -/
structure LvW (B E : Nat) (w : World) (lvs : List Value) (lss : List (List (List Int))) : Prop where
  length : lvs.length = lss.length
  lev : ∀ i, i < lss.length → ∃ a m c vs, lvs.getD i undef = .slice a m c ∧ Sp B E B E w a m c vs (lss.getD i [])
theorem LvW.mono {B B' E E' w lvs lss} (h : LvW B E w lvs lss) (hB : B' ≤ B) (hE : E ≤ E') : LvW B' E' w lvs lss :=
  ⟨h.length, fun i hi => by obtain ⟨a, m, c, vs, e, hs⟩ := h.lev i hi; exact ⟨a, m, c, vs, e, hs.mono hB hE hB hE⟩⟩
theorem LvW.keep {B E w w' lvs lss} (h : LvW B E w lvs lss) (hb : Below w.heap.size w w') : LvW B E w' lvs lss :=
  ⟨h.length, fun i hi => by obtain ⟨a, m, c, vs, e, hs⟩ := h.lev i hi; exact ⟨a, m, c, vs, e, hs.keep hb⟩⟩
theorem LvW.nil (B E : Nat) (w : World) : LvW B E w [] [] := ⟨rfl, fun i hi => absurd hi (Nat.not_lt_zero _)⟩
theorem LvW.snoc {B E w lvs lss a m c vs l} (h : LvW B E w lvs lss) (k : Sp B E B E w a m c vs l) : LvW B E w (lvs ++ [.slice a m c]) (lss ++ [l]) := by
  refine ⟨by simp [h.length], fun i hi => ?_⟩
  rw [List.length_append, List.length_singleton] at hi
  by_cases hlt : i < lss.length
  · obtain ⟨a', m', c', vs', e, hs⟩ := h.lev i hlt
    refine ⟨a', m', c', vs', ?_, ?_⟩
    · rw [List.getD_eq_getElem?_getD, List.getElem?_append_left (by rw [h.length]; exact hlt), ← List.getD_eq_getElem?_getD]; exact e
    · rw [List.getD_eq_getElem?_getD, List.getElem?_append_left hlt, ← List.getD_eq_getElem?_getD]; exact hs
  · obtain rfl : i = lss.length := by omega
    refine ⟨a, m, c, vs, ?_, ?_⟩
    · rw [List.getD_eq_getElem?_getD, List.getElem?_append_right (by rw [h.length]; exact Nat.le_refl _), h.length, Nat.sub_self]; rfl
    · rw [List.getD_eq_getElem?_getD, List.getElem?_append_right (Nat.le_refl _), Nat.sub_self]; exact k
theorem Sp.chgL {B E C D w w' ao n cap vs xss B' E' ao' n' cap' us} (h : Sp B E C D w ao n cap vs xss) (k : OwnRow B' E' w 35 ao' n' cap' us) (hc : Chg (fun q => (Value.slice ao' n' cap').ownBlock = some q) w w') : Sp B E C D w' ao n cap vs xss :=
  ⟨OwnRow.chg h.spine hc fun g _ _ hg hs => OwnRow.apart_ty h.spine k (by decide) hg hs, ⟨h.rows.length, fun i hi => by
    obtain ⟨a, m, c, e, ho⟩ := h.rows.row i hi
    exact ⟨a, m, c, e, ho.chg hc fun g _ _ hg hs => OwnRow.apart_ty ho k (by decide) hg hs⟩⟩⟩
theorem LvW.chgL {B E w w' lvs lss B' E' ao n cap us} (h : LvW B E w lvs lss) (k : OwnRow B' E' w 35 ao n cap us) (hc : Chg (fun q => (Value.slice ao n cap).ownBlock = some q) w w') : LvW B E w' lvs lss :=
  ⟨h.length, fun i hi => by obtain ⟨a, m, c, vs, e, hs⟩ := h.lev i hi; exact ⟨a, m, c, vs, e, hs.chgL k hc⟩⟩
/-- a level at a place -/
theorem lvRow {B E B' E' : Nat} {w : World} {ao : Option Addr} {n cap : Nat} {lvs : List Value} {lss : List (List (List Int))} (h : OwnRow B E w 35 ao n cap lvs) (k : LvW B' E' w lvs lss) {i : Nat} (hi : i < n) :
    ∃ b o a m c vs, ao = some ⟨b, o, none⟩ ∧ b < w.heap.size ∧ w.cell? ⟨b, o + i, none⟩ = some (.slice a m c) ∧ Sp B' E' B' E' w a m c vs (lss.getD i []) := by
  obtain ⟨b, o, e, hlt, hc⟩ := h.at.cell i hi
  obtain ⟨a, m, c, vs, e2, hs⟩ := k.lev i (by rw [← k.length, h.length]; exact hi)
  exact ⟨b, o, a, m, c, vs, e, hlt, by rw [hc i hi, e2], hs⟩

set_option maxHeartbeats 3200000 in
theorem paLevels_any (ao : Option Addr) (n cap : Nat) (xs : List Int) (w : World) (h : IntsAt w ao n cap xs) (hg : Good xs) :
    Calls Tryz.prog 73 #[.slice ao n cap] w fun e w' => ∃ a c, e = .returned (.slice a (depN xs) c) ∧ (∃ lvs, OwnRow w.heap.size w'.heap.size w' 35 a (depN xs) c lvs ∧ LvW w.heap.size w'.heap.size w' lvs (plevs xs (depN xs))) ∧ Below w.heap.size w w' := by
  have hlen := hg.len
  have hl0 := h.length
  have hcon := l1Own_any ao n cap xs w h (by omega)
  have Hg := Lib.hid hg; clear hg
  have Hl0 := Lib.hid hl0; clear hl0
  have Hcon := Lib.hid hcon; clear hcon
  go_enter Tryz.func73, Tryz.ntmps73
  go_wp2_with fail
  with_reducible refine (Hcon.out).mono ?_
  rintro e w1 ⟨a1, c1, rfl, ho1, hb1⟩
  have h1 := OwnRows.one ho1 w.heap.size (Nat.le_refl _) hb1.size (by omega)
  obtain ⟨vs1, hs1, _⟩ := h1.sp
  have hba := hb1.alloc hb1.size (.cells #[.slice a1 n c1] 27)
  have hs1' : Sp w.heap.size (w1.alloc (.cells #[.slice a1 n c1] 27)).heap.size w.heap.size (w1.alloc (.cells #[.slice a1 n c1] 27)).heap.size (w1.alloc (.cells #[.slice a1 n c1] 27)) (some ⟨w1.heap.size, 0, none⟩) 1 1 vs1 (plL xs 0) := hs1.mono (Nat.le_refl _) (by simp) (Nat.le_refl _) (by simp)
  clear h1 hs1 ho1 hb1
  go_wp2_with fail
  go_loopw [3, 4] (fun v o wr => ∃ (t : Nat) (a : Option Addr) (m c : Nat) (vs : List Value) (a2 : Option Addr) (c2 : Nat) (lvs : List Value), v = .slice a m c ∧ o = .slice a2 t c2 ∧ t ≤ 3719 ∧ (∀ u, u < t → levL [xs] u ≠ []) ∧ Sp w.heap.size wr.heap.size w.heap.size wr.heap.size wr a m c vs (plL xs t) ∧ OwnRow w.heap.size wr.heap.size wr 35 a2 t c2 lvs ∧ LvW w.heap.size wr.heap.size wr lvs (plevs xs t) ∧ Below w.heap.size w wr) (fun _ o _ => match o with | .slice _ t _ => 4000 - t | _ => 0)
  case atStart => exact ⟨0, _, _, _, _, none, 0, [], rfl, rfl, Nat.zero_le _, fun u hu => absurd hu (Nat.not_lt_zero _), hs1', OwnRow.nil _ _ _ _, LvW.nil _ _ _, hba⟩
  case round =>
    obtain ⟨t, a, m, c, vs, a2, c2, lvs, rfl, rfl, ht, hne, hv, hov, hlv, hb⟩ := hrel
    clear hs1' hba
    have hm := hv.length
    by_cases hlt : m = 0
    · subst hlt
      have hnil := (plL_nil xs t).1 (List.eq_nil_of_length_eq_zero hm)
      have hN := depN_unique Hg.out hnil hne
      subst hN
      have Hnil := Lib.hid hnil; clear hnil
      have Hm := Lib.hid hm; clear hm
      have Hne := Lib.hid hne; clear hne
      go_wp2
      go_ret
      exact ⟨_, _, rfl, ⟨_, hov, hlv⟩, hb⟩
    · have hne2 : ∀ u, u < t + 1 → levL [xs] u ≠ [] := fun u hu => by
        by_cases hut : u = t
        · subst hut; intro e; exact hlt (by rw [← hm, (plL_nil xs u).2 e]; rfl)
        · exact hne u (by omega)
      have ht2 : t + 1 ≤ 3719 := by
        have h1 := (depN_spec Hg.out).2
        rcases Nat.lt_or_ge (depN xs) (t + 1) with h2 | h2
        · exact absurd h1.2.1 (hne2 _ h2)
        · omega
      have hle := plL_le Hg.out t
      have hle2 := plL_le Hg.out (t + 1)
      have e : plL xs (t + 1) = srt ((plL xs t).flatMap loosePasts) := rfl
      have e2 := plevs_succ xs t
      have hGa : ∀ x ∈ plL xs t, Good x := fun x hx => plL_good Hg.out hx
      rw [e, srt_length] at hle2
      have hm8 : m ≤ 3718 := by omega
      have hmpos : (0 : Int) < m := by omega
      generalize plL xs t = A at *
      have E := Lib.hid e; clear e
      have E2 := Lib.hid e2; clear e2
      have Hm := Lib.hid hm; clear hm
      have HGa := Lib.hid hGa; clear hGa
      have Hne := Lib.hid hne; clear hne
      have Hne2 := Lib.hid hne2; clear hne2
      have hsz := hb.size
      go_wp2_with (at_builtin; refine wpList_pushVX wr rfl _ _ 56 rfl 35 _ 24 Tryz.underlying56 Tryz.infoLists rfl (by decide) w.heap.size wr.heap.size a2 t c2 lvs rfl hov _ rfl rfl (by omega) hb.size ?_)
      intro a6 c6 wo hov6 hc6 _
      have hs6 := hc6.size
      have hlv6 : LvW w.heap.size wo.heap.size wo (lvs ++ [.slice a m c]) (plevs xs t ++ [A]) := ((hlv.snoc hv).chgL hov hc6).mono (Nat.le_refl _) hs6
      have hv6 := (hv.chgL hov hc6).mono (Nat.le_refl _) hs6 (Nat.le_refl _) hs6
      have hb6 := hb.trans (hov.chgBelow hc6 hb.size)
      rw [← E2.out] at hlv6
      clear hov hlv hv hb hc6
      have hwosz := hb6.size
      go_wp2
      go_loopw [5, 22] (fun v i wr => ∃ (q : Nat) (a' : Option Addr) (p c' : Nat) (us : List Value), q ≤ m ∧ i = .int .i64 q ∧ v = .slice a' p c' ∧ Sp w.heap.size wr.heap.size w.heap.size wr.heap.size wr a' p c' us (srt ((A.take q).flatMap loosePasts)) ∧ Below wo.heap.size wo wr) (fun _ i _ => m - (intOf i).toNat)
      case atStart => exact ⟨0, none, 0, 0, [], Nat.zero_le _, rfl, rfl, Sp.nil _ _ _ _ _, Below.refl _ _⟩
      case round =>
        obtain ⟨q, a', p, c', us, hq, rfl, rfl, hu, hb2⟩ := hrel
        by_cases hlt2 : q < m
        · obtain ⟨b, oo, a3, m3, c3, rfl, hbl, hck, _, hrow⟩ := (hv6.keep hb2).getRow hlt2
          have hg3 := HGa.out _ (getD_memR hlt2 Hm.out)
          have e3 := flatMap_snocX loosePasts hlt2 Hm.out
          have hle3 := flatMap_take_le loosePasts A (q + 1)
          rw [e3, List.length_append] at hle3
          generalize A.getD q [] = x at *
          have hcon := paFree_any a3 m3 c3 x wr hrow.at hg3
          generalize hP : loosePasts x = P at *
          generalize hL : (A.take q).flatMap loosePasts = L at *
          have Hcon := Lib.hid hcon; clear hcon
          have E3 := Lib.hid e3; clear e3
          have Hg3 := Lib.hid hg3; clear hg3
          have HP := Lib.hid hP; clear hP
          have HL := Lib.hid hL; clear hL
          clear hrow
          go_wp2_with fail
          with_reducible refine (Hcon.out).mono ?_
          rintro e wi ⟨a4, n4, c4, rfl, ⟨ps, hps⟩, hb4⟩
          have hn4 := hps.length
          have hu2 := (hu.keep hb4).mono (Nat.le_refl _) hb4.size (Nat.le_refl _) hb4.size
          have hwr := hb2.size
          have hwi := hb4.size
          have hb24 := belowTrans hb2 hb4 (Nat.le_refl _)
          clear hu hb2 hb4
          have Hn4 := Lib.hid hn4; clear hn4
          have hn48 : n4 ≤ 3718 := by have := Hn4.out; omega
          go_wp2_with fail
          go_loopw [5, 29] (fun v i wx => ∃ (r : Nat) (a5 : Option Addr) (p5 c5 : Nat) (us5 : List Value), r ≤ n4 ∧ i = .int .i64 r ∧ v = .slice a5 p5 c5 ∧ Sp w.heap.size wx.heap.size w.heap.size wx.heap.size wx a5 p5 c5 us5 (srt (L ++ P.take r)) ∧ Below wi.heap.size wi wx) (fun _ i _ => n4 - (intOf i).toNat)
          case atStart => exact ⟨0, a', p, c', us, Nat.zero_le _, rfl, rfl, by simpa using hu2, Below.refl _ _⟩
          case round =>
            obtain ⟨r, a5, p5, c5, us5, hr, rfl, rfl, h5, hb5⟩ := hrel
            clear hu2
            by_cases hlt3 : r < n4
            · obtain ⟨b6, o6, a6, m6, c6, rfl, hbl6, hck6, _, hrow6⟩ := (hps.keep hb5).getRow hlt3
              have e6 := srt_snoc (L ++ P.take r) (P.getD r [])
              rw [List.append_assoc, ← take_snocX hlt3 Hn4.out] at e6
              have hl5 := h5.length
              rw [srt_length, List.length_append, List.length_take] at hl5
              have hs5 := hb5.size
              have hp5 : p5 ≤ 1048576 := by have := Hn4.out; omega
              generalize P.getD r [] = y at *
              generalize srt (L ++ P.take r) = Z at *
              have hcon := piAddW_any _ _ _ _ _ _ _ _ _ a6 m6 c6 y _ h5 (hrow6.mono (by omega) (by omega)) hp5
              have Hcon := Lib.hid hcon; clear hcon
              have E6 := Lib.hid e6; clear e6
              have Hl5 := Lib.hid hl5; clear hl5
              go_wp2_with fail
              with_reducible refine (Hcon.out).mono ?_
              rintro e w7 ⟨a7, n7, c7, rfl, ⟨vs7, ho7⟩, hb7⟩
              have hs7 := hb7.size
              have h7 := ho7.mono (show w.heap.size ≤ _ by omega) (Nat.le_refl _) (Nat.le_refl _) hs7
              have hb57 := belowTrans hb5 hb7 (Nat.le_refl _)
              clear ho7 h5 hb5 hb7 hrow6
              go_wp2
              go_roundw
              case rel => exact ⟨r + 1, a7, n7, c7, vs7, by omega, by go_num, rfl, by rw [E6.out]; exact h7, hb57⟩
              case measure => simp [intOf]; omega
            · obtain rfl : n4 = r := by omega
              rw [take_allR Hn4.out, ← E3.out] at h5
              go_wp2
              go_roundw
              case rel => exact ⟨q + 1, a5, p5, c5, us5, by omega, by go_num, rfl, h5, belowTrans hb24 hb5 (Nat.le_refl _)⟩
              case measure => simp [intOf]; omega
        · obtain rfl : m = q := by omega
          rw [take_allR Hm.out, ← E.out] at hu
          have hs2 := hb2.size
          go_wp2
          go_roundw
          case rel => exact ⟨t + 1, a', p, c', us, a6, c6, _, rfl, rfl, ht2, Hne2.out, hu, (hov6.keep hb2).mono (Nat.le_refl _) hs2, (hlv6.keep hb2).mono (Nat.le_refl _) hs2, belowTrans hb6 hb2 (Nat.le_refl _)⟩
          case measure => simp; omega
theorem levs_take_len (A : List (List (List Int))) (q : Nat) : ((A.take q).flatten).length ≤ A.flatten.length := by
  have := congrArg (fun l => l.flatten.length) (List.take_append_drop q A)
  simp only [List.flatten_append, List.length_append] at this
  omega
theorem take_snocL {xs : List (List (List Int))} {k n : Nat} (hk : k < n) (hl : xs.length = n) : xs.take (k + 1) = xs.take k ++ [xs.getD k []] := by
  subst hl
  rw [List.take_add_one, List.getElem?_eq_getElem hk, List.getD_eq_getElem?_getD, List.getElem?_eq_getElem hk]; rfl

set_option maxHeartbeats 3200000 in
theorem spec_TreeOf (ao : Option Addr) (n cap : Nat) (xs : List Int) (w : World) (h : IntsAt w ao n cap xs) :
    Calls Tryz.prog 31 #[.slice ao n cap] w fun e w' => ∃ ao' n' cap', e = .returned (.tuple #[.slice ao' n' cap', .bool (mTreeOf xs).2]) ∧ RowsR w.heap.size w'.heap.size w' ao' n' cap' (mTreeOf xs).1 ∧ Below w.heap.size w w' := by
  cases hg : goodB xs
  · have hm := mTree_no hg
    have Hg := Lib.hid hg; clear hg
    have Hm := Lib.hid hm; clear hm
    go_enter Tryz.func31, Tryz.ntmps31
    go_wp2_with fail
    with_reducible refine (piGood_no _ _ _ _ _ h Hg.out).mono ?_
    rintro e w' ⟨rfl, rfl⟩
    go_wp2
    go_ret2
    rw [Hm.out]
    exact ⟨none, 0, 0, rfl, RowsR.nil _ _ _, Below.refl _ _⟩
  · have hG := good_iff.1 hg
    have hm := mTree_yes hg
    rw [treeL_plevs] at hm
    have hcon := paLevels_any ao n cap xs w h hG
    have hle := plevs_len hG (depN xs)
    have hpl := plevs_length xs (depN xs)
    have hN := (depN_spec hG).2.1
    generalize hA : plevs xs (depN xs) = A at *
    generalize depN xs = N at *
    have Hg := Lib.hid hg; clear hg
    have Hm := Lib.hid hm; clear hm
    have HG := Lib.hid hG; clear hG
    have Hcon := Lib.hid hcon; clear hcon
    have Hpl := Lib.hid hpl; clear hpl
    have HA := Lib.hid hA; clear hA
    go_enter Tryz.func31, Tryz.ntmps31
    go_wp2_with fail
    with_reducible refine (piGood_yes _ _ _ _ _ h HG.out).mono ?_
    rintro e w' ⟨rfl, rfl⟩
    go_wp2_with fail
    with_reducible refine (Hcon.out).mono ?_
    rintro e w1 ⟨a1, c1, rfl, ⟨lvs, hov, hlv⟩, hb1⟩
    have hsz1 := hb1.size
    go_wp2_with fail
    go_loopw [4, 15] (fun v i wr => ∃ (t : Nat) (a : Option Addr) (p c : Nat) (vs : List Value), t ≤ N ∧ i = .int .i64 t ∧ v = .slice a p c ∧ Sp w.heap.size wr.heap.size w.heap.size wr.heap.size wr a p c vs (srt (A.take t).flatten) ∧ Below w1.heap.size w1 wr) (fun _ i _ => N - (intOf i).toNat)
    case atStart => exact ⟨0, none, 0, 0, [], Nat.zero_le _, rfl, rfl, Sp.nil _ _ _ _ _, Below.refl _ _⟩
    case round =>
      obtain ⟨t, a, p, c, vs, ht, rfl, rfl, hv, hb⟩ := hrel
      by_cases hlt : t < N
      · obtain ⟨b, oo, a3, m3, c3, ps, rfl, hbl, hck, hps⟩ := lvRow (hov.keep hb) (hlv.keep hb) hlt
        have e3 : (A.take (t + 1)).flatten = (A.take t).flatten ++ A.getD t [] := by rw [take_snocL hlt Hpl.out, List.flatten_append]; simp
        have hle3 := levs_take_len A (t + 1)
        rw [e3, List.length_append] at hle3
        have hn4 := hps.length
        generalize A.getD t [] = P at *
        generalize hL : (A.take t).flatten = L at *
        have hn48 : m3 ≤ 3718 := by omega
        have E3 := Lib.hid e3; clear e3
        have Hn4 := Lib.hid hn4; clear hn4
        have HL := Lib.hid hL; clear hL
        obtain ⟨wi, hwi⟩ : ∃ wi : World, wi = wr := ⟨_, rfl⟩
        subst hwi
        have hwisz := hb.size
        go_wp2_with fail
        go_loopw [4, 21] (fun v i wx => ∃ (r : Nat) (a5 : Option Addr) (p5 c5 : Nat) (us5 : List Value), r ≤ m3 ∧ i = .int .i64 r ∧ v = .slice a5 p5 c5 ∧ Sp w.heap.size wx.heap.size w.heap.size wx.heap.size wx a5 p5 c5 us5 (srt (L ++ P.take r)) ∧ Below wi.heap.size wi wx) (fun _ i _ => m3 - (intOf i).toNat)
        case atStart => exact ⟨0, a, p, c, vs, Nat.zero_le _, rfl, rfl, by simpa using hv, Below.refl _ _⟩
        case round =>
          obtain ⟨r, a5, p5, c5, us5, hr, rfl, rfl, h5, hb5⟩ := hrel
          clear hv
          by_cases hlt3 : r < m3
          · obtain ⟨b6, o6, a6, m6, c6, rfl, hbl6, hck6, _, hrow6⟩ := (hps.keep hb5).getRow hlt3
            have e6 := srt_snoc (L ++ P.take r) (P.getD r [])
            rw [List.append_assoc, ← take_snocX hlt3 Hn4.out] at e6
            have hl5 := h5.length
            rw [srt_length, List.length_append, List.length_take] at hl5
            have hs5 := hb5.size
            have hp5 : p5 ≤ 1048576 := by have := Hn4.out; omega
            generalize P.getD r [] = y at *
            generalize srt (L ++ P.take r) = Z at *
            have hcon := piAddW_any _ _ _ _ _ _ _ _ _ a6 m6 c6 y _ h5 (hrow6.mono (by omega) (by omega)) hp5
            have Hcon := Lib.hid hcon; clear hcon
            have E6 := Lib.hid e6; clear e6
            have Hl5 := Lib.hid hl5; clear hl5
            go_wp2_with fail
            with_reducible refine (Hcon.out).mono ?_
            rintro e w7 ⟨a7, n7, c7, rfl, ⟨vs7, ho7⟩, hb7⟩
            have hs7 := hb7.size
            have h7 := ho7.mono (show w.heap.size ≤ _ by omega) (Nat.le_refl _) (Nat.le_refl _) hs7
            have hb57 := belowTrans hb5 hb7 (Nat.le_refl _)
            clear ho7 h5 hb5 hb7 hrow6
            go_wp2
            go_roundw
            case rel => exact ⟨r + 1, a7, n7, c7, vs7, by omega, by go_num, rfl, by rw [E6.out]; exact h7, hb57⟩
            case measure => simp [intOf]; omega
          · obtain rfl : m3 = r := by omega
            rw [take_allR Hn4.out, ← E3.out] at h5
            go_wp2
            go_roundw
            case rel => exact ⟨t + 1, a5, p5, c5, us5, by omega, by go_num, rfl, h5, belowTrans hb hb5 (Nat.le_refl _)⟩
            case measure => simp [intOf]; omega
      · obtain rfl : N = t := by omega
        have e : A.take N = A := List.take_of_length_le (by rw [Hpl.out]; exact Nat.le_refl _)
        rw [e] at hv
        go_wp2
        go_ret2
        rw [Hm.out]
        exact ⟨_, _, _, rfl, hv.toR (Nat.le_refl _) (Nat.le_refl _) (Nat.le_refl _) (Nat.le_refl _), belowTrans hb1 hb (Nat.le_refl _)⟩

theorem spec_DepthOf (ao : Option Addr) (n cap : Nat) (xs : List Int) (w : World) (h : IntsAt w ao n cap xs) :
    Calls Tryz.prog 33 #[.slice ao n cap] w fun e w' => e = .returned (.tuple #[.int .i64 (mDepthOf xs).1, .bool (mDepthOf xs).2]) ∧ Below w.heap.size w w' := by
  cases hg : goodB xs
  · have hm := mDep_no hg
    have Hg := Lib.hid hg; clear hg
    have Hm := Lib.hid hm; clear hm
    go_enter Tryz.func33, Tryz.ntmps33
    go_wp2_with fail
    with_reducible refine (piGood_no _ _ _ _ _ h Hg.out).mono ?_
    rintro e w' ⟨rfl, rfl⟩
    go_wp2
    go_ret2
    rw [Hm.out]
    exact ⟨rfl, Below.refl _ _⟩
  · have hG := good_iff.1 hg
    have hm := mDep_yes hg
    have hcon := paLevels_any ao n cap xs w h hG
    have hN := (depN_spec hG).2.1
    generalize plevs xs (depN xs) = A at *
    generalize depN xs = N at *
    have Hg := Lib.hid hg; clear hg
    have Hm := Lib.hid hm; clear hm
    have HG := Lib.hid hG; clear hG
    have Hcon := Lib.hid hcon; clear hcon
    go_enter Tryz.func33, Tryz.ntmps33
    go_wp2_with fail
    with_reducible refine (piGood_yes _ _ _ _ _ h HG.out).mono ?_
    rintro e w' ⟨rfl, rfl⟩
    go_wp2_with fail
    with_reducible refine (Hcon.out).mono ?_
    rintro e w1 ⟨a1, c1, rfl, ⟨lvs, hov, hlv⟩, hb1⟩
    go_wp2
    go_ret2
    rw [Hm.out]
    exact ⟨rfl, hb1⟩
theorem headD_getD (A : List (List Int)) : A.headD [] = A.getD 0 [] := by cases A <;> rfl
set_option maxHeartbeats 1600000 in
theorem spec_FarthestPast (ao : Option Addr) (n cap : Nat) (xs : List Int) (w : World) (h : IntsAt w ao n cap xs) :
    Calls Tryz.prog 35 #[.slice ao n cap] w fun e w' => ∃ ao' n' cap', e = .returned (.tuple #[.slice ao' n' cap', .bool (mFarthestPast xs).2]) ∧ Own w.heap.size w'.heap.size w' ao' n' cap' (mFarthestPast xs).1 ∧ Below w.heap.size w w' := by
  cases hg : goodB xs
  · have hm := mFarP_no hg
    have Hg := Lib.hid hg; clear hg
    have Hm := Lib.hid hm; clear hm
    go_enter Tryz.func35, Tryz.ntmps35
    go_wp2_with fail
    with_reducible refine (piGood_no _ _ _ _ _ h Hg.out).mono ?_
    rintro e w' ⟨rfl, rfl⟩
    go_wp2
    go_ret2
    rw [Hm.out]
    exact ⟨none, 0, 0, rfl, Own.nil _ _ _, Below.refl _ _⟩
  · have hG := good_iff.1 hg
    have hm := mFarP_yes hg
    have hcon := paLevels_any ao n cap xs w h hG
    have hN := (depN_spec hG).2.1
    have hN1 := (depN_spec hG).1
    have hfm := far_mem hG
    have hA : (plevs xs (depN xs)).getD (depN xs - 1) [] = plL xs (depN xs - 1) := by
      unfold plevs
      rw [List.getD_eq_getElem?_getD, List.getElem?_map, List.getElem?_range (by omega)]; rfl
    have hfar : farL xs = (plL xs (depN xs - 1)).getD 0 [] := by unfold farL; exact headD_getD _
    rw [hfar] at hm
    rw [← hA] at hm hfm
    generalize plevs xs (depN xs) = A at *
    generalize depN xs = N at *
    have Hg := Lib.hid hg; clear hg
    have Hm := Lib.hid hm; clear hm
    have HG := Lib.hid hG; clear hG
    have Hcon := Lib.hid hcon; clear hcon
    have HA := Lib.hid hA; clear hA
    have Hfar := Lib.hid hfar; clear hfar
    have Hfm := Lib.hid hfm; clear hfm
    go_enter Tryz.func35, Tryz.ntmps35
    go_wp2_with fail
    with_reducible refine (piGood_yes _ _ _ _ _ h HG.out).mono ?_
    rintro e w' ⟨rfl, rfl⟩
    go_wp2_with fail
    with_reducible refine (Hcon.out).mono ?_
    rintro e w1 ⟨a1, c1, rfl, ⟨lvs, hov, hlv⟩, hb1⟩
    obtain ⟨b, oo, a3, m3, c3, ps, rfl, hbl, hck, hps⟩ := lvRow hov hlv (show N - 1 < N by omega)
    have hm3 : 0 < m3 := by
      have h1 := hps.length
      rcases Nat.eq_zero_or_pos m3 with h0 | h0
      · rw [h0] at h1; exact absurd (List.eq_nil_of_length_eq_zero h1) Hfm.out.2
      · exact h0
    obtain ⟨b6, o6, a6, m6, c6, rfl, hbl6, hck6, _, hrow6⟩ := hps.getRow hm3
    rw [Nat.add_zero] at hck6
    have eN : ((N - 1 : Nat) : Int) = (N : Int) - 1 := by omega
    go_wp2
    go_ret2
    rw [Hm.out]
    exact ⟨_, _, _, rfl, hrow6, hb1⟩
end
end Go.Proofs.YthppkfhhidlpiaaGreat
namespace Go.Proofs.YthppkfhhidlpiaaGreat
section
open Go.RowKit
set_option linter.unusedVariables false
set_option linter.unusedSimpArgs false
set_option maxRecDepth 20000

theorem headD_getD' (A : List (List Int)) : A.headD [] = A.getD 0 [] := by cases A <;> rfl
/-! ### Tables -/
set_option maxHeartbeats 1600000 in
theorem paCount_any (ao : Option Addr) (n cap : Nat) (xs : List Int) (k : Nat) (w : World) (h : IntsAt w ao n cap xs) (hn : n ≤ 4000) (hk : k ≤ 4000) (hx : ∀ i, 0 ≤ xs.getD i 0 ∧ xs.getD i 0 ≤ 4000) :
    Calls Tryz.prog 84 #[.slice ao n cap, .int .i64 k] w fun e w' => ∃ ao' m cap', e = .returned (.slice ao' m cap') ∧ Own w.heap.size w'.heap.size w' ao' m cap' (bump xs k) ∧ Below w.heap.size w w' := by
  have hl0 := h.length
  have hcon := l1Own_any ao n cap xs w h (by omega)
  have Hl0 := Lib.hid hl0; clear hl0
  have Hcon := Lib.hid hcon; clear hcon
  go_enter Tryz.func84, Tryz.ntmps84
  go_wp2_with fail
  with_reducible refine (Hcon.out).mono ?_
  rintro e w1 ⟨a1, c1, rfl, ho1, hb1⟩
  go_wp2_with fail
  go_loopw [5] (fun v wr => ∃ (p : Nat) (a : Option Addr) (c : Nat), n ≤ p ∧ p ≤ max n (k + 1) ∧ v = .slice a p c ∧ Own w.heap.size wr.heap.size wr a p c (xs ++ List.replicate (p - n) 0) ∧ Below w.heap.size w wr) (fun v _ => match v with | .slice _ p _ => 9000 - p | _ => 0)
  case atStart => exact ⟨n, a1, c1, Nat.le_refl _, by omega, rfl, by simpa using ho1, hb1⟩
  case round =>
    obtain ⟨p, a, c, hp1, hp2, rfl, hown, hb⟩ := hrel
    clear ho1 hb1
    by_cases hlt : p ≤ k
    · go_wp2_with (at_builtin; refine wpList_push wr rfl _ _ rfl w.heap.size wr.heap.size a p c _ rfl hown _ rfl (by omega) hb.size ?_)
      intro a3 c3 w3 ho3 hc3
      have hb3 := hb.trans (hown.chgBelow hc3 hb.size)
      clear hown hc3
      go_wp2
      go_roundw
      case rel => exact ⟨p + 1, a3, c3, by omega, by omega, rfl, by rw [show p + 1 - n = (p - n) + 1 by omega, List.replicate_succ']; simpa using ho3, hb3⟩
      case measure => simp; omega
    · have hpe : p - n = k + 1 - xs.length := by rw [Hl0.out]; omega
      obtain ⟨hz, hrest⟩ | ⟨g, rfl, hg, hgE, hgw⟩ := hown.cases
      · have := hown.length; omega
      · have hck := getD_cells hown k (by omega)
        have hval : (xs ++ List.replicate (p - n) 0).getD k 0 = xs.getD k 0 := getD_pad xs _ k
        have hfz := hown.frozenAt k
        have hset := Own.set hown k (xs.getD k 0 + 1)
        rw [hval] at hck
        have hxk := hx k
        have hbm : (xs ++ List.replicate (p - n) 0).set k (xs.getD k 0 + 1) = bump xs k := by unfold bump; rw [← hpe, hval]
        rw [hbm] at hset
        generalize hxk' : xs.getD k 0 = x at *
        have hkk : (k : Int) < p := by omega
        clear hown
        have Hxk' := Lib.hid hxk'; clear hxk'
        have Hval := Lib.hid hval; clear hval
        have Hset := Lib.hid hset; clear hset
        have Hbm := Lib.hid hbm; clear hbm
        have Hpe := Lib.hid hpe; clear hpe
        go_wp2
        go_ret
        exact ⟨_, _, _, rfl, (Hset.out).1.mono (Nat.le_refl _) (by simp), hb.setCell hg _⟩
set_option maxHeartbeats 1600000 in
theorem spec_DepthTable (n : Int) (w : World) :
    Calls Tryz.prog 44 #[.int .i64 n] w fun e w' => ∃ ao' n' cap', e = .returned (.tuple #[.slice ao' n' cap', .bool (mDepthTable n).2]) ∧ Own w.heap.size w'.heap.size w' ao' n' cap' (mDepthTable n).1 ∧ Below w.heap.size w w' := by
  by_cases hn : 0 ≤ n ∧ n ≤ 28
  · have hin := hn
    obtain ⟨m, rfl⟩ := Int.eq_ofNat_of_zero_le hn.1
    have hm := mDT_yes m (by omega)
    have hcon := piAll_any 28 m m w (by omega) (by omega) (by omega)
    have hG : ∀ x ∈ allL m, Good x := fun x hx => (allL_good (by omega) hx).1
    have hle := allL_le (n := m) (by omega)
    change Calls _ _ _ _ (fun e w' => ∃ ao' n' cap', e = .returned (.slice ao' n' cap') ∧ OwnRows w.heap.size w'.heap.size w' ao' n' cap' (allL m) ∧ Below w.heap.size w w') at hcon
    unfold depT at hm
    generalize allL m = A at *
    have Hn := Lib.hid hn; clear hn
    have Hm := Lib.hid hm; clear hm
    have Hin := Lib.hid hin; clear hin
    have Hcon := Lib.hid hcon; clear hcon
    have HG := Lib.hid hG; clear hG
    go_enter Tryz.func44, Tryz.ntmps44
    go_wp2_with fail
    with_reducible refine (piCards_yes _ _ Hin.out).mono ?_
    rintro e w' ⟨rfl, rfl⟩
    go_wp2_with fail
    with_reducible refine (Hcon.out).mono ?_
    rintro e w1 ⟨a1, n1, c1, rfl, ho1, hb1⟩
    have hn1 := ho1.length
    have hs1 := hb1.size
    obtain ⟨avs, hsp, _⟩ := ho1.sp
    have hn8 : n1 ≤ 3718 := by omega
    clear ho1
    have Hn1 := Lib.hid hn1; clear hn1
    go_wp2_with fail
    go_loopw [4, 14] (fun v i wr => ∃ (j : Nat) (a : Option Addr) (p c : Nat), j ≤ n1 ∧ i = .int .i64 j ∧ v = .slice a p c ∧ Own w1.heap.size wr.heap.size wr a p c (tabT tailL (A.take j)) ∧ Below w1.heap.size w1 wr) (fun _ i _ => n1 - (intOf i).toNat)
    case atStart => exact ⟨0, none, 0, 0, Nat.zero_le _, rfl, rfl, Own.nil _ _ _, Below.refl _ _⟩
    case round =>
      obtain ⟨j, a, p, c, hj, rfl, rfl, hv, hb⟩ := hrel
      by_cases hlt : j < n1
      · obtain ⟨b, oo, a3, m3, c3, rfl, hbl, hck, _, hrow⟩ := (hsp.keep hb).getRow hlt
        have hg3 := HG.out _ (getD_memR hlt Hn1.out)
        have e := tabT_snoc tailL (A.take j) (A.getD j [])
        rw [← take_snocX hlt Hn1.out] at e
        have hvl := hv.length
        have htl : (tabT tailL (A.take j)).length ≤ 3719 := tabT_le fun x hx => by have := (tailL_spec (HG.out x (List.mem_of_mem_take hx))).1; omega
        have hvals : ∀ i, 0 ≤ (tabT tailL (A.take j)).getD i 0 ∧ (tabT tailL (A.take j)).getD i 0 ≤ 4000 := fun i => by
          have := tabT_val tailL (A.take j) i
          have h2 : (A.take j).length ≤ A.length := by rw [List.length_take]; omega
          have := Hn1.out
          omega
        have ht3 := (tailL_spec hg3).1
        generalize A.getD j [] = x at *
        have hcon := orSteps_any a3 m3 c3 x wr hrow.at hg3
        generalize tailL x = T at *
        generalize tabT tailL (A.take j) = Z at *
        have Hcon := Lib.hid hcon; clear hcon
        have E := Lib.hid e; clear e
        have Hg3 := Lib.hid hg3; clear hg3
        have Hvals := Lib.hid hvals; clear hvals
        clear hrow
        go_wp2_with fail
        with_reducible refine (Hcon.out).mono ?_
        rintro e w2 ⟨rfl, hb2⟩
        have hcon2 := paCount_any a p c Z T w2 (hv.keep hb2).at (by omega) (by omega) Hvals.out
        have hs2 := hb2.size
        have hbs := hb.size
        have Hcon2 := Lib.hid hcon2; clear hcon2
        have Hvl := Lib.hid hvl; clear hvl
        go_wp2_with fail
        with_reducible refine (Hcon2.out).mono ?_
        rintro e w4 ⟨a4, p4, c4, rfl, ho4, hb4⟩
        have hb24 := belowTrans (belowTrans hb hb2 (Nat.le_refl _)) hb4 (Nat.le_refl _)
        clear hv hb hb2 hb4
        go_wp2
        go_roundw
        case rel => exact ⟨j + 1, a4, p4, c4, by omega, by go_num, rfl, by rw [E.out]; exact ho4.mono (by omega) (Nat.le_refl _), hb24⟩
        case measure => simp [intOf]; omega
      · obtain rfl : n1 = j := by omega
        rw [take_allR Hn1.out] at hv
        go_wp2
        go_ret2
        rw [Hm.out]
        exact ⟨_, _, _, rfl, hv.mono hs1 (Nat.le_refl _), belowTrans hb1 hb (Nat.le_refl _)⟩
  · have hm := mDT_no n hn
    have Hn := Lib.hid hn; clear hn
    have Hm := Lib.hid hm; clear hm
    go_enter Tryz.func44, Tryz.ntmps44
    go_wp2_with fail
    with_reducible refine (piCards_no _ _ Hn.out).mono ?_
    rintro e w' ⟨rfl, rfl⟩
    go_wp2
    go_ret2
    rw [Hm.out]
    exact ⟨none, 0, 0, rfl, Own.nil _ _ _, Below.refl _ _⟩
set_option maxHeartbeats 1600000 in
theorem spec_IsPastOf (ao : Option Addr) (n cap : Nat) (xs : List Int) (bo : Option Addr) (m cap' : Nat) (ys : List Int) (w : World) (hx : IntsAt w ao n cap xs) (hy : IntsAt w bo m cap' ys) :
    Calls Tryz.prog 46 #[.slice ao n cap, .slice bo m cap'] w fun e w' => e = .returned (.tuple #[.int .i64 (mIsPastOf xs ys).1, .bool (mIsPastOf xs ys).2]) ∧ Below w.heap.size w w' := by
  cases hg : goodB xs
  · have hm := mIPO_no1 (y := ys) hg
    have Hg := Lib.hid hg; clear hg
    have Hm := Lib.hid hm; clear hm
    go_enter Tryz.func46, Tryz.ntmps46
    go_wp2_with fail
    with_reducible refine (piGood_no _ _ _ _ _ hx Hg.out).mono ?_
    rintro e w' ⟨rfl, rfl⟩
    go_wp2
    go_ret2
    rw [Hm.out]
    exact ⟨rfl, Below.refl _ _⟩
  cases hg2 : goodB ys
  · have hm := mIPO_no2 (x := xs) hg2
    have Hg := Lib.hid hg; clear hg
    have Hg2 := Lib.hid hg2; clear hg2
    have Hm := Lib.hid hm; clear hm
    go_enter Tryz.func46, Tryz.ntmps46
    go_wp2_with fail
    with_reducible refine (piGood_yes _ _ _ _ _ hx (good_iff.1 Hg.out)).mono ?_
    rintro e w' ⟨rfl, rfl⟩
    go_wp2_with fail
    with_reducible refine (piGood_no _ _ _ _ _ hy Hg2.out).mono ?_
    rintro e w' ⟨rfl, rfl⟩
    go_wp2
    go_ret2
    rw [Hm.out]
    exact ⟨rfl, Below.refl _ _⟩
  have hG := good_iff.1 hg
  have hG2 := good_iff.1 hg2
  have hyes := fun k => mIPO_yes (x := xs) (y := ys) (k := k) hg hg2
  have hno := mIPO_none (x := xs) (y := ys) hg hg2
  have hcon := orTail_any ao n cap xs w hx hG
  have hcl : (cycL xs).length = perL (endL xs) := by unfold cycL; rw [runL_length]
  have hcl8 := cycL_length hG
  have htl := (tailL_spec hG).1
  have hlen := hG.len
  have hl0 := hx.length
  generalize tailL xs = T at *
  generalize hPe : perL (endL xs) = Pe at *
  have Hg := Lib.hid hg; clear hg
  have Hg2 := Lib.hid hg2; clear hg2
  have HG := Lib.hid hG; clear hG
  have HG2 := Lib.hid hG2; clear hG2
  have Hcon := Lib.hid hcon; clear hcon
  have Hyes := Lib.hid hyes; clear hyes
  have Hno := Lib.hid hno; clear hno
  have Hcl := Lib.hid hcl; clear hcl
  have Hl0 := Lib.hid hl0; clear hl0
  have HPe := Lib.hid hPe; clear hPe
  go_enter Tryz.func46, Tryz.ntmps46
  go_wp2_with fail
  with_reducible refine (piGood_yes _ _ _ _ _ hx HG.out).mono ?_
  rintro e w' ⟨rfl, rfl⟩
  go_wp2_with fail
  with_reducible refine (piGood_yes _ _ _ _ _ hy HG2.out).mono ?_
  rintro e w' ⟨rfl, rfl⟩
  go_wp2_with fail
  with_reducible refine (Hcon.out).mono ?_
  rintro e w1 ⟨a1, n1, c1, rfl, ho1, hb1⟩
  obtain rfl : n1 = Pe := by rw [← ho1.length]; exact Hcl.out
  have hcon2 := l1Own_any ao n cap xs w1 (hx.keep hb1) (by have := Hl0.out; omega)
  have hy1 := hy.keep hb1
  clear ho1
  have Hcon2 := Lib.hid hcon2; clear hcon2
  go_wp2_with fail
  with_reducible refine (Hcon2.out).mono ?_
  rintro e w2 ⟨a2, c2, rfl, ho2, hb2⟩
  have hy2 := hy1.keep hb2
  have hn18 : n1 ≤ 8 := by have := Hcl.out; omega
  go_wp2_with fail
  go_loopw [8, 9] (fun v i wr => ∃ (k : Nat) (a : Option Addr) (p c : Nat), k ≤ T + n1 ∧ i = .int .i64 k ∧ v = .slice a p c ∧ (∀ q, q < k → stepsL q xs ≠ ys) ∧ Own w1.heap.size wr.heap.size wr a p c (stepsL k xs) ∧ Below w2.heap.size w2 wr) (fun _ i _ => 4000 - (intOf i).toNat)
  case atStart => exact ⟨0, a2, n, c2, Nat.zero_le _, rfl, rfl, fun q hq => absurd hq (Nat.not_lt_zero _), ho2, Below.refl _ _⟩
  case round =>
    obtain ⟨k, a, p, c, hk, rfl, rfl, hq, hown, hb⟩ := hrel
    clear ho2
    have hgk := stepsL_good HG.out k
    by_cases hlt : k < T + n1
    · have hltI : (k : Int) < (T : Int) + n1 := by omega
      have hsm := l1Same_any a bo p m c cap' (stepsL k xs) ys wr hown.at (hy2.keep hb)
      by_cases he : stepsL k xs = ys
      · have hm := Hyes.out k he hq hlt
        rw [decide_eq_true he] at hsm
        have Hm := Lib.hid hm; clear hm
        have Hq := Lib.hid hq; clear hq
        have Hsm := Lib.hid hsm; clear hsm
        have He := Lib.hid he; clear he
        have Hgk := Lib.hid hgk; clear hgk
        go_wp2_with fail
        with_reducible refine (Hsm.out).mono ?_
        rintro e w4 ⟨rfl, q4, rfl⟩
        go_wp2
        go_ret2
        rw [Hm.out]
        exact ⟨rfl, belowDrewN (belowTrans (belowTrans hb1 hb2 (Nat.le_refl _)) hb (Nat.le_refl _)) q4⟩
      · rw [decide_eq_false he] at hsm
        have hq2 : ∀ q, q < k + 1 → stepsL q xs ≠ ys := fun q hqk => by
          by_cases e : q = k
          · subst e; exact he
          · exact hq q (by omega)
        have Hq := Lib.hid hq; clear hq
        have Hsm := Lib.hid hsm; clear hsm
        have He := Lib.hid he; clear he
        have Hq2 := Lib.hid hq2; clear hq2
        go_wp2_with fail
        with_reducible refine (Hsm.out).mono ?_
        rintro e w4 ⟨rfl, q4, rfl⟩
        have hcon3 := piStep_any a p c _ (wr.drewN q4) (hown.drewN q4).at hgk
        have Hcon3 := Lib.hid hcon3; clear hcon3
        have Hgk := Lib.hid hgk; clear hgk
        go_wp2_with fail
        with_reducible refine (Hcon3.out).mono ?_
        rintro e w5 ⟨a5, p5, c5, rfl, ho5, hb5⟩
        have hbs := (belowDrewN hb q4).size
        have hb45 := belowTrans (belowDrewN hb q4) hb5 (Nat.le_refl _)
        have hs2 := hb2.size
        clear hown
        go_wp2
        go_roundw
        case rel => exact ⟨k + 1, a5, p5, c5, by omega, by go_num, rfl, Hq2.out, ho5.mono (by omega) (Nat.le_refl _), hb45⟩
        case measure => simp [intOf]; omega
    · obtain rfl : k = T + n1 := by omega
      have hm := Hno.out hq
      have hltI : ¬ (((T + n1 : Nat) : Int) < (T : Int) + n1) := by omega
      have Hm := Lib.hid hm; clear hm
      have Hq := Lib.hid hq; clear hq
      have Hgk := Lib.hid hgk; clear hgk
      go_wp2
      go_ret2
      rw [Hm.out]
      exact ⟨rfl, belowTrans (belowTrans hb1 hb2 (Nat.le_refl _)) hb (Nat.le_refl _)⟩
end
end Go.Proofs.YthppkfhhidlpiaaGreat
