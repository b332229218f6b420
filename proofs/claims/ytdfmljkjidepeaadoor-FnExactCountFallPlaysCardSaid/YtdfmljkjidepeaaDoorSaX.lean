/- Grains on a line: how often each column falls between two, the lowest sand. Plain mathematics; no condition. -/
import Derived.Test.YtdfmljkjidepeaaDoorSaR
namespace Go.Proofs.YtdfmljkjidepeaaDoor
set_option linter.unusedVariables false
set_option linter.unusedSimpArgs false

theorem canB_iff {xs ys : List Int} : canB xs ys = true ↔ okR xs ∧ ys ∈ rchS xs := by
  unfold canB
  rw [decide_eq_true_eq]
  constructor
  · intro h
    by_cases hok : okR xs
    · rw [rchL_yes hok, srt_mem] at h; exact ⟨hok, h⟩
    · rw [rchL_no hok] at h; cases h
  · rintro ⟨h1, h2⟩
    rw [rchL_yes h1, srt_mem]; exact h2
theorem reaB_iff {xs ys : List Int} : reaB xs ys = true ↔ Sand xs ∧ Sand ys ∧ okR xs ∧ ys ∈ rchS xs := by
  unfold reaB
  rw [Bool.and_eq_true, Bool.and_eq_true, sand_iff, sand_iff, canB_iff]
/-! ### First grains -/
theorem take_fall {xs : List Int} {i : Nat} (hi : i < xs.length) (k : Nat) : ((fallL xs i).take k).sum ≤ (xs.take k).sum := by
  by_cases he : i + 1 = xs.length
  · rw [fallL_end he]
    by_cases hk : k ≤ xs.length
    · rw [List.take_append_of_le_length (by simp; exact hk)]
      by_cases hik : i < k
      · rw [List.take_set, sum_set _ _ _ (by rw [List.length_take]; omega)]
        have e : (xs.take k).getD i 0 = xs.getD i 0 := by rw [List.getD_eq_getElem?_getD, List.getElem?_take, if_pos hik, ← List.getD_eq_getElem?_getD]
        rw [e]; omega
      · rw [List.take_set_of_le (by omega)]; exact Int.le_refl _
    · rw [List.take_of_length_le (l := xs.set i (xs.getD i 0 - 1) ++ [1]) (by simp; omega), List.take_of_length_le (l := xs) (by omega), List.sum_append, sum_set _ _ _ hi]
      simp
      omega
  · rw [fallL_in he]
    by_cases hik : i + 1 < k
    · rw [List.take_set, List.take_set, sum_set _ _ _ (by rw [List.length_set, List.length_take]; omega), sum_set _ _ _ (by rw [List.length_take]; omega), getD_set_neM _ _ _ _ _ (by omega)]
      have e : (xs.take k).getD i 0 = xs.getD i 0 := by rw [List.getD_eq_getElem?_getD, List.getElem?_take, if_pos (by omega), ← List.getD_eq_getElem?_getD]
      have e2 : (xs.take k).getD (i + 1) 0 = xs.getD (i + 1) 0 := by rw [List.getD_eq_getElem?_getD, List.getElem?_take, if_pos (by omega), ← List.getD_eq_getElem?_getD]
      rw [e, e2]; omega
    · rw [List.take_set_of_le (by omega)]
      by_cases hik2 : i < k
      · rw [List.take_set, sum_set _ _ _ (by rw [List.length_take]; omega)]
        have e : (xs.take k).getD i 0 = xs.getD i 0 := by rw [List.getD_eq_getElem?_getD, List.getElem?_take, if_pos (by omega), ← List.getD_eq_getElem?_getD]
        rw [e]; omega
      · rw [List.take_set_of_le (by omega)]; exact Int.le_refl _
theorem fr_less {xs : List Int} (hg : Grains xs) : ∀ (t : Nat) {y : List Int}, y ∈ frS xs t → ∀ k, (y.take k).sum ≤ (xs.take k).sum := by
  intro t
  induction t with
  | zero =>
    intro y hy k
    have : y = xs := by simpa [frS] using hy
    subst this; exact Int.le_refl _
  | succ t ih =>
    intro y hy k
    obtain ⟨x, hx, hb⟩ := mem_frS_succ.1 hy
    obtain ⟨i, h1, _, rfl⟩ := mem_behL.1 hb
    have h2 := take_fall h1 k
    have h3 := ih hx k
    omega
theorem rch_less {xs y : List Int} (hg : Grains xs) (hy : y ∈ rchS xs) (k : Nat) : (y.take k).sum ≤ (xs.take k).sum := by
  obtain ⟨t, _, ht⟩ := mem_rsS.1 hy
  exact fr_less hg t ht k
def diffI (xs ys : List Int) (k : Nat) : Int := (xs.take k).sum - (ys.take k).sum
def vecT (xs ys : List Int) (n : Nat) : List Int := (List.range n).map fun i => diffI xs ys (i + 1)
theorem vecT_succ (xs ys : List Int) (n : Nat) : vecT xs ys (n + 1) = vecT xs ys n ++ [diffI xs ys (n + 1)] := by unfold vecT; rw [List.range_succ, List.map_append]; rfl
theorem vecT_length (xs ys : List Int) (n : Nat) : (vecT xs ys n).length = n := by simp [vecT]
theorem vecT_getD (xs ys : List Int) {n i : Nat} (h : i < n) : (vecT xs ys n).getD i 0 = diffI xs ys (i + 1) := by
  unfold vecT
  rw [List.getD_eq_getElem?_getD, List.getElem?_map, List.getElem?_range h]; rfl
theorem take_grow {xs : List Int} {k : Nat} : (xs.take (k + 1)).sum = (xs.take k).sum + xs.getD k 0 := by
  by_cases hk : k < xs.length
  · rw [List.take_add_one, List.getElem?_eq_getElem hk, List.sum_append, List.getD_eq_getElem?_getD, List.getElem?_eq_getElem hk]; simp
  · rw [List.take_of_length_le (by omega), List.take_of_length_le (by omega), getD_past (by omega)]; omega
theorem diffI_succ (xs ys : List Int) (k : Nat) : diffI xs ys (k + 1) = diffI xs ys k - ys.getD k 0 + xs.getD k 0 := by
  unfold diffI; rw [take_grow, take_grow]; omega
def trimN (v : List Int) : Nat → Nat
  | 0 => 0
  | k + 1 => if v.getD k 0 = 0 then trimN v k else k + 1
def lastN (v : List Int) : Nat → Nat
  | 0 => 0
  | k + 1 => if 0 < v.getD k 0 then k + 1 else lastN v k
theorem trimN_le (v : List Int) (k : Nat) : trimN v k ≤ k := by
  induction k with
  | zero => exact Nat.le_refl _
  | succ k ih => unfold trimN; split <;> omega
theorem last_trim {v : List Int} (h : ∀ i, 0 ≤ v.getD i 0) (k : Nat) : lastN v k = trimN v k := by
  induction k with
  | zero => rfl
  | succ k ih =>
    have := h k
    unfold lastN trimN
    by_cases hz : v.getD k 0 = 0
    · rw [if_pos hz, if_neg (by omega)]; exact ih
    · rw [if_neg hz, if_pos (by omega)]
def vecL (xs ys : List Int) : List Int := (vecT xs ys ys.length).take (trimN (vecT xs ys ys.length) ys.length)
theorem vec_nonneg {xs ys : List Int} (hg : Grains xs) (hy : ys ∈ rchS xs) (i : Nat) : 0 ≤ (vecT xs ys ys.length).getD i 0 := by
  by_cases hi : i < ys.length
  · rw [vecT_getD _ _ hi]
    unfold diffI
    have := rch_less hg hy (i + 1)
    omega
  · rw [getD_past (by rw [vecT_length]; omega)]; exact Int.le_refl _
theorem diff_bound {xs ys : List Int} (hx : Grains xs) (hy : Grains ys) (k : Nat) : -24 ≤ diffI xs ys k ∧ diffI xs ys k ≤ 24 := by
  have h : ∀ {zs : List Int}, Grains zs → 0 ≤ (zs.take k).sum ∧ (zs.take k).sum ≤ 24 := fun {zs} hz => by
    have h1 := sum_nonneg (hz.good.take k).1
    have h2 : zs.sum = (zs.take k).sum + (zs.drop k).sum := by rw [← List.sum_append, List.take_append_drop]
    have h3 := sum_nonneg (fun x hx => hz.good.1 x (List.mem_of_mem_drop hx) : ∀ x ∈ zs.drop k, 1 ≤ x)
    have := hz.2
    omega
  have h1 := h hx
  have h2 := h hy
  unfold diffI
  omega
def mFallsBetween (xs ys : List Int) : Int × Bool := if reaB xs ys = true then (wt 0 ys - wt 0 xs, true) else (0, false)
theorem mFB_yes {xs ys : List Int} (h : reaB xs ys = true) : mFallsBetween xs ys = (wt 0 ys - wt 0 xs, true) := by unfold mFallsBetween; rw [if_pos h]
theorem mFB_no {xs ys : List Int} (h : reaB xs ys = false) : mFallsBetween xs ys = (0, false) := by unfold mFallsBetween; rw [if_neg (by rw [h]; simp)]
def mFallVector (xs ys : List Int) : List Int × Bool := if reaB xs ys = true then (vecL xs ys, true) else ([], false)
theorem mFV_yes {xs ys : List Int} (h : reaB xs ys = true) : mFallVector xs ys = (vecL xs ys, true) := by unfold mFallVector; rw [if_pos h]
theorem mFV_no {xs ys : List Int} (h : reaB xs ys = false) : mFallVector xs ys = ([], false) := by unfold mFallVector; rw [if_neg (by rw [h]; simp)]
theorem mFallVector_bound (xs ys : List Int) : (mFallVector xs ys).1.length ≤ 1048576 := by
  cases h : reaB xs ys
  · rw [mFV_no h]; simp
  · rw [mFV_yes h]
    have h1 := (reaB_iff.1 h).2.1.1
    have h2 : (vecL xs ys).length ≤ ys.length := by
      unfold vecL
      rw [List.length_take, vecT_length]; omega
    exact Nat.le_trans h2 (by omega)

/-! ### The lowest sand -/
def lastBy (p : List Int → Bool) (L : List (List Int)) : List Int := L.foldl (fun l c => if p c then c else l) []
theorem lastBy_snoc (p : List Int → Bool) (L : List (List Int)) (c : List Int) : lastBy p (L ++ [c]) = if p c then c else lastBy p L := by unfold lastBy; rw [List.foldl_append]; rfl
theorem lastBy_app (p : List Int → Bool) (L M : List (List Int)) (h : ∀ x ∈ M, p x = false) : lastBy p (L ++ M) = lastBy p L := by
  induction M using snoc_ind with
  | h0 => rw [List.append_nil]
  | h1 M c ih =>
    rw [← List.append_assoc, lastBy_snoc, h c (by simp)]
    exact ih (fun x hx => h x (by simp [hx]))
theorem lastBy_at {p : List Int → Bool} {L : List (List Int)} {i : Nat} (hi : i < L.length) (hp : p (L.getD i []) = true) (h : ∀ x ∈ L.drop (i + 1), p x = false) : lastBy p L = L.getD i [] := by
  have e : L = L.take (i + 1) ++ L.drop (i + 1) := (List.take_append_drop _ _).symm
  have h1 := lastBy_app p (L.take (i + 1)) (L.drop (i + 1)) h
  rw [← e] at h1
  have e2 : L.take (i + 1) = L.take i ++ [L.getD i []] := by
    rw [List.take_add_one, List.getElem?_eq_getElem hi, List.getD_eq_getElem?_getD, List.getElem?_eq_getElem hi]; rfl
  rw [h1, e2, lastBy_snoc, hp]; rfl
def bothB (xs ys c : List Int) : Bool := canB c xs && canB c ys
def lowOk (xs ys : List Int) : Prop := Sand xs ∧ Sand ys ∧ xs.sum = ys.sum ∧ xs.sum ≤ 15 ∧ xs ≠ [] ∧ bothB xs ys [xs.sum] = true
instance (xs ys : List Int) : Decidable (lowOk xs ys) := by unfold lowOk; infer_instance
def lowestL (xs ys : List Int) : List Int := lastBy (bothB xs ys) (rchL [xs.sum])
def mLowestOf (xs ys : List Int) : List Int × Bool := if lowOk xs ys then (lowestL xs ys, true) else ([], false)
theorem mLow_yes {xs ys : List Int} (h : lowOk xs ys) : mLowestOf xs ys = (lowestL xs ys, true) := by unfold mLowestOf; rw [if_pos h]
theorem mLow_no {xs ys : List Int} (h : ¬ lowOk xs ys) : mLowestOf xs ys = ([], false) := by unfold mLowestOf; rw [if_neg h]
theorem one_sand {n : Int} (h1 : 1 ≤ n) (h2 : n ≤ 15) : Sand [n] := ⟨by simp, ⟨fun x hx => by rw [List.mem_singleton.1 hx]; exact h1, by simp, by simp; omega⟩, by simp; omega⟩
theorem sum_pos {xs : List Int} (h : Good xs) (hne : xs ≠ []) : 1 ≤ xs.sum := by
  have h1 := sum_nonneg h.1
  have h2 : 0 < xs.length := List.length_pos_iff.2 hne
  omega
/-- one that reaches both is reached by the single column, if that one reaches it -/
theorem both_up {n : Int} {xs ys c : List Int} (hn : Sand [n]) (hc : c ∈ rchL [n]) (h : bothB xs ys c = true) : bothB xs ys [n] = true := by
  have hok : okR [n] := by
    by_cases hok : okR [n]
    · exact hok
    · rw [rchL_no hok] at hc; cases hc
  have hc2 : c ∈ rchS [n] := by rw [rchL_yes hok, srt_mem] at hc; exact hc
  unfold bothB at *
  rw [Bool.and_eq_true, canB_iff, canB_iff] at *
  exact ⟨⟨hok, rch_trans hn.grains hc2 h.1.2⟩, ⟨hok, rch_trans hn.grains hc2 h.2.2⟩⟩
theorem both_self {n : Int} {xs ys : List Int} (h : bothB xs ys [n] = true) : [n] ∈ rchL [n] := by
  unfold bothB at h
  rw [Bool.and_eq_true, canB_iff] at h
  rw [rchL_yes h.1.1, srt_mem]; exact self_mem _
theorem lowestL_len (xs ys : List Int) : (lowestL xs ys).length ≤ 12 := by
  unfold lowestL
  have : ∀ L : List (List Int), (∀ x ∈ L, x.length ≤ 12) → (lastBy (bothB xs ys) L).length ≤ 12 := by
    intro L
    induction L using snoc_ind with
    | h0 => intro _; simp [lastBy]
    | h1 L c ih =>
      intro h
      rw [lastBy_snoc]
      split
      · exact h c (by simp)
      · exact ih (fun x hx => h x (by simp [hx]))
  exact this _ fun x hx => (rchL_sand hx).1
set_option maxRecDepth 100000 in
theorem mLowestOf_bound (xs ys : List Int) : (mLowestOf xs ys).1.length ≤ 1048576 := by
  unfold mLowestOf
  split
  · exact Nat.le_trans (lowestL_len xs ys) (by omega)
  · simp
theorem mReachSand_small2 (xs : List Int) : (mReachSand xs).1.length ≤ 1048576 ∧ ((mReachSand xs).1.map List.length).sum ≤ 1048576 := by
  obtain ⟨h1, h2⟩ := mReachSand_small xs
  refine ⟨by omega, ?_⟩
  generalize (mReachSand xs).1 = L at *
  have : ∀ L : List (List Int), (∀ x ∈ L, x.length ≤ 28) → (L.map List.length).sum ≤ 28 * L.length := by
    intro L
    induction L with
    | nil => intro _; simp
    | cons a l ih =>
      intro h
      have h3 := h a (by simp)
      have h4 := ih (fun x hx => h x (by simp [hx]))
      simp only [List.map_cons, List.sum_cons, List.length_cons]
      omega
  have := this L h2
  omega
end Go.Proofs.YtdfmljkjidepeaaDoor
