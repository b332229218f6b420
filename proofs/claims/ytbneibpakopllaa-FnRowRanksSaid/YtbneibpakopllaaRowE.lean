/- Rows: all pasts, in order. Plain mathematics; no condition. -/
import Derived.Test.YtbneibpakopllaaRankM
namespace Go.Proofs.Ytbneibpakopllaa
set_option linter.unusedVariables false
set_option linter.unusedSimpArgs false

/-- the pasts that fill so many places, of which these numbers are left -/
def pR : Nat → List Int → List (List Int)
  | 0, [] => [[]]
  | 0, _ :: _ => []
  | f + 1, [] => (pR f []).map (1 :: ·)
  | f + 1, x :: t => (pR f t).map ((x + 1) :: ·) ++ (pR f (x :: t)).map (1 :: ·)
theorem pR_cons (f : Nat) (x : Int) (t : List Int) : pR (f + 1) (x :: t) = (pR f t).map ((x + 1) :: ·) ++ (pR f (x :: t)).map (1 :: ·) := rfl
theorem pR_nil (f : Nat) : pR (f + 1) [] = (pR f []).map (1 :: ·) := rfl
theorem pR_short : ∀ (f : Nat) (rs : List Int), f < rs.length → pR f rs = []
  | 0, [], h => by simp at h
  | 0, _ :: _, _ => rfl
  | f + 1, [], h => by simp at h
  | f + 1, x :: t, h => by
    simp only [List.length_cons] at h
    rw [pR_cons, pR_short f t (by omega), pR_short f (x :: t) (by simp only [List.length_cons]; omega)]
    rfl
theorem pR_len : ∀ (f : Nat) (rs : List Int), ∀ ys ∈ pR f rs, ys.length = f
  | 0, [], ys, h => by simp [pR] at h; simp [h]
  | 0, _ :: _, ys, h => by simp [pR] at h
  | f + 1, [], ys, h => by
    rw [pR_nil, List.mem_map] at h
    obtain ⟨z, hz, rfl⟩ := h
    simp [pR_len f [] z hz]
  | f + 1, x :: t, ys, h => by
    rw [pR_cons, List.mem_append, List.mem_map, List.mem_map] at h
    rcases h with ⟨z, hz, rfl⟩ | ⟨z, hz, rfl⟩
    · simp [pR_len f t z hz]
    · simp [pR_len f (x :: t) z hz]
theorem chI_next : ∀ n : Nat, n < 28 → ∀ k : Nat, k < 28 → chI ((n : Int) + 1) (k + 1) = chI n k + chI n (k + 1) := by decide +kernel
theorem chI_none0 : ∀ k : Nat, k < 28 → chI 0 (k + 1) = 0 := by decide +kernel
theorem pR_count : ∀ (f : Nat) (rs : List Int), f ≤ 28 → rs.length ≤ 28 → ((pR f rs).length : Int) = chI f rs.length
  | 0, [], _, _ => rfl
  | 0, x :: t, _, h => by
    simp only [List.length_cons] at h ⊢
    show (0 : Int) = chI 0 (t.length + 1)
    rw [chI_none0 t.length (by omega)]
  | f + 1, [], h1, h2 => by
    rw [pR_nil, List.length_map, pR_count f [] (by omega) h2]; rfl
  | f + 1, x :: t, h1, h2 => by
    simp only [List.length_cons] at h2
    have e1 := pR_count f t (by omega) (by omega)
    have e2 := pR_count f (x :: t) (by omega) (by simp only [List.length_cons]; omega)
    rw [pR_cons, List.length_append, List.length_map, List.length_map]
    push_cast
    rw [e1, e2]
    simp only [List.length_cons]
    exact (chI_next f (by omega) t.length (by omega)).symm
def pastsR (xs : List Int) : List (List Int) := if xs = [] then [[]] else pR (xs.getD 0 0).toNat xs.tail
def mRowPasts (xs : List Int) : List (List Int) × Bool := if rowB xs = true ∧ pastC xs ≤ 300 then (pastsR xs, true) else ([], false)
theorem mRP_yes {xs : List Int} (h : rowB xs = true) (h2 : pastC xs ≤ 300) : mRowPasts xs = (pastsR xs, true) := if_pos ⟨h, h2⟩
theorem mRP_no1 {xs : List Int} (h : rowB xs = false) : mRowPasts xs = ([], false) := if_neg (fun q => by rw [h] at q; simp at q)
theorem mRP_no2 {xs : List Int} (h : ¬ pastC xs ≤ 300) : mRowPasts xs = ([], false) := if_neg (fun q => h q.2)
theorem row_head {xs : List Int} (h : RowOk xs) (hne : xs ≠ []) : 1 ≤ xs.getD 0 0 ∧ xs.getD 0 0 ≤ 28 := h.mem (mem_getD0 hne)
theorem pastsR_count {xs : List Int} (h : RowOk xs) : ((pastsR xs).length : Int) = pastC xs := by
  unfold pastsR
  by_cases hne : xs = []
  · subst hne; rfl
  · rw [if_neg hne, pastC_cons hne]
    have h1 := row_head h hne
    have h2 := h.len
    have := pR_count (xs.getD 0 0).toNat xs.tail (by omega) (by rw [List.length_tail]; omega)
    rw [this, List.length_tail, Int.toNat_of_nonneg (by omega)]
theorem pastsR_mem {xs : List Int} (h : RowOk xs) : ∀ ys ∈ pastsR xs, ys.length ≤ 28 := by
  intro ys hy
  unfold pastsR at hy
  by_cases hne : xs = []
  · rw [if_pos hne] at hy; simp at hy; simp [hy]
  · rw [if_neg hne] at hy
    have := pR_len _ _ ys hy
    have h1 := row_head h hne
    omega
end Go.Proofs.Ytbneibpakopllaa
