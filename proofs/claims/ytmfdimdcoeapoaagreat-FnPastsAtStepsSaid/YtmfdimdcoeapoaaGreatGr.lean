/- Several texts in one: Rings, RingsI, Choice, CycP. No condition. -/
import Derived.Test.YtmfdimdcoeapoaaGreatOnes
import Derived.Test.YtmfdimdcoeapoaaGreatGk
namespace Go.Proofs.YtmfdimdcoeapoaaGreat
section
open Go.RowKit
set_option linter.unusedVariables false
set_option linter.unusedSimpArgs false
set_option maxRecDepth 20000

/-! ### Masks -/
def maskBits (K m : Nat) : List Int := (List.range (K + 1)).map fun (i : Nat) => ((m / 2 ^ (K - i) % 2 : Nat) : Int)
theorem maskBits_length (K m : Nat) : (maskBits K m).length = K + 1 := by simp [maskBits]
theorem maskBits_getD (K m i : Nat) (h : i < K + 1) : (maskBits K m).getD i 0 = ((m / 2 ^ (K - i) % 2 : Nat) : Int) := by
  unfold maskBits
  rw [List.getD_eq_getElem?_getD, List.getElem?_map, List.getElem?_range h]; rfl
theorem maskBits_isB (K m : Nat) : IsB (maskBits K m) := by
  intro b hb
  obtain ⟨i, _, rfl⟩ := List.mem_map.1 hb
  have := Nat.mod_lt (m / 2 ^ (K - i)) (show 0 < 2 by omega)
  omega
/-- the rings of the masks from the greatest one down to m -/
def ringsTo (K o T m : Nat) : List (List Int) := (((List.range (T - m)).map fun d => T - 1 - d).filter fun x => popN 8 x == o).map (maskBits K)
theorem ringsTo_start (K o T : Nat) : ringsTo K o T T = [] := by simp [ringsTo]
theorem ringsTo_step (K o T m : Nat) (h : m + 1 ≤ T) : ringsTo K o T m = ringsTo K o T (m + 1) ++ if popN 8 m = o then [maskBits K m] else [] := by
  unfold ringsTo
  rw [show T - m = (T - (m + 1)) + 1 by omega, List.range_succ, List.map_append, List.filter_append, List.map_append, List.map_singleton, show T - 1 - (T - (m + 1)) = m by omega]
  congr 1
  by_cases hp : popN 8 m = o
  · rw [if_pos hp, List.filter_cons_of_pos (by simpa using hp)]; rfl
  · rw [if_neg hp, List.filter_cons_of_neg (by simpa using hp)]; rfl
def ringsL (n : Nat) : List (List Int) := ringsTo (hgt n) (n - tri (hgt n)) (2 ^ (hgt n + 1)) 0
theorem ringsTo_isB (K o T m : Nat) : ∀ bs ∈ ringsTo K o T m, IsB bs ∧ bs.length = K + 1 := by
  intro bs hb
  obtain ⟨x, _, rfl⟩ := List.mem_map.1 hb
  exact ⟨maskBits_isB K x, maskBits_length K x⟩
theorem ringsTo_length (K o T m : Nat) : (ringsTo K o T m).length ≤ T - m := by
  unfold ringsTo
  rw [List.length_map]
  refine Nat.le_trans (List.length_filter_le _ _) ?_
  simp

/-! ### Rows of rings -/
def ringCells (bs : List Int) : List Value := (ring9 (bs.getD 0 0) (bs.getD 1 0) (bs.getD 2 0) (bs.getD 3 0) (bs.getD 4 0) (bs.getD 5 0) (bs.getD 6 0) (bs.getD 7 0) bs.length).toList
theorem ringCells_length (bs : List Int) : (ringCells bs).length = 9 := rfl
def RingRow (B E : Nat) (w : World) (ao : Option Addr) (n cap : Nat) (rs : List (List Int)) : Prop :=
  w.ownsRow B 76 9 (.slice ao n cap) n (rs.flatMap ringCells) ∧ rs.length = n ∧ ∀ g, (Value.slice ao n cap).ownBlock = some g → g < E
theorem RingRow.nil (B E : Nat) (w : World) : RingRow B E w none 0 0 [] := ⟨World.ownsRow_nil w B _ 9, rfl, fun g hg => by simp [Value.ownBlock] at hg⟩
theorem ringFlat_at (rs : List (List Int)) (i j : Nat) (hi : i < rs.length) (hj : j < 9) : (rs.flatMap ringCells)[i * 9 + j]? = (ringCells (rs.getD i []))[j]? := by
  induction rs generalizing i with
  | nil => simp at hi
  | cons r rs ih =>
    rw [List.flatMap_cons]
    cases i with
    | zero => rw [List.getElem?_append_left (by rw [ringCells_length]; omega)]; simp
    | succ i =>
      rw [List.getElem?_append_right (by rw [ringCells_length]; omega), ringCells_length, show (i + 1) * 9 + j - 9 = i * 9 + j by omega, ih i (by simpa using hi)]
      simp
theorem RingRow.cases {B E w ao n cap rs} (h : RingRow B E w ao n cap rs) (hn : 0 < n) : ∃ g, ao = some ⟨g, 0, none⟩ ∧ B ≤ g ∧ g < E ∧ g < w.heap.size ∧ n ≤ cap ∧ cap ≤ maxLen := by
  rcases h.1.2 with ⟨_, hz⟩ | ⟨g, c, cur, hv, hg, hh, hnc, hcm, rest⟩
  · omega
  · simp only [Value.slice.injEq] at hv
    obtain ⟨rfl, _, rfl⟩ := hv
    exact ⟨g, rfl, hg, h.2.2 g rfl, (Array.getElem?_eq_some_iff.1 hh).1, hnc, hcm⟩
theorem RingRow.cellsAt {B E w g n cap rs} (h : RingRow B E w (some ⟨g, 0, none⟩) n cap rs) (i : Nat) (hi : i < n) (j : Nat) (hj : j < 9) :
    w.cell? ⟨g, i * 9 + j, none⟩ = (ringCells (rs.getD i []))[j]? := by
  have hf := ringFlat_at rs i j (by rw [h.2.1]; exact hi) hj
  have hs : ∃ u, (ringCells (rs.getD i []))[j]? = some u := ⟨_, List.getElem?_eq_getElem (by rw [ringCells_length]; exact hj)⟩
  obtain ⟨u, hu⟩ := hs
  have := World.ownsRow.cells h.1 (g := g) rfl (i * 9 + j) u (by rw [hf, hu])
  rw [Addr.add_lit] at this
  simp only [Nat.zero_add] at this
  rw [this, hu]
theorem RingRow.chg {S : Nat → Prop} {B E w w' ao n cap rs} (h : RingRow B E w ao n cap rs) (hc : Chg S w w') (hs : ∀ g, B ≤ g → g < E → ¬ S g) : RingRow B E w' ao n cap rs := by
  refine ⟨⟨h.1.1, ?_⟩, h.2.1, h.2.2⟩
  rcases h.1.2 with hn | ⟨g, c, cur, hv, hg, hh, rest⟩
  · exact .inl hn
  · refine .inr ⟨g, c, cur, hv, hg, ?_, rest⟩
    have hb : (Value.slice ao n cap).ownBlock = some g := by rw [hv]; rfl
    rw [hc.block g (Array.getElem?_eq_some_iff.1 hh).1 (hs g hg (h.2.2 g hb))]
    exact hh
theorem RingRow.keep {B E w w' ao n cap rs} (h : RingRow B E w ao n cap rs) (hb : Below w.heap.size w w') : RingRow B E w' ao n cap rs :=
  h.chg (S := fun _ => False) (Chg.ofBelow hb) (fun _ _ _ h => h)
theorem RingRow.mono {B B' E E' w ao n cap rs} (h : RingRow B E w ao n cap rs) (hB : B' ≤ B) (hE : E ≤ E') : RingRow B' E' w ao n cap rs := by
  refine ⟨⟨h.1.1, ?_⟩, h.2.1, fun g hg => Nat.lt_of_lt_of_le (h.2.2 g hg) hE⟩
  rcases h.1.2 with hn | ⟨g, c, cur, hv, hg, rest⟩
  · exact .inl hn
  · exact .inr ⟨g, c, cur, hv, Nat.le_trans hB hg, rest⟩
theorem Tryz.infoRing : (Tryz.prog.info? 76).map (fun i => (i.zero, i.size, i.bytes)) = some (some ring0, 9, 72) := by kernel_rfl

end
end Go.Proofs.YtmfdimdcoeapoaaGreat
namespace Go.Proofs.YtmfdimdcoeapoaaGreat
section
open Go.RowKit
set_option linter.unusedVariables false
set_option linter.unusedSimpArgs false
set_option maxRecDepth 20000

theorem band_one : ∀ n : Fin 256, bits BinOp.and IntKind.i64 (n.val : Int) 1 = ((n.val % 2 : Nat) : Int) := by decide +kernel
theorem band_bit (q s : Nat) (h : q < 256) : bits BinOp.and IntKind.i64 ((q : Int) / 2 ^ s) 1 = ((q / 2 ^ s % 2 : Nat) : Int) := by
  have hle : q / 2 ^ s ≤ q := Nat.div_le_self _ _
  have := band_one ⟨q / 2 ^ s, by omega⟩
  rw [← this]
  congr 1

end
end Go.Proofs.YtmfdimdcoeapoaaGreat
namespace Go.Proofs.YtmfdimdcoeapoaaGreat
section
open Go.RowKit
set_option linter.unusedVariables false
set_option linter.unusedSimpArgs false
set_option maxRecDepth 20000

def choiceL : Nat → Nat → List (List Int)
  | 0, o => if o = 0 then [[]] else []
  | n + 1, o => (if 1 ≤ o then (choiceL n (o - 1)).map ((1 : Int) :: ·) else []) ++ (choiceL n o).map ((0 : Int) :: ·)
def chB (n o b : Nat) : List (List Int) := if b ≤ o then (choiceL n (o - b)).map ((b : Int) :: ·) else []
def chPart (n o X : Nat) : List (List Int) := if X = 0 then chB n o 1 ++ chB n o 0 else if X = 1 then chB n o 1 else []
theorem chPart_step (n o b : Nat) (hb : b ≤ 1) : chPart n o b = chPart n o (b + 1) ++ chB n o b := by
  have : b = 0 ∨ b = 1 := by omega
  rcases this with rfl | rfl
  · simp [chPart]
  · simp [chPart]
theorem chPart_end (n o : Nat) : chPart n o 0 = choiceL (n + 1) o := by
  simp only [chPart, if_true, choiceL, chB]
  simp
theorem choice_length (n : Nat) : ∀ o, (choiceL n o).length ≤ 2 ^ n := by
  induction n with
  | zero => intro o; unfold choiceL; split <;> simp
  | succ n ih =>
    intro o
    unfold choiceL
    have h1 := ih (o - 1)
    have h2 := ih o
    rw [List.length_append, List.length_map, Nat.pow_succ]
    split
    · rw [List.length_map]; omega
    · simp; omega
theorem choice_row (n : Nat) : ∀ o, ∀ ys ∈ choiceL n o, ys.length = n ∧ IsB ys := by
  induction n with
  | zero =>
    intro o ys hy
    unfold choiceL at hy
    split at hy
    · rw [List.mem_singleton.1 hy]; exact ⟨rfl, fun b hb => by cases hb⟩
    · cases hy
  | succ n ih =>
    intro o ys hy
    unfold choiceL at hy
    rcases List.mem_append.1 hy with h | h
    · split at h
      · obtain ⟨zs, hz, rfl⟩ := List.mem_map.1 h
        have := ih (o - 1) zs hz
        refine ⟨by simp [this.1], fun b hb => ?_⟩
        rcases List.mem_cons.1 hb with rfl | hb
        · exact .inr rfl
        · exact this.2 b hb
      · cases h
    · obtain ⟨zs, hz, rfl⟩ := List.mem_map.1 h
      have := ih o zs hz
      refine ⟨by simp [this.1], fun b hb => ?_⟩
      rcases List.mem_cons.1 hb with rfl | hb
      · exact .inl rfl
      · exact this.2 b hb
theorem choice_getD (n o i : Nat) : ((choiceL n o).getD i []).length ≤ n := getD_row (b := n) (fun ys hy => Nat.le_of_eq (choice_row n o ys hy).1) i
theorem chB_length (n o b : Nat) : (chB n o b).length ≤ 2 ^ n := by
  unfold chB
  split
  · rw [List.length_map]; exact choice_length n _
  · simp
theorem chPart_length (n o X : Nat) : (chPart n o X).length ≤ 2 ^ n + 2 ^ n := by
  have h1 := chB_length n o 1
  have h2 := chB_length n o 0
  unfold chPart
  split
  · rw [List.length_append]; omega
  · split
    · omega
    · simp

theorem choice_zero (o : Nat) : choiceL 0 o = if o = 0 then [[]] else [] := rfl
end
end Go.Proofs.YtmfdimdcoeapoaaGreat
namespace Go.Proofs.YtmfdimdcoeapoaaGreat
section
open Go.RowKit
set_option linter.unusedVariables false
set_option linter.unusedSimpArgs false
set_option maxRecDepth 20000

def allC (n : Nat) : List (List Int) := (choiceL (hgt n + 1) (n - tri (hgt n))).map fromB
theorem rings_choice : ∀ n, n < 29 → ringsL n = choiceL (hgt n + 1) (n - tri (hgt n)) := by decide +kernel
theorem allC_rings (n : Nat) (h : n ≤ 28) : (ringsL n).map fromB = allC n := by unfold allC; rw [rings_choice n (by omega)]
theorem tri_prod (K : Nat) (h7 : K ≤ 7) : (0 : Int) ≤ (K : Int) * ((K : Int) + 1) ∧ (K : Int) * ((K : Int) + 1) ≤ 56 ∧ (K : Int) * ((K : Int) + 1) / 2 = (tri K : Nat) ∧ Int.tdiv ((K : Int) * ((K : Int) + 1)) 2 = (tri K : Nat) := by
  have hk : K = 0 ∨ K = 1 ∨ K = 2 ∨ K = 3 ∨ K = 4 ∨ K = 5 ∨ K = 6 ∨ K = 7 := by omega
  rcases hk with rfl | rfl | rfl | rfl | rfl | rfl | rfl | rfl <;> decide

theorem choice_count : ∀ n, n < 29 → (choiceL (hgt n + 1) (n - tri (hgt n))).length ≤ 256 := by decide +kernel
theorem choice_good : ∀ n, n < 29 → ∀ bs ∈ choiceL (hgt n + 1) (n - tri (hgt n)), Good (fromB bs) ∧ (fromB bs).sum = n ∧ 0 ∈ bs := by decide +kernel
theorem allC_length (n : Nat) (h : n ≤ 28) : (allC n).length ≤ 256 := by unfold allC; rw [List.length_map]; exact choice_count n (by omega)
theorem allC_good {n : Nat} (h : n ≤ 28) {xs : List Int} (hx : xs ∈ allC n) : Good xs ∧ xs.sum = n ∧ Cyc xs := by
  unfold allC at hx
  obtain ⟨bs, hb, rfl⟩ := List.mem_map.1 hx
  obtain ⟨h1, h2, h3⟩ := choice_good n (by omega) bs hb
  exact ⟨h1, h2, fromB_cyc (choice_row _ _ bs hb).2 h3 (by omega)⟩
def mCyclicPiles (n : Int) : List (List Int) × Bool := if 0 ≤ n ∧ n ≤ 28 then (allC n.toNat, true) else ([], false)
theorem mCyc_yes (n : Nat) (h : n ≤ 28) : mCyclicPiles n = (allC n, true) := by unfold mCyclicPiles; rw [if_pos (by omega)]; rfl
theorem mCyc_no (n : Int) (h : ¬ (0 ≤ n ∧ n ≤ 28)) : mCyclicPiles n = ([], false) := by unfold mCyclicPiles; rw [if_neg h]
theorem mCyclicPiles_bound (n : Int) : (mCyclicPiles n).1.length ≤ 1048576 ∧ total (mCyclicPiles n).1 ≤ 1048576 := by
  by_cases h : 0 ≤ n ∧ n ≤ 28
  · obtain ⟨m, rfl⟩ := Int.eq_ofNat_of_zero_le h.1
    rw [mCyc_yes m (by omega)]
    have h1 := allC_length m (by omega)
    have h2 := total_le (allC m) 28 (fun ys hy => (allC_good (by omega) hy).1.len)
    refine ⟨by show (allC m).length ≤ _; omega, ?_⟩
    show total (allC m) ≤ _
    omega
  · rw [mCyc_no n h]; simp [total]

theorem RingRow.nine {B E w g n cap rs} (h : RingRow B E w (some ⟨g, 0, none⟩) n cap rs) (i : Nat) (hi : i < n) {b0 b1 b2 b3 b4 b5 b6 b7 : Int} {m : Nat} (hr : R9 (rs.getD i []) b0 b1 b2 b3 b4 b5 b6 b7 m) :
    w.cell? ⟨g, i * 9, none⟩ = some (.int .i64 b0) ∧ w.cell? ⟨g, i * 9 + 1, none⟩ = some (.int .i64 b1) ∧ w.cell? ⟨g, i * 9 + 2, none⟩ = some (.int .i64 b2) ∧ w.cell? ⟨g, i * 9 + 3, none⟩ = some (.int .i64 b3) ∧ w.cell? ⟨g, i * 9 + 4, none⟩ = some (.int .i64 b4) ∧
    w.cell? ⟨g, i * 9 + 5, none⟩ = some (.int .i64 b5) ∧ w.cell? ⟨g, i * 9 + 6, none⟩ = some (.int .i64 b6) ∧ w.cell? ⟨g, i * 9 + 7, none⟩ = some (.int .i64 b7) ∧ w.cell? ⟨g, i * 9 + 8, none⟩ = some (.int .i64 m) := by
  obtain ⟨hm, h8, h0, h1, h2, h3, h4, h5, h6, h7⟩ := hr
  have hc := h.cellsAt i hi
  have e : ringCells (rs.getD i []) = [.int .i64 b0, .int .i64 b1, .int .i64 b2, .int .i64 b3, .int .i64 b4, .int .i64 b5, .int .i64 b6, .int .i64 b7, .int .i64 m] := by
    unfold ringCells ring9
    rw [h0, h1, h2, h3, h4, h5, h6, h7, hm]
  rw [e] at hc
  exact ⟨hc 0 (by omega), hc 1 (by omega), hc 2 (by omega), hc 3 (by omega), hc 4 (by omega), hc 5 (by omega), hc 6 (by omega), hc 7 (by omega), hc 8 (by omega)⟩

end
end Go.Proofs.YtmfdimdcoeapoaaGreat
