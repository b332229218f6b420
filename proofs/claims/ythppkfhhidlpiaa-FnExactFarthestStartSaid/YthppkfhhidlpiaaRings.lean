/- Chapter 2: all rings of some cards, by masks. No condition. -/
import Derived.Test.YthppkfhhidlpiaaOnes
namespace Go.Proofs.Ythppkfhhidlpiaa
open Go.RowKit
set_option linter.unusedVariables false
set_option linter.unusedSimpArgs false
set_option maxRecDepth 20000

/-! ### Masks -/
def maskBits (K m : Nat) : List Int := (List.range (K + 1)).map fun (i : Nat) => ((m / 2 ^ (K - i) % 2 : Nat) : Int)
theorem maskBits_length (K m : Nat) : (maskBits K m).length = K + 1 := by simp [maskBits]
theorem maskBits_getD (K m i : Nat) (h : i < K + 1) : (maskBits K m).getD i 0 = ((m / 2 ^ (K - i) % 2 : Nat) : Int) := by
  unfold maskBits
  rw [List.getD_eq_getElem?_getD, List.getElem?_map, List.getElem?_range h]; rfl
theorem maskBits_isB (K m : Nat) : IsB (maskBits K m) := by
  intro b hb
  obtain ⟨i, _, rfl⟩ := List.mem_map.1 hb
  have := Nat.mod_lt (m / 2 ^ (K - i)) (show 0 < 2 by omega)
  omega
/-- the rings of the masks from the greatest one down to m -/
def ringsTo (K o T m : Nat) : List (List Int) := (((List.range (T - m)).map fun d => T - 1 - d).filter fun x => popN 8 x == o).map (maskBits K)
theorem ringsTo_start (K o T : Nat) : ringsTo K o T T = [] := by simp [ringsTo]
theorem ringsTo_step (K o T m : Nat) (h : m + 1 ≤ T) : ringsTo K o T m = ringsTo K o T (m + 1) ++ if popN 8 m = o then [maskBits K m] else [] := by
  unfold ringsTo
  rw [show T - m = (T - (m + 1)) + 1 by omega, List.range_succ, List.map_append, List.filter_append, List.map_append, List.map_singleton, show T - 1 - (T - (m + 1)) = m by omega]
  congr 1
  by_cases hp : popN 8 m = o
  · rw [if_pos hp, List.filter_cons_of_pos (by simpa using hp)]; rfl
  · rw [if_neg hp, List.filter_cons_of_neg (by simpa using hp)]; rfl
def ringsL (n : Nat) : List (List Int) := ringsTo (hgt n) (n - tri (hgt n)) (2 ^ (hgt n + 1)) 0
theorem ringsTo_isB (K o T m : Nat) : ∀ bs ∈ ringsTo K o T m, IsB bs ∧ bs.length = K + 1 := by
  intro bs hb
  obtain ⟨x, _, rfl⟩ := List.mem_map.1 hb
  exact ⟨maskBits_isB K x, maskBits_length K x⟩
theorem ringsTo_length (K o T m : Nat) : (ringsTo K o T m).length ≤ T - m := by
  unfold ringsTo
  rw [List.length_map]
  refine Nat.le_trans (List.length_filter_le _ _) ?_
  simp

/-! ### Rows of rings -/
def ringCells (bs : List Int) : List Value := (ring9 (bs.getD 0 0) (bs.getD 1 0) (bs.getD 2 0) (bs.getD 3 0) (bs.getD 4 0) (bs.getD 5 0) (bs.getD 6 0) (bs.getD 7 0) bs.length).toList
theorem ringCells_length (bs : List Int) : (ringCells bs).length = 9 := rfl
def RingRow (B E : Nat) (w : World) (ao : Option Addr) (n cap : Nat) (rs : List (List Int)) : Prop :=
  w.ownsRow B 76 9 (.slice ao n cap) n (rs.flatMap ringCells) ∧ rs.length = n ∧ ∀ g, (Value.slice ao n cap).ownBlock = some g → g < E
theorem RingRow.nil (B E : Nat) (w : World) : RingRow B E w none 0 0 [] := ⟨World.ownsRow_nil w B _ 9, rfl, fun g hg => by simp [Value.ownBlock] at hg⟩
theorem ringFlat_at (rs : List (List Int)) (i j : Nat) (hi : i < rs.length) (hj : j < 9) : (rs.flatMap ringCells)[i * 9 + j]? = (ringCells (rs.getD i []))[j]? := by
  induction rs generalizing i with
  | nil => simp at hi
  | cons r rs ih =>
    rw [List.flatMap_cons]
    cases i with
    | zero => rw [List.getElem?_append_left (by rw [ringCells_length]; omega)]; simp
    | succ i =>
      rw [List.getElem?_append_right (by rw [ringCells_length]; omega), ringCells_length, show (i + 1) * 9 + j - 9 = i * 9 + j by omega, ih i (by simpa using hi)]
      simp
theorem RingRow.cases {B E w ao n cap rs} (h : RingRow B E w ao n cap rs) (hn : 0 < n) : ∃ g, ao = some ⟨g, 0, none⟩ ∧ B ≤ g ∧ g < E ∧ g < w.heap.size ∧ n ≤ cap ∧ cap ≤ maxLen := by
  rcases h.1.2 with ⟨_, hz⟩ | ⟨g, c, cur, hv, hg, hh, hnc, hcm, rest⟩
  · omega
  · simp only [Value.slice.injEq] at hv
    obtain ⟨rfl, _, rfl⟩ := hv
    exact ⟨g, rfl, hg, h.2.2 g rfl, (Array.getElem?_eq_some_iff.1 hh).1, hnc, hcm⟩
theorem RingRow.cellsAt {B E w g n cap rs} (h : RingRow B E w (some ⟨g, 0, none⟩) n cap rs) (i : Nat) (hi : i < n) (j : Nat) (hj : j < 9) :
    w.cell? ⟨g, i * 9 + j, none⟩ = (ringCells (rs.getD i []))[j]? := by
  have hf := ringFlat_at rs i j (by rw [h.2.1]; exact hi) hj
  have hs : ∃ u, (ringCells (rs.getD i []))[j]? = some u := ⟨_, List.getElem?_eq_getElem (by rw [ringCells_length]; exact hj)⟩
  obtain ⟨u, hu⟩ := hs
  have := World.ownsRow.cells h.1 (g := g) rfl (i * 9 + j) u (by rw [hf, hu])
  rw [Addr.add_lit] at this
  simp only [Nat.zero_add] at this
  rw [this, hu]
theorem RingRow.chg {S : Nat → Prop} {B E w w' ao n cap rs} (h : RingRow B E w ao n cap rs) (hc : Chg S w w') (hs : ∀ g, B ≤ g → g < E → ¬ S g) : RingRow B E w' ao n cap rs := by
  refine ⟨⟨h.1.1, ?_⟩, h.2.1, h.2.2⟩
  rcases h.1.2 with hn | ⟨g, c, cur, hv, hg, hh, rest⟩
  · exact .inl hn
  · refine .inr ⟨g, c, cur, hv, hg, ?_, rest⟩
    have hb : (Value.slice ao n cap).ownBlock = some g := by rw [hv]; rfl
    rw [hc.block g (Array.getElem?_eq_some_iff.1 hh).1 (hs g hg (h.2.2 g hb))]
    exact hh
theorem RingRow.keep {B E w w' ao n cap rs} (h : RingRow B E w ao n cap rs) (hb : Below w.heap.size w w') : RingRow B E w' ao n cap rs :=
  h.chg (S := fun _ => False) (Chg.ofBelow hb) (fun _ _ _ h => h)
theorem RingRow.mono {B B' E E' w ao n cap rs} (h : RingRow B E w ao n cap rs) (hB : B' ≤ B) (hE : E ≤ E') : RingRow B' E' w ao n cap rs := by
  refine ⟨⟨h.1.1, ?_⟩, h.2.1, fun g hg => Nat.lt_of_lt_of_le (h.2.2 g hg) hE⟩
  rcases h.1.2 with hn | ⟨g, c, cur, hv, hg, rest⟩
  · exact .inl hn
  · exact .inr ⟨g, c, cur, hv, Nat.le_trans hB hg, rest⟩
theorem Try.infoRing : (Try.prog.info? 76).map (fun i => (i.zero, i.size, i.bytes)) = some (some ring0, 9, 72) := by kernel_rfl

/-- one ring is appended; it lies in a block of its own, laid just before -/
theorem wpList_pushRing {ops : Array Oper} {rest : List Oper} {o : Oper} {a : Act} {Q : Exit → Act → World → Prop} (w : World) (hgd : o.guard = none) (s x : Operand)
    (ho : o.op = .call { callee := .builtin .append, args := #[s, x], argTypes := #[83, 83] })
    (B E : Nat) (ao : Option Addr) (n cap : Nat) (rs : List (List Int)) (hs : a.eval s = .slice ao n cap) (hown : RingRow B E w ao n cap rs)
    (bs : List Int) (b0 b1 b2 b3 b4 b5 b6 b7 : Int) (m : Nat) (hr : R9 bs b0 b1 b2 b3 b4 b5 b6 b7 m)
    (hx : a.eval x = .slice (some ⟨w.heap.size, 0, none⟩) 1 1) (hn : n ≤ 1000000) (hB : B ≤ w.heap.size)
    (h : ∀ ao' cap' w', RingRow B w'.heap.size w' ao' (n + 1) cap' (rs ++ [bs]) → Below B w w' → w.heap.size ≤ w'.heap.size → wpList Try.prog ops Q rest (a.put o.dst (.slice ao' (n + 1) cap')) w') :
    wpList Try.prog ops Q (o :: rest) a (w.alloc (.cells #[.int .i64 b0, .int .i64 b1, .int .i64 b2, .int .i64 b3, .int .i64 b4, .int .i64 b5, .int .i64 b6, .int .i64 b7, .int .i64 m] 76)) := by
  obtain ⟨i0, hi, hz0, hz1, hz2⟩ := info_parts Try.infoRing
  have hcells : ringCells bs = [.int .i64 b0, .int .i64 b1, .int .i64 b2, .int .i64 b3, .int .i64 b4, .int .i64 b5, .int .i64 b6, .int .i64 b7, .int .i64 m] := by
    obtain ⟨hm, h8, h0, h1, h2, h3, h4, h5, h6, h7⟩ := hr
    unfold ringCells ring9
    rw [h0, h1, h2, h3, h4, h5, h6, h7, hm]
  refine wpList_append_own _ hgd s x 83 ho B 76 i0 ring0 9 72 (by kernel_rfl) hi hz0 hz1 hz2 rfl (by decide) _ n _ hs (hown.1.alloc _) ⟨w.heap.size, 0, none⟩ 1 1 (ringCells bs) hx rfl ?_ ?_ ?_ ?_ (by simp; omega) ?_
  · intro j u hu
    rw [Addr.add_lit, World.cell?_alloc_at _ _ _ _ rfl, ← hu, hcells]
    simp
  · intro u hu
    rw [hcells] at hu
    simp only [List.mem_cons, List.not_mem_nil, or_false] at hu
    rcases hu with rfl | rfl | rfl | rfl | rfl | rfl | rfl | rfl | rfl <;> rfl
  · unfold maxLen; omega
  · omega
  · intro v' w1 hown' hgrow hnil
    have hv : ∃ ao' cap', v' = .slice ao' (n + 1) cap' := by
      rcases hown'.2 with ⟨e, hz⟩ | ⟨g, c, cur, e, _⟩
      · omega
      · exact ⟨_, _, e⟩
    obtain ⟨ao', cap', rfl⟩ := hv
    have hsz := hgrow.size
    refine h ao' cap' w1 ⟨by rw [List.flatMap_append]; simpa using hown', by simp [hown.2.1], fun g hg => (World.ownsRow.lt hown' g hg).2⟩ ?_ (by simp at hsz; omega)
    have hc := Chg.ofGrown hgrow
    refine ⟨hc.os, hc.tape, hc.output, Nat.le_trans (by simp) hc.size, fun k hk => ?_⟩
    rw [hc.block k (by simp; omega) (fun e => by
      have := World.ownsRow.lt hown.1 k (by rw [← e])
      omega), Below.heap_alloc w _ k (by omega)]
end Go.Proofs.Ythppkfhhidlpiaa
