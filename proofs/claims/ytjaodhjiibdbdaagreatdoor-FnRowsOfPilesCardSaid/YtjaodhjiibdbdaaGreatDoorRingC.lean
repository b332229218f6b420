/- Chapter 2: a ring, turned. No condition. -/
import Derived.Test.YtjaodhjiibdbdaaGreatDoorRingB
namespace Go.Proofs.YtjaodhjiibdbdaaGreatDoor
open Go.RowKit
set_option linter.unusedVariables false
set_option linter.unusedSimpArgs false
set_option maxRecDepth 20000

/-! ### Rows of ints of a type of their own -/
theorem rowCells {B E w ty g n cap} {xs : List Int} (h : OwnRow B E w ty (some ⟨g, 0, none⟩) n cap (xs.map (Value.int .i64))) (i : Nat) (hi : i < n) : w.cell? ⟨g, i, none⟩ = some (.int .i64 (xs.getD i 0)) := by
  have h1 := World.ownsRow.cellAt h.1 i (by omega)
  have hl := h.length
  rw [List.length_map] at hl
  rw [h1, List.getElem?_map, List.getElem?_eq_getElem (by omega), List.getD_eq_getElem?_getD, List.getElem?_eq_getElem (by omega)]
  rfl
theorem OwnRow.setI {B E w ty g n cap} {xs : List Int} (h : OwnRow B E w ty (some ⟨g, 0, none⟩) n cap (xs.map (Value.int .i64))) (i : Nat) (x : Int) :
    OwnRow B E (w.setCell ⟨g, i, none⟩ (.int .i64 x)) ty (some ⟨g, 0, none⟩) n cap ((xs.set i x).map (Value.int .i64)) ∧ w.grownBy (w.setCell ⟨g, i, none⟩ (.int .i64 x)) (some g) := by
  obtain ⟨h1, h2⟩ := World.ownsRow.stored h.1 i (.int .i64 x)
  exact ⟨⟨by rw [List.map_set]; exact h1, h.2⟩, h2⟩
theorem OwnRow.frozenI {B E w ty g n cap vs} (h : OwnRow B E w ty (some ⟨g, 0, none⟩) n cap vs) (i : Nat) : w.frozen? ⟨g, i, none⟩ = false := World.ownsRow.frozenAt h.1 i

theorem rowNew {w' : World} {g : Nat} {ty : TypeId} (xs : List Int) (c : Array Value) (n : Nat) (h : w'.heap[g]? = some (.cells c ty)) (hc : c.toList = xs.map (Value.int .i64)) (hn : xs.length = n) (hm : n ≤ 1000) :
    OwnRow g (g + 1) w' ty (some ⟨g, 0, none⟩) n n (xs.map (Value.int .i64)) := by
  refine ⟨⟨by simp [hn], .inr ⟨g, n, c, rfl, Nat.le_refl _, h, Nat.le_refl _, by unfold maxLen; omega, ?_, ?_⟩⟩, fun q hq => by simp [Value.ownBlock] at hq; omega⟩
  · rw [← Array.length_toList, hc]; simp [hn]
  · rw [hc, List.take_of_length_le (by simp [hn])]
theorem heap2 (w : World) (a b : Obj) : ((w.alloc a).alloc b).heap[w.heap.size]? = some a ∧ ((w.alloc a).alloc b).heap[w.heap.size + 1]? = some b := by
  have e : (w.alloc a).heap.size = w.heap.size + 1 := by simp
  refine ⟨by rw [Below.heap_alloc _ _ _ (by omega), heap_alloc_new], by rw [← e, heap_alloc_new]⟩
theorem heap3 (w : World) (a b c : Obj) : (((w.alloc a).alloc b).alloc c).heap[w.heap.size]? = some a ∧ (((w.alloc a).alloc b).alloc c).heap[w.heap.size + 1]? = some b ∧ (((w.alloc a).alloc b).alloc c).heap[w.heap.size + 2]? = some c := by
  have e : ((w.alloc a).alloc b).heap.size = w.heap.size + 2 := by simp
  have h := heap2 w a b
  refine ⟨by rw [Below.heap_alloc _ _ _ (by omega)]; exact h.1, by rw [Below.heap_alloc _ _ _ (by omega)]; exact h.2, by rw [← e, heap_alloc_new]⟩

def put9 (w : World) (g : Nat) (x0 x1 x2 x3 x4 x5 x6 x7 x8 : Int) : World :=
  (((((((((w.setCell ⟨g, 0, none⟩ (.int .i64 x0)).setCell ⟨g, 1, none⟩ (.int .i64 x1)).setCell ⟨g, 2, none⟩ (.int .i64 x2)).setCell ⟨g, 3, none⟩ (.int .i64 x3)).setCell ⟨g, 4, none⟩ (.int .i64 x4)).setCell ⟨g, 5, none⟩ (.int .i64 x5)).setCell ⟨g, 6, none⟩ (.int .i64 x6)).setCell ⟨g, 7, none⟩ (.int .i64 x7)).setCell ⟨g, 8, none⟩ (.int .i64 x8))
theorem Below.ofSet {B E w ty g n cap vs} (hB : B ≤ w.heap.size) (h : OwnRow g E w ty (some ⟨g, 0, none⟩) n cap vs) (hg : B ≤ g) {w' : World} (hgr : w.grownBy w' (some g)) : Below B w w' :=
  (Chg.ofGrown hgr).below hB (fun k hk => by simp at hk; omega)
theorem put9_row {B E w ty g} {y0 y1 y2 y3 y4 y5 y6 y7 y8 : Int} (h : OwnRow g E w ty (some ⟨g, 0, none⟩) 9 9 (([y0, y1, y2, y3, y4, y5, y6, y7, y8] : List Int).map (Value.int .i64))) (hB : B ≤ w.heap.size) (hg : B ≤ g) (x0 x1 x2 x3 x4 x5 x6 x7 x8 : Int) :
    OwnRow g E (put9 w g x0 x1 x2 x3 x4 x5 x6 x7 x8) ty (some ⟨g, 0, none⟩) 9 9 (([x0, x1, x2, x3, x4, x5, x6, x7, x8] : List Int).map (Value.int .i64)) ∧ Below B w (put9 w g x0 x1 x2 x3 x4 x5 x6 x7 x8) := by
  obtain ⟨r0, k0⟩ := h.setI 0 x0
  have b0 := Below.ofSet hB h hg k0
  obtain ⟨r1, k1⟩ := r0.setI 1 x1
  have b1 := b0.trans (Below.ofSet (Nat.le_trans hB b0.size) r0 hg k1)
  obtain ⟨r2, k2⟩ := r1.setI 2 x2
  have b2 := b1.trans (Below.ofSet (Nat.le_trans hB b1.size) r1 hg k2)
  obtain ⟨r3, k3⟩ := r2.setI 3 x3
  have b3 := b2.trans (Below.ofSet (Nat.le_trans hB b2.size) r2 hg k3)
  obtain ⟨r4, k4⟩ := r3.setI 4 x4
  have b4 := b3.trans (Below.ofSet (Nat.le_trans hB b3.size) r3 hg k4)
  obtain ⟨r5, k5⟩ := r4.setI 5 x5
  have b5 := b4.trans (Below.ofSet (Nat.le_trans hB b4.size) r4 hg k5)
  obtain ⟨r6, k6⟩ := r5.setI 6 x6
  have b6 := b5.trans (Below.ofSet (Nat.le_trans hB b5.size) r5 hg k6)
  obtain ⟨r7, k7⟩ := r6.setI 7 x7
  have b7 := b6.trans (Below.ofSet (Nat.le_trans hB b6.size) r6 hg k7)
  obtain ⟨r8, k8⟩ := r7.setI 8 x8
  have b8 := b7.trans (Below.ofSet (Nat.le_trans hB b7.size) r7 hg k8)
  exact ⟨r8, b8⟩
theorem put9_cells {E w ty g} {x0 x1 x2 x3 x4 x5 x6 x7 x8 : Int} (h : OwnRow g E w ty (some ⟨g, 0, none⟩) 9 9 (([x0, x1, x2, x3, x4, x5, x6, x7, x8] : List Int).map (Value.int .i64))) :
    w.cell? ⟨g, 0, none⟩ = some (.int .i64 x0) ∧ w.cell? ⟨g, 1, none⟩ = some (.int .i64 x1) ∧ w.cell? ⟨g, 2, none⟩ = some (.int .i64 x2) ∧ w.cell? ⟨g, 3, none⟩ = some (.int .i64 x3) ∧ w.cell? ⟨g, 4, none⟩ = some (.int .i64 x4) ∧
    w.cell? ⟨g, 5, none⟩ = some (.int .i64 x5) ∧ w.cell? ⟨g, 6, none⟩ = some (.int .i64 x6) ∧ w.cell? ⟨g, 7, none⟩ = some (.int .i64 x7) ∧ w.cell? ⟨g, 8, none⟩ = some (.int .i64 x8) :=
  ⟨rowCells h 0 (by omega), rowCells h 1 (by omega), rowCells h 2 (by omega), rowCells h 3 (by omega), rowCells h 4 (by omega), rowCells h 5 (by omega), rowCells h 6 (by omega), rowCells h 7 (by omega), rowCells h 8 (by omega)⟩
theorem frozen9 {E w ty g vs} (h : OwnRow g E w ty (some ⟨g, 0, none⟩) 9 9 vs) :
    w.frozen? ⟨g, 0, none⟩ = false ∧ w.frozen? ⟨g, 1, none⟩ = false ∧ w.frozen? ⟨g, 2, none⟩ = false ∧ w.frozen? ⟨g, 3, none⟩ = false ∧ w.frozen? ⟨g, 4, none⟩ = false ∧ w.frozen? ⟨g, 5, none⟩ = false ∧ w.frozen? ⟨g, 6, none⟩ = false ∧ w.frozen? ⟨g, 7, none⟩ = false ∧ w.frozen? ⟨g, 8, none⟩ = false :=
  ⟨h.frozenI 0, h.frozenI 1, h.frozenI 2, h.frozenI 3, h.frozenI 4, h.frozenI 5, h.frozenI 6, h.frozenI 7, h.frozenI 8⟩

theorem results_cell_one {fn : Func} {p : Tmp} {ty : TypeId} (h : fn.results = #[.cell p ty]) (tmps : Array Value) (P : Program) (w : World) :
    (results fn tmps).run P w = ((asAddr (tmps.getD p undef)).run P w).andThen fun a w₁ => (loadVar ty a).run P w₁ := by
  simp only [results, h]
  simp [Sem.run_bind, Result.andThen]

/-! ### Bits, put one by one -/
theorem turn_place : ∀ n, n < 9 → ∀ q, q < n → ∀ k, k < n → ∀ j, j < n → ((j + n - q) % n = k ↔ j = (k + q) % n) := by decide +kernel
def turnT (bs : List Int) (n b k : Nat) : List Int := ((List.range 8).map fun j => if j < n ∧ (j + n - b % n) % n < k then bs.getD ((j + n - b % n) % n) 0 else 0) ++ [(n : Int)]
theorem turnT_length (bs : List Int) (n b k : Nat) : (turnT bs n b k).length = 9 := by simp [turnT]
theorem turnT_getD (bs : List Int) (n b k j : Nat) (hj : j < 8) : (turnT bs n b k).getD j 0 = if j < n ∧ (j + n - b % n) % n < k then bs.getD ((j + n - b % n) % n) 0 else 0 := by
  unfold turnT
  rw [List.getD_eq_getElem?_getD, List.getElem?_append_left (by simp; omega), List.getElem?_map, List.getElem?_range hj]; rfl
theorem turnT_last (bs : List Int) (n b k : Nat) : (turnT bs n b k).getD 8 0 = n := by
  unfold turnT
  rw [List.getD_eq_getElem?_getD, List.getElem?_append_right (by simp)]; simp
theorem turnT_zero (bs : List Int) (n b : Nat) : turnT bs n b 0 = [0, 0, 0, 0, 0, 0, 0, 0, (n : Int)] := by
  unfold turnT
  simp only [Nat.not_lt_zero, and_false, if_false]
  rfl
theorem turnT_set (bs : List Int) (n b k : Nat) (h8 : n ≤ 8) (hk : k < n) : (turnT bs n b k).set ((k + b) % n) (bs.getD k 0) = turnT bs n b (k + 1) := by
  have hq := Nat.mod_lt b (show 0 < n by omega)
  have hr := Nat.mod_lt (k + b) (show 0 < n by omega)
  have er : (k + b) % n = (k + b % n) % n := by rw [Nat.add_mod k b, Nat.add_mod k (b % n), Nat.mod_mod]
  apply list_ext_getD
  · rw [List.length_set, turnT_length, turnT_length]
  · intro j hj
    rw [turnT_length] at hj
    by_cases hj8 : j < 8
    · by_cases hjr : j = (k + b) % n
      · subst hjr
        rw [getD_set_eq _ _ _ _ (by rw [turnT_length]; omega), turnT_getD _ _ _ _ _ hj8]
        have := (turn_place n (by omega) (b % n) hq k hk _ hr).2 er
        rw [this, if_pos ⟨hr, by omega⟩]
      · rw [getD_set_ne _ _ _ _ _ (fun e => hjr e.symm), turnT_getD _ _ _ _ _ hj8, turnT_getD _ _ _ _ _ hj8]
        by_cases hjn : j < n
        · have := turn_place n (by omega) (b % n) hq k hk j hjn
          have hne : (j + n - b % n) % n ≠ k := fun e => hjr (by rw [er]; exact this.1 e)
          by_cases hlt : (j + n - b % n) % n < k
          · rw [if_pos ⟨hjn, hlt⟩, if_pos ⟨hjn, by omega⟩]
          · rw [if_neg (by omega), if_neg (by omega)]
        · rw [if_neg (by omega), if_neg (by omega)]
    · have : j = 8 := by omega
      subst this
      rw [getD_set_ne _ _ _ _ _ (by omega), turnT_last, turnT_last]
theorem turnT_all (bs : List Int) (n b : Nat) (hn : bs.length = n) (j : Nat) (hj : j < 8) : (turnT bs n b n).getD j 0 = (rotN b bs).getD j 0 := by
  rw [turnT_getD _ _ _ _ _ hj]
  subst hn
  by_cases hjn : j < bs.length
  · rw [if_pos ⟨hjn, Nat.mod_lt _ (by omega)⟩, rotN_getD _ _ _ hjn]
  · rw [if_neg (by omega), List.getD_eq_getElem?_getD, List.getElem?_eq_none (by rw [rotN_length]; omega)]; rfl

end Go.Proofs.YtjaodhjiibdbdaaGreatDoor
