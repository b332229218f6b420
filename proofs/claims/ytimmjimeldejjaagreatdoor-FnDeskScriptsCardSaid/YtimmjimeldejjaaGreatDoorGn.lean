/- Several texts in one: RingB, RingC, RingD, RingE, RingF, TailI. No condition. -/
import Derived.Test.YtimmjimeldejjaaGreatDoorGo
import Derived.Laws.ResultCell
namespace Go.Proofs.YtimmjimeldejjaaGreatDoor
section
open Go.RowKit
set_option linter.unusedVariables false
set_option linter.unusedSimpArgs false
set_option maxRecDepth 20000

/-- the cells of a ring, one by one -/
def R9 (bs : List Int) (b0 b1 b2 b3 b4 b5 b6 b7 : Int) (n : Nat) : Prop :=
  bs.length = n ∧ n ≤ 8 ∧ bs.getD 0 0 = b0 ∧ bs.getD 1 0 = b1 ∧ bs.getD 2 0 = b2 ∧ bs.getD 3 0 = b3 ∧ bs.getD 4 0 = b4 ∧ bs.getD 5 0 = b5 ∧ bs.getD 6 0 = b6 ∧ bs.getD 7 0 = b7
theorem R9.of {bs : List Int} (h8 : bs.length ≤ 8) : ∃ b0 b1 b2 b3 b4 b5 b6 b7 n, R9 bs b0 b1 b2 b3 b4 b5 b6 b7 n := ⟨_, _, _, _, _, _, _, _, _, rfl, h8, rfl, rfl, rfl, rfl, rfl, rfl, rfl, rfl⟩
theorem R9.v {bs b0 b1 b2 b3 b4 b5 b6 b7 n} (h : R9 bs b0 b1 b2 b3 b4 b5 b6 b7 n) : ringV bs = .agg #[.int .i64 b0, .int .i64 b1, .int .i64 b2, .int .i64 b3, .int .i64 b4, .int .i64 b5, .int .i64 b6, .int .i64 b7, .int .i64 n] := by
  obtain ⟨hn, h8, h0, h1, h2, h3, h4, h5, h6, h7⟩ := h
  unfold ringV ring9
  rw [h0, h1, h2, h3, h4, h5, h6, h7, hn]
theorem R9.list {bs b0 b1 b2 b3 b4 b5 b6 b7 n} (h : R9 bs b0 b1 b2 b3 b4 b5 b6 b7 n) (w : World) :
    Calls Tryz.prog 295 #[.agg #[.int .i64 b0, .int .i64 b1, .int .i64 b2, .int .i64 b3, .int .i64 b4, .int .i64 b5, .int .i64 b6, .int .i64 b7, .int .i64 n]] w fun e w' => ∃ ao cap, e = .returned (.slice ao n cap) ∧ Own w.heap.size w'.heap.size w' ao n cap bs ∧ Below w.heap.size w w' := by
  have := list_any bs w (by rw [h.1]; exact h.2.1)
  rw [h.v, h.1] at this
  exact this

theorem wpList_pushX {ops : Array Oper} {rest : List Oper} {o : Oper} {a : Act} {Q : Exit → Act → World → Prop} (w : World) (hgd : o.guard = none) (s x : Operand)
    (ho : o.op = .call { callee := .builtin .append, args := #[s, x], argTypes := #[24, 24] })
    (B E : Nat) (ao : Option Addr) (n cap : Nat) (xs : List Int) (hs : a.eval s = .slice ao n cap) (hown : Own B E w ao n cap xs) (y : Int)
    (hx : a.eval x = .slice (some ⟨w.heap.size, 0, none⟩) 1 1) (hn : n ≤ 67108863) (hB : B ≤ w.heap.size)
    (h : ∀ ao' cap' w', Own B w'.heap.size w' ao' (n + 1) cap' (xs ++ [y]) → Chg (fun k => (Value.slice ao n cap).ownBlock = some k) w w' → NewOr w (.slice ao n cap) (.slice ao' (n + 1) cap') → wpList Tryz.prog ops Q rest (a.put o.dst (.slice ao' (n + 1) cap')) w') :
    wpList Tryz.prog ops Q (o :: rest) a (w.alloc (.cells #[.int .i64 y] 3)) :=
  wpList_pushVX w hgd s x 24 ho 3 _ 8 Tryz.underlying24 Tryz.infoInt rfl (by decide) B E ao n cap _ hs hown _ rfl hx hn hB (fun ao' cap' w' ho' hc hn => h ao' cap' w' (by unfold Own; rw [List.map_append]; exact ho') hc hn)
theorem Chg.newOr {S : Nat → Prop} {w1 wr w2 : World} {v0 v : Value} (h : Chg S w1 wr) (hn : NewOr w1 v0 v) (hv0 : ∀ g, v0.ownBlock = some g → S g) (hc : Chg (fun k => v.ownBlock = some k) wr w2) : Chg S w1 w2 :=
  ⟨hc.os.trans h.os, hc.tape.trans h.tape, hc.output.trans h.output, Nat.le_trans h.size hc.size, fun k hk hs => (hc.block k (Nat.lt_of_lt_of_le hk h.size) (fun e => by
    rcases hn k e with e' | e'
    · exact hs (hv0 k e')
    · omega)).trans (h.block k hk hs)⟩

set_option maxHeartbeats 800000 in
theorem piles_any (bs : List Int) (w : World) (hB : IsB bs) (h8' : bs.length ≤ 8) :
    Calls Tryz.prog 293 #[ringV bs] w fun e w' => ∃ ao n cap, e = .returned (.slice ao n cap) ∧ Own w.heap.size w'.heap.size w' ao n cap (fromB bs) ∧ Below w.heap.size w w' := by
  obtain ⟨b0, b1, b2, b3, b4, b5, b6, b7, n, hr⟩ := R9.of h8'
  rw [hr.v]
  have h8 := hr.2.1
  have Hr := Lib.hid hr; clear hr
  have H8' := Lib.hid h8'; clear h8'
  go_enter Tryz.func293, Tryz.ntmps293
  go_wp2_with fail
  with_reducible refine (Hr.out.list _).mono ?_
  rintro e w1 ⟨a1, c1, rfl, ho1, hb1⟩
  have hcnt : w1.cell? ⟨w.heap.size, 8, none⟩ = some (.int .i64 n) := by
    rw [hb1.cell (p := ⟨w.heap.size, 8, none⟩) (by simp; omega)]
    simp
  have hemp : Own w.heap.size w1.heap.size w1 (some ⟨w.heap.size + 1, 0, none⟩) 0 0 [] := by
    have h0 := Own.empty (w.alloc (.cells #[.int .i64 b0, .int .i64 b1, .int .i64 b2, .int .i64 b3, .int .i64 b4, .int .i64 b5, .int .i64 b6, .int .i64 b7, .int .i64 n] 160))
    have h1 := h0.keep hb1
    rw [show (w.alloc (.cells #[.int .i64 b0, .int .i64 b1, .int .i64 b2, .int .i64 b3, .int .i64 b4, .int .i64 b5, .int .i64 b6, .int .i64 b7, .int .i64 n] 160)).heap.size = w.heap.size + 1 by simp] at h1
    exact h1.mono (by omega) hb1.size
  have hb2 : Below w.heap.size w w1 := belowTrans ((belowAlloc w _).alloc (by simp) _) hb1 (by simp)
  have ho2 : Own (w.heap.size + 2) w1.heap.size w1 a1 n c1 bs := ho1.mono (by simp) (Nat.le_refl _)
  have hsz : w.heap.size + 2 ≤ w1.heap.size := by have := hb1.size; simp at this; omega
  clear ho1 hb1
  generalize hBe : w.heap.size = B at *
  have HBe := Lib.hid hBe; clear hBe
  go_wp2_with fail
  go_loopw [3, 11] (fun v i wr => ∃ (k : Nat) (a : Option Addr) (m c : Nat), k ≤ n ∧ i = .int .i64 k ∧ v = .slice a m c ∧ Own B wr.heap.size wr a m c (fromT bs n k) ∧ NewOr w1 (.slice (some ⟨B + 1, 0, none⟩) 0 0) (.slice a m c) ∧ Chg (fun q => q = B + 1) w1 wr) (fun _ i _ => n - (intOf i).toNat)
  case atStart => exact ⟨0, _, 0, 0, Nat.zero_le _, rfl, rfl, hemp, NewOr.refl _ _, Chg.refl _ _⟩
  case round =>
    obtain ⟨k, a, m, c, hk, rfl, rfl, hown, hnew, hchg⟩ := hrel
    have hm := hown.length
    have hml := fromT_length bs n k
    rw [hm] at hml
    have Hm := Lib.hid hm; clear hm
    have hls := hchg.size
    by_cases hlt : k < n
    · have hcw : wr.cell? ⟨B, 8, none⟩ = some (.int .i64 n) := by
        rw [World.cell?_of_block (a := ⟨B, 8, none⟩) (hchg.block B (by omega) (by omega))]
        exact hcnt
      have hat := (ho2.chg hchg (fun g h1 h2 h3 => by omega)).at
      obtain ⟨b, oo, rfl, hbl, hc⟩ := hat.cell k hlt
      have hck := hc k hlt
      clear hc hat
      have e := fromT_succ bs n k
      generalize hx : bs.getD k 0 = x at hck e
      have hxm := hB x (getD_mem hx hlt Hr.out.1)
      have Hx := Lib.hid hx; clear hx
      have Hcnt := Lib.hid hcnt; clear hcnt
      have Hnew := Lib.hid hnew; clear hnew
      have Hchg := Lib.hid hchg; clear hchg
      by_cases hx1 : 0 < (n : Int) - 1 - k + x
      · rw [if_pos hx1] at e
        have E := Lib.hid e; clear e
        go_wp2_with (at_builtin; refine wpList_pushX wr rfl _ _ rfl B wr.heap.size a m c _ rfl hown _ rfl (by omega) (by omega) ?_)
        intro ao2 cap2 w2 ho2 hc2 hn2
        have hchg2 := Chg.newOr Hchg.out Hnew.out (fun g hg => by simp [Value.ownBlock] at hg; omega) hc2
        have hnew2 := Hnew.out.trans hls hn2
        clear hown
        go_wp2
        go_roundw
        case rel => exact ⟨k + 1, ao2, _, cap2, by omega, by go_num, rfl, by rw [E.out]; exact ho2, hnew2, hchg2⟩
        case measure => simp [intOf]; omega
      · rw [if_neg hx1, List.append_nil] at e
        have E := Lib.hid e; clear e
        go_wp2
        go_roundw
        case rel => exact ⟨k + 1, a, m, c, by omega, by go_num, rfl, by rw [E.out]; exact hown, Hnew.out, Hchg.out⟩
        case measure => simp [intOf]; omega
    · obtain rfl : n = k := by omega
      rw [fromT_all bs n Hr.out.1] at hown
      go_wp2
      go_ret
      rw [HBe.out]
      exact ⟨_, _, _, rfl, hown, hb2.trans (hchg.below (by omega) (fun q hq => by omega))⟩
end
end Go.Proofs.YtimmjimeldejjaaGreatDoor
namespace Go.Proofs.YtimmjimeldejjaaGreatDoor
section
open Go.RowKit
set_option linter.unusedVariables false
set_option linter.unusedSimpArgs false
set_option maxRecDepth 20000

/-! ### Rows of ints of a type of their own -/
theorem rowCells {B E w ty g n cap} {xs : List Int} (h : OwnRow B E w ty (some ⟨g, 0, none⟩) n cap (xs.map (Value.int .i64))) (i : Nat) (hi : i < n) : w.cell? ⟨g, i, none⟩ = some (.int .i64 (xs.getD i 0)) := by
  have h1 := World.ownsRow.cellAt h.1 i (by omega)
  have hl := h.length
  rw [List.length_map] at hl
  rw [h1, List.getElem?_map, List.getElem?_eq_getElem (by omega), List.getD_eq_getElem?_getD, List.getElem?_eq_getElem (by omega)]
  rfl
theorem OwnRow.setI {B E w ty g n cap} {xs : List Int} (h : OwnRow B E w ty (some ⟨g, 0, none⟩) n cap (xs.map (Value.int .i64))) (i : Nat) (x : Int) :
    OwnRow B E (w.setCell ⟨g, i, none⟩ (.int .i64 x)) ty (some ⟨g, 0, none⟩) n cap ((xs.set i x).map (Value.int .i64)) ∧ w.grownBy (w.setCell ⟨g, i, none⟩ (.int .i64 x)) (some g) := by
  obtain ⟨h1, h2⟩ := World.ownsRow.stored h.1 i (.int .i64 x)
  exact ⟨⟨by rw [List.map_set]; exact h1, h.2⟩, h2⟩
theorem OwnRow.frozenI {B E w ty g n cap vs} (h : OwnRow B E w ty (some ⟨g, 0, none⟩) n cap vs) (i : Nat) : w.frozen? ⟨g, i, none⟩ = false := World.ownsRow.frozenAt h.1 i

theorem rowNew {w' : World} {g : Nat} {ty : TypeId} (xs : List Int) (c : Array Value) (n : Nat) (h : w'.heap[g]? = some (.cells c ty)) (hc : c.toList = xs.map (Value.int .i64)) (hn : xs.length = n) (hm : n ≤ 1000) :
    OwnRow g (g + 1) w' ty (some ⟨g, 0, none⟩) n n (xs.map (Value.int .i64)) := by
  refine ⟨⟨by simp [hn], .inr ⟨g, n, c, rfl, Nat.le_refl _, h, Nat.le_refl _, by unfold maxLen; omega, ?_, ?_⟩⟩, fun q hq => by simp [Value.ownBlock] at hq; omega⟩
  · rw [← Array.length_toList, hc]; simp [hn]
  · rw [hc, List.take_of_length_le (by simp [hn])]
theorem heap2 (w : World) (a b : Obj) : ((w.alloc a).alloc b).heap[w.heap.size]? = some a ∧ ((w.alloc a).alloc b).heap[w.heap.size + 1]? = some b := by
  have e : (w.alloc a).heap.size = w.heap.size + 1 := by simp
  refine ⟨by rw [Below.heap_alloc _ _ _ (by omega), heap_alloc_new], by rw [← e, heap_alloc_new]⟩
theorem heap3 (w : World) (a b c : Obj) : (((w.alloc a).alloc b).alloc c).heap[w.heap.size]? = some a ∧ (((w.alloc a).alloc b).alloc c).heap[w.heap.size + 1]? = some b ∧ (((w.alloc a).alloc b).alloc c).heap[w.heap.size + 2]? = some c := by
  have e : ((w.alloc a).alloc b).heap.size = w.heap.size + 2 := by simp
  have h := heap2 w a b
  refine ⟨by rw [Below.heap_alloc _ _ _ (by omega)]; exact h.1, by rw [Below.heap_alloc _ _ _ (by omega)]; exact h.2, by rw [← e, heap_alloc_new]⟩

def put9 (w : World) (g : Nat) (x0 x1 x2 x3 x4 x5 x6 x7 x8 : Int) : World :=
  (((((((((w.setCell ⟨g, 0, none⟩ (.int .i64 x0)).setCell ⟨g, 1, none⟩ (.int .i64 x1)).setCell ⟨g, 2, none⟩ (.int .i64 x2)).setCell ⟨g, 3, none⟩ (.int .i64 x3)).setCell ⟨g, 4, none⟩ (.int .i64 x4)).setCell ⟨g, 5, none⟩ (.int .i64 x5)).setCell ⟨g, 6, none⟩ (.int .i64 x6)).setCell ⟨g, 7, none⟩ (.int .i64 x7)).setCell ⟨g, 8, none⟩ (.int .i64 x8))
theorem Below.ofSet {B E w ty g n cap vs} (hB : B ≤ w.heap.size) (h : OwnRow g E w ty (some ⟨g, 0, none⟩) n cap vs) (hg : B ≤ g) {w' : World} (hgr : w.grownBy w' (some g)) : Below B w w' :=
  (Chg.ofGrown hgr).below hB (fun k hk => by simp at hk; omega)
theorem put9_row {B E w ty g} {y0 y1 y2 y3 y4 y5 y6 y7 y8 : Int} (h : OwnRow g E w ty (some ⟨g, 0, none⟩) 9 9 (([y0, y1, y2, y3, y4, y5, y6, y7, y8] : List Int).map (Value.int .i64))) (hB : B ≤ w.heap.size) (hg : B ≤ g) (x0 x1 x2 x3 x4 x5 x6 x7 x8 : Int) :
    OwnRow g E (put9 w g x0 x1 x2 x3 x4 x5 x6 x7 x8) ty (some ⟨g, 0, none⟩) 9 9 (([x0, x1, x2, x3, x4, x5, x6, x7, x8] : List Int).map (Value.int .i64)) ∧ Below B w (put9 w g x0 x1 x2 x3 x4 x5 x6 x7 x8) := by
  obtain ⟨r0, k0⟩ := h.setI 0 x0
  have b0 := Below.ofSet hB h hg k0
  obtain ⟨r1, k1⟩ := r0.setI 1 x1
  have b1 := b0.trans (Below.ofSet (Nat.le_trans hB b0.size) r0 hg k1)
  obtain ⟨r2, k2⟩ := r1.setI 2 x2
  have b2 := b1.trans (Below.ofSet (Nat.le_trans hB b1.size) r1 hg k2)
  obtain ⟨r3, k3⟩ := r2.setI 3 x3
  have b3 := b2.trans (Below.ofSet (Nat.le_trans hB b2.size) r2 hg k3)
  obtain ⟨r4, k4⟩ := r3.setI 4 x4
  have b4 := b3.trans (Below.ofSet (Nat.le_trans hB b3.size) r3 hg k4)
  obtain ⟨r5, k5⟩ := r4.setI 5 x5
  have b5 := b4.trans (Below.ofSet (Nat.le_trans hB b4.size) r4 hg k5)
  obtain ⟨r6, k6⟩ := r5.setI 6 x6
  have b6 := b5.trans (Below.ofSet (Nat.le_trans hB b5.size) r5 hg k6)
  obtain ⟨r7, k7⟩ := r6.setI 7 x7
  have b7 := b6.trans (Below.ofSet (Nat.le_trans hB b6.size) r6 hg k7)
  obtain ⟨r8, k8⟩ := r7.setI 8 x8
  have b8 := b7.trans (Below.ofSet (Nat.le_trans hB b7.size) r7 hg k8)
  exact ⟨r8, b8⟩
theorem put9_cells {E w ty g} {x0 x1 x2 x3 x4 x5 x6 x7 x8 : Int} (h : OwnRow g E w ty (some ⟨g, 0, none⟩) 9 9 (([x0, x1, x2, x3, x4, x5, x6, x7, x8] : List Int).map (Value.int .i64))) :
    w.cell? ⟨g, 0, none⟩ = some (.int .i64 x0) ∧ w.cell? ⟨g, 1, none⟩ = some (.int .i64 x1) ∧ w.cell? ⟨g, 2, none⟩ = some (.int .i64 x2) ∧ w.cell? ⟨g, 3, none⟩ = some (.int .i64 x3) ∧ w.cell? ⟨g, 4, none⟩ = some (.int .i64 x4) ∧
    w.cell? ⟨g, 5, none⟩ = some (.int .i64 x5) ∧ w.cell? ⟨g, 6, none⟩ = some (.int .i64 x6) ∧ w.cell? ⟨g, 7, none⟩ = some (.int .i64 x7) ∧ w.cell? ⟨g, 8, none⟩ = some (.int .i64 x8) :=
  ⟨rowCells h 0 (by omega), rowCells h 1 (by omega), rowCells h 2 (by omega), rowCells h 3 (by omega), rowCells h 4 (by omega), rowCells h 5 (by omega), rowCells h 6 (by omega), rowCells h 7 (by omega), rowCells h 8 (by omega)⟩
theorem frozen9 {E w ty g vs} (h : OwnRow g E w ty (some ⟨g, 0, none⟩) 9 9 vs) :
    w.frozen? ⟨g, 0, none⟩ = false ∧ w.frozen? ⟨g, 1, none⟩ = false ∧ w.frozen? ⟨g, 2, none⟩ = false ∧ w.frozen? ⟨g, 3, none⟩ = false ∧ w.frozen? ⟨g, 4, none⟩ = false ∧ w.frozen? ⟨g, 5, none⟩ = false ∧ w.frozen? ⟨g, 6, none⟩ = false ∧ w.frozen? ⟨g, 7, none⟩ = false ∧ w.frozen? ⟨g, 8, none⟩ = false :=
  ⟨h.frozenI 0, h.frozenI 1, h.frozenI 2, h.frozenI 3, h.frozenI 4, h.frozenI 5, h.frozenI 6, h.frozenI 7, h.frozenI 8⟩

theorem results_cell_one {fn : Func} {p : Tmp} {ty : TypeId} (h : fn.results = #[.cell p ty]) (tmps : Array Value) (P : Program) (w : World) :
    (results fn tmps).run P w = ((asAddr (tmps.getD p undef)).run P w).andThen fun a w₁ => (loadVar ty a).run P w₁ := by
  simp only [results, h]
  simp [Sem.run_bind, Result.andThen]

/-! ### Bits, put one by one -/
theorem turn_place : ∀ n, n < 9 → ∀ q, q < n → ∀ k, k < n → ∀ j, j < n → ((j + n - q) % n = k ↔ j = (k + q) % n) := by decide +kernel
def turnT (bs : List Int) (n b k : Nat) : List Int := ((List.range 8).map fun j => if j < n ∧ (j + n - b % n) % n < k then bs.getD ((j + n - b % n) % n) 0 else 0) ++ [(n : Int)]
theorem turnT_length (bs : List Int) (n b k : Nat) : (turnT bs n b k).length = 9 := by simp [turnT]
theorem turnT_getD (bs : List Int) (n b k j : Nat) (hj : j < 8) : (turnT bs n b k).getD j 0 = if j < n ∧ (j + n - b % n) % n < k then bs.getD ((j + n - b % n) % n) 0 else 0 := by
  unfold turnT
  rw [List.getD_eq_getElem?_getD, List.getElem?_append_left (by simp; omega), List.getElem?_map, List.getElem?_range hj]; rfl
theorem turnT_last (bs : List Int) (n b k : Nat) : (turnT bs n b k).getD 8 0 = n := by
  unfold turnT
  rw [List.getD_eq_getElem?_getD, List.getElem?_append_right (by simp)]; simp
theorem turnT_zero (bs : List Int) (n b : Nat) : turnT bs n b 0 = [0, 0, 0, 0, 0, 0, 0, 0, (n : Int)] := by
  unfold turnT
  simp only [Nat.not_lt_zero, and_false, if_false]
  rfl
theorem turnT_set (bs : List Int) (n b k : Nat) (h8 : n ≤ 8) (hk : k < n) : (turnT bs n b k).set ((k + b) % n) (bs.getD k 0) = turnT bs n b (k + 1) := by
  have hq := Nat.mod_lt b (show 0 < n by omega)
  have hr := Nat.mod_lt (k + b) (show 0 < n by omega)
  have er : (k + b) % n = (k + b % n) % n := by rw [Nat.add_mod k b, Nat.add_mod k (b % n), Nat.mod_mod]
  apply list_ext_getD
  · rw [List.length_set, turnT_length, turnT_length]
  · intro j hj
    rw [turnT_length] at hj
    by_cases hj8 : j < 8
    · by_cases hjr : j = (k + b) % n
      · subst hjr
        rw [getD_set_eq _ _ _ _ (by rw [turnT_length]; omega), turnT_getD _ _ _ _ _ hj8]
        have := (turn_place n (by omega) (b % n) hq k hk _ hr).2 er
        rw [this, if_pos ⟨hr, by omega⟩]
      · rw [getD_set_ne _ _ _ _ _ (fun e => hjr e.symm), turnT_getD _ _ _ _ _ hj8, turnT_getD _ _ _ _ _ hj8]
        by_cases hjn : j < n
        · have := turn_place n (by omega) (b % n) hq k hk j hjn
          have hne : (j + n - b % n) % n ≠ k := fun e => hjr (by rw [er]; exact this.1 e)
          by_cases hlt : (j + n - b % n) % n < k
          · rw [if_pos ⟨hjn, hlt⟩, if_pos ⟨hjn, by omega⟩]
          · rw [if_neg (by omega), if_neg (by omega)]
        · rw [if_neg (by omega), if_neg (by omega)]
    · have : j = 8 := by omega
      subst this
      rw [getD_set_ne _ _ _ _ _ (by omega), turnT_last, turnT_last]
theorem turnT_all (bs : List Int) (n b : Nat) (hn : bs.length = n) (j : Nat) (hj : j < 8) : (turnT bs n b n).getD j 0 = (rotN b bs).getD j 0 := by
  rw [turnT_getD _ _ _ _ _ hj]
  subst hn
  by_cases hjn : j < bs.length
  · rw [if_pos ⟨hjn, Nat.mod_lt _ (by omega)⟩, rotN_getD _ _ _ hjn]
  · rw [if_neg (by omega), List.getD_eq_getElem?_getD, List.getElem?_eq_none (by rw [rotN_length]; omega)]; rfl

set_option maxHeartbeats 1600000 in
theorem turned_any (bs : List Int) (b : Nat) (w : World) (h8' : bs.length ≤ 8) (hby : b ≤ 1000) :
    Calls Tryz.prog 294 #[ringV bs, .int .i64 b] w fun e w' => e = .returned (ringV (rotN b bs)) ∧ Below w.heap.size w w' := by
  obtain ⟨b0, b1, b2, b3, b4, b5, b6, b7, n, hr⟩ := R9.of h8'
  obtain ⟨d0, d1, d2, d3, d4, d5, d6, d7, n', hr'⟩ := R9.of (bs := rotN b bs) (by rw [rotN_length]; exact h8')
  have hnn : n' = n := by have := hr'.1; rw [rotN_length, hr.1] at this; exact this.symm
  subst hnn
  rw [hr.v, hr'.v]
  have h8 := hr.2.1
  have Hr := Lib.hid hr; clear hr
  have Hr' := Lib.hid hr'; clear hr'
  have H8' := Lib.hid h8'; clear h8'
  go_enter Tryz.func294, Tryz.ntmps294
  go_wp2_with fail
  with_reducible refine (Hr.out.list _).mono ?_
  rintro e w1 ⟨a1, c1, rfl, ho1, hb1⟩
  have h3 := heap3 w (.cells #[.int .i64 b0, .int .i64 b1, .int .i64 b2, .int .i64 b3, .int .i64 b4, .int .i64 b5, .int .i64 b6, .int .i64 b7, .int .i64 n'] 160)
    (.cells #[.int .i64 0, .int .i64 0, .int .i64 0, .int .i64 0, .int .i64 0, .int .i64 0, .int .i64 0, .int .i64 0, .int .i64 0] 160)
    (.cells #[.int .i64 0, .int .i64 0, .int .i64 0, .int .i64 0, .int .i64 0, .int .i64 0, .int .i64 0, .int .i64 0, .int .i64 n'] 160)
  have hb2 := belowTrans (((belowAlloc w (.cells #[.int .i64 b0, .int .i64 b1, .int .i64 b2, .int .i64 b3, .int .i64 b4, .int .i64 b5, .int .i64 b6, .int .i64 b7, .int .i64 n'] 160)).alloc (by simp only [World.size_alloc]; omega)
    (.cells #[.int .i64 0, .int .i64 0, .int .i64 0, .int .i64 0, .int .i64 0, .int .i64 0, .int .i64 0, .int .i64 0, .int .i64 0] 160)).alloc (by simp only [World.size_alloc]; omega)
    (.cells #[.int .i64 0, .int .i64 0, .int .i64 0, .int .i64 0, .int .i64 0, .int .i64 0, .int .i64 0, .int .i64 0, .int .i64 n'] 160)) hb1 (Nat.le_refl _)
  have hr0 := rowNew [b0, b1, b2, b3, b4, b5, b6, b7, (n' : Int)] _ 9 ((hb1.block _ (by simp only [World.size_alloc]; omega)).trans h3.1) rfl rfl (by omega)
  have hr1 := rowNew [0, 0, 0, 0, 0, 0, 0, 0, 0] _ 9 ((hb1.block _ (by simp only [World.size_alloc]; omega)).trans h3.2.1) rfl rfl (by omega)
  have hr2 : OwnRow (w.heap.size + 2) (w.heap.size + 3) w1 160 (some ⟨w.heap.size + 1 + 1, 0, none⟩) 9 9 ((turnT bs n' b 0).map (Value.int .i64)) := rowNew (turnT bs n' b 0) _ 9 ((hb1.block _ (by simp only [World.size_alloc]; omega)).trans h3.2.2) (by rw [turnT_zero]; rfl) (turnT_length _ _ _ _) (by omega)
  have ho2 : Own (w.heap.size + 3) w1.heap.size w1 a1 n' c1 bs := ho1.mono (by simp) (Nat.le_refl _)
  have hsz : w.heap.size + 3 ≤ w1.heap.size := by have := hb1.size; simp at this; omega
  clear ho1 hb1 h3
  generalize hBe : w.heap.size = B at *
  have HBe := Lib.hid hBe; clear hBe
  go_wp2_with fail
  go_loopw [14] (fun i wr => ∃ k : Nat, k ≤ n' ∧ i = .int .i64 k ∧ OwnRow (B + 2) (B + 3) wr 160 (some ⟨B + 1 + 1, 0, none⟩) 9 9 ((turnT bs n' b k).map (Value.int .i64)) ∧ Chg (fun q => q = B + 2) w1 wr) (fun i _ => n' - (intOf i).toNat)
  case atStart => exact ⟨0, Nat.zero_le _, rfl, hr2, Chg.refl _ _⟩
  case round =>
    obtain ⟨k, hk, rfl, hrow, hchg⟩ := hrel
    have hls := hchg.size
    by_cases hlt : k < n'
    · have hat := (ho2.chg hchg (fun g h1 h2 h3 => by omega)).at
      have hcw := rowCells (hr0.chg hchg (fun g h1 h2 h3 => by omega)) 8 (by omega)
      rw [show ([b0, b1, b2, b3, b4, b5, b6, b7, (n' : Int)] : List Int).getD 8 0 = n' from rfl] at hcw
      obtain ⟨bl, oo, rfl, hbl, hc⟩ := hat.cell k hlt
      have hck := hc k hlt
      clear hc hat
      have hset := turnT_set bs n' b k h8 hlt
      have hmd := Nat.mod_lt (k + b) (show 0 < n' by omega)
      have t1 : Int.tmod ((k : Int) + b) (n' : Int) = (((k + b) % n' : Nat) : Int) := by
        have := tmod_nat (k + b) n'
        rw [show ((k + b : Nat) : Int) = (k : Int) + b by omega] at this
        exact this
      generalize hJ : (k + b) % n' = J at *
      have hcJ := rowCells hrow J (by omega)
      have hfJ := hrow.frozenI J
      generalize hx : bs.getD k 0 = x at hck hset
      generalize hy : (turnT bs n' b k).getD J 0 = y at hcJ
      obtain ⟨hst, hgr⟩ := hrow.setI J x
      rw [hset] at hst
      have Hx := Lib.hid hx; clear hx
      have Hy := Lib.hid hy; clear hy
      have HJ := Lib.hid hJ; clear hJ
      have Hset := Lib.hid hset; clear hset
      have Hst := Lib.hid hst; clear hst
      have Hgr := Lib.hid hgr; clear hgr
      have Hchg := Lib.hid hchg; clear hchg
      have Hrow := Lib.hid hrow; clear hrow
      go_wp2
      go_roundw
      case rel => exact ⟨k + 1, by omega, by go_num, Hst.out, Hchg.out.trans ((Chg.ofGrown Hgr.out).mono (fun q hq => by simpa using hq))⟩
      case measure => simp [intOf]; omega
    · obtain rfl : n' = k := by omega
      have hv : ∀ j, j < 8 → (turnT bs n' b n').getD j 0 = (rotN b bs).getD j 0 := turnT_all bs n' b Hr.out.1
      have e0 := (hv 0 (by omega)).trans Hr'.out.2.2.1
      have e1 := (hv 1 (by omega)).trans Hr'.out.2.2.2.1
      have e2 := (hv 2 (by omega)).trans Hr'.out.2.2.2.2.1
      have e3 := (hv 3 (by omega)).trans Hr'.out.2.2.2.2.2.1
      have e4 := (hv 4 (by omega)).trans Hr'.out.2.2.2.2.2.2.1
      have e5 := (hv 5 (by omega)).trans Hr'.out.2.2.2.2.2.2.2.1
      have e6 := (hv 6 (by omega)).trans Hr'.out.2.2.2.2.2.2.2.2.1
      have e7 := (hv 7 (by omega)).trans Hr'.out.2.2.2.2.2.2.2.2.2
      have e8 := turnT_last bs n' b n'
      have c0 := rowCells hrow 0 (by omega)
      have c1 := rowCells hrow 1 (by omega)
      have c2 := rowCells hrow 2 (by omega)
      have c3 := rowCells hrow 3 (by omega)
      have c4 := rowCells hrow 4 (by omega)
      have c5 := rowCells hrow 5 (by omega)
      have c6 := rowCells hrow 6 (by omega)
      have c7 := rowCells hrow 7 (by omega)
      have c8 := rowCells hrow 8 (by omega)
      rw [e0] at c0
      rw [e1] at c1
      rw [e2] at c2
      rw [e3] at c3
      rw [e4] at c4
      rw [e5] at c5
      rw [e6] at c6
      rw [e7] at c7
      rw [e8] at c8
      have hres := hr1.chg hchg (fun g h1 h2 h3 => by omega)
      obtain ⟨g0, g1, g2, g3, g4, g5, g6, g7, g8⟩ := put9_cells hres
      obtain ⟨f0, f1, f2, f3, f4, f5, f6, f7, f8⟩ := frozen9 hres
      obtain ⟨hput, hbp⟩ := put9_row (B := B) hres (by omega) (by omega) d0 d1 d2 d3 d4 d5 d6 d7 (n' : Int)
      obtain ⟨p0, p1, p2, p3, p4, p5, p6, p7, p8⟩ := put9_cells hput
      have hbelow : Below B w (put9 wr (B + 1) d0 d1 d2 d3 d4 d5 d6 d7 n') := (hb2.trans (hchg.below (by omega) (fun q hq => by omega))).trans hbp
      unfold put9 at hput hbp p0 p1 p2 p3 p4 p5 p6 p7 p8 hbelow
      have Hput := Lib.hid hput; clear hput
      have Hbp := Lib.hid hbp; clear hbp
      have Hbelow := Lib.hid hbelow; clear hbelow
      have P := Lib.hid (And.intro p0 (And.intro p1 (And.intro p2 (And.intro p3 (And.intro p4 (And.intro p5 (And.intro p6 (And.intro p7 p8))))))))
      clear p0 p1 p2 p3 p4 p5 p6 p7 p8
      have E0 := Lib.hid e0; clear e0
      have E1 := Lib.hid e1; clear e1
      have E2 := Lib.hid e2; clear e2
      have E3 := Lib.hid e3; clear e3
      have E4 := Lib.hid e4; clear e4
      have E5 := Lib.hid e5; clear e5
      have E6 := Lib.hid e6; clear e6
      have E7 := Lib.hid e7; clear e7
      have E8 := Lib.hid e8; clear e8
      have Hv := Lib.hid hv; clear hv
      have Hrow := Lib.hid hrow; clear hrow
      have Hres := Lib.hid hres; clear hres
      have Hchg := Lib.hid hchg; clear hchg
      have Hr0 := Lib.hid hr0; clear hr0
      have Hr1 := Lib.hid hr1; clear hr1
      have Hr2 := Lib.hid hr2; clear hr2
      have Ho2 := Lib.hid ho2; clear ho2
      go_wp2
      rw [HBe.out]
      refine bodyPost_ret (v := .agg #[.int .i64 d0, .int .i64 d1, .int .i64 d2, .int .i64 d3, .int .i64 d4, .int .i64 d5, .int .i64 d6, .int .i64 d7, .int .i64 n']) ?_ rfl ⟨rfl, Hbelow.out⟩
      obtain ⟨p0, p1, p2, p3, p4, p5, p6, p7, p8⟩ := P.out
      rw [results_cell_one rfl]
      simp [go_sem, asAddr, Result.andThen, loadVar, p0, p1, p2, p3, p4, p5, p6, p7, p8]
end
end Go.Proofs.YtimmjimeldejjaaGreatDoor
namespace Go.Proofs.YtimmjimeldejjaaGreatDoor
section
open Go.RowKit
set_option linter.unusedVariables false
set_option linter.unusedSimpArgs false
set_option maxRecDepth 20000

/-- no ring -/
def ring0 : Value := .agg #[.int .i64 0, .int .i64 0, .int .i64 0, .int .i64 0, .int .i64 0, .int .i64 0, .int .i64 0, .int .i64 0, .int .i64 0]

end
end Go.Proofs.YtimmjimeldejjaaGreatDoor
namespace Go.Proofs.YtimmjimeldejjaaGreatDoor
section
open Go.RowKit
set_option linter.unusedVariables false
set_option linter.unusedSimpArgs false
set_option maxRecDepth 20000

/-- copy of a slice of ints into the first cells of a ring -/
theorem wpList_copyRing {ops : Array Oper} {rest : List Oper} {o : Oper} {a : Act} {Q : Exit → Act → World → Prop} (w : World) (hgd : o.guard = none) (d s : Operand)
    (ho : o.op = .call { callee := .builtin .copy, args := #[d, s], argTypes := #[24, 24] })
    (B E g : Nat) (xs : List Int) (hd : a.eval d = .slice (some ⟨g, 0, none⟩) 8 8) (hown : OwnRow B E w 160 (some ⟨g, 0, none⟩) 9 9 (xs.map (Value.int .i64)))
    (ao : Option Addr) (n c : Nat) (ys : List Int) (hs : a.eval s = .slice ao n c) (hy : IntsAt w ao n c ys) (hn : n ≤ 8)
    (h : ∀ w', OwnRow B E w' 160 (some ⟨g, 0, none⟩) 9 9 ((ys ++ xs.drop n).map (Value.int .i64)) → Chg (fun k => k = g) w w' → wpList Tryz.prog ops Q rest (a.put o.dst (.int .i64 n)) w') :
    wpList Tryz.prog ops Q (o :: rest) a w := by
  have hl := hy.length
  have hxl := hown.length
  rw [List.length_map] at hxl
  by_cases hz : n = 0
  · subst hz
    have hys : ys = [] := List.eq_nil_of_length_eq_zero hl
    subst hys
    refine wpList_copy_nothing hgd d s 24 24 ho 3 Tryz.underlying24 (by kernel_rfl) (some ⟨g, 0, none⟩) ao 8 8 0 c hd hs (by simp) ?_
    exact h w (by simpa using hown) (Chg.refl _ _)
  · obtain ⟨b, oo, rfl, hb, hc⟩ := hy.cell 0 (by omega)
    rcases hown.1.2 with ⟨hv, _⟩ | ⟨g', c', cur, hv, hg, hh, hnc, hcm, hcs, htake⟩
    · simp at hv
    simp only [Value.slice.injEq, Option.some.injEq, Addr.mk.injEq, and_true, true_and] at hv
    obtain ⟨rfl, rfl⟩ := hv
    have hcl : cur.toList = xs.map (Value.int .i64) := by
      rw [← htake, List.take_of_length_le (by simp [hcs])]
    refine wpList_copy_own hgd d s 24 24 ho 3 Tryz.underlying24 (by kernel_rfl) g 0 8 8 ⟨b, oo, none⟩ n c hd hs cur 160 hh (ys.map (Value.int .i64)) (by rw [List.length_map, hl]; exact (Nat.min_eq_left hn).symm) ?_ (by rw [List.length_map, hl]; omega) (ints_oneCell _ _) ?_
    · intro j u hu
      have hj : j < n := by
        have := (List.getElem?_eq_some_iff.1 hu).1
        simpa [hl] using this
      rw [Addr.add_lit, hc j hj]
      rw [List.getElem?_map, List.getElem?_eq_getElem (by omega)] at hu
      simp only [Option.map_some, Option.some.injEq] at hu
      rw [← hu, List.getD_eq_getElem?_getD, List.getElem?_eq_getElem (by omega)]
      rfl
    · have hr := h (w.setRow g (cur.toList.take 0 ++ ((ys.map (Value.int .i64)) ++ cur.toList.drop (0 + (ys.map (Value.int .i64)).length))).toArray) ?_ ?_
      · have e : goInt (ys.map (Value.int .i64)).length = .int .i64 n := by simp [goInt, hl]
        rw [e]
        exact hr
      · refine ⟨⟨by simp [hl, hxl]; omega, .inr ⟨g, 9, _, rfl, hg, setRow_heap w g cur _ 160 _ hh, by omega, hcm, ?_, ?_⟩⟩, hown.2⟩
        · rw [hcl]; simp [hl, hxl]; omega
        · rw [hcl]
          simp [hl, hxl]
          rw [List.take_of_length_le (by simp [hl, hxl]; omega)]
      · exact ⟨rfl, rfl, rfl, by simp [World.setRow], fun k _ hk => setRow_other w g k _ (fun e => hk (by simp [e]))⟩

theorem slAll (b : Nat) (w : World) : (Instr.sliceAt 158 (.pointer (some ⟨b, 0, none⟩)) none none none).run Tryz.prog w = .ok (.slice (some ⟨b, 0, none⟩) 8 8) w := by
  have := run_sliceAt_array_all (P := Tryz.prog) w 158 ⟨b, 0, none⟩ (by kernel_rfl)
  rw [this, sizeRing, lenRing]
  simp [Result.andThen, slicedAt, Addr.add]

/-- the cells of a ring of piles, the first k reckoned -/
def ofT (xs : List Int) (K k : Nat) : List Int := ((List.range 8).map fun (j : Nat) => if j < k then xs.getD j 0 - ((K : Int) - j) else xs.getD j 0) ++ [(K : Int) + 1]
theorem ofT_length (xs : List Int) (K k : Nat) : (ofT xs K k).length = 9 := by simp [ofT]
theorem ofT_getD (xs : List Int) (K k j : Nat) (hj : j < 8) : (ofT xs K k).getD j 0 = if j < k then xs.getD j 0 - ((K : Int) - j) else xs.getD j 0 := by
  unfold ofT
  rw [List.getD_eq_getElem?_getD, List.getElem?_append_left (by simp; omega), List.getElem?_map, List.getElem?_range hj]; rfl
theorem ofT_last (xs : List Int) (K k : Nat) : (ofT xs K k).getD 8 0 = (K : Int) + 1 := by
  unfold ofT
  rw [List.getD_eq_getElem?_getD, List.getElem?_append_right (by simp)]; simp
theorem ofT_zero (xs : List Int) (K n : Nat) (hn : xs.length = n) (h8 : n ≤ 8) : xs ++ ([0, 0, 0, 0, 0, 0, 0, 0, (K : Int) + 1] : List Int).drop n = ofT xs K 0 := by
  apply list_ext_getD
  · rw [ofT_length, List.length_append, List.length_drop]; simp; omega
  · intro j hj
    rw [ofT_length] at hj
    by_cases hj8 : j < 8
    · rw [ofT_getD _ _ _ _ hj8, if_neg (by omega)]
      by_cases hjn : j < n
      · rw [List.getD_eq_getElem?_getD, List.getElem?_append_left (by omega), ← List.getD_eq_getElem?_getD]
      · have hx0 : xs.getD j 0 = 0 := by rw [List.getD_eq_getElem?_getD, List.getElem?_eq_none (by omega)]; rfl
        rw [hx0, List.getD_eq_getElem?_getD, List.getElem?_append_right (by omega), List.getElem?_drop, show n + (j - xs.length) = j by omega]
        have : j = 0 ∨ j = 1 ∨ j = 2 ∨ j = 3 ∨ j = 4 ∨ j = 5 ∨ j = 6 ∨ j = 7 := by omega
        rcases this with rfl | rfl | rfl | rfl | rfl | rfl | rfl | rfl <;> rfl
    · have : j = 8 := by omega
      subst this
      rw [ofT_last, List.getD_eq_getElem?_getD, List.getElem?_append_right (by omega), List.getElem?_drop, show n + (8 - xs.length) = 8 by omega]; rfl
theorem ofT_set (xs : List Int) (K k : Nat) (hk : k < 8) : (ofT xs K k).set k (xs.getD k 0 - ((K : Int) - k)) = ofT xs K (k + 1) := by
  apply list_ext_getD
  · rw [List.length_set, ofT_length, ofT_length]
  · intro j hj
    rw [ofT_length] at hj
    by_cases hj8 : j < 8
    · by_cases hjr : j = k
      · subst hjr
        rw [getD_set_eq _ _ _ _ (by rw [ofT_length]; omega), ofT_getD _ _ _ _ hj8, if_pos (by omega)]
      · rw [getD_set_ne _ _ _ _ _ (fun e => hjr e.symm), ofT_getD _ _ _ _ hj8, ofT_getD _ _ _ _ hj8]
        by_cases hlt : j < k
        · rw [if_pos hlt, if_pos (by omega)]
        · rw [if_neg hlt, if_neg (by omega)]
    · have : j = 8 := by omega
      subst this
      rw [getD_set_ne _ _ _ _ _ (by omega), ofT_last, ofT_last]
theorem ofT_all (xs : List Int) (hl : xs.length ≤ hL xs + 1) (j : Nat) (hj : j < 8) : (ofT xs (hL xs) (hL xs + 1)).getD j 0 = (bitsL xs).getD j 0 := by
  rw [ofT_getD _ _ _ _ hj]
  by_cases h : j < hL xs + 1
  · rw [if_pos h, bitsL_getD _ _ h]
  · rw [if_neg h, List.getD_eq_getElem?_getD, List.getElem?_eq_none (by omega), List.getD_eq_getElem?_getD, List.getElem?_eq_none (by rw [bitsL_length]; omega)]

def ofV (xs : List Int) : Value := if cycB xs = true then ringV (bitsL xs) else ring0
theorem ofV_yes {xs : List Int} (h : cycB xs = true) : ofV xs = ringV (bitsL xs) := by unfold ofV; rw [if_pos h]
theorem ofV_no {xs : List Int} (h : cycB xs = false) : ofV xs = ring0 := by unfold ofV; rw [if_neg (by rw [h]; simp)]

theorem height_of (xs : List Int) (w : World) (hg : Good xs) : ∃ r : Int, Calls Tryz.prog 162 #[.int .i64 xs.sum] w fun e w' => e = .returned (.tuple #[.int .i64 (hL xs), .int .i64 r, .bool true]) ∧ Below w.heap.size w w' := by
  obtain ⟨s, hs, h28⟩ := sum_toNat hg
  have := impl_HeightFor s w
  have hm : mHeightFor s = (((hgt s : Nat) : Int), (s : Int) - ((tri (hgt s) : Nat) : Int), true) := by unfold mHeightFor; rw [if_pos (by omega)]; rfl
  rw [hm] at this
  unfold hL
  rw [hs]
  exact ⟨_, this⟩

set_option maxHeartbeats 1600000 in
theorem ringOf_any (ao : Option Addr) (n cap : Nat) (xs : List Int) (w : World) (h : IntsAt w ao n cap xs) (hg : Good xs) :
    Calls Tryz.prog 147 #[.slice ao n cap] w fun e w' => e = .returned (.tuple #[ofV xs, .bool (cycB xs)]) ∧ Below w.heap.size w w' := by
  have hl0 := h.length
  have hlen := hg.len
  have hba := belowAlloc w (.cells #[.int .i64 0, .int .i64 0, .int .i64 0, .int .i64 0, .int .i64 0, .int .i64 0, .int .i64 0, .int .i64 0, .int .i64 0] 160)
  have hsum := sumOf_any ao n cap xs _ (h.keep hba) hg
  obtain ⟨r, hhgt⟩ := height_of xs (w.alloc (.cells #[.int .i64 0, .int .i64 0, .int .i64 0, .int .i64 0, .int .i64 0, .int .i64 0, .int .i64 0, .int .i64 0, .int .i64 0] 160)) hg
  have hL7 := hL_le xs
  have hCy : Cyc xs ↔ xs.length ≤ hL xs + 1 ∧ ∀ i, i < hL xs + 1 → (xs.getD i 0 - (hL xs - i) = 0 ∨ xs.getD i 0 - (hL xs - i) = 1) := Iff.rfl
  have hall := ofT_all xs
  have hbl := bitsL_length xs
  generalize hK : hL xs = K at hhgt hL7 hCy hall hbl
  have hres : (w.alloc (.cells #[.int .i64 0, .int .i64 0, .int .i64 0, .int .i64 0, .int .i64 0, .int .i64 0, .int .i64 0, .int .i64 0, .int .i64 0] 160)).heap[w.heap.size]? = some (.cells #[.int .i64 0, .int .i64 0, .int .i64 0, .int .i64 0, .int .i64 0, .int .i64 0, .int .i64 0, .int .i64 0, .int .i64 0] 160) := heap_alloc_new w _
  have hsz1 : (w.alloc (.cells #[.int .i64 0, .int .i64 0, .int .i64 0, .int .i64 0, .int .i64 0, .int .i64 0, .int .i64 0, .int .i64 0, .int .i64 0] 160)).heap.size = w.heap.size + 1 := by simp
  have Hg := Lib.hid hg; clear hg
  have Hl0 := Lib.hid hl0; clear hl0
  have Hsum := Lib.hid hsum; clear hsum
  have Hhgt := Lib.hid hhgt; clear hhgt
  have HCy := Lib.hid hCy; clear hCy
  have Hall := Lib.hid hall; clear hall
  have Hbl := Lib.hid hbl; clear hbl
  have HK := Lib.hid hK; clear hK
  have Hres := Lib.hid hres; clear hres
  have Hsz1 := Lib.hid hsz1; clear hsz1
  have Hba := Lib.hid hba; clear hba
  go_enter Tryz.func147, Tryz.ntmps147
  go_wp2_with fail
  with_reducible refine (Hsum.out).mono ?_
  rintro e w' ⟨rfl, rfl⟩
  go_wp2_with fail
  with_reducible refine (Hhgt.out).mono ?_
  rintro e w1 ⟨rfl, hb1⟩
  have hb1' := hb1.size
  rw [Hsz1.out] at hb1'
  have hr1' : w1.heap[w.heap.size]? = some (.cells #[.int .i64 0, .int .i64 0, .int .i64 0, .int .i64 0, .int .i64 0, .int .i64 0, .int .i64 0, .int .i64 0, .int .i64 0] 160) := (hb1.block w.heap.size (by rw [Hsz1.out]; omega)).trans Hres.out
  have hbw1 : Below w.heap.size w w1 := belowTrans Hba.out hb1 (Nat.le_refl _)
  have hb2 : Below w.heap.size w (w1.alloc (.cells #[.int .i64 0, .int .i64 0, .int .i64 0, .int .i64 0, .int .i64 0, .int .i64 0, .int .i64 0, .int .i64 0, .int .i64 ((K : Int) + 1)] 160)) := (belowTrans Hba.out hb1 (Nat.le_refl _)).alloc (by omega) _
  have hr2 : (w1.alloc (.cells #[.int .i64 0, .int .i64 0, .int .i64 0, .int .i64 0, .int .i64 0, .int .i64 0, .int .i64 0, .int .i64 0, .int .i64 ((K : Int) + 1)] 160)).heap[w.heap.size]? = some (.cells #[.int .i64 0, .int .i64 0, .int .i64 0, .int .i64 0, .int .i64 0, .int .i64 0, .int .i64 0, .int .i64 0, .int .i64 0] 160) := by
    rw [Below.heap_alloc _ _ _ (by omega)]; exact hr1'
  have hr0 := rowNew [0, 0, 0, 0, 0, 0, 0, 0, 0] _ 9 hr2 rfl rfl (by omega)
  have hr3 : OwnRow w1.heap.size (w1.heap.size + 1) (w1.alloc (.cells #[.int .i64 0, .int .i64 0, .int .i64 0, .int .i64 0, .int .i64 0, .int .i64 0, .int .i64 0, .int .i64 0, .int .i64 ((K : Int) + 1)] 160)) 160 (some ⟨w1.heap.size, 0, none⟩) 9 9 (([0, 0, 0, 0, 0, 0, 0, 0, (K : Int) + 1] : List Int).map (Value.int .i64)) := rowNew _ _ 9 (heap_alloc_new w1 _) rfl rfl (by omega)
  have hx := h.keep hb2
  have hsz2 : (w1.alloc (.cells #[.int .i64 0, .int .i64 0, .int .i64 0, .int .i64 0, .int .i64 0, .int .i64 0, .int .i64 0, .int .i64 0, .int .i64 ((K : Int) + 1)] 160)).heap.size = w1.heap.size + 1 := by simp
  have hlt : ∀ b o, ao = some ⟨b, o, none⟩ → 0 < n → b < w.heap.size := fun b o e hp => by
    obtain ⟨b', o', e', hb', _⟩ := h.cell 0 hp
    rw [e] at e'
    simp at e'
    omega
  have hcnt := rowCells hr3 8 (by omega)
  rw [show ([0, 0, 0, 0, 0, 0, 0, 0, (K : Int) + 1] : List Int).getD 8 0 = (K : Int) + 1 from rfl] at hcnt
  have hbad : ∀ wr, Chg (fun q => q = w1.heap.size) (w1.alloc (.cells #[.int .i64 0, .int .i64 0, .int .i64 0, .int .i64 0, .int .i64 0, .int .i64 0, .int .i64 0, .int .i64 0, .int .i64 ((K : Int) + 1)] 160)) wr → ∀ d0 d1 d2 d3 d4 d5 d6 d7 d8 : Int,
      OwnRow w.heap.size (w.heap.size + 1) wr 160 (some ⟨w.heap.size, 0, none⟩) 9 9 (([0, 0, 0, 0, 0, 0, 0, 0, 0] : List Int).map (Value.int .i64)) ∧
      OwnRow w.heap.size (w.heap.size + 1) (put9 wr w.heap.size d0 d1 d2 d3 d4 d5 d6 d7 d8) 160 (some ⟨w.heap.size, 0, none⟩) 9 9 (([d0, d1, d2, d3, d4, d5, d6, d7, d8] : List Int).map (Value.int .i64)) ∧ Below w.heap.size w (put9 wr w.heap.size d0 d1 d2 d3 d4 d5 d6 d7 d8) := by
    intro wr hc d0 d1 d2 d3 d4 d5 d6 d7 d8
    have hs := hc.size
    have h1 := hr0.chg hc (fun g h1 h2 h3 => by omega)
    obtain ⟨h2, h3⟩ := put9_row (B := w.heap.size) h1 (by omega) (Nat.le_refl _) d0 d1 d2 d3 d4 d5 d6 d7 d8
    exact ⟨h1, h2, (hb2.trans (hc.below (by omega) (fun q hq => by omega))).trans h3⟩
  have hrw := rowNew [0, 0, 0, 0, 0, 0, 0, 0, 0] _ 9 hr1' rfl rfl (by omega)
  clear hb1 hr1' hr2 hr0 h hb2
  by_cases hlong : (K : Int) + 1 < n
  · have hb : cycB xs = false := cycBF (fun hc => by have := (HCy.out.1 hc).1; rw [Hl0.out] at this; omega)
    obtain ⟨hput0, hbp0⟩ := put9_row (B := w.heap.size) hrw (by omega) (Nat.le_refl _) 0 0 0 0 0 0 0 0 0
    have hput := hput0.keep (belowAlloc _ (.cells #[.int .i64 0, .int .i64 0, .int .i64 0, .int .i64 0, .int .i64 0, .int .i64 0, .int .i64 0, .int .i64 0, .int .i64 ((K : Int) + 1)] 160))
    have hbelow := (hbw1.trans hbp0).alloc (by have := hbp0.size; omega) (.cells #[.int .i64 0, .int .i64 0, .int .i64 0, .int .i64 0, .int .i64 0, .int .i64 0, .int .i64 0, .int .i64 0, .int .i64 ((K : Int) + 1)] 160)
    obtain ⟨g0, g1, g2, g3, g4, g5, g6, g7, g8⟩ := put9_cells hrw
    obtain ⟨f0, f1, f2, f3, f4, f5, f6, f7, f8⟩ := frozen9 hrw
    obtain ⟨p0, p1, p2, p3, p4, p5, p6, p7, p8⟩ := put9_cells hput
    clear hput0 hbp0
    unfold put9 at hput p0 p1 p2 p3 p4 p5 p6 p7 p8 hbelow
    have P := Lib.hid (And.intro p0 (And.intro p1 (And.intro p2 (And.intro p3 (And.intro p4 (And.intro p5 (And.intro p6 (And.intro p7 p8))))))))
    clear p0 p1 p2 p3 p4 p5 p6 p7 p8 hbad hcnt hsz2 hlt
    have hw1 : w.heap.size < w1.heap.size := by omega
    have Hb := Lib.hid hb; clear hb
    have Hput := Lib.hid hput; clear hput
    have Hbelow := Lib.hid hbelow; clear hbelow
    have Hx := Lib.hid hx; clear hx
    have Hr3 := Lib.hid hr3; clear hr3
    have Hrw := Lib.hid hrw; clear hrw
    have Hbw1 := Lib.hid hbw1; clear hbw1
    go_wp2_with fail
    refine bodyPost_ret (v := .tuple #[ring0, .bool false]) ?_ rfl ⟨by rw [ofV_no Hb.out, Hb.out], ?_⟩
    · obtain ⟨p0, p1, p2, p3, p4, p5, p6, p7, p8⟩ := P.out
      rw [results_cell_tmp rfl]
      simp [go_sem, asAddr, Result.andThen, loadVar, p0, p1, p2, p3, p4, p5, p6, p7, p8]
      rfl
    · with_reducible exact Hbelow.out
  · have hn8 : n ≤ 8 := by omega
    have hsl := slAll w1.heap.size
    have hz0 := ofT_zero xs K n Hl0.out hn8
    have Hrw := Lib.hid hrw; clear hrw
    have Hbw1 := Lib.hid hbw1; clear hbw1
    have Hz0 := Lib.hid hz0; clear hz0
    go_wp2_with (refine wpList_copyRing (w1.alloc (.cells #[.int .i64 0, .int .i64 0, .int .i64 0, .int .i64 0, .int .i64 0, .int .i64 0, .int .i64 0, .int .i64 0, .int .i64 ((K : Int) + 1)] 160)) rfl _ _ rfl w1.heap.size (w1.heap.size + 1) w1.heap.size _ rfl hr3 ao n cap xs rfl hx hn8 ?_)
    intro w3 hrow0' hchg0
    have hrow0 : OwnRow w1.heap.size (w1.heap.size + 1) w3 160 (some ⟨w1.heap.size, 0, none⟩) 9 9 ((ofT xs K 0).map (Value.int .i64)) := by
      rw [← Hz0.out]; simpa using hrow0'
    clear hrow0'
    have hcnt3 := rowCells hrow0 8 (by omega)
    rw [ofT_last] at hcnt3
    clear hr3 hcnt
    go_wp2_with fail
    go_loopw [31] (fun i wr => ∃ k : Nat, k ≤ K + 1 ∧ i = .int .i64 k ∧ (∀ j, j < k → (xs.getD j 0 - (K - j) = 0 ∨ xs.getD j 0 - (K - j) = 1)) ∧ OwnRow w1.heap.size (w1.heap.size + 1) wr 160 (some ⟨w1.heap.size, 0, none⟩) 9 9 ((ofT xs K k).map (Value.int .i64)) ∧ Chg (fun q => q = w1.heap.size) (w1.alloc (.cells #[.int .i64 0, .int .i64 0, .int .i64 0, .int .i64 0, .int .i64 0, .int .i64 0, .int .i64 0, .int .i64 0, .int .i64 ((K : Int) + 1)] 160)) wr) (fun i _ => K + 1 - (intOf i).toNat)
    case atStart => exact ⟨0, Nat.zero_le _, rfl, fun j hj => by omega, hrow0, hchg0⟩
    case round =>
      obtain ⟨k, hk, rfl, hbits, hrow, hchg⟩ := hrel
      by_cases hltk : k < K + 1
      · obtain ⟨x, hxv⟩ : ∃ x, xs.getD k 0 = x := ⟨_, rfl⟩
        have hxb := (getD_nonneg Hg.out.1 k).1
        rw [hxv] at hxb
        have hx28 : x ≤ 28 := by
          by_cases hkn : k < n
          · exact (Hg.out.mem (getD_mem hxv hkn Hl0.out)).2
          · have : xs.getD k 0 = 0 := by rw [List.getD_eq_getElem?_getD, List.getElem?_eq_none (by rw [Hl0.out]; omega)]; rfl
            omega
        have hcJ := rowCells hrow k (by omega)
        rw [ofT_getD _ _ _ _ (by omega), if_neg (by omega), hxv] at hcJ
        have hfJ := hrow.frozenI k
        have hset := ofT_set xs K k (by omega)
        rw [hxv] at hset
        obtain ⟨hst, hgr⟩ := hrow.setI k (x - ((K : Int) - k))
        rw [hset] at hst
        have hchg2 := hchg.trans ((Chg.ofGrown hgr).mono (fun q hq => by simpa using hq))
        by_cases hbit : x - ((K : Int) - k) = 0 ∨ x - ((K : Int) - k) = 1
        · have hbits2 : ∀ j, j < k + 1 → (xs.getD j 0 - (K - j) = 0 ∨ xs.getD j 0 - (K - j) = 1) := by
            intro j hj
            by_cases hjk : j = k
            · subst hjk; rw [hxv]; exact hbit
            · exact hbits j (by omega)
          have Hxv := Lib.hid hxv; clear hxv
          have Hset := Lib.hid hset; clear hset
          have Hst := Lib.hid hst; clear hst
          have Hgr := Lib.hid hgr; clear hgr
          have Hchg := Lib.hid hchg; clear hchg
          have Hchg2 := Lib.hid hchg2; clear hchg2
          have Hrow := Lib.hid hrow; clear hrow
          have Hbits := Lib.hid hbits; clear hbits
          have Hbits2 := Lib.hid hbits2; clear hbits2
          rcases hbit with hbit | hbit
          · have hd : ((x - ((K : Int) - k)) != 0) = false := by simp; omega
            have Hbit := Lib.hid hbit; clear hbit
            go_wp2
            go_roundw
            case rel => exact ⟨k + 1, by omega, by go_num, Hbits2.out, Hst.out, Hchg2.out⟩
            case measure => simp [intOf]; omega
          · have hd : ((x - ((K : Int) - k)) != 0) = true := by simp; omega
            have hd1 : ((x - ((K : Int) - k)) != 1) = false := by simp; omega
            have Hbit := Lib.hid hbit; clear hbit
            go_wp2
            go_roundw
            case rel => exact ⟨k + 1, by omega, by go_num, Hbits2.out, Hst.out, Hchg2.out⟩
            case measure => simp [intOf]; omega
        · have hb : cycB xs = false := cycBF (fun hc => hbit (by have := (HCy.out.1 hc).2 k hltk; rw [hxv] at this; exact this))
          have hd : ((x - ((K : Int) - k)) != 0) = true := by simp; omega
          have hd1 : ((x - ((K : Int) - k)) != 1) = true := by simp; omega
          obtain ⟨hresA, _, _⟩ := hbad wr hchg 0 0 0 0 0 0 0 0 0
          obtain ⟨_, hput, hbelow⟩ := hbad _ hchg2 0 0 0 0 0 0 0 0 0
          obtain ⟨g0, g1, g2, g3, g4, g5, g6, g7, g8⟩ := put9_cells hresA
          obtain ⟨f0, f1, f2, f3, f4, f5, f6, f7, f8⟩ := frozen9 hresA
          obtain ⟨p0, p1, p2, p3, p4, p5, p6, p7, p8⟩ := put9_cells hput
          unfold put9 at hput p0 p1 p2 p3 p4 p5 p6 p7 p8 hbelow
          have P := Lib.hid (And.intro p0 (And.intro p1 (And.intro p2 (And.intro p3 (And.intro p4 (And.intro p5 (And.intro p6 (And.intro p7 p8))))))))
          clear p0 p1 p2 p3 p4 p5 p6 p7 p8 hbad hlt
          have Hb := Lib.hid hb; clear hb
          have Hxv := Lib.hid hxv; clear hxv
          have Hset := Lib.hid hset; clear hset
          have Hst := Lib.hid hst; clear hst
          have Hgr := Lib.hid hgr; clear hgr
          have Hchg := Lib.hid hchg; clear hchg
          have Hchg2 := Lib.hid hchg2; clear hchg2
          have Hrow := Lib.hid hrow; clear hrow
          have Hbits := Lib.hid hbits; clear hbits
          have Hbit := Lib.hid hbit; clear hbit
          have Hput := Lib.hid hput; clear hput
          have Hbelow := Lib.hid hbelow; clear hbelow
          have HresA := Lib.hid hresA; clear hresA
          go_wp2_with fail
          refine bodyPost_ret (v := .tuple #[ring0, .bool false]) ?_ rfl ⟨by rw [ofV_no Hb.out, Hb.out], ?_⟩
          · obtain ⟨p0, p1, p2, p3, p4, p5, p6, p7, p8⟩ := P.out
            rw [results_cell_tmp rfl]
            simp [go_sem, asAddr, Result.andThen, loadVar, p0, p1, p2, p3, p4, p5, p6, p7, p8]
            rfl
          · with_reducible exact Hbelow.out
      · have hk' : k = K + 1 := by omega
        subst hk'
        have hb : cycB xs = true := by
          rw [cyc_iff, HCy.out]
          exact ⟨by rw [Hl0.out]; omega, hbits⟩
        obtain ⟨d0, d1, d2, d3, d4, d5, d6, d7, n', hr'⟩ := R9.of (bs := bitsL xs) (by rw [Hbl.out]; omega)
        have hnn : n' = K + 1 := by have := hr'.1; rw [Hbl.out] at this; exact this.symm
        subst hnn
        have hv : ∀ j, j < 8 → (ofT xs K (K + 1)).getD j 0 = (bitsL xs).getD j 0 := Hall.out (by rw [Hl0.out]; omega)
        have e0 := (hv 0 (by omega)).trans hr'.2.2.1
        have e1 := (hv 1 (by omega)).trans hr'.2.2.2.1
        have e2 := (hv 2 (by omega)).trans hr'.2.2.2.2.1
        have e3 := (hv 3 (by omega)).trans hr'.2.2.2.2.2.1
        have e4 := (hv 4 (by omega)).trans hr'.2.2.2.2.2.2.1
        have e5 := (hv 5 (by omega)).trans hr'.2.2.2.2.2.2.2.1
        have e6 := (hv 6 (by omega)).trans hr'.2.2.2.2.2.2.2.2.1
        have e7 := (hv 7 (by omega)).trans hr'.2.2.2.2.2.2.2.2.2
        have e8 := ofT_last xs K (K + 1)
        have c0 := rowCells hrow 0 (by omega)
        have c1 := rowCells hrow 1 (by omega)
        have c2 := rowCells hrow 2 (by omega)
        have c3 := rowCells hrow 3 (by omega)
        have c4 := rowCells hrow 4 (by omega)
        have c5 := rowCells hrow 5 (by omega)
        have c6 := rowCells hrow 6 (by omega)
        have c7 := rowCells hrow 7 (by omega)
        have c8 := rowCells hrow 8 (by omega)
        rw [e0] at c0
        rw [e1] at c1
        rw [e2] at c2
        rw [e3] at c3
        rw [e4] at c4
        rw [e5] at c5
        rw [e6] at c6
        rw [e7] at c7
        rw [e8] at c8
        obtain ⟨hresA, hput, hbelow⟩ := hbad wr hchg d0 d1 d2 d3 d4 d5 d6 d7 ((K : Int) + 1)
        obtain ⟨g0, g1, g2, g3, g4, g5, g6, g7, g8⟩ := put9_cells hresA
        obtain ⟨f0, f1, f2, f3, f4, f5, f6, f7, f8⟩ := frozen9 hresA
        obtain ⟨p0, p1, p2, p3, p4, p5, p6, p7, p8⟩ := put9_cells hput
        unfold put9 at hput p0 p1 p2 p3 p4 p5 p6 p7 p8 hbelow
        have P := Lib.hid (And.intro p0 (And.intro p1 (And.intro p2 (And.intro p3 (And.intro p4 (And.intro p5 (And.intro p6 (And.intro p7 p8))))))))
        clear p0 p1 p2 p3 p4 p5 p6 p7 p8 hbad hlt
        have E0 := Lib.hid e0; clear e0
        have E1 := Lib.hid e1; clear e1
        have E2 := Lib.hid e2; clear e2
        have E3 := Lib.hid e3; clear e3
        have E4 := Lib.hid e4; clear e4
        have E5 := Lib.hid e5; clear e5
        have E6 := Lib.hid e6; clear e6
        have E7 := Lib.hid e7; clear e7
        have E8 := Lib.hid e8; clear e8
        have Hv := Lib.hid hv; clear hv
        have Hrow := Lib.hid hrow; clear hrow
        have HresA := Lib.hid hresA; clear hresA
        have Hchg := Lib.hid hchg; clear hchg
        have Hput := Lib.hid hput; clear hput
        have Hbelow := Lib.hid hbelow; clear hbelow
        have Hbits := Lib.hid hbits; clear hbits
        have Hb := Lib.hid hb; clear hb
        have Hr' := Lib.hid hr'; clear hr'
        go_wp2_with fail
        refine bodyPost_ret (v := .tuple #[.agg #[.int .i64 d0, .int .i64 d1, .int .i64 d2, .int .i64 d3, .int .i64 d4, .int .i64 d5, .int .i64 d6, .int .i64 d7, .int .i64 ((K : Int) + 1)], .bool true]) ?_ rfl ⟨by rw [ofV_yes Hb.out, Hb.out, Hr'.out.v]; rfl, ?_⟩
        · obtain ⟨p0, p1, p2, p3, p4, p5, p6, p7, p8⟩ := P.out
          rw [results_cell_tmp rfl]
          simp [go_sem, asAddr, Result.andThen, loadVar, p0, p1, p2, p3, p4, p5, p6, p7, p8]
        · with_reducible exact Hbelow.out
end
end Go.Proofs.YtimmjimeldejjaaGreatDoor
namespace Go.Proofs.YtimmjimeldejjaaGreatDoor
section
open Go.RowKit
set_option linter.unusedVariables false
set_option linter.unusedSimpArgs false
set_option maxRecDepth 20000

/-- what a play has come to: a ring, or loose piles -/
def StV (w : World) (v : Value) (xs : List Int) : Prop :=
  (Cyc xs ∧ v = .iface 160 (ringV (bitsL xs))) ∨ (¬ Cyc xs ∧ ∃ ao n c, v = .iface 163 (.slice ao n c) ∧ IntsAt w ao n c xs)
theorem StV.keep {w w' v xs} (h : StV w v xs) (hb : Below w.heap.size w w') : StV w' v xs := by
  rcases h with h | ⟨h1, ao, n, c, e, h⟩
  · exact .inl h
  · exact .inr ⟨h1, ao, n, c, e, h.keep hb⟩

set_option maxHeartbeats 800000 in
theorem stateOf_any (ao : Option Addr) (n cap : Nat) (xs : List Int) (w : World) (h : IntsAt w ao n cap xs) (hg : Good xs) :
    Calls Tryz.prog 76 #[.slice ao n cap] w fun e w' => ∃ v, e = .returned v ∧ StV w' v xs ∧ Below w.heap.size w w' := by
  have hcon := ringOf_any ao n cap xs w h hg
  by_cases hc : Cyc xs
  · have hcb := cyc_iff.2 hc
    obtain ⟨d0, d1, d2, d3, d4, d5, d6, d7, n', hr'⟩ := R9.of (bs := bitsL xs) (by rw [bitsL_length]; have := hL_le xs; omega)
    rw [ofV_yes hcb, hcb, hr'.v] at hcon
    have Hcon := Lib.hid hcon; clear hcon
    have Hc := Lib.hid hc; clear hc
    have Hcb := Lib.hid hcb; clear hcb
    have Hr' := Lib.hid hr'; clear hr'
    have Hg := Lib.hid hg; clear hg
    go_enter Tryz.func76, Tryz.ntmps76
    go_wp2_with fail
    with_reducible refine (Hcon.out).mono ?_
    rintro e w1 ⟨rfl, hb1⟩
    go_wp2_with fail
    go_ret
    exact ⟨_, rfl, .inl ⟨Hc.out, by rw [Hr'.out.v]; rfl⟩, hb1.alloc hb1.size _⟩
  · have hcb := cycBF hc
    rw [ofV_no hcb, hcb] at hcon
    unfold ring0 at hcon
    have Hcon := Lib.hid hcon; clear hcon
    have Hc := Lib.hid hc; clear hc
    have Hcb := Lib.hid hcb; clear hcb
    have Hg := Lib.hid hg; clear hg
    go_enter Tryz.func76, Tryz.ntmps76
    go_wp2_with fail
    with_reducible refine (Hcon.out).mono ?_
    rintro e w1 ⟨rfl, hb1⟩
    go_wp2_with fail
    go_ret
    exact ⟨_, rfl, .inr ⟨Hc.out, ao, n, cap, rfl, (h.keep hb1).keep (belowAlloc _ _)⟩, hb1.alloc hb1.size _⟩

/-! ### The methods -/
theorem mRingCyc (bs : List Int) (w : World) : (method 399 160 (ringV bs) "loop.example/g01114/impl.isCyclic").run Tryz.prog w = .ok (291, ringV bs) w := by
  unfold ringV; generalize ring9 _ _ _ _ _ _ _ _ _ = cs; kernel_rfl
theorem mRingNext (bs : List Int) (w : World) : (method 399 160 (ringV bs) "loop.example/g01114/impl.next").run Tryz.prog w = .ok (292, ringV bs) w := by
  unfold ringV; generalize ring9 _ _ _ _ _ _ _ _ _ = cs; kernel_rfl
theorem mRingPiles (bs : List Int) (w : World) : (method 399 160 (ringV bs) "loop.example/g01114/impl.piles").run Tryz.prog w = .ok (293, ringV bs) w := by
  unfold ringV; generalize ring9 _ _ _ _ _ _ _ _ _ = cs; kernel_rfl
theorem mLooseCyc (ao : Option Addr) (n c : Nat) (w : World) : (method 399 163 (.slice ao n c) "loop.example/g01114/impl.isCyclic").run Tryz.prog w = .ok (296, .slice ao n c) w := by kernel_rfl
theorem mLooseNext (ao : Option Addr) (n c : Nat) (w : World) : (method 399 163 (.slice ao n c) "loop.example/g01114/impl.next").run Tryz.prog w = .ok (297, .slice ao n c) w := by kernel_rfl
theorem ringCyc (bs : List Int) (w : World) : Calls Tryz.prog 291 #[ringV bs] w fun e w' => e = .returned (.bool true) ∧ Below w.heap.size w w' := by
  unfold ringV ring9
  go_enter Tryz.func291, Tryz.ntmps291
  go_wp2_with fail
  go_ret
  exact ⟨rfl, belowAlloc _ _⟩
theorem looseCyc (ao : Option Addr) (n c : Nat) (w : World) : Calls Tryz.prog 296 #[.slice ao n c] w fun e w' => e = .returned (.bool false) ∧ w = w' := by
  go_enter Tryz.func296, Tryz.ntmps296
  go_wp2_with fail
  go_ret
  exact ⟨rfl, rfl⟩
set_option maxHeartbeats 800000 in
theorem looseNext_any (ao : Option Addr) (n c : Nat) (xs : List Int) (w : World) (h : IntsAt w ao n c xs) (hg : Good xs) :
    Calls Tryz.prog 297 #[.slice ao n c] w fun e w' => ∃ v, e = .returned v ∧ StV w' v (stepL xs) ∧ Below w.heap.size w w' := by
  have hcon := stepOf_any ao n c xs w h hg
  have hG := stepL_good hg
  have Hcon := Lib.hid hcon; clear hcon
  have HG := Lib.hid hG; clear hG
  have Hg := Lib.hid hg; clear hg
  go_enter Tryz.func297, Tryz.ntmps297
  go_wp2_with fail
  with_reducible refine (Hcon.out).mono ?_
  rintro e w1 ⟨a1, m1, c1, rfl, ho1, hb1⟩
  go_wp2_with fail
  with_reducible refine (stateOf_any _ _ _ _ _ ho1.at HG.out).mono ?_
  rintro e w2 ⟨v, rfl, hst, hb2⟩
  go_wp2_with fail
  go_ret
  exact ⟨_, rfl, hst, belowTrans hb1 hb2 (Nat.le_refl _)⟩
set_option maxHeartbeats 800000 in
theorem ringNext_any (xs : List Int) (w : World) (hc : Cyc xs) (hg : Good xs) :
    Calls Tryz.prog 292 #[ringV (bitsL xs)] w fun e w' => ∃ v, e = .returned v ∧ StV w' v (stepL xs) ∧ Below w.heap.size w w' := by
  have hB := bitsL_isB hc
  have h0 := bits_zero hg hc
  have hnb : bitsL (stepL xs) = rotN 1 (bitsL xs) := by
    have e := from_bits hg hc
    conv => lhs; rw [← e, step_rot hB]
    refine bits_from (rotL_isB hB) (rotL_mem.2 h0) ?_
    rw [← step_rot hB, e, stepL_sum hg.1]; exact hg.2.2
  have hl8 : (bitsL xs).length ≤ 8 := by rw [bitsL_length]; have := hL_le xs; omega
  have hcon : ∀ w, Calls Tryz.prog 294 #[ringV (bitsL xs), .int .i64 1] w fun e w' => e = .returned (ringV (rotN 1 (bitsL xs))) ∧ Below w.heap.size w w' := fun w => turned_any (bitsL xs) 1 w hl8 (by omega)
  rw [← hnb] at hcon
  obtain ⟨d0, d1, d2, d3, d4, d5, d6, d7, n', hr'⟩ := R9.of (bs := bitsL xs) hl8
  obtain ⟨e0, e1, e2, e3, e4, e5, e6, e7, n2, hr2⟩ := R9.of (bs := bitsL (stepL xs)) (by rw [bitsL_length]; have := hL_le (stepL xs); omega)
  rw [hr'.v, hr2.v] at hcon
  rw [hr'.v]
  have hcs := cyc_step hg hc
  have HB := Lib.hid hB; clear hB
  have H0 := Lib.hid h0; clear h0
  have Hnb := Lib.hid hnb; clear hnb
  have Hl8 := Lib.hid hl8; clear hl8
  have Hcon := Lib.hid hcon; clear hcon
  have Hr' := Lib.hid hr'; clear hr'
  have Hr2 := Lib.hid hr2; clear hr2
  have Hcs := Lib.hid hcs; clear hcs
  have Hg := Lib.hid hg; clear hg
  have Hc := Lib.hid hc; clear hc
  go_enter Tryz.func292, Tryz.ntmps292
  go_wp2_with fail
  with_reducible refine (Hcon.out _).mono ?_
  rintro e w1 ⟨rfl, hb1⟩
  go_wp2_with fail
  go_ret
  exact ⟨_, rfl, .inl ⟨Hcs.out, by rw [Hr2.out.v]; rfl⟩, belowTrans (belowAlloc _ _) hb1 (Nat.le_refl _)⟩

end
end Go.Proofs.YtimmjimeldejjaaGreatDoor
namespace Go.Proofs.YtimmjimeldejjaaGreatDoor
section
open Go.RowKit
set_option linter.unusedVariables false
set_option linter.unusedSimpArgs false
set_option maxRecDepth 20000

theorem tail_least {xs : List Int} (hg : Good xs) {j : Nat} (h : ∀ i, i < j → ¬ Cyc (stepsL i xs)) : j ≤ tailL xs :=
  Nat.le_of_not_lt fun hl => h _ hl (tailL_spec hg).2.1

set_option maxHeartbeats 800000 in
theorem runToCycle_any (ao : Option Addr) (n cap : Nat) (xs : List Int) (w : World) (h : IntsAt w ao n cap xs) (hg : Good xs) :
    Calls Tryz.prog 46 #[.slice ao n cap] w fun e w' => e = .returned (.tuple #[.iface 160 (ringV (bitsL (endL xs))), .int .i64 (tailL xs)]) ∧ Below w.heap.size w w' := by
  have hcon := stateOf_any ao n cap xs w h hg
  have Hcon := Lib.hid hcon; clear hcon
  have Hg := Lib.hid hg; clear hg
  go_enter Tryz.func46, Tryz.ntmps46
  go_wp2_with fail
  with_reducible refine (Hcon.out).mono ?_
  rintro e w1 ⟨v, rfl, hst, hb1⟩
  go_wp2_with fail
  go_loopw [4, 5] (fun s t wr => ∃ (j : Nat), t = .int .i64 j ∧ StV wr s (stepsL j xs) ∧ (∀ i, i < j → ¬ Cyc (stepsL i xs)) ∧ Below w.heap.size w wr) (fun _ t _ => 3719 - (intOf t).toNat)
  case atStart => exact ⟨0, rfl, hst, fun i hi => by omega, hb1⟩
  case round =>
    obtain ⟨j, rfl, hst2, hno, hb⟩ := hrel
    have hG := stepsL_good Hg.out j
    have hjt := tail_least Hg.out hno
    have htl := (tailL_spec Hg.out).1
    rcases hst2 with ⟨hc, rfl⟩ | ⟨hc, a2, m2, c2, rfl, hi2⟩
    · have hj : tailL xs = j := tailL_unique Hg.out hc hno
      have hme := mRingCyc (bitsL (stepsL j xs))
      have HG := Lib.hid hG; clear hG
      have Hc := Lib.hid hc; clear hc
      have Hno := Lib.hid hno; clear hno
      have Hj := Lib.hid hj; clear hj
      clear hjt
      go_wp2_with fail
      with_reducible refine (ringCyc _ _).mono ?_
      rintro e w2 ⟨rfl, hb2⟩
      go_wp2_with fail
      go_ret2
      unfold endL
      rw [Hj.out]
      exact ⟨rfl, belowTrans hb hb2 (Nat.le_refl _)⟩
    · have hno2 : ∀ i, i < j + 1 → ¬ Cyc (stepsL i xs) := fun i hi => by
        by_cases e : i = j
        · subst e; exact hc
        · exact hno i (by omega)
      have hjt2 := tail_least Hg.out hno2
      have hme := mLooseCyc a2 m2 c2
      have hmn := mLooseNext a2 m2 c2
      have HG := Lib.hid hG; clear hG
      have Hc := Lib.hid hc; clear hc
      have Hno := Lib.hid hno; clear hno
      have Hno2 := Lib.hid hno2; clear hno2
      go_wp2_with fail
      with_reducible refine (looseCyc _ _ _ _).mono ?_
      rintro e w2 ⟨rfl, rfl⟩
      go_wp2_with fail
      with_reducible refine (looseNext_any _ _ _ _ _ hi2 HG.out).mono ?_
      rintro e w3 ⟨v3, rfl, hst3, hb3⟩
      go_wp2_with fail
      go_roundw
      case rel => exact ⟨j + 1, valI (by omega), hst3, Hno2.out, belowTrans hb hb3 (Nat.le_refl _)⟩
      case measure => simp [intOf]; omega

set_option maxHeartbeats 800000 in
theorem impl_TailOf (ao : Option Addr) (n cap : Nat) (xs : List Int) (w : World) (h : IntsAt w ao n cap xs) :
    Calls Tryz.prog 17 #[.slice ao n cap] w fun e w' => e = .returned (.tuple #[.int .i64 (mTailOf xs).1, .bool (mTailOf xs).2]) ∧ Below w.heap.size w w' := by
  cases hg : goodB xs
  · have hm := mTail_no hg
    have Hg := Lib.hid hg; clear hg
    have Hm := Lib.hid hm; clear hm
    go_enter Tryz.func17, Tryz.ntmps17
    go_wp2_with fail
    with_reducible refine (isPiles_no _ _ _ _ _ h Hg.out).mono ?_
    rintro e w' ⟨rfl, rfl⟩
    go_wp2
    go_ret2
    rw [Hm.out]
    exact ⟨rfl, Below.refl _ _⟩
  · have hm := mTail_yes hg
    have hG := good_iff.1 hg
    have Hg := Lib.hid hg; clear hg
    have Hm := Lib.hid hm; clear hm
    have HG := Lib.hid hG; clear hG
    go_enter Tryz.func17, Tryz.ntmps17
    go_wp2_with fail
    with_reducible refine (isPiles_yes _ _ _ _ _ h HG.out).mono ?_
    rintro e w' ⟨rfl, rfl⟩
    go_wp2_with fail
    with_reducible refine (runToCycle_any _ _ _ _ _ h HG.out).mono ?_
    rintro e w1 ⟨rfl, hb1⟩
    go_wp2_with fail
    go_ret2
    rw [Hm.out]
    exact ⟨rfl, hb1⟩

theorem ringPiles_of (xs : List Int) (w : World) (hc : Cyc xs) (hg : Good xs) :
    Calls Tryz.prog 293 #[ringV (bitsL xs)] w fun e w' => ∃ ao n cap, e = .returned (.slice ao n cap) ∧ Own w.heap.size w'.heap.size w' ao n cap xs ∧ Below w.heap.size w w' := by
  have := piles_any (bitsL xs) w (bitsL_isB hc) (by rw [bitsL_length]; have := hL_le xs; omega)
  rw [from_bits hg hc] at this
  exact this
theorem ringNext_of (xs : List Int) (w : World) (hc : Cyc xs) (hg : Good xs) :
    Calls Tryz.prog 292 #[ringV (bitsL xs)] w fun e w' => e = .returned (.iface 160 (ringV (bitsL (stepL xs)))) ∧ Below w.heap.size w w' := by
  refine (ringNext_any xs w hc hg).mono ?_
  rintro e w' ⟨v, rfl, hst, hb⟩
  rcases hst with ⟨_, rfl⟩ | ⟨hn, _⟩
  · exact ⟨rfl, hb⟩
  · exact absurd (cyc_step hg hc) hn

theorem equal_yes (ao bo : Option Addr) (n m cap cap' : Nat) (xs ys : List Int) (w : World) (hx : IntsAt w ao n cap xs) (hy : IntsAt w bo m cap' ys) (h : xs = ys) :
    Calls Tryz.prog 203 #[.slice ao n cap, .slice bo m cap'] w fun e w' => e = .returned (.bool true) ∧ Below w.heap.size w w' :=
  (equal_any ao bo n m cap cap' xs ys w hx hy).mono fun e w' ⟨a, q, b⟩ => ⟨by rw [a, decide_eq_true h], b ▸ belowDrewN (Below.refl _ _) q⟩
theorem equal_no (ao bo : Option Addr) (n m cap cap' : Nat) (xs ys : List Int) (w : World) (hx : IntsAt w ao n cap xs) (hy : IntsAt w bo m cap' ys) (h : ¬ xs = ys) :
    Calls Tryz.prog 203 #[.slice ao n cap, .slice bo m cap'] w fun e w' => e = .returned (.bool false) ∧ Below w.heap.size w w' :=
  (equal_any ao bo n m cap cap' xs ys w hx hy).mono fun e w' ⟨a, q, b⟩ => ⟨by rw [a, decide_eq_false h], b ▸ belowDrewN (Below.refl _ _) q⟩

set_option maxHeartbeats 1600000 in
theorem impl_CycleOf (ao : Option Addr) (n cap : Nat) (xs : List Int) (w : World) (h : IntsAt w ao n cap xs) :
    Calls Tryz.prog 166 #[.slice ao n cap] w fun e w' => ∃ ao' n' cap', e = .returned (.tuple #[.slice ao' n' cap', .bool (mCycleOf xs).2]) ∧ OwnRows w.heap.size w'.heap.size w' ao' n' cap' (mCycleOf xs).1 ∧ Below w.heap.size w w' := by
  cases hg : goodB xs
  · have hm := mCycle_no hg
    have Hg := Lib.hid hg; clear hg
    have Hm := Lib.hid hm; clear hm
    go_enter Tryz.func166, Tryz.ntmps166
    go_wp2_with fail
    with_reducible refine (isPiles_no _ _ _ _ _ h Hg.out).mono ?_
    rintro e w' ⟨rfl, rfl⟩
    go_wp2
    go_ret2
    rw [Hm.out]
    exact ⟨none, 0, 0, rfl, OwnRows.nil _ _ _, Below.refl _ _⟩
  · have hm := mCycle_yes hg
    have hG := good_iff.1 hg
    have hrun := runToCycle_any ao n cap xs w h hG
    have hzg := endL_good hG
    have hzc := endL_cyc hG
    unfold cycL at hm
    generalize endL xs = z at *
    have hper := perL_spec hzg hzc
    have hp7 := hL_le z
    have hmp := mRingPiles (bitsL z)
    have hmn := mRingNext (bitsL z)
    have Hg := Lib.hid hg; clear hg
    have Hm := Lib.hid hm; clear hm
    have HG := Lib.hid hG; clear hG
    have Hrun := Lib.hid hrun; clear hrun
    have Hzg := Lib.hid hzg; clear hzg
    have Hzc := Lib.hid hzc; clear hzc
    have Hper := Lib.hid hper; clear hper
    go_enter Tryz.func166, Tryz.ntmps166
    go_wp2_with fail
    with_reducible refine (isPiles_yes _ _ _ _ _ h HG.out).mono ?_
    rintro e w' ⟨rfl, rfl⟩
    go_wp2_with fail
    with_reducible refine (Hrun.out).mono ?_
    rintro e w1 ⟨rfl, hb1⟩
    go_wp2_with fail
    with_reducible refine (ringPiles_of z _ Hzc.out Hzg.out).mono ?_
    rintro e w2 ⟨a2, m2, c2, rfl, ho2, hb2⟩
    have hbw2 := belowTrans hb1 hb2 (Nat.le_refl _)
    have hone := OwnRows.one (ho2.mono hb1.size (Nat.le_refl _)) w.heap.size (Nat.le_refl _) hbw2.size (Nat.le_succ _)
    have hb3 := hbw2.alloc hbw2.size (.cells #[.slice a2 m2 c2] 24)
    clear ho2 hb2
    go_wp2_with fail
    with_reducible refine (ringNext_of z _ Hzc.out Hzg.out).mono ?_
    rintro e w4 ⟨rfl, hb4⟩
    have hs4 := hb4.size
    have hone4 := hone.keep hb4
    have hb5 := belowTrans hb3 hb4 (Nat.le_refl _)
    clear hmp hmn
    go_wp2_with fail
    go_loopw [4, 6] (fun s p wr => ∃ (q : Nat) (a : Option Addr) (c : Nat), 1 ≤ q ∧ q ≤ perL z ∧ s = .iface 160 (ringV (bitsL (stepsL q z))) ∧ p = .slice a q c ∧ OwnRows w.heap.size wr.heap.size wr a q c (runL z q) ∧ Below w.heap.size w wr) (fun _ p _ => 9 - lenOf p)
    case atStart => exact ⟨1, _, 1, Nat.le_refl _, Hper.out.1, rfl, rfl, hone4.mono (Nat.le_refl _) (by simp at hs4; omega), hb5⟩
    case round =>
      obtain ⟨q, a, c, hq1, hqp, rfl, rfl, hrows, hb⟩ := hrel
      clear hone4 hb5 hone hb3
      have hGq := stepsL_good Hzg.out q
      have hCq := cyc_steps Hzg.out Hzc.out q
      have hmp := mRingPiles (bitsL (stepsL q z))
      have hmn := mRingNext (bitsL (stepsL q z))
      obtain ⟨b, oo, rfl, hbl, hcell⟩ := hrows.at.cell 0 (by omega)
      obtain ⟨a6, m6, c6, hck, hi6⟩ := hcell 0 (by omega)
      clear hcell
      rw [runL_getD _ _ _ (by omega)] at hi6
      have hpi := fun w => ringPiles_of (stepsL q z) w hCq hGq
      have hrefl : Below wr.heap.size wr wr.drew := (Below.refl _ _).drew
      have HGq := Lib.hid hGq; clear hGq
      have HCq := Lib.hid hCq; clear hCq
      have Hpi := Lib.hid hpi; clear hpi
      have hck0 : ∀ w3 : World, Below wr.heap.size wr w3 → w3.cell? ⟨b, oo, none⟩ = some (.slice a6 m6 c6) := fun w3 hb3 => by
        rw [hb3.cell (p := ⟨b, oo, none⟩) hbl]; simpa using hck
      have hi60 : ∀ w3 : World, Below wr.heap.size wr w3 → IntsAt w3 a6 m6 c6 z := fun w3 hb3 => hi6.keep hb3
      clear hi6
      have hq0 : 0 < q := by omega
      have hckA : wr.cell? ⟨b, oo, none⟩ = some (.slice a6 m6 c6) := by simpa using hck
      clear hck
      have Hck0 := Lib.hid hck0; clear hck0
      have Hi60 := Lib.hid hi60; clear hi60
      by_cases heq : stepsL q z = z
      · have Heq := Lib.hid heq; clear heq
        go_wp2_with fail
        go_region_law (first | (go_simp; with_reducible refine (Hpi.out wr.drew).mono ?_; rintro e w3 ⟨a3, m3, c3, rfl, ho3, hb3⟩; have hbr3 : Below wr.heap.size wr w3 := belowTrans hrefl hb3 (Nat.le_refl _); have hck3 := Hck0.out w3 hbr3; have hi3 := Hi60.out w3 hbr3; have tokA : True := trivial) | (have _t := tokA; go_simp; with_reducible refine (equal_yes a3 a6 m3 m6 c3 c6 (stepsL q z) z w3 ho3.at hi3 Heq.out).mono ?_; rintro e w5 ⟨rfl, hb5⟩))
        all_goals
          have hbr5 := belowTrans hbr3 hb5 (Nat.le_refl _)
          have hrows5 := (hrows.keep hbr5).mono (Nat.le_refl _) hbr5.size
          have hbw5 := belowTrans hb hbr5 (Nat.le_refl _)
          have hqe : q = perL z := by
            apply Nat.le_antisymm hqp
            apply Nat.le_of_not_lt
            intro hl
            exact Hper.out.2.2.2 q hq0 hl Heq.out
          clear hrows hi3 ho3 hck3
          have Hqe := Lib.hid hqe; clear hqe
          go_wp2_with fail
          go_ret2
          rw [Hm.out]
          exact ⟨_, _, _, rfl, by rw [← Hqe.out]; exact hrows5, hbw5⟩
      · have Heq := Lib.hid heq; clear heq
        go_wp2_with fail
        go_region_law (first | (go_simp; with_reducible refine (Hpi.out wr.drew).mono ?_; rintro e w3 ⟨a3, m3, c3, rfl, ho3, hb3⟩; have hbr3 : Below wr.heap.size wr w3 := belowTrans hrefl hb3 (Nat.le_refl _); have hck3 := Hck0.out w3 hbr3; have hi3 := Hi60.out w3 hbr3; have tokA : True := trivial) | (have _t := tokA; go_simp; with_reducible refine (equal_no a3 a6 m3 m6 c3 c6 (stepsL q z) z w3 ho3.at hi3 Heq.out).mono ?_; rintro e w5 ⟨rfl, hb5⟩))
        all_goals
          have hbr5 := belowTrans hbr3 hb5 (Nat.le_refl _)
          have hrows5 := (hrows.keep hbr5).mono (Nat.le_refl _) hbr5.size
          have hbw5 := belowTrans hb hbr5 (Nat.le_refl _)
          have hqlt : q < perL z := by
            apply Nat.lt_of_le_of_ne hqp
            intro e
            exact Heq.out (by rw [e]; exact Hper.out.2.2.1)
          have hp8 : perL z ≤ 8 := by have := Hper.out.2.1; omega
          have hsucc := runL_succ z q
          clear hrows hi3 ho3 hck3
          have Hsucc := Lib.hid hsucc; clear hsucc
          go_wp2_with fail
          with_reducible refine (Hpi.out w5).mono ?_
          rintro e w6 ⟨a7, m7, c7, rfl, ho7, hb7⟩
          have hrows6 := hrows5.keep hb7
          have hbw6 := belowTrans hbw5 hb7 (Nat.le_refl _)
          clear hrows5
          go_wp2_with (at_builtin; refine wpList_pushR w6 rfl _ _ rfl w.heap.size w5.heap.size _ q c _ rfl hrows6 hb7.size a7 m7 c7 w5.heap.size _ ho7 hbw5.size ho7.ge rfl (by omega) hbw6.size ?_)
          intro a8 c8 w8 ho8 hc8
          have hb8 := hbw6.trans (hrows6.chgBelow hc8 hbw6.size)
          clear hrows6 hc8 ho7
          go_wp2_with fail
          with_reducible refine (ringNext_of (stepsL q z) _ HCq.out HGq.out).mono ?_
          rintro e w9 ⟨rfl, hb9⟩
          go_wp2_with fail
          go_roundw
          case rel => exact ⟨q + 1, a8, c8, by omega, by omega, rfl, rfl, by rw [Hsucc.out]; exact (ho8.keep hb9).mono (Nat.le_refl _) hb9.size, belowTrans hb8 hb9 (Nat.le_refl _)⟩
          case measure => simp [lenOf] <;> omega

set_option maxHeartbeats 800000 in
theorem impl_CycleLength (ao : Option Addr) (n cap : Nat) (xs : List Int) (w : World) (h : IntsAt w ao n cap xs) :
    Calls Tryz.prog 111 #[.slice ao n cap] w fun e w' => e = .returned (.tuple #[.int .i64 (mCycleLength xs).1, .bool (mCycleLength xs).2]) ∧ Below w.heap.size w w' := by
  have hcon := impl_CycleOf ao n cap xs w h
  cases hg : goodB xs
  · have hm := mCycleL_no hg
    rw [mCycle_no hg] at hcon
    have Hg := Lib.hid hg; clear hg
    have Hm := Lib.hid hm; clear hm
    have Hcon := Lib.hid hcon; clear hcon
    go_enter Tryz.func111, Tryz.ntmps111
    go_wp2_with fail
    with_reducible refine (Hcon.out).mono ?_
    rintro e w1 ⟨a1, m1, c1, rfl, ho1, hb1⟩
    have hl : m1 = 0 := by have := ho1.length; simpa using this.symm
    subst hl
    go_wp2_with fail
    go_ret2
    rw [Hm.out]
    exact ⟨rfl, hb1⟩
  · have hm := mCycleL_yes hg
    rw [mCycle_yes hg] at hcon
    have Hg := Lib.hid hg; clear hg
    have Hm := Lib.hid hm; clear hm
    have Hcon := Lib.hid hcon; clear hcon
    go_enter Tryz.func111, Tryz.ntmps111
    go_wp2_with fail
    with_reducible refine (Hcon.out).mono ?_
    rintro e w1 ⟨a1, m1, c1, rfl, ho1, hb1⟩
    have hl := ho1.length
    have Hl := Lib.hid hl; clear hl
    go_wp2_with fail
    go_ret2
    rw [Hm.out]
    exact ⟨by rw [← Hl.out]; rfl, hb1⟩
end
end Go.Proofs.YtimmjimeldejjaaGreatDoor
