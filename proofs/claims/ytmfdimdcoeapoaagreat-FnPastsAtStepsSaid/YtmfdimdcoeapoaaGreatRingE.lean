/- Chapter 2: the ring that stands for piles. No condition. -/
import Derived.Test.YtmfdimdcoeapoaaGreatRingD
namespace Go.Proofs.YtmfdimdcoeapoaaGreat
open Go.RowKit
set_option linter.unusedVariables false
set_option linter.unusedSimpArgs false
set_option maxRecDepth 20000

/-- copy of a slice of ints into the first cells of a ring -/
theorem wpList_copyRing {ops : Array Oper} {rest : List Oper} {o : Oper} {a : Act} {Q : Exit → Act → World → Prop} (w : World) (hgd : o.guard = none) (d s : Operand)
    (ho : o.op = .call { callee := .builtin .copy, args := #[d, s], argTypes := #[24, 24] })
    (B E g : Nat) (xs : List Int) (hd : a.eval d = .slice (some ⟨g, 0, none⟩) 8 8) (hown : OwnRow B E w 76 (some ⟨g, 0, none⟩) 9 9 (xs.map (Value.int .i64)))
    (ao : Option Addr) (n c : Nat) (ys : List Int) (hs : a.eval s = .slice ao n c) (hy : IntsAt w ao n c ys) (hn : n ≤ 8)
    (h : ∀ w', OwnRow B E w' 76 (some ⟨g, 0, none⟩) 9 9 ((ys ++ xs.drop n).map (Value.int .i64)) → Chg (fun k => k = g) w w' → wpList Tryz.prog ops Q rest (a.put o.dst (.int .i64 n)) w') :
    wpList Tryz.prog ops Q (o :: rest) a w := by
  have hl := hy.length
  have hxl := hown.length
  rw [List.length_map] at hxl
  by_cases hz : n = 0
  · subst hz
    have hys : ys = [] := List.eq_nil_of_length_eq_zero hl
    subst hys
    refine wpList_copy_nothing hgd d s 24 24 ho 3 Tryz.underlying24 (by kernel_rfl) (some ⟨g, 0, none⟩) ao 8 8 0 c hd hs (by simp) ?_
    exact h w (by simpa using hown) (Chg.refl _ _)
  · obtain ⟨b, oo, rfl, hb, hc⟩ := hy.cell 0 (by omega)
    rcases hown.1.2 with ⟨hv, _⟩ | ⟨g', c', cur, hv, hg, hh, hnc, hcm, hcs, htake⟩
    · simp at hv
    simp only [Value.slice.injEq, Option.some.injEq, Addr.mk.injEq, and_true, true_and] at hv
    obtain ⟨rfl, rfl⟩ := hv
    have hcl : cur.toList = xs.map (Value.int .i64) := by
      rw [← htake, List.take_of_length_le (by simp [hcs])]
    refine wpList_copy_own hgd d s 24 24 ho 3 Tryz.underlying24 (by kernel_rfl) g 0 8 8 ⟨b, oo, none⟩ n c hd hs cur 76 hh (ys.map (Value.int .i64)) (by rw [List.length_map, hl]; exact (Nat.min_eq_left hn).symm) ?_ (by rw [List.length_map, hl]; omega) (ints_oneCell _ _) ?_
    · intro j u hu
      have hj : j < n := by
        have := (List.getElem?_eq_some_iff.1 hu).1
        simpa [hl] using this
      rw [Addr.add_lit, hc j hj]
      rw [List.getElem?_map, List.getElem?_eq_getElem (by omega)] at hu
      simp only [Option.map_some, Option.some.injEq] at hu
      rw [← hu, List.getD_eq_getElem?_getD, List.getElem?_eq_getElem (by omega)]
      rfl
    · have hr := h (w.setRow g (cur.toList.take 0 ++ ((ys.map (Value.int .i64)) ++ cur.toList.drop (0 + (ys.map (Value.int .i64)).length))).toArray) ?_ ?_
      · have e : goInt (ys.map (Value.int .i64)).length = .int .i64 n := by simp [goInt, hl]
        rw [e]
        exact hr
      · refine ⟨⟨by simp [hl, hxl]; omega, .inr ⟨g, 9, _, rfl, hg, setRow_heap w g cur _ 76 _ hh, by omega, hcm, ?_, ?_⟩⟩, hown.2⟩
        · rw [hcl]; simp [hl, hxl]; omega
        · rw [hcl]
          simp [hl, hxl]
          rw [List.take_of_length_le (by simp [hl, hxl]; omega)]
      · exact ⟨rfl, rfl, rfl, by simp [World.setRow], fun k _ hk => setRow_other w g k _ (fun e => hk (by simp [e]))⟩

theorem slAll (b : Nat) (w : World) : (Instr.sliceAt 74 (.pointer (some ⟨b, 0, none⟩)) none none none).run Tryz.prog w = .ok (.slice (some ⟨b, 0, none⟩) 8 8) w := by
  have := run_sliceAt_array_all (P := Tryz.prog) w 74 ⟨b, 0, none⟩ (by kernel_rfl)
  rw [this, sizeRing, lenRing]
  simp [Result.andThen, slicedAt, Addr.add]

/-- the cells of a ring of piles, the first k reckoned -/
def ofT (xs : List Int) (K k : Nat) : List Int := ((List.range 8).map fun (j : Nat) => if j < k then xs.getD j 0 - ((K : Int) - j) else xs.getD j 0) ++ [(K : Int) + 1]
theorem ofT_length (xs : List Int) (K k : Nat) : (ofT xs K k).length = 9 := by simp [ofT]
theorem ofT_getD (xs : List Int) (K k j : Nat) (hj : j < 8) : (ofT xs K k).getD j 0 = if j < k then xs.getD j 0 - ((K : Int) - j) else xs.getD j 0 := by
  unfold ofT
  rw [List.getD_eq_getElem?_getD, List.getElem?_append_left (by simp; omega), List.getElem?_map, List.getElem?_range hj]; rfl
theorem ofT_last (xs : List Int) (K k : Nat) : (ofT xs K k).getD 8 0 = (K : Int) + 1 := by
  unfold ofT
  rw [List.getD_eq_getElem?_getD, List.getElem?_append_right (by simp)]; simp
theorem ofT_zero (xs : List Int) (K n : Nat) (hn : xs.length = n) (h8 : n ≤ 8) : xs ++ ([0, 0, 0, 0, 0, 0, 0, 0, (K : Int) + 1] : List Int).drop n = ofT xs K 0 := by
  apply list_ext_getD
  · rw [ofT_length, List.length_append, List.length_drop]; simp; omega
  · intro j hj
    rw [ofT_length] at hj
    by_cases hj8 : j < 8
    · rw [ofT_getD _ _ _ _ hj8, if_neg (by omega)]
      by_cases hjn : j < n
      · rw [List.getD_eq_getElem?_getD, List.getElem?_append_left (by omega), ← List.getD_eq_getElem?_getD]
      · have hx0 : xs.getD j 0 = 0 := by rw [List.getD_eq_getElem?_getD, List.getElem?_eq_none (by omega)]; rfl
        rw [hx0, List.getD_eq_getElem?_getD, List.getElem?_append_right (by omega), List.getElem?_drop, show n + (j - xs.length) = j by omega]
        have : j = 0 ∨ j = 1 ∨ j = 2 ∨ j = 3 ∨ j = 4 ∨ j = 5 ∨ j = 6 ∨ j = 7 := by omega
        rcases this with rfl | rfl | rfl | rfl | rfl | rfl | rfl | rfl <;> rfl
    · have : j = 8 := by omega
      subst this
      rw [ofT_last, List.getD_eq_getElem?_getD, List.getElem?_append_right (by omega), List.getElem?_drop, show n + (8 - xs.length) = 8 by omega]; rfl
theorem ofT_set (xs : List Int) (K k : Nat) (hk : k < 8) : (ofT xs K k).set k (xs.getD k 0 - ((K : Int) - k)) = ofT xs K (k + 1) := by
  apply list_ext_getD
  · rw [List.length_set, ofT_length, ofT_length]
  · intro j hj
    rw [ofT_length] at hj
    by_cases hj8 : j < 8
    · by_cases hjr : j = k
      · subst hjr
        rw [getD_set_eq _ _ _ _ (by rw [ofT_length]; omega), ofT_getD _ _ _ _ hj8, if_pos (by omega)]
      · rw [getD_set_ne _ _ _ _ _ (fun e => hjr e.symm), ofT_getD _ _ _ _ hj8, ofT_getD _ _ _ _ hj8]
        by_cases hlt : j < k
        · rw [if_pos hlt, if_pos (by omega)]
        · rw [if_neg hlt, if_neg (by omega)]
    · have : j = 8 := by omega
      subst this
      rw [getD_set_ne _ _ _ _ _ (by omega), ofT_last, ofT_last]
theorem ofT_all (xs : List Int) (hl : xs.length ≤ hL xs + 1) (j : Nat) (hj : j < 8) : (ofT xs (hL xs) (hL xs + 1)).getD j 0 = (bitsL xs).getD j 0 := by
  rw [ofT_getD _ _ _ _ hj]
  by_cases h : j < hL xs + 1
  · rw [if_pos h, bitsL_getD _ _ h]
  · rw [if_neg h, List.getD_eq_getElem?_getD, List.getElem?_eq_none (by omega), List.getD_eq_getElem?_getD, List.getElem?_eq_none (by rw [bitsL_length]; omega)]

def ofV (xs : List Int) : Value := if cycB xs = true then ringV (bitsL xs) else ring0
theorem ofV_yes {xs : List Int} (h : cycB xs = true) : ofV xs = ringV (bitsL xs) := by unfold ofV; rw [if_pos h]
theorem ofV_no {xs : List Int} (h : cycB xs = false) : ofV xs = ring0 := by unfold ofV; rw [if_neg (by rw [h]; simp)]

theorem height_of (xs : List Int) (w : World) (hg : Good xs) : ∃ r : Int, Calls Tryz.prog 68 #[.int .i64 xs.sum] w fun e w' => e = .returned (.tuple #[.int .i64 (hL xs), .int .i64 r, .bool true]) ∧ Below w.heap.size w w' := by
  obtain ⟨s, hs, h28⟩ := sum_toNat hg
  have := impl_HeightFor s w
  have hm : mHeightFor s = (((hgt s : Nat) : Int), (s : Int) - ((tri (hgt s) : Nat) : Int), true) := by unfold mHeightFor; rw [if_pos (by omega)]; rfl
  rw [hm] at this
  unfold hL
  rw [hs]
  exact ⟨_, this⟩

set_option maxHeartbeats 1600000 in
theorem ringOf_any (ao : Option Addr) (n cap : Nat) (xs : List Int) (w : World) (h : IntsAt w ao n cap xs) (hg : Good xs) :
    Calls Tryz.prog 57 #[.slice ao n cap] w fun e w' => e = .returned (.tuple #[ofV xs, .bool (cycB xs)]) ∧ Below w.heap.size w w' := by
  have hl0 := h.length
  have hlen := hg.len
  have hba := belowAlloc w (.cells #[.int .i64 0, .int .i64 0, .int .i64 0, .int .i64 0, .int .i64 0, .int .i64 0, .int .i64 0, .int .i64 0, .int .i64 0] 76)
  have hsum := sumOf_any ao n cap xs _ (h.keep hba) hg
  obtain ⟨r, hhgt⟩ := height_of xs (w.alloc (.cells #[.int .i64 0, .int .i64 0, .int .i64 0, .int .i64 0, .int .i64 0, .int .i64 0, .int .i64 0, .int .i64 0, .int .i64 0] 76)) hg
  have hL7 := hL_le xs
  have hCy : Cyc xs ↔ xs.length ≤ hL xs + 1 ∧ ∀ i, i < hL xs + 1 → (xs.getD i 0 - (hL xs - i) = 0 ∨ xs.getD i 0 - (hL xs - i) = 1) := Iff.rfl
  have hall := ofT_all xs
  have hbl := bitsL_length xs
  generalize hK : hL xs = K at hhgt hL7 hCy hall hbl
  have hres : (w.alloc (.cells #[.int .i64 0, .int .i64 0, .int .i64 0, .int .i64 0, .int .i64 0, .int .i64 0, .int .i64 0, .int .i64 0, .int .i64 0] 76)).heap[w.heap.size]? = some (.cells #[.int .i64 0, .int .i64 0, .int .i64 0, .int .i64 0, .int .i64 0, .int .i64 0, .int .i64 0, .int .i64 0, .int .i64 0] 76) := heap_alloc_new w _
  have hsz1 : (w.alloc (.cells #[.int .i64 0, .int .i64 0, .int .i64 0, .int .i64 0, .int .i64 0, .int .i64 0, .int .i64 0, .int .i64 0, .int .i64 0] 76)).heap.size = w.heap.size + 1 := by simp
  have Hg := Lib.hid hg; clear hg
  have Hl0 := Lib.hid hl0; clear hl0
  have Hsum := Lib.hid hsum; clear hsum
  have Hhgt := Lib.hid hhgt; clear hhgt
  have HCy := Lib.hid hCy; clear hCy
  have Hall := Lib.hid hall; clear hall
  have Hbl := Lib.hid hbl; clear hbl
  have HK := Lib.hid hK; clear hK
  have Hres := Lib.hid hres; clear hres
  have Hsz1 := Lib.hid hsz1; clear hsz1
  have Hba := Lib.hid hba; clear hba
  go_enter Tryz.func57, Tryz.ntmps57
  go_wp2_with fail
  with_reducible refine (Hsum.out).mono ?_
  rintro e w' ⟨rfl, rfl⟩
  go_wp2_with fail
  with_reducible refine (Hhgt.out).mono ?_
  rintro e w1 ⟨rfl, hb1⟩
  have hb1' := hb1.size
  rw [Hsz1.out] at hb1'
  have hr1' : w1.heap[w.heap.size]? = some (.cells #[.int .i64 0, .int .i64 0, .int .i64 0, .int .i64 0, .int .i64 0, .int .i64 0, .int .i64 0, .int .i64 0, .int .i64 0] 76) := (hb1.block w.heap.size (by rw [Hsz1.out]; omega)).trans Hres.out
  have hbw1 : Below w.heap.size w w1 := belowTrans Hba.out hb1 (Nat.le_refl _)
  have hb2 : Below w.heap.size w (w1.alloc (.cells #[.int .i64 0, .int .i64 0, .int .i64 0, .int .i64 0, .int .i64 0, .int .i64 0, .int .i64 0, .int .i64 0, .int .i64 ((K : Int) + 1)] 76)) := (belowTrans Hba.out hb1 (Nat.le_refl _)).alloc (by omega) _
  have hr2 : (w1.alloc (.cells #[.int .i64 0, .int .i64 0, .int .i64 0, .int .i64 0, .int .i64 0, .int .i64 0, .int .i64 0, .int .i64 0, .int .i64 ((K : Int) + 1)] 76)).heap[w.heap.size]? = some (.cells #[.int .i64 0, .int .i64 0, .int .i64 0, .int .i64 0, .int .i64 0, .int .i64 0, .int .i64 0, .int .i64 0, .int .i64 0] 76) := by
    rw [Below.heap_alloc _ _ _ (by omega)]; exact hr1'
  have hr0 := rowNew [0, 0, 0, 0, 0, 0, 0, 0, 0] _ 9 hr2 rfl rfl (by omega)
  have hr3 : OwnRow w1.heap.size (w1.heap.size + 1) (w1.alloc (.cells #[.int .i64 0, .int .i64 0, .int .i64 0, .int .i64 0, .int .i64 0, .int .i64 0, .int .i64 0, .int .i64 0, .int .i64 ((K : Int) + 1)] 76)) 76 (some ⟨w1.heap.size, 0, none⟩) 9 9 (([0, 0, 0, 0, 0, 0, 0, 0, (K : Int) + 1] : List Int).map (Value.int .i64)) := rowNew _ _ 9 (heap_alloc_new w1 _) rfl rfl (by omega)
  have hx := h.keep hb2
  have hsz2 : (w1.alloc (.cells #[.int .i64 0, .int .i64 0, .int .i64 0, .int .i64 0, .int .i64 0, .int .i64 0, .int .i64 0, .int .i64 0, .int .i64 ((K : Int) + 1)] 76)).heap.size = w1.heap.size + 1 := by simp
  have hlt : ∀ b o, ao = some ⟨b, o, none⟩ → 0 < n → b < w.heap.size := fun b o e hp => by
    obtain ⟨b', o', e', hb', _⟩ := h.cell 0 hp
    rw [e] at e'
    simp at e'
    omega
  have hcnt := rowCells hr3 8 (by omega)
  rw [show ([0, 0, 0, 0, 0, 0, 0, 0, (K : Int) + 1] : List Int).getD 8 0 = (K : Int) + 1 from rfl] at hcnt
  have hbad : ∀ wr, Chg (fun q => q = w1.heap.size) (w1.alloc (.cells #[.int .i64 0, .int .i64 0, .int .i64 0, .int .i64 0, .int .i64 0, .int .i64 0, .int .i64 0, .int .i64 0, .int .i64 ((K : Int) + 1)] 76)) wr → ∀ d0 d1 d2 d3 d4 d5 d6 d7 d8 : Int,
      OwnRow w.heap.size (w.heap.size + 1) wr 76 (some ⟨w.heap.size, 0, none⟩) 9 9 (([0, 0, 0, 0, 0, 0, 0, 0, 0] : List Int).map (Value.int .i64)) ∧
      OwnRow w.heap.size (w.heap.size + 1) (put9 wr w.heap.size d0 d1 d2 d3 d4 d5 d6 d7 d8) 76 (some ⟨w.heap.size, 0, none⟩) 9 9 (([d0, d1, d2, d3, d4, d5, d6, d7, d8] : List Int).map (Value.int .i64)) ∧ Below w.heap.size w (put9 wr w.heap.size d0 d1 d2 d3 d4 d5 d6 d7 d8) := by
    intro wr hc d0 d1 d2 d3 d4 d5 d6 d7 d8
    have hs := hc.size
    have h1 := hr0.chg hc (fun g h1 h2 h3 => by omega)
    obtain ⟨h2, h3⟩ := put9_row (B := w.heap.size) h1 (by omega) (Nat.le_refl _) d0 d1 d2 d3 d4 d5 d6 d7 d8
    exact ⟨h1, h2, (hb2.trans (hc.below (by omega) (fun q hq => by omega))).trans h3⟩
  have hrw := rowNew [0, 0, 0, 0, 0, 0, 0, 0, 0] _ 9 hr1' rfl rfl (by omega)
  clear hb1 hr1' hr2 hr0 h hb2
  by_cases hlong : (K : Int) + 1 < n
  · have hb : cycB xs = false := cycBF (fun hc => by have := (HCy.out.1 hc).1; rw [Hl0.out] at this; omega)
    obtain ⟨hput0, hbp0⟩ := put9_row (B := w.heap.size) hrw (by omega) (Nat.le_refl _) 0 0 0 0 0 0 0 0 0
    have hput := hput0.keep (belowAlloc _ (.cells #[.int .i64 0, .int .i64 0, .int .i64 0, .int .i64 0, .int .i64 0, .int .i64 0, .int .i64 0, .int .i64 0, .int .i64 ((K : Int) + 1)] 76))
    have hbelow := (hbw1.trans hbp0).alloc (by have := hbp0.size; omega) (.cells #[.int .i64 0, .int .i64 0, .int .i64 0, .int .i64 0, .int .i64 0, .int .i64 0, .int .i64 0, .int .i64 0, .int .i64 ((K : Int) + 1)] 76)
    obtain ⟨g0, g1, g2, g3, g4, g5, g6, g7, g8⟩ := put9_cells hrw
    obtain ⟨f0, f1, f2, f3, f4, f5, f6, f7, f8⟩ := frozen9 hrw
    obtain ⟨p0, p1, p2, p3, p4, p5, p6, p7, p8⟩ := put9_cells hput
    clear hput0 hbp0
    unfold put9 at hput p0 p1 p2 p3 p4 p5 p6 p7 p8 hbelow
    have P := Lib.hid (And.intro p0 (And.intro p1 (And.intro p2 (And.intro p3 (And.intro p4 (And.intro p5 (And.intro p6 (And.intro p7 p8))))))))
    clear p0 p1 p2 p3 p4 p5 p6 p7 p8 hbad hcnt hsz2 hlt
    have hw1 : w.heap.size < w1.heap.size := by omega
    have Hb := Lib.hid hb; clear hb
    have Hput := Lib.hid hput; clear hput
    have Hbelow := Lib.hid hbelow; clear hbelow
    have Hx := Lib.hid hx; clear hx
    have Hr3 := Lib.hid hr3; clear hr3
    have Hrw := Lib.hid hrw; clear hrw
    have Hbw1 := Lib.hid hbw1; clear hbw1
    go_wp2_with fail
    refine bodyPost_ret (v := .tuple #[ring0, .bool false]) ?_ rfl ⟨by rw [ofV_no Hb.out, Hb.out], ?_⟩
    · obtain ⟨p0, p1, p2, p3, p4, p5, p6, p7, p8⟩ := P.out
      rw [results_cell_tmp rfl]
      simp [go_sem, asAddr, Result.andThen, loadVar, p0, p1, p2, p3, p4, p5, p6, p7, p8]
      rfl
    · with_reducible exact Hbelow.out
  · have hn8 : n ≤ 8 := by omega
    have hsl := slAll w1.heap.size
    have hz0 := ofT_zero xs K n Hl0.out hn8
    have Hrw := Lib.hid hrw; clear hrw
    have Hbw1 := Lib.hid hbw1; clear hbw1
    have Hz0 := Lib.hid hz0; clear hz0
    go_wp2_with (refine wpList_copyRing (w1.alloc (.cells #[.int .i64 0, .int .i64 0, .int .i64 0, .int .i64 0, .int .i64 0, .int .i64 0, .int .i64 0, .int .i64 0, .int .i64 ((K : Int) + 1)] 76)) rfl _ _ rfl w1.heap.size (w1.heap.size + 1) w1.heap.size _ rfl hr3 ao n cap xs rfl hx hn8 ?_)
    intro w3 hrow0' hchg0
    have hrow0 : OwnRow w1.heap.size (w1.heap.size + 1) w3 76 (some ⟨w1.heap.size, 0, none⟩) 9 9 ((ofT xs K 0).map (Value.int .i64)) := by
      rw [← Hz0.out]; simpa using hrow0'
    clear hrow0'
    have hcnt3 := rowCells hrow0 8 (by omega)
    rw [ofT_last] at hcnt3
    clear hr3 hcnt
    go_wp2_with fail
    go_loopw [31] (fun i wr => ∃ k : Nat, k ≤ K + 1 ∧ i = .int .i64 k ∧ (∀ j, j < k → (xs.getD j 0 - (K - j) = 0 ∨ xs.getD j 0 - (K - j) = 1)) ∧ OwnRow w1.heap.size (w1.heap.size + 1) wr 76 (some ⟨w1.heap.size, 0, none⟩) 9 9 ((ofT xs K k).map (Value.int .i64)) ∧ Chg (fun q => q = w1.heap.size) (w1.alloc (.cells #[.int .i64 0, .int .i64 0, .int .i64 0, .int .i64 0, .int .i64 0, .int .i64 0, .int .i64 0, .int .i64 0, .int .i64 ((K : Int) + 1)] 76)) wr) (fun i _ => K + 1 - (intOf i).toNat)
    case atStart => exact ⟨0, Nat.zero_le _, rfl, fun j hj => by omega, hrow0, hchg0⟩
    case round =>
      obtain ⟨k, hk, rfl, hbits, hrow, hchg⟩ := hrel
      by_cases hltk : k < K + 1
      · obtain ⟨x, hxv⟩ : ∃ x, xs.getD k 0 = x := ⟨_, rfl⟩
        have hxb := (getD_nonneg Hg.out.1 k).1
        rw [hxv] at hxb
        have hx28 : x ≤ 28 := by
          by_cases hkn : k < n
          · exact (Hg.out.mem (getD_mem hxv hkn Hl0.out)).2
          · have : xs.getD k 0 = 0 := by rw [List.getD_eq_getElem?_getD, List.getElem?_eq_none (by rw [Hl0.out]; omega)]; rfl
            omega
        have hcJ := rowCells hrow k (by omega)
        rw [ofT_getD _ _ _ _ (by omega), if_neg (by omega), hxv] at hcJ
        have hfJ := hrow.frozenI k
        have hset := ofT_set xs K k (by omega)
        rw [hxv] at hset
        obtain ⟨hst, hgr⟩ := hrow.setI k (x - ((K : Int) - k))
        rw [hset] at hst
        have hchg2 := hchg.trans ((Chg.ofGrown hgr).mono (fun q hq => by simpa using hq))
        by_cases hbit : x - ((K : Int) - k) = 0 ∨ x - ((K : Int) - k) = 1
        · have hbits2 : ∀ j, j < k + 1 → (xs.getD j 0 - (K - j) = 0 ∨ xs.getD j 0 - (K - j) = 1) := by
            intro j hj
            by_cases hjk : j = k
            · subst hjk; rw [hxv]; exact hbit
            · exact hbits j (by omega)
          have Hxv := Lib.hid hxv; clear hxv
          have Hset := Lib.hid hset; clear hset
          have Hst := Lib.hid hst; clear hst
          have Hgr := Lib.hid hgr; clear hgr
          have Hchg := Lib.hid hchg; clear hchg
          have Hchg2 := Lib.hid hchg2; clear hchg2
          have Hrow := Lib.hid hrow; clear hrow
          have Hbits := Lib.hid hbits; clear hbits
          have Hbits2 := Lib.hid hbits2; clear hbits2
          rcases hbit with hbit | hbit
          · have hd : ((x - ((K : Int) - k)) != 0) = false := by simp; omega
            have Hbit := Lib.hid hbit; clear hbit
            go_wp2
            go_roundw
            case rel => exact ⟨k + 1, by omega, by go_num, Hbits2.out, Hst.out, Hchg2.out⟩
            case measure => simp [intOf]; omega
          · have hd : ((x - ((K : Int) - k)) != 0) = true := by simp; omega
            have hd1 : ((x - ((K : Int) - k)) != 1) = false := by simp; omega
            have Hbit := Lib.hid hbit; clear hbit
            go_wp2
            go_roundw
            case rel => exact ⟨k + 1, by omega, by go_num, Hbits2.out, Hst.out, Hchg2.out⟩
            case measure => simp [intOf]; omega
        · have hb : cycB xs = false := cycBF (fun hc => hbit (by have := (HCy.out.1 hc).2 k hltk; rw [hxv] at this; exact this))
          have hd : ((x - ((K : Int) - k)) != 0) = true := by simp; omega
          have hd1 : ((x - ((K : Int) - k)) != 1) = true := by simp; omega
          obtain ⟨hresA, _, _⟩ := hbad wr hchg 0 0 0 0 0 0 0 0 0
          obtain ⟨_, hput, hbelow⟩ := hbad _ hchg2 0 0 0 0 0 0 0 0 0
          obtain ⟨g0, g1, g2, g3, g4, g5, g6, g7, g8⟩ := put9_cells hresA
          obtain ⟨f0, f1, f2, f3, f4, f5, f6, f7, f8⟩ := frozen9 hresA
          obtain ⟨p0, p1, p2, p3, p4, p5, p6, p7, p8⟩ := put9_cells hput
          unfold put9 at hput p0 p1 p2 p3 p4 p5 p6 p7 p8 hbelow
          have P := Lib.hid (And.intro p0 (And.intro p1 (And.intro p2 (And.intro p3 (And.intro p4 (And.intro p5 (And.intro p6 (And.intro p7 p8))))))))
          clear p0 p1 p2 p3 p4 p5 p6 p7 p8 hbad hlt
          have Hb := Lib.hid hb; clear hb
          have Hxv := Lib.hid hxv; clear hxv
          have Hset := Lib.hid hset; clear hset
          have Hst := Lib.hid hst; clear hst
          have Hgr := Lib.hid hgr; clear hgr
          have Hchg := Lib.hid hchg; clear hchg
          have Hchg2 := Lib.hid hchg2; clear hchg2
          have Hrow := Lib.hid hrow; clear hrow
          have Hbits := Lib.hid hbits; clear hbits
          have Hbit := Lib.hid hbit; clear hbit
          have Hput := Lib.hid hput; clear hput
          have Hbelow := Lib.hid hbelow; clear hbelow
          have HresA := Lib.hid hresA; clear hresA
          go_wp2_with fail
          refine bodyPost_ret (v := .tuple #[ring0, .bool false]) ?_ rfl ⟨by rw [ofV_no Hb.out, Hb.out], ?_⟩
          · obtain ⟨p0, p1, p2, p3, p4, p5, p6, p7, p8⟩ := P.out
            rw [results_cell_tmp rfl]
            simp [go_sem, asAddr, Result.andThen, loadVar, p0, p1, p2, p3, p4, p5, p6, p7, p8]
            rfl
          · with_reducible exact Hbelow.out
      · have hk' : k = K + 1 := by omega
        subst hk'
        have hb : cycB xs = true := by
          rw [cyc_iff, HCy.out]
          exact ⟨by rw [Hl0.out]; omega, hbits⟩
        obtain ⟨d0, d1, d2, d3, d4, d5, d6, d7, n', hr'⟩ := R9.of (bs := bitsL xs) (by rw [Hbl.out]; omega)
        have hnn : n' = K + 1 := by have := hr'.1; rw [Hbl.out] at this; exact this.symm
        subst hnn
        have hv : ∀ j, j < 8 → (ofT xs K (K + 1)).getD j 0 = (bitsL xs).getD j 0 := Hall.out (by rw [Hl0.out]; omega)
        have e0 := (hv 0 (by omega)).trans hr'.2.2.1
        have e1 := (hv 1 (by omega)).trans hr'.2.2.2.1
        have e2 := (hv 2 (by omega)).trans hr'.2.2.2.2.1
        have e3 := (hv 3 (by omega)).trans hr'.2.2.2.2.2.1
        have e4 := (hv 4 (by omega)).trans hr'.2.2.2.2.2.2.1
        have e5 := (hv 5 (by omega)).trans hr'.2.2.2.2.2.2.2.1
        have e6 := (hv 6 (by omega)).trans hr'.2.2.2.2.2.2.2.2.1
        have e7 := (hv 7 (by omega)).trans hr'.2.2.2.2.2.2.2.2.2
        have e8 := ofT_last xs K (K + 1)
        have c0 := rowCells hrow 0 (by omega)
        have c1 := rowCells hrow 1 (by omega)
        have c2 := rowCells hrow 2 (by omega)
        have c3 := rowCells hrow 3 (by omega)
        have c4 := rowCells hrow 4 (by omega)
        have c5 := rowCells hrow 5 (by omega)
        have c6 := rowCells hrow 6 (by omega)
        have c7 := rowCells hrow 7 (by omega)
        have c8 := rowCells hrow 8 (by omega)
        rw [e0] at c0
        rw [e1] at c1
        rw [e2] at c2
        rw [e3] at c3
        rw [e4] at c4
        rw [e5] at c5
        rw [e6] at c6
        rw [e7] at c7
        rw [e8] at c8
        obtain ⟨hresA, hput, hbelow⟩ := hbad wr hchg d0 d1 d2 d3 d4 d5 d6 d7 ((K : Int) + 1)
        obtain ⟨g0, g1, g2, g3, g4, g5, g6, g7, g8⟩ := put9_cells hresA
        obtain ⟨f0, f1, f2, f3, f4, f5, f6, f7, f8⟩ := frozen9 hresA
        obtain ⟨p0, p1, p2, p3, p4, p5, p6, p7, p8⟩ := put9_cells hput
        unfold put9 at hput p0 p1 p2 p3 p4 p5 p6 p7 p8 hbelow
        have P := Lib.hid (And.intro p0 (And.intro p1 (And.intro p2 (And.intro p3 (And.intro p4 (And.intro p5 (And.intro p6 (And.intro p7 p8))))))))
        clear p0 p1 p2 p3 p4 p5 p6 p7 p8 hbad hlt
        have E0 := Lib.hid e0; clear e0
        have E1 := Lib.hid e1; clear e1
        have E2 := Lib.hid e2; clear e2
        have E3 := Lib.hid e3; clear e3
        have E4 := Lib.hid e4; clear e4
        have E5 := Lib.hid e5; clear e5
        have E6 := Lib.hid e6; clear e6
        have E7 := Lib.hid e7; clear e7
        have E8 := Lib.hid e8; clear e8
        have Hv := Lib.hid hv; clear hv
        have Hrow := Lib.hid hrow; clear hrow
        have HresA := Lib.hid hresA; clear hresA
        have Hchg := Lib.hid hchg; clear hchg
        have Hput := Lib.hid hput; clear hput
        have Hbelow := Lib.hid hbelow; clear hbelow
        have Hbits := Lib.hid hbits; clear hbits
        have Hb := Lib.hid hb; clear hb
        have Hr' := Lib.hid hr'; clear hr'
        go_wp2_with fail
        refine bodyPost_ret (v := .tuple #[.agg #[.int .i64 d0, .int .i64 d1, .int .i64 d2, .int .i64 d3, .int .i64 d4, .int .i64 d5, .int .i64 d6, .int .i64 d7, .int .i64 ((K : Int) + 1)], .bool true]) ?_ rfl ⟨by rw [ofV_yes Hb.out, Hb.out, Hr'.out.v]; rfl, ?_⟩
        · obtain ⟨p0, p1, p2, p3, p4, p5, p6, p7, p8⟩ := P.out
          rw [results_cell_tmp rfl]
          simp [go_sem, asAddr, Result.andThen, loadVar, p0, p1, p2, p3, p4, p5, p6, p7, p8]
        · with_reducible exact Hbelow.out
end Go.Proofs.YtmfdimdcoeapoaaGreat
