/- Several texts in one: Rings, RingsI, Choice, CycP. No condition. -/
import Derived.Test.YthppkfhhidlpiaaGreatOnes
import Derived.Test.YthppkfhhidlpiaaGreatGk
namespace Go.Proofs.YthppkfhhidlpiaaGreat
section
open Go.RowKit
set_option linter.unusedVariables false
set_option linter.unusedSimpArgs false
set_option maxRecDepth 20000

/-! ### Masks -/
def maskBits (K m : Nat) : List Int := (List.range (K + 1)).map fun (i : Nat) => ((m / 2 ^ (K - i) % 2 : Nat) : Int)
theorem maskBits_length (K m : Nat) : (maskBits K m).length = K + 1 := by simp [maskBits]
theorem maskBits_getD (K m i : Nat) (h : i < K + 1) : (maskBits K m).getD i 0 = ((m / 2 ^ (K - i) % 2 : Nat) : Int) := by
  unfold maskBits
  rw [List.getD_eq_getElem?_getD, List.getElem?_map, List.getElem?_range h]; rfl
theorem maskBits_isB (K m : Nat) : IsB (maskBits K m) := by
  intro b hb
  obtain ⟨i, _, rfl⟩ := List.mem_map.1 hb
  have := Nat.mod_lt (m / 2 ^ (K - i)) (show 0 < 2 by omega)
  omega
/-- the rings of the masks from the greatest one down to m -/
def ringsTo (K o T m : Nat) : List (List Int) := (((List.range (T - m)).map fun d => T - 1 - d).filter fun x => popN 8 x == o).map (maskBits K)
theorem ringsTo_start (K o T : Nat) : ringsTo K o T T = [] := by simp [ringsTo]
theorem ringsTo_step (K o T m : Nat) (h : m + 1 ≤ T) : ringsTo K o T m = ringsTo K o T (m + 1) ++ if popN 8 m = o then [maskBits K m] else [] := by
  unfold ringsTo
  rw [show T - m = (T - (m + 1)) + 1 by omega, List.range_succ, List.map_append, List.filter_append, List.map_append, List.map_singleton, show T - 1 - (T - (m + 1)) = m by omega]
  congr 1
  by_cases hp : popN 8 m = o
  · rw [if_pos hp, List.filter_cons_of_pos (by simpa using hp)]; rfl
  · rw [if_neg hp, List.filter_cons_of_neg (by simpa using hp)]; rfl
def ringsL (n : Nat) : List (List Int) := ringsTo (hgt n) (n - tri (hgt n)) (2 ^ (hgt n + 1)) 0
theorem ringsTo_isB (K o T m : Nat) : ∀ bs ∈ ringsTo K o T m, IsB bs ∧ bs.length = K + 1 := by
  intro bs hb
  obtain ⟨x, _, rfl⟩ := List.mem_map.1 hb
  exact ⟨maskBits_isB K x, maskBits_length K x⟩
theorem ringsTo_length (K o T m : Nat) : (ringsTo K o T m).length ≤ T - m := by
  unfold ringsTo
  rw [List.length_map]
  refine Nat.le_trans (List.length_filter_le _ _) ?_
  simp

/-! ### Rows of rings -/
def ringCells (bs : List Int) : List Value := (ring9 (bs.getD 0 0) (bs.getD 1 0) (bs.getD 2 0) (bs.getD 3 0) (bs.getD 4 0) (bs.getD 5 0) (bs.getD 6 0) (bs.getD 7 0) bs.length).toList
theorem ringCells_length (bs : List Int) : (ringCells bs).length = 9 := rfl
def RingRow (B E : Nat) (w : World) (ao : Option Addr) (n cap : Nat) (rs : List (List Int)) : Prop :=
  w.ownsRow B 79 9 (.slice ao n cap) n (rs.flatMap ringCells) ∧ rs.length = n ∧ ∀ g, (Value.slice ao n cap).ownBlock = some g → g < E
theorem RingRow.nil (B E : Nat) (w : World) : RingRow B E w none 0 0 [] := ⟨World.ownsRow_nil w B _ 9, rfl, fun g hg => by simp [Value.ownBlock] at hg⟩
theorem ringFlat_at (rs : List (List Int)) (i j : Nat) (hi : i < rs.length) (hj : j < 9) : (rs.flatMap ringCells)[i * 9 + j]? = (ringCells (rs.getD i []))[j]? := by
  induction rs generalizing i with
  | nil => simp at hi
  | cons r rs ih =>
    rw [List.flatMap_cons]
    cases i with
    | zero => rw [List.getElem?_append_left (by rw [ringCells_length]; omega)]; simp
    | succ i =>
      rw [List.getElem?_append_right (by rw [ringCells_length]; omega), ringCells_length, show (i + 1) * 9 + j - 9 = i * 9 + j by omega, ih i (by simpa using hi)]
      simp
theorem RingRow.cases {B E w ao n cap rs} (h : RingRow B E w ao n cap rs) (hn : 0 < n) : ∃ g, ao = some ⟨g, 0, none⟩ ∧ B ≤ g ∧ g < E ∧ g < w.heap.size ∧ n ≤ cap ∧ cap ≤ maxLen := by
  rcases h.1.2 with ⟨_, hz⟩ | ⟨g, c, cur, hv, hg, hh, hnc, hcm, rest⟩
  · omega
  · simp only [Value.slice.injEq] at hv
    obtain ⟨rfl, _, rfl⟩ := hv
    exact ⟨g, rfl, hg, h.2.2 g rfl, (Array.getElem?_eq_some_iff.1 hh).1, hnc, hcm⟩
theorem RingRow.cellsAt {B E w g n cap rs} (h : RingRow B E w (some ⟨g, 0, none⟩) n cap rs) (i : Nat) (hi : i < n) (j : Nat) (hj : j < 9) :
    w.cell? ⟨g, i * 9 + j, none⟩ = (ringCells (rs.getD i []))[j]? := by
  have hf := ringFlat_at rs i j (by rw [h.2.1]; exact hi) hj
  have hs : ∃ u, (ringCells (rs.getD i []))[j]? = some u := ⟨_, List.getElem?_eq_getElem (by rw [ringCells_length]; exact hj)⟩
  obtain ⟨u, hu⟩ := hs
  have := World.ownsRow.cells h.1 (g := g) rfl (i * 9 + j) u (by rw [hf, hu])
  rw [Addr.add_lit] at this
  simp only [Nat.zero_add] at this
  rw [this, hu]
theorem RingRow.chg {S : Nat → Prop} {B E w w' ao n cap rs} (h : RingRow B E w ao n cap rs) (hc : Chg S w w') (hs : ∀ g, B ≤ g → g < E → ¬ S g) : RingRow B E w' ao n cap rs := by
  refine ⟨⟨h.1.1, ?_⟩, h.2.1, h.2.2⟩
  rcases h.1.2 with hn | ⟨g, c, cur, hv, hg, hh, rest⟩
  · exact .inl hn
  · refine .inr ⟨g, c, cur, hv, hg, ?_, rest⟩
    have hb : (Value.slice ao n cap).ownBlock = some g := by rw [hv]; rfl
    rw [hc.block g (Array.getElem?_eq_some_iff.1 hh).1 (hs g hg (h.2.2 g hb))]
    exact hh
theorem RingRow.keep {B E w w' ao n cap rs} (h : RingRow B E w ao n cap rs) (hb : Below w.heap.size w w') : RingRow B E w' ao n cap rs :=
  h.chg (S := fun _ => False) (Chg.ofBelow hb) (fun _ _ _ h => h)
theorem RingRow.mono {B B' E E' w ao n cap rs} (h : RingRow B E w ao n cap rs) (hB : B' ≤ B) (hE : E ≤ E') : RingRow B' E' w ao n cap rs := by
  refine ⟨⟨h.1.1, ?_⟩, h.2.1, fun g hg => Nat.lt_of_lt_of_le (h.2.2 g hg) hE⟩
  rcases h.1.2 with hn | ⟨g, c, cur, hv, hg, rest⟩
  · exact .inl hn
  · exact .inr ⟨g, c, cur, hv, Nat.le_trans hB hg, rest⟩
theorem Tryz.infoRing : (Tryz.prog.info? 79).map (fun i => (i.zero, i.size, i.bytes)) = some (some ring0, 9, 72) := by kernel_rfl

/-- one ring is appended; it lies in a block of its own, laid just before -/
theorem wpList_pushRing {ops : Array Oper} {rest : List Oper} {o : Oper} {a : Act} {Q : Exit → Act → World → Prop} (w : World) (hgd : o.guard = none) (s x : Operand)
    (ho : o.op = .call { callee := .builtin .append, args := #[s, x], argTypes := #[89, 89] })
    (B E : Nat) (ao : Option Addr) (n cap : Nat) (rs : List (List Int)) (hs : a.eval s = .slice ao n cap) (hown : RingRow B E w ao n cap rs)
    (bs : List Int) (b0 b1 b2 b3 b4 b5 b6 b7 : Int) (m : Nat) (hr : R9 bs b0 b1 b2 b3 b4 b5 b6 b7 m)
    (hx : a.eval x = .slice (some ⟨w.heap.size, 0, none⟩) 1 1) (hn : n ≤ 1000000) (hB : B ≤ w.heap.size)
    (h : ∀ ao' cap' w', RingRow B w'.heap.size w' ao' (n + 1) cap' (rs ++ [bs]) → Below B w w' → w.heap.size ≤ w'.heap.size → wpList Tryz.prog ops Q rest (a.put o.dst (.slice ao' (n + 1) cap')) w') :
    wpList Tryz.prog ops Q (o :: rest) a (w.alloc (.cells #[.int .i64 b0, .int .i64 b1, .int .i64 b2, .int .i64 b3, .int .i64 b4, .int .i64 b5, .int .i64 b6, .int .i64 b7, .int .i64 m] 79)) := by
  obtain ⟨i0, hi, hz0, hz1, hz2⟩ := info_parts Tryz.infoRing
  have hcells : ringCells bs = [.int .i64 b0, .int .i64 b1, .int .i64 b2, .int .i64 b3, .int .i64 b4, .int .i64 b5, .int .i64 b6, .int .i64 b7, .int .i64 m] := by
    obtain ⟨hm, h8, h0, h1, h2, h3, h4, h5, h6, h7⟩ := hr
    unfold ringCells ring9
    rw [h0, h1, h2, h3, h4, h5, h6, h7, hm]
  refine wpList_append_own _ hgd s x 89 ho B 79 i0 ring0 9 72 (by kernel_rfl) hi hz0 hz1 hz2 rfl (by decide) _ n _ hs (hown.1.alloc _) ⟨w.heap.size, 0, none⟩ 1 1 (ringCells bs) hx rfl ?_ ?_ ?_ ?_ (by simp; omega) ?_
  · intro j u hu
    rw [Addr.add_lit, World.cell?_alloc_at _ _ _ _ rfl, ← hu, hcells]
    simp
  · intro u hu
    rw [hcells] at hu
    simp only [List.mem_cons, List.not_mem_nil, or_false] at hu
    rcases hu with rfl | rfl | rfl | rfl | rfl | rfl | rfl | rfl | rfl <;> rfl
  · unfold maxLen; omega
  · omega
  · intro v' w1 hown' hgrow hnil
    have hv : ∃ ao' cap', v' = .slice ao' (n + 1) cap' := by
      rcases hown'.2 with ⟨e, hz⟩ | ⟨g, c, cur, e, _⟩
      · omega
      · exact ⟨_, _, e⟩
    obtain ⟨ao', cap', rfl⟩ := hv
    have hsz := hgrow.size
    refine h ao' cap' w1 ⟨by rw [List.flatMap_append]; simpa using hown', by simp [hown.2.1], fun g hg => (World.ownsRow.lt hown' g hg).2⟩ ?_ (by simp at hsz; omega)
    have hc := Chg.ofGrown hgrow
    refine ⟨hc.os, hc.tape, hc.output, Nat.le_trans (by simp) hc.size, fun k hk => ?_⟩
    rw [hc.block k (by simp; omega) (fun e => by
      have := World.ownsRow.lt hown.1 k (by rw [← e])
      omega), Below.heap_alloc w _ k (by omega)]
end
end Go.Proofs.YthppkfhhidlpiaaGreat
namespace Go.Proofs.YthppkfhhidlpiaaGreat
section
open Go.RowKit
set_option linter.unusedVariables false
set_option linter.unusedSimpArgs false
set_option maxRecDepth 20000

theorem band_one : ∀ n : Fin 256, bits BinOp.and IntKind.i64 (n.val : Int) 1 = ((n.val % 2 : Nat) : Int) := by decide +kernel
theorem band_bit (q s : Nat) (h : q < 256) : bits BinOp.and IntKind.i64 ((q : Int) / 2 ^ s) 1 = ((q / 2 ^ s % 2 : Nat) : Int) := by
  have hle : q / 2 ^ s ≤ q := Nat.div_le_self _ _
  have := band_one ⟨q / 2 ^ s, by omega⟩
  rw [← this]
  congr 1

set_option maxHeartbeats 1600000 in
theorem ringsOf_any (n : Nat) (w : World) (hn : n ≤ 28) :
    Calls Tryz.prog 81 #[.int .i64 n] w fun e w' => ∃ ao m c, e = .returned (.slice ao m c) ∧ RingRow w.heap.size w'.heap.size w' ao m c (ringsL n) ∧ Below w.heap.size w w' := by
  have hcon := impl_HeightFor n w
  have hm : mHeightFor n = (((hgt n : Nat) : Int), (n : Int) - ((tri (hgt n) : Nat) : Int), true) := by unfold mHeightFor; rw [if_pos (by omega)]; rfl
  rw [hm] at hcon
  have ht := tri_hgt n (by omega)
  have h7 := hgt_le n
  unfold ringsL
  generalize hgt n = K at *
  obtain ⟨o, ho⟩ : ∃ o, n - tri K = o := ⟨_, rfl⟩
  have hoi : (n : Int) - ((tri K : Nat) : Int) = (o : Int) := by omega
  rw [hoi] at hcon
  rw [ho]
  have Hcon := Lib.hid hcon; clear hcon
  have Hm := Lib.hid hm; clear hm
  have Ht := Lib.hid ht; clear ht
  have Hoi := Lib.hid hoi; clear hoi
  have Ho := Lib.hid ho; clear ho
  go_enter Tryz.func81, Tryz.ntmps81
  go_wp2_with fail
  with_reducible refine (Hcon.out).mono ?_
  rintro e w1 ⟨rfl, hb1⟩
  go_wp2_with fail
  obtain ⟨T, hT⟩ : ∃ T, 2 ^ (K + 1) = T := ⟨_, rfl⟩
  have hT8 : T ≤ 256 ∧ 1 ≤ T ∧ wrap64 (wrap64 ((2 : Int) ^ (K + 1)) - 1) = (T : Int) - 1 := by
    rw [← hT]
    have hk : K = 0 ∨ K = 1 ∨ K = 2 ∨ K = 3 ∨ K = 4 ∨ K = 5 ∨ K = 6 ∨ K = 7 := by omega
    rcases hk with rfl | rfl | rfl | rfl | rfl | rfl | rfl | rfl <;> decide +kernel
  obtain ⟨hT1, hT2, hT3⟩ := hT8
  rw [hT3]
  have HT := Lib.hid hT; clear hT
  have HT3 := Lib.hid hT3; clear hT3
  go_loopw [7, 8] (fun v i wr => ∃ (m : Nat) (a : Option Addr) (l c : Nat), m ≤ T ∧ i = .int .i64 ((m : Int) - 1) ∧ v = .slice a l c ∧ RingRow w.heap.size wr.heap.size wr a l c (ringsTo K o T m) ∧ Below w.heap.size w wr) (fun _ i _ => (intOf i + 1).toNat)
  case atStart => exact ⟨T, none, 0, 0, Nat.le_refl _, rfl, rfl, by rw [ringsTo_start]; exact RingRow.nil _ _ _, hb1⟩
  case round =>
    obtain ⟨m, a, l, c, hmT, rfl, rfl, hrow, hb⟩ := hrel
    have hlen := ringsTo_length K o T m
    rw [hrow.2.1] at hlen
    by_cases hm0 : m = 0
    · subst hm0
      go_wp2_with fail
      go_ret
      rw [HT.out]
      exact ⟨_, _, _, rfl, hrow, hb⟩
    · obtain ⟨q, rfl⟩ : ∃ q, m = q + 1 := ⟨m - 1, by omega⟩
      have hstep := ringsTo_step K o T q hmT
      have e1 : (((q + 1 : Nat)) : Int) - 1 = (q : Int) := by omega
      rw [e1]
      have hu : IntKind.u64.wrap (q : Int) = (q : Int) := by
        have : q < 256 := by omega
        show (q : Int) % 18446744073709551616 = q
        omega
      have hpop := fun w => onesCount_any q w (by omega)
      by_cases hp : popN 8 q = o
      · rw [if_pos hp] at hstep
        have hpe : ((popN 8 q : Nat) : Int) = (o : Int) := by omega
        rw [hp] at hpop
        have Hstep := Lib.hid hstep; clear hstep
        have Hpop := Lib.hid hpop; clear hpop
        have Hp := Lib.hid hp; clear hp
        have Hpe := Lib.hid hpe; clear hpe
        have E1 := Lib.hid e1; clear e1
        go_wp2_with fail
        with_reducible refine (Hpop.out _).mono ?_
        rintro e w' ⟨rfl, rfl⟩
        have hr0 : OwnRow wr.heap.size (wr.heap.size + 1) (wr.alloc (.cells #[.int .i64 0, .int .i64 0, .int .i64 0, .int .i64 0, .int .i64 0, .int .i64 0, .int .i64 0, .int .i64 0, .int .i64 ((K : Int) + 1)] 79)) 79 (some ⟨wr.heap.size, 0, none⟩) 9 9 ((withT (maskBits K q) (K + 1) 0).map (Value.int .i64)) := by
          have := rowNew (withT (maskBits K q) (K + 1) 0) _ 9 (heap_alloc_new wr (.cells #[.int .i64 0, .int .i64 0, .int .i64 0, .int .i64 0, .int .i64 0, .int .i64 0, .int .i64 0, .int .i64 0, .int .i64 ((K : Int) + 1)] 79)) (by rw [withT_zero]; rfl) (withT_length _ _ _) (by omega)
          exact this
        have hrowA := hrow.keep (belowAlloc wr (.cells #[.int .i64 0, .int .i64 0, .int .i64 0, .int .i64 0, .int .i64 0, .int .i64 0, .int .i64 0, .int .i64 0, .int .i64 ((K : Int) + 1)] 79))
        have hbA := hb.alloc hb.size (.cells #[.int .i64 0, .int .i64 0, .int .i64 0, .int .i64 0, .int .i64 0, .int .i64 0, .int .i64 0, .int .i64 0, .int .i64 ((K : Int) + 1)] 79)
        have hszA : (wr.alloc (.cells #[.int .i64 0, .int .i64 0, .int .i64 0, .int .i64 0, .int .i64 0, .int .i64 0, .int .i64 0, .int .i64 0, .int .i64 ((K : Int) + 1)] 79)).heap.size = wr.heap.size + 1 := by simp
        have hbs := hb.size
        go_wp2_with fail
        generalize (wr.alloc (.cells #[.int .i64 0, .int .i64 0, .int .i64 0, .int .i64 0, .int .i64 0, .int .i64 0, .int .i64 0, .int .i64 0, .int .i64 ((K : Int) + 1)] 79)) = wA at *
        generalize hR : wr.heap.size = R at *
        have HR := Lib.hid hR; clear hR
        have hq8 : q < 256 := by omega
        go_loopw [34] (fun i wi => ∃ k : Nat, k ≤ K + 1 ∧ i = .int .i64 k ∧ OwnRow R (R + 1) wi 79 (some ⟨R, 0, none⟩) 9 9 ((withT (maskBits K q) (K + 1) k).map (Value.int .i64)) ∧ Chg (fun z => z = R) wA wi) (fun i _ => K + 1 - (intOf i).toNat)
        case atStart => exact ⟨0, Nat.zero_le _, rfl, hr0, Chg.refl _ _⟩
        case round =>
          obtain ⟨k, hk, rfl, hrr, hchg⟩ := hrel
          by_cases hkK : k < K + 1
          · have hset := withT_set (maskBits K q) (K + 1) k (by omega)
            rw [maskBits_getD _ _ _ hkK] at hset
            have hcJ := rowCells hrr k (by omega)
            have hfJ := hrr.frozenI k
            generalize hy : (withT (maskBits K q) (K + 1) k).getD k 0 = y at hcJ
            obtain ⟨hst, hgr⟩ := hrr.setI k (((q / 2 ^ (K - k) % 2 : Nat) : Int))
            rw [hset] at hst
            have hbit := band_bit q (K - k) hq8
            generalize hV : ((q / 2 ^ (K - k) % 2 : Nat) : Int) = V at *
            have Hset := Lib.hid hset; clear hset
            have Hy := Lib.hid hy; clear hy
            have Hst := Lib.hid hst; clear hst
            have Hgr := Lib.hid hgr; clear hgr
            have HV := Lib.hid hV; clear hV
            have Hrr := Lib.hid hrr; clear hrr
            have Hchg := Lib.hid hchg; clear hchg
            go_wp2_with fail
            go_roundw
            case rel => exact ⟨k + 1, by omega, by go_num, Hst.out, Hchg.out.trans ((Chg.ofGrown Hgr.out).mono (fun z hz => by simpa using hz))⟩
            case measure => simp [intOf]; omega
          · have hk' : k = K + 1 := by omega
            subst hk'
            have hmb := maskBits_length K q
            obtain ⟨d0, d1, d2, d3, d4, d5, d6, d7, n', hr'⟩ := R9.of (bs := maskBits K q) (by omega)
            have hnn : n' = K + 1 := by have := hr'.1; omega
            subst hnn
            have hv : ∀ j, j < 8 → (withT (maskBits K q) (K + 1) (K + 1)).getD j 0 = (maskBits K q).getD j 0 := withT_all _ _ hmb
            have e0 := (hv 0 (by omega)).trans hr'.2.2.1
            have e1' := (hv 1 (by omega)).trans hr'.2.2.2.1
            have e2 := (hv 2 (by omega)).trans hr'.2.2.2.2.1
            have e3 := (hv 3 (by omega)).trans hr'.2.2.2.2.2.1
            have e4 := (hv 4 (by omega)).trans hr'.2.2.2.2.2.2.1
            have e5 := (hv 5 (by omega)).trans hr'.2.2.2.2.2.2.2.1
            have e6 := (hv 6 (by omega)).trans hr'.2.2.2.2.2.2.2.2.1
            have e7 := (hv 7 (by omega)).trans hr'.2.2.2.2.2.2.2.2.2
            have e8 := withT_last (maskBits K q) (K + 1) (K + 1)
            have c0 := rowCells hrr 0 (by omega)
            have c1 := rowCells hrr 1 (by omega)
            have c2 := rowCells hrr 2 (by omega)
            have c3 := rowCells hrr 3 (by omega)
            have c4 := rowCells hrr 4 (by omega)
            have c5 := rowCells hrr 5 (by omega)
            have c6 := rowCells hrr 6 (by omega)
            have c7 := rowCells hrr 7 (by omega)
            have c8 := rowCells hrr 8 (by omega)
            rw [e0] at c0
            rw [e1'] at c1
            rw [e2] at c2
            rw [e3] at c3
            rw [e4] at c4
            rw [e5] at c5
            rw [e6] at c6
            rw [e7] at c7
            rw [e8, show (((K + 1 : Nat)) : Int) = (K : Int) + 1 by omega] at c8
            have hls := hchg.size
            have hrowB := (hrowA.chg hchg (fun g h1 h2 h3 => by omega)).mono (Nat.le_refl _) (show R ≤ wr.heap.size by omega)
            have hbB := hbA.trans (hchg.below (by omega) (fun z hz => by omega))
            have E0 := Lib.hid e0; clear e0
            have E1' := Lib.hid e1'; clear e1'
            have E2 := Lib.hid e2; clear e2
            have E3 := Lib.hid e3; clear e3
            have E4 := Lib.hid e4; clear e4
            have E5 := Lib.hid e5; clear e5
            have E6 := Lib.hid e6; clear e6
            have E7 := Lib.hid e7; clear e7
            have E8 := Lib.hid e8; clear e8
            have Hv := Lib.hid hv; clear hv
            have Hrr := Lib.hid hrr; clear hrr
            have Hchg := Lib.hid hchg; clear hchg
            have HrowA := Lib.hid hrowA; clear hrowA
            have HbA := Lib.hid hbA; clear hbA
            have Hmb := Lib.hid hmb; clear hmb
            go_wp2_with (at_builtin; refine wpList_pushRing wr rfl _ _ rfl w.heap.size wr.heap.size a l c _ rfl hrowB (maskBits K q) d0 d1 d2 d3 d4 d5 d6 d7 (K + 1) hr' rfl (by omega) (by omega) ?_)
            intro ao2 cap2 w5 ho5 hb5 hs5
            rw [← Hstep.out] at ho5
            go_wp2_with fail
            go_roundw
            case rel => exact ⟨q, _, _, _, by omega, rfl, rfl, ho5, hbB.trans hb5⟩
            case measure => simp [intOf]
      · rw [if_neg hp, List.append_nil] at hstep
        have hpe : (((popN 8 q : Nat) : Int) != (o : Int)) = true := by simp; omega
        have Hstep := Lib.hid hstep; clear hstep
        have Hpop := Lib.hid hpop; clear hpop
        have Hp := Lib.hid hp; clear hp
        have E1 := Lib.hid e1; clear e1
        go_wp2_with fail
        with_reducible refine (Hpop.out _).mono ?_
        rintro e w' ⟨rfl, rfl⟩
        go_wp2_with fail
        go_roundw
        case rel => exact ⟨q, a, l, c, by omega, rfl, rfl, by rw [Hstep.out]; exact hrow, hb⟩
        case measure => simp [intOf]
end
end Go.Proofs.YthppkfhhidlpiaaGreat
namespace Go.Proofs.YthppkfhhidlpiaaGreat
section
open Go.RowKit
set_option linter.unusedVariables false
set_option linter.unusedSimpArgs false
set_option maxRecDepth 20000

def choiceL : Nat → Nat → List (List Int)
  | 0, o => if o = 0 then [[]] else []
  | n + 1, o => (if 1 ≤ o then (choiceL n (o - 1)).map ((1 : Int) :: ·) else []) ++ (choiceL n o).map ((0 : Int) :: ·)
def chB (n o b : Nat) : List (List Int) := if b ≤ o then (choiceL n (o - b)).map ((b : Int) :: ·) else []
def chPart (n o X : Nat) : List (List Int) := if X = 0 then chB n o 1 ++ chB n o 0 else if X = 1 then chB n o 1 else []
theorem chPart_step (n o b : Nat) (hb : b ≤ 1) : chPart n o b = chPart n o (b + 1) ++ chB n o b := by
  have : b = 0 ∨ b = 1 := by omega
  rcases this with rfl | rfl
  · simp [chPart]
  · simp [chPart]
theorem chPart_end (n o : Nat) : chPart n o 0 = choiceL (n + 1) o := by
  simp only [chPart, if_true, choiceL, chB]
  simp
theorem choice_length (n : Nat) : ∀ o, (choiceL n o).length ≤ 2 ^ n := by
  induction n with
  | zero => intro o; unfold choiceL; split <;> simp
  | succ n ih =>
    intro o
    unfold choiceL
    have h1 := ih (o - 1)
    have h2 := ih o
    rw [List.length_append, List.length_map, Nat.pow_succ]
    split
    · rw [List.length_map]; omega
    · simp; omega
theorem choice_row (n : Nat) : ∀ o, ∀ ys ∈ choiceL n o, ys.length = n ∧ IsB ys := by
  induction n with
  | zero =>
    intro o ys hy
    unfold choiceL at hy
    split at hy
    · rw [List.mem_singleton.1 hy]; exact ⟨rfl, fun b hb => by cases hb⟩
    · cases hy
  | succ n ih =>
    intro o ys hy
    unfold choiceL at hy
    rcases List.mem_append.1 hy with h | h
    · split at h
      · obtain ⟨zs, hz, rfl⟩ := List.mem_map.1 h
        have := ih (o - 1) zs hz
        refine ⟨by simp [this.1], fun b hb => ?_⟩
        rcases List.mem_cons.1 hb with rfl | hb
        · exact .inr rfl
        · exact this.2 b hb
      · cases h
    · obtain ⟨zs, hz, rfl⟩ := List.mem_map.1 h
      have := ih o zs hz
      refine ⟨by simp [this.1], fun b hb => ?_⟩
      rcases List.mem_cons.1 hb with rfl | hb
      · exact .inl rfl
      · exact this.2 b hb
theorem choice_getD (n o i : Nat) : ((choiceL n o).getD i []).length ≤ n := getD_row (b := n) (fun ys hy => Nat.le_of_eq (choice_row n o ys hy).1) i
theorem chB_length (n o b : Nat) : (chB n o b).length ≤ 2 ^ n := by
  unfold chB
  split
  · rw [List.length_map]; exact choice_length n _
  · simp
theorem chPart_length (n o X : Nat) : (chPart n o X).length ≤ 2 ^ n + 2 ^ n := by
  have h1 := chB_length n o 1
  have h2 := chB_length n o 0
  unfold chPart
  split
  · rw [List.length_append]; omega
  · split
    · omega
    · simp

theorem choice_zero (o : Nat) : choiceL 0 o = if o = 0 then [[]] else [] := rfl
end
end Go.Proofs.YthppkfhhidlpiaaGreat
namespace Go.Proofs.YthppkfhhidlpiaaGreat
section
open Go.RowKit
set_option linter.unusedVariables false
set_option linter.unusedSimpArgs false
set_option maxRecDepth 20000

def allC (n : Nat) : List (List Int) := (choiceL (hgt n + 1) (n - tri (hgt n))).map fromB
theorem rings_choice : ∀ n, n < 29 → ringsL n = choiceL (hgt n + 1) (n - tri (hgt n)) := by decide +kernel
theorem allC_rings (n : Nat) (h : n ≤ 28) : (ringsL n).map fromB = allC n := by unfold allC; rw [rings_choice n (by omega)]
theorem tri_prod (K : Nat) (h7 : K ≤ 7) : (0 : Int) ≤ (K : Int) * ((K : Int) + 1) ∧ (K : Int) * ((K : Int) + 1) ≤ 56 ∧ (K : Int) * ((K : Int) + 1) / 2 = (tri K : Nat) ∧ Int.tdiv ((K : Int) * ((K : Int) + 1)) 2 = (tri K : Nat) := by
  have hk : K = 0 ∨ K = 1 ∨ K = 2 ∨ K = 3 ∨ K = 4 ∨ K = 5 ∨ K = 6 ∨ K = 7 := by omega
  rcases hk with rfl | rfl | rfl | rfl | rfl | rfl | rfl | rfl <;> decide

theorem choice_count : ∀ n, n < 29 → (choiceL (hgt n + 1) (n - tri (hgt n))).length ≤ 256 := by decide +kernel
theorem choice_good : ∀ n, n < 29 → ∀ bs ∈ choiceL (hgt n + 1) (n - tri (hgt n)), Good (fromB bs) ∧ (fromB bs).sum = n ∧ 0 ∈ bs := by decide +kernel
theorem allC_length (n : Nat) (h : n ≤ 28) : (allC n).length ≤ 256 := by unfold allC; rw [List.length_map]; exact choice_count n (by omega)
theorem allC_good {n : Nat} (h : n ≤ 28) {xs : List Int} (hx : xs ∈ allC n) : Good xs ∧ xs.sum = n ∧ Cyc xs := by
  unfold allC at hx
  obtain ⟨bs, hb, rfl⟩ := List.mem_map.1 hx
  obtain ⟨h1, h2, h3⟩ := choice_good n (by omega) bs hb
  exact ⟨h1, h2, fromB_cyc (choice_row _ _ bs hb).2 h3 (by omega)⟩
def mCyclicPiles (n : Int) : List (List Int) × Bool := if 0 ≤ n ∧ n ≤ 28 then (allC n.toNat, true) else ([], false)
theorem mCyc_yes (n : Nat) (h : n ≤ 28) : mCyclicPiles n = (allC n, true) := by unfold mCyclicPiles; rw [if_pos (by omega)]; rfl
theorem mCyc_no (n : Int) (h : ¬ (0 ≤ n ∧ n ≤ 28)) : mCyclicPiles n = ([], false) := by unfold mCyclicPiles; rw [if_neg h]
theorem mCyclicPiles_bound (n : Int) : (mCyclicPiles n).1.length ≤ 1048576 ∧ total (mCyclicPiles n).1 ≤ 1048576 := by
  by_cases h : 0 ≤ n ∧ n ≤ 28
  · obtain ⟨m, rfl⟩ := Int.eq_ofNat_of_zero_le h.1
    rw [mCyc_yes m (by omega)]
    have h1 := allC_length m (by omega)
    have h2 := total_le (allC m) 28 (fun ys hy => (allC_good (by omega) hy).1.len)
    refine ⟨by show (allC m).length ≤ _; omega, ?_⟩
    show total (allC m) ≤ _
    omega
  · rw [mCyc_no n h]; simp [total]

theorem RingRow.nine {B E w g n cap rs} (h : RingRow B E w (some ⟨g, 0, none⟩) n cap rs) (i : Nat) (hi : i < n) {b0 b1 b2 b3 b4 b5 b6 b7 : Int} {m : Nat} (hr : R9 (rs.getD i []) b0 b1 b2 b3 b4 b5 b6 b7 m) :
    w.cell? ⟨g, i * 9, none⟩ = some (.int .i64 b0) ∧ w.cell? ⟨g, i * 9 + 1, none⟩ = some (.int .i64 b1) ∧ w.cell? ⟨g, i * 9 + 2, none⟩ = some (.int .i64 b2) ∧ w.cell? ⟨g, i * 9 + 3, none⟩ = some (.int .i64 b3) ∧ w.cell? ⟨g, i * 9 + 4, none⟩ = some (.int .i64 b4) ∧
    w.cell? ⟨g, i * 9 + 5, none⟩ = some (.int .i64 b5) ∧ w.cell? ⟨g, i * 9 + 6, none⟩ = some (.int .i64 b6) ∧ w.cell? ⟨g, i * 9 + 7, none⟩ = some (.int .i64 b7) ∧ w.cell? ⟨g, i * 9 + 8, none⟩ = some (.int .i64 m) := by
  obtain ⟨hm, h8, h0, h1, h2, h3, h4, h5, h6, h7⟩ := hr
  have hc := h.cellsAt i hi
  have e : ringCells (rs.getD i []) = [.int .i64 b0, .int .i64 b1, .int .i64 b2, .int .i64 b3, .int .i64 b4, .int .i64 b5, .int .i64 b6, .int .i64 b7, .int .i64 m] := by
    unfold ringCells ring9
    rw [h0, h1, h2, h3, h4, h5, h6, h7, hm]
  rw [e] at hc
  exact ⟨hc 0 (by omega), hc 1 (by omega), hc 2 (by omega), hc 3 (by omega), hc 4 (by omega), hc 5 (by omega), hc 6 (by omega), hc 7 (by omega), hc 8 (by omega)⟩

set_option maxHeartbeats 1600000 in
theorem impl_CyclicPiles (n : Int) (w : World) :
    Calls Tryz.prog 40 #[.int .i64 n] w fun e w' => ∃ ao' n' cap', e = .returned (.tuple #[.slice ao' n' cap', .bool (mCyclicPiles n).2]) ∧ OwnRows w.heap.size w'.heap.size w' ao' n' cap' (mCyclicPiles n).1 ∧ Below w.heap.size w w' := by
  by_cases hn : 0 ≤ n ∧ n ≤ 28
  · have hin := hn
    obtain ⟨m, rfl⟩ := Int.eq_ofNat_of_zero_le hn.1
    have hm := mCyc_yes m (by omega)
    have hcon := ringsOf_any m w (by omega)
    have hR := allC_rings m (by omega)
    have hK7 := hgt_le m
    have hisB := ringsTo_isB (hgt m) (m - tri (hgt m)) (2 ^ (hgt m + 1)) 0
    have hRl := allC_length m (by omega)
    rw [← hR, List.length_map] at hRl
    rw [show ringsTo (hgt m) (m - tri (hgt m)) (2 ^ (hgt m + 1)) 0 = ringsL m from rfl] at hisB
    generalize ringsL m = R at *
    generalize hgt m = K at *
    have Hn := Lib.hid hn; clear hn
    have Hm := Lib.hid hm; clear hm
    have Hin := Lib.hid hin; clear hin
    have Hcon := Lib.hid hcon; clear hcon
    have HR := Lib.hid hR; clear hR
    have HisB := Lib.hid hisB; clear hisB
    go_enter Tryz.func40, Tryz.ntmps40
    go_wp2_with fail
    with_reducible refine (inRange_yes _ _ _ Hin.out).mono ?_
    rintro e w' ⟨rfl, rfl⟩
    go_wp2_with fail
    with_reducible refine (Hcon.out).mono ?_
    rintro e w1 ⟨a1, n1, c1, rfl, ho1, hb1⟩
    have hn1 := ho1.2.1
    rw [hn1] at hRl
    have Hn1 := Lib.hid hn1; clear hn1
    go_wp2_with fail
    go_loopw [4, 13] (fun v i wr => ∃ (j : Nat) (a : Option Addr) (c : Nat), j ≤ n1 ∧ i = .int .i64 j ∧ v = .slice a j c ∧ OwnRows w1.heap.size wr.heap.size wr a j c ((R.take j).map fromB) ∧ Below w1.heap.size w1 wr) (fun _ i _ => n1 - (intOf i).toNat)
    case atStart => exact ⟨0, none, 0, Nat.zero_le _, rfl, rfl, by simpa using OwnRows.nil _ _ _, Below.refl _ _⟩
    case round =>
      obtain ⟨j, a, c, hj, rfl, rfl, hown, hb⟩ := hrel
      by_cases hlt : j < n1
      · have hrs := ho1.keep hb
        obtain ⟨g, rfl, _, _, hg3, hle, hmx⟩ := hrs.cases (by omega)
        have hmem : R.getD j [] ∈ R := by
          rw [List.getD_eq_getElem?_getD, List.getElem?_eq_getElem (by rw [Hn1.out]; exact hlt)]; exact List.getElem_mem _
        obtain ⟨hBr, hlr⟩ := HisB.out _ hmem
        have htk := take_snocR (xs := R) (k := j) (n := n1) (x := R.getD j []) rfl hlt Hn1.out
        obtain ⟨d0, d1, d2, d3, d4, d5, d6, d7, n', hr'⟩ := R9.of (bs := R.getD j []) (by omega)
        obtain ⟨c0, c1', c2, c3, c4, c5, c6, c7, c8⟩ := hrs.nine j hlt hr'
        have hpi := fun w => piles_any (R.getD j []) w hBr (by omega)
        rw [hr'.v] at hpi
        clear hrs
        have Hpi := Lib.hid hpi; clear hpi
        have Hlr := Lib.hid hlr; clear hlr
        have HBr := Lib.hid hBr; clear hBr
        have Htk := Lib.hid htk; clear htk
        have Hmem := Lib.hid hmem; clear hmem
        have Hr' := Lib.hid hr'; clear hr'
        go_wp2_with fail
        with_reducible refine (Hpi.out _).mono ?_
        rintro e w4 ⟨a4, m4, k4, rfl, ho4, hb4⟩
        have hba := (Below.refl wr.heap.size wr).alloc (Nat.le_refl _) (.cells #[.int .i64 d0, .int .i64 d1, .int .i64 d2, .int .i64 d3, .int .i64 d4, .int .i64 d5, .int .i64 d6, .int .i64 d7, .int .i64 n'] 79)
        have hb4' := belowTrans hba hb4 (Nat.le_refl _)
        have ho4' := ho4.mono hba.size (Nat.le_refl _)
        have hown4 := hown.keep hb4'
        have hbw4 := belowTrans hb hb4' (Nat.le_refl _)
        have hs4 := hb4'.size
        clear hown hb4 ho4 hba hb4' c0 c1' c2 c3 c4 c5 c6 c7 c8
        go_wp2_with (at_builtin; refine wpList_pushR w4 rfl _ _ rfl w1.heap.size wr.heap.size _ j c _ rfl hown4 hs4 a4 m4 _ wr.heap.size _ ho4' hb.size ho4'.ge rfl (by omega) hbw4.size ?_)
        intro a5 c5 w5 ho5 hc5
        have hb5 := hbw4.trans (hown4.chgBelow hc5 hbw4.size)
        clear hown4 hc5 ho4'
        go_wp2_with fail
        go_roundw
        case rel => exact ⟨j + 1, a5, c5, by omega, by go_num, rfl, by rw [Htk.out, List.map_append]; simpa using ho5, hb5⟩
        case measure => simp [intOf]; omega
      · obtain rfl : n1 = j := by omega
        rw [List.take_of_length_le (by rw [Hn1.out]; exact Nat.le_refl _), HR.out] at hown
        go_wp2_with fail
        go_ret2
        rw [Hm.out]
        exact ⟨_, _, _, rfl, hown.mono hb1.size (Nat.le_refl _), belowTrans hb1 hb (Nat.le_refl _)⟩
  · have hm := mCyc_no n hn
    have Hn := Lib.hid hn; clear hn
    have Hm := Lib.hid hm; clear hm
    go_enter Tryz.func40, Tryz.ntmps40
    go_wp2_with fail
    with_reducible refine (inRange_no _ _ _ Hn.out).mono ?_
    rintro e w' ⟨rfl, rfl⟩
    go_wp2_with fail
    go_ret2
    rw [Hm.out]
    exact ⟨none, 0, 0, rfl, OwnRows.nil _ _ _, Below.refl _ _⟩
end
end Go.Proofs.YthppkfhhidlpiaaGreat
