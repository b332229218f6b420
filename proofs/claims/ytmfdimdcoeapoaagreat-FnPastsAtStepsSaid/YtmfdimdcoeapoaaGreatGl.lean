/- Several texts in one: Loose, ByTail, Longest, Basin. No condition. -/
import Derived.Test.YtmfdimdcoeapoaaGreatGa
import Derived.Test.YtmfdimdcoeapoaaGreatTailI
import Derived.Test.YtmfdimdcoeapoaaGreatCmp
import Derived.Test.YtmfdimdcoeapoaaGreatGr
import Derived.Laws.EntriesVeiled
import Derived.Test.YtmfdimdcoeapoaaGreatGk
namespace Go.Proofs.YtmfdimdcoeapoaaGreat
section
open Go.RowKit
set_option linter.unusedVariables false
set_option linter.unusedSimpArgs false
set_option maxRecDepth 20000

/-! ### Values behind which lists lie, two of which may lie in one block -/
structure RowsX (B E : Nat) (w : World) (vs : List Value) (xss : List (List Int)) : Prop where
  length : vs.length = xss.length
  row : ∀ i, i < xss.length → ∃ a m c, vs.getD i undef = .slice a m c ∧ Own B E w a m c (xss.getD i [])
theorem RowsV.toX {B E w vs xss} (h : RowsV B E w vs xss) : RowsX B E w vs xss := ⟨h.length, h.row⟩
theorem RowsX.mono {B B' E E' w vs xss} (h : RowsX B E w vs xss) (hB : B' ≤ B) (hE : E ≤ E') : RowsX B' E' w vs xss :=
  ⟨h.length, fun i hi => by obtain ⟨a, m, c, e, ho⟩ := h.row i hi; exact ⟨a, m, c, e, ho.mono hB hE⟩⟩
theorem RowsX.keep {B E w w' vs xss} (h : RowsX B E w vs xss) (hb : Below w.heap.size w w') : RowsX B E w' vs xss :=
  ⟨h.length, fun i hi => by obtain ⟨a, m, c, e, ho⟩ := h.row i hi; exact ⟨a, m, c, e, ho.keep hb⟩⟩
theorem RowsX.nil (B E : Nat) (w : World) : RowsX B E w [] [] := ⟨rfl, fun i hi => absurd hi (Nat.not_lt_zero _)⟩
theorem RowsX.append {B E w vs xss us yss} (h : RowsX B E w vs xss) (k : RowsX B E w us yss) : RowsX B E w (vs ++ us) (xss ++ yss) := by
  refine ⟨by simp [h.length, k.length], fun i hi => ?_⟩
  by_cases hlt : i < xss.length
  · obtain ⟨a, m, c, e, ho⟩ := h.row i hlt
    refine ⟨a, m, c, ?_, ?_⟩
    · rw [List.getD_eq_getElem?_getD, List.getElem?_append_left (by rw [h.length]; exact hlt), ← List.getD_eq_getElem?_getD]; exact e
    · rw [List.getD_eq_getElem?_getD, List.getElem?_append_left hlt, ← List.getD_eq_getElem?_getD]; exact ho
  · rw [List.length_append] at hi
    obtain ⟨a, m, c, e, ho⟩ := k.row (i - xss.length) (by omega)
    refine ⟨a, m, c, ?_, ?_⟩
    · rw [List.getD_eq_getElem?_getD, List.getElem?_append_right (by rw [h.length]; omega), h.length, ← List.getD_eq_getElem?_getD]; exact e
    · rw [List.getD_eq_getElem?_getD, List.getElem?_append_right (by omega), ← List.getD_eq_getElem?_getD]; exact ho
theorem RowsX.chgSpine {B E w w' vs xss B' E' ty ao n cap us} (h : RowsX B E w vs xss) (k : OwnRow B' E' w ty ao n cap us) (hne : 3 ≠ ty) (hc : Chg (fun q => (Value.slice ao n cap).ownBlock = some q) w w') : RowsX B E w' vs xss :=
  ⟨h.length, fun i hi => by
    obtain ⟨a, m, c, e, ho⟩ := h.row i hi
    exact ⟨a, m, c, e, ho.chg hc fun g _ _ hg hs => OwnRow.apart_ty ho k hne hg hs⟩⟩
theorem RowsX.at {B E w vs xss ao n cap} (h : RowsX B E w vs xss) (hv : ValsAt w ao n cap vs) : RowsAt w ao n cap xss := by
  refine ⟨by rw [← h.length]; exact hv.length, hv.le, hv.max, hv.isNil, fun j hj => ?_⟩
  obtain ⟨b, o, e, hlt, hc⟩ := hv.cell j hj
  refine ⟨b, o, e, hlt, fun i hi => ?_⟩
  obtain ⟨a, m, c, e2, ho⟩ := h.row i (by rw [← h.length, hv.length]; exact hi)
  exact ⟨a, m, c, by rw [hc i hi, e2], ho.at⟩
theorem RowsX.one {B E w a m c ys} (h : Own B E w a m c ys) : RowsX B E w [.slice a m c] [ys] :=
  ⟨rfl, fun i hi => by
    obtain rfl : i = 0 := by simpa using hi
    exact ⟨a, m, c, rfl, h⟩⟩

theorem looseL_take (xss : List (List Int)) (j n : Nat) (x : List Int) (hx : xss.getD j [] = x) (hj : j < n) (hl : xss.length = n) : looseL (xss.take (j + 1)) = looseL (xss.take j) ++ loosePasts x := by
  unfold looseL
  rw [take_snocR hx hj hl, List.flatMap_append]
  simp
theorem pastsL_len {xs : List Int} (hg : Good xs) : (pastsL xs).length ≤ 29 := by
  have hlen := hg.len
  by_cases hx : xs = []
  · subst hx; simp [pastsL]
  · have := pastsOf_take_length xs xs.length
    rw [List.take_length, asc_none] at this
    unfold pastsL
    rw [if_neg hx]; omega

end
end Go.Proofs.YtmfdimdcoeapoaaGreat
namespace Go.Proofs.YtmfdimdcoeapoaaGreat
section
open Go.RowKit
set_option linter.unusedVariables false
set_option linter.unusedSimpArgs false
set_option maxRecDepth 20000

theorem Tryz.infoIntss : (Tryz.prog.info? 27).map (fun i => (i.zero, i.size, i.bytes)) = some (some (.slice none 0 0), 1, 24) := by kernel_rfl
/-- a list of lists behind a value -/
def LevAt (B E : Nat) (w : World) (v : Value) (xss : List (List Int)) : Prop :=
  ∃ a m c vs, v = .slice a m c ∧ OwnRow B E w 24 a m c vs ∧ RowsX B E w vs xss
theorem LevAt.keep {B E w w' v xss} (h : LevAt B E w v xss) (hb : Below w.heap.size w w') : LevAt B E w' v xss := by
  obtain ⟨a, m, c, vs, e, h1, h2⟩ := h; exact ⟨a, m, c, vs, e, h1.keep hb, h2.keep hb⟩
theorem LevAt.mono {B B' E E' w v xss} (h : LevAt B E w v xss) (hB : B' ≤ B) (hE : E ≤ E') : LevAt B' E' w v xss := by
  obtain ⟨a, m, c, vs, e, h1, h2⟩ := h; exact ⟨a, m, c, vs, e, h1.mono hB hE, h2.mono hB hE⟩
theorem LevAt.chg {B E w w' v xss B' E' ao n cap us} (h : LevAt B E w v xss) (k : OwnRow B' E' w 27 ao n cap us) (hc : Chg (fun q => (Value.slice ao n cap).ownBlock = some q) w w') : LevAt B E w' v xss := by
  obtain ⟨a, m, c, vs, e, h1, h2⟩ := h
  exact ⟨a, m, c, vs, e, h1.chg hc (fun g _ _ hg hs => OwnRow.apart_ty h1 k (by decide) hg hs), h2.chgSpine k (by decide) hc⟩
theorem LevAt.at {B E w a m c xss} (h : LevAt B E w (.slice a m c) xss) : RowsAt w a m c xss ∧ xss.length = m := by
  obtain ⟨a', m', c', vs, e, h1, h2⟩ := h
  simp only [Value.slice.injEq] at e
  obtain ⟨rfl, rfl, rfl⟩ := e
  have := h2.at h1.at
  exact ⟨this, this.length⟩
theorem oneTail (w : World) (v : Value) : OwnRow w.heap.size (w.heap.size + 1) (w.alloc (.cells #[v] 27)) 27 (some ⟨w.heap.size, 0, none⟩) 1 1 [v] :=
  ⟨⟨by simp, .inr ⟨w.heap.size, 1, #[v], rfl, Nat.le_refl _, heap_alloc_new w _, Nat.le_refl _, by unfold maxLen; omega, rfl, rfl⟩⟩, fun g hg => by simp [Value.ownBlock] at hg; omega⟩

end
end Go.Proofs.YtmfdimdcoeapoaaGreat
namespace Go.Proofs.YtmfdimdcoeapoaaGreat
section
open Go.RowKit
set_option linter.unusedVariables false
set_option linter.unusedSimpArgs false
set_option maxRecDepth 20000

/-! ### All cyclic piles -/
theorem isB_sum {bs : List Int} (h : IsB bs) : 0 ≤ bs.sum := by
  induction bs with
  | nil => simp
  | cons b l ih =>
    have := ih (fun x hx => h x (by simp [hx]))
    have := h b (by simp)
    rw [List.sum_cons]; omega
theorem mem_choice (bs : List Int) : IsB bs → ∀ o : Nat, bs.sum = o → bs ∈ choiceL bs.length o := by
  induction bs with
  | nil =>
    intro _ o h
    simp at h
    obtain rfl : o = 0 := by omega
    simp [choiceL]
  | cons b l ih =>
    intro hB o h
    have hl : IsB l := fun x hx => hB x (by simp [hx])
    have h0 := isB_sum hl
    rw [List.sum_cons] at h
    rw [List.length_cons]
    unfold choiceL
    rw [List.mem_append]
    rcases hB b (by simp) with rfl | rfl
    · exact .inr (List.mem_map.2 ⟨l, ih hl o (by omega), rfl⟩)
    · left
      rw [if_pos (by omega)]
      exact List.mem_map.2 ⟨l, ih hl (o - 1) (by omega), rfl⟩
theorem allC_nodup : ∀ n, n < 29 → (allC n).Nodup := by decide +kernel
theorem allC_all (n : Nat) (hn : n ≤ 28) : AllCyc (allC n) n where
  small := hn
  good := fun x hx => (allC_good hn hx).1
  cyc := fun x hx => (allC_good hn hx).2.2
  sum := fun x hx => (allC_good hn hx).2.1
  nodup := allC_nodup n (by omega)
  all := fun x hg hc hs => by
    have hB := bitsL_isB hc
    have ht := fromB_total (bitsL x) hB
    rw [from_bits hg hc, bitsL_length, Nat.add_sub_cancel] at ht
    have hk : hL x = hgt n := by unfold hL; rw [hs]; simp
    have hb0 := isB_sum hB
    unfold allC
    refine List.mem_map.2 ⟨bitsL x, ?_, from_bits hg hc⟩
    have := mem_choice (bitsL x) hB (n - tri (hgt n)) (by rw [hk] at ht; omega)
    rw [bitsL_length, hk] at this
    exact this

/-! ### By the model -/
def mLongestTail (n : Int) : Int × Bool := if 0 ≤ n ∧ n ≤ 28 then ((longF (allL n.toNat)).1, true) else (0, false)
theorem mLong_yes (n : Nat) (h : n ≤ 28) : mLongestTail n = ((longF (allL n)).1, true) := by unfold mLongestTail; rw [if_pos (by omega)]; rfl
theorem mLong_no (n : Int) (h : ¬ (0 ≤ n ∧ n ≤ 28)) : mLongestTail n = (0, false) := by unfold mLongestTail; rw [if_neg h]
def mFarthestStart (n : Int) : List Int × Bool := if 0 ≤ n ∧ n ≤ 28 then ((longF (allL n.toNat)).2, true) else ([], false)
theorem mFar_yes (n : Nat) (h : n ≤ 28) : mFarthestStart n = ((longF (allL n)).2, true) := by unfold mFarthestStart; rw [if_pos (by omega)]; rfl
theorem mFar_no (n : Int) (h : ¬ (0 ≤ n ∧ n ≤ 28)) : mFarthestStart n = ([], false) := by unfold mFarthestStart; rw [if_neg h]
theorem mFarthestStart_bound (n : Int) : (mFarthestStart n).1.length ≤ 1048576 := by
  by_cases h : 0 ≤ n ∧ n ≤ 28
  · obtain ⟨m, rfl⟩ := Int.eq_ofNat_of_zero_le h.1
    rw [mFar_yes m (by omega)]
    show (longF (allL m)).2.length ≤ _
    obtain ⟨M, _, _, _, hm, _⟩ := long_lev (allC_all m (by omega))
    have := (lev_good (allC_all m (by omega)).toCyclics hm).len
    omega
  · rw [mFar_no n h]; simp

theorem cmp_bef (a b : List Int) : befB a b = true ↔ 0 < cmpL a b := by
  induction a generalizing b with
  | nil => cases b <;> simp [befB, cmpL]
  | cons x l ih =>
    cases b with
    | nil => simp [befB, cmpL]
    | cons y m =>
      show (if x = y then befB l m else decide (y < x)) = true ↔ 0 < (if x = y then cmpL l m else if x < y then -1 else 1)
      by_cases h : x = y
      · rw [if_pos h, if_pos h]; exact ih m
      · rw [if_neg h, if_neg h]
        by_cases h2 : x < y
        · rw [if_pos h2]; simp; omega
        · rw [if_neg h2]; simp; omega
end
end Go.Proofs.YtmfdimdcoeapoaaGreat
namespace Go.Proofs.YtmfdimdcoeapoaaGreat
section
open Go.RowKit
set_option linter.unusedVariables false
set_option linter.unusedSimpArgs false
set_option maxRecDepth 20000

theorem cyc_cyclics {xs : List Int} (hg : Good xs) : ∃ s : Nat, xs.sum = s ∧ s ≤ 28 ∧ Cyclics (cycL xs) s := by
  obtain ⟨s, hs, h28⟩ := sum_toNat hg
  have hz := endL_good hg
  have hzc := endL_cyc hg
  refine ⟨s, hs, h28, h28, cycL_good hg, fun x hx => ?_, fun x hx => ?_, ?_⟩
  · obtain ⟨i, _, rfl⟩ := runL_mem.1 hx
    exact cyc_steps hz hzc i
  · obtain ⟨i, _, rfl⟩ := runL_mem.1 hx
    rw [stepsL_sum hz, end_sum hg, hs]
  · unfold cycL runL List.Nodup
    rw [List.pairwise_map]
    refine List.Pairwise.imp_of_mem ?_ (List.pairwise_lt_range (n := perL (endL xs)))
    intro i j hi hj hij
    exact per_distinct hz hzc hij (List.mem_range.1 hj)
def basinL (xs : List Int) : Nat := ((allL xs.sum.toNat).filter fun b => decide (endL b ∈ cycL xs)).length
def mBasinSize (xs : List Int) : Int × Bool := (if goodB xs then (basinL xs : Int) else 0, goodB xs)
theorem mBasin_yes {xs : List Int} (h : goodB xs = true) : mBasinSize xs = ((basinL xs : Int), true) := by unfold mBasinSize; rw [h]; rfl
theorem mBasin_no {xs : List Int} (h : goodB xs = false) : mBasinSize xs = (0, false) := by unfold mBasinSize; rw [h]; rfl

/-! ### By the model -/
theorem place_inB {l : List (List Int)} {ys : List Int} {r : Int} (h : PlaceIs l ys r) : (r = -1 ∧ ys ∉ l) ∨ (0 ≤ r ∧ ys ∈ l) := by
  rcases h with ⟨h1, h2⟩ | ⟨i, h1, h2, h3, _⟩
  · exact .inl ⟨h1, h2⟩
  · refine .inr ⟨by omega, ?_⟩
    rw [← h3, List.getD_eq_getElem?_getD, List.getElem?_eq_getElem h2]
    exact List.getElem_mem _

end
end Go.Proofs.YtmfdimdcoeapoaaGreat
