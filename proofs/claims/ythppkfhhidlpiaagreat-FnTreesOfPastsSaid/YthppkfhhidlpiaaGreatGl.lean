/- Several texts in one: Loose, ByTail, Longest, Basin. No condition. -/
import Derived.Test.YthppkfhhidlpiaaGreatGa
import Derived.Test.YthppkfhhidlpiaaGreatTailI
import Derived.Test.YthppkfhhidlpiaaGreatCmp
import Derived.Laws.EntriesVeiled
import Derived.Test.YthppkfhhidlpiaaGreatGk
namespace Go.Proofs.YthppkfhhidlpiaaGreat
section
open Go.RowKit
set_option linter.unusedVariables false
set_option linter.unusedSimpArgs false
set_option maxRecDepth 20000

/-! ### Values behind which lists lie, two of which may lie in one block -/
structure RowsX (B E : Nat) (w : World) (vs : List Value) (xss : List (List Int)) : Prop where
  length : vs.length = xss.length
  row : ∀ i, i < xss.length → ∃ a m c, vs.getD i undef = .slice a m c ∧ Own B E w a m c (xss.getD i [])
theorem RowsV.toX {B E w vs xss} (h : RowsV B E w vs xss) : RowsX B E w vs xss := ⟨h.length, h.row⟩
theorem RowsX.mono {B B' E E' w vs xss} (h : RowsX B E w vs xss) (hB : B' ≤ B) (hE : E ≤ E') : RowsX B' E' w vs xss :=
  ⟨h.length, fun i hi => by obtain ⟨a, m, c, e, ho⟩ := h.row i hi; exact ⟨a, m, c, e, ho.mono hB hE⟩⟩
theorem RowsX.keep {B E w w' vs xss} (h : RowsX B E w vs xss) (hb : Below w.heap.size w w') : RowsX B E w' vs xss :=
  ⟨h.length, fun i hi => by obtain ⟨a, m, c, e, ho⟩ := h.row i hi; exact ⟨a, m, c, e, ho.keep hb⟩⟩
theorem RowsX.nil (B E : Nat) (w : World) : RowsX B E w [] [] := ⟨rfl, fun i hi => absurd hi (Nat.not_lt_zero _)⟩
theorem RowsX.append {B E w vs xss us yss} (h : RowsX B E w vs xss) (k : RowsX B E w us yss) : RowsX B E w (vs ++ us) (xss ++ yss) := by
  refine ⟨by simp [h.length, k.length], fun i hi => ?_⟩
  by_cases hlt : i < xss.length
  · obtain ⟨a, m, c, e, ho⟩ := h.row i hlt
    refine ⟨a, m, c, ?_, ?_⟩
    · rw [List.getD_eq_getElem?_getD, List.getElem?_append_left (by rw [h.length]; exact hlt), ← List.getD_eq_getElem?_getD]; exact e
    · rw [List.getD_eq_getElem?_getD, List.getElem?_append_left hlt, ← List.getD_eq_getElem?_getD]; exact ho
  · rw [List.length_append] at hi
    obtain ⟨a, m, c, e, ho⟩ := k.row (i - xss.length) (by omega)
    refine ⟨a, m, c, ?_, ?_⟩
    · rw [List.getD_eq_getElem?_getD, List.getElem?_append_right (by rw [h.length]; omega), h.length, ← List.getD_eq_getElem?_getD]; exact e
    · rw [List.getD_eq_getElem?_getD, List.getElem?_append_right (by omega), ← List.getD_eq_getElem?_getD]; exact ho
theorem RowsX.chgSpine {B E w w' vs xss B' E' ty ao n cap us} (h : RowsX B E w vs xss) (k : OwnRow B' E' w ty ao n cap us) (hne : 3 ≠ ty) (hc : Chg (fun q => (Value.slice ao n cap).ownBlock = some q) w w') : RowsX B E w' vs xss :=
  ⟨h.length, fun i hi => by
    obtain ⟨a, m, c, e, ho⟩ := h.row i hi
    exact ⟨a, m, c, e, ho.chg hc fun g _ _ hg hs => OwnRow.apart_ty ho k hne hg hs⟩⟩
theorem RowsX.at {B E w vs xss ao n cap} (h : RowsX B E w vs xss) (hv : ValsAt w ao n cap vs) : RowsAt w ao n cap xss := by
  refine ⟨by rw [← h.length]; exact hv.length, hv.le, hv.max, hv.isNil, fun j hj => ?_⟩
  obtain ⟨b, o, e, hlt, hc⟩ := hv.cell j hj
  refine ⟨b, o, e, hlt, fun i hi => ?_⟩
  obtain ⟨a, m, c, e2, ho⟩ := h.row i (by rw [← h.length, hv.length]; exact hi)
  exact ⟨a, m, c, by rw [hc i hi, e2], ho.at⟩
theorem RowsX.one {B E w a m c ys} (h : Own B E w a m c ys) : RowsX B E w [.slice a m c] [ys] :=
  ⟨rfl, fun i hi => by
    obtain rfl : i = 0 := by simpa using hi
    exact ⟨a, m, c, rfl, h⟩⟩

theorem looseL_take (xss : List (List Int)) (j n : Nat) (x : List Int) (hx : xss.getD j [] = x) (hj : j < n) (hl : xss.length = n) : looseL (xss.take (j + 1)) = looseL (xss.take j) ++ loosePasts x := by
  unfold looseL
  rw [take_snocR hx hj hl, List.flatMap_append]
  simp
theorem pastsL_len {xs : List Int} (hg : Good xs) : (pastsL xs).length ≤ 29 := by
  have hlen := hg.len
  by_cases hx : xs = []
  · subst hx; simp [pastsL]
  · have := pastsOf_take_length xs xs.length
    rw [List.take_length, asc_none] at this
    unfold pastsL
    rw [if_neg hx]; omega

end
end Go.Proofs.YthppkfhhidlpiaaGreat
namespace Go.Proofs.YthppkfhhidlpiaaGreat
section
open Go.RowKit
set_option linter.unusedVariables false
set_option linter.unusedSimpArgs false
set_option maxRecDepth 20000

theorem Tryz.infoIntss : (Tryz.prog.info? 35).map (fun i => (i.zero, i.size, i.bytes)) = some (some (.slice none 0 0), 1, 24) := by kernel_rfl
/-- a list of lists behind a value -/
def LevAt (B E : Nat) (w : World) (v : Value) (xss : List (List Int)) : Prop :=
  ∃ a m c vs, v = .slice a m c ∧ OwnRow B E w 27 a m c vs ∧ RowsX B E w vs xss
theorem LevAt.keep {B E w w' v xss} (h : LevAt B E w v xss) (hb : Below w.heap.size w w') : LevAt B E w' v xss := by
  obtain ⟨a, m, c, vs, e, h1, h2⟩ := h; exact ⟨a, m, c, vs, e, h1.keep hb, h2.keep hb⟩
theorem LevAt.mono {B B' E E' w v xss} (h : LevAt B E w v xss) (hB : B' ≤ B) (hE : E ≤ E') : LevAt B' E' w v xss := by
  obtain ⟨a, m, c, vs, e, h1, h2⟩ := h; exact ⟨a, m, c, vs, e, h1.mono hB hE, h2.mono hB hE⟩
theorem LevAt.chg {B E w w' v xss B' E' ao n cap us} (h : LevAt B E w v xss) (k : OwnRow B' E' w 35 ao n cap us) (hc : Chg (fun q => (Value.slice ao n cap).ownBlock = some q) w w') : LevAt B E w' v xss := by
  obtain ⟨a, m, c, vs, e, h1, h2⟩ := h
  exact ⟨a, m, c, vs, e, h1.chg hc (fun g _ _ hg hs => OwnRow.apart_ty h1 k (by decide) hg hs), h2.chgSpine k (by decide) hc⟩
theorem LevAt.at {B E w a m c xss} (h : LevAt B E w (.slice a m c) xss) : RowsAt w a m c xss ∧ xss.length = m := by
  obtain ⟨a', m', c', vs, e, h1, h2⟩ := h
  simp only [Value.slice.injEq] at e
  obtain ⟨rfl, rfl, rfl⟩ := e
  have := h2.at h1.at
  exact ⟨this, this.length⟩
theorem oneTail (w : World) (v : Value) : OwnRow w.heap.size (w.heap.size + 1) (w.alloc (.cells #[v] 35)) 35 (some ⟨w.heap.size, 0, none⟩) 1 1 [v] :=
  ⟨⟨by simp, .inr ⟨w.heap.size, 1, #[v], rfl, Nat.le_refl _, heap_alloc_new w _, Nat.le_refl _, by unfold maxLen; omega, rfl, rfl⟩⟩, fun g hg => by simp [Value.ownBlock] at hg; omega⟩

end
end Go.Proofs.YthppkfhhidlpiaaGreat
namespace Go.Proofs.YthppkfhhidlpiaaGreat
section
open Go.RowKit
set_option linter.unusedVariables false
set_option linter.unusedSimpArgs false
set_option maxRecDepth 20000

/-! ### All cyclic piles -/
theorem isB_sum {bs : List Int} (h : IsB bs) : 0 ≤ bs.sum := by
  induction bs with
  | nil => simp
  | cons b l ih =>
    have := ih (fun x hx => h x (by simp [hx]))
    have := h b (by simp)
    rw [List.sum_cons]; omega
theorem mem_choice (bs : List Int) : IsB bs → ∀ o : Nat, bs.sum = o → bs ∈ choiceL bs.length o := by
  induction bs with
  | nil =>
    intro _ o h
    simp at h
    obtain rfl : o = 0 := by omega
    simp [choiceL]
  | cons b l ih =>
    intro hB o h
    have hl : IsB l := fun x hx => hB x (by simp [hx])
    have h0 := isB_sum hl
    rw [List.sum_cons] at h
    rw [List.length_cons]
    unfold choiceL
    rw [List.mem_append]
    rcases hB b (by simp) with rfl | rfl
    · exact .inr (List.mem_map.2 ⟨l, ih hl o (by omega), rfl⟩)
    · left
      rw [if_pos (by omega)]
      exact List.mem_map.2 ⟨l, ih hl (o - 1) (by omega), rfl⟩
theorem allC_nodup : ∀ n, n < 29 → (allC n).Nodup := by decide +kernel
theorem allC_all (n : Nat) (hn : n ≤ 28) : AllCyc (allC n) n where
  small := hn
  good := fun x hx => (allC_good hn hx).1
  cyc := fun x hx => (allC_good hn hx).2.2
  sum := fun x hx => (allC_good hn hx).2.1
  nodup := allC_nodup n (by omega)
  all := fun x hg hc hs => by
    have hB := bitsL_isB hc
    have ht := fromB_total (bitsL x) hB
    rw [from_bits hg hc, bitsL_length, Nat.add_sub_cancel] at ht
    have hk : hL x = hgt n := by unfold hL; rw [hs]; simp
    have hb0 := isB_sum hB
    unfold allC
    refine List.mem_map.2 ⟨bitsL x, ?_, from_bits hg hc⟩
    have := mem_choice (bitsL x) hB (n - tri (hgt n)) (by rw [hk] at ht; omega)
    rw [bitsL_length, hk] at this
    exact this

/-! ### By the model -/
set_option maxHeartbeats 800000 in
theorem orSteps_any (ao : Option Addr) (n cap : Nat) (xs : List Int) (w : World) (h : IntsAt w ao n cap xs) (hg : Good xs) :
    Calls Tryz.prog 85 #[.slice ao n cap] w fun e w' => e = .returned (.int .i64 (tailL xs)) ∧ Below w.heap.size w w' := by
  have hlen := hg.len
  have hl := h.length
  have hcp := l1Own_any ao n cap xs w h (by omega)
  have Hg := Lib.hid hg; clear hg
  have Hcp := Lib.hid hcp; clear hcp
  have Hl := Lib.hid hl; clear hl
  go_enter Tryz.func85, Tryz.ntmps85
  go_wp2_with fail
  with_reducible refine (Hcp.out).mono ?_
  rintro e w1 ⟨a1, c1, rfl, ho1, hb1⟩
  have hx1 := ho1.at
  clear ho1
  go_wp2_with fail
  go_loopw [3, 4] (fun t v wr => ∃ (j : Nat) (a : Option Addr) (m c : Nat), t = .int .i64 j ∧ v = .slice a m c ∧ IntsAt wr a m c (stepsL j xs) ∧ (∀ i, i < j → ¬ Cyc (stepsL i xs)) ∧ Below w.heap.size w wr) (fun t _ _ => 3719 - (intOf t).toNat)
  case atStart => exact ⟨0, _, _, _, rfl, rfl, hx1, fun i hi => by omega, hb1⟩
  case round =>
    obtain ⟨j, a, m, c, rfl, rfl, hx, hno, hb⟩ := hrel
    clear hx1
    have hG := stepsL_good Hg.out j
    have hjt := tail_least Hg.out hno
    have htl := (tailL_spec Hg.out).1
    have hcon := orCyclic_any a m c _ wr hx hG
    by_cases hc : Cyc (stepsL j xs)
    · have hj : tailL xs = j := tailL_unique Hg.out hc hno
      rw [cyc_iff.2 hc] at hcon
      have HG := Lib.hid hG; clear hG
      have Hc := Lib.hid hc; clear hc
      have Hno := Lib.hid hno; clear hno
      have Hj := Lib.hid hj; clear hj
      have Hcon := Lib.hid hcon; clear hcon
      clear hjt
      go_wp2_with fail
      with_reducible refine (Hcon.out).mono ?_
      rintro e w' ⟨rfl, rfl⟩
      go_wp2_with fail
      go_ret
      rw [Hj.out]
      exact ⟨rfl, hb⟩
    · rw [cycBF hc] at hcon
      have hno2 : ∀ i, i < j + 1 → ¬ Cyc (stepsL i xs) := fun i hi => by
        by_cases e : i = j
        · subst e; exact hc
        · exact hno i (by omega)
      have hjt2 := tail_least Hg.out hno2
      have HG := Lib.hid hG; clear hG
      have Hc := Lib.hid hc; clear hc
      have Hno := Lib.hid hno; clear hno
      have Hno2 := Lib.hid hno2; clear hno2
      have Hcon := Lib.hid hcon; clear hcon
      go_wp2_with fail
      with_reducible refine (Hcon.out).mono ?_
      rintro e w' ⟨rfl, rfl⟩
      go_wp2_with fail
      with_reducible refine (piStep_any _ _ _ _ _ hx HG.out).mono ?_
      rintro e w5 ⟨a5, m5, c5, rfl, ho5, hb5⟩
      go_wp2_with fail
      go_roundw
      case rel => exact ⟨j + 1, _, _, _, valI (by omega), rfl, ho5.at, Hno2.out, belowTrans hb hb5 (Nat.le_refl _)⟩
      case measure => simp [intOf]; omega

set_option maxHeartbeats 1600000 in
theorem orLongest_any (n : Nat) (w : World) (hn : n ≤ 28) :
    Calls Tryz.prog 51 #[.int .i64 n] w fun e w' => ∃ a m c, e = .returned (.tuple #[.int .i64 (longF (allL n)).1, .slice a m c]) ∧ Own w.heap.size w'.heap.size w' a m c (longF (allL n)).2 ∧ Below w.heap.size w w' := by
  have hcon := piAll_any 28 n n w hn hn hn
  rw [show allF 28 n n = allL n from rfl] at hcon
  have hgood : ∀ x ∈ allL n, Good x := fun x hx => (allL_good hn hx).1
  have hll := allL_length hn
  have hcn := cnt_le n (by omega) n (by omega)
  generalize allL n = A at *
  have Hcon := Lib.hid hcon; clear hcon
  have Hgood := Lib.hid hgood; clear hgood
  have Hll := Lib.hid hll; clear hll
  go_enter Tryz.func51, Tryz.ntmps51
  go_wp2_with fail
  with_reducible refine (Hcon.out).mono ?_
  rintro e w1 ⟨a1, n1, c1, rfl, ho1, hb1⟩
  have hn1 := ho1.length
  have hn1b : n1 ≤ 3718 := by have := Hll.out; omega
  have hs1 := hb1.size
  have Hn1 := Lib.hid hn1; clear hn1
  go_wp2_with fail
  go_loopw [4, 5, 13] (fun l v i wr => ∃ (j : Nat) (M : Int) (f : List Int) (a : Option Addr) (m c : Nat), j ≤ n1 ∧ i = .int .i64 j ∧ l = .int .i64 M ∧ v = .slice a m c ∧ longF (A.take j) = (M, f) ∧ -1 ≤ M ∧ M ≤ 3718 ∧ Own w.heap.size w1.heap.size wr a m c f ∧ Below w1.heap.size w1 wr) (fun _ _ i _ => n1 - (intOf i).toNat)
  case atStart => exact ⟨0, -1, [], none, 0, 0, Nat.zero_le _, rfl, rfl, rfl, rfl, by omega, by omega, Own.nil _ _ _, Below.refl _ _⟩
  case round =>
    obtain ⟨j, M, f, a, m, c, hj, rfl, rfl, rfl, hlf, hM0, hM1, hown, hb⟩ := hrel
    by_cases hlt : j < n1
    · have hrs := ho1.keep hb
      obtain ⟨avs, hav, hrav⟩ := hrs.vals
      obtain ⟨bl, oo, rfl, hbl, hc⟩ := hav.at.cell j hlt
      obtain ⟨a3, m3, c3, e3, hrow3⟩ := hrav.row j (by rw [Hn1.out]; exact hlt)
      have hck := hc j hlt
      rw [e3] at hck
      have hmem : A.getD j [] ∈ A := by
        rw [List.getD_eq_getElem?_getD, List.getElem?_eq_getElem (by rw [Hn1.out]; exact hlt)]; exact List.getElem_mem _
      have htk := take_snocR (xs := A) (k := j) (n := n1) (x := A.getD j []) rfl hlt Hn1.out
      have hG := Hgood.out _ hmem
      generalize A.getD j [] = x at *
      have hstep : longF (A.take (j + 1)) = longStep (M, f) x := by rw [htk, longF_snoc, hlf]
      have hcon3 := orSteps_any a3 m3 c3 x wr hrow3.at hG
      have htl := (tailL_spec hG).1
      generalize hT : tailL x = T at *
      clear hc hrs hav hrav
      have Hmem := Lib.hid hmem; clear hmem
      have HG := Lib.hid hG; clear hG
      have Htk := Lib.hid htk; clear htk
      have Hcon3 := Lib.hid hcon3; clear hcon3
      have E3 := Lib.hid e3; clear e3
      have Hlf := Lib.hid hlf; clear hlf
      go_wp2_with fail
      with_reducible refine (Hcon3.out).mono ?_
      rintro e w4 ⟨rfl, hb4⟩
      have hbw4 := belowTrans hb hb4 (Nat.le_refl _)
      have hrow4 := hrow3.keep hb4
      have hown4 := hown.keep hb4
      clear hrow3 hown hb4
      by_cases hgt : M < (T : Int)
      · have hstep2 : longF (A.take (j + 1)) = ((T : Int), x) := by rw [hstep]; unfold longStep; rw [if_pos (by rw [hT]; exact hgt), hT]
        have Hstep := Lib.hid hstep; clear hstep
        have Hstep2 := Lib.hid hstep2; clear hstep2
        have HT := Lib.hid hT; clear hT
        go_wp2_with fail
        go_roundw
        case rel => exact ⟨j + 1, _, x, _, _, _, by omega, by go_num, rfl, rfl, Hstep2.out, by omega, by omega, hrow4, hbw4⟩
        case measure => simp [intOf]; omega
      · have hstep2 : longF (A.take (j + 1)) = (M, f) := by rw [hstep]; unfold longStep; rw [if_neg (by rw [hT]; exact hgt)]
        have Hstep := Lib.hid hstep; clear hstep
        have Hstep2 := Lib.hid hstep2; clear hstep2
        have HT := Lib.hid hT; clear hT
        go_wp2_with fail
        go_roundw
        case rel => exact ⟨j + 1, M, f, _, _, _, by omega, by go_num, rfl, rfl, Hstep2.out, hM0, hM1, hown4, hbw4⟩
        case measure => simp [intOf]; omega
    · obtain rfl : n1 = j := by omega
      rw [List.take_of_length_le (by rw [Hn1.out]; exact Nat.le_refl _)] at hlf
      have hs := hb.size
      have Hlf := Lib.hid hlf; clear hlf
      go_wp2_with fail
      go_ret2
      rw [Hlf.out]
      exact ⟨_, _, _, rfl, hown.mono (Nat.le_refl _) hs, belowTrans hb1 hb (Nat.le_refl _)⟩

def mLongestTail (n : Int) : Int × Bool := if 0 ≤ n ∧ n ≤ 28 then ((longF (allL n.toNat)).1, true) else (0, false)
theorem mLong_yes (n : Nat) (h : n ≤ 28) : mLongestTail n = ((longF (allL n)).1, true) := by unfold mLongestTail; rw [if_pos (by omega)]; rfl
theorem mLong_no (n : Int) (h : ¬ (0 ≤ n ∧ n ≤ 28)) : mLongestTail n = (0, false) := by unfold mLongestTail; rw [if_neg h]
def mFarthestStart (n : Int) : List Int × Bool := if 0 ≤ n ∧ n ≤ 28 then ((longF (allL n.toNat)).2, true) else ([], false)
theorem mFar_yes (n : Nat) (h : n ≤ 28) : mFarthestStart n = ((longF (allL n)).2, true) := by unfold mFarthestStart; rw [if_pos (by omega)]; rfl
theorem mFar_no (n : Int) (h : ¬ (0 ≤ n ∧ n ≤ 28)) : mFarthestStart n = ([], false) := by unfold mFarthestStart; rw [if_neg h]
theorem mFarthestStart_bound (n : Int) : (mFarthestStart n).1.length ≤ 1048576 := by
  by_cases h : 0 ≤ n ∧ n ≤ 28
  · obtain ⟨m, rfl⟩ := Int.eq_ofNat_of_zero_le h.1
    rw [mFar_yes m (by omega)]
    show (longF (allL m)).2.length ≤ _
    obtain ⟨M, _, _, _, hm, _⟩ := long_lev (allC_all m (by omega))
    have := (lev_good (allC_all m (by omega)).toCyclics hm).len
    omega
  · rw [mFar_no n h]; simp

set_option maxHeartbeats 800000 in
theorem spec_LongestTail (n : Int) (w : World) :
    Calls Tryz.prog 10 #[.int .i64 n] w fun e w' => e = .returned (.tuple #[.int .i64 (mLongestTail n).1, .bool (mLongestTail n).2]) ∧ Below w.heap.size w w' := by
  by_cases hn : 0 ≤ n ∧ n ≤ 28
  · have hin := hn
    obtain ⟨m, rfl⟩ := Int.eq_ofNat_of_zero_le hn.1
    have hm := mLong_yes m (by omega)
    have hcon := orLongest_any m w (by omega)
    have Hn := Lib.hid hn; clear hn
    have Hm := Lib.hid hm; clear hm
    have Hin := Lib.hid hin; clear hin
    have Hcon := Lib.hid hcon; clear hcon
    go_enter Tryz.func10, Tryz.ntmps10
    go_wp2_with fail
    with_reducible refine (piCards_yes _ _ Hin.out).mono ?_
    rintro e w' ⟨rfl, rfl⟩
    go_wp2_with fail
    with_reducible refine (Hcon.out).mono ?_
    rintro e w1 ⟨a1, m1, c1, rfl, ho1, hb1⟩
    go_wp2_with fail
    go_ret2
    rw [Hm.out]
    exact ⟨rfl, hb1⟩
  · have hm := mLong_no n hn
    have Hn := Lib.hid hn; clear hn
    have Hm := Lib.hid hm; clear hm
    go_enter Tryz.func10, Tryz.ntmps10
    go_wp2_with fail
    with_reducible refine (piCards_no _ _ Hn.out).mono ?_
    rintro e w' ⟨rfl, rfl⟩
    go_wp2_with fail
    go_ret2
    rw [Hm.out]
    exact ⟨rfl, Below.refl _ _⟩
set_option maxHeartbeats 800000 in
theorem spec_FarthestStart (n : Int) (w : World) :
    Calls Tryz.prog 12 #[.int .i64 n] w fun e w' => ∃ ao' n' cap', e = .returned (.tuple #[.slice ao' n' cap', .bool (mFarthestStart n).2]) ∧ Own w.heap.size w'.heap.size w' ao' n' cap' (mFarthestStart n).1 ∧ Below w.heap.size w w' := by
  by_cases hn : 0 ≤ n ∧ n ≤ 28
  · have hin := hn
    obtain ⟨m, rfl⟩ := Int.eq_ofNat_of_zero_le hn.1
    have hm := mFar_yes m (by omega)
    have hcon := orLongest_any m w (by omega)
    have Hn := Lib.hid hn; clear hn
    have Hm := Lib.hid hm; clear hm
    have Hin := Lib.hid hin; clear hin
    have Hcon := Lib.hid hcon; clear hcon
    go_enter Tryz.func12, Tryz.ntmps12
    go_wp2_with fail
    with_reducible refine (piCards_yes _ _ Hin.out).mono ?_
    rintro e w' ⟨rfl, rfl⟩
    go_wp2_with fail
    with_reducible refine (Hcon.out).mono ?_
    rintro e w1 ⟨a1, m1, c1, rfl, ho1, hb1⟩
    go_wp2_with fail
    go_ret2
    rw [Hm.out]
    exact ⟨_, _, _, rfl, ho1, hb1⟩
  · have hm := mFar_no n hn
    have Hn := Lib.hid hn; clear hn
    have Hm := Lib.hid hm; clear hm
    go_enter Tryz.func12, Tryz.ntmps12
    go_wp2_with fail
    with_reducible refine (piCards_no _ _ Hn.out).mono ?_
    rintro e w' ⟨rfl, rfl⟩
    go_wp2_with fail
    go_ret2
    rw [Hm.out]
    exact ⟨none, 0, 0, rfl, Own.nil _ _ _, Below.refl _ _⟩

theorem cmp_bef (a b : List Int) : befB a b = true ↔ 0 < cmpL a b := by
  induction a generalizing b with
  | nil => cases b <;> simp [befB, cmpL]
  | cons x l ih =>
    cases b with
    | nil => simp [befB, cmpL]
    | cons y m =>
      show (if x = y then befB l m else decide (y < x)) = true ↔ 0 < (if x = y then cmpL l m else if x < y then -1 else 1)
      by_cases h : x = y
      · rw [if_pos h, if_pos h]; exact ih m
      · rw [if_neg h, if_neg h]
        by_cases h2 : x < y
        · rw [if_pos h2]; simp; omega
        · rw [if_neg h2]; simp; omega
end
end Go.Proofs.YthppkfhhidlpiaaGreat
namespace Go.Proofs.YthppkfhhidlpiaaGreat
section
open Go.RowKit
set_option linter.unusedVariables false
set_option linter.unusedSimpArgs false
set_option maxRecDepth 20000

theorem cyc_cyclics {xs : List Int} (hg : Good xs) : ∃ s : Nat, xs.sum = s ∧ s ≤ 28 ∧ Cyclics (cycL xs) s := by
  obtain ⟨s, hs, h28⟩ := sum_toNat hg
  have hz := endL_good hg
  have hzc := endL_cyc hg
  refine ⟨s, hs, h28, h28, cycL_good hg, fun x hx => ?_, fun x hx => ?_, ?_⟩
  · obtain ⟨i, _, rfl⟩ := runL_mem.1 hx
    exact cyc_steps hz hzc i
  · obtain ⟨i, _, rfl⟩ := runL_mem.1 hx
    rw [stepsL_sum hz, end_sum hg, hs]
  · unfold cycL runL List.Nodup
    rw [List.pairwise_map]
    refine List.Pairwise.imp_of_mem ?_ (List.pairwise_lt_range (n := perL (endL xs)))
    intro i j hi hj hij
    exact per_distinct hz hzc hij (List.mem_range.1 hj)
def basinL (xs : List Int) : Nat := ((allL xs.sum.toNat).filter fun b => decide (endL b ∈ cycL xs)).length
def mBasinSize (xs : List Int) : Int × Bool := (if goodB xs then (basinL xs : Int) else 0, goodB xs)
theorem mBasin_yes {xs : List Int} (h : goodB xs = true) : mBasinSize xs = ((basinL xs : Int), true) := by unfold mBasinSize; rw [h]; rfl
theorem mBasin_no {xs : List Int} (h : goodB xs = false) : mBasinSize xs = (0, false) := by unfold mBasinSize; rw [h]; rfl

/-! ### By the model -/
set_option maxHeartbeats 800000 in
theorem piStepsX_any (ao : Option Addr) (n cap : Nat) (xs : List Int) (k : Nat) (w : World) (h : IntsAt w ao n cap xs) (hg : Good xs) (hk : k ≤ 4000) :
    Calls Tryz.prog 87 #[.slice ao n cap, .int .i64 k] w fun e w' => ∃ ao' n' cap', e = .returned (.slice ao' n' cap') ∧ Own w.heap.size w'.heap.size w' ao' n' cap' (stepsL k xs) ∧ Below w.heap.size w w' := by
  have hlen := hg.len
  have hl0 := h.length
  have hcon := l1Own_any ao n cap xs w h (by omega)
  have Hg := Lib.hid hg; clear hg
  have Hl0 := Lib.hid hl0; clear hl0
  have Hcon := Lib.hid hcon; clear hcon
  go_enter Tryz.func87, Tryz.ntmps87
  go_wp2_with fail
  with_reducible refine (Hcon.out).mono ?_
  rintro e w1 ⟨a1, c1, rfl, ho1, hb1⟩
  go_wp2_with fail
  go_loopw [1, 5] (fun i v wr => ∃ (j : Nat) (a : Option Addr) (m c : Nat), j ≤ k ∧ i = .int .i64 (k - j : Nat) ∧ v = .slice a m c ∧ Own w.heap.size wr.heap.size wr a m c (stepsL j xs) ∧ Below w.heap.size w wr) (fun i _ _ => (intOf i).toNat)
  case atStart => exact ⟨0, a1, n, c1, Nat.zero_le _, rfl, rfl, ho1, hb1⟩
  case round =>
    obtain ⟨j, a, m, c, hj, rfl, rfl, hown, hb⟩ := hrel
    have hG := stepsL_good Hg.out j
    by_cases hlt : j < k
    · have hkj : 0 < k - j := by omega
      have hcon := piStep_any a m c _ wr hown.at hG
      have Hcon := Lib.hid hcon; clear hcon
      have HG := Lib.hid hG; clear hG
      go_wp2_with fail
      with_reducible refine (Hcon.out).mono ?_
      rintro e w2 ⟨a2, m2, c2, rfl, ho2, hb2⟩
      go_wp2
      go_roundw
      case rel => exact ⟨j + 1, a2, m2, c2, by omega, valI (by omega), rfl, ho2.mono hb.size (Nat.le_refl _), belowTrans hb hb2 (Nat.le_refl _)⟩
      case measure => simp [intOf]; omega
    · obtain rfl : k = j := by omega
      go_wp2
      go_ret
      exact ⟨_, _, _, rfl, hown, hb⟩
set_option maxHeartbeats 800000 in
theorem orStepsB_any (ao : Option Addr) (n cap : Nat) (xs : List Int) (w : World) (h : IntsAt w ao n cap xs) (hg : Good xs) :
    Calls Tryz.prog 85 #[.slice ao n cap] w fun e w' => e = .returned (.int .i64 (tailL xs)) ∧ Below w.heap.size w w' := by
  have hlen := hg.len
  have hl := h.length
  have hcp := l1Own_any ao n cap xs w h (by omega)
  have Hg := Lib.hid hg; clear hg
  have Hcp := Lib.hid hcp; clear hcp
  have Hl := Lib.hid hl; clear hl
  go_enter Tryz.func85, Tryz.ntmps85
  go_wp2_with fail
  with_reducible refine (Hcp.out).mono ?_
  rintro e w1 ⟨a1, c1, rfl, ho1, hb1⟩
  have hx1 := ho1.at
  clear ho1
  go_wp2_with fail
  go_loopw [3, 4] (fun t v wr => ∃ (j : Nat) (a : Option Addr) (m c : Nat), t = .int .i64 j ∧ v = .slice a m c ∧ IntsAt wr a m c (stepsL j xs) ∧ (∀ i, i < j → ¬ Cyc (stepsL i xs)) ∧ Below w.heap.size w wr) (fun t _ _ => 3719 - (intOf t).toNat)
  case atStart => exact ⟨0, _, _, _, rfl, rfl, hx1, fun i hi => by omega, hb1⟩
  case round =>
    obtain ⟨j, a, m, c, rfl, rfl, hx, hno, hb⟩ := hrel
    clear hx1
    have hG := stepsL_good Hg.out j
    have hjt := tail_least Hg.out hno
    have htl := (tailL_spec Hg.out).1
    have hcon := orCyclic_any a m c _ wr hx hG
    by_cases hc : Cyc (stepsL j xs)
    · have hj : tailL xs = j := tailL_unique Hg.out hc hno
      rw [cyc_iff.2 hc] at hcon
      have HG := Lib.hid hG; clear hG
      have Hc := Lib.hid hc; clear hc
      have Hno := Lib.hid hno; clear hno
      have Hj := Lib.hid hj; clear hj
      have Hcon := Lib.hid hcon; clear hcon
      clear hjt
      go_wp2_with fail
      with_reducible refine (Hcon.out).mono ?_
      rintro e w' ⟨rfl, rfl⟩
      go_wp2_with fail
      go_ret
      rw [Hj.out]
      exact ⟨rfl, hb⟩
    · rw [cycBF hc] at hcon
      have hno2 : ∀ i, i < j + 1 → ¬ Cyc (stepsL i xs) := fun i hi => by
        by_cases e : i = j
        · subst e; exact hc
        · exact hno i (by omega)
      have hjt2 := tail_least Hg.out hno2
      have HG := Lib.hid hG; clear hG
      have Hc := Lib.hid hc; clear hc
      have Hno := Lib.hid hno; clear hno
      have Hno2 := Lib.hid hno2; clear hno2
      have Hcon := Lib.hid hcon; clear hcon
      go_wp2_with fail
      with_reducible refine (Hcon.out).mono ?_
      rintro e w' ⟨rfl, rfl⟩
      go_wp2_with fail
      with_reducible refine (piStep_any _ _ _ _ _ hx HG.out).mono ?_
      rintro e w5 ⟨a5, m5, c5, rfl, ho5, hb5⟩
      go_wp2_with fail
      go_roundw
      case rel => exact ⟨j + 1, _, _, _, valI (by omega), rfl, ho5.at, Hno2.out, belowTrans hb hb5 (Nat.le_refl _)⟩
      case measure => simp [intOf]; omega
theorem place_inB {l : List (List Int)} {ys : List Int} {r : Int} (h : PlaceIs l ys r) : (r = -1 ∧ ys ∉ l) ∨ (0 ≤ r ∧ ys ∈ l) := by
  rcases h with ⟨h1, h2⟩ | ⟨i, h1, h2, h3, _⟩
  · exact .inl ⟨h1, h2⟩
  · refine .inr ⟨by omega, ?_⟩
    rw [← h3, List.getD_eq_getElem?_getD, List.getElem?_eq_getElem h2]
    exact List.getElem_mem _

end
end Go.Proofs.YthppkfhhidlpiaaGreat
