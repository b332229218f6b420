/- Several texts in one: RowW, RowO, RowP. No condition. -/
import Derived.Test.YtimmjimeldejjaaGreatDoorGm
import Derived.Test.YtimmjimeldejjaaGreatDoorGh
import Derived.Test.YtimmjimeldejjaaGreatDoorGz
import Derived.Laws.EntriesVeiled
import Derived.OneCell
import Derived.Test.YtimmjimeldejjaaGreatDoorGn
import Derived.WalkMore
namespace Go.Proofs.YtimmjimeldejjaaGreatDoor
section
open Go.RowKit
set_option linter.unusedVariables false
set_option linter.unusedSimpArgs false
set_option maxRecDepth 20000

def hereFn (g : Nat) : Value := .func (.func 231) #[] #[.pointer (some ⟨g, 0, none⟩)]
def stepFn (g : Nat) : Value := .func (.func 232) #[] #[.pointer (some ⟨g, 0, none⟩)]
/-- a walk: the cell that its closures share, and the row that it has come to -/
structure Walk (R : Nat) (w : World) (g : Nat) (xs : List Int) : Prop where
  lo : R ≤ g
  hi : g < w.heap.size
  cell : ∃ a m c, w.heap[g]? = some (.cells #[.slice a m c] 24 (0, 0)) ∧ m ≤ 28 ∧ IntsAt w a m c xs ∧ ((0 < m → ∀ b o, a = some ⟨b, o, none⟩ → b < R) ∨ Own (g + 1) w.heap.size w a m c xs)
theorem Walk.keep {R w w' g xs} (h : Walk R w g xs) (hb : Below w.heap.size w w') : Walk R w' g xs := by
  obtain ⟨lo, hi, a, m, c, h1, h2, h3, h4⟩ := h
  have hs := hb.size
  refine ⟨lo, by omega, a, m, c, ?_, h2, h3.keep hb, h4.imp id (fun k => (k.keep hb).mono (Nat.le_refl _) hs)⟩
  rw [(Chg.ofBelow (S := fun _ => False) hb).block g hi id]; exact h1
theorem Walk.chgSpine {R w w' g xs E' ao n cap us} (h : Walk R w g xs) (k : OwnRow (g + 1) E' w 24 ao n cap us) (hc : Chg (fun q => (Value.slice ao n cap).ownBlock = some q) w w') : Walk R w' g xs := by
  obtain ⟨lo, hi, a, m, c, h1, h2, h3, h4⟩ := h
  have hs := hc.size
  have hne : ∀ q, (Value.slice ao n cap).ownBlock = some q → g + 1 ≤ q := fun q hq => (k.1.lt q hq).1
  have h1' : w'.heap[g]? = some (.cells #[.slice a m c] 24 (0, 0)) := by
    rw [hc.block g hi (fun hh => by have := hne g hh; omega)]; exact h1
  rcases h4 with h4 | h4
  · by_cases hm : m = 0
    · exact ⟨lo, by omega, a, m, c, h1', h2, ⟨h3.length, h3.le, h3.max, h3.isNil, fun j hj => by omega⟩, .inl h4⟩
    · exact ⟨lo, by omega, a, m, c, h1', h2, h3.chg hc (fun b o e hh => by have := hne b hh; have := h4 (by omega) b o e; omega), .inl h4⟩
  · have h5 : Own (g + 1) w.heap.size w' a m c xs := h4.chg hc (fun q _ _ g1 g2 => OwnRow.apart_ty h4 k (by decide) g1 g2)
    exact ⟨lo, by omega, a, m, c, h1', h2, h5.at, .inr (h5.mono (Nat.le_refl _) hs)⟩

set_option maxHeartbeats 800000 in
theorem here_any (R g : Nat) (xs : List Int) (w : World) (h : Walk R w g xs) :
    Calls Tryz.prog 231 #[.pointer (some ⟨g, 0, none⟩)] w fun e w' => ∃ a n c, e = .returned (.slice a n c) ∧ Own w.heap.size w'.heap.size w' a n c xs ∧ Below w.heap.size w w' := by
  obtain ⟨lo, hi, a, m, c, h1, h2, h3, h4⟩ := h
  have hc0 := cell_of_one h1
  have hcon := copyOf_any a m c xs w h3 (by omega)
  have H1 := Lib.hid h1; clear h1
  have H3 := Lib.hid h3; clear h3
  have H4 := Lib.hid h4; clear h4
  have Hcon := Lib.hid hcon; clear hcon
  go_enter Tryz.func231, Tryz.ntmps231
  go_wp2_with fail
  with_reducible refine (Hcon.out).mono ?_
  rintro e w1 ⟨a1, c1, rfl, ho1, hb1⟩
  go_wp2
  go_ret
  exact ⟨_, _, _, rfl, ho1, hb1⟩
set_option maxHeartbeats 800000 in
theorem step_any (R g : Nat) (xs : List Int) (w : World) (h : Walk R w g xs) (hg : RowOk xs) :
    Calls Tryz.prog 232 #[.pointer (some ⟨g, 0, none⟩)] w fun e w' => e = .returned (.tuple #[]) ∧ Walk R w' g (rowStepL xs) ∧ Chg (fun k => k = g) w w' := by
  obtain ⟨lo, hi, a, m, c, h1, h2, h3, h4⟩ := h
  have hc0 := cell_of_one h1
  have hcon := stepOfRow_any a m c xs w h3 hg
  have hlen := (rowStepL_row hg).len
  have hfin : ∀ (w1 : World) (a1 : Option Addr) (n1 c1 : Nat), Own w.heap.size w1.heap.size w1 a1 n1 c1 (rowStepL xs) → Below w.heap.size w w1 →
      w1.cell? ⟨g, 0, none⟩ = some (.slice a m c) ∧ w1.frozen? ⟨g, 0, none⟩ = false ∧ Walk R (w1.setCell ⟨g, 0, none⟩ (.slice a1 n1 c1)) g (rowStepL xs) ∧ Chg (fun k => k = g) w (w1.setCell ⟨g, 0, none⟩ (.slice a1 n1 c1)) := by
    intro w1 a1 n1 c1 ho1 hb1
    have h8 : w1.heap[g]? = some (.cells #[.slice a m c] 24 (0, 0)) := by
      rw [(Chg.ofBelow (S := fun _ => False) hb1).block g hi id]; exact h1
    have hcs := chg_setCell w1 g (.slice a1 n1 c1)
    have hs1 := hb1.size
    have hs2 := hcs.size
    have ho2 : Own w.heap.size w1.heap.size (w1.setCell ⟨g, 0, none⟩ (.slice a1 n1 c1)) a1 n1 c1 (rowStepL xs) := ho1.chg hcs (fun q q1 _ _ hq => by omega)
    have hl1 := ho1.length
    exact ⟨cell_of_one h8, free_of_one h8, ⟨lo, by omega, a1, n1, c1, one_setCell h8, by omega, ho2.at, .inr (ho2.mono (by omega) (by omega))⟩, (Chg.ofBelow hb1).trans hcs⟩
  have H1 := Lib.hid h1; clear h1
  have H3 := Lib.hid h3; clear h3
  have H4 := Lib.hid h4; clear h4
  have Hcon := Lib.hid hcon; clear hcon
  have Hfin := Lib.hid hfin; clear hfin
  have Hlen := Lib.hid hlen; clear hlen
  go_enter Tryz.func232, Tryz.ntmps232
  go_wp2_with fail
  with_reducible refine (Hcon.out).mono ?_
  rintro e w1 ⟨a1, n1, c1, rfl, ho1, hb1⟩
  obtain ⟨q1, q2, q3, q4⟩ := Hfin.out w1 a1 n1 c1 ho1 hb1
  have Q3 := Lib.hid q3; clear q3
  have Q4 := Lib.hid q4; clear q4
  go_wp2
  go_end0
  exact ⟨rfl, Q3.out, Q4.out⟩
end
end Go.Proofs.YtimmjimeldejjaaGreatDoor
namespace Go.Proofs.YtimmjimeldejjaaGreatDoor
section
open Go.RowKit
set_option linter.unusedVariables false
set_option linter.unusedSimpArgs false
set_option maxRecDepth 20000

theorem chgBelowG {g B : Nat} {w w' : World} (h : Chg (fun k => k = g) w w') (hB : B ≤ w.heap.size) (hg : B ≤ g) : Below B w w' := h.below hB (fun k hk => by omega)
theorem cellsAt {w : World} {g : Nat} {cs : Array Value} {ty : TypeId} (h : w.heap[g]? = some (.cells cs ty (0, 0))) (i : Nat) (v : Value) (hv : cs[i]? = some v) : w.cell? ⟨g, i, none⟩ = some v := by
  unfold World.cell?
  simp [h, hv]
/-- a walk that lies in a variable -/
structure WalkB (R : Nat) (w : World) (g gw : Nat) (xs : List Int) : Prop where
  walk : Walk R w g xs
  lt : g < gw
  box : w.heap[gw]? = some (.cells #[hereFn g, stepFn g] 206 (0, 0))
theorem WalkB.hi {R w g gw xs} (h : WalkB R w g gw xs) : gw < w.heap.size := (Array.getElem?_eq_some_iff.1 h.box).1
theorem WalkB.keep {R w w' g gw xs} (h : WalkB R w g gw xs) (hb : Below w.heap.size w w') : WalkB R w' g gw xs :=
  ⟨h.walk.keep hb, h.lt, by rw [(Chg.ofBelow (S := fun _ => False) hb).block gw h.hi id]; exact h.box⟩
theorem WalkB.chgSpine {R w w' g gw xs E' ao n cap us} (h : WalkB R w g gw xs) (k : OwnRow (gw + 1) E' w 24 ao n cap us) (hc : Chg (fun q => (Value.slice ao n cap).ownBlock = some q) w w') : WalkB R w' g gw xs :=
  ⟨h.walk.chgSpine (k.mono (by have := h.lt; omega) (Nat.le_refl _)) hc, h.lt, by
    rw [hc.block gw h.hi (fun hh => by have := (k.1.lt gw hh).1; omega)]; exact h.box⟩
theorem WalkB.step {R w w' g gw xs ys} (h : WalkB R w g gw xs) (hw : Walk R w' g ys) (hc : Chg (fun k => k = g) w w') : WalkB R w' g gw ys :=
  ⟨hw, h.lt, by rw [hc.block gw h.hi (fun hh => by have := h.lt; omega)]; exact h.box⟩
theorem WalkB.c0 {R w g gw xs} (h : WalkB R w g gw xs) : w.cell? ⟨gw, 0, none⟩ = some (.func (.func 231) #[] #[.pointer (some ⟨g, 0, none⟩)]) := cellsAt h.box 0 _ rfl
theorem WalkB.c1 {R w g gw xs} (h : WalkB R w g gw xs) : w.cell? ⟨gw, 1, none⟩ = some (.func (.func 232) #[] #[.pointer (some ⟨g, 0, none⟩)]) := cellsAt h.box 1 _ rfl
theorem WalkB.new {R w g xs} (h : Walk R w g xs) : WalkB R (w.alloc (.cells #[hereFn g, stepFn g] 206)) g w.heap.size xs :=
  ⟨h.keep (belowAlloc w _), h.hi, heap_alloc_new w _⟩
set_option maxHeartbeats 800000 in
theorem walkFrom_any (ao : Option Addr) (n cap : Nat) (xs : List Int) (w : World) (h : IntsAt w ao n cap xs) (hn : n ≤ 28) :
    Calls Tryz.prog 205 #[.slice ao n cap] w fun e w' => ∃ g, e = .returned (.agg #[.func (.func 231) #[] #[.pointer (some ⟨g, 0, none⟩)], .func (.func 232) #[] #[.pointer (some ⟨g, 0, none⟩)]]) ∧ Walk w.heap.size w' g xs ∧ Below w.heap.size w w' := by
  have hb1 := belowAlloc w (.cells #[.slice ao n cap] 24)
  have hs1 : (w.alloc (.cells #[.slice ao n cap] 24)).heap.size = w.heap.size + 1 := by simp
  have hw0 : Walk w.heap.size (w.alloc (.cells #[.slice ao n cap] 24)) w.heap.size xs := ⟨Nat.le_refl _, by omega, ao, n, cap, heap_alloc_new w _, hn, h.keep hb1, .inl (fun h0 => intsBlock h h0)⟩
  have hwb := WalkB.new hw0
  rw [hs1] at hwb
  have hb2 : Below w.heap.size w ((w.alloc (.cells #[.slice ao n cap] 24)).alloc (.cells #[hereFn w.heap.size, stepFn w.heap.size] 206)) := hb1.alloc (by omega) _
  have p0 := hwb.c0
  have p1 := hwb.c1
  have hwk := hwb.walk
  unfold hereFn stepFn at p0 p1 hwk hb2
  have Hwk := Lib.hid hwk; clear hwk
  have Hb2 := Lib.hid hb2; clear hb2
  have Hb1 := Lib.hid hb1; clear hb1
  have Hw0 := Lib.hid hw0; clear hw0
  have Hwb := Lib.hid hwb; clear hwb
  have P0 := Lib.hid p0; clear p0
  have P1 := Lib.hid p1; clear p1
  clear h
  go_enter Tryz.func205, Tryz.ntmps205
  go_wp2
  refine bodyPost_ret (v := .agg #[.func (.func 231) #[] #[.pointer (some ⟨w.heap.size, 0, none⟩)], .func (.func 232) #[] #[.pointer (some ⟨w.heap.size, 0, none⟩)]]) ?_ rfl ⟨_, rfl, Hwk.out, Hb2.out⟩
  have p0 := P0.out
  have p1 := P1.out
  rw [results_cell_one rfl]
  simp [go_sem, asAddr, Result.andThen, loadVar, p0, p1]

set_option maxHeartbeats 1600000 in
theorem impl_RowSteps (ao : Option Addr) (n cap : Nat) (xs : List Int) (k : Int) (w : World) (h : IntsAt w ao n cap xs) :
    Calls Tryz.prog 204 #[.slice ao n cap, .int .i64 k] w fun e w' => ∃ ao' n' cap', e = .returned (.tuple #[.slice ao' n' cap', .bool (mRowSteps xs k).2]) ∧ Own w.heap.size w'.heap.size w' ao' n' cap' (mRowSteps xs k).1 ∧ Below w.heap.size w w' := by
  cases hg : rowB xs
  · have hm := mRowS_no1 (k := k) hg
    have Hg := Lib.hid hg; clear hg
    have Hm := Lib.hid hm; clear hm
    go_enter Tryz.func204, Tryz.ntmps204
    go_wp2_with fail
    with_reducible refine (isRow_no _ _ _ _ _ h Hg.out).mono ?_
    rintro e w' ⟨rfl, rfl⟩
    go_wp2
    go_ret2
    rw [Hm.out]
    exact ⟨none, 0, 0, rfl, Own.nil _ _ _, Below.refl _ _⟩
  · by_cases hk : 0 ≤ k ∧ k ≤ 1000
    · obtain ⟨q, rfl⟩ := Int.eq_ofNat_of_zero_le hk.1
      have hq : q ≤ 1000 := by omega
      have hm := mRowS_yes hg hq
      have hG := row_iff.1 hg
      have hlen := hG.len
      have hl := h.length
      have hwf := walkFrom_any ao n cap xs w h (by omega)
      have hR := rowsL_row hG
      have Hg := Lib.hid hg; clear hg
      have Hm := Lib.hid hm; clear hm
      have Hk := Lib.hid hk; clear hk
      have HG := Lib.hid hG; clear hG
      have Hl := Lib.hid hl; clear hl
      have Hwf := Lib.hid hwf; clear hwf
      have HR := Lib.hid hR; clear hR
      go_enter Tryz.func204, Tryz.ntmps204
      go_wp2_with fail
      with_reducible refine (isRow_yes _ _ _ _ _ h HG.out).mono ?_
      rintro e w' ⟨rfl, rfl⟩
      go_wp2_with fail
      with_reducible refine (inRange_yes _ _ _ Hk.out).mono ?_
      rintro e w' ⟨rfl, rfl⟩
      go_wp2_with fail
      with_reducible refine (Hwf.out).mono ?_
      rintro e w1 ⟨g, rfl, hwk, hb1⟩
      have hwb := WalkB.new hwk
      have hbb := hb1.alloc hb1.size (.cells #[hereFn g, stepFn g] 206)
      unfold hereFn stepFn at hwb hbb
      have Hwb := Lib.hid hwb; clear hwb
      have Hbb := Lib.hid hbb; clear hbb
      clear hwk hb1
      go_wp2_with fail
      go_loopw [18] (fun i wr => ∃ j : Nat, j ≤ q ∧ i = .int .i64 j ∧ WalkB w.heap.size wr g w1.heap.size (rowsL j xs) ∧ Below w.heap.size w wr) (fun i _ => q - (intOf i).toNat)
      case atStart => exact ⟨0, Nat.zero_le _, rfl, Hwb.out, Hbb.out⟩
      case round =>
        obtain ⟨j, hj, rfl, hw2, hb⟩ := hrel
        have hc0 := hw2.c0
        have hc1 := hw2.c1
        by_cases hlt : j < q
        · have hcon := step_any _ _ _ _ hw2.walk (HR.out j)
          rw [← rowsL_add] at hcon
          have hlo := hw2.walk.lo
          have hs := hb.size
          have Hcon := Lib.hid hcon; clear hcon
          go_wp2_with fail
          with_reducible refine (Hcon.out).mono ?_
          rintro e w3 ⟨rfl, hw3, hc3⟩
          have hb3 := hb.trans (chgBelowG hc3 hs hlo)
          have hw4 := hw2.step hw3 hc3
          clear hc0 hc1
          go_wp2
          go_roundw
          case rel => exact ⟨j + 1, by omega, by go_num, hw4, hb3⟩
          case measure => simp [intOf]; omega
        · obtain rfl : q = j := by omega
          have hcon := here_any _ _ _ _ hw2.walk
          have hs := hb.size
          have Hcon := Lib.hid hcon; clear hcon
          go_wp2_with fail
          with_reducible refine (Hcon.out).mono ?_
          rintro e w3 ⟨a3, n3, c3, rfl, ho3, hb3⟩
          clear hc0 hc1
          go_wp2
          go_ret2
          rw [Hm.out]
          exact ⟨_, _, _, rfl, ho3.mono hs (Nat.le_refl _), belowTrans hb hb3 (Nat.le_refl _)⟩
    · have hm := mRowS_no2 (xs := xs) hk
      have Hg := Lib.hid hg; clear hg
      have Hm := Lib.hid hm; clear hm
      have Hk := Lib.hid hk; clear hk
      go_enter Tryz.func204, Tryz.ntmps204
      go_wp2_with fail
      with_reducible refine (isRow_yes _ _ _ _ _ h (row_iff.1 Hg.out)).mono ?_
      rintro e w' ⟨rfl, rfl⟩
      go_wp2_with fail
      with_reducible refine (inRange_no _ _ _ Hk.out).mono ?_
      rintro e w' ⟨rfl, rfl⟩
      go_wp2
      go_ret2
      rw [Hm.out]
      exact ⟨none, 0, 0, rfl, Own.nil _ _ _, Below.refl _ _⟩
theorem impl_StepRow (ao : Option Addr) (n cap : Nat) (xs : List Int) (w : World) (h : IntsAt w ao n cap xs) :
    Calls Tryz.prog 167 #[.slice ao n cap] w fun e w' => ∃ ao' n' cap', e = .returned (.tuple #[.slice ao' n' cap', .bool (mStepRow xs).2]) ∧ Own w.heap.size w'.heap.size w' ao' n' cap' (mStepRow xs).1 ∧ Below w.heap.size w w' := by
  have hcon := impl_RowSteps ao n cap xs 1 w h
  have hm : mRowSteps xs 1 = mStepRow xs := by
    unfold mRowSteps mStepRow
    cases rowB xs <;> rfl
  rw [hm] at hcon
  have Hcon := Lib.hid hcon; clear hcon
  have Hm := Lib.hid hm; clear hm
  go_enter Tryz.func167, Tryz.ntmps167
  go_wp2_with fail
  with_reducible refine (Hcon.out).mono ?_
  rintro e w2 ⟨a2, m2, c2, rfl, ho2, hb2⟩
  go_wp2
  go_ret2
  exact ⟨_, _, _, rfl, ho2, hb2⟩

end
end Go.Proofs.YtimmjimeldejjaaGreatDoor
namespace Go.Proofs.YtimmjimeldejjaaGreatDoor
section
open Go.RowKit
set_option linter.unusedVariables false
set_option linter.unusedSimpArgs false
set_option maxRecDepth 20000

set_option maxHeartbeats 3200000 in
theorem impl_RowOrbit (ao : Option Addr) (n cap : Nat) (xs : List Int) (w : World) (h : IntsAt w ao n cap xs) :
    Calls Tryz.prog 169 #[.slice ao n cap] w fun e w' => e = .returned (.tuple #[.int .i64 (mRowOrbit xs).1, .int .i64 (mRowOrbit xs).2.1, .bool (mRowOrbit xs).2.2]) ∧ Below w.heap.size w w' := by
  cases hg : rowB xs
  · have hm := mRO_no hg
    have Hg := Lib.hid hg; clear hg
    have Hm := Lib.hid hm; clear hm
    go_enter Tryz.func169, Tryz.ntmps169
    go_wp2
    go_step3
    go_wp2_with fail
    with_reducible refine (isRow_no _ _ _ _ _ h Hg.out).mono ?_
    rintro e w' ⟨rfl, rfl⟩
    go_wp2
    try rw [Exit.noGoto_ret]
    go_ret3
    rw [Hm.out]
    exact ⟨rfl, Below.refl _ _⟩
  · have hm := mRO_yes hg
    have hG := row_iff.1 hg
    have hlen := hG.len
    have hl := h.length
    have hwf := walkFrom_any ao n cap xs w h (by omega)
    have hR := rowsL_row hG
    have hno0 : ∀ k, k < 0 → metR xs k = none := fun k hk => by omega
    have Hg := Lib.hid hg; clear hg
    have Hm := Lib.hid hm; clear hm
    have HG := Lib.hid hG; clear hG
    have Hl := Lib.hid hl; clear hl
    have Hwf := Lib.hid hwf; clear hwf
    have HR := Lib.hid hR; clear hR
    go_enter Tryz.func169, Tryz.ntmps169
    go_wp2
    go_step3
    go_wp2_with fail
    with_reducible refine (isRow_yes _ _ _ _ _ h HG.out).mono ?_
    rintro e w' ⟨rfl, rfl⟩
    go_wp2_with fail
    with_reducible refine (Hwf.out).mono ?_
    rintro e w1 ⟨g, rfl, hwk, hb1⟩
    have hwb := WalkB.new hwk
    have hbb := hb1.alloc hb1.size (.cells #[hereFn g, stepFn g] 206)
    unfold hereFn stepFn at hwb hbb
    have hlo := hwk.lo
    have hgl := hwb.lt
    have hs1 := hb1.size
    have Hwb := Lib.hid hwb; clear hwb
    have Hbb := Lib.hid hbb; clear hbb
    clear hwk hb1
    go_wp2_with fail
    go_step3
    go_wp2_with fail
    go_loopw [5, 6, 7] (fun mv tv fv wr => ∃ (j : Nat) (a : Option Addr) (c : Nat), mv = .slice a j c ∧ tv = .int .i64 0 ∧ fv = .bool false ∧ j ≤ 1001 ∧ OwnRows (w1.heap.size + 1) wr.heap.size wr a j c (seenR xs j) ∧ WalkB w.heap.size wr g w1.heap.size (rowsL j xs) ∧ Hid (∀ k, k < j → metR xs k = none) ∧ Below w.heap.size w wr) (fun mv _ _ _ => 1002 - lenOf mv)
    case atStart => exact ⟨0, none, 0, rfl, rfl, rfl, by omega, OwnRows.nil _ _ _, Hwb.out, Lib.hid hno0, Hbb.out⟩
    case round =>
      obtain ⟨j, a, c, rfl, rfl, rfl, hj, hown, hw2, Hno, hb⟩ := hrel
      have hc0 := hw2.c0
      have hc1 := hw2.c1
      have hj8 : (j : Int) ≤ 1001 := by omega
      by_cases hlt : j ≤ 1000
      · have hcon := here_any _ _ _ _ hw2.walk
        have hs := hb.size
        have hhi := hw2.hi
        have Hcon := Lib.hid hcon; clear hcon
        go_wp2_with fail
        with_reducible refine (Hcon.out).mono ?_
        rintro e w3 ⟨a3, n3, c3, rfl, ho3, hb3⟩
        have hs3 := hb3.size
        have hown3 := hown.keep hb3
        have hw3 := hw2.keep hb3
        have hb4 := belowTrans hb hb3 (Nat.le_refl _)
        clear hown hw2 hb hb3 hc0 hc1
        obtain ⟨wi, hwi⟩ : ∃ wi : World, wi = wr := ⟨_, rfl⟩
        subst hwi
        go_wp2_with fail
        go_loopw [6, 7, 25] (fun tv fv iv wq => ∃ k : Nat, k ≤ j ∧ iv = .int .i64 k ∧ tv = .int .i64 0 ∧ fv = .bool false ∧ Hid (∀ i, i < k → rowsL i xs ≠ rowsL j xs) ∧ ∃ q, wq = w3.drewN q) (fun _ _ i _ => j - (intOf i).toNat)
        case atStart => exact ⟨0, Nat.zero_le _, rfl, rfl, rfl, Lib.hid (fun i hi => by omega), 0, rfl⟩
        case round =>
          obtain ⟨k, hk, rfl, rfl, rfl, Hall, q, rfl⟩ := hrel
          by_cases hkt : k < j
          · obtain ⟨b5, o5, e5, hb5, hc5⟩ := hown3.at.cell k hkt
            cases e5
            obtain ⟨a6, m6, c6, hck6, hi6⟩ := hc5 k hkt
            rw [seenR_getD _ _ _ hkt] at hi6
            clear hc5
            have hsame := equal_any a6 a3 m6 n3 c6 c3 _ _ (w3.drewN q) (hi6.drewN q) (ho3.at.drewN q)
            by_cases heq : rowsL k xs = rowsL j xs
            · rw [decide_eq_true heq] at hsame
              have horb := orbR_some (xs := xs) (i := k) (j := j) (by omega) hkt (metR_some hkt heq Hall.out) Hno.out
              have Hsame := Lib.hid hsame; clear hsame
              have Heq := Lib.hid heq; clear heq
              have Horb := Lib.hid horb; clear horb
              have Hi6 := Lib.hid hi6; clear hi6
              go_wp2_with fail
              with_reducible refine (Hsame.out).mono ?_
              rintro e w7 ⟨rfl, q2, rfl⟩
              go_wp2_with fail
              try rw [Exit.noGoto_ret]
              go_ret3
              rw [Hm.out, Horb.out]
              exact ⟨rfl, belowDrewN hb4 _⟩
            · rw [decide_eq_false heq] at hsame
              have hall2 : ∀ i, i < k + 1 → rowsL i xs ≠ rowsL j xs := fun i hi => by
                by_cases hik : i = k
                · subst hik; exact heq
                · exact Hall.out i (by omega)
              have Hsame := Lib.hid hsame; clear hsame
              have Heq := Lib.hid heq; clear heq
              have Hi6 := Lib.hid hi6; clear hi6
              have Hall2 := Lib.hid hall2; clear hall2
              go_wp2_with fail
              with_reducible refine (Hsame.out).mono ?_
              rintro e w7 ⟨rfl, q2, rfl⟩
              go_wp2_with fail
              go_roundw
              case rel => exact ⟨k + 1, by omega, by go_num, rfl, rfl, Hall2, _, rfl⟩
              case measure => simp [intOf]; omega
          · obtain rfl : k = j := by omega
            have hno2 : ∀ i, i < k + 1 → metR xs i = none := fun i hi => by
              by_cases hik : i = k
              · subst hik; exact metR_none Hall.out
              · exact Hno.out i (by omega)
            have hsucc := seenR_succ xs k
            have hown4 : OwnRows (w1.heap.size + 1) wi.heap.size (w3.drewN q) a k c (seenR xs k) := hown3.keep (belowDrewN (Below.refl _ _) q)
            have hw4 : WalkB w.heap.size (w3.drewN q) g w1.heap.size (rowsL k xs) := hw3.keep (belowDrewN (Below.refl _ _) q)
            have ho4 : Own wi.heap.size (w3.drewN q).heap.size (w3.drewN q) a3 n3 c3 (rowsL k xs) := ho3.keep (belowDrewN (Below.refl _ _) q)
            have hb5 : Below w.heap.size w (w3.drewN q) := belowDrewN hb4 q
            have hsz : wi.heap.size ≤ (w3.drewN q).heap.size := hs3
            clear hown3 hw3 ho3 hb4 Hall
            generalize w3.drewN q = W at *
            obtain ⟨svs, hsv, _⟩ := hown4.vals
            have Hno2 := Lib.hid hno2; clear hno2
            have Hsucc := Lib.hid hsucc; clear hsucc
            go_wp2_with (at_builtin; refine wpList_pushR W rfl _ _ rfl (w1.heap.size + 1) wi.heap.size _ k c _ rfl hown4 hsz a3 n3 c3 wi.heap.size _ ho4 (by omega) ho4.ge rfl (by omega) (by omega) ?_)
            intro a8 c8 w8 ho8 hc8
            have hw8 := hw4.chgSpine hsv hc8
            have hb8 := hb5.trans ((hown4.chgBelow hc8 (by omega)).mono (by omega))
            have hs8 := hc8.size
            clear hown4 hsv hc8 hw4
            have hcon := step_any _ _ _ _ hw8.walk (HR.out k)
            rw [← rowsL_add] at hcon
            have hc0 := hw8.c0
            have hc1 := hw8.c1
            have Hcon := Lib.hid hcon; clear hcon
            go_wp2_with fail
            with_reducible refine (Hcon.out).mono ?_
            rintro e w9 ⟨rfl, hwn, hc9⟩
            have hw9 := hw8.step hwn hc9
            clear hc0 hc1 hwn
            have hb9 := hb8.trans (chgBelowG hc9 (by omega) hlo)
            have hs9 := hc9.size
            have ho9 := (ho8.chg hc9 (fun p h1 _ => by omega)).mono (Nat.le_refl _) hs9
            go_wp2_with fail
            go_roundw
            case rel => exact ⟨k + 1, a8, c8, rfl, rfl, rfl, by omega, by rw [Hsucc.out]; exact ho9, hw9, Hno2, hb9⟩
            case measure => simp [lenOf]; omega
      · obtain rfl : j = 1001 := by omega
        have horb := orbR_none (xs := xs) Hno.out
        have Horb := Lib.hid horb; clear horb
        go_wp2_with fail
        try rw [Exit.noGoto_ret]
        go_ret3
        rw [Hm.out, Horb.out]
        exact ⟨rfl, hb⟩
end
end Go.Proofs.YtimmjimeldejjaaGreatDoor
