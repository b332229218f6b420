/- Chapter 5 by the program: StepRow, RowSteps, PlayRow, RowOrbit, IsCyclicRow. No condition. -/
import Derived.Test.YtbneibpakopllaaRowW
import Derived.Test.YtbneibpakopllaaGt
namespace Go.Proofs.Ytbneibpakopllaa
open Go.RowKit
set_option linter.unusedVariables false
set_option linter.unusedSimpArgs false
set_option maxRecDepth 20000

theorem chgBelowG {g B : Nat} {w w' : World} (h : Chg (fun k => k = g) w w') (hB : B ≤ w.heap.size) (hg : B ≤ g) : Below B w w' := h.below hB (fun k hk => by omega)
theorem cellsAt {w : World} {g : Nat} {cs : Array Value} {ty : TypeId} (h : w.heap[g]? = some (.cells cs ty (0, 0))) (i : Nat) (v : Value) (hv : cs[i]? = some v) : w.cell? ⟨g, i, none⟩ = some v := by
  unfold World.cell?
  simp [h, hv]
/-- a walk that lies in a variable -/
structure WalkB (R : Nat) (w : World) (g gw : Nat) (xs : List Int) : Prop where
  walk : Walk R w g xs
  lt : g < gw
  box : w.heap[gw]? = some (.cells #[hereFn g, stepFn g] 107 (0, 0))
theorem WalkB.hi {R w g gw xs} (h : WalkB R w g gw xs) : gw < w.heap.size := (Array.getElem?_eq_some_iff.1 h.box).1
theorem WalkB.keep {R w w' g gw xs} (h : WalkB R w g gw xs) (hb : Below w.heap.size w w') : WalkB R w' g gw xs :=
  ⟨h.walk.keep hb, h.lt, by rw [(Chg.ofBelow (S := fun _ => False) hb).block gw h.hi id]; exact h.box⟩
theorem WalkB.chgSpine {R w w' g gw xs E' ao n cap us} (h : WalkB R w g gw xs) (k : OwnRow (gw + 1) E' w 22 ao n cap us) (hc : Chg (fun q => (Value.slice ao n cap).ownBlock = some q) w w') : WalkB R w' g gw xs :=
  ⟨h.walk.chgSpine (k.mono (by have := h.lt; omega) (Nat.le_refl _)) hc, h.lt, by
    rw [hc.block gw h.hi (fun hh => by have := (k.1.lt gw hh).1; omega)]; exact h.box⟩
theorem WalkB.step {R w w' g gw xs ys} (h : WalkB R w g gw xs) (hw : Walk R w' g ys) (hc : Chg (fun k => k = g) w w') : WalkB R w' g gw ys :=
  ⟨hw, h.lt, by rw [hc.block gw h.hi (fun hh => by have := h.lt; omega)]; exact h.box⟩
theorem WalkB.c0 {R w g gw xs} (h : WalkB R w g gw xs) : w.cell? ⟨gw, 0, none⟩ = some (.func (.func 148) #[] #[.pointer (some ⟨g, 0, none⟩)]) := cellsAt h.box 0 _ rfl
theorem WalkB.c1 {R w g gw xs} (h : WalkB R w g gw xs) : w.cell? ⟨gw, 1, none⟩ = some (.func (.func 149) #[] #[.pointer (some ⟨g, 0, none⟩)]) := cellsAt h.box 1 _ rfl
theorem WalkB.new {R w g xs} (h : Walk R w g xs) : WalkB R (w.alloc (.cells #[hereFn g, stepFn g] 107)) g w.heap.size xs :=
  ⟨h.keep (belowAlloc w _), h.hi, heap_alloc_new w _⟩
set_option maxHeartbeats 800000 in
theorem walkFrom_any (ao : Option Addr) (n cap : Nat) (xs : List Int) (w : World) (h : IntsAt w ao n cap xs) (hn : n ≤ 28) :
    Calls Try.prog 120 #[.slice ao n cap] w fun e w' => ∃ g, e = .returned (.agg #[.func (.func 148) #[] #[.pointer (some ⟨g, 0, none⟩)], .func (.func 149) #[] #[.pointer (some ⟨g, 0, none⟩)]]) ∧ Walk w.heap.size w' g xs ∧ Below w.heap.size w w' := by
  have hb1 := belowAlloc w (.cells #[.slice ao n cap] 22)
  have hs1 : (w.alloc (.cells #[.slice ao n cap] 22)).heap.size = w.heap.size + 1 := by simp
  have hw0 : Walk w.heap.size (w.alloc (.cells #[.slice ao n cap] 22)) w.heap.size xs := ⟨Nat.le_refl _, by omega, ao, n, cap, heap_alloc_new w _, hn, h.keep hb1, .inl (fun h0 => intsBlock h h0)⟩
  have hwb := WalkB.new hw0
  rw [hs1] at hwb
  have hb2 : Below w.heap.size w ((w.alloc (.cells #[.slice ao n cap] 22)).alloc (.cells #[hereFn w.heap.size, stepFn w.heap.size] 107)) := hb1.alloc (by omega) _
  have p0 := hwb.c0
  have p1 := hwb.c1
  have hwk := hwb.walk
  unfold hereFn stepFn at p0 p1 hwk hb2
  have Hwk := Lib.hid hwk; clear hwk
  have Hb2 := Lib.hid hb2; clear hb2
  have Hb1 := Lib.hid hb1; clear hb1
  have Hw0 := Lib.hid hw0; clear hw0
  have Hwb := Lib.hid hwb; clear hwb
  have P0 := Lib.hid p0; clear p0
  have P1 := Lib.hid p1; clear p1
  clear h
  go_enter Try.func120, Try.ntmps120
  go_wp2
  refine bodyPost_ret (v := .agg #[.func (.func 148) #[] #[.pointer (some ⟨w.heap.size, 0, none⟩)], .func (.func 149) #[] #[.pointer (some ⟨w.heap.size, 0, none⟩)]]) ?_ rfl ⟨_, rfl, Hwk.out, Hb2.out⟩
  have p0 := P0.out
  have p1 := P1.out
  rw [results_cell_one rfl]
  simp [go_sem, asAddr, Result.andThen, loadVar, p0, p1]

set_option maxHeartbeats 1600000 in
theorem impl_RowSteps (ao : Option Addr) (n cap : Nat) (xs : List Int) (k : Int) (w : World) (h : IntsAt w ao n cap xs) :
    Calls Try.prog 56 #[.slice ao n cap, .int .i64 k] w fun e w' => ∃ ao' n' cap', e = .returned (.tuple #[.slice ao' n' cap', .bool (mRowSteps xs k).2]) ∧ Own w.heap.size w'.heap.size w' ao' n' cap' (mRowSteps xs k).1 ∧ Below w.heap.size w w' := by
  cases hg : rowB xs
  · have hm := mRowS_no1 (k := k) hg
    have Hg := Lib.hid hg; clear hg
    have Hm := Lib.hid hm; clear hm
    go_enter Try.func56, Try.ntmps56
    go_wp2_with fail
    with_reducible refine (isRow_no _ _ _ _ _ h Hg.out).mono ?_
    rintro e w' ⟨rfl, rfl⟩
    go_wp2
    go_ret2
    rw [Hm.out]
    exact ⟨none, 0, 0, rfl, Own.nil _ _ _, Below.refl _ _⟩
  · by_cases hk : 0 ≤ k ∧ k ≤ 1000
    · obtain ⟨q, rfl⟩ := Int.eq_ofNat_of_zero_le hk.1
      have hq : q ≤ 1000 := by omega
      have hm := mRowS_yes hg hq
      have hG := row_iff.1 hg
      have hlen := hG.len
      have hl := h.length
      have hwf := walkFrom_any ao n cap xs w h (by omega)
      have hR := rowsL_row hG
      have Hg := Lib.hid hg; clear hg
      have Hm := Lib.hid hm; clear hm
      have Hk := Lib.hid hk; clear hk
      have HG := Lib.hid hG; clear hG
      have Hl := Lib.hid hl; clear hl
      have Hwf := Lib.hid hwf; clear hwf
      have HR := Lib.hid hR; clear hR
      go_enter Try.func56, Try.ntmps56
      go_wp2_with fail
      with_reducible refine (isRow_yes _ _ _ _ _ h HG.out).mono ?_
      rintro e w' ⟨rfl, rfl⟩
      go_wp2_with fail
      with_reducible refine (inRange_yes _ _ _ Hk.out).mono ?_
      rintro e w' ⟨rfl, rfl⟩
      go_wp2_with fail
      with_reducible refine (Hwf.out).mono ?_
      rintro e w1 ⟨g, rfl, hwk, hb1⟩
      have hwb := WalkB.new hwk
      have hbb := hb1.alloc hb1.size (.cells #[hereFn g, stepFn g] 107)
      unfold hereFn stepFn at hwb hbb
      have Hwb := Lib.hid hwb; clear hwb
      have Hbb := Lib.hid hbb; clear hbb
      clear hwk hb1
      go_wp2_with fail
      go_loopw [18] (fun i wr => ∃ j : Nat, j ≤ q ∧ i = .int .i64 j ∧ WalkB w.heap.size wr g w1.heap.size (rowsL j xs) ∧ Below w.heap.size w wr) (fun i _ => q - (intOf i).toNat)
      case atStart => exact ⟨0, Nat.zero_le _, rfl, Hwb.out, Hbb.out⟩
      case round =>
        obtain ⟨j, hj, rfl, hw2, hb⟩ := hrel
        have hc0 := hw2.c0
        have hc1 := hw2.c1
        by_cases hlt : j < q
        · have hcon := step_any _ _ _ _ hw2.walk (HR.out j)
          rw [← rowsL_add] at hcon
          have hlo := hw2.walk.lo
          have hs := hb.size
          have Hcon := Lib.hid hcon; clear hcon
          go_wp2_with fail
          with_reducible refine (Hcon.out).mono ?_
          rintro e w3 ⟨rfl, hw3, hc3⟩
          have hb3 := hb.trans (chgBelowG hc3 hs hlo)
          have hw4 := hw2.step hw3 hc3
          clear hc0 hc1
          go_wp2
          go_roundw
          case rel => exact ⟨j + 1, by omega, by go_num, hw4, hb3⟩
          case measure => simp [intOf]; omega
        · obtain rfl : q = j := by omega
          have hcon := here_any _ _ _ _ hw2.walk
          have hs := hb.size
          have Hcon := Lib.hid hcon; clear hcon
          go_wp2_with fail
          with_reducible refine (Hcon.out).mono ?_
          rintro e w3 ⟨a3, n3, c3, rfl, ho3, hb3⟩
          clear hc0 hc1
          go_wp2
          go_ret2
          rw [Hm.out]
          exact ⟨_, _, _, rfl, ho3.mono hs (Nat.le_refl _), belowTrans hb hb3 (Nat.le_refl _)⟩
    · have hm := mRowS_no2 (xs := xs) hk
      have Hg := Lib.hid hg; clear hg
      have Hm := Lib.hid hm; clear hm
      have Hk := Lib.hid hk; clear hk
      go_enter Try.func56, Try.ntmps56
      go_wp2_with fail
      with_reducible refine (isRow_yes _ _ _ _ _ h (row_iff.1 Hg.out)).mono ?_
      rintro e w' ⟨rfl, rfl⟩
      go_wp2_with fail
      with_reducible refine (inRange_no _ _ _ Hk.out).mono ?_
      rintro e w' ⟨rfl, rfl⟩
      go_wp2
      go_ret2
      rw [Hm.out]
      exact ⟨none, 0, 0, rfl, Own.nil _ _ _, Below.refl _ _⟩
theorem impl_StepRow (ao : Option Addr) (n cap : Nat) (xs : List Int) (w : World) (h : IntsAt w ao n cap xs) :
    Calls Try.prog 48 #[.slice ao n cap] w fun e w' => ∃ ao' n' cap', e = .returned (.tuple #[.slice ao' n' cap', .bool (mStepRow xs).2]) ∧ Own w.heap.size w'.heap.size w' ao' n' cap' (mStepRow xs).1 ∧ Below w.heap.size w w' := by
  have hcon := impl_RowSteps ao n cap xs 1 w h
  have hm : mRowSteps xs 1 = mStepRow xs := by
    unfold mRowSteps mStepRow
    cases rowB xs <;> rfl
  rw [hm] at hcon
  have Hcon := Lib.hid hcon; clear hcon
  have Hm := Lib.hid hm; clear hm
  go_enter Try.func48, Try.ntmps48
  go_wp2_with fail
  with_reducible refine (Hcon.out).mono ?_
  rintro e w2 ⟨a2, m2, c2, rfl, ho2, hb2⟩
  go_wp2
  go_ret2
  exact ⟨_, _, _, rfl, ho2, hb2⟩

set_option maxHeartbeats 1600000 in
set_option maxRecDepth 100000 in
theorem impl_PlayRow (ao : Option Addr) (n cap : Nat) (xs : List Int) (k : Int) (w : World) (h : IntsAt w ao n cap xs) :
    Calls Try.prog 60 #[.slice ao n cap, .int .i64 k] w fun e w' => ∃ ao' n' cap', e = .returned (.tuple #[.slice ao' n' cap', .bool (mPlayRow xs k).2]) ∧ OwnRows w.heap.size w'.heap.size w' ao' n' cap' (mPlayRow xs k).1 ∧ Below w.heap.size w w' := by
  cases hg : rowB xs
  · have hm := mPlayR_no1 (k := k) hg
    have Hg := Lib.hid hg; clear hg
    have Hm := Lib.hid hm; clear hm
    go_enter Try.func60, Try.ntmps60
    go_wp2_with fail
    with_reducible refine (isRow_no _ _ _ _ _ h Hg.out).mono ?_
    rintro e w' ⟨rfl, rfl⟩
    go_wp2
    go_ret2
    rw [Hm.out]
    exact ⟨none, 0, 0, rfl, OwnRows.nil _ _ _, Below.refl _ _⟩
  · by_cases hk : 0 ≤ k ∧ k ≤ 1000
    · obtain ⟨q, rfl⟩ := Int.eq_ofNat_of_zero_le hk.1
      have hq : q ≤ 1000 := by omega
      have hm := mPlayR_yes hg hq
      have hG := row_iff.1 hg
      have hlen := hG.len
      have hl := h.length
      have hwf := walkFrom_any ao n cap xs w h (by omega)
      have hR := rowsL_row hG
      have Hg := Lib.hid hg; clear hg
      have Hm := Lib.hid hm; clear hm
      have Hk := Lib.hid hk; clear hk
      have HG := Lib.hid hG; clear hG
      have Hl := Lib.hid hl; clear hl
      have Hwf := Lib.hid hwf; clear hwf
      have HR := Lib.hid hR; clear hR
      go_enter Try.func60, Try.ntmps60
      go_wp2_with fail
      with_reducible refine (isRow_yes _ _ _ _ _ h HG.out).mono ?_
      rintro e w' ⟨rfl, rfl⟩
      go_wp2_with fail
      with_reducible refine (inRange_yes _ _ _ Hk.out).mono ?_
      rintro e w' ⟨rfl, rfl⟩
      go_wp2_with fail
      with_reducible refine (Hwf.out).mono ?_
      rintro e w1 ⟨g, rfl, hwk, hb1⟩
      have hwb := WalkB.new hwk
      have hbb := hb1.alloc hb1.size (.cells #[hereFn g, stepFn g] 107)
      have hgw : (w1.alloc (.cells #[hereFn g, stepFn g] 107)).heap.size = w1.heap.size + 1 := by simp
      unfold hereFn stepFn at hwb hbb hgw
      have hcon := here_any _ _ _ _ hwb.walk
      have hlo := hwk.lo
      have hgl := hwb.lt
      have hs1 := hb1.size
      have Hcon := Lib.hid hcon; clear hcon
      have Hwb := Lib.hid hwb; clear hwb
      have Hbb := Lib.hid hbb; clear hbb
      clear hwk hb1
      go_wp2_with fail
      with_reducible refine (Hcon.out).mono ?_
      rintro e w2 ⟨a2, n2, c2, rfl, ho2, hb2⟩
      have hs2 := hb2.size
      rw [hgw] at hs2
      have hwk2 := Hwb.out.keep hb2
      have hone := OwnRows.one ho2 (w1.heap.size + 1) (by rw [hgw]; exact Nat.le_refl _) hs2 (Nat.le_succ _)
      have hal := belowAlloc w2 (.cells #[.slice a2 n2 c2] 22)
      have hwk3 := hwk2.keep hal
      have hb3 := belowTrans (belowTrans Hbb.out hb2 (Nat.le_refl _)) hal (Nat.le_refl _)
      clear hwk2 ho2 hb2 hgw
      have Hal := Lib.hid hal; clear hal
      go_wp2_with fail
      go_loopw [7, 23] (fun v i wr => ∃ (j : Nat) (a : Option Addr) (c : Nat), j ≤ q ∧ i = .int .i64 j ∧ v = .slice a (j + 1) c ∧ OwnRows (w1.heap.size + 1) wr.heap.size wr a (j + 1) c (playR j xs) ∧ WalkB w.heap.size wr g w1.heap.size (rowsL j xs) ∧ Below w.heap.size w wr) (fun _ i _ => q - (intOf i).toNat)
      case atStart => exact ⟨0, _, 1, Nat.zero_le _, rfl, rfl, by simpa [playR, rowsL] using hone, hwk3, hb3⟩
      case round =>
        obtain ⟨j, a, c, hj, rfl, rfl, hown, hw2, hb⟩ := hrel
        clear hone hwk3 hb3
        have hc0 := hw2.c0
        have hc1 := hw2.c1
        by_cases hlt : j < q
        · have hcon := step_any _ _ _ _ hw2.walk (HR.out j)
          rw [← rowsL_add] at hcon
          have hs := hb.size
          have hsucc := playR_succ j xs
          rw [← rowsL_add] at hsucc
          have Hcon := Lib.hid hcon; clear hcon
          have Hsucc := Lib.hid hsucc; clear hsucc
          go_wp2_with fail
          with_reducible refine (Hcon.out).mono ?_
          rintro e w3 ⟨rfl, hwn, hc3⟩
          have hb3 := hb.trans (chgBelowG hc3 hs hlo)
          have hw3 := hw2.step hwn hc3
          have hs3 := hc3.size
          clear hc0 hc1 hwn
          have hc0 := hw3.c0
          have hc1 := hw3.c1
          have hown3 := (hown.chg hc3 (fun p h1 _ => by omega)).mono (Nat.le_refl _) hs3
          clear hown hw2 hb hc3
          have hcon := here_any _ _ _ _ hw3.walk
          have Hcon := Lib.hid hcon; clear hcon
          go_wp2_with fail
          with_reducible refine (Hcon.out).mono ?_
          rintro e w4 ⟨a4, n4, c4, rfl, ho4, hb4⟩
          have hs4 := hb4.size
          have hown4 := hown3.keep hb4
          have hw4 := hw3.keep hb4
          have hb5 := belowTrans hb3 hb4 (Nat.le_refl _)
          have hh3 := hw3.hi
          obtain ⟨svs, hsv, _⟩ := hown4.vals
          clear hown3 hw3 hb3 hb4 hc0 hc1
          go_wp2_with (at_builtin; refine wpList_pushR w4 rfl _ _ rfl (w1.heap.size + 1) w3.heap.size _ (j + 1) c _ rfl hown4 hs4 a4 n4 c4 w3.heap.size _ ho4 (by omega) ho4.ge rfl (by omega) (by omega) ?_)
          intro a6 c6 w6 ho6 hc6
          have hw6 := hw4.chgSpine hsv hc6
          have hb6 := hb5.trans ((hown4.chgBelow hc6 (by omega)).mono (by omega))
          clear hown4 hc6 hsv
          go_wp2
          go_roundw
          case rel => exact ⟨j + 1, a6, c6, by omega, by go_num, rfl, by rw [← Hsucc.out]; exact ho6, hw6, hb6⟩
          case measure => simp [intOf] <;> omega
        · obtain rfl : q = j := by omega
          go_wp2
          go_ret2
          rw [Hm.out]
          exact ⟨_, _, _, rfl, hown.mono (by omega) (Nat.le_refl _), hb⟩
    · have hm := mPlayR_no2 (xs := xs) hk
      have Hg := Lib.hid hg; clear hg
      have Hm := Lib.hid hm; clear hm
      have Hk := Lib.hid hk; clear hk
      go_enter Try.func60, Try.ntmps60
      go_wp2_with fail
      with_reducible refine (isRow_yes _ _ _ _ _ h (row_iff.1 Hg.out)).mono ?_
      rintro e w' ⟨rfl, rfl⟩
      go_wp2_with fail
      with_reducible refine (inRange_no _ _ _ Hk.out).mono ?_
      rintro e w' ⟨rfl, rfl⟩
      go_wp2
      go_ret2
      rw [Hm.out]
      exact ⟨none, 0, 0, rfl, OwnRows.nil _ _ _, Below.refl _ _⟩
end Go.Proofs.Ytbneibpakopllaa
