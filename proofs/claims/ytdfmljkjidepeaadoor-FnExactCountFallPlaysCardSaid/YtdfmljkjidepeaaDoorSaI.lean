/- Chapter 6 by the program: sand, falls as interface values, the columns that can fall. No condition. -/
import Derived.Test.YtdfmljkjidepeaaDoorSaB
import Derived.Defers
import Derived.Laws.EntriesVeiled
namespace Go.Proofs.YtdfmljkjidepeaaDoor
open Go.RowKit
set_option linter.unusedVariables false
set_option linter.unusedSimpArgs false
set_option maxRecDepth 20000

set_option maxHeartbeats 800000 in
theorem isSand_any (ao : Option Addr) (n cap : Nat) (xs : List Int) (w : World) (h : IntsAt w ao n cap xs) :
    Calls Tryd.prog 21 #[.slice ao n cap] w fun e w' => e = .returned (.bool (sandB xs)) ∧ w = w' := by
  have hn := h.lenInt
  have hl := h.length
  by_cases h12 : n ≤ 12
  · cases hg : goodB xs
    · have hm := sandB_bad hg
      have Hg := Lib.hid hg; clear hg
      have Hm := Lib.hid hm; clear hm
      have Hl := Lib.hid hl; clear hl
      go_enter Tryd.func21, Tryd.ntmps21
      go_wp2_with fail
      with_reducible refine (isPiles_no _ _ _ _ _ h Hg.out).mono ?_
      rintro e w' ⟨rfl, rfl⟩
      go_wp2
      go_ret
      exact ⟨by rw [Hm.out]; rfl, rfl⟩
    · have hG := good_iff.1 hg
      have hm := sandB_of hG (by omega)
      have hs := sumOf_any ao n cap xs w h hG
      generalize xs.sum = S at *
      have Hg := Lib.hid hg; clear hg
      have Hm := Lib.hid hm; clear hm
      have HG := Lib.hid hG; clear hG
      have Hl := Lib.hid hl; clear hl
      have Hs := Lib.hid hs; clear hs
      go_enter Tryd.func21, Tryd.ntmps21
      go_wp2_with fail
      with_reducible refine (isPiles_yes _ _ _ _ _ h HG.out).mono ?_
      rintro e w' ⟨rfl, rfl⟩
      go_wp2_with fail
      with_reducible refine (Hs.out).mono ?_
      rintro e w' ⟨rfl, rfl⟩
      go_wp2
      go_ret
      exact ⟨by rw [Hm.out]; rfl, rfl⟩
  · have hm := sandB_far (xs := xs) (by omega)
    have Hm := Lib.hid hm; clear hm
    have Hl := Lib.hid hl; clear hl
    go_enter Tryd.func21, Tryd.ntmps21
    go_wp2
    go_ret
    exact ⟨by rw [Hm.out]; rfl, rfl⟩
theorem isSand_yes (ao : Option Addr) (n cap : Nat) (xs : List Int) (w : World) (h : IntsAt w ao n cap xs) (hg : Sand xs) :
    Calls Tryd.prog 21 #[.slice ao n cap] w fun e w' => e = .returned (.bool true) ∧ w = w' := by
  have := isSand_any ao n cap xs w h; rw [sand_iff.2 hg] at this; exact this
theorem isSand_no (ao : Option Addr) (n cap : Nat) (xs : List Int) (w : World) (h : IntsAt w ao n cap xs) (hg : sandB xs = false) :
    Calls Tryd.prog 21 #[.slice ao n cap] w fun e w' => e = .returned (.bool false) ∧ w = w' := by
  have := isSand_any ao n cap xs w h; rw [hg] at this; exact this
theorem impl_IsSand (ao : Option Addr) (n cap : Nat) (xs : List Int) (w : World) (h : IntsAt w ao n cap xs) :
    Calls Tryd.prog 21 #[.slice ao n cap] w fun e w' => e = .returned (.bool (mIsSand xs)) ∧ Below w.heap.size w w' := callsBelow (isSand_any ao n cap xs w h)

/-- a fall of a column, the last one or another one -/
def fallV : Bool → Nat → Value
  | true, i => .iface 63 (.int .i64 i)
  | false, i => .iface 62 (.int .i64 i)
theorem fallV_one (b : Bool) (i : Nat) : (fallV b i).oneCell' = true := by cases b <;> rfl
def fallsV (xs : List Int) (k : Nat) : List Value := (fallsN xs k).map fun i => fallV (decide (i + 1 = xs.length)) i
theorem fallsV_yes {xs : List Int} {k : Nat} (h : steepB xs k = true) : fallsV xs (k + 1) = fallsV xs k ++ [fallV (decide (k + 1 = xs.length)) k] := by
  unfold fallsV fallsN
  rw [List.range_succ, List.filter_append, List.map_append]
  simp [h]
theorem fallsV_no {xs : List Int} {k : Nat} (h : steepB xs k = false) : fallsV xs (k + 1) = fallsV xs k := by
  unfold fallsV fallsN
  rw [List.range_succ, List.filter_append, List.map_append]
  simp [h]
theorem fallsV_length (xs : List Int) (k : Nat) : (fallsV xs k).length = (fallsT xs k).length := by unfold fallsV fallsT; simp

set_option maxHeartbeats 1600000 in
theorem fallAt_in (ao : Option Addr) (n cap : Nat) (xs : List Int) (i : Nat) (w : World) (h : IntsAt w ao n cap xs) (hg : Grains xs) (hi : i < n) :
    Calls Tryd.prog 41 #[.slice ao n cap, .int .i64 i] w fun e w' => e = .returned (.tuple #[fallV (decide (i + 1 = n)) i, .bool (steepB xs i)]) ∧ ∃ q, w' = w.drewN q := by
  have hl := h.length
  have hlen := hg.len
  have hn24 : (n : Int) ≤ 24 := by omega
  obtain ⟨b, o, rfl, hb, hc⟩ := h.cell i hi
  have hci := hc i hi
  have hx1 := grains_at hg i
  have hy1 := grains_at hg (i + 1)
  have hst : steepB xs i = decide (xs.getD (i + 1) 0 + 2 ≤ xs.getD i 0) := rfl
  have hin := inRange_yes (i : Int) ((n : Int) - 1) w (by omega)
  by_cases hlt : i + 1 = n
  · have hy : xs.getD (i + 1) 0 = 0 := getD_past (by omega)
    rw [hy] at hst
    have hd : ((i : Int) == (n : Int) - 1) = true := by simp; omega
    have hv : fallV (decide (i + 1 = n)) i = .iface 63 (.int .i64 i) := by rw [decide_eq_true hlt]; rfl
    generalize xs.getD i 0 = x at *
    clear h hc hg hy1 hy hlt
    have Hst := Lib.hid hst; clear hst
    have Hl := Lib.hid hl; clear hl
    have Hv := Lib.hid hv; clear hv
    have Hin := Lib.hid hin; clear hin
    go_enter Tryd.func41, Tryd.ntmps41
    go_wp2_with fail
    with_reducible refine (Hin.out).mono ?_
    rintro e w' ⟨rfl, rfl⟩
    go_wp2
    go_quiet (fail)
    go_wp2
    go_ret2
    exact ⟨by rw [Hv.out, Hst.out]; simp, _, rfl⟩
  · have hc1 := hc (i + 1) (by omega)
    have hd : ((i : Int) == (n : Int) - 1) = false := by simp; omega
    have hv : fallV (decide (i + 1 = n)) i = .iface 62 (.int .i64 i) := by rw [decide_eq_false hlt]; rfl
    have hst2 : steepB xs i = decide (2 ≤ xs.getD i 0 - xs.getD (i + 1) 0) := by rw [hst, decide_eq_decide]; omega
    have hi1 : i + 1 < n := by omega
    generalize xs.getD i 0 = x at *
    generalize xs.getD (i + 1) 0 = y at *
    clear h hc hg hst hlt
    have Hst2 := Lib.hid hst2; clear hst2
    have Hl := Lib.hid hl; clear hl
    have Hv := Lib.hid hv; clear hv
    have Hin := Lib.hid hin; clear hin
    go_enter Tryd.func41, Tryd.ntmps41
    go_wp2_with fail
    with_reducible refine (Hin.out).mono ?_
    rintro e w' ⟨rfl, rfl⟩
    go_wp2
    go_quiet (fail)
    go_wp2
    go_ret2
    exact ⟨by rw [Hv.out, Hst2.out]; rfl, _, rfl⟩
theorem fallAt_out (ao : Option Addr) (n cap : Nat) (i : Int) (w : World) (hn : (n : Int) ≤ 24) (hi : ¬ (0 ≤ i ∧ i ≤ (n : Int) - 1)) :
    Calls Tryd.prog 41 #[.slice ao n cap, .int .i64 i] w fun e w' => e = .returned (.tuple #[.nilIface, .bool false]) ∧ w' = w := by
  have hin := inRange_no i ((n : Int) - 1) w hi
  have Hin := Lib.hid hin; clear hin
  have Hi := Lib.hid hi; clear hi
  go_enter Tryd.func41, Tryd.ntmps41
  go_wp2_with fail
  with_reducible refine (Hin.out).mono ?_
  rintro e w' ⟨rfl, rfl⟩
  go_wp2
  go_ret2
  exact ⟨rfl, rfl⟩

theorem Tryd.infoFall : (Tryd.prog.info? 53).map (fun i => (i.zero, i.size, i.bytes)) = some (some .nilIface, 1, 16) := by kernel_rfl
set_option maxHeartbeats 1600000 in
theorem fallsOf_any (ao : Option Addr) (n cap : Nat) (xs : List Int) (w : World) (h : IntsAt w ao n cap xs) (hg : Grains xs) :
    Calls Tryd.prog 34 #[.slice ao n cap] w fun e w' => ∃ ao' n' cap', e = .returned (.slice ao' n' cap') ∧ OwnRow w.heap.size w'.heap.size w' 53 ao' n' cap' (fallsV xs n) ∧ Below w.heap.size w w' := by
  have hl := h.length
  have hlen := hg.len
  have hn : (n : Int) ≤ 24 := by omega
  have Hg := Lib.hid hg; clear hg
  have Hl := Lib.hid hl; clear hl
  go_enter Tryd.func34, Tryd.ntmps34
  go_wp2
  go_loopw [3, 9] (fun v i wr => ∃ (k : Nat) (a : Option Addr) (m c : Nat), k ≤ n ∧ i = .int .i64 k ∧ v = .slice a m c ∧ OwnRow w.heap.size wr.heap.size wr 53 a m c (fallsV xs k) ∧ Below w.heap.size w wr) (fun _ i _ => n - (intOf i).toNat)
  case atStart => exact ⟨0, none, 0, 0, Nat.zero_le _, rfl, rfl, OwnRow.nil _ _ _ _, Below.refl _ _⟩
  case round =>
    obtain ⟨k, a, m, c, hk, rfl, rfl, hown, hb⟩ := hrel
    have hm := hown.length
    have hml := fallsT_length xs k
    rw [fallsV_length] at hm
    rw [hm] at hml
    have Hm := Lib.hid hm; clear hm
    by_cases hlt : k < n
    · have hcon := fallAt_in ao n cap xs k wr (h.keep hb) Hg.out hlt
      have hone := fallV_one (decide (k + 1 = n)) k
      cases hs : steepB xs k
      · rw [hs] at hcon
        have e := fallsV_no hs
        generalize fallV (decide (k + 1 = n)) k = fv at *
        have Hcon := Lib.hid hcon; clear hcon
        have Hs := Lib.hid hs; clear hs
        have E := Lib.hid e; clear e
        go_wp2_with fail
        with_reducible refine (Hcon.out).mono ?_
        rintro e w' ⟨rfl, q, rfl⟩
        go_wp2
        go_roundw
        case rel => exact ⟨k + 1, a, m, c, by omega, by go_num, rfl, by rw [E.out]; exact hown, belowDrewN hb q⟩
        case measure => simp [intOf]; omega
      · rw [hs] at hcon
        have e := fallsV_yes hs
        rw [Hl.out] at e
        have hb1 := fun q => belowDrewN hb q
        have hown1 : ∀ q, OwnRow w.heap.size wr.heap.size (wr.drewN q) 53 a m c (fallsV xs k) := fun q => hown
        clear hown hb
        cases hd : decide (k + 1 = n)
        all_goals
          rw [hd] at hcon e hone
          dsimp only [fallV] at hcon e hone
          have Hcon := Lib.hid hcon; clear hcon
          have Hs := Lib.hid hs; clear hs
          have E := Lib.hid e; clear e
          have Hd := Lib.hid hd; clear hd
          have Hone := Lib.hid hone; clear hone
          go_wp2_with fail
          with_reducible refine (Hcon.out).mono ?_
          rintro e w' ⟨rfl, q, rfl⟩
          have hb2 := hb1 q
          have hown2 := hown1 q
          clear hb1 hown1
          go_wp2_with (at_builtin; refine wpList_pushVX (wr.drewN q) rfl _ _ 47 rfl 53 .nilIface 16 Tryd.underlying47 Tryd.infoFall rfl (by decide) w.heap.size wr.heap.size a m c _ rfl hown2 _ Hone.out rfl (by omega) hb2.size ?_)
          intro ao2 cap2 w2 ho2 hc2 _
          have hb3 := hown2.chgBelow hc2 hb2.size
          clear hown2
          go_wp2
          go_roundw
          case rel => exact ⟨k + 1, ao2, _, cap2, by omega, by go_num, rfl, by rw [E.out]; exact ho2, hb2.trans hb3⟩
          case measure => simp [intOf]; omega
    · obtain rfl : n = k := by omega
      go_wp2
      go_ret
      exact ⟨_, _, _, rfl, hown, hb⟩

/-! ### What a fall is asked -/
theorem mColG (v : Value) (w : World) : (method 208 63 v "loop.example/g01114/impl.column").run Tryd.prog w = .ok (80, v) w := by kernel_rfl
theorem mColC (v : Value) (w : World) : (method 208 62 v "loop.example/g01114/impl.column").run Tryd.prog w = .ok (79, v) w := by kernel_rfl
theorem colG_any (i : Int) (w : World) : Calls Tryd.prog 80 #[.int .i64 i] w fun e w' => e = .returned (.int .i64 i) ∧ w = w' := by
  go_enter Tryd.func80, Tryd.ntmps80
  go_wp2
  go_ret
  exact ⟨rfl, rfl⟩
theorem colC_any (i : Int) (w : World) : Calls Tryd.prog 79 #[.int .i64 i] w fun e w' => e = .returned (.int .i64 i) ∧ w = w' := by
  go_enter Tryd.func79, Tryd.ntmps79
  go_wp2
  go_ret
  exact ⟨rfl, rfl⟩
end Go.Proofs.YtdfmljkjidepeaaDoor
