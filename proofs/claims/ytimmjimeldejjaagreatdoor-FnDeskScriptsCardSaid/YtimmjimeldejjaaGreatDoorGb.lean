/- Several texts in one: PileB, PileC, Push, PileD, PileE, PileF. No condition. -/
import Derived.Test.YtimmjimeldejjaaGreatDoorBase
import Derived.Test.YtimmjimeldejjaaGreatDoorGa
import Derived.Test.YtimmjimeldejjaaGreatDoorPileA
import Derived.Test.YtimmjimeldejjaaGreatDoorHelp
import Derived.Laws.CopyOwn
import Derived.Laws.AppendOwnNone
namespace Go.Proofs.YtimmjimeldejjaaGreatDoor
section
open Go.RowKit
set_option linter.unusedVariables false
set_option linter.unusedSimpArgs false

theorem inRange_any (n most : Int) (w : World) :
    Calls Tryz.prog 72 #[.int .i64 n, .int .i64 most] w fun e w' => e = .returned (.bool (decide (0 ≤ n ∧ n ≤ most))) ∧ w = w' := by
  go_enter Tryz.func72, Tryz.ntmps72
  go_wp2
  all_goals (go_ret; exact ⟨by congr 2; simp; omega, rfl⟩)

theorem piCards_any (n : Int) (w : World) :
    Calls Tryz.prog 187 #[.int .i64 n] w fun e w' => e = .returned (.bool (decide (0 ≤ n ∧ n ≤ 28))) ∧ w = w' := by
  go_enter Tryz.func187, Tryz.ntmps187
  go_wp2_with (go_at_call 89; refine (l1In_any _ _ _ _).mono ?_; rintro e w' ⟨rfl, rfl⟩)
  go_ret
  exact ⟨retB (by simp), rfl⟩

theorem inRange_yes (n most : Int) (w : World) (h : 0 ≤ n ∧ n ≤ most) : Calls Tryz.prog 72 #[.int .i64 n, .int .i64 most] w fun e w' => e = .returned (.bool true) ∧ w = w' := by
  have := inRange_any n most w; rw [decide_eq_true h] at this; exact this
theorem inRange_no (n most : Int) (w : World) (h : ¬ (0 ≤ n ∧ n ≤ most)) : Calls Tryz.prog 72 #[.int .i64 n, .int .i64 most] w fun e w' => e = .returned (.bool false) ∧ w = w' := by
  have := inRange_any n most w; rw [decide_eq_false h] at this; exact this
theorem piCards_yes (n : Int) (w : World) (h : 0 ≤ n ∧ n ≤ 28) : Calls Tryz.prog 187 #[.int .i64 n] w fun e w' => e = .returned (.bool true) ∧ w = w' := by
  have := piCards_any n w; rw [decide_eq_true h] at this; exact this
theorem piCards_no (n : Int) (w : World) (h : ¬ (0 ≤ n ∧ n ≤ 28)) : Calls Tryz.prog 187 #[.int .i64 n] w fun e w' => e = .returned (.bool false) ∧ w = w' := by
  have := piCards_any n w; rw [decide_eq_false h] at this; exact this

theorem l1Least_any (a b : Int) (w : World) :
    Calls Tryz.prog 83 #[.int .i64 a, .int .i64 b] w fun e w' => e = .returned (.int .i64 (min a b)) ∧ w = w' := by
  go_enter Tryz.func83, Tryz.ntmps83
  go_wp2
  all_goals (go_ret; exact ⟨retI (by omega), rfl⟩)

/-! ### Heights -/
def mHeightFor (n : Int) : Int × Int × Bool := if 0 ≤ n ∧ n ≤ 28 then (hgt n.toNat, n - tri (hgt n.toNat), true) else (0, 0, false)

set_option maxHeartbeats 1600000 in
theorem impl_HeightFor (n : Int) (w : World) :
    Calls Tryz.prog 162 #[.int .i64 n] w fun e w' => e = .returned (.tuple #[.int .i64 (mHeightFor n).1, .int .i64 (mHeightFor n).2.1, .bool (mHeightFor n).2.2]) ∧ Below w.heap.size w w' := by
  by_cases hn : 0 ≤ n ∧ n ≤ 28
  · have hin := hn
    obtain ⟨m, rfl⟩ := Int.eq_ofNat_of_zero_le hn.1
    have hm : mHeightFor m = (((hgt m : Nat) : Int), (m : Int) - ((tri (hgt m) : Nat) : Int), true) := by unfold mHeightFor; rw [if_pos hn]; rfl
    have hm28 : m ≤ 28 := by omega
    have Hn := Lib.hid hn; clear hn
    have Hm := Lib.hid hm; clear hm
    have Hin := Lib.hid hin; clear hin
    go_enter Tryz.func162, Tryz.ntmps162
    go_wp2_with (go_at_call 72; refine (inRange_yes _ _ _ Hin.out).mono ?_; rintro e w' ⟨rfl, rfl⟩)
    go_loop [5, 6] (fun h l => ∃ k : Nat, k ≤ 7 ∧ k ≤ hgt m ∧ h = .int .i64 k ∧ l = .int .i64 ((m : Int) - tri k)) (fun h _ => 7 - (intOf h).toNat)
    case atStart => exact ⟨0, by omega, by omega, rfl, by simp [tri]⟩
    case round =>
      obtain ⟨k, hk, hkn, rfl, rfl⟩ := hrel
      have hh := hgt_le m
      have h8 : k = 0 ∨ k = 1 ∨ k = 2 ∨ k = 3 ∨ k = 4 ∨ k = 5 ∨ k = 6 ∨ k = 7 := by omega
      rcases h8 with rfl | rfl | rfl | rfl | rfl | rfl | rfl | rfl
      · rw [show ((tri 0 : Nat) : Int) = 0 from rfl]
        go_wp2
        · have hc := hgt_cases m hm28
          go_round
          case rel => exact ⟨1, by omega, by omega, rfl, valI (by have e : ((tri 1 : Nat) : Int) = 1 := rfl; omega)⟩
          case measure => simp [intOf]
        · have hc := hgt_cases m hm28
          have hk' : hgt m = 0 := by omega
          go_ret3
          rw [Hm.out, hk']
          exact ⟨retIIB rfl rfl rfl, Below.refl _ _⟩
      · rw [show ((tri 1 : Nat) : Int) = 1 from rfl]
        go_wp2
        · have hc := hgt_cases m hm28
          go_round
          case rel => exact ⟨2, by omega, by omega, rfl, valI (by have e : ((tri 2 : Nat) : Int) = 3 := rfl; omega)⟩
          case measure => simp [intOf]
        · have hc := hgt_cases m hm28
          have hk' : hgt m = 1 := by omega
          go_ret3
          rw [Hm.out, hk']
          exact ⟨retIIB rfl rfl rfl, Below.refl _ _⟩
      · rw [show ((tri 2 : Nat) : Int) = 3 from rfl]
        go_wp2
        · have hc := hgt_cases m hm28
          go_round
          case rel => exact ⟨3, by omega, by omega, rfl, valI (by have e : ((tri 3 : Nat) : Int) = 6 := rfl; omega)⟩
          case measure => simp [intOf]
        · have hc := hgt_cases m hm28
          have hk' : hgt m = 2 := by omega
          go_ret3
          rw [Hm.out, hk']
          exact ⟨retIIB rfl rfl rfl, Below.refl _ _⟩
      · rw [show ((tri 3 : Nat) : Int) = 6 from rfl]
        go_wp2
        · have hc := hgt_cases m hm28
          go_round
          case rel => exact ⟨4, by omega, by omega, rfl, valI (by have e : ((tri 4 : Nat) : Int) = 10 := rfl; omega)⟩
          case measure => simp [intOf]
        · have hc := hgt_cases m hm28
          have hk' : hgt m = 3 := by omega
          go_ret3
          rw [Hm.out, hk']
          exact ⟨retIIB rfl rfl rfl, Below.refl _ _⟩
      · rw [show ((tri 4 : Nat) : Int) = 10 from rfl]
        go_wp2
        · have hc := hgt_cases m hm28
          go_round
          case rel => exact ⟨5, by omega, by omega, rfl, valI (by have e : ((tri 5 : Nat) : Int) = 15 := rfl; omega)⟩
          case measure => simp [intOf]
        · have hc := hgt_cases m hm28
          have hk' : hgt m = 4 := by omega
          go_ret3
          rw [Hm.out, hk']
          exact ⟨retIIB rfl rfl rfl, Below.refl _ _⟩
      · rw [show ((tri 5 : Nat) : Int) = 15 from rfl]
        go_wp2
        · have hc := hgt_cases m hm28
          go_round
          case rel => exact ⟨6, by omega, by omega, rfl, valI (by have e : ((tri 6 : Nat) : Int) = 21 := rfl; omega)⟩
          case measure => simp [intOf]
        · have hc := hgt_cases m hm28
          have hk' : hgt m = 5 := by omega
          go_ret3
          rw [Hm.out, hk']
          exact ⟨retIIB rfl rfl rfl, Below.refl _ _⟩
      · rw [show ((tri 6 : Nat) : Int) = 21 from rfl]
        go_wp2
        · have hc := hgt_cases m hm28
          go_round
          case rel => exact ⟨7, by omega, by omega, rfl, valI (by have e : ((tri 7 : Nat) : Int) = 28 := rfl; omega)⟩
          case measure => simp [intOf]
        · have hc := hgt_cases m hm28
          have hk' : hgt m = 6 := by omega
          go_ret3
          rw [Hm.out, hk']
          exact ⟨retIIB rfl rfl rfl, Below.refl _ _⟩
      · rw [show ((tri 7 : Nat) : Int) = 28 from rfl]
        go_wp2
        · have hc := hgt_cases m hm28
          have hk' : hgt m = 7 := by omega
          go_ret3
          rw [Hm.out, hk']
          exact ⟨retIIB rfl rfl rfl, Below.refl _ _⟩
  · have hin := hn
    have hm : mHeightFor n = (0, 0, false) := by unfold mHeightFor; rw [if_neg hn]
    have Hn := Lib.hid hn; clear hn
    have Hm := Lib.hid hm; clear hm
    have Hin := Lib.hid hin; clear hin
    go_enter Tryz.func162, Tryz.ntmps162
    go_wp2_with (go_at_call 72; refine (inRange_no _ _ _ Hin.out).mono ?_; rintro e w' ⟨rfl, rfl⟩)
    go_ret3
    rw [Hm.out]
    exact ⟨rfl, Below.refl _ _⟩

end
end Go.Proofs.YtimmjimeldejjaaGreatDoor
namespace Go.Proofs.YtimmjimeldejjaaGreatDoor
section
open Go.RowKit
set_option linter.unusedVariables false
set_option linter.unusedSimpArgs false

theorem getD_cells {B E w g n cap xs} (h : Own B E w (some ⟨g, 0, none⟩) n cap xs) (i : Nat) (hi : i < n) : w.cell? ⟨g, i, none⟩ = some (.int .i64 (xs.getD i 0)) := by
  have h1 := World.ownsRow.cellAt h.1 i (by omega)
  have hl := h.length
  rw [h1, List.getElem?_map, List.getElem?_eq_getElem (by omega), List.getD_eq_getElem?_getD, List.getElem?_eq_getElem (by omega)]
  rfl
theorem Own.set {B E w g n cap xs} (h : Own B E w (some ⟨g, 0, none⟩) n cap xs) (i : Nat) (x : Int) :
    Own B E (w.setCell ⟨g, i, none⟩ (.int .i64 x)) (some ⟨g, 0, none⟩) n cap (xs.set i x) ∧ w.grownBy (w.setCell ⟨g, i, none⟩ (.int .i64 x)) (some g) := by
  obtain ⟨h1, h2⟩ := World.ownsRow.stored h.1 i (.int .i64 x)
  exact ⟨⟨by rw [List.map_set]; exact h1, h.2⟩, h2⟩
theorem Own.frozenAt {B E w g n cap xs} (h : Own B E w (some ⟨g, 0, none⟩) n cap xs) (i : Nat) : w.frozen? ⟨g, i, none⟩ = false := World.ownsRow.frozenAt h.1 i
theorem Own.drewN {B E w ao n cap xs} (h : Own B E w ao n cap xs) (q : Nat) : Own B E (w.drewN q) ao n cap xs := h
theorem Own.drew {B E w ao n cap xs} (h : Own B E w ao n cap xs) : Own B E w.drew ao n cap xs := h


/-! ### Staircases -/
def stairs (k : Nat) : List Int := (List.range k).map fun i => ((k - i : Nat) : Int)
theorem stairs_length (k : Nat) : (stairs k).length = k := by simp [stairs]
def mStaircase (k : Int) : List Int × Bool := if 0 ≤ k ∧ k ≤ 7 then (stairs k.toNat, true) else ([], false)
end
end Go.Proofs.YtimmjimeldejjaaGreatDoor
namespace Go.Proofs.YtimmjimeldejjaaGreatDoor
section
open Go.RowKit
set_option linter.unusedVariables false
set_option maxRecDepth 20000
set_option linter.unusedSimpArgs false

/-- one element is appended: it lies in a block of its own, laid just before -/
theorem wpList_pushV {ops : Array Oper} {rest : List Oper} {o : Oper} {a : Act} {Q : Exit → Act → World → Prop} (w : World) (hgd : o.guard = none) (s x : Operand) (t : TypeId)
    (ho : o.op = .call { callee := .builtin .append, args := #[s, x], argTypes := #[t, t] }) (ty : TypeId) (z : Value) (bytes : Nat)
    (ht : Tryz.prog.underlying t = some (.slice ty)) (hinfo : (Tryz.prog.info? ty).map (fun i => (i.zero, i.size, i.bytes)) = some (some z, 1, bytes)) (hzs : z.cells.size = 1) (hbytes : bytes ≤ 1024)
    (B E : Nat) (ao : Option Addr) (n cap : Nat) (vs : List Value) (hs : a.eval s = .slice ao n cap) (hown : OwnRow B E w ty ao n cap vs) (y : Value) (h1 : y.oneCell' = true)
    (hx : a.eval x = .slice (some ⟨w.heap.size, 0, none⟩) 1 1) (hn : n ≤ 67108864) (hB : B ≤ w.heap.size)
    (h : ∀ ao' cap' w', OwnRow B w'.heap.size w' ty ao' (n + 1) cap' (vs ++ [y]) → Chg (fun k => (Value.slice ao n cap).ownBlock = some k) w w' → wpList Tryz.prog ops Q rest (a.put o.dst (.slice ao' (n + 1) cap')) w') :
    wpList Tryz.prog ops Q (o :: rest) a (w.alloc (.cells #[y] ty)) := by
  obtain ⟨i0, hi, hz0, hz1, hz2⟩ := info_parts hinfo
  refine wpList_append_own _ hgd s x t ho B ty i0 z 1 bytes ht hi hz0 hz1 hz2 hzs (by decide) _ n vs hs (hown.1.alloc _) ⟨w.heap.size, 0, none⟩ 1 1 [y] hx rfl ?_ ?_ ?_ ?_ (by simp; omega) ?_
  · intro j u hu
    cases j with
    | zero =>
      simp only [List.getElem?_cons_zero, Option.some.injEq] at hu
      subst hu
      rw [Addr.add_lit, World.cell?_alloc_at _ _ _ _ rfl]
      rfl
    | succ j => simp at hu
  · intro u hu
    rw [List.mem_singleton.1 hu]; exact h1
  · unfold maxLen; omega
  · have : (n + 1) * bytes ≤ 67108865 * 1024 := Nat.mul_le_mul (by omega) hbytes
    omega
  · intro v' w1 hown' hgrow hnil
    have hv : ∃ ao' cap', v' = .slice ao' (n + 1) cap' := by
      rcases hown'.2 with ⟨e, hz⟩ | ⟨g, c, cur, e, _⟩
      · omega
      · exact ⟨_, _, e⟩
    obtain ⟨ao', cap', rfl⟩ := hv
    refine h ao' cap' w1 (OwnRow.of hown') ?_
    have hc := Chg.ofGrown hgrow
    refine ⟨hc.os, hc.tape, hc.output, Nat.le_trans (by simp) hc.size, fun k hk hs' => ?_⟩
    rw [hc.block k (by simp; omega) (fun e => hs' e.symm), Below.heap_alloc w _ k hk]

theorem wpList_push {ops : Array Oper} {rest : List Oper} {o : Oper} {a : Act} {Q : Exit → Act → World → Prop} (w : World) (hgd : o.guard = none) (s x : Operand)
    (ho : o.op = .call { callee := .builtin .append, args := #[s, x], argTypes := #[24, 24] })
    (B E : Nat) (ao : Option Addr) (n cap : Nat) (xs : List Int) (hs : a.eval s = .slice ao n cap) (hown : Own B E w ao n cap xs) (y : Int)
    (hx : a.eval x = .slice (some ⟨w.heap.size, 0, none⟩) 1 1) (hn : n ≤ 67108864) (hB : B ≤ w.heap.size)
    (h : ∀ ao' cap' w', Own B w'.heap.size w' ao' (n + 1) cap' (xs ++ [y]) → Chg (fun k => (Value.slice ao n cap).ownBlock = some k) w w' → wpList Tryz.prog ops Q rest (a.put o.dst (.slice ao' (n + 1) cap')) w') :
    wpList Tryz.prog ops Q (o :: rest) a (w.alloc (.cells #[.int .i64 y] 3)) :=
  wpList_pushV w hgd s x 24 ho 3 _ 8 Tryz.underlying24 Tryz.infoInt rfl (by decide) B E ao n cap _ hs hown _ rfl hx hn hB (fun ao' cap' w' ho' hc => h ao' cap' w' (by unfold Own; rw [List.map_append]; exact ho') hc)

/-- what alone changes is the row itself: below B all stays -/
theorem Own.chgBelow {B E w w' ao n cap xs} (h : Own B E w ao n cap xs) (hc : Chg (fun k => (Value.slice ao n cap).ownBlock = some k) w w') (hB : B ≤ w.heap.size) : Below B w w' :=
  hc.below hB (fun k hk => (h.1.lt k hk).1)
theorem OwnRow.chgBelow {B E w w' ty ao n cap vs} (h : OwnRow B E w ty ao n cap vs) (hc : Chg (fun k => (Value.slice ao n cap).ownBlock = some k) w w') (hB : B ≤ w.heap.size) : Below B w w' :=
  hc.below hB (fun k hk => (h.1.lt k hk).1)

/-- append of all of a slice of ints -/
theorem wpList_cat {ops : Array Oper} {rest : List Oper} {o : Oper} {a : Act} {Q : Exit → Act → World → Prop} (w : World) (hgd : o.guard = none) (s x : Operand)
    (ho : o.op = .call { callee := .builtin .append, args := #[s, x], argTypes := #[24, 24] })
    (B E : Nat) (ao : Option Addr) (n cap : Nat) (xs : List Int) (hs : a.eval s = .slice ao n cap) (hown : Own B E w ao n cap xs)
    (a2 : Option Addr) (m c : Nat) (ys : List Int) (hx : a.eval x = .slice a2 m c) (hy : IntsAt w a2 m c ys) (hn : n + m ≤ 67108864) (hB : B ≤ w.heap.size)
    (h : ∀ ao' cap' w', Own B w'.heap.size w' ao' (n + m) cap' (xs ++ ys) → Chg (fun k => (Value.slice ao n cap).ownBlock = some k) w w' → wpList Tryz.prog ops Q rest (a.put o.dst (.slice ao' (n + m) cap')) w') :
    wpList Tryz.prog ops Q (o :: rest) a w := by
  obtain ⟨i0, hi, hz0, hz1, hz2⟩ := info_parts Tryz.infoInt
  cases a2 with
  | none =>
    obtain ⟨rfl, rfl⟩ := hy.isNil rfl
    have hys : ys = [] := List.eq_nil_of_length_eq_zero hy.length
    subst hys
    refine wpList_append_own_none hgd s x _ ho B 3 i0 1 Tryz.underlying24 hi _ n _ hs hown.1 hx ?_
    have := h ao cap w (by rw [List.append_nil]; exact Own.of hown.1) (Chg.refl _ _)
    exact this
  | some ad =>
    refine wpList_append_own _ hgd s x _ ho B 3 i0 _ 1 8 Tryz.underlying24 hi hz0 hz1 hz2 rfl (by decide) _ n _ hs hown.1 ad m c (ys.map (Value.int .i64)) hx (by simp; exact hy.length) ?_ (ints_oneCell _ _) ?_ ?_ hB ?_
    · intro j u hu
      have hj : j < m := by
        have := (List.getElem?_eq_some_iff.1 hu).1
        simpa [hy.length] using this
      obtain ⟨b, oo, e, _, hc⟩ := hy.cell j hj
      simp only [Option.some.injEq] at e
      subst e
      rw [Addr.add_lit, hc j hj]
      have hl := hy.length
      rw [List.getElem?_map, List.getElem?_eq_getElem (by omega)] at hu
      simp only [Option.map_some, Option.some.injEq] at hu
      rw [← hu, List.getD_eq_getElem?_getD, List.getElem?_eq_getElem (by omega)]
      rfl
    · unfold maxLen; omega
    · omega
    · intro v' w1 hown' hgrow hnil
      have hv : ∃ ao' cap', v' = .slice ao' (n + m) cap' := by
        rcases hown'.2 with ⟨e, hz⟩ | ⟨g, c, cur, e, _⟩
        · exact ⟨none, 0, by rw [e, hz]⟩
        · exact ⟨_, _, e⟩
      obtain ⟨ao', cap', rfl⟩ := hv
      refine h ao' cap' w1 (Own.of (by rw [List.map_append]; exact hown')) ?_
      have hc := Chg.ofGrown hgrow
      exact hc.mono (fun k hk => hk.symm)

/-- the empty row that '[]int{}' makes -/
theorem Own.empty (w : World) : Own w.heap.size (w.alloc (.cells #[] 3)).heap.size (w.alloc (.cells #[] 3)) (some ⟨w.heap.size, 0, none⟩) 0 0 [] :=
  Own.of (World.ownsRow_made w #[] 0 (Nat.le_refl _) (Nat.zero_le _) rfl)

/-- copy of all of a slice into a row of the call's own that is as long -/
theorem wpList_copyAll {ops : Array Oper} {rest : List Oper} {o : Oper} {a : Act} {Q : Exit → Act → World → Prop} (w : World) (hgd : o.guard = none) (d s : Operand)
    (ho : o.op = .call { callee := .builtin .copy, args := #[d, s], argTypes := #[24, 24] })
    (B E g n cap : Nat) (xs : List Int) (hd : a.eval d = .slice (some ⟨g, 0, none⟩) n cap) (hown : Own B E w (some ⟨g, 0, none⟩) n cap xs)
    (ad : Addr) (c : Nat) (ys : List Int) (hs : a.eval s = .slice (some ad) n c) (hy : IntsAt w (some ad) n c ys)
    (h : ∀ w', Own B E w' (some ⟨g, 0, none⟩) n cap ys → Chg (fun k => k = g) w w' → wpList Tryz.prog ops Q rest (a.put o.dst (.int .i64 n)) w') :
    wpList Tryz.prog ops Q (o :: rest) a w := by
  have hl := hy.length
  rcases hown.1.2 with ⟨hv, _⟩ | ⟨g', c', cur, hv, hg, hh, hnc, hcm, hcs, htake⟩
  · simp at hv
  simp only [Value.slice.injEq, Option.some.injEq, Addr.mk.injEq, and_true, true_and] at hv
  obtain ⟨rfl, rfl⟩ := hv
  refine wpList_copy_own hgd d s 24 24 ho 3 Tryz.underlying24 (by kernel_rfl) g 0 n cap ad n c hd hs cur 3 hh (ys.map (Value.int .i64)) (by simp [hl]) ?_ (by simp [hl]; omega) (ints_oneCell _ _) ?_
  · intro j u hu
    have hj : j < n := by
      have := (List.getElem?_eq_some_iff.1 hu).1
      simpa [hl] using this
    obtain ⟨b, oo, e, _, hc⟩ := hy.cell j hj
    simp only [Option.some.injEq] at e
    subst e
    rw [Addr.add_lit, hc j hj]
    rw [List.getElem?_map, List.getElem?_eq_getElem (by omega)] at hu
    simp only [Option.map_some, Option.some.injEq] at hu
    rw [← hu, List.getD_eq_getElem?_getD, List.getElem?_eq_getElem (by omega)]
    rfl
  · have hr := h (w.setRow g (cur.toList.take 0 ++ ((ys.map (Value.int .i64)) ++ cur.toList.drop (0 + (ys.map (Value.int .i64)).length))).toArray) ?_ ?_
    · have e : goInt (ys.map (Value.int .i64)).length = .int .i64 n := by simp [goInt, hl]
      rw [e]
      exact hr
    · refine ⟨⟨by simp [hl], .inr ⟨g, cap, _, rfl, hg, setRow_heap w g cur _ 3 _ hh, hnc, hcm, ?_, ?_⟩⟩, hown.2⟩
      · simp [hl]; omega
      · simp [hl]
    · exact ⟨rfl, rfl, rfl, by simp [World.setRow], fun k _ hk => setRow_other w g k _ (fun e => hk (by simp [e]))⟩

/-! ### Parts of a slice -/
theorem IntsAt.drop {w ao n cap xs} (h : IntsAt w ao n cap xs) (lo : Nat) (hlo : lo ≤ n) : IntsAt w (if cap = lo then ao else ao.map (·.add (lo * 1))) (n - lo) (cap - lo) (xs.drop lo) := by
  have hl := h.length
  have hle := h.le
  refine ⟨by simp; omega, by omega, Nat.le_trans (Nat.sub_le _ _) h.max, fun e => ?_, fun j hj => ?_⟩
  · have : ao = none := by
      by_cases hc : cap = lo
      · rwa [if_pos hc] at e
      · rw [if_neg hc] at e; simpa using e
    obtain ⟨rfl, rfl⟩ := h.isNil this
    omega
  · obtain ⟨b, oo, rfl, hb, hc⟩ := h.cell lo (by omega)
    refine ⟨b, oo + lo, ?_, hb, fun i hi => ?_⟩
    · rw [if_neg (by omega)]
      simp only [Option.map_some, Nat.mul_one, Addr.add_lit]
    · have := hc (lo + i) (by omega)
      rw [Nat.add_assoc, this, List.getD_eq_getElem?_getD, List.getD_eq_getElem?_getD, List.getElem?_drop]
theorem IntsAt.take {w ao n cap xs} (h : IntsAt w ao n cap xs) (hi : Nat) (hhi : hi ≤ n) : IntsAt w (if cap = 0 then ao else ao.map (·.add (0 * 1))) hi cap (xs.take hi) := by
  have hl := h.length
  have hle := h.le
  refine ⟨by simp; omega, by omega, h.max, fun e => ?_, fun j hj => ?_⟩
  · have : ao = none := by
      by_cases hc : cap = 0
      · rwa [if_pos hc] at e
      · rw [if_neg hc] at e; simpa using e
    obtain ⟨rfl, rfl⟩ := h.isNil this
    omega
  · obtain ⟨b, oo, rfl, hb, hc⟩ := h.cell j (by omega)
    refine ⟨b, oo, ?_, hb, fun i hi' => ?_⟩
    · rw [if_neg (by omega)]
      simp only [Option.map_some, Nat.zero_mul, Addr.add_lit]; rfl
    · rw [hc i (by omega), List.getD_eq_getElem?_getD, List.getD_eq_getElem?_getD, List.getElem?_take, if_pos hi']

theorem sizeInt (w : World) : (sizeOf (Tryz.prog.elem 24)).run Tryz.prog w = .ok 1 w := by kernel_rfl

theorem slFrom {ao n cap} (w0 : World) (xs : List Int) (h : IntsAt w0 ao n cap xs) (lo : Nat) (hlo : lo ≤ n) (k : IntKind) : ∃ a2, (∀ w : World, (Instr.sliceAt 24 (.slice ao n cap) (some (.int k (lo : Int))) none none).run Tryz.prog w = .ok (.slice a2 (n - lo) (cap - lo)) w) ∧ IntsAt w0 a2 (n - lo) (cap - lo) (xs.drop lo) := by
  refine ⟨if cap = lo then ao else ao.map (·.add (lo * 1)), fun w => ?_, h.drop lo hlo⟩
  have hrun := run_slice_l (P := Tryz.prog) (w := w) 24 ao n cap Tryz.underlying24 k (lo : Int) (by omega) (by omega)
  rw [sizeInt] at hrun
  rw [run_sliceAt_slice _ _ _ _ _ _ Tryz.underlying24, hrun]
  simp [Result.andThen, sliced]
theorem slUpto {ao n cap} (w0 : World) (xs : List Int) (h : IntsAt w0 ao n cap xs) (hi : Nat) (hhi : hi ≤ n) (k : IntKind) : ∃ a2, (∀ w : World, (Instr.sliceAt 24 (.slice ao n cap) none (some (.int k (hi : Int))) none).run Tryz.prog w = .ok (.slice a2 hi cap) w) ∧ IntsAt w0 a2 hi cap (xs.take hi) := by
  refine ⟨if cap = 0 then ao else ao.map (·.add (0 * 1)), fun w => ?_, h.take hi hhi⟩
  have hrun := run_slice_h (P := Tryz.prog) (w := w) 24 ao n cap Tryz.underlying24 k (hi : Int) (by omega) (by have := h.le; omega)
  rw [sizeInt] at hrun
  rw [run_sliceAt_slice _ _ _ _ _ _ Tryz.underlying24, hrun]
  simp [Result.andThen, sliced]

/-- append of a slice of ints, at a step of a region that draws its order -/
theorem step_cat {ops : Array Oper} {o : Oper} {a : Act} {K : Act → World → Prop} {Q : Exit → Act → World → Prop} {E0 : Prop} (w : World) (hgd : o.guard = none) (s x : Operand)
    (ho : o.op = .call { callee := .builtin .append, args := #[s, x], argTypes := #[24, 24] })
    (B E : Nat) (ao : Option Addr) (n cap : Nat) (xs : List Int) (hs : a.eval s = .slice ao n cap) (hown : Own B E w ao n cap xs)
    (a2 : Option Addr) (m c : Nat) (ys : List Int) (hx : a.eval x = .slice a2 m c) (hy : IntsAt w a2 m c ys) (hn : n + m ≤ 67108864) (hB : B ≤ w.heap.size)
    (h : ∀ ao' cap' w', Own B w'.heap.size w' ao' (n + m) cap' (xs ++ ys) → Chg (fun k => (Value.slice ao n cap).ownBlock = some k) w w' → K (a.put o.dst (.slice ao' (n + m) cap')) w') :
    if Region.wanted o (yielded ops a.tmps) = true then Oper.wp Tryz.prog o a w K Q else E0 := by
  have hw : Region.wanted o (yielded ops a.tmps) = true := by simp [Region.wanted, hgd]
  rw [if_pos hw]
  obtain ⟨i0, hi, hz0, hz1, hz2⟩ := info_parts Tryz.infoInt
  cases a2 with
  | none =>
    obtain ⟨rfl, rfl⟩ := hy.isNil rfl
    have hys : ys = [] := List.eq_nil_of_length_eq_zero hy.length
    subst hys
    have hrun := run_append_owned_none (P := Tryz.prog) (w := w) B 24 o.type 3 i0 1 Tryz.underlying24 hi _ n _ hown.1
    unfold Oper.wp
    simp [execOp, ho, resolve, invoke, builtin, hs, hx, hrun, Result.andThen]
    have := h ao cap w (by rw [List.append_nil]; exact Own.of hown.1) (Chg.refl _ _)
    exact this
  | some ad =>
    refine wp_append_own w s x _ ho B 3 i0 _ 1 8 Tryz.underlying24 hi hz0 hz1 hz2 rfl (by decide) _ n _ hs hown.1 ad m c (ys.map (Value.int .i64)) hx (by simp; exact hy.length) ?_ (ints_oneCell _ _) ?_ ?_ hB ?_
    · intro j u hu
      have hj : j < m := by
        have := (List.getElem?_eq_some_iff.1 hu).1
        simpa [hy.length] using this
      obtain ⟨b, oo, e, _, hc⟩ := hy.cell j hj
      simp only [Option.some.injEq] at e
      subst e
      rw [Addr.add_lit, hc j hj]
      have hl := hy.length
      rw [List.getElem?_map, List.getElem?_eq_getElem (by omega)] at hu
      simp only [Option.map_some, Option.some.injEq] at hu
      rw [← hu, List.getD_eq_getElem?_getD, List.getElem?_eq_getElem (by omega)]
      rfl
    · unfold maxLen; omega
    · omega
    · intro v' w1 hown' hgrow hnil
      have hv : ∃ ao' cap', v' = .slice ao' (n + m) cap' := by
        rcases hown'.2 with ⟨e, hz⟩ | ⟨g, c, cur, e, _⟩
        · exact ⟨none, 0, by rw [e, hz]⟩
        · exact ⟨_, _, e⟩
      obtain ⟨ao', cap', rfl⟩ := hv
      refine h ao' cap' w1 (Own.of (by rw [List.map_append]; exact hown')) ?_
      exact (Chg.ofGrown hgrow).mono (fun k hk => hk.symm)

/-- the same, the frame carried along -/
theorem step_catB {ops : Array Oper} {o : Oper} {a : Act} {K : Act → World → Prop} {Q : Exit → Act → World → Prop} {E0 : Prop} (w0 w : World) (hgd : o.guard = none) (s x : Operand)
    (ho : o.op = .call { callee := .builtin .append, args := #[s, x], argTypes := #[24, 24] })
    (E : Nat) (ao : Option Addr) (n cap : Nat) (xs : List Int) (hs : a.eval s = .slice ao n cap)
    (a2 : Option Addr) (m c : Nat) (ys : List Int) (hx : a.eval x = .slice a2 m c) (hacc : Below w0.heap.size w0 w) (hown : Own w0.heap.size E w ao n cap xs) (hy : IntsAt w a2 m c ys) (hn : n + m ≤ 67108864)
    (h : ∀ ao' cap' w', Own w0.heap.size w'.heap.size w' ao' (n + m) cap' (xs ++ ys) → Below w0.heap.size w0 w' → K (a.put o.dst (.slice ao' (n + m) cap')) w') :
    if Region.wanted o (yielded ops a.tmps) = true then Oper.wp Tryz.prog o a w K Q else E0 :=
  step_cat w hgd s x ho w0.heap.size E ao n cap xs hs hown a2 m c ys hx hy hn hacc.size (fun ao' cap' w' h1 h2 => h ao' cap' w' h1 (hacc.trans (Own.chgBelow hown h2 hacc.size)))

theorem wpList_pushR {ops : Array Oper} {rest : List Oper} {o : Oper} {a : Act} {Q : Exit → Act → World → Prop} (w : World) (hgd : o.guard = none) (s x : Operand)
    (ho : o.op = .call { callee := .builtin .append, args := #[s, x], argTypes := #[185, 185] })
    (B E : Nat) (ao : Option Addr) (n cap : Nat) (xss : List (List Int)) (hs : a.eval s = .slice ao n cap) (hown : OwnRows B E w ao n cap xss) (hE : E ≤ w.heap.size)
    (a2 : Option Addr) (m c C : Nat) (ys : List Int) (hy : Own C w.heap.size w a2 m c ys) (hC : B ≤ C) (hap : ∀ g, (Value.slice a2 m c).ownBlock = some g → E ≤ g)
    (hx : a.eval x = .slice (some ⟨w.heap.size, 0, none⟩) 1 1) (hn : n ≤ 67108864) (hB : B ≤ w.heap.size)
    (h : ∀ ao' cap' w', OwnRows B w'.heap.size w' ao' (n + 1) cap' (xss ++ [ys]) → Chg (fun k => (Value.slice ao n cap).ownBlock = some k) w w' → wpList Tryz.prog ops Q rest (a.put o.dst (.slice ao' (n + 1) cap')) w') :
    wpList Tryz.prog ops Q (o :: rest) a (w.alloc (.cells #[.slice a2 m c] 24)) := by
  obtain ⟨vs, h1, h2, h3, h4⟩ := hown
  refine wpList_pushV w hgd s x 185 ho 24 _ 24 Tryz.underlying185 Tryz.infoInts rfl (by decide) B E ao n cap vs hs h1 _ rfl hx hn hB (fun ao' cap' w' ho' hc => h ao' cap' w' ?_ hc)
  have hl := h1.length
  have hty : ∀ {k ty A N K V}, OwnRow B w.heap.size w ty A N K V → (Value.slice A N K).ownBlock = some k → (Value.slice ao n cap).ownBlock = some k → ty = 24 := by
    intro k ty A N K V hr e1 e2
    rcases hr.1.2 with ⟨hv, _⟩ | ⟨g', c', cur, hv, _, hh, _⟩
    · rw [hv] at e1; simp [Value.ownBlock] at e1
    · rcases h1.1.2 with ⟨hv', _⟩ | ⟨g2, c2, cur2, hv', _, hh2, _⟩
      · rw [hv'] at e2; simp [Value.ownBlock] at e2
      · rw [hv] at e1; rw [hv'] at e2; simp [Value.ownBlock] at e1 e2; subst e1; subst e2; rw [hh] at hh2; simp at hh2; exact hh2.2
  refine ⟨vs ++ [.slice a2 m c], ho', by simp; exact h2, fun i hi => ?_, fun i j hij hj => ?_⟩
  · by_cases hin : i < n
    · obtain ⟨a', m', c', e, ho⟩ := h3 i hin
      refine ⟨a', m', c', ?_, ?_⟩
      · rw [List.getD_eq_getElem?_getD, List.getElem?_append_left (by omega), ← List.getD_eq_getElem?_getD]; exact e
      · rw [List.getD_eq_getElem?_getD, List.getElem?_append_left (by omega), ← List.getD_eq_getElem?_getD]
        refine Own.mono (Own.chg ho hc fun g _ _ hg hs' => ?_) (Nat.le_refl _) (Nat.le_trans hE hc.size)
        have := hty (ho.mono (Nat.le_refl _) hE) hg hs'
        exact absurd this (by decide)
    · obtain rfl : i = n := by omega
      refine ⟨a2, m, c, ?_, ?_⟩
      · rw [List.getD_eq_getElem?_getD, List.getElem?_append_right (by omega), hl]; simp
      · rw [List.getD_eq_getElem?_getD, List.getElem?_append_right (by omega), h2]
        simp only [Nat.sub_self, List.getElem?_cons_zero, Option.getD_some]
        refine Own.mono (Own.chg hy hc fun g _ _ hg hs' => ?_) hC hc.size
        have := hty (hy.mono hC (Nat.le_refl _)) hg hs'
        exact absurd this (by decide)
  · by_cases hjn : j < n
    · rw [List.getD_eq_getElem?_getD, List.getElem?_append_left (by omega), ← List.getD_eq_getElem?_getD, List.getD_eq_getElem?_getD (i := j), List.getElem?_append_left (by omega), ← List.getD_eq_getElem?_getD]
      exact h4 i j hij hjn
    · obtain rfl : j = n := by omega
      obtain ⟨a', m', c', e, ho⟩ := h3 i hij
      rw [List.getD_eq_getElem?_getD, List.getElem?_append_left (by omega), ← List.getD_eq_getElem?_getD, e, List.getD_eq_getElem?_getD, List.getElem?_append_right (by omega), hl]
      simp only [Nat.sub_self, List.getElem?_cons_zero, Option.getD_some]
      unfold apart
      rcases Own.cases ho with ⟨rfl, _⟩ | ⟨g, rfl, _, hgE, _⟩
      · exact .inl rfl
      · refine .inr fun hh => ?_
        have := hap g hh.symm
        omega
end
end Go.Proofs.YtimmjimeldejjaaGreatDoor
namespace Go.Proofs.YtimmjimeldejjaaGreatDoor
section
open Go.RowKit
set_option linter.unusedVariables false
set_option linter.unusedSimpArgs false

theorem fill_set (xs : List Int) (k n : Nat) (x : Int) (hx : xs.getD k 0 = x) (hk : k < n) (hl : xs.length = n) :
    (xs.take k ++ List.replicate (n - k) 0).set k x = xs.take (k + 1) ++ List.replicate (n - (k + 1)) 0 := by
  subst hx
  apply List.ext_getElem
  · simp; omega
  · intro i h1 h2
    simp at h1
    rw [List.getElem_set]
    split
    · next h => subst h; simp [List.getElem_append, List.getElem_take, show k < min (k+1) xs.length by omega, List.getD_eq_getElem?_getD, show k < xs.length by omega]
    · next h =>
      simp only [List.getElem_append, List.length_take, List.getElem_take, List.getElem_replicate]
      by_cases hi : i < k
      · simp [show i < min k xs.length by omega, show i < min (k+1) xs.length by omega]
      · simp [show ¬ i < min k xs.length by omega, show ¬ i < min (k+1) xs.length by omega]
theorem fill_all (xs : List Int) (n : Nat) (hl : xs.length = n) : xs.take n ++ List.replicate (n - n) 0 = xs := by
  simp [List.take_of_length_le (Nat.le_of_eq hl)]

theorem stairs_getD (k i : Nat) (h : i < k) : (stairs k).getD i 0 = (k : Int) - i := by
  unfold stairs
  rw [List.getD_eq_getElem?_getD, List.getElem?_map, List.getElem?_range h]
  simp; omega

set_option maxHeartbeats 800000 in
theorem piStairs_any (k : Nat) (w : World) (hk : k ≤ 7) :
    Calls Tryz.prog 181 #[.int .i64 k] w fun e w' => ∃ ao cap, e = .returned (.slice ao k cap) ∧ Own w.heap.size w'.heap.size w' ao k cap (stairs k) ∧ Below w.heap.size w w' := by
  go_enter Tryz.func181, Tryz.ntmps181
  go_wp2
  go_loopw [0, 3] (fun q v wr => ∃ j ao cap, j ≤ k ∧ q = .int .i64 ((k : Int) - (j : Nat)) ∧ v = .slice ao j cap ∧ Own w.heap.size wr.heap.size wr ao j cap ((stairs k).take j) ∧ Below w.heap.size w wr) (fun q _ _ => (intOf q).toNat)
  case atStart => exact ⟨0, none, 0, Nat.zero_le _, by simp, rfl, Own.nil _ _ _, Below.refl _ _⟩
  case round =>
    obtain ⟨j, ao, cap, hj, rfl, rfl, hown, hb⟩ := hrel
    by_cases hlt : j < k
    · have hx := stairs_getD k j hlt
      have htk := take_snoc hx hlt (stairs_length k)
      have Hx := Lib.hid hx; clear hx
      have Htk := Lib.hid htk; clear htk
      go_wp2_with (at_builtin; refine wpList_push wr rfl _ _ rfl w.heap.size wr.heap.size ao j cap _ rfl hown _ rfl (by omega) hb.size ?_)
      intro ao' cap' w1 ho1 hc1
      have hb1 := hown.chgBelow hc1 hb.size
      clear hown
      go_wp2
      go_roundw
      case rel => exact ⟨j + 1, ao', cap', by omega, valI (by omega), rfl, by rw [Htk.out]; exact ho1, hb.trans hb1⟩
      case measure => simp [intOf]; omega
    · go_wp2
      go_ret
      obtain rfl : k = j := by omega
      rw [take_all (stairs_length k)] at hown
      exact ⟨ao, cap, rfl, hown, hb⟩

theorem spec_Staircase (k : Int) (w : World) :
    Calls Tryz.prog 131 #[.int .i64 k] w fun e w' => ∃ ao n cap, e = .returned (.tuple #[.slice ao n cap, .bool (mStaircase k).2]) ∧ Own w.heap.size w'.heap.size w' ao n cap (mStaircase k).1 ∧ Below w.heap.size w w' := by
  by_cases hn : 0 ≤ k ∧ k ≤ 7
  · have hin := decide_eq_true hn
    obtain ⟨m, rfl⟩ := Int.eq_ofNat_of_zero_le hn.1
    have hm : mStaircase m = (stairs m, true) := by unfold mStaircase; rw [if_pos hn]; rfl
    have hcon : Calls Tryz.prog 89 #[.int .i64 m, .int .i64 0, .int .i64 7] w fun e w' => e = .returned (.bool true) ∧ w = w' := by
      have := l1In_any m 0 7 w; rw [hin] at this; exact this
    have Hn := Lib.hid hn; clear hn
    have Hm := Lib.hid hm; clear hm
    have Hin := Lib.hid hin; clear hin
    have Hcon := Lib.hid hcon; clear hcon
    go_enter Tryz.func131, Tryz.ntmps131
    go_wp2_with (first | (go_at_call 89; refine (Hcon.out).mono ?_; rintro e w' ⟨rfl, rfl⟩) | (go_at_call 181; refine (piStairs_any m _ (by have := Hn.out; omega)).mono ?_; rintro e w' ⟨ao, cap, rfl, ho, hb⟩))
    go_ret2
    rw [Hm.out]
    exact ⟨ao, _, cap, rfl, ho, hb⟩
  · have hin := decide_eq_false hn
    have hm : mStaircase k = ([], false) := by unfold mStaircase; rw [if_neg hn]
    have hcon : Calls Tryz.prog 89 #[.int .i64 k, .int .i64 0, .int .i64 7] w fun e w' => e = .returned (.bool false) ∧ w = w' := by
      have := l1In_any k 0 7 w; rw [hin] at this; exact this
    have Hn := Lib.hid hn; clear hn
    have Hm := Lib.hid hm; clear hm
    have Hin := Lib.hid hin; clear hin
    have Hcon := Lib.hid hcon; clear hcon
    go_enter Tryz.func131, Tryz.ntmps131
    go_wp2_with (go_at_call 89; refine (Hcon.out).mono ?_; rintro e w' ⟨rfl, rfl⟩)
    go_ret2
    rw [Hm.out]
    exact ⟨none, 0, 0, rfl, Own.nil _ _ _, Below.refl _ _⟩

set_option maxHeartbeats 800000 in
theorem impl_Staircase (k : Int) (w : World) :
    Calls Tryz.prog 103 #[.int .i64 k] w fun e w' => ∃ ao n cap, e = .returned (.tuple #[.slice ao n cap, .bool (mStaircase k).2]) ∧ Own w.heap.size w'.heap.size w' ao n cap (mStaircase k).1 ∧ Below w.heap.size w w' := by
  have hhf : ∀ w : World, Calls Tryz.prog 162 #[.int .i64 28] w fun e w' => e = .returned (.tuple #[.int .i64 7, .int .i64 0, .bool true]) ∧ Below w.heap.size w w' := fun w => impl_HeightFor 28 w
  have Hhf := Lib.hid hhf; clear hhf
  by_cases hn : 0 ≤ k ∧ k ≤ 7
  · obtain ⟨m, rfl⟩ := Int.eq_ofNat_of_zero_le hn.1
    have hm : mStaircase m = (stairs m, true) := by unfold mStaircase; rw [if_pos hn]; rfl
    have hm7 : m ≤ 7 := by omega
    have Hn := Lib.hid hn; clear hn
    have Hm := Lib.hid hm; clear hm
    obtain ⟨i0, hi, hz0, hz1, hz2⟩ := info_parts Tryz.infoInt
    go_enter Tryz.func103, Tryz.ntmps103
    go_wp2_with (first | (go_at_call 162; refine (Hhf.out _).mono ?_; rintro e w1 ⟨rfl, hb1⟩) | (go_at_call 72; refine (inRange_yes _ _ _ Hn.out).mono ?_; rintro e w' ⟨rfl, rfl⟩) | (at_make; refine wpList_make_full w1 rfl _ _ _ rfl w1.heap.size 3 i0 _ 1 Tryz.underlying24 hi hz0 hz1 _ _ _ _ m rfl rfl rfl rfl ?_ ?_ (Nat.le_refl _) ?_))
    · rw [hz2]; omega
    · unfold maxLen; omega
    · intro w2 hown hgrow
      rw [madeZeros] at hown
      have ho : Own w1.heap.size w2.heap.size w2 (some ⟨w1.heap.size, 0, none⟩) m m (List.replicate m 0) := Own.of hown
      have hb2 : Below w.heap.size w w2 := belowTrans hb1 ((Below.refl _ _).grown hgrow (Nat.le_refl _) (fun k hk => by cases hk)) (Nat.le_refl _)
      have hsz := hb1.size
      clear hown hgrow hi hz0 hz1 hz2 hb1
      generalize hBe : w1.heap.size = B at *
      have HBe := Lib.hid hBe; clear hBe
      go_wp2
      go_loopw [22] (fun i wr => ∃ j : Nat, j ≤ m ∧ i = .int .i64 j ∧ Own B w2.heap.size wr (some ⟨B, 0, none⟩) m m ((stairs m).take j ++ List.replicate (m - j) 0) ∧ Below w.heap.size w wr ∧ w2.heap.size ≤ wr.heap.size) (fun i _ => m - (intOf i).toNat)
      case atStart => exact ⟨0, Nat.zero_le _, rfl, by simpa using ho, hb2, Nat.le_refl _⟩
      case round =>
        obtain ⟨j, hj, rfl, hown, hb, hsz2⟩ := hrel
        by_cases hlt : j < m
        · have hfz := hown.frozenAt j
          have hcell := getD_cells hown j hlt
          have hst := hown.set j ((m : Int) - j)
          rw [fill_set (stairs m) j m _ (stairs_getD m j hlt) hlt (stairs_length m)] at hst
          generalize ((stairs m).take j ++ List.replicate (m - j) 0).getD j 0 = y at *
          have Hst := Lib.hid hst; clear hst
          have Hown := Lib.hid hown; clear hown
          clear ho hb2
          go_wp2
          go_roundw
          case rel => exact ⟨j + 1, by omega, by go_num, Hst.out.1, hb.setCell hsz _, Nat.le_trans hsz2 (Hst.out.2).size⟩
          case measure => simp [intOf]; omega
        · go_wp2
          go_ret2
          obtain rfl : m = j := by omega
          rw [fill_all _ _ (stairs_length m)] at hown
          rw [Hm.out]
          exact ⟨_, _, _, rfl, hown.mono hsz hsz2, hb⟩
  · have hm : mStaircase k = ([], false) := by unfold mStaircase; rw [if_neg hn]
    have Hn := Lib.hid hn; clear hn
    have Hm := Lib.hid hm; clear hm
    go_enter Tryz.func103, Tryz.ntmps103
    go_wp2_with (first | (go_at_call 162; refine (Hhf.out _).mono ?_; rintro e w1 ⟨rfl, hb1⟩) | (go_at_call 72; refine (inRange_no _ _ _ Hn.out).mono ?_; rintro e w' ⟨rfl, rfl⟩))
    go_ret2
    rw [Hm.out]
    exact ⟨none, 0, 0, rfl, Own.nil _ _ _, hb1⟩
end
end Go.Proofs.YtimmjimeldejjaaGreatDoor
namespace Go.Proofs.YtimmjimeldejjaaGreatDoor
section
open Go.RowKit
set_option linter.unusedVariables false
set_option linter.unusedSimpArgs false

theorem belowAlloc (w : World) (o : Obj) : Below w.heap.size w (w.alloc o) := (Below.refl _ _).alloc (Nat.le_refl _) o

set_option maxHeartbeats 800000 in
theorem l1Own_any (ao : Option Addr) (n cap : Nat) (xs : List Int) (w : World) (h : IntsAt w ao n cap xs) (hn : n ≤ 1048576) :
    Calls Tryz.prog 42 #[.slice ao n cap] w fun e w' => ∃ ao' cap', e = .returned (.slice ao' n cap') ∧ Own w.heap.size w'.heap.size w' ao' n cap' xs ∧ Below w.heap.size w w' := by
  have h1 := h.keep (belowAlloc w (.cells #[] 3))
  have he := Own.empty w
  go_enter Tryz.func42, Tryz.ntmps42
  go_wp2_with (at_builtin; refine wpList_cat _ rfl _ _ rfl w.heap.size _ _ 0 0 [] rfl he ao n cap xs rfl h1 (by omega) (by simp) ?_)
  intro ao' cap' w1 ho hc
  have hb := he.chgBelow hc (by simp)
  try simp only [Nat.zero_add, List.nil_append] at ho ⊢
  go_wp2
  go_ret
  exact ⟨_, _, rfl, ho, (belowAlloc w _).trans hb⟩

set_option maxHeartbeats 800000 in
theorem copyOf_any (ao : Option Addr) (n cap : Nat) (xs : List Int) (w : World) (h : IntsAt w ao n cap xs) (hn : n ≤ 1048576) :
    Calls Tryz.prog 37 #[.slice ao n cap] w fun e w' => ∃ ao' cap', e = .returned (.slice ao' n cap') ∧ Own w.heap.size w'.heap.size w' ao' n cap' xs ∧ Below w.heap.size w w' := by
  obtain ⟨i0, hi, hz0, hz1, hz2⟩ := info_parts Tryz.infoInt
  have hn' : (n : Int) ≤ 1048576 := by omega
  by_cases hz : n = 0
  · subst hz
    have hxs : xs = [] := List.eq_nil_of_length_eq_zero h.length
    subst hxs
    go_enter Tryz.func37, Tryz.ntmps37
    go_wp2_with (at_make; refine wpList_make_full w rfl _ _ _ rfl w.heap.size 3 i0 _ 1 Tryz.underlying24 hi hz0 hz1 _ _ _ _ 0 rfl rfl rfl rfl (by omega) (Nat.zero_le _) (Nat.le_refl _) ?_)
    intro w1 hown hgrow
    have ho : Own w.heap.size w1.heap.size w1 (some ⟨w.heap.size, 0, none⟩) 0 0 [] := Own.of (by simpa [madeCells] using hown)
    have hb1 : Below w.heap.size w w1 := (Below.refl _ _).grown hgrow (Nat.le_refl _) (fun k hk => by cases hk)
    clear hown hgrow
    generalize hBe : w.heap.size = B at *
    have HBe := Lib.hid hBe; clear hBe
    go_wp2_with (first | (refine wpList_copy_nothing rfl _ _ _ _ rfl 3 Tryz.underlying24 (by kernel_rfl) _ _ _ _ _ _ rfl rfl (by simp) ?_))
    go_ret
    exact ⟨_, _, rfl, HBe.out ▸ ho, HBe.out ▸ hb1⟩
  · obtain ⟨b, oo, rfl, hb, hc⟩ := h.cell 0 (by omega)
    clear hc
    go_enter Tryz.func37, Tryz.ntmps37
    go_wp2_with (at_make; refine wpList_make_full w rfl _ _ _ rfl w.heap.size 3 i0 _ 1 Tryz.underlying24 hi hz0 hz1 _ _ _ _ n rfl rfl rfl rfl ?_ ?_ (Nat.le_refl _) ?_)
    · rw [hz2]; omega
    · unfold maxLen; omega
    intro w1 hown hgrow
    rw [madeZeros] at hown
    have ho : Own w.heap.size w1.heap.size w1 (some ⟨w.heap.size, 0, none⟩) n n (List.replicate n 0) := Own.of hown
    have hb1 : Below w.heap.size w w1 := (Below.refl _ _).grown hgrow (Nat.le_refl _) (fun k hk => by cases hk)
    have hx := h.keep hb1
    clear hown hgrow hi hz0 hz1 hz2 h
    generalize hBe : w.heap.size = B at *
    have HBe := Lib.hid hBe; clear hBe
    go_wp2_with (refine wpList_copyAll w1 rfl _ _ rfl B _ B n n _ rfl ho ⟨b, oo, none⟩ cap xs rfl hx ?_)
    intro w2 ho2 hc2
    have hb2 : Below B w w2 := hb1.trans (hc2.below (by have := ho.1.lt B rfl; omega) (fun k hk => by omega))
    go_wp2
    go_ret
    exact ⟨_, _, rfl, HBe.out ▸ ho2.mono (Nat.le_refl _) hc2.size, HBe.out ▸ hb2⟩
end
end Go.Proofs.YtimmjimeldejjaaGreatDoor
namespace Go.Proofs.YtimmjimeldejjaaGreatDoor
section
open Go.RowKit
set_option linter.unusedVariables false
set_option linter.unusedSimpArgs false

theorem isPiles_yes (ao : Option Addr) (n cap : Nat) (xs : List Int) (w : World) (h : IntsAt w ao n cap xs) (hg : Good xs) :
    Calls Tryz.prog 14 #[.slice ao n cap] w fun e w' => e = .returned (.bool true) ∧ w = w' := by
  have := isPiles_any ao n cap xs w h; rw [good_iff.2 hg] at this; exact this
theorem isPiles_no (ao : Option Addr) (n cap : Nat) (xs : List Int) (w : World) (h : IntsAt w ao n cap xs) (hg : goodB xs = false) :
    Calls Tryz.prog 14 #[.slice ao n cap] w fun e w' => e = .returned (.bool false) ∧ w = w' := by
  have := isPiles_any ao n cap xs w h; rw [hg] at this; exact this
theorem piGood_yes (ao : Option Addr) (n cap : Nat) (xs : List Int) (w : World) (h : IntsAt w ao n cap xs) (hg : Good xs) :
    Calls Tryz.prog 39 #[.slice ao n cap] w fun e w' => e = .returned (.bool true) ∧ w = w' := by
  have := piGood_any ao n cap xs w h; rw [good_iff.2 hg] at this; exact this
theorem piGood_no (ao : Option Addr) (n cap : Nat) (xs : List Int) (w : World) (h : IntsAt w ao n cap xs) (hg : goodB xs = false) :
    Calls Tryz.prog 39 #[.slice ao n cap] w fun e w' => e = .returned (.bool false) ∧ w = w' := by
  have := piGood_any ao n cap xs w h; rw [hg] at this; exact this

set_option maxHeartbeats 1600000 in
theorem piSide_any (ao : Option Addr) (n cap : Nat) (xs : List Int) (w : World) (h : IntsAt w ao n cap xs) (hg : Good xs) :
    Calls Tryz.prog 178 #[.slice ao n cap] w fun e w' => ∃ ao' n' cap', e = .returned (.slice ao' n' cap') ∧ Own w.heap.size w'.heap.size w' ao' n' cap' (sideL xs) ∧ Below w.heap.size w w' := by
  have hlen := hg.len
  have hl0 := h.length
  by_cases hz : n = 0
  · have hxs : xs = [] := List.eq_nil_of_length_eq_zero (by omega)
    subst hz
    subst hxs
    go_enter Tryz.func178, Tryz.ntmps178
    go_wp2
    go_loop [3, 4] (fun v i => v = .slice none 0 0 ∧ i = .int .i64 0) (fun _ _ => 0)
    case atStart => exact ⟨rfl, rfl⟩
    case round =>
      obtain ⟨rfl, rfl⟩ := hrel
      go_wp2
      go_ret
      exact ⟨none, 0, 0, rfl, Own.nil _ _ _, Below.refl _ _⟩
  · have hn : (n : Int) ≤ 28 := by omega
    have hn0 : (0 : Int) < n := by omega
    have hh := hg.head
    generalize hm : (xs.headD 0).toNat = m at *
    have hm28 : m ≤ 28 := by omega
    have hx0 : xs.getD 0 0 = (m : Int) := by rw [← head_getD]; omega
    have Hm := Lib.hid hm; clear hm
    have Hg := Lib.hid hg; clear hg
    have Hx0 := Lib.hid hx0; clear hx0
    have Hh := Lib.hid hh; clear hh
    have Hl0 := Lib.hid hl0; clear hl0
    go_enter Tryz.func178, Tryz.ntmps178
    go_wp2
    go_loopw [3, 4] (fun v i wr => ∃ j ao' cap', j ≤ m ∧ i = .int .i64 (j : Nat) ∧ v = .slice ao' j cap' ∧ Own w.heap.size wr.heap.size wr ao' j cap' ((sideL xs).take j) ∧ Below w.heap.size w wr) (fun _ i _ => m - (intOf i).toNat)
    case atStart => exact ⟨0, none, 0, Nat.zero_le _, rfl, rfl, Own.nil _ _ _, Below.refl _ _⟩
    case round =>
      obtain ⟨j, ao', cap', hj, rfl, rfl, hown, hb⟩ := hrel
      have h1 := h.keep hb
      obtain ⟨b, oo, rfl, hbl, hc⟩ := h1.cell 0 (by omega)
      have hc0 := hc 0 (by omega)
      rw [Hx0.out] at hc0
      simp only [Nat.add_zero] at hc0
      by_cases hlt : j < m
      · have Hc := Lib.hid hc; clear hc
        go_wp2
        clear hc0
        go_loop [5, 22] (fun c i => ∃ k : Nat, k ≤ n ∧ i = .int .i64 k ∧ c = .int .i64 (above (xs.take k) j : Nat)) (fun _ i => n - (intOf i).toNat)
        case atStart => exact ⟨0, Nat.zero_le _, rfl, rfl⟩
        case round =>
          obtain ⟨k, hk, rfl, rfl⟩ := hrel
          by_cases hlt2 : k < n
          · have hck := Hc.out k hlt2
            generalize hx : xs.getD k 0 = x at hck
            have e := take_snoc hx hlt2 Hl0.out
            have ha := above_snoc (xs.take k) x j
            rw [← e] at ha
            have hle := above_le (xs.take k) j
            have hle2 : (xs.take k).length ≤ 28 := by have := Hg.out.len; simp; omega
            generalize above (xs.take k) (j : Int) = q at *
            generalize hr : above (xs.take (k + 1)) (j : Int) = r at *
            have Hx := Lib.hid hx; clear hx
            have Ha := Lib.hid ha; clear ha
            have Hr := Lib.hid hr; clear hr
            have E := Lib.hid e; clear e
            go_wp2
            · have h3 := Ha.out
              rw [if_pos (by omega)] at h3
              go_round
              case rel => exact ⟨k + 1, by omega, by go_num, by rw [Hr.out]; exact valI (by omega)⟩
              case measure => simp [intOf]; omega
            · have h3 := Ha.out
              rw [if_neg (by omega)] at h3
              go_round
              case rel => exact ⟨k + 1, by omega, by go_num, by rw [Hr.out]; exact valI (by omega)⟩
              case measure => simp [intOf]; omega
          · have hkn : k = n := by omega
            have e : xs.take k = xs := take_all (by rw [Hl0.out, hkn])
            rw [e]
            clear hkn e
            have hsd := sideL_getD xs j (by rw [Hm.out]; exact hlt)
            have htk := take_snoc hsd hlt (by rw [sideL_length, Hm.out])
            have Hsd := Lib.hid hsd; clear hsd
            have Htk := Lib.hid htk; clear htk
            go_wp2_with (at_builtin; refine wpList_push wr rfl _ _ rfl w.heap.size wr.heap.size ao' j cap' _ rfl hown _ rfl (by omega) hb.size ?_)
            intro ao2 cap2 w1 ho1 hc1
            have hb1 := hown.chgBelow hc1 hb.size
            clear hown
            go_wp2
            go_roundw
            case rel => exact ⟨j + 1, ao2, cap2, by omega, by go_num, rfl, by rw [Htk.out]; exact ho1, hb.trans hb1⟩
            case measure => simp [intOf]; omega
      · clear hc
        go_wp2
        go_ret
        obtain rfl : m = j := by omega
        rw [take_all (by rw [sideL_length, Hm.out])] at hown
        exact ⟨ao', _, cap', rfl, hown, hb⟩

theorem spec_SideOf (ao : Option Addr) (n cap : Nat) (xs : List Int) (w : World) (h : IntsAt w ao n cap xs) :
    Calls Tryz.prog 129 #[.slice ao n cap] w fun e w' => ∃ ao' n' cap', e = .returned (.tuple #[.slice ao' n' cap', .bool (mSideOf xs).2]) ∧ Own w.heap.size w'.heap.size w' ao' n' cap' (mSideOf xs).1 ∧ Below w.heap.size w w' := by
  cases hg : goodB xs
  · have hm : mSideOf xs = ([], false) := by unfold mSideOf; rw [hg]; rfl
    have Hg := Lib.hid hg; clear hg
    have Hm := Lib.hid hm; clear hm
    go_enter Tryz.func129, Tryz.ntmps129
    go_wp2_with (go_at_call 39; refine (piGood_no _ _ _ _ _ h Hg.out).mono ?_; rintro e w' ⟨rfl, rfl⟩)
    go_ret2
    rw [Hm.out]
    exact ⟨none, 0, 0, rfl, Own.nil _ _ _, Below.refl _ _⟩
  · have hm : mSideOf xs = (sideL xs, true) := by unfold mSideOf; rw [hg]; rfl
    have Hg := Lib.hid hg; clear hg
    have Hm := Lib.hid hm; clear hm
    go_enter Tryz.func129, Tryz.ntmps129
    go_wp2_with (first | (go_at_call 39; refine (piGood_yes _ _ _ _ _ h (good_iff.1 Hg.out)).mono ?_; rintro e w' ⟨rfl, rfl⟩) | (go_at_call 178; refine (piSide_any _ _ _ _ _ h (good_iff.1 Hg.out)).mono ?_; rintro e w' ⟨ao', n', cap', rfl, ho, hb⟩))
    go_ret2
    rw [Hm.out]
    exact ⟨_, _, _, rfl, ho, hb⟩

set_option maxHeartbeats 1600000 in
theorem impl_SideOf (ao : Option Addr) (n cap : Nat) (xs : List Int) (w : World) (h : IntsAt w ao n cap xs) :
    Calls Tryz.prog 100 #[.slice ao n cap] w fun e w' => ∃ ao' n' cap', e = .returned (.tuple #[.slice ao' n' cap', .bool (mSideOf xs).2]) ∧ Own w.heap.size w'.heap.size w' ao' n' cap' (mSideOf xs).1 ∧ Below w.heap.size w w' := by
  cases hg : goodB xs
  · have hm : mSideOf xs = ([], false) := by unfold mSideOf; rw [hg]; rfl
    have Hg := Lib.hid hg; clear hg
    have Hm := Lib.hid hm; clear hm
    go_enter Tryz.func100, Tryz.ntmps100
    go_wp2_with (go_at_call 14; refine (isPiles_no _ _ _ _ _ h Hg.out).mono ?_; rintro e w' ⟨rfl, rfl⟩)
    go_ret2
    rw [Hm.out]
    exact ⟨none, 0, 0, rfl, Own.nil _ _ _, Below.refl _ _⟩
  · have hr : mSideOf xs = (sideL xs, true) := by unfold mSideOf; rw [hg]; rfl
    have hG := good_iff.1 hg
    have hlen := hG.len
    have hl0 := h.length
    have hh := hG.head
    have Hg := Lib.hid hg; clear hg
    have Hr := Lib.hid hr; clear hr
    by_cases hz : n = 0
    · have hxs : xs = [] := List.eq_nil_of_length_eq_zero (by omega)
      subst hz
      subst hxs
      go_enter Tryz.func100, Tryz.ntmps100
      go_wp2_with (go_at_call 14; refine (isPiles_yes _ _ _ _ _ h hG).mono ?_; rintro e w' ⟨rfl, rfl⟩)
      go_ret2
      rw [Hr.out]
      exact ⟨_, _, _, rfl, Own.empty w, belowAlloc w _⟩
    · have hn : (n : Int) ≤ 28 := by omega
      have hne : ((n : Int) == 0) = false := by simp; omega
      obtain ⟨i0, hi, hz0, hz1, hz2⟩ := info_parts Tryz.infoInt
      generalize hm : (xs.headD 0).toNat = m at *
      have hm28 : m ≤ 28 := by omega
      have hx0 : xs.getD 0 0 = (m : Int) := by rw [← head_getD]; omega
      have hle : ∀ x ∈ xs, 1 ≤ x ∧ x ≤ m := fun x hx => ⟨(hG.mem hx).1, by have := good_le_head hG hx; omega⟩
      have hl1 := Lib.hid hl0
      obtain ⟨b, oo, rfl, hbl, hc⟩ := h.cell 0 (by omega)
      have hc0 := hc 0 (by omega)
      rw [hx0] at hc0
      simp only [Nat.add_zero] at hc0
      clear hc hl0
      have Hm := Lib.hid hm; clear hm
      have HG := Lib.hid hG; clear hG
      have Hx0 := Lib.hid hx0; clear hx0
      have Hh := Lib.hid hh; clear hh
      have Hle := Lib.hid hle; clear hle
      go_enter Tryz.func100, Tryz.ntmps100
      go_wp2_with (first | (go_at_call 14; refine (isPiles_yes _ _ _ _ _ h HG.out).mono ?_; rintro e w' ⟨rfl, rfl⟩) | (at_make; refine wpList_make_full w rfl _ _ _ rfl w.heap.size 3 i0 _ 1 Tryz.underlying24 hi hz0 hz1 _ _ _ _ m rfl rfl rfl rfl ?_ ?_ (Nat.le_refl _) ?_))
      · rw [hz2]; omega
      · unfold maxLen; omega
      intro w1 hown hgrow
      rw [madeZeros, sideT_zero xs m] at hown
      have ho : Own w.heap.size w1.heap.size w1 (some ⟨w.heap.size, 0, none⟩) m m (sideT xs m 0 0) := Own.of hown
      have hb1 : Below w.heap.size w w1 := (Below.refl _ _).grown hgrow (Nat.le_refl _) (fun k hk => by cases hk)
      clear hown hgrow hi hz0 hz1 hz2 hc0
      generalize hBe : w.heap.size = B at *
      have HBe := Lib.hid hBe; clear hBe
      go_wp2
      go_loopw [21] (fun i wr => ∃ j : Nat, j ≤ n ∧ i = .int .i64 j ∧ Own B w1.heap.size wr (some ⟨B, 0, none⟩) m m (sideT xs m j 0) ∧ Below B w wr ∧ w1.heap.size ≤ wr.heap.size) (fun i _ => n - (intOf i).toNat)
      case atStart => exact ⟨0, Nat.zero_le _, rfl, ho, hb1, Nat.le_refl _⟩
      case round =>
        obtain ⟨j, hj, rfl, hown, hb, hsz⟩ := hrel
        clear ho hb1
        by_cases hlt : j < n
        · have h1 := h.below hb (by intro b' o' e; cases e; have := HBe.out; omega)
          obtain ⟨b', oo', e', hbl', hc⟩ := h1.cell j hlt
          cases e'
          have hck := hc j hlt
          clear hc h1
          generalize hx : xs.getD j 0 = x at hck
          have hxm := Hle.out x (getD_mem hx hlt hl1.out)
          have Hx := Lib.hid hx; clear hx
          go_wp2
          go_loopw [26] (fun i wq => ∃ k : Nat, (k : Int) ≤ x ∧ i = .int .i64 k ∧ Own B w1.heap.size wq (some ⟨B, 0, none⟩) m m (sideT xs m j k) ∧ Below B w wq ∧ w1.heap.size ≤ wq.heap.size) (fun i _ => (x - intOf i).toNat)
          case atStart => exact ⟨0, by omega, rfl, hown, hb, hsz⟩
          case round =>
            obtain ⟨k, hk, rfl, hoq, hbq, hszq⟩ := hrel
            clear hown hb hsz hck
            by_cases hlt2 : (k : Int) < x
            · have hcell := getD_cells hoq k (by omega)
              rw [sideT_getD xs m j k k (by omega), if_neg (by omega)] at hcell
              simp only [Nat.add_zero] at hcell
              have hfz := hoq.frozenAt k
              have hal := above_le (xs.take j) k
              have hal2 : (xs.take j).length ≤ 28 := by have := HG.out.len; simp; omega
              have hst := hoq.set k (((above (xs.take j) k : Nat) : Int) + 1)
              rw [sideT_set xs m j k (by omega) _ rfl] at hst
              generalize above (xs.take j) (k : Int) = q at *
              have Hst := Lib.hid hst; clear hst
              have Hoq := Lib.hid hoq; clear hoq
              go_wp2
              go_roundw
              case rel => exact ⟨k + 1, by omega, by go_num, Hst.out.1, hbq.setCell (Nat.le_refl _) _, Nat.le_trans hszq (Hst.out.2).size⟩
              case measure => simp [intOf]; omega
            · obtain rfl : x = k := by omega
              have hnext := sideT_next xs m j n (k : Int) hlt hl1.out Hx.out (by omega)
              simp only [Int.toNat_natCast] at hnext
              rw [hnext] at hoq
              clear hnext
              go_wp2
              go_roundw
              case rel => exact ⟨j + 1, by omega, by go_num, hoq, hbq, hszq⟩
              case measure => simp [intOf]; omega
        · go_wp2
          go_ret2
          obtain rfl : n = j := by omega
          have e := sideT_all xs n hl1.out
          rw [Hm.out] at e
          rw [e] at hown
          obtain rfl := HBe.out
          rw [Hr.out]
          exact ⟨_, _, _, rfl, hown.mono (Nat.le_refl _) hsz, hb⟩
end
end Go.Proofs.YtimmjimeldejjaaGreatDoor
