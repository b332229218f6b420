/- Several texts in one: PileB, PileC, Push, PileD, PileE, PileF. No condition. -/
import Derived.Test.YtdfmljkjidepeaaGreatDoorBase
import Derived.Test.YtdfmljkjidepeaaGreatDoorGa
import Derived.Test.YtdfmljkjidepeaaGreatDoorPileA
import Derived.Test.YtdfmljkjidepeaaGreatDoorHelp
import Derived.Laws.CopyOwn
import Derived.Laws.AppendOwnNone
namespace Go.Proofs.YtdfmljkjidepeaaGreatDoor
section
open Go.RowKit
set_option linter.unusedVariables false
set_option linter.unusedSimpArgs false

theorem inRange_any (n most : Int) (w : World) :
    Calls Tryz.prog 78 #[.int .i64 n, .int .i64 most] w fun e w' => e = .returned (.bool (decide (0 ≤ n ∧ n ≤ most))) ∧ w = w' := by
  go_enter Tryz.func78, Tryz.ntmps78
  go_wp2
  all_goals (go_ret; exact ⟨by congr 2; simp; omega, rfl⟩)

theorem inRange_yes (n most : Int) (w : World) (h : 0 ≤ n ∧ n ≤ most) : Calls Tryz.prog 78 #[.int .i64 n, .int .i64 most] w fun e w' => e = .returned (.bool true) ∧ w = w' := by
  have := inRange_any n most w; rw [decide_eq_true h] at this; exact this
theorem inRange_no (n most : Int) (w : World) (h : ¬ (0 ≤ n ∧ n ≤ most)) : Calls Tryz.prog 78 #[.int .i64 n, .int .i64 most] w fun e w' => e = .returned (.bool false) ∧ w = w' := by
  have := inRange_any n most w; rw [decide_eq_false h] at this; exact this
theorem l1Least_any (a b : Int) (w : World) :
    Calls Tryz.prog 61 #[.int .i64 a, .int .i64 b] w fun e w' => e = .returned (.int .i64 (min a b)) ∧ w = w' := by
  go_enter Tryz.func61, Tryz.ntmps61
  go_wp2
  all_goals (go_ret; exact ⟨retI (by omega), rfl⟩)

/-! ### Heights -/
def mHeightFor (n : Int) : Int × Int × Bool := if 0 ≤ n ∧ n ≤ 28 then (hgt n.toNat, n - tri (hgt n.toNat), true) else (0, 0, false)

end
end Go.Proofs.YtdfmljkjidepeaaGreatDoor
namespace Go.Proofs.YtdfmljkjidepeaaGreatDoor
section
open Go.RowKit
set_option linter.unusedVariables false
set_option linter.unusedSimpArgs false

theorem getD_cells {B E w g n cap xs} (h : Own B E w (some ⟨g, 0, none⟩) n cap xs) (i : Nat) (hi : i < n) : w.cell? ⟨g, i, none⟩ = some (.int .i64 (xs.getD i 0)) := by
  have h1 := World.ownsRow.cellAt h.1 i (by omega)
  have hl := h.length
  rw [h1, List.getElem?_map, List.getElem?_eq_getElem (by omega), List.getD_eq_getElem?_getD, List.getElem?_eq_getElem (by omega)]
  rfl
theorem Own.set {B E w g n cap xs} (h : Own B E w (some ⟨g, 0, none⟩) n cap xs) (i : Nat) (x : Int) :
    Own B E (w.setCell ⟨g, i, none⟩ (.int .i64 x)) (some ⟨g, 0, none⟩) n cap (xs.set i x) ∧ w.grownBy (w.setCell ⟨g, i, none⟩ (.int .i64 x)) (some g) := by
  obtain ⟨h1, h2⟩ := World.ownsRow.stored h.1 i (.int .i64 x)
  exact ⟨⟨by rw [List.map_set]; exact h1, h.2⟩, h2⟩
theorem Own.frozenAt {B E w g n cap xs} (h : Own B E w (some ⟨g, 0, none⟩) n cap xs) (i : Nat) : w.frozen? ⟨g, i, none⟩ = false := World.ownsRow.frozenAt h.1 i
theorem Own.drewN {B E w ao n cap xs} (h : Own B E w ao n cap xs) (q : Nat) : Own B E (w.drewN q) ao n cap xs := h
theorem Own.drew {B E w ao n cap xs} (h : Own B E w ao n cap xs) : Own B E w.drew ao n cap xs := h


def mCountPiles (n : Int) : Int × Bool := if 0 ≤ n ∧ n ≤ 28 then (cnt n.toNat n.toNat, true) else (0, false)
/-! ### Staircases -/
def stairs (k : Nat) : List Int := (List.range k).map fun i => ((k - i : Nat) : Int)
theorem stairs_length (k : Nat) : (stairs k).length = k := by simp [stairs]
def mStaircase (k : Int) : List Int × Bool := if 0 ≤ k ∧ k ≤ 7 then (stairs k.toNat, true) else ([], false)
theorem mStaircase_bound (k : Int) : (mStaircase k).1.length ≤ 1048576 := by
  unfold mStaircase
  split
  · simp [stairs]; omega
  · simp
end
end Go.Proofs.YtdfmljkjidepeaaGreatDoor
namespace Go.Proofs.YtdfmljkjidepeaaGreatDoor
section
open Go.RowKit
set_option linter.unusedVariables false
set_option maxRecDepth 20000
set_option linter.unusedSimpArgs false

/-- one element is appended: it lies in a block of its own, laid just before -/
theorem wpList_pushV {ops : Array Oper} {rest : List Oper} {o : Oper} {a : Act} {Q : Exit → Act → World → Prop} (w : World) (hgd : o.guard = none) (s x : Operand) (t : TypeId)
    (ho : o.op = .call { callee := .builtin .append, args := #[s, x], argTypes := #[t, t] }) (ty : TypeId) (z : Value) (bytes : Nat)
    (ht : Tryz.prog.underlying t = some (.slice ty)) (hinfo : (Tryz.prog.info? ty).map (fun i => (i.zero, i.size, i.bytes)) = some (some z, 1, bytes)) (hzs : z.cells.size = 1) (hbytes : bytes ≤ 1024)
    (B E : Nat) (ao : Option Addr) (n cap : Nat) (vs : List Value) (hs : a.eval s = .slice ao n cap) (hown : OwnRow B E w ty ao n cap vs) (y : Value) (h1 : y.oneCell' = true)
    (hx : a.eval x = .slice (some ⟨w.heap.size, 0, none⟩) 1 1) (hn : n ≤ 67108864) (hB : B ≤ w.heap.size)
    (h : ∀ ao' cap' w', OwnRow B w'.heap.size w' ty ao' (n + 1) cap' (vs ++ [y]) → Chg (fun k => (Value.slice ao n cap).ownBlock = some k) w w' → wpList Tryz.prog ops Q rest (a.put o.dst (.slice ao' (n + 1) cap')) w') :
    wpList Tryz.prog ops Q (o :: rest) a (w.alloc (.cells #[y] ty)) := by
  obtain ⟨i0, hi, hz0, hz1, hz2⟩ := info_parts hinfo
  refine wpList_append_own _ hgd s x t ho B ty i0 z 1 bytes ht hi hz0 hz1 hz2 hzs (by decide) _ n vs hs (hown.1.alloc _) ⟨w.heap.size, 0, none⟩ 1 1 [y] hx rfl ?_ ?_ ?_ ?_ (by simp; omega) ?_
  · intro j u hu
    cases j with
    | zero =>
      simp only [List.getElem?_cons_zero, Option.some.injEq] at hu
      subst hu
      rw [Addr.add_lit, World.cell?_alloc_at _ _ _ _ rfl]
      rfl
    | succ j => simp at hu
  · intro u hu
    rw [List.mem_singleton.1 hu]; exact h1
  · unfold maxLen; omega
  · have : (n + 1) * bytes ≤ 67108865 * 1024 := Nat.mul_le_mul (by omega) hbytes
    omega
  · intro v' w1 hown' hgrow hnil
    have hv : ∃ ao' cap', v' = .slice ao' (n + 1) cap' := by
      rcases hown'.2 with ⟨e, hz⟩ | ⟨g, c, cur, e, _⟩
      · omega
      · exact ⟨_, _, e⟩
    obtain ⟨ao', cap', rfl⟩ := hv
    refine h ao' cap' w1 (OwnRow.of hown') ?_
    have hc := Chg.ofGrown hgrow
    refine ⟨hc.os, hc.tape, hc.output, Nat.le_trans (by simp) hc.size, fun k hk hs' => ?_⟩
    rw [hc.block k (by simp; omega) (fun e => hs' e.symm), Below.heap_alloc w _ k hk]

theorem wpList_push {ops : Array Oper} {rest : List Oper} {o : Oper} {a : Act} {Q : Exit → Act → World → Prop} (w : World) (hgd : o.guard = none) (s x : Operand)
    (ho : o.op = .call { callee := .builtin .append, args := #[s, x], argTypes := #[24, 24] })
    (B E : Nat) (ao : Option Addr) (n cap : Nat) (xs : List Int) (hs : a.eval s = .slice ao n cap) (hown : Own B E w ao n cap xs) (y : Int)
    (hx : a.eval x = .slice (some ⟨w.heap.size, 0, none⟩) 1 1) (hn : n ≤ 67108864) (hB : B ≤ w.heap.size)
    (h : ∀ ao' cap' w', Own B w'.heap.size w' ao' (n + 1) cap' (xs ++ [y]) → Chg (fun k => (Value.slice ao n cap).ownBlock = some k) w w' → wpList Tryz.prog ops Q rest (a.put o.dst (.slice ao' (n + 1) cap')) w') :
    wpList Tryz.prog ops Q (o :: rest) a (w.alloc (.cells #[.int .i64 y] 3)) :=
  wpList_pushV w hgd s x 24 ho 3 _ 8 Tryz.underlying24 Tryz.infoInt rfl (by decide) B E ao n cap _ hs hown _ rfl hx hn hB (fun ao' cap' w' ho' hc => h ao' cap' w' (by unfold Own; rw [List.map_append]; exact ho') hc)

/-- what alone changes is the row itself: below B all stays -/
theorem Own.chgBelow {B E w w' ao n cap xs} (h : Own B E w ao n cap xs) (hc : Chg (fun k => (Value.slice ao n cap).ownBlock = some k) w w') (hB : B ≤ w.heap.size) : Below B w w' :=
  hc.below hB (fun k hk => (h.1.lt k hk).1)
theorem OwnRow.chgBelow {B E w w' ty ao n cap vs} (h : OwnRow B E w ty ao n cap vs) (hc : Chg (fun k => (Value.slice ao n cap).ownBlock = some k) w w') (hB : B ≤ w.heap.size) : Below B w w' :=
  hc.below hB (fun k hk => (h.1.lt k hk).1)

/-- append of all of a slice of ints -/
theorem wpList_cat {ops : Array Oper} {rest : List Oper} {o : Oper} {a : Act} {Q : Exit → Act → World → Prop} (w : World) (hgd : o.guard = none) (s x : Operand)
    (ho : o.op = .call { callee := .builtin .append, args := #[s, x], argTypes := #[24, 24] })
    (B E : Nat) (ao : Option Addr) (n cap : Nat) (xs : List Int) (hs : a.eval s = .slice ao n cap) (hown : Own B E w ao n cap xs)
    (a2 : Option Addr) (m c : Nat) (ys : List Int) (hx : a.eval x = .slice a2 m c) (hy : IntsAt w a2 m c ys) (hn : n + m ≤ 67108864) (hB : B ≤ w.heap.size)
    (h : ∀ ao' cap' w', Own B w'.heap.size w' ao' (n + m) cap' (xs ++ ys) → Chg (fun k => (Value.slice ao n cap).ownBlock = some k) w w' → wpList Tryz.prog ops Q rest (a.put o.dst (.slice ao' (n + m) cap')) w') :
    wpList Tryz.prog ops Q (o :: rest) a w := by
  obtain ⟨i0, hi, hz0, hz1, hz2⟩ := info_parts Tryz.infoInt
  cases a2 with
  | none =>
    obtain ⟨rfl, rfl⟩ := hy.isNil rfl
    have hys : ys = [] := List.eq_nil_of_length_eq_zero hy.length
    subst hys
    refine wpList_append_own_none hgd s x _ ho B 3 i0 1 Tryz.underlying24 hi _ n _ hs hown.1 hx ?_
    have := h ao cap w (by rw [List.append_nil]; exact Own.of hown.1) (Chg.refl _ _)
    exact this
  | some ad =>
    refine wpList_append_own _ hgd s x _ ho B 3 i0 _ 1 8 Tryz.underlying24 hi hz0 hz1 hz2 rfl (by decide) _ n _ hs hown.1 ad m c (ys.map (Value.int .i64)) hx (by simp; exact hy.length) ?_ (ints_oneCell _ _) ?_ ?_ hB ?_
    · intro j u hu
      have hj : j < m := by
        have := (List.getElem?_eq_some_iff.1 hu).1
        simpa [hy.length] using this
      obtain ⟨b, oo, e, _, hc⟩ := hy.cell j hj
      simp only [Option.some.injEq] at e
      subst e
      rw [Addr.add_lit, hc j hj]
      have hl := hy.length
      rw [List.getElem?_map, List.getElem?_eq_getElem (by omega)] at hu
      simp only [Option.map_some, Option.some.injEq] at hu
      rw [← hu, List.getD_eq_getElem?_getD, List.getElem?_eq_getElem (by omega)]
      rfl
    · unfold maxLen; omega
    · omega
    · intro v' w1 hown' hgrow hnil
      have hv : ∃ ao' cap', v' = .slice ao' (n + m) cap' := by
        rcases hown'.2 with ⟨e, hz⟩ | ⟨g, c, cur, e, _⟩
        · exact ⟨none, 0, by rw [e, hz]⟩
        · exact ⟨_, _, e⟩
      obtain ⟨ao', cap', rfl⟩ := hv
      refine h ao' cap' w1 (Own.of (by rw [List.map_append]; exact hown')) ?_
      have hc := Chg.ofGrown hgrow
      exact hc.mono (fun k hk => hk.symm)

/-- the empty row that '[]int{}' makes -/
theorem Own.empty (w : World) : Own w.heap.size (w.alloc (.cells #[] 3)).heap.size (w.alloc (.cells #[] 3)) (some ⟨w.heap.size, 0, none⟩) 0 0 [] :=
  Own.of (World.ownsRow_made w #[] 0 (Nat.le_refl _) (Nat.zero_le _) rfl)

/-- copy of all of a slice into a row of the call's own that is as long -/
theorem wpList_copyAll {ops : Array Oper} {rest : List Oper} {o : Oper} {a : Act} {Q : Exit → Act → World → Prop} (w : World) (hgd : o.guard = none) (d s : Operand)
    (ho : o.op = .call { callee := .builtin .copy, args := #[d, s], argTypes := #[24, 24] })
    (B E g n cap : Nat) (xs : List Int) (hd : a.eval d = .slice (some ⟨g, 0, none⟩) n cap) (hown : Own B E w (some ⟨g, 0, none⟩) n cap xs)
    (ad : Addr) (c : Nat) (ys : List Int) (hs : a.eval s = .slice (some ad) n c) (hy : IntsAt w (some ad) n c ys)
    (h : ∀ w', Own B E w' (some ⟨g, 0, none⟩) n cap ys → Chg (fun k => k = g) w w' → wpList Tryz.prog ops Q rest (a.put o.dst (.int .i64 n)) w') :
    wpList Tryz.prog ops Q (o :: rest) a w := by
  have hl := hy.length
  rcases hown.1.2 with ⟨hv, _⟩ | ⟨g', c', cur, hv, hg, hh, hnc, hcm, hcs, htake⟩
  · simp at hv
  simp only [Value.slice.injEq, Option.some.injEq, Addr.mk.injEq, and_true, true_and] at hv
  obtain ⟨rfl, rfl⟩ := hv
  refine wpList_copy_own hgd d s 24 24 ho 3 Tryz.underlying24 (by kernel_rfl) g 0 n cap ad n c hd hs cur 3 hh (ys.map (Value.int .i64)) (by simp [hl]) ?_ (by simp [hl]; omega) (ints_oneCell _ _) ?_
  · intro j u hu
    have hj : j < n := by
      have := (List.getElem?_eq_some_iff.1 hu).1
      simpa [hl] using this
    obtain ⟨b, oo, e, _, hc⟩ := hy.cell j hj
    simp only [Option.some.injEq] at e
    subst e
    rw [Addr.add_lit, hc j hj]
    rw [List.getElem?_map, List.getElem?_eq_getElem (by omega)] at hu
    simp only [Option.map_some, Option.some.injEq] at hu
    rw [← hu, List.getD_eq_getElem?_getD, List.getElem?_eq_getElem (by omega)]
    rfl
  · have hr := h (w.setRow g (cur.toList.take 0 ++ ((ys.map (Value.int .i64)) ++ cur.toList.drop (0 + (ys.map (Value.int .i64)).length))).toArray) ?_ ?_
    · have e : goInt (ys.map (Value.int .i64)).length = .int .i64 n := by simp [goInt, hl]
      rw [e]
      exact hr
    · refine ⟨⟨by simp [hl], .inr ⟨g, cap, _, rfl, hg, setRow_heap w g cur _ 3 _ hh, hnc, hcm, ?_, ?_⟩⟩, hown.2⟩
      · simp [hl]; omega
      · simp [hl]
    · exact ⟨rfl, rfl, rfl, by simp [World.setRow], fun k _ hk => setRow_other w g k _ (fun e => hk (by simp [e]))⟩

/-! ### Parts of a slice -/
theorem IntsAt.drop {w ao n cap xs} (h : IntsAt w ao n cap xs) (lo : Nat) (hlo : lo ≤ n) : IntsAt w (if cap = lo then ao else ao.map (·.add (lo * 1))) (n - lo) (cap - lo) (xs.drop lo) := by
  have hl := h.length
  have hle := h.le
  refine ⟨by simp; omega, by omega, Nat.le_trans (Nat.sub_le _ _) h.max, fun e => ?_, fun j hj => ?_⟩
  · have : ao = none := by
      by_cases hc : cap = lo
      · rwa [if_pos hc] at e
      · rw [if_neg hc] at e; simpa using e
    obtain ⟨rfl, rfl⟩ := h.isNil this
    omega
  · obtain ⟨b, oo, rfl, hb, hc⟩ := h.cell lo (by omega)
    refine ⟨b, oo + lo, ?_, hb, fun i hi => ?_⟩
    · rw [if_neg (by omega)]
      simp only [Option.map_some, Nat.mul_one, Addr.add_lit]
    · have := hc (lo + i) (by omega)
      rw [Nat.add_assoc, this, List.getD_eq_getElem?_getD, List.getD_eq_getElem?_getD, List.getElem?_drop]
theorem IntsAt.take {w ao n cap xs} (h : IntsAt w ao n cap xs) (hi : Nat) (hhi : hi ≤ n) : IntsAt w (if cap = 0 then ao else ao.map (·.add (0 * 1))) hi cap (xs.take hi) := by
  have hl := h.length
  have hle := h.le
  refine ⟨by simp; omega, by omega, h.max, fun e => ?_, fun j hj => ?_⟩
  · have : ao = none := by
      by_cases hc : cap = 0
      · rwa [if_pos hc] at e
      · rw [if_neg hc] at e; simpa using e
    obtain ⟨rfl, rfl⟩ := h.isNil this
    omega
  · obtain ⟨b, oo, rfl, hb, hc⟩ := h.cell j (by omega)
    refine ⟨b, oo, ?_, hb, fun i hi' => ?_⟩
    · rw [if_neg (by omega)]
      simp only [Option.map_some, Nat.zero_mul, Addr.add_lit]; rfl
    · rw [hc i (by omega), List.getD_eq_getElem?_getD, List.getD_eq_getElem?_getD, List.getElem?_take, if_pos hi']

theorem sizeInt (w : World) : (sizeOf (Tryz.prog.elem 24)).run Tryz.prog w = .ok 1 w := by kernel_rfl

theorem slFrom {ao n cap} (w0 : World) (xs : List Int) (h : IntsAt w0 ao n cap xs) (lo : Nat) (hlo : lo ≤ n) (k : IntKind) : ∃ a2, (∀ w : World, (Instr.sliceAt 24 (.slice ao n cap) (some (.int k (lo : Int))) none none).run Tryz.prog w = .ok (.slice a2 (n - lo) (cap - lo)) w) ∧ IntsAt w0 a2 (n - lo) (cap - lo) (xs.drop lo) := by
  refine ⟨if cap = lo then ao else ao.map (·.add (lo * 1)), fun w => ?_, h.drop lo hlo⟩
  have hrun := run_slice_l (P := Tryz.prog) (w := w) 24 ao n cap Tryz.underlying24 k (lo : Int) (by omega) (by omega)
  rw [sizeInt] at hrun
  rw [run_sliceAt_slice _ _ _ _ _ _ Tryz.underlying24, hrun]
  simp [Result.andThen, sliced]
theorem slUpto {ao n cap} (w0 : World) (xs : List Int) (h : IntsAt w0 ao n cap xs) (hi : Nat) (hhi : hi ≤ n) (k : IntKind) : ∃ a2, (∀ w : World, (Instr.sliceAt 24 (.slice ao n cap) none (some (.int k (hi : Int))) none).run Tryz.prog w = .ok (.slice a2 hi cap) w) ∧ IntsAt w0 a2 hi cap (xs.take hi) := by
  refine ⟨if cap = 0 then ao else ao.map (·.add (0 * 1)), fun w => ?_, h.take hi hhi⟩
  have hrun := run_slice_h (P := Tryz.prog) (w := w) 24 ao n cap Tryz.underlying24 k (hi : Int) (by omega) (by have := h.le; omega)
  rw [sizeInt] at hrun
  rw [run_sliceAt_slice _ _ _ _ _ _ Tryz.underlying24, hrun]
  simp [Result.andThen, sliced]

/-- append of a slice of ints, at a step of a region that draws its order -/
theorem step_cat {ops : Array Oper} {o : Oper} {a : Act} {K : Act → World → Prop} {Q : Exit → Act → World → Prop} {E0 : Prop} (w : World) (hgd : o.guard = none) (s x : Operand)
    (ho : o.op = .call { callee := .builtin .append, args := #[s, x], argTypes := #[24, 24] })
    (B E : Nat) (ao : Option Addr) (n cap : Nat) (xs : List Int) (hs : a.eval s = .slice ao n cap) (hown : Own B E w ao n cap xs)
    (a2 : Option Addr) (m c : Nat) (ys : List Int) (hx : a.eval x = .slice a2 m c) (hy : IntsAt w a2 m c ys) (hn : n + m ≤ 67108864) (hB : B ≤ w.heap.size)
    (h : ∀ ao' cap' w', Own B w'.heap.size w' ao' (n + m) cap' (xs ++ ys) → Chg (fun k => (Value.slice ao n cap).ownBlock = some k) w w' → K (a.put o.dst (.slice ao' (n + m) cap')) w') :
    if Region.wanted o (yielded ops a.tmps) = true then Oper.wp Tryz.prog o a w K Q else E0 := by
  have hw : Region.wanted o (yielded ops a.tmps) = true := by simp [Region.wanted, hgd]
  rw [if_pos hw]
  obtain ⟨i0, hi, hz0, hz1, hz2⟩ := info_parts Tryz.infoInt
  cases a2 with
  | none =>
    obtain ⟨rfl, rfl⟩ := hy.isNil rfl
    have hys : ys = [] := List.eq_nil_of_length_eq_zero hy.length
    subst hys
    have hrun := run_append_owned_none (P := Tryz.prog) (w := w) B 24 o.type 3 i0 1 Tryz.underlying24 hi _ n _ hown.1
    unfold Oper.wp
    simp [execOp, ho, resolve, invoke, builtin, hs, hx, hrun, Result.andThen]
    have := h ao cap w (by rw [List.append_nil]; exact Own.of hown.1) (Chg.refl _ _)
    exact this
  | some ad =>
    refine wp_append_own w s x _ ho B 3 i0 _ 1 8 Tryz.underlying24 hi hz0 hz1 hz2 rfl (by decide) _ n _ hs hown.1 ad m c (ys.map (Value.int .i64)) hx (by simp; exact hy.length) ?_ (ints_oneCell _ _) ?_ ?_ hB ?_
    · intro j u hu
      have hj : j < m := by
        have := (List.getElem?_eq_some_iff.1 hu).1
        simpa [hy.length] using this
      obtain ⟨b, oo, e, _, hc⟩ := hy.cell j hj
      simp only [Option.some.injEq] at e
      subst e
      rw [Addr.add_lit, hc j hj]
      have hl := hy.length
      rw [List.getElem?_map, List.getElem?_eq_getElem (by omega)] at hu
      simp only [Option.map_some, Option.some.injEq] at hu
      rw [← hu, List.getD_eq_getElem?_getD, List.getElem?_eq_getElem (by omega)]
      rfl
    · unfold maxLen; omega
    · omega
    · intro v' w1 hown' hgrow hnil
      have hv : ∃ ao' cap', v' = .slice ao' (n + m) cap' := by
        rcases hown'.2 with ⟨e, hz⟩ | ⟨g, c, cur, e, _⟩
        · exact ⟨none, 0, by rw [e, hz]⟩
        · exact ⟨_, _, e⟩
      obtain ⟨ao', cap', rfl⟩ := hv
      refine h ao' cap' w1 (Own.of (by rw [List.map_append]; exact hown')) ?_
      exact (Chg.ofGrown hgrow).mono (fun k hk => hk.symm)

/-- the same, the frame carried along -/
theorem step_catB {ops : Array Oper} {o : Oper} {a : Act} {K : Act → World → Prop} {Q : Exit → Act → World → Prop} {E0 : Prop} (w0 w : World) (hgd : o.guard = none) (s x : Operand)
    (ho : o.op = .call { callee := .builtin .append, args := #[s, x], argTypes := #[24, 24] })
    (E : Nat) (ao : Option Addr) (n cap : Nat) (xs : List Int) (hs : a.eval s = .slice ao n cap)
    (a2 : Option Addr) (m c : Nat) (ys : List Int) (hx : a.eval x = .slice a2 m c) (hacc : Below w0.heap.size w0 w) (hown : Own w0.heap.size E w ao n cap xs) (hy : IntsAt w a2 m c ys) (hn : n + m ≤ 67108864)
    (h : ∀ ao' cap' w', Own w0.heap.size w'.heap.size w' ao' (n + m) cap' (xs ++ ys) → Below w0.heap.size w0 w' → K (a.put o.dst (.slice ao' (n + m) cap')) w') :
    if Region.wanted o (yielded ops a.tmps) = true then Oper.wp Tryz.prog o a w K Q else E0 :=
  step_cat w hgd s x ho w0.heap.size E ao n cap xs hs hown a2 m c ys hx hy hn hacc.size (fun ao' cap' w' h1 h2 => h ao' cap' w' h1 (hacc.trans (Own.chgBelow hown h2 hacc.size)))

theorem wpList_from {ops : Array Oper} {rest : List Oper} {o : Oper} {a : Act} {Q : Exit → Act → World → Prop} (w : World) (hgd : o.guard = none) (x l : Operand)
    (ho : o.op = .slice 24 x (some l) none none) (ao : Option Addr) (n cap lo : Nat) (xs : List Int) (L : Int) (k : IntKind) (hx : a.eval x = .slice ao n cap) (hl : a.eval l = .int k L) (hL : L = (lo : Nat)) (hlo : lo ≤ n)
    (h : IntsAt w ao n cap xs) (hK : ∀ ao', IntsAt w ao' (n - lo) (cap - lo) (xs.drop lo) → wpList Tryz.prog ops Q rest (a.put o.dst (.slice ao' (n - lo) (cap - lo))) w) : wpList Tryz.prog ops Q (o :: rest) a w := by
  subst hL
  refine wpList_plain hgd fun K hK' => ?_
  have hrun := run_slice_l (P := Tryz.prog) (w := w) 24 ao n cap Tryz.underlying24 k (lo : Int) (by omega) (by omega)
  rw [sizeInt] at hrun
  have hat : (Instr.sliceAt 24 (.slice ao n cap) (some (.int k (lo : Int))) none none).run Tryz.prog w = .ok (.slice (if cap = lo then ao else ao.map (·.add (lo * 1))) (n - lo) (cap - lo)) w := by
    rw [run_sliceAt_slice _ _ _ _ _ _ Tryz.underlying24, hrun]
    simp [Result.andThen, sliced]
  unfold Oper.wp
  simp [execOp, ho, hx, hl, hat, Result.andThen]
  have := hK _ (h.drop lo hlo)
  simp only [Nat.mul_one] at this
  exact hK' _ _ this

theorem wpList_upto {ops : Array Oper} {rest : List Oper} {o : Oper} {a : Act} {Q : Exit → Act → World → Prop} (w : World) (hgd : o.guard = none) (x l : Operand)
    (ho : o.op = .slice 24 x none (some l) none) (ao : Option Addr) (n cap hi : Nat) (xs : List Int) (L : Int) (k : IntKind) (hx : a.eval x = .slice ao n cap) (hl : a.eval l = .int k L) (hL : L = (hi : Nat)) (hhi : hi ≤ n)
    (h : IntsAt w ao n cap xs) (hK : ∀ ao', IntsAt w ao' hi cap (xs.take hi) → wpList Tryz.prog ops Q rest (a.put o.dst (.slice ao' hi cap)) w) : wpList Tryz.prog ops Q (o :: rest) a w := by
  subst hL
  refine wpList_plain hgd fun K hK' => ?_
  have hrun := run_slice_h (P := Tryz.prog) (w := w) 24 ao n cap Tryz.underlying24 k (hi : Int) (by omega) (by have := h.le; omega)
  rw [sizeInt] at hrun
  have hat : (Instr.sliceAt 24 (.slice ao n cap) none (some (.int k (hi : Int))) none).run Tryz.prog w = .ok (.slice (if cap = 0 then ao else ao.map (·.add (0 * 1))) hi cap) w := by
    rw [run_sliceAt_slice _ _ _ _ _ _ Tryz.underlying24, hrun]
    simp [Result.andThen, sliced]
  unfold Oper.wp
  simp [execOp, ho, hx, hl, hat, Result.andThen]
  have := hK _ (h.take hi hhi)
  simp only [Nat.zero_mul] at this
  exact hK' _ _ this

theorem wpList_pushR {ops : Array Oper} {rest : List Oper} {o : Oper} {a : Act} {Q : Exit → Act → World → Prop} (w : World) (hgd : o.guard = none) (s x : Operand)
    (ho : o.op = .call { callee := .builtin .append, args := #[s, x], argTypes := #[45, 45] })
    (B E : Nat) (ao : Option Addr) (n cap : Nat) (xss : List (List Int)) (hs : a.eval s = .slice ao n cap) (hown : OwnRows B E w ao n cap xss) (hE : E ≤ w.heap.size)
    (a2 : Option Addr) (m c C : Nat) (ys : List Int) (hy : Own C w.heap.size w a2 m c ys) (hC : B ≤ C) (hap : ∀ g, (Value.slice a2 m c).ownBlock = some g → E ≤ g)
    (hx : a.eval x = .slice (some ⟨w.heap.size, 0, none⟩) 1 1) (hn : n ≤ 67108864) (hB : B ≤ w.heap.size)
    (h : ∀ ao' cap' w', OwnRows B w'.heap.size w' ao' (n + 1) cap' (xss ++ [ys]) → Chg (fun k => (Value.slice ao n cap).ownBlock = some k) w w' → wpList Tryz.prog ops Q rest (a.put o.dst (.slice ao' (n + 1) cap')) w') :
    wpList Tryz.prog ops Q (o :: rest) a (w.alloc (.cells #[.slice a2 m c] 24)) := by
  obtain ⟨vs, h1, h2, h3, h4⟩ := hown
  refine wpList_pushV w hgd s x 45 ho 24 _ 24 Tryz.underlying45 Tryz.infoInts rfl (by decide) B E ao n cap vs hs h1 _ rfl hx hn hB (fun ao' cap' w' ho' hc => h ao' cap' w' ?_ hc)
  have hl := h1.length
  have hty : ∀ {k ty A N K V}, OwnRow B w.heap.size w ty A N K V → (Value.slice A N K).ownBlock = some k → (Value.slice ao n cap).ownBlock = some k → ty = 24 := by
    intro k ty A N K V hr e1 e2
    rcases hr.1.2 with ⟨hv, _⟩ | ⟨g', c', cur, hv, _, hh, _⟩
    · rw [hv] at e1; simp [Value.ownBlock] at e1
    · rcases h1.1.2 with ⟨hv', _⟩ | ⟨g2, c2, cur2, hv', _, hh2, _⟩
      · rw [hv'] at e2; simp [Value.ownBlock] at e2
      · rw [hv] at e1; rw [hv'] at e2; simp [Value.ownBlock] at e1 e2; subst e1; subst e2; rw [hh] at hh2; simp at hh2; exact hh2.2
  refine ⟨vs ++ [.slice a2 m c], ho', by simp; exact h2, fun i hi => ?_, fun i j hij hj => ?_⟩
  · by_cases hin : i < n
    · obtain ⟨a', m', c', e, ho⟩ := h3 i hin
      refine ⟨a', m', c', ?_, ?_⟩
      · rw [List.getD_eq_getElem?_getD, List.getElem?_append_left (by omega), ← List.getD_eq_getElem?_getD]; exact e
      · rw [List.getD_eq_getElem?_getD, List.getElem?_append_left (by omega), ← List.getD_eq_getElem?_getD]
        refine Own.mono (Own.chg ho hc fun g _ _ hg hs' => ?_) (Nat.le_refl _) (Nat.le_trans hE hc.size)
        have := hty (ho.mono (Nat.le_refl _) hE) hg hs'
        exact absurd this (by decide)
    · obtain rfl : i = n := by omega
      refine ⟨a2, m, c, ?_, ?_⟩
      · rw [List.getD_eq_getElem?_getD, List.getElem?_append_right (by omega), hl]; simp
      · rw [List.getD_eq_getElem?_getD, List.getElem?_append_right (by omega), h2]
        simp only [Nat.sub_self, List.getElem?_cons_zero, Option.getD_some]
        refine Own.mono (Own.chg hy hc fun g _ _ hg hs' => ?_) hC hc.size
        have := hty (hy.mono hC (Nat.le_refl _)) hg hs'
        exact absurd this (by decide)
  · by_cases hjn : j < n
    · rw [List.getD_eq_getElem?_getD, List.getElem?_append_left (by omega), ← List.getD_eq_getElem?_getD, List.getD_eq_getElem?_getD (i := j), List.getElem?_append_left (by omega), ← List.getD_eq_getElem?_getD]
      exact h4 i j hij hjn
    · obtain rfl : j = n := by omega
      obtain ⟨a', m', c', e, ho⟩ := h3 i hij
      rw [List.getD_eq_getElem?_getD, List.getElem?_append_left (by omega), ← List.getD_eq_getElem?_getD, e, List.getD_eq_getElem?_getD, List.getElem?_append_right (by omega), hl]
      simp only [Nat.sub_self, List.getElem?_cons_zero, Option.getD_some]
      unfold apart
      rcases Own.cases ho with ⟨rfl, _⟩ | ⟨g, rfl, _, hgE, _⟩
      · exact .inl rfl
      · refine .inr fun hh => ?_
        have := hap g hh.symm
        omega
end
end Go.Proofs.YtdfmljkjidepeaaGreatDoor
namespace Go.Proofs.YtdfmljkjidepeaaGreatDoor
section
open Go.RowKit
set_option linter.unusedVariables false
set_option linter.unusedSimpArgs false

theorem fill_set (xs : List Int) (k n : Nat) (x : Int) (hx : xs.getD k 0 = x) (hk : k < n) (hl : xs.length = n) :
    (xs.take k ++ List.replicate (n - k) 0).set k x = xs.take (k + 1) ++ List.replicate (n - (k + 1)) 0 := by
  subst hx
  apply List.ext_getElem
  · simp; omega
  · intro i h1 h2
    simp at h1
    rw [List.getElem_set]
    split
    · next h => subst h; simp [List.getElem_append, List.getElem_take, show k < min (k+1) xs.length by omega, List.getD_eq_getElem?_getD, show k < xs.length by omega]
    · next h =>
      simp only [List.getElem_append, List.length_take, List.getElem_take, List.getElem_replicate]
      by_cases hi : i < k
      · simp [show i < min k xs.length by omega, show i < min (k+1) xs.length by omega]
      · simp [show ¬ i < min k xs.length by omega, show ¬ i < min (k+1) xs.length by omega]
theorem fill_all (xs : List Int) (n : Nat) (hl : xs.length = n) : xs.take n ++ List.replicate (n - n) 0 = xs := by
  simp [List.take_of_length_le (Nat.le_of_eq hl)]

theorem stairs_getD (k i : Nat) (h : i < k) : (stairs k).getD i 0 = (k : Int) - i := by
  unfold stairs
  rw [List.getD_eq_getElem?_getD, List.getElem?_map, List.getElem?_range h]
  simp; omega

end
end Go.Proofs.YtdfmljkjidepeaaGreatDoor
namespace Go.Proofs.YtdfmljkjidepeaaGreatDoor
section
open Go.RowKit
set_option linter.unusedVariables false
set_option linter.unusedSimpArgs false

theorem belowAlloc (w : World) (o : Obj) : Below w.heap.size w (w.alloc o) := (Below.refl _ _).alloc (Nat.le_refl _) o

set_option maxHeartbeats 800000 in
theorem l1Own_any (ao : Option Addr) (n cap : Nat) (xs : List Int) (w : World) (h : IntsAt w ao n cap xs) (hn : n ≤ 1048576) :
    Calls Tryz.prog 39 #[.slice ao n cap] w fun e w' => ∃ ao' cap', e = .returned (.slice ao' n cap') ∧ Own w.heap.size w'.heap.size w' ao' n cap' xs ∧ Below w.heap.size w w' := by
  have h1 := h.keep (belowAlloc w (.cells #[] 3))
  have he := Own.empty w
  go_enter Tryz.func39, Tryz.ntmps39
  go_wp2_with (at_builtin; refine wpList_cat _ rfl _ _ rfl w.heap.size _ _ 0 0 [] rfl he ao n cap xs rfl h1 (by omega) (by simp) ?_)
  intro ao' cap' w1 ho hc
  have hb := he.chgBelow hc (by simp)
  try simp only [Nat.zero_add, List.nil_append] at ho ⊢
  go_wp2
  go_ret
  exact ⟨_, _, rfl, ho, (belowAlloc w _).trans hb⟩

set_option maxHeartbeats 800000 in
theorem copyOf_any (ao : Option Addr) (n cap : Nat) (xs : List Int) (w : World) (h : IntsAt w ao n cap xs) (hn : n ≤ 1048576) :
    Calls Tryz.prog 46 #[.slice ao n cap] w fun e w' => ∃ ao' cap', e = .returned (.slice ao' n cap') ∧ Own w.heap.size w'.heap.size w' ao' n cap' xs ∧ Below w.heap.size w w' := by
  obtain ⟨i0, hi, hz0, hz1, hz2⟩ := info_parts Tryz.infoInt
  have hn' : (n : Int) ≤ 1048576 := by omega
  by_cases hz : n = 0
  · subst hz
    have hxs : xs = [] := List.eq_nil_of_length_eq_zero h.length
    subst hxs
    go_enter Tryz.func46, Tryz.ntmps46
    go_wp2_with (at_make; refine wpList_make_full w rfl _ _ _ rfl w.heap.size 3 i0 _ 1 Tryz.underlying24 hi hz0 hz1 _ _ _ _ 0 rfl rfl rfl rfl (by omega) (Nat.zero_le _) (Nat.le_refl _) ?_)
    intro w1 hown hgrow
    have ho : Own w.heap.size w1.heap.size w1 (some ⟨w.heap.size, 0, none⟩) 0 0 [] := Own.of (by simpa [madeCells] using hown)
    have hb1 : Below w.heap.size w w1 := (Below.refl _ _).grown hgrow (Nat.le_refl _) (fun k hk => by cases hk)
    clear hown hgrow
    generalize hBe : w.heap.size = B at *
    have HBe := Lib.hid hBe; clear hBe
    go_wp2_with (first | (refine wpList_copy_nothing rfl _ _ _ _ rfl 3 Tryz.underlying24 (by kernel_rfl) _ _ _ _ _ _ rfl rfl (by simp) ?_))
    go_ret
    exact ⟨_, _, rfl, HBe.out ▸ ho, HBe.out ▸ hb1⟩
  · obtain ⟨b, oo, rfl, hb, hc⟩ := h.cell 0 (by omega)
    clear hc
    go_enter Tryz.func46, Tryz.ntmps46
    go_wp2_with (at_make; refine wpList_make_full w rfl _ _ _ rfl w.heap.size 3 i0 _ 1 Tryz.underlying24 hi hz0 hz1 _ _ _ _ n rfl rfl rfl rfl ?_ ?_ (Nat.le_refl _) ?_)
    · rw [hz2]; omega
    · unfold maxLen; omega
    intro w1 hown hgrow
    rw [madeZeros] at hown
    have ho : Own w.heap.size w1.heap.size w1 (some ⟨w.heap.size, 0, none⟩) n n (List.replicate n 0) := Own.of hown
    have hb1 : Below w.heap.size w w1 := (Below.refl _ _).grown hgrow (Nat.le_refl _) (fun k hk => by cases hk)
    have hx := h.keep hb1
    clear hown hgrow hi hz0 hz1 hz2 h
    generalize hBe : w.heap.size = B at *
    have HBe := Lib.hid hBe; clear hBe
    go_wp2_with (refine wpList_copyAll w1 rfl _ _ rfl B _ B n n _ rfl ho ⟨b, oo, none⟩ cap xs rfl hx ?_)
    intro w2 ho2 hc2
    have hb2 : Below B w w2 := hb1.trans (hc2.below (by have := ho.1.lt B rfl; omega) (fun k hk => by omega))
    go_wp2
    go_ret
    exact ⟨_, _, rfl, HBe.out ▸ ho2.mono (Nat.le_refl _) hc2.size, HBe.out ▸ hb2⟩
end
end Go.Proofs.YtdfmljkjidepeaaGreatDoor
namespace Go.Proofs.YtdfmljkjidepeaaGreatDoor
section
open Go.RowKit
set_option linter.unusedVariables false
set_option linter.unusedSimpArgs false

theorem isPiles_yes (ao : Option Addr) (n cap : Nat) (xs : List Int) (w : World) (h : IntsAt w ao n cap xs) (hg : Good xs) :
    Calls Tryz.prog 50 #[.slice ao n cap] w fun e w' => e = .returned (.bool true) ∧ w = w' := by
  have := isPiles_any ao n cap xs w h; rw [good_iff.2 hg] at this; exact this
theorem isPiles_no (ao : Option Addr) (n cap : Nat) (xs : List Int) (w : World) (h : IntsAt w ao n cap xs) (hg : goodB xs = false) :
    Calls Tryz.prog 50 #[.slice ao n cap] w fun e w' => e = .returned (.bool false) ∧ w = w' := by
  have := isPiles_any ao n cap xs w h; rw [hg] at this; exact this
theorem piGood_yes (ao : Option Addr) (n cap : Nat) (xs : List Int) (w : World) (h : IntsAt w ao n cap xs) (hg : Good xs) :
    Calls Tryz.prog 43 #[.slice ao n cap] w fun e w' => e = .returned (.bool true) ∧ w = w' := by
  have := piGood_any ao n cap xs w h; rw [good_iff.2 hg] at this; exact this
theorem piGood_no (ao : Option Addr) (n cap : Nat) (xs : List Int) (w : World) (h : IntsAt w ao n cap xs) (hg : goodB xs = false) :
    Calls Tryz.prog 43 #[.slice ao n cap] w fun e w' => e = .returned (.bool false) ∧ w = w' := by
  have := piGood_any ao n cap xs w h; rw [hg] at this; exact this

end
end Go.Proofs.YtdfmljkjidepeaaGreatDoor
