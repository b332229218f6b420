/- append of one element to a row that the call made. No condition but sizes. -/
import Derived.Test.YtbkihnejgcebpaaBase
import Derived.Laws.CopyOwn
import Derived.Laws.AppendOwnNone
namespace Go.Proofs.Ytbkihnejgcebpaa
open Go.RowKit
set_option linter.unusedVariables false
set_option maxRecDepth 20000
set_option linter.unusedSimpArgs false

/-- one element is appended: it lies in a block of its own, laid just before -/
theorem wpList_pushV {ops : Array Oper} {rest : List Oper} {o : Oper} {a : Act} {Q : Exit → Act → World → Prop} (w : World) (hgd : o.guard = none) (s x : Operand) (t : TypeId)
    (ho : o.op = .call { callee := .builtin .append, args := #[s, x], argTypes := #[t, t] }) (ty : TypeId) (z : Value) (bytes : Nat)
    (ht : Try.prog.underlying t = some (.slice ty)) (hinfo : (Try.prog.info? ty).map (fun i => (i.zero, i.size, i.bytes)) = some (some z, 1, bytes)) (hzs : z.cells.size = 1) (hbytes : bytes ≤ 1024)
    (B E : Nat) (ao : Option Addr) (n cap : Nat) (vs : List Value) (hs : a.eval s = .slice ao n cap) (hown : OwnRow B E w ty ao n cap vs) (y : Value) (h1 : y.oneCell' = true)
    (hx : a.eval x = .slice (some ⟨w.heap.size, 0, none⟩) 1 1) (hn : n ≤ 67108864) (hB : B ≤ w.heap.size)
    (h : ∀ ao' cap' w', OwnRow B w'.heap.size w' ty ao' (n + 1) cap' (vs ++ [y]) → Chg (fun k => (Value.slice ao n cap).ownBlock = some k) w w' → wpList Try.prog ops Q rest (a.put o.dst (.slice ao' (n + 1) cap')) w') :
    wpList Try.prog ops Q (o :: rest) a (w.alloc (.cells #[y] ty)) := by
  obtain ⟨i0, hi, hz0, hz1, hz2⟩ := info_parts hinfo
  refine wpList_append_own _ hgd s x t ho B ty i0 z 1 bytes ht hi hz0 hz1 hz2 hzs (by decide) _ n vs hs (hown.1.alloc _) ⟨w.heap.size, 0, none⟩ 1 1 [y] hx rfl ?_ ?_ ?_ ?_ (by simp; omega) ?_
  · intro j u hu
    cases j with
    | zero =>
      simp only [List.getElem?_cons_zero, Option.some.injEq] at hu
      subst hu
      rw [Addr.add_lit, World.cell?_alloc_at _ _ _ _ rfl]
      rfl
    | succ j => simp at hu
  · intro u hu
    rw [List.mem_singleton.1 hu]; exact h1
  · unfold maxLen; omega
  · have : (n + 1) * bytes ≤ 67108865 * 1024 := Nat.mul_le_mul (by omega) hbytes
    omega
  · intro v' w1 hown' hgrow hnil
    have hv : ∃ ao' cap', v' = .slice ao' (n + 1) cap' := by
      rcases hown'.2 with ⟨e, hz⟩ | ⟨g, c, cur, e, _⟩
      · omega
      · exact ⟨_, _, e⟩
    obtain ⟨ao', cap', rfl⟩ := hv
    refine h ao' cap' w1 (OwnRow.of hown') ?_
    have hc := Chg.ofGrown hgrow
    refine ⟨hc.os, hc.tape, hc.output, Nat.le_trans (by simp) hc.size, fun k hk hs' => ?_⟩
    rw [hc.block k (by simp; omega) (fun e => hs' e.symm), Below.heap_alloc w _ k hk]

theorem wpList_push {ops : Array Oper} {rest : List Oper} {o : Oper} {a : Act} {Q : Exit → Act → World → Prop} (w : World) (hgd : o.guard = none) (s x : Operand)
    (ho : o.op = .call { callee := .builtin .append, args := #[s, x], argTypes := #[28, 28] })
    (B E : Nat) (ao : Option Addr) (n cap : Nat) (xs : List Int) (hs : a.eval s = .slice ao n cap) (hown : Own B E w ao n cap xs) (y : Int)
    (hx : a.eval x = .slice (some ⟨w.heap.size, 0, none⟩) 1 1) (hn : n ≤ 67108864) (hB : B ≤ w.heap.size)
    (h : ∀ ao' cap' w', Own B w'.heap.size w' ao' (n + 1) cap' (xs ++ [y]) → Chg (fun k => (Value.slice ao n cap).ownBlock = some k) w w' → wpList Try.prog ops Q rest (a.put o.dst (.slice ao' (n + 1) cap')) w') :
    wpList Try.prog ops Q (o :: rest) a (w.alloc (.cells #[.int .i64 y] 3)) :=
  wpList_pushV w hgd s x 28 ho 3 _ 8 Try.underlying28 Try.infoInt rfl (by decide) B E ao n cap _ hs hown _ rfl hx hn hB (fun ao' cap' w' ho' hc => h ao' cap' w' (by unfold Own; rw [List.map_append]; exact ho') hc)

/-- what alone changes is the row itself: below B all stays -/
theorem Own.chgBelow {B E w w' ao n cap xs} (h : Own B E w ao n cap xs) (hc : Chg (fun k => (Value.slice ao n cap).ownBlock = some k) w w') (hB : B ≤ w.heap.size) : Below B w w' :=
  hc.below hB (fun k hk => (h.1.lt k hk).1)
theorem OwnRow.chgBelow {B E w w' ty ao n cap vs} (h : OwnRow B E w ty ao n cap vs) (hc : Chg (fun k => (Value.slice ao n cap).ownBlock = some k) w w') (hB : B ≤ w.heap.size) : Below B w w' :=
  hc.below hB (fun k hk => (h.1.lt k hk).1)

/-- append of all of a slice of ints -/
theorem wpList_cat {ops : Array Oper} {rest : List Oper} {o : Oper} {a : Act} {Q : Exit → Act → World → Prop} (w : World) (hgd : o.guard = none) (s x : Operand)
    (ho : o.op = .call { callee := .builtin .append, args := #[s, x], argTypes := #[28, 28] })
    (B E : Nat) (ao : Option Addr) (n cap : Nat) (xs : List Int) (hs : a.eval s = .slice ao n cap) (hown : Own B E w ao n cap xs)
    (a2 : Option Addr) (m c : Nat) (ys : List Int) (hx : a.eval x = .slice a2 m c) (hy : IntsAt w a2 m c ys) (hn : n + m ≤ 67108864) (hB : B ≤ w.heap.size)
    (h : ∀ ao' cap' w', Own B w'.heap.size w' ao' (n + m) cap' (xs ++ ys) → Chg (fun k => (Value.slice ao n cap).ownBlock = some k) w w' → wpList Try.prog ops Q rest (a.put o.dst (.slice ao' (n + m) cap')) w') :
    wpList Try.prog ops Q (o :: rest) a w := by
  obtain ⟨i0, hi, hz0, hz1, hz2⟩ := info_parts Try.infoInt
  cases a2 with
  | none =>
    obtain ⟨rfl, rfl⟩ := hy.isNil rfl
    have hys : ys = [] := List.eq_nil_of_length_eq_zero hy.length
    subst hys
    refine wpList_append_own_none hgd s x _ ho B 3 i0 1 Try.underlying28 hi _ n _ hs hown.1 hx ?_
    have := h ao cap w (by rw [List.append_nil]; exact Own.of hown.1) (Chg.refl _ _)
    exact this
  | some ad =>
    refine wpList_append_own _ hgd s x _ ho B 3 i0 _ 1 8 Try.underlying28 hi hz0 hz1 hz2 rfl (by decide) _ n _ hs hown.1 ad m c (ys.map (Value.int .i64)) hx (by simp; exact hy.length) ?_ (ints_oneCell _ _) ?_ ?_ hB ?_
    · intro j u hu
      have hj : j < m := by
        have := (List.getElem?_eq_some_iff.1 hu).1
        simpa [hy.length] using this
      obtain ⟨b, oo, e, _, hc⟩ := hy.cell j hj
      simp only [Option.some.injEq] at e
      subst e
      rw [Addr.add_lit, hc j hj]
      have hl := hy.length
      rw [List.getElem?_map, List.getElem?_eq_getElem (by omega)] at hu
      simp only [Option.map_some, Option.some.injEq] at hu
      rw [← hu, List.getD_eq_getElem?_getD, List.getElem?_eq_getElem (by omega)]
      rfl
    · unfold maxLen; omega
    · omega
    · intro v' w1 hown' hgrow hnil
      have hv : ∃ ao' cap', v' = .slice ao' (n + m) cap' := by
        rcases hown'.2 with ⟨e, hz⟩ | ⟨g, c, cur, e, _⟩
        · exact ⟨none, 0, by rw [e, hz]⟩
        · exact ⟨_, _, e⟩
      obtain ⟨ao', cap', rfl⟩ := hv
      refine h ao' cap' w1 (Own.of (by rw [List.map_append]; exact hown')) ?_
      have hc := Chg.ofGrown hgrow
      exact hc.mono (fun k hk => hk.symm)

/-- the empty row that '[]int{}' makes -/
theorem Own.empty (w : World) : Own w.heap.size (w.alloc (.cells #[] 3)).heap.size (w.alloc (.cells #[] 3)) (some ⟨w.heap.size, 0, none⟩) 0 0 [] :=
  Own.of (World.ownsRow_made w #[] 0 (Nat.le_refl _) (Nat.zero_le _) rfl)

/-- copy of all of a slice into a row of the call's own that is as long -/
theorem wpList_copyAll {ops : Array Oper} {rest : List Oper} {o : Oper} {a : Act} {Q : Exit → Act → World → Prop} (w : World) (hgd : o.guard = none) (d s : Operand)
    (ho : o.op = .call { callee := .builtin .copy, args := #[d, s], argTypes := #[28, 28] })
    (B E g n cap : Nat) (xs : List Int) (hd : a.eval d = .slice (some ⟨g, 0, none⟩) n cap) (hown : Own B E w (some ⟨g, 0, none⟩) n cap xs)
    (ad : Addr) (c : Nat) (ys : List Int) (hs : a.eval s = .slice (some ad) n c) (hy : IntsAt w (some ad) n c ys)
    (h : ∀ w', Own B E w' (some ⟨g, 0, none⟩) n cap ys → Chg (fun k => k = g) w w' → wpList Try.prog ops Q rest (a.put o.dst (.int .i64 n)) w') :
    wpList Try.prog ops Q (o :: rest) a w := by
  have hl := hy.length
  rcases hown.1.2 with ⟨hv, _⟩ | ⟨g', c', cur, hv, hg, hh, hnc, hcm, hcs, htake⟩
  · simp at hv
  simp only [Value.slice.injEq, Option.some.injEq, Addr.mk.injEq, and_true, true_and] at hv
  obtain ⟨rfl, rfl⟩ := hv
  refine wpList_copy_own hgd d s 28 28 ho 3 Try.underlying28 (by kernel_rfl) g 0 n cap ad n c hd hs cur 3 hh (ys.map (Value.int .i64)) (by simp [hl]) ?_ (by simp [hl]; omega) (ints_oneCell _ _) ?_
  · intro j u hu
    have hj : j < n := by
      have := (List.getElem?_eq_some_iff.1 hu).1
      simpa [hl] using this
    obtain ⟨b, oo, e, _, hc⟩ := hy.cell j hj
    simp only [Option.some.injEq] at e
    subst e
    rw [Addr.add_lit, hc j hj]
    rw [List.getElem?_map, List.getElem?_eq_getElem (by omega)] at hu
    simp only [Option.map_some, Option.some.injEq] at hu
    rw [← hu, List.getD_eq_getElem?_getD, List.getElem?_eq_getElem (by omega)]
    rfl
  · have hr := h (w.setRow g (cur.toList.take 0 ++ ((ys.map (Value.int .i64)) ++ cur.toList.drop (0 + (ys.map (Value.int .i64)).length))).toArray) ?_ ?_
    · have e : goInt (ys.map (Value.int .i64)).length = .int .i64 n := by simp [goInt, hl]
      rw [e]
      exact hr
    · refine ⟨⟨by simp [hl], .inr ⟨g, cap, _, rfl, hg, setRow_heap w g cur _ 3 _ hh, hnc, hcm, ?_, ?_⟩⟩, hown.2⟩
      · simp [hl]; omega
      · simp [hl]
    · exact ⟨rfl, rfl, rfl, by simp [World.setRow], fun k _ hk => setRow_other w g k _ (fun e => hk (by simp [e]))⟩

/-! ### Parts of a slice -/
theorem IntsAt.drop {w ao n cap xs} (h : IntsAt w ao n cap xs) (lo : Nat) (hlo : lo ≤ n) : IntsAt w (if cap = lo then ao else ao.map (·.add (lo * 1))) (n - lo) (cap - lo) (xs.drop lo) := by
  have hl := h.length
  have hle := h.le
  refine ⟨by simp; omega, by omega, Nat.le_trans (Nat.sub_le _ _) h.max, fun e => ?_, fun j hj => ?_⟩
  · have : ao = none := by
      by_cases hc : cap = lo
      · rwa [if_pos hc] at e
      · rw [if_neg hc] at e; simpa using e
    obtain ⟨rfl, rfl⟩ := h.isNil this
    omega
  · obtain ⟨b, oo, rfl, hb, hc⟩ := h.cell lo (by omega)
    refine ⟨b, oo + lo, ?_, hb, fun i hi => ?_⟩
    · rw [if_neg (by omega)]
      simp only [Option.map_some, Nat.mul_one, Addr.add_lit]
    · have := hc (lo + i) (by omega)
      rw [Nat.add_assoc, this, List.getD_eq_getElem?_getD, List.getD_eq_getElem?_getD, List.getElem?_drop]
theorem IntsAt.take {w ao n cap xs} (h : IntsAt w ao n cap xs) (hi : Nat) (hhi : hi ≤ n) : IntsAt w (if cap = 0 then ao else ao.map (·.add (0 * 1))) hi cap (xs.take hi) := by
  have hl := h.length
  have hle := h.le
  refine ⟨by simp; omega, by omega, h.max, fun e => ?_, fun j hj => ?_⟩
  · have : ao = none := by
      by_cases hc : cap = 0
      · rwa [if_pos hc] at e
      · rw [if_neg hc] at e; simpa using e
    obtain ⟨rfl, rfl⟩ := h.isNil this
    omega
  · obtain ⟨b, oo, rfl, hb, hc⟩ := h.cell j (by omega)
    refine ⟨b, oo, ?_, hb, fun i hi' => ?_⟩
    · rw [if_neg (by omega)]
      simp only [Option.map_some, Nat.zero_mul, Addr.add_lit]; rfl
    · rw [hc i (by omega), List.getD_eq_getElem?_getD, List.getD_eq_getElem?_getD, List.getElem?_take, if_pos hi']

theorem sizeInt (w : World) : (sizeOf (Try.prog.elem 28)).run Try.prog w = .ok 1 w := by kernel_rfl

theorem slFrom {ao n cap} (w0 : World) (xs : List Int) (h : IntsAt w0 ao n cap xs) (lo : Nat) (hlo : lo ≤ n) (k : IntKind) : ∃ a2, (∀ w : World, (Instr.sliceAt 28 (.slice ao n cap) (some (.int k (lo : Int))) none none).run Try.prog w = .ok (.slice a2 (n - lo) (cap - lo)) w) ∧ IntsAt w0 a2 (n - lo) (cap - lo) (xs.drop lo) := by
  refine ⟨if cap = lo then ao else ao.map (·.add (lo * 1)), fun w => ?_, h.drop lo hlo⟩
  have hrun := run_slice_l (P := Try.prog) (w := w) 28 ao n cap Try.underlying28 k (lo : Int) (by omega) (by omega)
  rw [sizeInt] at hrun
  rw [run_sliceAt_slice _ _ _ _ _ _ Try.underlying28, hrun]
  simp [Result.andThen, sliced]
theorem slUpto {ao n cap} (w0 : World) (xs : List Int) (h : IntsAt w0 ao n cap xs) (hi : Nat) (hhi : hi ≤ n) (k : IntKind) : ∃ a2, (∀ w : World, (Instr.sliceAt 28 (.slice ao n cap) none (some (.int k (hi : Int))) none).run Try.prog w = .ok (.slice a2 hi cap) w) ∧ IntsAt w0 a2 hi cap (xs.take hi) := by
  refine ⟨if cap = 0 then ao else ao.map (·.add (0 * 1)), fun w => ?_, h.take hi hhi⟩
  have hrun := run_slice_h (P := Try.prog) (w := w) 28 ao n cap Try.underlying28 k (hi : Int) (by omega) (by have := h.le; omega)
  rw [sizeInt] at hrun
  rw [run_sliceAt_slice _ _ _ _ _ _ Try.underlying28, hrun]
  simp [Result.andThen, sliced]

/-- append of a slice of ints, at a step of a region that draws its order -/
theorem step_cat {ops : Array Oper} {o : Oper} {a : Act} {K : Act → World → Prop} {Q : Exit → Act → World → Prop} {E0 : Prop} (w : World) (hgd : o.guard = none) (s x : Operand)
    (ho : o.op = .call { callee := .builtin .append, args := #[s, x], argTypes := #[28, 28] })
    (B E : Nat) (ao : Option Addr) (n cap : Nat) (xs : List Int) (hs : a.eval s = .slice ao n cap) (hown : Own B E w ao n cap xs)
    (a2 : Option Addr) (m c : Nat) (ys : List Int) (hx : a.eval x = .slice a2 m c) (hy : IntsAt w a2 m c ys) (hn : n + m ≤ 67108864) (hB : B ≤ w.heap.size)
    (h : ∀ ao' cap' w', Own B w'.heap.size w' ao' (n + m) cap' (xs ++ ys) → Chg (fun k => (Value.slice ao n cap).ownBlock = some k) w w' → K (a.put o.dst (.slice ao' (n + m) cap')) w') :
    if Region.wanted o (yielded ops a.tmps) = true then Oper.wp Try.prog o a w K Q else E0 := by
  have hw : Region.wanted o (yielded ops a.tmps) = true := by simp [Region.wanted, hgd]
  rw [if_pos hw]
  obtain ⟨i0, hi, hz0, hz1, hz2⟩ := info_parts Try.infoInt
  cases a2 with
  | none =>
    obtain ⟨rfl, rfl⟩ := hy.isNil rfl
    have hys : ys = [] := List.eq_nil_of_length_eq_zero hy.length
    subst hys
    have hrun := run_append_owned_none (P := Try.prog) (w := w) B 28 o.type 3 i0 1 Try.underlying28 hi _ n _ hown.1
    unfold Oper.wp
    simp [execOp, ho, resolve, invoke, builtin, hs, hx, hrun, Result.andThen]
    have := h ao cap w (by rw [List.append_nil]; exact Own.of hown.1) (Chg.refl _ _)
    exact this
  | some ad =>
    refine wp_append_own w s x _ ho B 3 i0 _ 1 8 Try.underlying28 hi hz0 hz1 hz2 rfl (by decide) _ n _ hs hown.1 ad m c (ys.map (Value.int .i64)) hx (by simp; exact hy.length) ?_ (ints_oneCell _ _) ?_ ?_ hB ?_
    · intro j u hu
      have hj : j < m := by
        have := (List.getElem?_eq_some_iff.1 hu).1
        simpa [hy.length] using this
      obtain ⟨b, oo, e, _, hc⟩ := hy.cell j hj
      simp only [Option.some.injEq] at e
      subst e
      rw [Addr.add_lit, hc j hj]
      have hl := hy.length
      rw [List.getElem?_map, List.getElem?_eq_getElem (by omega)] at hu
      simp only [Option.map_some, Option.some.injEq] at hu
      rw [← hu, List.getD_eq_getElem?_getD, List.getElem?_eq_getElem (by omega)]
      rfl
    · unfold maxLen; omega
    · omega
    · intro v' w1 hown' hgrow hnil
      have hv : ∃ ao' cap', v' = .slice ao' (n + m) cap' := by
        rcases hown'.2 with ⟨e, hz⟩ | ⟨g, c, cur, e, _⟩
        · exact ⟨none, 0, by rw [e, hz]⟩
        · exact ⟨_, _, e⟩
      obtain ⟨ao', cap', rfl⟩ := hv
      refine h ao' cap' w1 (Own.of (by rw [List.map_append]; exact hown')) ?_
      exact (Chg.ofGrown hgrow).mono (fun k hk => hk.symm)

/-- the same, the frame carried along -/
theorem step_catB {ops : Array Oper} {o : Oper} {a : Act} {K : Act → World → Prop} {Q : Exit → Act → World → Prop} {E0 : Prop} (w0 w : World) (hgd : o.guard = none) (s x : Operand)
    (ho : o.op = .call { callee := .builtin .append, args := #[s, x], argTypes := #[28, 28] })
    (E : Nat) (ao : Option Addr) (n cap : Nat) (xs : List Int) (hs : a.eval s = .slice ao n cap)
    (a2 : Option Addr) (m c : Nat) (ys : List Int) (hx : a.eval x = .slice a2 m c) (hacc : Below w0.heap.size w0 w) (hown : Own w0.heap.size E w ao n cap xs) (hy : IntsAt w a2 m c ys) (hn : n + m ≤ 67108864)
    (h : ∀ ao' cap' w', Own w0.heap.size w'.heap.size w' ao' (n + m) cap' (xs ++ ys) → Below w0.heap.size w0 w' → K (a.put o.dst (.slice ao' (n + m) cap')) w') :
    if Region.wanted o (yielded ops a.tmps) = true then Oper.wp Try.prog o a w K Q else E0 :=
  step_cat w hgd s x ho w0.heap.size E ao n cap xs hs hown a2 m c ys hx hy hn hacc.size (fun ao' cap' w' h1 h2 => h ao' cap' w' h1 (hacc.trans (Own.chgBelow hown h2 hacc.size)))

theorem wpList_from {ops : Array Oper} {rest : List Oper} {o : Oper} {a : Act} {Q : Exit → Act → World → Prop} (w : World) (hgd : o.guard = none) (x l : Operand)
    (ho : o.op = .slice 28 x (some l) none none) (ao : Option Addr) (n cap lo : Nat) (xs : List Int) (L : Int) (k : IntKind) (hx : a.eval x = .slice ao n cap) (hl : a.eval l = .int k L) (hL : L = (lo : Nat)) (hlo : lo ≤ n)
    (h : IntsAt w ao n cap xs) (hK : ∀ ao', IntsAt w ao' (n - lo) (cap - lo) (xs.drop lo) → wpList Try.prog ops Q rest (a.put o.dst (.slice ao' (n - lo) (cap - lo))) w) : wpList Try.prog ops Q (o :: rest) a w := by
  subst hL
  refine wpList_plain hgd fun K hK' => ?_
  have hrun := run_slice_l (P := Try.prog) (w := w) 28 ao n cap Try.underlying28 k (lo : Int) (by omega) (by omega)
  rw [sizeInt] at hrun
  have hat : (Instr.sliceAt 28 (.slice ao n cap) (some (.int k (lo : Int))) none none).run Try.prog w = .ok (.slice (if cap = lo then ao else ao.map (·.add (lo * 1))) (n - lo) (cap - lo)) w := by
    rw [run_sliceAt_slice _ _ _ _ _ _ Try.underlying28, hrun]
    simp [Result.andThen, sliced]
  unfold Oper.wp
  simp [execOp, ho, hx, hl, hat, Result.andThen]
  have := hK _ (h.drop lo hlo)
  simp only [Nat.mul_one] at this
  exact hK' _ _ this

theorem wpList_upto {ops : Array Oper} {rest : List Oper} {o : Oper} {a : Act} {Q : Exit → Act → World → Prop} (w : World) (hgd : o.guard = none) (x l : Operand)
    (ho : o.op = .slice 28 x none (some l) none) (ao : Option Addr) (n cap hi : Nat) (xs : List Int) (L : Int) (k : IntKind) (hx : a.eval x = .slice ao n cap) (hl : a.eval l = .int k L) (hL : L = (hi : Nat)) (hhi : hi ≤ n)
    (h : IntsAt w ao n cap xs) (hK : ∀ ao', IntsAt w ao' hi cap (xs.take hi) → wpList Try.prog ops Q rest (a.put o.dst (.slice ao' hi cap)) w) : wpList Try.prog ops Q (o :: rest) a w := by
  subst hL
  refine wpList_plain hgd fun K hK' => ?_
  have hrun := run_slice_h (P := Try.prog) (w := w) 28 ao n cap Try.underlying28 k (hi : Int) (by omega) (by have := h.le; omega)
  rw [sizeInt] at hrun
  have hat : (Instr.sliceAt 28 (.slice ao n cap) none (some (.int k (hi : Int))) none).run Try.prog w = .ok (.slice (if cap = 0 then ao else ao.map (·.add (0 * 1))) hi cap) w := by
    rw [run_sliceAt_slice _ _ _ _ _ _ Try.underlying28, hrun]
    simp [Result.andThen, sliced]
  unfold Oper.wp
  simp [execOp, ho, hx, hl, hat, Result.andThen]
  have := hK _ (h.take hi hhi)
  simp only [Nat.zero_mul] at this
  exact hK' _ _ this

theorem wpList_pushR {ops : Array Oper} {rest : List Oper} {o : Oper} {a : Act} {Q : Exit → Act → World → Prop} (w : World) (hgd : o.guard = none) (s x : Operand)
    (ho : o.op = .call { callee := .builtin .append, args := #[s, x], argTypes := #[58, 58] })
    (B E : Nat) (ao : Option Addr) (n cap : Nat) (xss : List (List Int)) (hs : a.eval s = .slice ao n cap) (hown : OwnRows B E w ao n cap xss) (hE : E ≤ w.heap.size)
    (a2 : Option Addr) (m c C : Nat) (ys : List Int) (hy : Own C w.heap.size w a2 m c ys) (hC : B ≤ C) (hap : ∀ g, (Value.slice a2 m c).ownBlock = some g → E ≤ g)
    (hx : a.eval x = .slice (some ⟨w.heap.size, 0, none⟩) 1 1) (hn : n ≤ 67108864) (hB : B ≤ w.heap.size)
    (h : ∀ ao' cap' w', OwnRows B w'.heap.size w' ao' (n + 1) cap' (xss ++ [ys]) → Chg (fun k => (Value.slice ao n cap).ownBlock = some k) w w' → wpList Try.prog ops Q rest (a.put o.dst (.slice ao' (n + 1) cap')) w') :
    wpList Try.prog ops Q (o :: rest) a (w.alloc (.cells #[.slice a2 m c] 28)) := by
  obtain ⟨vs, h1, h2, h3, h4⟩ := hown
  refine wpList_pushV w hgd s x 58 ho 28 _ 24 Try.underlying58 Try.infoInts rfl (by decide) B E ao n cap vs hs h1 _ rfl hx hn hB (fun ao' cap' w' ho' hc => h ao' cap' w' ?_ hc)
  have hl := h1.length
  have hty : ∀ {k ty A N K V}, OwnRow B w.heap.size w ty A N K V → (Value.slice A N K).ownBlock = some k → (Value.slice ao n cap).ownBlock = some k → ty = 28 := by
    intro k ty A N K V hr e1 e2
    rcases hr.1.2 with ⟨hv, _⟩ | ⟨g', c', cur, hv, _, hh, _⟩
    · rw [hv] at e1; simp [Value.ownBlock] at e1
    · rcases h1.1.2 with ⟨hv', _⟩ | ⟨g2, c2, cur2, hv', _, hh2, _⟩
      · rw [hv'] at e2; simp [Value.ownBlock] at e2
      · rw [hv] at e1; rw [hv'] at e2; simp [Value.ownBlock] at e1 e2; subst e1; subst e2; rw [hh] at hh2; simp at hh2; exact hh2.2
  refine ⟨vs ++ [.slice a2 m c], ho', by simp; exact h2, fun i hi => ?_, fun i j hij hj => ?_⟩
  · by_cases hin : i < n
    · obtain ⟨a', m', c', e, ho⟩ := h3 i hin
      refine ⟨a', m', c', ?_, ?_⟩
      · rw [List.getD_eq_getElem?_getD, List.getElem?_append_left (by omega), ← List.getD_eq_getElem?_getD]; exact e
      · rw [List.getD_eq_getElem?_getD, List.getElem?_append_left (by omega), ← List.getD_eq_getElem?_getD]
        refine Own.mono (Own.chg ho hc fun g _ _ hg hs' => ?_) (Nat.le_refl _) (Nat.le_trans hE hc.size)
        have := hty (ho.mono (Nat.le_refl _) hE) hg hs'
        exact absurd this (by decide)
    · obtain rfl : i = n := by omega
      refine ⟨a2, m, c, ?_, ?_⟩
      · rw [List.getD_eq_getElem?_getD, List.getElem?_append_right (by omega), hl]; simp
      · rw [List.getD_eq_getElem?_getD, List.getElem?_append_right (by omega), h2]
        simp only [Nat.sub_self, List.getElem?_cons_zero, Option.getD_some]
        refine Own.mono (Own.chg hy hc fun g _ _ hg hs' => ?_) hC hc.size
        have := hty (hy.mono hC (Nat.le_refl _)) hg hs'
        exact absurd this (by decide)
  · by_cases hjn : j < n
    · rw [List.getD_eq_getElem?_getD, List.getElem?_append_left (by omega), ← List.getD_eq_getElem?_getD, List.getD_eq_getElem?_getD (i := j), List.getElem?_append_left (by omega), ← List.getD_eq_getElem?_getD]
      exact h4 i j hij hjn
    · obtain rfl : j = n := by omega
      obtain ⟨a', m', c', e, ho⟩ := h3 i hij
      rw [List.getD_eq_getElem?_getD, List.getElem?_append_left (by omega), ← List.getD_eq_getElem?_getD, e, List.getD_eq_getElem?_getD, List.getElem?_append_right (by omega), hl]
      simp only [Nat.sub_self, List.getElem?_cons_zero, Option.getD_some]
      unfold apart
      rcases Own.cases ho with ⟨rfl, _⟩ | ⟨g, rfl, _, hgE, _⟩
      · exact .inl rfl
      · refine .inr fun hh => ?_
        have := hap g hh.symm
        omega
end Go.Proofs.Ytbkihnejgcebpaa
