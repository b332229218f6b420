/- Lists of lists: one list, lists put in between, parts that are appended. No condition but sizes. -/
import Derived.Test.YtdfmljkjidepeaaGreatDoorGb
import Derived.Test.YtdfmljkjidepeaaGreatDoorHelp
import Derived.Deep.RegionLaw
namespace Go.Proofs.YtdfmljkjidepeaaGreatDoor
open Go.RowKit
set_option linter.unusedVariables false
set_option maxRecDepth 20000
set_option linter.unusedSimpArgs false

/-! ### Slices of values that can be read -/
structure ValsAt (w : World) (ao : Option Addr) (n cap : Nat) (vs : List Value) : Prop where
  length : vs.length = n
  le : n ≤ cap
  max : cap ≤ maxLen
  isNil : ao = none → n = 0 ∧ cap = 0
  cell : ∀ j, j < n → ∃ b o, ao = some ⟨b, o, none⟩ ∧ b < w.heap.size ∧ ∀ i, i < n → w.cell? ⟨b, o + i, none⟩ = some (vs.getD i undef)
theorem ValsAt.keep {w w' ao n cap xs} (h : ValsAt w ao n cap xs) (hb : Below w.heap.size w w') : ValsAt w' ao n cap xs := by
  refine ⟨h.length, h.le, h.max, h.isNil, fun j hj => ?_⟩
  obtain ⟨b, o, e, hlt, hc⟩ := h.cell j hj
  refine ⟨b, o, e, Nat.lt_of_lt_of_le hlt hb.size, fun i hi => ?_⟩
  rw [hb.cell (p := ⟨b, o + i, none⟩) hlt]
  exact hc i hi
theorem OwnRow.at {B E w ty ao n cap vs} (h : OwnRow B E w ty ao n cap vs) : ValsAt w ao n cap vs := by
  rcases h.1.2 with ⟨hv, hn⟩ | ⟨g, c, cur, hv, hg, hh, hnc, hcm, hcs, htake⟩
  · simp only [Value.slice.injEq] at hv
    obtain ⟨rfl, _, rfl⟩ := hv
    exact ⟨h.length, by omega, Nat.zero_le _, fun _ => ⟨hn, rfl⟩, fun j hj => by omega⟩
  · simp only [Value.slice.injEq] at hv
    obtain ⟨rfl, _, rfl⟩ := hv
    refine ⟨h.length, hnc, hcm, fun e => by simp at e, fun j hj => ⟨g, 0, rfl, (Array.getElem?_eq_some_iff.1 hh).1, fun i hi => ?_⟩⟩
    have hl := h.length
    have := World.ownsRow.cellAt h.1 i (by omega)
    simp only [Nat.zero_add]
    rw [this, List.getElem?_eq_getElem (by omega), List.getD_eq_getElem?_getD, List.getElem?_eq_getElem (by omega)]
    rfl
theorem ValsAt.drop {w ao n cap xs} (h : ValsAt w ao n cap xs) (lo : Nat) (hlo : lo ≤ n) : ValsAt w (if cap = lo then ao else ao.map (·.add (lo * 1))) (n - lo) (cap - lo) (xs.drop lo) := by
  have hl := h.length
  have hle := h.le
  refine ⟨by simp; omega, by omega, Nat.le_trans (Nat.sub_le _ _) h.max, fun e => ?_, fun j hj => ?_⟩
  · have : ao = none := by
      by_cases hc : cap = lo
      · rwa [if_pos hc] at e
      · rw [if_neg hc] at e; simpa using e
    obtain ⟨rfl, rfl⟩ := h.isNil this
    omega
  · obtain ⟨b, oo, rfl, hb, hc⟩ := h.cell lo (by omega)
    refine ⟨b, oo + lo, ?_, hb, fun i hi => ?_⟩
    · rw [if_neg (by omega)]
      simp only [Option.map_some, Nat.mul_one, Addr.add_lit]
    · have := hc (lo + i) (by omega)
      rw [Nat.add_assoc, this, List.getD_eq_getElem?_getD, List.getD_eq_getElem?_getD, List.getElem?_drop]
theorem ValsAt.take {w ao n cap xs} (h : ValsAt w ao n cap xs) (hi : Nat) (hhi : hi ≤ n) : ValsAt w (if cap = 0 then ao else ao.map (·.add (0 * 1))) hi cap (xs.take hi) := by
  have hl := h.length
  have hle := h.le
  refine ⟨by simp; omega, by omega, h.max, fun e => ?_, fun j hj => ?_⟩
  · have : ao = none := by
      by_cases hc : cap = 0
      · rwa [if_pos hc] at e
      · rw [if_neg hc] at e; simpa using e
    obtain ⟨rfl, rfl⟩ := h.isNil this
    omega
  · obtain ⟨b, oo, rfl, hb, hc⟩ := h.cell j (by omega)
    refine ⟨b, oo, ?_, hb, fun i hi' => ?_⟩
    · rw [if_neg (by omega)]
      simp only [Option.map_some, Nat.zero_mul, Addr.add_lit]; rfl
    · rw [hc i (by omega), List.getD_eq_getElem?_getD, List.getD_eq_getElem?_getD, List.getElem?_take, if_pos hi']

theorem sizeInts (w : World) : (sizeOf (Tryz.prog.elem 45)).run Tryz.prog w = .ok 1 w := by kernel_rfl
theorem slFromR {ao n cap} (w0 : World) (vs : List Value) (h : ValsAt w0 ao n cap vs) (lo : Nat) (hlo : lo ≤ n) (k : IntKind) : ∃ a2, (∀ w : World, (Instr.sliceAt 45 (.slice ao n cap) (some (.int k (lo : Int))) none none).run Tryz.prog w = .ok (.slice a2 (n - lo) (cap - lo)) w) ∧ ValsAt w0 a2 (n - lo) (cap - lo) (vs.drop lo) := by
  refine ⟨if cap = lo then ao else ao.map (·.add (lo * 1)), fun w => ?_, h.drop lo hlo⟩
  have hrun := run_slice_l (P := Tryz.prog) (w := w) 45 ao n cap Tryz.underlying45 k (lo : Int) (by omega) (by omega)
  rw [sizeInts] at hrun
  rw [run_sliceAt_slice _ _ _ _ _ _ Tryz.underlying45, hrun]
  simp [Result.andThen, sliced]
theorem slUptoR {ao n cap} (w0 : World) (vs : List Value) (h : ValsAt w0 ao n cap vs) (hi : Nat) (hhi : hi ≤ n) (k : IntKind) : ∃ a2, (∀ w : World, (Instr.sliceAt 45 (.slice ao n cap) none (some (.int k (hi : Int))) none).run Tryz.prog w = .ok (.slice a2 hi cap) w) ∧ ValsAt w0 a2 hi cap (vs.take hi) := by
  refine ⟨if cap = 0 then ao else ao.map (·.add (0 * 1)), fun w => ?_, h.take hi hhi⟩
  have hrun := run_slice_h (P := Tryz.prog) (w := w) 45 ao n cap Tryz.underlying45 k (hi : Int) (by omega) (by have := h.le; omega)
  rw [sizeInts] at hrun
  rw [run_sliceAt_slice _ _ _ _ _ _ Tryz.underlying45, hrun]
  simp [Result.andThen, sliced]

/-- append of all of a slice of values -/
theorem wpList_catV {ops : Array Oper} {rest : List Oper} {o : Oper} {a : Act} {Q : Exit → Act → World → Prop} (w : World) (hgd : o.guard = none) (s x : Operand) (t : TypeId)
    (ho : o.op = .call { callee := .builtin .append, args := #[s, x], argTypes := #[t, t] }) (ty : TypeId) (z : Value) (bytes : Nat)
    (ht : Tryz.prog.underlying t = some (.slice ty)) (hinfo : (Tryz.prog.info? ty).map (fun i => (i.zero, i.size, i.bytes)) = some (some z, 1, bytes)) (hzs : z.cells.size = 1) (hbytes : bytes ≤ 1024)
    (B E : Nat) (ao : Option Addr) (n cap : Nat) (vs : List Value) (hs : a.eval s = .slice ao n cap) (hown : OwnRow B E w ty ao n cap vs)
    (a2 : Option Addr) (m c : Nat) (us : List Value) (hx : a.eval x = .slice a2 m c) (hy : ValsAt w a2 m c us) (h1 : ∀ u ∈ us, u.oneCell' = true) (hn : n + m ≤ 67108864) (hB : B ≤ w.heap.size)
    (h : ∀ ao' cap' w', OwnRow B w'.heap.size w' ty ao' (n + m) cap' (vs ++ us) → Chg (fun k => (Value.slice ao n cap).ownBlock = some k) w w' → wpList Tryz.prog ops Q rest (a.put o.dst (.slice ao' (n + m) cap')) w') :
    wpList Tryz.prog ops Q (o :: rest) a w := by
  obtain ⟨i0, hi, hz0, hz1, hz2⟩ := info_parts hinfo
  cases a2 with
  | none =>
    obtain ⟨rfl, rfl⟩ := hy.isNil rfl
    have hys : us = [] := List.eq_nil_of_length_eq_zero hy.length
    subst hys
    refine wpList_append_own_none hgd s x _ ho B ty i0 1 ht hi _ n _ hs hown.1 hx ?_
    have := h ao cap w (by rw [List.append_nil]; exact OwnRow.of hown.1) (Chg.refl _ _)
    exact this
  | some ad =>
    have hbb : (n + m) * bytes ≤ 67108864 * 1024 := Nat.mul_le_mul hn hbytes
    refine wpList_append_own _ hgd s x _ ho B ty i0 _ 1 bytes ht hi hz0 hz1 hz2 hzs (by decide) _ n _ hs hown.1 ad m c us hx (by simp; exact hy.length) ?_ h1 ?_ ?_ hB ?_
    · intro j u hu
      have hj : j < m := by
        have := (List.getElem?_eq_some_iff.1 hu).1
        rw [hy.length] at this
        exact this
      obtain ⟨b, oo, e, _, hc⟩ := hy.cell j hj
      simp only [Option.some.injEq] at e
      subst e
      rw [Addr.add_lit, hc j hj, List.getD_eq_getElem?_getD, hu]
      rfl
    · unfold maxLen; omega
    · omega
    · intro v' w1 hown' hgrow hnil
      have hv : ∃ ao' cap', v' = .slice ao' (n + m) cap' := by
        rcases hown'.2 with ⟨e, hz⟩ | ⟨g, c, cur, e, _⟩
        · exact ⟨none, 0, by rw [e, hz]⟩
        · exact ⟨_, _, e⟩
      obtain ⟨ao', cap', rfl⟩ := hv
      refine h ao' cap' w1 (OwnRow.of hown') ?_
      exact (Chg.ofGrown hgrow).mono (fun k hk => hk.symm)

theorem step_catV {ops : Array Oper} {o : Oper} {a : Act} {K : Act → World → Prop} {Q : Exit → Act → World → Prop} {E0 : Prop} (w : World) (hgd : o.guard = none) (s x : Operand) (t : TypeId)
    (ho : o.op = .call { callee := .builtin .append, args := #[s, x], argTypes := #[t, t] }) (ty : TypeId) (z : Value) (bytes : Nat)
    (ht : Tryz.prog.underlying t = some (.slice ty)) (hinfo : (Tryz.prog.info? ty).map (fun i => (i.zero, i.size, i.bytes)) = some (some z, 1, bytes)) (hzs : z.cells.size = 1) (hbytes : bytes ≤ 1024)
    (B E : Nat) (ao : Option Addr) (n cap : Nat) (vs : List Value) (hs : a.eval s = .slice ao n cap) (hown : OwnRow B E w ty ao n cap vs)
    (a2 : Option Addr) (m c : Nat) (us : List Value) (hx : a.eval x = .slice a2 m c) (hy : ValsAt w a2 m c us) (h1 : ∀ u ∈ us, u.oneCell' = true) (hn : n + m ≤ 67108864) (hB : B ≤ w.heap.size)
    (h : ∀ ao' cap' w', OwnRow B w'.heap.size w' ty ao' (n + m) cap' (vs ++ us) → Chg (fun k => (Value.slice ao n cap).ownBlock = some k) w w' → K (a.put o.dst (.slice ao' (n + m) cap')) w') :
    if Region.wanted o (yielded ops a.tmps) = true then Oper.wp Tryz.prog o a w K Q else E0 := by
  have hw : Region.wanted o (yielded ops a.tmps) = true := by simp [Region.wanted, hgd]
  rw [if_pos hw]
  obtain ⟨i0, hi, hz0, hz1, hz2⟩ := info_parts hinfo
  cases a2 with
  | none =>
    obtain ⟨rfl, rfl⟩ := hy.isNil rfl
    have hys : us = [] := List.eq_nil_of_length_eq_zero hy.length
    subst hys
    have hrun := run_append_owned_none (P := Tryz.prog) (w := w) B t o.type ty i0 1 ht hi _ n _ hown.1
    unfold Oper.wp
    simp [execOp, ho, resolve, invoke, builtin, hs, hx, hrun, Result.andThen]
    have := h ao cap w (by rw [List.append_nil]; exact OwnRow.of hown.1) (Chg.refl _ _)
    exact this
  | some ad =>
    have hbb : (n + m) * bytes ≤ 67108864 * 1024 := Nat.mul_le_mul hn hbytes
    refine wp_append_own w s x _ ho B ty i0 _ 1 bytes ht hi hz0 hz1 hz2 hzs (by decide) _ n _ hs hown.1 ad m c us hx (by simp; exact hy.length) ?_ h1 ?_ ?_ hB ?_
    · intro j u hu
      have hj : j < m := by
        have := (List.getElem?_eq_some_iff.1 hu).1
        rw [hy.length] at this
        exact this
      obtain ⟨b, oo, e, _, hc⟩ := hy.cell j hj
      simp only [Option.some.injEq] at e
      subst e
      rw [Addr.add_lit, hc j hj, List.getD_eq_getElem?_getD, hu]
      rfl
    · unfold maxLen; omega
    · omega
    · intro v' w1 hown' hgrow hnil
      have hv : ∃ ao' cap', v' = .slice ao' (n + m) cap' := by
        rcases hown'.2 with ⟨e, hz⟩ | ⟨g, c, cur, e, _⟩
        · exact ⟨none, 0, by rw [e, hz]⟩
        · exact ⟨_, _, e⟩
      obtain ⟨ao', cap', rfl⟩ := hv
      refine h ao' cap' w1 (OwnRow.of hown') ?_
      exact (Chg.ofGrown hgrow).mono (fun k hk => hk.symm)

/-! ### The lists behind the values -/
structure RowsV (B E : Nat) (w : World) (vs : List Value) (xss : List (List Int)) : Prop where
  length : vs.length = xss.length
  row : ∀ i, i < xss.length → ∃ a m c, vs.getD i undef = .slice a m c ∧ Own B E w a m c (xss.getD i [])
  two : ∀ i j, i < j → j < xss.length → apart (vs.getD i undef) (vs.getD j undef)
theorem OwnRows.vals {B E w ao n cap xss} (h : OwnRows B E w ao n cap xss) : ∃ vs, OwnRow B E w 24 ao n cap vs ∧ RowsV B E w vs xss := by
  obtain ⟨vs, h1, h2, h3, h4⟩ := h
  exact ⟨vs, h1, by rw [h1.length, h2], fun i hi => h3 i (by omega), fun i j hij hj => h4 i j hij (by omega)⟩
theorem RowsV.rows {B E w ao n cap vs xss} (h : RowsV B E w vs xss) (h1 : OwnRow B E w 24 ao n cap vs) : OwnRows B E w ao n cap xss :=
  ⟨vs, h1, by rw [← h.length, h1.length], fun i hi => h.row i (by rw [← h.length, h1.length]; exact hi), fun i j hij hj => h.two i j hij (by rw [← h.length, h1.length]; exact hj)⟩
theorem RowsV.oneCell {B E w vs xss} (h : RowsV B E w vs xss) : ∀ u ∈ vs, u.oneCell' = true := by
  intro u hu
  obtain ⟨i, hi, rfl⟩ := List.getElem_of_mem hu
  obtain ⟨a, m, c, e, _⟩ := h.row i (by rw [← h.length]; exact hi)
  rw [List.getD_eq_getElem?_getD, List.getElem?_eq_getElem hi] at e
  simp only [Option.getD_some] at e
  rw [e]; rfl
theorem RowsV.mono {B B' E E' w vs xss} (h : RowsV B E w vs xss) (hB : B' ≤ B) (hE : E ≤ E') : RowsV B' E' w vs xss :=
  ⟨h.length, fun i hi => by obtain ⟨a, m, c, e, ho⟩ := h.row i hi; exact ⟨a, m, c, e, ho.mono hB hE⟩, h.two⟩
theorem RowsV.keep {B E w w' vs xss} (h : RowsV B E w vs xss) (hb : Below w.heap.size w w') : RowsV B E w' vs xss :=
  ⟨h.length, fun i hi => by obtain ⟨a, m, c, e, ho⟩ := h.row i hi; exact ⟨a, m, c, e, ho.keep hb⟩, h.two⟩

theorem getD_ins {α : Type} (l : List α) (v d : α) (k i : Nat) (hk : k ≤ l.length) : (l.take k ++ v :: l.drop k).getD i d = if i < k then l.getD i d else if i = k then v else l.getD (i - 1) d := by
  have hlen : (l.take k).length = k := by simp; omega
  by_cases h1 : i < k
  · rw [if_pos h1, List.getD_eq_getElem?_getD, List.getD_eq_getElem?_getD, List.getElem?_append_left (by omega), List.getElem?_take, if_pos h1]
  · rw [if_neg h1, List.getD_eq_getElem?_getD, List.getElem?_append_right (by omega), hlen]
    by_cases h2 : i = k
    · subst h2; simp
    · rw [if_neg h2, List.getD_eq_getElem?_getD]
      obtain ⟨j, rfl⟩ : ∃ j, i = k + 1 + j := ⟨i - k - 1, by omega⟩
      rw [show k + 1 + j - k = j + 1 by omega, List.getElem?_cons_succ, List.getElem?_drop]
      congr 2; omega
/-- a list that lies apart is put in between -/
theorem RowsV.ins {B E w vs xss} (h : RowsV B E w vs xss) (k : Nat) (hk : k ≤ xss.length) {a : Option Addr} {m c : Nat} {ys : List Int} {C E' : Nat} (hy : Own C E' w a m c ys) (hC : B ≤ C) (hE : E ≤ E') (hap : ∀ g, (Value.slice a m c).ownBlock = some g → E ≤ g) :
    RowsV B E' w (vs.take k ++ .slice a m c :: vs.drop k) (xss.take k ++ ys :: xss.drop k) := by
  have hl := h.length
  have hlen : (xss.take k ++ ys :: xss.drop k).length = xss.length + 1 := by simp; omega
  have far : ∀ i, i < xss.length → apart (vs.getD i undef) (.slice a m c) ∧ apart (.slice a m c) (vs.getD i undef) := by
    intro i hi
    obtain ⟨a', m', c', e, ho⟩ := h.row i hi
    rw [e]
    unfold apart
    rcases Own.cases ho with ⟨rfl, _⟩ | ⟨g, rfl, _, hgE, _⟩
    · refine ⟨.inl rfl, ?_⟩
      cases hb : (Value.slice a m c).ownBlock with
      | none => exact .inl rfl
      | some q => exact .inr (by simp [Value.ownBlock])
    · refine ⟨.inr fun hh => ?_, ?_⟩
      · have := hap g hh.symm; omega
      · cases hb : (Value.slice a m c).ownBlock with
        | none => exact .inl rfl
        | some q =>
          refine .inr fun hh => ?_
          have := hap q hb
          simp [Value.ownBlock] at hh
          omega
  refine ⟨by rw [hlen]; simp; omega, fun i hi => ?_, fun i j hij hj => ?_⟩
  · rw [hlen] at hi
    rw [getD_ins _ _ _ _ _ (by omega), getD_ins _ _ _ _ _ hk]
    by_cases h1 : i < k
    · rw [if_pos h1, if_pos h1]
      obtain ⟨a', m', c', e, ho⟩ := h.row i (by omega)
      exact ⟨a', m', c', e, ho.mono (Nat.le_refl _) hE⟩
    · rw [if_neg h1, if_neg h1]
      by_cases h2 : i = k
      · rw [if_pos h2, if_pos h2]
        exact ⟨a, m, c, rfl, hy.mono hC (Nat.le_refl _)⟩
      · rw [if_neg h2, if_neg h2]
        obtain ⟨a', m', c', e, ho⟩ := h.row (i - 1) (by omega)
        exact ⟨a', m', c', e, ho.mono (Nat.le_refl _) hE⟩
  · rw [hlen] at hj
    rw [getD_ins _ _ _ _ _ (by omega), getD_ins _ _ _ _ _ (by omega)]
    by_cases h1 : j < k
    · rw [if_pos h1, if_pos (by omega)]; exact h.two i j hij (by omega)
    · rw [if_neg h1]
      by_cases h2 : j = k
      · rw [if_pos h2, if_pos (by omega)]; exact (far i (by omega)).1
      · rw [if_neg h2]
        by_cases h3 : i < k
        · rw [if_pos h3]; exact h.two i (j - 1) (by omega) (by omega)
        · rw [if_neg h3]
          by_cases h4 : i = k
          · rw [if_pos h4]; exact (far (j - 1) (by omega)).2
          · rw [if_neg h4]; exact h.two (i - 1) (j - 1) (by omega) (by omega)

/-- a list of one list -/
theorem OwnRows.one {C E0 : Nat} {w : World} {a : Option Addr} {m c : Nat} {ys : List Int} (h : Own C E0 w a m c ys) (B : Nat) (hC : B ≤ C) (hB : B ≤ w.heap.size) (hE : E0 ≤ w.heap.size + 1) :
    OwnRows B (w.heap.size + 1) (w.alloc (.cells #[.slice a m c] 24)) (some ⟨w.heap.size, 0, none⟩) 1 1 [ys] := by
  have ho : OwnRow B (w.heap.size + 1) (w.alloc (.cells #[.slice a m c] 24)) 24 (some ⟨w.heap.size, 0, none⟩) 1 1 [.slice a m c] := by
    refine ⟨⟨rfl, .inr ⟨w.heap.size, 1, #[.slice a m c], rfl, hB, ?_, Nat.le_refl _, by unfold maxLen; omega, rfl, rfl⟩⟩, fun g hg => ?_⟩
    · exact heap_alloc_new w _
    · simp [Value.ownBlock] at hg; omega
  refine ⟨_, ho, rfl, fun i hi => ?_, fun i j hij hj => by omega⟩
  obtain rfl : i = 0 := by omega
  exact ⟨a, m, c, rfl, (h.keep (belowAlloc w _)).mono hC hE⟩
/-- the empty list of lists that '[][]int{}' makes -/
theorem OwnRow.empty (w : World) : OwnRow w.heap.size (w.heap.size + 1) (w.alloc (.cells #[] 24)) 24 (some ⟨w.heap.size, 0, none⟩) 0 0 [] := by
  have := OwnRow.of (World.ownsRow_made (e := 24) (size := 1) w #[] 0 (Nat.le_refl _) (Nat.zero_le _) rfl)
  simpa using this
theorem total_le (xss : List (List Int)) (b : Nat) (h : ∀ xs ∈ xss, xs.length ≤ b) : total xss ≤ xss.length * b := by
  induction xss with
  | nil => simp [total]
  | cons x l ih =>
    have := ih (fun y hy => h y (by simp [hy]))
    have h1 := h x (by simp)
    unfold total at *
    simp only [List.map_cons, List.sum_cons, List.length_cons]
    rw [Nat.add_mul]
    omega
end Go.Proofs.YtdfmljkjidepeaaGreatDoor
