/- Several texts in one: RowsV, AppX, RowsR, SmA. No condition. -/
import Derived.Test.YtimmjimeldejjaaGreatDoorGb
import Derived.Test.YtimmjimeldejjaaGreatDoorHelp
import Derived.Deep.RegionLaw
namespace Go.Proofs.YtimmjimeldejjaaGreatDoor
section
open Go.RowKit
set_option linter.unusedVariables false
set_option maxRecDepth 20000
set_option linter.unusedSimpArgs false

/-! ### Slices of values that can be read -/
structure ValsAt (w : World) (ao : Option Addr) (n cap : Nat) (vs : List Value) : Prop where
  length : vs.length = n
  le : n ≤ cap
  max : cap ≤ maxLen
  isNil : ao = none → n = 0 ∧ cap = 0
  cell : ∀ j, j < n → ∃ b o, ao = some ⟨b, o, none⟩ ∧ b < w.heap.size ∧ ∀ i, i < n → w.cell? ⟨b, o + i, none⟩ = some (vs.getD i undef)
theorem ValsAt.keep {w w' ao n cap xs} (h : ValsAt w ao n cap xs) (hb : Below w.heap.size w w') : ValsAt w' ao n cap xs := by
  refine ⟨h.length, h.le, h.max, h.isNil, fun j hj => ?_⟩
  obtain ⟨b, o, e, hlt, hc⟩ := h.cell j hj
  refine ⟨b, o, e, Nat.lt_of_lt_of_le hlt hb.size, fun i hi => ?_⟩
  rw [hb.cell (p := ⟨b, o + i, none⟩) hlt]
  exact hc i hi
theorem OwnRow.at {B E w ty ao n cap vs} (h : OwnRow B E w ty ao n cap vs) : ValsAt w ao n cap vs := by
  rcases h.1.2 with ⟨hv, hn⟩ | ⟨g, c, cur, hv, hg, hh, hnc, hcm, hcs, htake⟩
  · simp only [Value.slice.injEq] at hv
    obtain ⟨rfl, _, rfl⟩ := hv
    exact ⟨h.length, by omega, Nat.zero_le _, fun _ => ⟨hn, rfl⟩, fun j hj => by omega⟩
  · simp only [Value.slice.injEq] at hv
    obtain ⟨rfl, _, rfl⟩ := hv
    refine ⟨h.length, hnc, hcm, fun e => by simp at e, fun j hj => ⟨g, 0, rfl, (Array.getElem?_eq_some_iff.1 hh).1, fun i hi => ?_⟩⟩
    have hl := h.length
    have := World.ownsRow.cellAt h.1 i (by omega)
    simp only [Nat.zero_add]
    rw [this, List.getElem?_eq_getElem (by omega), List.getD_eq_getElem?_getD, List.getElem?_eq_getElem (by omega)]
    rfl
theorem ValsAt.drop {w ao n cap xs} (h : ValsAt w ao n cap xs) (lo : Nat) (hlo : lo ≤ n) : ValsAt w (if cap = lo then ao else ao.map (·.add (lo * 1))) (n - lo) (cap - lo) (xs.drop lo) := by
  have hl := h.length
  have hle := h.le
  refine ⟨by simp; omega, by omega, Nat.le_trans (Nat.sub_le _ _) h.max, fun e => ?_, fun j hj => ?_⟩
  · have : ao = none := by
      by_cases hc : cap = lo
      · rwa [if_pos hc] at e
      · rw [if_neg hc] at e; simpa using e
    obtain ⟨rfl, rfl⟩ := h.isNil this
    omega
  · obtain ⟨b, oo, rfl, hb, hc⟩ := h.cell lo (by omega)
    refine ⟨b, oo + lo, ?_, hb, fun i hi => ?_⟩
    · rw [if_neg (by omega)]
      simp only [Option.map_some, Nat.mul_one, Addr.add_lit]
    · have := hc (lo + i) (by omega)
      rw [Nat.add_assoc, this, List.getD_eq_getElem?_getD, List.getD_eq_getElem?_getD, List.getElem?_drop]
theorem ValsAt.take {w ao n cap xs} (h : ValsAt w ao n cap xs) (hi : Nat) (hhi : hi ≤ n) : ValsAt w (if cap = 0 then ao else ao.map (·.add (0 * 1))) hi cap (xs.take hi) := by
  have hl := h.length
  have hle := h.le
  refine ⟨by simp; omega, by omega, h.max, fun e => ?_, fun j hj => ?_⟩
  · have : ao = none := by
      by_cases hc : cap = 0
      · rwa [if_pos hc] at e
      · rw [if_neg hc] at e; simpa using e
    obtain ⟨rfl, rfl⟩ := h.isNil this
    omega
  · obtain ⟨b, oo, rfl, hb, hc⟩ := h.cell j (by omega)
    refine ⟨b, oo, ?_, hb, fun i hi' => ?_⟩
    · rw [if_neg (by omega)]
      simp only [Option.map_some, Nat.zero_mul, Addr.add_lit]; rfl
    · rw [hc i (by omega), List.getD_eq_getElem?_getD, List.getD_eq_getElem?_getD, List.getElem?_take, if_pos hi']

theorem sizeInts (w : World) : (sizeOf (Tryz.prog.elem 185)).run Tryz.prog w = .ok 1 w := by kernel_rfl
theorem slFromR {ao n cap} (w0 : World) (vs : List Value) (h : ValsAt w0 ao n cap vs) (lo : Nat) (hlo : lo ≤ n) (k : IntKind) : ∃ a2, (∀ w : World, (Instr.sliceAt 185 (.slice ao n cap) (some (.int k (lo : Int))) none none).run Tryz.prog w = .ok (.slice a2 (n - lo) (cap - lo)) w) ∧ ValsAt w0 a2 (n - lo) (cap - lo) (vs.drop lo) := by
  refine ⟨if cap = lo then ao else ao.map (·.add (lo * 1)), fun w => ?_, h.drop lo hlo⟩
  have hrun := run_slice_l (P := Tryz.prog) (w := w) 185 ao n cap Tryz.underlying185 k (lo : Int) (by omega) (by omega)
  rw [sizeInts] at hrun
  rw [run_sliceAt_slice _ _ _ _ _ _ Tryz.underlying185, hrun]
  simp [Result.andThen, sliced]
theorem slUptoR {ao n cap} (w0 : World) (vs : List Value) (h : ValsAt w0 ao n cap vs) (hi : Nat) (hhi : hi ≤ n) (k : IntKind) : ∃ a2, (∀ w : World, (Instr.sliceAt 185 (.slice ao n cap) none (some (.int k (hi : Int))) none).run Tryz.prog w = .ok (.slice a2 hi cap) w) ∧ ValsAt w0 a2 hi cap (vs.take hi) := by
  refine ⟨if cap = 0 then ao else ao.map (·.add (0 * 1)), fun w => ?_, h.take hi hhi⟩
  have hrun := run_slice_h (P := Tryz.prog) (w := w) 185 ao n cap Tryz.underlying185 k (hi : Int) (by omega) (by have := h.le; omega)
  rw [sizeInts] at hrun
  rw [run_sliceAt_slice _ _ _ _ _ _ Tryz.underlying185, hrun]
  simp [Result.andThen, sliced]

/-- append of all of a slice of values -/
theorem wpList_catV {ops : Array Oper} {rest : List Oper} {o : Oper} {a : Act} {Q : Exit → Act → World → Prop} (w : World) (hgd : o.guard = none) (s x : Operand) (t : TypeId)
    (ho : o.op = .call { callee := .builtin .append, args := #[s, x], argTypes := #[t, t] }) (ty : TypeId) (z : Value) (bytes : Nat)
    (ht : Tryz.prog.underlying t = some (.slice ty)) (hinfo : (Tryz.prog.info? ty).map (fun i => (i.zero, i.size, i.bytes)) = some (some z, 1, bytes)) (hzs : z.cells.size = 1) (hbytes : bytes ≤ 1024)
    (B E : Nat) (ao : Option Addr) (n cap : Nat) (vs : List Value) (hs : a.eval s = .slice ao n cap) (hown : OwnRow B E w ty ao n cap vs)
    (a2 : Option Addr) (m c : Nat) (us : List Value) (hx : a.eval x = .slice a2 m c) (hy : ValsAt w a2 m c us) (h1 : ∀ u ∈ us, u.oneCell' = true) (hn : n + m ≤ 67108864) (hB : B ≤ w.heap.size)
    (h : ∀ ao' cap' w', OwnRow B w'.heap.size w' ty ao' (n + m) cap' (vs ++ us) → Chg (fun k => (Value.slice ao n cap).ownBlock = some k) w w' → wpList Tryz.prog ops Q rest (a.put o.dst (.slice ao' (n + m) cap')) w') :
    wpList Tryz.prog ops Q (o :: rest) a w := by
  obtain ⟨i0, hi, hz0, hz1, hz2⟩ := info_parts hinfo
  cases a2 with
  | none =>
    obtain ⟨rfl, rfl⟩ := hy.isNil rfl
    have hys : us = [] := List.eq_nil_of_length_eq_zero hy.length
    subst hys
    refine wpList_append_own_none hgd s x _ ho B ty i0 1 ht hi _ n _ hs hown.1 hx ?_
    have := h ao cap w (by rw [List.append_nil]; exact OwnRow.of hown.1) (Chg.refl _ _)
    exact this
  | some ad =>
    have hbb : (n + m) * bytes ≤ 67108864 * 1024 := Nat.mul_le_mul hn hbytes
    refine wpList_append_own _ hgd s x _ ho B ty i0 _ 1 bytes ht hi hz0 hz1 hz2 hzs (by decide) _ n _ hs hown.1 ad m c us hx (by simp; exact hy.length) ?_ h1 ?_ ?_ hB ?_
    · intro j u hu
      have hj : j < m := by
        have := (List.getElem?_eq_some_iff.1 hu).1
        rw [hy.length] at this
        exact this
      obtain ⟨b, oo, e, _, hc⟩ := hy.cell j hj
      simp only [Option.some.injEq] at e
      subst e
      rw [Addr.add_lit, hc j hj, List.getD_eq_getElem?_getD, hu]
      rfl
    · unfold maxLen; omega
    · omega
    · intro v' w1 hown' hgrow hnil
      have hv : ∃ ao' cap', v' = .slice ao' (n + m) cap' := by
        rcases hown'.2 with ⟨e, hz⟩ | ⟨g, c, cur, e, _⟩
        · exact ⟨none, 0, by rw [e, hz]⟩
        · exact ⟨_, _, e⟩
      obtain ⟨ao', cap', rfl⟩ := hv
      refine h ao' cap' w1 (OwnRow.of hown') ?_
      exact (Chg.ofGrown hgrow).mono (fun k hk => hk.symm)

theorem step_catV {ops : Array Oper} {o : Oper} {a : Act} {K : Act → World → Prop} {Q : Exit → Act → World → Prop} {E0 : Prop} (w : World) (hgd : o.guard = none) (s x : Operand) (t : TypeId)
    (ho : o.op = .call { callee := .builtin .append, args := #[s, x], argTypes := #[t, t] }) (ty : TypeId) (z : Value) (bytes : Nat)
    (ht : Tryz.prog.underlying t = some (.slice ty)) (hinfo : (Tryz.prog.info? ty).map (fun i => (i.zero, i.size, i.bytes)) = some (some z, 1, bytes)) (hzs : z.cells.size = 1) (hbytes : bytes ≤ 1024)
    (B E : Nat) (ao : Option Addr) (n cap : Nat) (vs : List Value) (hs : a.eval s = .slice ao n cap) (hown : OwnRow B E w ty ao n cap vs)
    (a2 : Option Addr) (m c : Nat) (us : List Value) (hx : a.eval x = .slice a2 m c) (hy : ValsAt w a2 m c us) (h1 : ∀ u ∈ us, u.oneCell' = true) (hn : n + m ≤ 67108864) (hB : B ≤ w.heap.size)
    (h : ∀ ao' cap' w', OwnRow B w'.heap.size w' ty ao' (n + m) cap' (vs ++ us) → Chg (fun k => (Value.slice ao n cap).ownBlock = some k) w w' → K (a.put o.dst (.slice ao' (n + m) cap')) w') :
    if Region.wanted o (yielded ops a.tmps) = true then Oper.wp Tryz.prog o a w K Q else E0 := by
  have hw : Region.wanted o (yielded ops a.tmps) = true := by simp [Region.wanted, hgd]
  rw [if_pos hw]
  obtain ⟨i0, hi, hz0, hz1, hz2⟩ := info_parts hinfo
  cases a2 with
  | none =>
    obtain ⟨rfl, rfl⟩ := hy.isNil rfl
    have hys : us = [] := List.eq_nil_of_length_eq_zero hy.length
    subst hys
    have hrun := run_append_owned_none (P := Tryz.prog) (w := w) B t o.type ty i0 1 ht hi _ n _ hown.1
    unfold Oper.wp
    simp [execOp, ho, resolve, invoke, builtin, hs, hx, hrun, Result.andThen]
    have := h ao cap w (by rw [List.append_nil]; exact OwnRow.of hown.1) (Chg.refl _ _)
    exact this
  | some ad =>
    have hbb : (n + m) * bytes ≤ 67108864 * 1024 := Nat.mul_le_mul hn hbytes
    refine wp_append_own w s x _ ho B ty i0 _ 1 bytes ht hi hz0 hz1 hz2 hzs (by decide) _ n _ hs hown.1 ad m c us hx (by simp; exact hy.length) ?_ h1 ?_ ?_ hB ?_
    · intro j u hu
      have hj : j < m := by
        have := (List.getElem?_eq_some_iff.1 hu).1
        rw [hy.length] at this
        exact this
      obtain ⟨b, oo, e, _, hc⟩ := hy.cell j hj
      simp only [Option.some.injEq] at e
      subst e
      rw [Addr.add_lit, hc j hj, List.getD_eq_getElem?_getD, hu]
      rfl
    · unfold maxLen; omega
    · omega
    · intro v' w1 hown' hgrow hnil
      have hv : ∃ ao' cap', v' = .slice ao' (n + m) cap' := by
        rcases hown'.2 with ⟨e, hz⟩ | ⟨g, c, cur, e, _⟩
        · exact ⟨none, 0, by rw [e, hz]⟩
        · exact ⟨_, _, e⟩
      obtain ⟨ao', cap', rfl⟩ := hv
      refine h ao' cap' w1 (OwnRow.of hown') ?_
      exact (Chg.ofGrown hgrow).mono (fun k hk => hk.symm)

/-! ### The lists behind the values -/
structure RowsV (B E : Nat) (w : World) (vs : List Value) (xss : List (List Int)) : Prop where
  length : vs.length = xss.length
  row : ∀ i, i < xss.length → ∃ a m c, vs.getD i undef = .slice a m c ∧ Own B E w a m c (xss.getD i [])
  two : ∀ i j, i < j → j < xss.length → apart (vs.getD i undef) (vs.getD j undef)
theorem OwnRows.vals {B E w ao n cap xss} (h : OwnRows B E w ao n cap xss) : ∃ vs, OwnRow B E w 24 ao n cap vs ∧ RowsV B E w vs xss := by
  obtain ⟨vs, h1, h2, h3, h4⟩ := h
  exact ⟨vs, h1, by rw [h1.length, h2], fun i hi => h3 i (by omega), fun i j hij hj => h4 i j hij (by omega)⟩
theorem RowsV.rows {B E w ao n cap vs xss} (h : RowsV B E w vs xss) (h1 : OwnRow B E w 24 ao n cap vs) : OwnRows B E w ao n cap xss :=
  ⟨vs, h1, by rw [← h.length, h1.length], fun i hi => h.row i (by rw [← h.length, h1.length]; exact hi), fun i j hij hj => h.two i j hij (by rw [← h.length, h1.length]; exact hj)⟩
theorem RowsV.oneCell {B E w vs xss} (h : RowsV B E w vs xss) : ∀ u ∈ vs, u.oneCell' = true := by
  intro u hu
  obtain ⟨i, hi, rfl⟩ := List.getElem_of_mem hu
  obtain ⟨a, m, c, e, _⟩ := h.row i (by rw [← h.length]; exact hi)
  rw [List.getD_eq_getElem?_getD, List.getElem?_eq_getElem hi] at e
  simp only [Option.getD_some] at e
  rw [e]; rfl
theorem RowsV.mono {B B' E E' w vs xss} (h : RowsV B E w vs xss) (hB : B' ≤ B) (hE : E ≤ E') : RowsV B' E' w vs xss :=
  ⟨h.length, fun i hi => by obtain ⟨a, m, c, e, ho⟩ := h.row i hi; exact ⟨a, m, c, e, ho.mono hB hE⟩, h.two⟩
theorem RowsV.keep {B E w w' vs xss} (h : RowsV B E w vs xss) (hb : Below w.heap.size w w') : RowsV B E w' vs xss :=
  ⟨h.length, fun i hi => by obtain ⟨a, m, c, e, ho⟩ := h.row i hi; exact ⟨a, m, c, e, ho.keep hb⟩, h.two⟩

theorem getD_ins {α : Type} (l : List α) (v d : α) (k i : Nat) (hk : k ≤ l.length) : (l.take k ++ v :: l.drop k).getD i d = if i < k then l.getD i d else if i = k then v else l.getD (i - 1) d := by
  have hlen : (l.take k).length = k := by simp; omega
  by_cases h1 : i < k
  · rw [if_pos h1, List.getD_eq_getElem?_getD, List.getD_eq_getElem?_getD, List.getElem?_append_left (by omega), List.getElem?_take, if_pos h1]
  · rw [if_neg h1, List.getD_eq_getElem?_getD, List.getElem?_append_right (by omega), hlen]
    by_cases h2 : i = k
    · subst h2; simp
    · rw [if_neg h2, List.getD_eq_getElem?_getD]
      obtain ⟨j, rfl⟩ : ∃ j, i = k + 1 + j := ⟨i - k - 1, by omega⟩
      rw [show k + 1 + j - k = j + 1 by omega, List.getElem?_cons_succ, List.getElem?_drop]
      congr 2; omega
/-- a list that lies apart is put in between -/
theorem RowsV.ins {B E w vs xss} (h : RowsV B E w vs xss) (k : Nat) (hk : k ≤ xss.length) {a : Option Addr} {m c : Nat} {ys : List Int} {C E' : Nat} (hy : Own C E' w a m c ys) (hC : B ≤ C) (hE : E ≤ E') (hap : ∀ g, (Value.slice a m c).ownBlock = some g → E ≤ g) :
    RowsV B E' w (vs.take k ++ .slice a m c :: vs.drop k) (xss.take k ++ ys :: xss.drop k) := by
  have hl := h.length
  have hlen : (xss.take k ++ ys :: xss.drop k).length = xss.length + 1 := by simp; omega
  have far : ∀ i, i < xss.length → apart (vs.getD i undef) (.slice a m c) ∧ apart (.slice a m c) (vs.getD i undef) := by
    intro i hi
    obtain ⟨a', m', c', e, ho⟩ := h.row i hi
    rw [e]
    unfold apart
    rcases Own.cases ho with ⟨rfl, _⟩ | ⟨g, rfl, _, hgE, _⟩
    · refine ⟨.inl rfl, ?_⟩
      cases hb : (Value.slice a m c).ownBlock with
      | none => exact .inl rfl
      | some q => exact .inr (by simp [Value.ownBlock])
    · refine ⟨.inr fun hh => ?_, ?_⟩
      · have := hap g hh.symm; omega
      · cases hb : (Value.slice a m c).ownBlock with
        | none => exact .inl rfl
        | some q =>
          refine .inr fun hh => ?_
          have := hap q hb
          simp [Value.ownBlock] at hh
          omega
  refine ⟨by rw [hlen]; simp; omega, fun i hi => ?_, fun i j hij hj => ?_⟩
  · rw [hlen] at hi
    rw [getD_ins _ _ _ _ _ (by omega), getD_ins _ _ _ _ _ hk]
    by_cases h1 : i < k
    · rw [if_pos h1, if_pos h1]
      obtain ⟨a', m', c', e, ho⟩ := h.row i (by omega)
      exact ⟨a', m', c', e, ho.mono (Nat.le_refl _) hE⟩
    · rw [if_neg h1, if_neg h1]
      by_cases h2 : i = k
      · rw [if_pos h2, if_pos h2]
        exact ⟨a, m, c, rfl, hy.mono hC (Nat.le_refl _)⟩
      · rw [if_neg h2, if_neg h2]
        obtain ⟨a', m', c', e, ho⟩ := h.row (i - 1) (by omega)
        exact ⟨a', m', c', e, ho.mono (Nat.le_refl _) hE⟩
  · rw [hlen] at hj
    rw [getD_ins _ _ _ _ _ (by omega), getD_ins _ _ _ _ _ (by omega)]
    by_cases h1 : j < k
    · rw [if_pos h1, if_pos (by omega)]; exact h.two i j hij (by omega)
    · rw [if_neg h1]
      by_cases h2 : j = k
      · rw [if_pos h2, if_pos (by omega)]; exact (far i (by omega)).1
      · rw [if_neg h2]
        by_cases h3 : i < k
        · rw [if_pos h3]; exact h.two i (j - 1) (by omega) (by omega)
        · rw [if_neg h3]
          by_cases h4 : i = k
          · rw [if_pos h4]; exact (far (j - 1) (by omega)).2
          · rw [if_neg h4]; exact h.two (i - 1) (j - 1) (by omega) (by omega)

/-- a list of one list -/
theorem OwnRows.one {C E0 : Nat} {w : World} {a : Option Addr} {m c : Nat} {ys : List Int} (h : Own C E0 w a m c ys) (B : Nat) (hC : B ≤ C) (hB : B ≤ w.heap.size) (hE : E0 ≤ w.heap.size + 1) :
    OwnRows B (w.heap.size + 1) (w.alloc (.cells #[.slice a m c] 24)) (some ⟨w.heap.size, 0, none⟩) 1 1 [ys] := by
  have ho : OwnRow B (w.heap.size + 1) (w.alloc (.cells #[.slice a m c] 24)) 24 (some ⟨w.heap.size, 0, none⟩) 1 1 [.slice a m c] := by
    refine ⟨⟨rfl, .inr ⟨w.heap.size, 1, #[.slice a m c], rfl, hB, ?_, Nat.le_refl _, by unfold maxLen; omega, rfl, rfl⟩⟩, fun g hg => ?_⟩
    · exact heap_alloc_new w _
    · simp [Value.ownBlock] at hg; omega
  refine ⟨_, ho, rfl, fun i hi => ?_, fun i j hij hj => by omega⟩
  obtain rfl : i = 0 := by omega
  exact ⟨a, m, c, rfl, (h.keep (belowAlloc w _)).mono hC hE⟩
/-- the empty list of lists that '[][]int{}' makes -/
theorem OwnRow.empty (w : World) : OwnRow w.heap.size (w.heap.size + 1) (w.alloc (.cells #[] 24)) 24 (some ⟨w.heap.size, 0, none⟩) 0 0 [] := by
  have := OwnRow.of (World.ownsRow_made (e := 24) (size := 1) w #[] 0 (Nat.le_refl _) (Nat.zero_le _) rfl)
  simpa using this
end
end Go.Proofs.YtimmjimeldejjaaGreatDoor
namespace Go.Proofs.YtimmjimeldejjaaGreatDoor
section
open Go.RowKit
set_option linter.unusedVariables false
set_option maxRecDepth 20000
set_option linter.unusedSimpArgs false

/-- the second one lies where the first one lies, or in a block that w does not have -/
def NewOr (w : World) (v v' : Value) : Prop := ∀ g, v'.ownBlock = some g → v.ownBlock = some g ∨ w.heap.size ≤ g
theorem NewOr.refl (w : World) (v : Value) : NewOr w v v := fun g h => .inl h
theorem NewOr.trans {w w1 : World} {v v1 v2 : Value} (h : NewOr w v v1) (hs : w.heap.size ≤ w1.heap.size) (k : NewOr w1 v1 v2) : NewOr w v v2 := fun g hg => by
  rcases k g hg with h' | h'
  · exact h g h'
  · exact .inr (Nat.le_trans hs h')

/-- the row stays where it is, or lies in a new block -/
def NewR (w w' : World) (ao : Option Addr) (cap : Nat) (ao' : Option Addr) (cap' : Nat) : Prop := (ao' = ao ∧ cap' = cap) ∨ ((∃ g, ao' = some ⟨g, 0, none⟩ ∧ w.heap.size ≤ g) ∧ Chg (fun _ => False) w w')

theorem run_app_x (w : World) (t ty e : TypeId) (z : Value) (bytes : Nat)
    (ht : Tryz.prog.underlying t = some (.slice e)) (hinfo : (Tryz.prog.info? e).map (fun i => (i.zero, i.size, i.bytes)) = some (some z, 1, bytes)) (hzs : z.cells.size = 1) (hbytes : bytes ≤ 1024)
    (B : Nat) (ao : Option Addr) (n cap : Nat) (vs : List Value) (hown : w.ownsRow B e 1 (.slice ao n cap) n vs)
    (ad : Addr) (m c : Nat) (us : List Value) (hl : us.length = m) (hnews : ∀ j u, us[j]? = some u → w.cell? (ad.add j) = some u) (h1 : ∀ u ∈ us, u.oneCell' = true) (hn : n + m ≤ 67108864) (hB : B ≤ w.heap.size) :
    ∃ ao' cap' w', (Builtin.append_ #[t, t] ty #[.slice ao n cap, .slice (some ad) m c]).run Tryz.prog w = .ok (.slice ao' (n + m) cap') w' ∧ w'.ownsRow B e 1 (.slice ao' (n + m) cap') (n + m) (vs ++ us) ∧
      w.grownBy w' (Value.slice ao n cap).ownBlock ∧ NewOr w (.slice ao n cap) (.slice ao' (n + m) cap') ∧ NewR w w' ao cap ao' cap' := by
  obtain ⟨i0, hi, hz0, hz1, hz2⟩ := info_parts hinfo
  have hbb : (n + m) * bytes ≤ 67108864 * 1024 := Nat.mul_le_mul hn hbytes
  have hml : n + m ≤ maxLen := by unfold maxLen; omega
  obtain ⟨v', w', hr, h2, h3, h4⟩ := run_append_own (P := Tryz.prog) w B t ty e i0 z 1 bytes ht hi hz0 hz1 hz2 hzs (by decide) (.slice ao n cap) n vs hown ad m c us (by simpa using hl) hnews h1 hml (by omega) hB
  have hv : ∃ ao' cap', v' = .slice ao' (n + m) cap' := by
    rcases h2.2 with ⟨e, hz⟩ | ⟨g, c, cur, e, _⟩
    · exact ⟨none, 0, by rw [e, hz]⟩
    · exact ⟨_, _, e⟩
  obtain ⟨ao', cap', rfl⟩ := hv
  have hR : NewR w w' ao cap ao' cap' := by
    rcases hown.2 with ⟨e1, hz⟩ | ⟨q, c', cur, e1, hg', hh, hnc, hcm, hcs, htake⟩
    · obtain ⟨v2, w2, hr2, k2, _, k4⟩ := run_append_own (P := Tryz.prog) w w.heap.size t ty e i0 z 1 bytes ht hi hz0 hz1 hz2 hzs (by decide) (.slice ao n cap) n vs ⟨hown.1, .inl ⟨e1, hz⟩⟩ ad m c us (by simpa using hl) hnews h1 hml (by omega) (Nat.le_refl _)
      rw [hr] at hr2
      simp only [Result.ok.injEq] at hr2
      obtain ⟨rfl, rfl⟩ := hr2
      rcases k2.2 with ⟨e2, _⟩ | ⟨g, c2, cur, e2, hg2, _⟩
      · simp only [Value.slice.injEq] at e1 e2
        exact .inl ⟨e2.1.trans e1.1.symm, e2.2.2.trans e1.2.2.symm⟩
      · simp only [Value.slice.injEq] at e2
        refine .inr ⟨⟨g, e2.1, hg2⟩, (Chg.ofGrown h3).mono fun k hk => ?_⟩
        simp only [Value.slice.injEq] at e1
        rw [e1.1] at hk
        simp [Value.ownBlock] at hk
    · simp only [Value.slice.injEq] at e1
      obtain ⟨rfl, _, rfl⟩ := e1
      have hl1 : vs.length = n := by simpa using hown.1
      by_cases hroom : n + m ≤ cap
      · have hrr := run_append_room (P := Tryz.prog) w t ty e i0 ht hi q n cap cur hh ad m c us (by rw [hz1]; simpa using hl) hnews h1 hroom (by rw [hz1]; omega)
        rw [hr] at hrr
        simp only [Result.ok.injEq, Value.slice.injEq] at hrr
        obtain ⟨⟨rfl, _, rfl⟩, _⟩ := hrr
        exact .inl ⟨rfl, rfl⟩
      · have holds : ∀ j u, vs[j]? = some u → w.cell? ((⟨q, 0, none⟩ : Addr).add j) = some u := hown.cells (g := q) rfl
        have hrr := run_append_grow (P := Tryz.prog) w t ty e i0 z ht hi hz0 ⟨q, 0, none⟩ n cap vs (by rw [hz1]; simpa using hl1) holds ad m c us (by rw [hz1]; simpa using hl) hnews (by omega) (by omega) (growslice_fits (by omega) (by rw [hz2]; omega))
        rw [hr] at hrr
        simp only [Result.ok.injEq, Value.slice.injEq] at hrr
        obtain ⟨⟨rfl, _, _⟩, rfl⟩ := hrr
        exact .inr ⟨⟨_, rfl, Nat.le_refl _⟩, Chg.ofBelow ((Below.refl _ _).drew.alloc (Nat.le_refl _) _)⟩
  refine ⟨ao', cap', w', hr, h2, h3, fun g hg => ?_, hR⟩
  rcases hR with ⟨rfl, rfl⟩ | ⟨⟨q, rfl, hq⟩, _⟩
  · exact .inl (by cases ao' with
      | none => simp [Value.ownBlock] at hg
      | some q => simpa [Value.ownBlock] using hg)
  · simp [Value.ownBlock] at hg
    exact .inr (by omega)

theorem chg_of_grown {w w' : World} {v : Value} (h : w.grownBy w' v.ownBlock) : Chg (fun k => v.ownBlock = some k) w w' := (Chg.ofGrown h).mono (fun k hk => hk.symm)

/-- one element is appended; it lies in a block of its own, laid just before -/
theorem wpList_pushVX {ops : Array Oper} {rest : List Oper} {o : Oper} {a : Act} {Q : Exit → Act → World → Prop} (w : World) (hgd : o.guard = none) (s x : Operand) (t : TypeId)
    (ho : o.op = .call { callee := .builtin .append, args := #[s, x], argTypes := #[t, t] }) (ty : TypeId) (z : Value) (bytes : Nat)
    (ht : Tryz.prog.underlying t = some (.slice ty)) (hinfo : (Tryz.prog.info? ty).map (fun i => (i.zero, i.size, i.bytes)) = some (some z, 1, bytes)) (hzs : z.cells.size = 1) (hbytes : bytes ≤ 1024)
    (B E : Nat) (ao : Option Addr) (n cap : Nat) (vs : List Value) (hs : a.eval s = .slice ao n cap) (hown : OwnRow B E w ty ao n cap vs) (y : Value) (h1 : y.oneCell' = true)
    (hx : a.eval x = .slice (some ⟨w.heap.size, 0, none⟩) 1 1) (hn : n ≤ 67108863) (hB : B ≤ w.heap.size)
    (h : ∀ ao' cap' w', OwnRow B w'.heap.size w' ty ao' (n + 1) cap' (vs ++ [y]) → Chg (fun k => (Value.slice ao n cap).ownBlock = some k) w w' → NewOr w (.slice ao n cap) (.slice ao' (n + 1) cap') → wpList Tryz.prog ops Q rest (a.put o.dst (.slice ao' (n + 1) cap')) w') :
    wpList Tryz.prog ops Q (o :: rest) a (w.alloc (.cells #[y] ty)) := by
  obtain ⟨ao', cap', w', hr, k1, k2, k3, _⟩ := run_app_x (w.alloc (.cells #[y] ty)) t o.type ty z bytes ht hinfo hzs hbytes B ao n cap vs (hown.1.alloc _) ⟨w.heap.size, 0, none⟩ 1 1 [y] rfl (by
    intro j u hu
    cases j with
    | zero =>
      simp only [List.getElem?_cons_zero, Option.some.injEq] at hu
      subst hu
      rw [Addr.add_lit, World.cell?_alloc_at _ _ _ _ rfl]
      rfl
    | succ j => simp at hu) (by intro u hu; rw [List.mem_singleton.1 hu]; exact h1) (by omega) (by simp; omega)
  refine wpList_plain hgd fun K hK => ?_
  unfold Oper.wp
  simp [execOp, ho, resolve, invoke, builtin, hs, hx, hr, Result.andThen]
  refine hK _ _ (h ao' cap' w' (OwnRow.of k1) ?_ ?_)
  · have hc := chg_of_grown k2
    refine ⟨hc.os, hc.tape, hc.output, Nat.le_trans (by simp) hc.size, fun k hk hs' => ?_⟩
    rw [hc.block k (by simp; omega) hs', Below.heap_alloc w _ k hk]
  · intro g hg
    rcases k3 g hg with h' | h'
    · exact .inl h'
    · exact .inr (by simp at h'; omega)

theorem OwnRow.apart_ty {B E w ty ao n cap vs B' E' ty' ao' n' cap' vs'} (h : OwnRow B E w ty ao n cap vs) (k : OwnRow B' E' w ty' ao' n' cap' vs') (hne : ty ≠ ty') {g : Nat} (h1 : (Value.slice ao n cap).ownBlock = some g) (h2 : (Value.slice ao' n' cap').ownBlock = some g) : False := by
  obtain ⟨cur, e1⟩ := h.typed h1
  obtain ⟨cur', e2⟩ := k.typed h2
  rw [e1] at e2
  simp at e2
  exact hne e2.2
theorem RowsV.chgSpine {B E w w' vs xss B' E' ao n cap us} (h : RowsV B E w vs xss) (k : OwnRow B' E' w 24 ao n cap us) (hc : Chg (fun q => (Value.slice ao n cap).ownBlock = some q) w w') : RowsV B E w' vs xss :=
  ⟨h.length, fun i hi => by
    obtain ⟨a, m, c, e, ho⟩ := h.row i hi
    exact ⟨a, m, c, e, ho.chg hc fun g _ _ hg hs => OwnRow.apart_ty ho k (by decide) hg hs⟩, h.two⟩

end
end Go.Proofs.YtimmjimeldejjaaGreatDoor
namespace Go.Proofs.YtimmjimeldejjaaGreatDoor
section
open Go.RowKit
set_option linter.unusedVariables false
set_option linter.unusedSimpArgs false
set_option maxRecDepth 20000

/-! ### Lists of lists that can be read, in blocks from B on, up to E -/
structure RowsR (B E : Nat) (w : World) (ao : Option Addr) (n cap : Nat) (xss : List (List Int)) : Prop where
  at_ : RowsAt w ao n cap xss
  spine : ∀ b o, ao = some ⟨b, o, none⟩ → 0 < n → B ≤ b ∧ b < E
  rows : ∀ b o i a m c, ao = some ⟨b, o, none⟩ → i < n → w.cell? ⟨b, o + i, none⟩ = some (.slice a m c) → ∀ p q, a = some ⟨p, q, none⟩ → B ≤ p ∧ p < E
theorem RowsR.length {B E w ao n cap xss} (h : RowsR B E w ao n cap xss) : xss.length = n := h.at_.length
theorem RowsR.at {B E w ao n cap xss} (h : RowsR B E w ao n cap xss) : RowsAt w ao n cap xss := h.at_
theorem RowsR.nil (B E : Nat) (w : World) : RowsR B E w none 0 0 [] :=
  ⟨⟨rfl, Nat.le_refl _, Nat.zero_le _, fun _ => ⟨rfl, rfl⟩, fun j hj => absurd hj (Nat.not_lt_zero _)⟩, (fun b o e => by cases e), (fun b o i a m c e => by cases e)⟩
theorem RowsR.chg {S : Nat → Prop} {B E w w' ao n cap xss} (h : RowsR B E w ao n cap xss) (hc : Chg S w w') (hs : ∀ g, B ≤ g → g < E → ¬ S g) : RowsR B E w' ao n cap xss := by
  have hcell : ∀ b o i, ao = some ⟨b, o, none⟩ → i < n → b < w.heap.size → w'.cell? ⟨b, o + i, none⟩ = w.cell? ⟨b, o + i, none⟩ := fun b o i e hi hb => by
    have hr := h.spine b o e (by omega)
    exact World.cell?_of_block (a := ⟨b, o + i, none⟩) (hc.block b hb (hs b hr.1 hr.2))
  refine ⟨⟨h.at_.length, h.at_.le, h.at_.max, h.at_.isNil, fun j hj => ?_⟩, h.spine, fun b o i a m c e hi hcl => ?_⟩
  · obtain ⟨b, o, e, hlt, hrow⟩ := h.at_.cell j hj
    refine ⟨b, o, e, Nat.lt_of_lt_of_le hlt hc.size, fun i hi => ?_⟩
    obtain ⟨a, m, c, h1, h2⟩ := hrow i hi
    refine ⟨a, m, c, by rw [hcell b o i e hi hlt]; exact h1, h2.chg hc fun p q e2 => ?_⟩
    have := h.rows b o i a m c e hi h1 p q e2
    exact hs p this.1 this.2
  · obtain ⟨b', o', e', hlt, hrow⟩ := h.at_.cell i hi
    rw [e] at e'
    simp only [Option.some.injEq, Addr.mk.injEq, and_true] at e'
    obtain ⟨rfl, rfl⟩ := e'
    rw [hcell b o i e hi hlt] at hcl
    exact h.rows b o i a m c e hi hcl
theorem RowsR.keep {B E w w' ao n cap xss} (h : RowsR B E w ao n cap xss) (hb : Below w.heap.size w w') : RowsR B E w' ao n cap xss :=
  h.chg (S := fun _ => False) (Chg.ofBelow hb) (fun _ _ _ h => h)
theorem RowsR.mono {B B' E E' w ao n cap xss} (h : RowsR B E w ao n cap xss) (hB : B' ≤ B) (hE : E ≤ E') : RowsR B' E' w ao n cap xss :=
  ⟨h.at_, fun b o e hn => by have := h.spine b o e hn; omega, fun b o i a m c e hi hcl p q e2 => by have := h.rows b o i a m c e hi hcl p q e2; omega⟩
theorem ownAddr {B E w ty ao n cap vs} (h : OwnRow B E w ty ao n cap vs) {b o : Nat} (e : ao = some ⟨b, o, none⟩) : B ≤ b ∧ b < E := by
  rcases h.cases with ⟨e1, _⟩ | ⟨g, e1, h1, h2, _⟩
  · rw [e1] at e; cases e
  · rw [e1] at e; simp only [Option.some.injEq, Addr.mk.injEq, and_true] at e; omega
theorem Own.addr {B E w ao n cap xs} (h : Own B E w ao n cap xs) {b o : Nat} (e : ao = some ⟨b, o, none⟩) : B ≤ b ∧ b < E := ownAddr h e

/-- the lists from one on -/
theorem rowsFrom {B E w ao n cap xss} (h : OwnRows B E w ao n cap xss) (lo : Nat) (hlo : lo < n) :
    RowsR B E w (Option.map (fun x => x.add lo) ao) (n - lo) (cap - lo) (xss.drop lo) := by
  obtain ⟨vs, h1, h2⟩ := h.vals
  have hl := h.length
  have hcap := h.at.le
  have hv := h1.at.drop lo (by omega)
  simp only [Nat.mul_one] at hv
  obtain ⟨b', o', e', hlt', _⟩ := h.at.cell 0 (by omega)
  have hb' := ownAddr h1 e'
  subst e'
  rw [if_neg (by omega)] at hv
  have haddr : Option.map (fun x => x.add lo) (some (⟨b', o', none⟩ : Addr)) = some ⟨b', o' + lo, none⟩ := by simp [Addr.add_lit]
  rw [haddr] at hv ⊢
  refine ⟨⟨by simp [hl], hv.le, hv.max, hv.isNil, fun j hj => ?_⟩, fun b o e hn => ?_, fun b o i a m c e hi hcl p q e2 => ?_⟩
  · obtain ⟨b, o, e, hlt, hc⟩ := hv.cell j hj
    refine ⟨b, o, e, hlt, fun i hi => ?_⟩
    obtain ⟨a, m, c, e1, ho⟩ := h2.row (lo + i) (by omega)
    have e2 : (vs.drop lo).getD i undef = vs.getD (lo + i) undef := by rw [List.getD_eq_getElem?_getD, List.getElem?_drop, ← List.getD_eq_getElem?_getD]
    have e3 : (xss.drop lo).getD i [] = xss.getD (lo + i) [] := by rw [List.getD_eq_getElem?_getD, List.getElem?_drop, ← List.getD_eq_getElem?_getD]
    exact ⟨a, m, c, by rw [hc i hi, e2, e1], by rw [e3]; exact ho.at⟩
  · simp only [Option.some.injEq, Addr.mk.injEq, and_true] at e; omega
  · obtain ⟨b2, o2, e3, hlt, hc⟩ := hv.cell i hi
    rw [e] at e3
    simp only [Option.some.injEq, Addr.mk.injEq, and_true] at e3
    obtain ⟨rfl, rfl⟩ := e3
    rw [hc i hi] at hcl
    obtain ⟨a', m', c', e1, ho⟩ := h2.row (lo + i) (by omega)
    have e4 : (vs.drop lo).getD i undef = vs.getD (lo + i) undef := by rw [List.getD_eq_getElem?_getD, List.getElem?_drop, ← List.getD_eq_getElem?_getD]
    rw [e4, e1] at hcl
    simp only [Option.some.injEq, Value.slice.injEq] at hcl
    rw [← hcl.1] at e2
    exact ho.addr e2
theorem RowsR.drewN {B E w ao n cap xss} (h : RowsR B E w ao n cap xss) (q : Nat) : RowsR B E (w.drewN q) ao n cap xss := h.keep (belowDrewN (Below.refl _ _) q)

/-! ### Values behind which lists lie, two of which may lie in one block -/
structure RowsW (B E : Nat) (w : World) (vs : List Value) (xss : List (List Int)) : Prop where
  length : vs.length = xss.length
  row : ∀ i, i < xss.length → ∃ a m c, vs.getD i undef = .slice a m c ∧ Own B E w a m c (xss.getD i [])
theorem RowsV.toW {B E w vs xss} (h : RowsV B E w vs xss) : RowsW B E w vs xss := ⟨h.length, h.row⟩
theorem RowsW.mono {B B' E E' w vs xss} (h : RowsW B E w vs xss) (hB : B' ≤ B) (hE : E ≤ E') : RowsW B' E' w vs xss :=
  ⟨h.length, fun i hi => by obtain ⟨a, m, c, e, ho⟩ := h.row i hi; exact ⟨a, m, c, e, ho.mono hB hE⟩⟩
theorem RowsW.keep {B E w w' vs xss} (h : RowsW B E w vs xss) (hb : Below w.heap.size w w') : RowsW B E w' vs xss :=
  ⟨h.length, fun i hi => by obtain ⟨a, m, c, e, ho⟩ := h.row i hi; exact ⟨a, m, c, e, ho.keep hb⟩⟩
theorem RowsW.nil (B E : Nat) (w : World) : RowsW B E w [] [] := ⟨rfl, fun i hi => absurd hi (Nat.not_lt_zero _)⟩
theorem RowsW.oneCell {B E w vs xss} (h : RowsW B E w vs xss) : ∀ u ∈ vs, u.oneCell' = true := by
  intro u hu
  obtain ⟨i, hi, rfl⟩ := List.getElem_of_mem hu
  obtain ⟨a, m, c, e, _⟩ := h.row i (by rw [← h.length]; exact hi)
  rw [List.getD_eq_getElem?_getD, List.getElem?_eq_getElem hi] at e
  simp only [Option.getD_some] at e
  rw [e]; rfl
theorem RowsW.append {B E w vs xss us yss} (h : RowsW B E w vs xss) (k : RowsW B E w us yss) : RowsW B E w (vs ++ us) (xss ++ yss) := by
  refine ⟨by simp [h.length, k.length], fun i hi => ?_⟩
  by_cases hlt : i < xss.length
  · obtain ⟨a, m, c, e, ho⟩ := h.row i hlt
    refine ⟨a, m, c, ?_, ?_⟩
    · rw [List.getD_eq_getElem?_getD, List.getElem?_append_left (by rw [h.length]; exact hlt), ← List.getD_eq_getElem?_getD]; exact e
    · rw [List.getD_eq_getElem?_getD, List.getElem?_append_left hlt, ← List.getD_eq_getElem?_getD]; exact ho
  · rw [List.length_append] at hi
    obtain ⟨a, m, c, e, ho⟩ := k.row (i - xss.length) (by omega)
    refine ⟨a, m, c, ?_, ?_⟩
    · rw [List.getD_eq_getElem?_getD, List.getElem?_append_right (by rw [h.length]; omega), h.length, ← List.getD_eq_getElem?_getD]; exact e
    · rw [List.getD_eq_getElem?_getD, List.getElem?_append_right (by omega), ← List.getD_eq_getElem?_getD]; exact ho
theorem RowsW.chgSpine {B E w w' vs xss B' E' ao n cap us} (h : RowsW B E w vs xss) (k : OwnRow B' E' w 24 ao n cap us) (hc : Chg (fun q => (Value.slice ao n cap).ownBlock = some q) w w') : RowsW B E w' vs xss :=
  ⟨h.length, fun i hi => by
    obtain ⟨a, m, c, e, ho⟩ := h.row i hi
    exact ⟨a, m, c, e, ho.chg hc fun g _ _ hg hs => OwnRow.apart_ty ho k (by decide) hg hs⟩⟩
theorem RowsW.at {B E w vs xss ao n cap} (h : RowsW B E w vs xss) (hv : ValsAt w ao n cap vs) : RowsAt w ao n cap xss := by
  refine ⟨by rw [← h.length]; exact hv.length, hv.le, hv.max, hv.isNil, fun j hj => ?_⟩
  obtain ⟨b, o, e, hlt, hc⟩ := hv.cell j hj
  refine ⟨b, o, e, hlt, fun i hi => ?_⟩
  obtain ⟨a, m, c, e2, ho⟩ := h.row i (by rw [← h.length, hv.length]; exact hi)
  exact ⟨a, m, c, by rw [hc i hi, e2], ho.at⟩
/-- one list among them -/
theorem RowsW.one {B E w a m c ys} (h : Own B E w a m c ys) : RowsW B E w [.slice a m c] [ys] :=
  ⟨rfl, fun i hi => by
    obtain rfl : i = 0 := by simpa using hi
    exact ⟨a, m, c, rfl, h⟩⟩

structure RowsO (B E : Nat) (w : World) (ao : Option Addr) (n cap : Nat) (xss : List (List Int)) : Prop where
  ex : ∃ vs, ValsAt w ao n cap vs ∧ RowsW B E w vs xss
theorem RowsO.mono {B B' E E' w ao n cap xss} (h : RowsO B E w ao n cap xss) (hB : B' ≤ B) (hE : E ≤ E') : RowsO B' E' w ao n cap xss := by
  obtain ⟨vs, h1, h2⟩ := h.ex; exact ⟨vs, h1, h2.mono hB hE⟩
theorem RowsO.drewN {B E w ao n cap xss} (h : RowsO B E w ao n cap xss) (q : Nat) : RowsO B E (w.drewN q) ao n cap xss := by
  obtain ⟨vs, h1, h2⟩ := h.ex
  have hb : Below w.heap.size w (w.drewN q) := belowDrewN (Below.refl _ _) q
  exact ⟨vs, h1.keep hb, h2.keep hb⟩
/-! ### A spine (in blocks from B on, up to E) and what lies behind it (from C on, up to D) -/
structure Sp (B E C D : Nat) (w : World) (ao : Option Addr) (n cap : Nat) (vs : List Value) (xss : List (List Int)) : Prop where
  spine : OwnRow B E w 24 ao n cap vs
  rows : RowsW C D w vs xss
theorem Sp.length {B E C D w ao n cap vs xss} (h : Sp B E C D w ao n cap vs xss) : xss.length = n := by rw [← h.rows.length]; exact h.spine.length
theorem Sp.mono {B B' E E' C C' D D' w ao n cap vs xss} (h : Sp B E C D w ao n cap vs xss) (hB : B' ≤ B) (hE : E ≤ E') (hC : C' ≤ C) (hD : D ≤ D') : Sp B' E' C' D' w ao n cap vs xss := ⟨h.spine.mono hB hE, h.rows.mono hC hD⟩
theorem Sp.keep {B E C D w w' ao n cap vs xss} (h : Sp B E C D w ao n cap vs xss) (hb : Below w.heap.size w w') : Sp B E C D w' ao n cap vs xss := ⟨h.spine.keep hb, h.rows.keep hb⟩
theorem Sp.drewN {B E C D w ao n cap vs xss} (h : Sp B E C D w ao n cap vs xss) (q : Nat) : Sp B E C D (w.drewN q) ao n cap vs xss := h.keep (belowDrewN (Below.refl _ _) q)
theorem Sp.at {B E C D w ao n cap vs xss} (h : Sp B E C D w ao n cap vs xss) : RowsAt w ao n cap xss := h.rows.at h.spine.at
theorem Sp.nil (B E C D : Nat) (w : World) : Sp B E C D w none 0 0 [] [] := ⟨OwnRow.nil _ _ _ _, RowsW.nil _ _ _⟩
theorem apart_iff (vs : List Value) : vs.Pairwise apart ↔ ∀ i j, i < j → j < vs.length → apart (vs.getD i undef) (vs.getD j undef) := by
  rw [List.pairwise_iff_getElem]
  constructor
  · intro h i j hij hj
    have := h i j (by omega) hj hij
    rw [List.getD_eq_getElem?_getD, List.getElem?_eq_getElem (by omega), List.getD_eq_getElem?_getD, List.getElem?_eq_getElem hj]
    exact this
  · intro h i j hi hj hij
    have := h i j hij hj
    rw [List.getD_eq_getElem?_getD, List.getElem?_eq_getElem hi, List.getD_eq_getElem?_getD, List.getElem?_eq_getElem hj] at this
    exact this
theorem OwnRows.sp {B E w ao n cap xss} (h : OwnRows B E w ao n cap xss) : ∃ vs, Sp B E B E w ao n cap vs xss ∧ vs.Pairwise apart := by
  obtain ⟨vs, h1, h2⟩ := h.vals
  exact ⟨vs, ⟨h1, h2.toW⟩, (apart_iff vs).2 fun i j hij hj => h2.two i j hij (by rw [← h2.length]; exact hj)⟩
theorem Sp.own {B E C D w ao n cap vs xss} (h : Sp B E C D w ao n cap vs xss) (hp : vs.Pairwise apart) {X Y : Nat} (h1 : X ≤ B) (h2 : X ≤ C) (h3 : E ≤ Y) (h4 : D ≤ Y) : OwnRows X Y w ao n cap xss :=
  ⟨vs, h.spine.mono h1 h3, by rw [h.length], fun i hi => (h.rows.mono h2 h4).row i (by rw [h.length]; exact hi), fun i j hij hj => (apart_iff vs).1 hp i j hij (by rw [h.rows.length, h.length]; exact hj)⟩
theorem RowsW.take {B E w vs xss} (h : RowsW B E w vs xss) (k : Nat) : RowsW B E w (vs.take k) (xss.take k) :=
  ⟨by rw [List.length_take, List.length_take, h.length], fun i hi => by
    rw [List.length_take] at hi
    obtain ⟨a, m, c, e, ho⟩ := h.row i (by omega)
    refine ⟨a, m, c, ?_, ?_⟩
    · rw [List.getD_eq_getElem?_getD, List.getElem?_take, if_pos (by omega), ← List.getD_eq_getElem?_getD]; exact e
    · rw [List.getD_eq_getElem?_getD, List.getElem?_take, if_pos (by omega), ← List.getD_eq_getElem?_getD]; exact ho⟩
theorem RowsW.drop {B E w vs xss} (h : RowsW B E w vs xss) (k : Nat) : RowsW B E w (vs.drop k) (xss.drop k) :=
  ⟨by rw [List.length_drop, List.length_drop, h.length], fun i hi => by
    rw [List.length_drop] at hi
    obtain ⟨a, m, c, e, ho⟩ := h.row (k + i) (by omega)
    refine ⟨a, m, c, ?_, ?_⟩
    · rw [List.getD_eq_getElem?_getD, List.getElem?_drop, ← List.getD_eq_getElem?_getD]; exact e
    · rw [List.getD_eq_getElem?_getD, List.getElem?_drop, ← List.getD_eq_getElem?_getD]; exact ho⟩
theorem Sp.below {B E C D w w' ao n cap vs xss} (h : Sp B E C D w ao n cap vs xss) (hc : Chg (fun k => (Value.slice ao n cap).ownBlock = some k) w w') (hB : B ≤ w.heap.size) : Below B w w' := h.spine.chgBelow hc hB
end
end Go.Proofs.YtimmjimeldejjaaGreatDoor
namespace Go.Proofs.YtimmjimeldejjaaGreatDoor
section
open Go.RowKit
set_option linter.unusedVariables false
set_option linter.unusedSimpArgs false
set_option maxRecDepth 20000

set_option maxHeartbeats 400000 in
theorem l1Same_any (ao bo : Option Addr) (n m cap cap' : Nat) (xs ys : List Int) (w : World) (hx : IntsAt w ao n cap xs) (hy : IntsAt w bo m cap' ys) :
    Calls Tryz.prog 215 #[.slice ao n cap, .slice bo m cap'] w fun e w' => e = .returned (.bool (decide (xs = ys))) ∧ ∃ q, w' = w.drewN q := by
  have hn' := hx.lenInt
  have hm' := hy.lenInt
  by_cases hnm : n = m
  · subst hnm
    go_enter Tryz.func215, Tryz.ntmps215
    go_wp2
    go_loopw [13] (fun i wr => ∃ k : Nat, k ≤ n ∧ i = .int .i64 k ∧ xs.take k = ys.take k ∧ ∃ q, wr = w.drewN q)
      (fun i _ => n - (intOf i).toNat)
    case atStart => exact ⟨0, Nat.zero_le _, rfl, rfl, 0, rfl⟩
    case round =>
      obtain ⟨k, hk, rfl, heq, q, rfl⟩ := hrel
      have Heq := Lib.hid heq; clear heq
      by_cases hlt : k < n
      · have hl1 := Lib.hid hx.length
        have hl2 := Lib.hid hy.length
        obtain ⟨b1, o1, rfl, hb1, hc1⟩ := hx.cell k hlt
        have hck1 := hc1 k hlt
        clear hc1
        generalize hx1 : xs.getD k 0 = x at hck1
        have Hx1 := Lib.hid hx1; clear hx1
        obtain ⟨b2, o2, rfl, hb2, hc2⟩ := hy.cell k hlt
        have hck2 := hc2 k hlt
        clear hc2
        generalize hx2 : ys.getD k 0 = y at hck2
        have Hx2 := Lib.hid hx2; clear hx2
        go_wp2
        go_quiet (fail)
        go_wp2
        · go_ret
          have hne : xs ≠ ys := fun e => by
            have h3 := Hx1.out; have h4 := Hx2.out
            rw [e, h4] at h3; subst h3; simp at *
          exact ⟨by simp [hne], _, World.drewN_drewN _ _ _⟩
        · have hxy : x = y := by rename_i hh; simpa using hh
          go_roundw
          case rel => exact ⟨k + 1, by omega, by go_num, by rw [take_snoc Hx1.out hlt hl1.out, take_snoc Hx2.out hlt hl2.out, Heq.out, hxy], _, rfl⟩
          case measure => simp [intOf]; omega
      · go_wp2
        go_ret
        obtain rfl : n = k := by omega
        have e := Heq.out
        rw [take_all hx.length, take_all hy.length] at e
        exact ⟨by simp [e], _, rfl⟩
  · have hne : ((n : Int) != (m : Int)) = true := by simp; omega
    have hxy : xs ≠ ys := fun e => hnm (by rw [← hx.length, ← hy.length, e])
    go_enter Tryz.func215, Tryz.ntmps215
    go_wp2
    go_ret
    exact ⟨by simp [hxy], 0, rfl⟩
end
end Go.Proofs.YtimmjimeldejjaaGreatDoor
