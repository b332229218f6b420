/- append of one element to a row that the call made. No condition but sizes. -/
import Derived.Test.YtjidpjoiieegdaaBase
namespace Go.Proofs.Ytjidpjoiieegdaa
open Go.RowKit
set_option linter.unusedVariables false
set_option linter.unusedSimpArgs false

/-- one element is appended: it lies in a block of its own, laid just before -/
theorem wpList_pushV {ops : Array Oper} {rest : List Oper} {o : Oper} {a : Act} {Q : Exit → Act → World → Prop} (w : World) (hgd : o.guard = none) (s x : Operand) (t : TypeId)
    (ho : o.op = .call { callee := .builtin .append, args := #[s, x], argTypes := #[t, t] }) (ty : TypeId) (z : Value) (bytes : Nat)
    (ht : Try.prog.underlying t = some (.slice ty)) (hinfo : (Try.prog.info? ty).map (fun i => (i.zero, i.size, i.bytes)) = some (some z, 1, bytes)) (hzs : z.cells.size = 1) (hbytes : bytes ≤ 1024)
    (B E : Nat) (ao : Option Addr) (n cap : Nat) (vs : List Value) (hs : a.eval s = .slice ao n cap) (hown : OwnRow B E w ty ao n cap vs) (y : Value) (h1 : y.oneCell' = true)
    (hx : a.eval x = .slice (some ⟨w.heap.size, 0, none⟩) 1 1) (hn : n ≤ 67108864) (hB : B ≤ w.heap.size)
    (h : ∀ ao' cap' w', OwnRow B w'.heap.size w' ty ao' (n + 1) cap' (vs ++ [y]) → Chg (fun k => (Value.slice ao n cap).ownBlock = some k) w w' → wpList Try.prog ops Q rest (a.put o.dst (.slice ao' (n + 1) cap')) w') :
    wpList Try.prog ops Q (o :: rest) a (w.alloc (.cells #[y] ty)) := by
  obtain ⟨i0, hi, hz0, hz1, hz2⟩ := info_parts hinfo
  refine wpList_append_own _ hgd s x t ho B ty i0 z 1 bytes ht hi hz0 hz1 hz2 hzs (by decide) _ n vs hs (hown.1.alloc _) ⟨w.heap.size, 0, none⟩ 1 1 [y] hx rfl ?_ ?_ ?_ ?_ (by simp; omega) ?_
  · intro j u hu
    cases j with
    | zero =>
      simp only [List.getElem?_cons_zero, Option.some.injEq] at hu
      subst hu
      rw [Addr.add_lit, World.cell?_alloc_at _ _ _ _ rfl]
      rfl
    | succ j => simp at hu
  · intro u hu
    rw [List.mem_singleton.1 hu]; exact h1
  · unfold maxLen; omega
  · have : (n + 1) * bytes ≤ 67108865 * 1024 := Nat.mul_le_mul (by omega) hbytes
    omega
  · intro v' w1 hown' hgrow hnil
    have hv : ∃ ao' cap', v' = .slice ao' (n + 1) cap' := by
      rcases hown'.2 with ⟨e, hz⟩ | ⟨g, c, cur, e, _⟩
      · omega
      · exact ⟨_, _, e⟩
    obtain ⟨ao', cap', rfl⟩ := hv
    refine h ao' cap' w1 (OwnRow.of hown') ?_
    have hc := Chg.ofGrown hgrow
    refine ⟨hc.os, hc.tape, hc.output, Nat.le_trans (by simp) hc.size, fun k hk hs' => ?_⟩
    rw [hc.block k (by simp; omega) (fun e => hs' e.symm), Below.heap_alloc w _ k hk]

theorem wpList_push {ops : Array Oper} {rest : List Oper} {o : Oper} {a : Act} {Q : Exit → Act → World → Prop} (w : World) (hgd : o.guard = none) (s x : Operand)
    (ho : o.op = .call { callee := .builtin .append, args := #[s, x], argTypes := #[24, 24] })
    (B E : Nat) (ao : Option Addr) (n cap : Nat) (xs : List Int) (hs : a.eval s = .slice ao n cap) (hown : Own B E w ao n cap xs) (y : Int)
    (hx : a.eval x = .slice (some ⟨w.heap.size, 0, none⟩) 1 1) (hn : n ≤ 67108864) (hB : B ≤ w.heap.size)
    (h : ∀ ao' cap' w', Own B w'.heap.size w' ao' (n + 1) cap' (xs ++ [y]) → Chg (fun k => (Value.slice ao n cap).ownBlock = some k) w w' → wpList Try.prog ops Q rest (a.put o.dst (.slice ao' (n + 1) cap')) w') :
    wpList Try.prog ops Q (o :: rest) a (w.alloc (.cells #[.int .i64 y] 3)) :=
  wpList_pushV w hgd s x 24 ho 3 _ 8 Try.underlying24 Try.infoInt rfl (by decide) B E ao n cap _ hs hown _ rfl hx hn hB (fun ao' cap' w' ho' hc => h ao' cap' w' (by unfold Own; rw [List.map_append]; exact ho') hc)

/-- what alone changes is the row itself: below B all stays -/
theorem Own.chgBelow {B E w w' ao n cap xs} (h : Own B E w ao n cap xs) (hc : Chg (fun k => (Value.slice ao n cap).ownBlock = some k) w w') (hB : B ≤ w.heap.size) : Below B w w' :=
  hc.below hB (fun k hk => (h.1.lt k hk).1)
theorem OwnRow.chgBelow {B E w w' ty ao n cap vs} (h : OwnRow B E w ty ao n cap vs) (hc : Chg (fun k => (Value.slice ao n cap).ownBlock = some k) w w') (hB : B ≤ w.heap.size) : Below B w w' :=
  hc.below hB (fun k hk => (h.1.lt k hk).1)

theorem wpList_pushR {ops : Array Oper} {rest : List Oper} {o : Oper} {a : Act} {Q : Exit → Act → World → Prop} (w : World) (hgd : o.guard = none) (s x : Operand)
    (ho : o.op = .call { callee := .builtin .append, args := #[s, x], argTypes := #[27, 27] })
    (B E : Nat) (ao : Option Addr) (n cap : Nat) (xss : List (List Int)) (hs : a.eval s = .slice ao n cap) (hown : OwnRows B E w ao n cap xss) (hE : E ≤ w.heap.size)
    (a2 : Option Addr) (m c C : Nat) (ys : List Int) (hy : Own C w.heap.size w a2 m c ys) (hC : B ≤ C) (hap : ∀ g, (Value.slice a2 m c).ownBlock = some g → E ≤ g)
    (hx : a.eval x = .slice (some ⟨w.heap.size, 0, none⟩) 1 1) (hn : n ≤ 67108864) (hB : B ≤ w.heap.size)
    (h : ∀ ao' cap' w', OwnRows B w'.heap.size w' ao' (n + 1) cap' (xss ++ [ys]) → Chg (fun k => (Value.slice ao n cap).ownBlock = some k) w w' → wpList Try.prog ops Q rest (a.put o.dst (.slice ao' (n + 1) cap')) w') :
    wpList Try.prog ops Q (o :: rest) a (w.alloc (.cells #[.slice a2 m c] 24)) := by
  obtain ⟨vs, h1, h2, h3, h4⟩ := hown
  refine wpList_pushV w hgd s x 27 ho 24 _ 24 Try.underlying27 Try.infoInts rfl (by decide) B E ao n cap vs hs h1 _ rfl hx hn hB (fun ao' cap' w' ho' hc => h ao' cap' w' ?_ hc)
  have hl := h1.length
  have hty : ∀ {k ty A N K V}, OwnRow B w.heap.size w ty A N K V → (Value.slice A N K).ownBlock = some k → (Value.slice ao n cap).ownBlock = some k → ty = 24 := by
    intro k ty A N K V hr e1 e2
    rcases hr.1.2 with ⟨hv, _⟩ | ⟨g', c', cur, hv, _, hh, _⟩
    · rw [hv] at e1; simp [Value.ownBlock] at e1
    · rcases h1.1.2 with ⟨hv', _⟩ | ⟨g2, c2, cur2, hv', _, hh2, _⟩
      · rw [hv'] at e2; simp [Value.ownBlock] at e2
      · rw [hv] at e1; rw [hv'] at e2; simp [Value.ownBlock] at e1 e2; subst e1; subst e2; rw [hh] at hh2; simp at hh2; exact hh2.2
  refine ⟨vs ++ [.slice a2 m c], ho', by simp; exact h2, fun i hi => ?_, fun i j hij hj => ?_⟩
  · by_cases hin : i < n
    · obtain ⟨a', m', c', e, ho⟩ := h3 i hin
      refine ⟨a', m', c', ?_, ?_⟩
      · rw [List.getD_eq_getElem?_getD, List.getElem?_append_left (by omega), ← List.getD_eq_getElem?_getD]; exact e
      · rw [List.getD_eq_getElem?_getD, List.getElem?_append_left (by omega), ← List.getD_eq_getElem?_getD]
        refine Own.mono (Own.chg ho hc fun g _ _ hg hs' => ?_) (Nat.le_refl _) (Nat.le_trans hE hc.size)
        have := hty (ho.mono (Nat.le_refl _) hE) hg hs'
        exact absurd this (by decide)
    · obtain rfl : i = n := by omega
      refine ⟨a2, m, c, ?_, ?_⟩
      · rw [List.getD_eq_getElem?_getD, List.getElem?_append_right (by omega), hl]; simp
      · rw [List.getD_eq_getElem?_getD, List.getElem?_append_right (by omega), h2]
        simp only [Nat.sub_self, List.getElem?_cons_zero, Option.getD_some]
        refine Own.mono (Own.chg hy hc fun g _ _ hg hs' => ?_) hC hc.size
        have := hty (hy.mono hC (Nat.le_refl _)) hg hs'
        exact absurd this (by decide)
  · by_cases hjn : j < n
    · rw [List.getD_eq_getElem?_getD, List.getElem?_append_left (by omega), ← List.getD_eq_getElem?_getD, List.getD_eq_getElem?_getD (i := j), List.getElem?_append_left (by omega), ← List.getD_eq_getElem?_getD]
      exact h4 i j hij hjn
    · obtain rfl : j = n := by omega
      obtain ⟨a', m', c', e, ho⟩ := h3 i hij
      rw [List.getD_eq_getElem?_getD, List.getElem?_append_left (by omega), ← List.getD_eq_getElem?_getD, e, List.getD_eq_getElem?_getD, List.getElem?_append_right (by omega), hl]
      simp only [Nat.sub_self, List.getElem?_cons_zero, Option.getD_some]
      unfold apart
      rcases Own.cases ho with ⟨rfl, _⟩ | ⟨g, rfl, _, hgE, _⟩
      · exact .inl rfl
      · refine .inr fun hh => ?_
        have := hap g hh.symm
        omega
end Go.Proofs.Ytjidpjoiieegdaa
