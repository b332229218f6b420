/- append on a row that the call made: the new row lies in the old block or in a new one. No condition but sizes. -/
import Derived.Test.YtdfmljkjidepeaaGreatDoorRowsV
namespace Go.Proofs.YtdfmljkjidepeaaGreatDoor
open Go.RowKit
set_option linter.unusedVariables false
set_option maxRecDepth 20000
set_option linter.unusedSimpArgs false

/-- the second one lies where the first one lies, or in a block that w does not have -/
def NewOr (w : World) (v v' : Value) : Prop := ∀ g, v'.ownBlock = some g → v.ownBlock = some g ∨ w.heap.size ≤ g
theorem NewOr.refl (w : World) (v : Value) : NewOr w v v := fun g h => .inl h
theorem NewOr.trans {w w1 : World} {v v1 v2 : Value} (h : NewOr w v v1) (hs : w.heap.size ≤ w1.heap.size) (k : NewOr w1 v1 v2) : NewOr w v v2 := fun g hg => by
  rcases k g hg with h' | h'
  · exact h g h'
  · exact .inr (Nat.le_trans hs h')

/-- the row stays where it is, or lies in a new block -/
def NewR (w w' : World) (ao : Option Addr) (cap : Nat) (ao' : Option Addr) (cap' : Nat) : Prop := (ao' = ao ∧ cap' = cap) ∨ ((∃ g, ao' = some ⟨g, 0, none⟩ ∧ w.heap.size ≤ g) ∧ Chg (fun _ => False) w w')

theorem run_app_x (w : World) (t ty e : TypeId) (z : Value) (bytes : Nat)
    (ht : Tryz.prog.underlying t = some (.slice e)) (hinfo : (Tryz.prog.info? e).map (fun i => (i.zero, i.size, i.bytes)) = some (some z, 1, bytes)) (hzs : z.cells.size = 1) (hbytes : bytes ≤ 1024)
    (B : Nat) (ao : Option Addr) (n cap : Nat) (vs : List Value) (hown : w.ownsRow B e 1 (.slice ao n cap) n vs)
    (ad : Addr) (m c : Nat) (us : List Value) (hl : us.length = m) (hnews : ∀ j u, us[j]? = some u → w.cell? (ad.add j) = some u) (h1 : ∀ u ∈ us, u.oneCell' = true) (hn : n + m ≤ 67108864) (hB : B ≤ w.heap.size) :
    ∃ ao' cap' w', (Builtin.append_ #[t, t] ty #[.slice ao n cap, .slice (some ad) m c]).run Tryz.prog w = .ok (.slice ao' (n + m) cap') w' ∧ w'.ownsRow B e 1 (.slice ao' (n + m) cap') (n + m) (vs ++ us) ∧
      w.grownBy w' (Value.slice ao n cap).ownBlock ∧ NewOr w (.slice ao n cap) (.slice ao' (n + m) cap') ∧ NewR w w' ao cap ao' cap' := by
  obtain ⟨i0, hi, hz0, hz1, hz2⟩ := info_parts hinfo
  have hbb : (n + m) * bytes ≤ 67108864 * 1024 := Nat.mul_le_mul hn hbytes
  have hml : n + m ≤ maxLen := by unfold maxLen; omega
  obtain ⟨v', w', hr, h2, h3, h4⟩ := run_append_own (P := Tryz.prog) w B t ty e i0 z 1 bytes ht hi hz0 hz1 hz2 hzs (by decide) (.slice ao n cap) n vs hown ad m c us (by simpa using hl) hnews h1 hml (by omega) hB
  have hv : ∃ ao' cap', v' = .slice ao' (n + m) cap' := by
    rcases h2.2 with ⟨e, hz⟩ | ⟨g, c, cur, e, _⟩
    · exact ⟨none, 0, by rw [e, hz]⟩
    · exact ⟨_, _, e⟩
  obtain ⟨ao', cap', rfl⟩ := hv
  have hR : NewR w w' ao cap ao' cap' := by
    rcases hown.2 with ⟨e1, hz⟩ | ⟨q, c', cur, e1, hg', hh, hnc, hcm, hcs, htake⟩
    · obtain ⟨v2, w2, hr2, k2, _, k4⟩ := run_append_own (P := Tryz.prog) w w.heap.size t ty e i0 z 1 bytes ht hi hz0 hz1 hz2 hzs (by decide) (.slice ao n cap) n vs ⟨hown.1, .inl ⟨e1, hz⟩⟩ ad m c us (by simpa using hl) hnews h1 hml (by omega) (Nat.le_refl _)
      rw [hr] at hr2
      simp only [Result.ok.injEq] at hr2
      obtain ⟨rfl, rfl⟩ := hr2
      rcases k2.2 with ⟨e2, _⟩ | ⟨g, c2, cur, e2, hg2, _⟩
      · simp only [Value.slice.injEq] at e1 e2
        exact .inl ⟨e2.1.trans e1.1.symm, e2.2.2.trans e1.2.2.symm⟩
      · simp only [Value.slice.injEq] at e2
        refine .inr ⟨⟨g, e2.1, hg2⟩, (Chg.ofGrown h3).mono fun k hk => ?_⟩
        simp only [Value.slice.injEq] at e1
        rw [e1.1] at hk
        simp [Value.ownBlock] at hk
    · simp only [Value.slice.injEq] at e1
      obtain ⟨rfl, _, rfl⟩ := e1
      have hl1 : vs.length = n := by simpa using hown.1
      by_cases hroom : n + m ≤ cap
      · have hrr := run_append_room (P := Tryz.prog) w t ty e i0 ht hi q n cap cur hh ad m c us (by rw [hz1]; simpa using hl) hnews h1 hroom (by rw [hz1]; omega)
        rw [hr] at hrr
        simp only [Result.ok.injEq, Value.slice.injEq] at hrr
        obtain ⟨⟨rfl, _, rfl⟩, _⟩ := hrr
        exact .inl ⟨rfl, rfl⟩
      · have holds : ∀ j u, vs[j]? = some u → w.cell? ((⟨q, 0, none⟩ : Addr).add j) = some u := hown.cells (g := q) rfl
        have hrr := run_append_grow (P := Tryz.prog) w t ty e i0 z ht hi hz0 ⟨q, 0, none⟩ n cap vs (by rw [hz1]; simpa using hl1) holds ad m c us (by rw [hz1]; simpa using hl) hnews (by omega) (by omega) (growslice_fits (by omega) (by rw [hz2]; omega))
        rw [hr] at hrr
        simp only [Result.ok.injEq, Value.slice.injEq] at hrr
        obtain ⟨⟨rfl, _, _⟩, rfl⟩ := hrr
        exact .inr ⟨⟨_, rfl, Nat.le_refl _⟩, Chg.ofBelow ((Below.refl _ _).drew.alloc (Nat.le_refl _) _)⟩
  refine ⟨ao', cap', w', hr, h2, h3, fun g hg => ?_, hR⟩
  rcases hR with ⟨rfl, rfl⟩ | ⟨⟨q, rfl, hq⟩, _⟩
  · exact .inl (by cases ao' with
      | none => simp [Value.ownBlock] at hg
      | some q => simpa [Value.ownBlock] using hg)
  · simp [Value.ownBlock] at hg
    exact .inr (by omega)

theorem chg_of_grown {w w' : World} {v : Value} (h : w.grownBy w' v.ownBlock) : Chg (fun k => v.ownBlock = some k) w w' := (Chg.ofGrown h).mono (fun k hk => hk.symm)

/-- one element is appended; it lies in a block of its own, laid just before -/
theorem wpList_pushVX {ops : Array Oper} {rest : List Oper} {o : Oper} {a : Act} {Q : Exit → Act → World → Prop} (w : World) (hgd : o.guard = none) (s x : Operand) (t : TypeId)
    (ho : o.op = .call { callee := .builtin .append, args := #[s, x], argTypes := #[t, t] }) (ty : TypeId) (z : Value) (bytes : Nat)
    (ht : Tryz.prog.underlying t = some (.slice ty)) (hinfo : (Tryz.prog.info? ty).map (fun i => (i.zero, i.size, i.bytes)) = some (some z, 1, bytes)) (hzs : z.cells.size = 1) (hbytes : bytes ≤ 1024)
    (B E : Nat) (ao : Option Addr) (n cap : Nat) (vs : List Value) (hs : a.eval s = .slice ao n cap) (hown : OwnRow B E w ty ao n cap vs) (y : Value) (h1 : y.oneCell' = true)
    (hx : a.eval x = .slice (some ⟨w.heap.size, 0, none⟩) 1 1) (hn : n ≤ 67108863) (hB : B ≤ w.heap.size)
    (h : ∀ ao' cap' w', OwnRow B w'.heap.size w' ty ao' (n + 1) cap' (vs ++ [y]) → Chg (fun k => (Value.slice ao n cap).ownBlock = some k) w w' → NewOr w (.slice ao n cap) (.slice ao' (n + 1) cap') → wpList Tryz.prog ops Q rest (a.put o.dst (.slice ao' (n + 1) cap')) w') :
    wpList Tryz.prog ops Q (o :: rest) a (w.alloc (.cells #[y] ty)) := by
  obtain ⟨ao', cap', w', hr, k1, k2, k3, _⟩ := run_app_x (w.alloc (.cells #[y] ty)) t o.type ty z bytes ht hinfo hzs hbytes B ao n cap vs (hown.1.alloc _) ⟨w.heap.size, 0, none⟩ 1 1 [y] rfl (by
    intro j u hu
    cases j with
    | zero =>
      simp only [List.getElem?_cons_zero, Option.some.injEq] at hu
      subst hu
      rw [Addr.add_lit, World.cell?_alloc_at _ _ _ _ rfl]
      rfl
    | succ j => simp at hu) (by intro u hu; rw [List.mem_singleton.1 hu]; exact h1) (by omega) (by simp; omega)
  refine wpList_plain hgd fun K hK => ?_
  unfold Oper.wp
  simp [execOp, ho, resolve, invoke, builtin, hs, hx, hr, Result.andThen]
  refine hK _ _ (h ao' cap' w' (OwnRow.of k1) ?_ ?_)
  · have hc := chg_of_grown k2
    refine ⟨hc.os, hc.tape, hc.output, Nat.le_trans (by simp) hc.size, fun k hk hs' => ?_⟩
    rw [hc.block k (by simp; omega) hs', Below.heap_alloc w _ k hk]
  · intro g hg
    rcases k3 g hg with h' | h'
    · exact .inl h'
    · exact .inr (by simp at h'; omega)

theorem OwnRow.apart_ty {B E w ty ao n cap vs B' E' ty' ao' n' cap' vs'} (h : OwnRow B E w ty ao n cap vs) (k : OwnRow B' E' w ty' ao' n' cap' vs') (hne : ty ≠ ty') {g : Nat} (h1 : (Value.slice ao n cap).ownBlock = some g) (h2 : (Value.slice ao' n' cap').ownBlock = some g) : False := by
  obtain ⟨cur, e1⟩ := h.typed h1
  obtain ⟨cur', e2⟩ := k.typed h2
  rw [e1] at e2
  simp at e2
  exact hne e2.2
theorem RowsV.chgSpine {B E w w' vs xss B' E' ao n cap us} (h : RowsV B E w vs xss) (k : OwnRow B' E' w 24 ao n cap us) (hc : Chg (fun q => (Value.slice ao n cap).ownBlock = some q) w w') : RowsV B E w' vs xss :=
  ⟨h.length, fun i hi => by
    obtain ⟨a, m, c, e, ho⟩ := h.row i hi
    exact ⟨a, m, c, e, ho.chg hc fun g _ _ hg hs => OwnRow.apart_ty ho k (by decide) hg hs⟩, h.two⟩

theorem wpList_pushRX {ops : Array Oper} {rest : List Oper} {o : Oper} {a : Act} {Q : Exit → Act → World → Prop} (w : World) (hgd : o.guard = none) (s x : Operand)
    (ho : o.op = .call { callee := .builtin .append, args := #[s, x], argTypes := #[45, 45] })
    (B E : Nat) (ao : Option Addr) (n cap : Nat) (xss : List (List Int)) (hs : a.eval s = .slice ao n cap) (hown : OwnRows B E w ao n cap xss) (hE : E ≤ w.heap.size)
    (a2 : Option Addr) (m c C : Nat) (ys : List Int) (hy : Own C w.heap.size w a2 m c ys) (hC : B ≤ C) (hap : ∀ g, (Value.slice a2 m c).ownBlock = some g → E ≤ g)
    (hx : a.eval x = .slice (some ⟨w.heap.size, 0, none⟩) 1 1) (hn : n ≤ 67108863) (hB : B ≤ w.heap.size)
    (h : ∀ ao' cap' w', OwnRows B w'.heap.size w' ao' (n + 1) cap' (xss ++ [ys]) → Chg (fun k => (Value.slice ao n cap).ownBlock = some k) w w' → NewOr w (.slice ao n cap) (.slice ao' (n + 1) cap') → wpList Tryz.prog ops Q rest (a.put o.dst (.slice ao' (n + 1) cap')) w') :
    wpList Tryz.prog ops Q (o :: rest) a (w.alloc (.cells #[.slice a2 m c] 24)) := by
  have hl := hown.length
  obtain ⟨vs, h1, h2⟩ := hown.vals
  have hvl := h1.length
  refine wpList_pushVX w hgd s x 45 ho 24 _ 24 Tryz.underlying45 Tryz.infoInts rfl (by decide) B E ao n cap vs hs h1 _ rfl hx hn hB (fun ao' cap' w' ho' hc hnew => h ao' cap' w' ?_ hc hnew)
  have hins := h2.ins n (by omega) hy hC hE hap
  rw [List.take_of_length_le (by omega), List.drop_of_length_le (by omega), List.take_of_length_le (by omega), List.drop_of_length_le (by omega)] at hins
  exact ((hins.chgSpine h1 hc).mono (Nat.le_refl _) hc.size).rows ho'

/-- append of values that lie somewhere, at a step of a region that draws its order -/
theorem step_catVX {ops : Array Oper} {o : Oper} {a : Act} {K : Act → World → Prop} {Q : Exit → Act → World → Prop} {E0 : Prop} (w : World) (hgd : o.guard = none) (s x : Operand) (t : TypeId)
    (ho : o.op = .call { callee := .builtin .append, args := #[s, x], argTypes := #[t, t] }) (ty : TypeId) (z : Value) (bytes : Nat)
    (ht : Tryz.prog.underlying t = some (.slice ty)) (hinfo : (Tryz.prog.info? ty).map (fun i => (i.zero, i.size, i.bytes)) = some (some z, 1, bytes)) (hzs : z.cells.size = 1) (hbytes : bytes ≤ 1024)
    (B E : Nat) (ao : Option Addr) (n cap : Nat) (vs : List Value) (hs : a.eval s = .slice ao n cap) (hown : OwnRow B E w ty ao n cap vs)
    (g : Nat) (y : Value) (hx : a.eval x = .slice (some ⟨g, 0, none⟩) 1 1) (hcell : w.cell? ⟨g, 0, none⟩ = some y) (h1 : y.oneCell' = true) (hn : n ≤ 67108863) (hB : B ≤ w.heap.size)
    (h : ∀ ao' cap' w', OwnRow B w'.heap.size w' ty ao' (n + 1) cap' (vs ++ [y]) → Chg (fun k => (Value.slice ao n cap).ownBlock = some k) w w' → NewOr w (.slice ao n cap) (.slice ao' (n + 1) cap') → NewR w w' ao cap ao' cap' → K (a.put o.dst (.slice ao' (n + 1) cap')) w') :
    if Region.wanted o (yielded ops a.tmps) = true then Oper.wp Tryz.prog o a w K Q else E0 := by
  have hw : Region.wanted o (yielded ops a.tmps) = true := by simp [Region.wanted, hgd]
  rw [if_pos hw]
  obtain ⟨ao', cap', w', hr, k1, k2, k3, k4⟩ := run_app_x w t o.type ty z bytes ht hinfo hzs hbytes B ao n cap vs hown.1 ⟨g, 0, none⟩ 1 1 [y] rfl (by
    intro j u hu
    cases j with
    | zero =>
      simp only [List.getElem?_cons_zero, Option.some.injEq] at hu
      subst hu
      rw [Addr.add_lit]
      exact hcell
    | succ j => simp at hu) (by intro u hu; rw [List.mem_singleton.1 hu]; exact h1) (by omega) hB
  unfold Oper.wp
  simp [execOp, ho, resolve, invoke, builtin, hs, hx, hr, Result.andThen]
  exact h ao' cap' w' (OwnRow.of k1) (chg_of_grown k2) k3 k4

theorem Own.shrink {B E w g n cap xs x} (h : Own B E w (some ⟨g, 0, none⟩) (n + 1) cap (xs ++ [x])) : Own B E w (some ⟨g, 0, none⟩) n cap xs := by
  have hl := h.length
  simp only [List.length_append, List.length_singleton] at hl
  refine ⟨⟨by simp; omega, ?_⟩, h.2⟩
  rcases h.1.2 with ⟨hv, _⟩ | ⟨g', c, cur, hv, hg, hh, hnc, hcm, hcs, htake⟩
  · simp at hv
  · simp only [Value.slice.injEq, Option.some.injEq, Addr.mk.injEq, and_true, true_and] at hv
    obtain ⟨rfl, rfl⟩ := hv
    refine .inr ⟨g, cap, cur, rfl, hg, hh, by omega, hcm, hcs, ?_⟩
    have h5 : cur.toList.take (n + 1) = (xs ++ [x]).map (Value.int .i64) := by
      rw [← htake, Nat.mul_one]
    have h6 := congrArg (List.take n) h5
    rw [List.take_take, show min n (n + 1) = n by omega, ← List.map_take, List.take_append_of_le_length (by omega), List.take_of_length_le (l := xs) (by omega)] at h6
    rw [Nat.mul_one]
    exact h6
end Go.Proofs.YtdfmljkjidepeaaGreatDoor
