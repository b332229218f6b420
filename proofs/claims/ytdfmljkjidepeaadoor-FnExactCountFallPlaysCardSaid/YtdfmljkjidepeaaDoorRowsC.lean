/- Rows that are cut, cells that are cleared, rows in blocks of their own. No condition. -/
import Derived.Test.YtdfmljkjidepeaaDoorRowsR
import Derived.Lib.SliceRun
namespace Go.Proofs.YtdfmljkjidepeaaDoor
open Go.RowKit
set_option linter.unusedVariables false
set_option linter.unusedSimpArgs false
set_option maxRecDepth 20000

theorem OwnRow.cut {B E w ty g n cap us} (h : OwnRow B E w ty (some ⟨g, 0, none⟩) n cap us) {k : Nat} (hk : k ≤ n) : OwnRow B E w ty (some ⟨g, 0, none⟩) k cap (us.take k) := by
  have hl := h.length
  rcases h.1.2 with ⟨hv, _⟩ | ⟨g', c', cur, hv, hg, hh, hnc, hcm, hcs, htake⟩
  · simp at hv
  · simp only [Value.slice.injEq, Option.some.injEq, Addr.mk.injEq, and_true, true_and] at hv
    obtain ⟨rfl, rfl⟩ := hv
    refine ⟨⟨by simp [hl]; omega, .inr ⟨g, cap, cur, rfl, hg, hh, by omega, hcm, hcs, ?_⟩⟩, h.2⟩
    rw [← htake, List.take_take]
    congr 1
    omega
theorem setCells_own {B E n cap : Nat} {ty : TypeId} (g : Nat) : ∀ (vs : List Value) (o : Nat) (w : World) (us : List Value), OwnRow B E w ty (some ⟨g, 0, none⟩) n cap us →
    ∃ us', OwnRow B E (w.setCells g o vs) ty (some ⟨g, 0, none⟩) n cap us' ∧ us'.take o = us.take o ∧ Chg (fun k => k = g) w (w.setCells g o vs)
  | [], o, w, us, h => ⟨us, h, rfl, Chg.refl _ _⟩
  | v :: r, o, w, us, h => by
    obtain ⟨h1, h2⟩ := World.ownsRow.stored h.1 o v
    obtain ⟨us', h3, h4, h5⟩ := setCells_own g r (o + 1) _ _ ⟨h1, h.2⟩
    refine ⟨us', h3, ?_, ((Chg.ofGrown h2).mono (fun k hk => by simpa using hk)).trans h5⟩
    have := congrArg (List.take o) h4
    rw [List.take_take, List.take_take, Nat.min_eq_left (by omega)] at this
    rw [this, List.take_set_of_le (by omega)]
theorem zeroInts (w : World) : (zeroValue 22).run Tryd.prog w = .ok (.slice none 0 0) w := by kernel_rfl
theorem slFromG (g n cap lo : Nat) (h1 : lo < n) (h2 : n ≤ cap) (k : IntKind) (w : World) : (Instr.sliceAt 28 (.slice (some ⟨g, 0, none⟩) n cap) (some (.int k (lo : Int))) none none).run Tryd.prog w = .ok (.slice (some ⟨g, lo, none⟩) (n - lo) (cap - lo)) w := by
  have hrun := run_slice_l (P := Tryd.prog) (w := w) 28 (some ⟨g, 0, none⟩) n cap Tryd.underlying28 k (lo : Int) (by omega) (by omega)
  rw [sizeInts] at hrun
  rw [run_sliceAt_slice _ _ _ _ _ _ Tryd.underlying28, hrun]
  have : ¬ cap = lo := by omega
  simp [Result.andThen, sliced, this, Addr.add_lit]
theorem slUptoG (g n cap hi : Nat) (h1 : hi ≤ n) (h2 : n ≤ cap) (h3 : 0 < cap) (k : IntKind) (w : World) : (Instr.sliceAt 28 (.slice (some ⟨g, 0, none⟩) n cap) none (some (.int k (hi : Int))) none).run Tryd.prog w = .ok (.slice (some ⟨g, 0, none⟩) hi cap) w := by
  have hrun := run_slice_h (P := Tryd.prog) (w := w) 28 (some ⟨g, 0, none⟩) n cap Tryd.underlying28 k (hi : Int) (by omega) (by omega)
  rw [sizeInts] at hrun
  rw [run_sliceAt_slice _ _ _ _ _ _ Tryd.underlying28, hrun]
  have : ¬ cap = 0 := by omega
  simp [Result.andThen, sliced, this, Addr.add_lit]
theorem clear_run (w : World) (B E : Nat) (g i n cap c2 : Nat) (us : List Value) (hown : OwnRow B E w 22 (some ⟨g, 0, none⟩) n cap us) (hi : i < n) (ty : TypeId) :
    ∃ w', (Builtin.clear_ #[28] ty #[.slice (some ⟨g, i, none⟩) (n - i) c2]).run Tryd.prog w = .ok (.tuple #[]) w' ∧ OwnRow B E w' 22 (some ⟨g, 0, none⟩) i cap (us.take i) ∧ Chg (fun k => k = g) w w' := by
  obtain ⟨us', h1, h2, h3⟩ := setCells_own g (List.replicate (n - i) (Value.slice none 0 0)) i w us hown
  have hl := hown.length
  have hr := Lib.run_clear_slice (P := Tryd.prog) w 28 22 ty (.slice none 0 0) Tryd.underlying28 zeroInts rfl rfl g i (n - i) c2 (by omega) (fun j hj => by
      rw [World.ownsRow.cellAt hown.1 (i + j) (by omega), List.getElem?_eq_getElem (by omega)]; rfl) (fun j hj => World.ownsRow.frozenAt hown.1 (i + j))
  refine ⟨_, hr, ?_, h3⟩
  rw [← h2]
  exact h1.cut (by omega)
theorem OwnRow.capLe {B E w ty ao n cap vs} (h : OwnRow B E w ty ao n cap vs) : n ≤ cap := h.at.le

theorem apart_snoc {vs : List Value} {B E F : Nat} {w w' : World} {xss : List (List Int)} (hr : RowsW B E w vs xss) (hp : vs.Pairwise apart) {a : Option Addr} {m c : Nat} {x : List Int} (ho : Own E F w' a m c x) : (vs ++ [Value.slice a m c]).Pairwise apart := by
  rw [List.pairwise_append]
  refine ⟨hp, by simp, fun v hv u hu => ?_⟩
  rw [List.mem_singleton.1 hu]
  obtain ⟨i, hi, rfl⟩ := List.getElem_of_mem hv
  obtain ⟨a', m', c', e, ho'⟩ := hr.row i (by rw [← hr.length]; exact hi)
  rw [List.getD_eq_getElem?_getD, List.getElem?_eq_getElem hi] at e
  simp only [Option.getD_some] at e
  rw [e]
  unfold apart
  cases h1 : (Value.slice a' m' c').ownBlock with
  | none => exact .inl rfl
  | some g =>
    right
    intro h2
    have h3 := ho'.2 g h1
    have h4 := (ho.1.lt g h2.symm).1
    omega
theorem apart_append {vs us : List Value} {C D C' D' : Nat} {w w' : World} {xss yss : List (List Int)} (hr : RowsW C D w vs xss) (hp : vs.Pairwise apart) (kr : RowsW C' D' w' us yss) (kp : us.Pairwise apart) (hd : D ≤ C') : (vs ++ us).Pairwise apart := by
  rw [List.pairwise_append]
  refine ⟨hp, kp, fun v hv u hu => ?_⟩
  obtain ⟨i, hi, rfl⟩ := List.getElem_of_mem hv
  obtain ⟨j, hj, rfl⟩ := List.getElem_of_mem hu
  obtain ⟨a, m, c, e, ho⟩ := hr.row i (by rw [← hr.length]; exact hi)
  obtain ⟨a', m', c', e', ho'⟩ := kr.row j (by rw [← kr.length]; exact hj)
  rw [List.getD_eq_getElem?_getD, List.getElem?_eq_getElem hi] at e
  rw [List.getD_eq_getElem?_getD, List.getElem?_eq_getElem hj] at e'
  simp only [Option.getD_some] at e e'
  rw [e, e']
  unfold apart
  cases h1 : (Value.slice a m c).ownBlock with
  | none => exact .inl rfl
  | some g =>
    right
    intro h2
    have h3 := ho.2 g h1
    have h4 := (ho'.1.lt g h2.symm).1
    omega
end Go.Proofs.YtdfmljkjidepeaaDoor
