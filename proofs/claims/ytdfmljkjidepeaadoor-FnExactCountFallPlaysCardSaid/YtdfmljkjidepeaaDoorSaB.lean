/- Chapter 6 by the model: settling, counting and playing falls, weights, one column. No condition. -/
import Derived.Test.YtdfmljkjidepeaaDoorSaA
import Derived.Test.YtdfmljkjidepeaaDoorSaF
import Derived.Test.YtdfmljkjidepeaaDoorGh
import Derived.Deep.LoopGhost
namespace Go.Proofs.YtdfmljkjidepeaaDoor
open Go.RowKit
set_option linter.unusedVariables false
set_option linter.unusedSimpArgs false
set_option maxRecDepth 20000

/-! ### A row of ints, and another one that is grown beside it -/
structure Sep (B E : Nat) (w : World) (v : Value) (a : Option Addr) (n c : Nat) (xs : List Int) : Prop where
  own : Own B E w a n c xs
  ap : ∀ g, v.ownBlock = some g → (Value.slice a n c).ownBlock ≠ some g
theorem Sep.keep {B E w w' v a n c xs} (h : Sep B E w v a n c xs) (hb : Below w.heap.size w w') : Sep B E w' v a n c xs := ⟨h.own.keep hb, h.ap⟩
theorem Sep.mono {B E B' E' w v a n c xs} (h : Sep B E w v a n c xs) (hB : B' ≤ B) (hE : E ≤ E') : Sep B' E' w v a n c xs := ⟨h.own.mono hB hE, h.ap⟩
theorem Sep.drewN {B E w v a n c xs} (h : Sep B E w v a n c xs) (q : Nat) : Sep B E (w.drewN q) v a n c xs := ⟨h.own, h.ap⟩
theorem Sep.chg {B E w w' v a n c xs} (h : Sep B E w v a n c xs) (hc : Chg (fun k => v.ownBlock = some k) w w') : Sep B E w' v a n c xs :=
  ⟨h.own.chg hc (fun g _ _ h1 h2 => h.ap g h2 h1), h.ap⟩
theorem Sep.push {B E w w' v v' a n c xs} (h : Sep B E w v a n c xs) (hE : E ≤ w.heap.size) (hc : Chg (fun k => v.ownBlock = some k) w w') (hn : NewOr w v v') : Sep B E w' v' a n c xs :=
  ⟨(h.chg hc).own, fun g hg h1 => by
    rcases hn g hg with h2 | h2
    · exact h.ap g h2 h1
    · have := h.own.2 g h1
      omega⟩
/-- what was made behind a world that holds the other one -/
theorem Sep.fresh {B E w v a n c xs} (h : Own B E w a n c xs) (hv : ∀ g, v.ownBlock = some g → g < B) : Sep B E w v a n c xs :=
  ⟨h, fun g hg h1 => by have := hv g hg; have := (h.1.lt g h1).1; omega⟩
theorem Sep.nil {B E w a n c xs} (h : Own B E w a n c xs) : Sep B E w (.slice none 0 0) a n c xs := ⟨h, fun g hg => by simp [Value.ownBlock] at hg⟩
theorem ownLt {B E w a n c xs} (h : Own B E w a n c xs) : ∀ g, (Value.slice a n c).ownBlock = some g → g < E := h.2
theorem Own.chgSelf {w w' : World} {g n c : Nat} (h : Chg (fun k => some k = (Value.slice (some ⟨g, 0, none⟩) n c).ownBlock) w w') : Chg (fun k => (Value.slice (some ⟨g, 0, none⟩) n c).ownBlock = some k) w w' := h.mono fun k hk => hk.symm
theorem chgCell (w : World) (g i n c : Nat) (v : Value) : Chg (fun k => (Value.slice (some ⟨g, 0, none⟩) n c).ownBlock = some k) w (w.setCell ⟨g, i, none⟩ v) :=
  ⟨rfl, rfl, rfl, by simp, fun q _ hq => heap_setCell_other w ⟨g, i, none⟩ q _ (fun e => hq (by simp [Value.ownBlock, e]))⟩
/-- one number more behind a row of ints, and where the row lies then -/
theorem wpList_pushI {ops : Array Oper} {rest : List Oper} {o : Oper} {a : Act} {Q : Exit → Act → World → Prop} (w : World) (hgd : o.guard = none) (s x : Operand)
    (ho : o.op = .call { callee := .builtin .append, args := #[s, x], argTypes := #[22, 22] })
    (B E : Nat) (ao : Option Addr) (n cap : Nat) (xs : List Int) (hs : a.eval s = .slice ao n cap) (hown : Own B E w ao n cap xs) (y : Int)
    (hx : a.eval x = .slice (some ⟨w.heap.size, 0, none⟩) 1 1) (hn : n ≤ 67108863) (hB : B ≤ w.heap.size)
    (h : ∀ ao' cap' w', Own B w'.heap.size w' ao' (n + 1) cap' (xs ++ [y]) → Chg (fun k => (Value.slice ao n cap).ownBlock = some k) w w' → NewOr w (.slice ao n cap) (.slice ao' (n + 1) cap') → wpList Tryd.prog ops Q rest (a.put o.dst (.slice ao' (n + 1) cap')) w') :
    wpList Tryd.prog ops Q (o :: rest) a (w.alloc (.cells #[.int .i64 y] 3)) :=
  wpList_pushVX w hgd s x 22 ho 3 _ 8 Tryd.underlying22 Tryd.infoInt rfl (by decide) B E ao n cap _ hs hown _ rfl hx hn hB (fun ao' cap' w' ho' hc hnew => h ao' cap' w' (by unfold Own; rw [List.map_append]; exact ho') hc hnew)

theorem cnts_go {xs : List Int} (hg : Grains xs) {t : Nat} (h : ∀ u, u < t → firstN (stepsS xs u) ≠ none) (i : Nat) : 0 ≤ (cntS xs t).getD i 0 ∧ (cntS xs t).getD i 0 ≤ 576 := by
  have h1 := (steps_go hg h).2.2.2 i
  have h2 := steps_few hg h
  omega

theorem Grains.take {xs : List Int} (h : Grains xs) (k : Nat) : Grains (xs.take k) := by
  refine ⟨h.good.take k, ?_⟩
  have h1 := h.good.1
  have h2 : xs.sum = (xs.take k).sum + (xs.drop k).sum := by rw [← List.sum_append, List.take_append_drop]
  have h3 := sum_nonneg (fun x hx => h1 x (List.mem_of_mem_drop hx) : ∀ x ∈ xs.drop k, 1 ≤ x)
  have := h.2
  omega
theorem l1In_yes' (a lo hi : Int) (w : World) (h : lo ≤ a ∧ a ≤ hi) : Calls Tryd.prog 38 #[.int .i64 a, .int .i64 lo, .int .i64 hi] w fun e w' => e = .returned (.bool true) ∧ w = w' := by
  have := l1In_any a lo hi w; rw [decide_eq_true h] at this; exact this
theorem l1In_no' (a lo hi : Int) (w : World) (h : ¬ (lo ≤ a ∧ a ≤ hi)) : Calls Tryd.prog 38 #[.int .i64 a, .int .i64 lo, .int .i64 hi] w fun e w' => e = .returned (.bool false) ∧ w = w' := by
  have := l1In_any a lo hi w; rw [decide_eq_false h] at this; exact this

end Go.Proofs.YtdfmljkjidepeaaDoor
