/- Chapter 6 by the model: settling, counting and playing falls, weights, one column. No condition. -/
import Derived.Test.YtdfmljkjidepeaaGreatDoorSaA
import Derived.Test.YtdfmljkjidepeaaGreatDoorSaF
import Derived.Test.YtdfmljkjidepeaaGreatDoorGh
import Derived.Deep.LoopGhost
namespace Go.Proofs.YtdfmljkjidepeaaGreatDoor
open Go.RowKit
set_option linter.unusedVariables false
set_option linter.unusedSimpArgs false
set_option maxRecDepth 20000

/-! ### A row of ints, and another one that is grown beside it -/
structure Sep (B E : Nat) (w : World) (v : Value) (a : Option Addr) (n c : Nat) (xs : List Int) : Prop where
  own : Own B E w a n c xs
  ap : ∀ g, v.ownBlock = some g → (Value.slice a n c).ownBlock ≠ some g
theorem Sep.keep {B E w w' v a n c xs} (h : Sep B E w v a n c xs) (hb : Below w.heap.size w w') : Sep B E w' v a n c xs := ⟨h.own.keep hb, h.ap⟩
theorem Sep.mono {B E B' E' w v a n c xs} (h : Sep B E w v a n c xs) (hB : B' ≤ B) (hE : E ≤ E') : Sep B' E' w v a n c xs := ⟨h.own.mono hB hE, h.ap⟩
theorem Sep.drewN {B E w v a n c xs} (h : Sep B E w v a n c xs) (q : Nat) : Sep B E (w.drewN q) v a n c xs := ⟨h.own, h.ap⟩
theorem Sep.chg {B E w w' v a n c xs} (h : Sep B E w v a n c xs) (hc : Chg (fun k => v.ownBlock = some k) w w') : Sep B E w' v a n c xs :=
  ⟨h.own.chg hc (fun g _ _ h1 h2 => h.ap g h2 h1), h.ap⟩
theorem Sep.push {B E w w' v v' a n c xs} (h : Sep B E w v a n c xs) (hE : E ≤ w.heap.size) (hc : Chg (fun k => v.ownBlock = some k) w w') (hn : NewOr w v v') : Sep B E w' v' a n c xs :=
  ⟨(h.chg hc).own, fun g hg h1 => by
    rcases hn g hg with h2 | h2
    · exact h.ap g h2 h1
    · have := h.own.2 g h1
      omega⟩
/-- what was made behind a world that holds the other one -/
theorem Sep.fresh {B E w v a n c xs} (h : Own B E w a n c xs) (hv : ∀ g, v.ownBlock = some g → g < B) : Sep B E w v a n c xs :=
  ⟨h, fun g hg h1 => by have := hv g hg; have := (h.1.lt g h1).1; omega⟩
theorem Sep.nil {B E w a n c xs} (h : Own B E w a n c xs) : Sep B E w (.slice none 0 0) a n c xs := ⟨h, fun g hg => by simp [Value.ownBlock] at hg⟩
theorem ownLt {B E w a n c xs} (h : Own B E w a n c xs) : ∀ g, (Value.slice a n c).ownBlock = some g → g < E := h.2
theorem Own.chgSelf {w w' : World} {g n c : Nat} (h : Chg (fun k => some k = (Value.slice (some ⟨g, 0, none⟩) n c).ownBlock) w w') : Chg (fun k => (Value.slice (some ⟨g, 0, none⟩) n c).ownBlock = some k) w w' := h.mono fun k hk => hk.symm
theorem chgCell (w : World) (g i n c : Nat) (v : Value) : Chg (fun k => (Value.slice (some ⟨g, 0, none⟩) n c).ownBlock = some k) w (w.setCell ⟨g, i, none⟩ v) :=
  ⟨rfl, rfl, rfl, by simp, fun q _ hq => heap_setCell_other w ⟨g, i, none⟩ q _ (fun e => hq (by simp [Value.ownBlock, e]))⟩
/-- one number more behind a row of ints, and where the row lies then -/
theorem wpList_pushI {ops : Array Oper} {rest : List Oper} {o : Oper} {a : Act} {Q : Exit → Act → World → Prop} (w : World) (hgd : o.guard = none) (s x : Operand)
    (ho : o.op = .call { callee := .builtin .append, args := #[s, x], argTypes := #[24, 24] })
    (B E : Nat) (ao : Option Addr) (n cap : Nat) (xs : List Int) (hs : a.eval s = .slice ao n cap) (hown : Own B E w ao n cap xs) (y : Int)
    (hx : a.eval x = .slice (some ⟨w.heap.size, 0, none⟩) 1 1) (hn : n ≤ 67108863) (hB : B ≤ w.heap.size)
    (h : ∀ ao' cap' w', Own B w'.heap.size w' ao' (n + 1) cap' (xs ++ [y]) → Chg (fun k => (Value.slice ao n cap).ownBlock = some k) w w' → NewOr w (.slice ao n cap) (.slice ao' (n + 1) cap') → wpList Tryz.prog ops Q rest (a.put o.dst (.slice ao' (n + 1) cap')) w') :
    wpList Tryz.prog ops Q (o :: rest) a (w.alloc (.cells #[.int .i64 y] 3)) :=
  wpList_pushVX w hgd s x 24 ho 3 _ 8 Tryz.underlying24 Tryz.infoInt rfl (by decide) B E ao n cap _ hs hown _ rfl hx hn hB (fun ao' cap' w' ho' hc hnew => h ao' cap' w' (by unfold Own; rw [List.map_append]; exact ho') hc hnew)

theorem cnts_go {xs : List Int} (hg : Grains xs) {t : Nat} (h : ∀ u, u < t → firstN (stepsS xs u) ≠ none) (i : Nat) : 0 ≤ (cntS xs t).getD i 0 ∧ (cntS xs t).getD i 0 ≤ 576 := by
  have h1 := (steps_go hg h).2.2.2 i
  have h2 := steps_few hg h
  omega

theorem Grains.take {xs : List Int} (h : Grains xs) (k : Nat) : Grains (xs.take k) := by
  refine ⟨h.good.take k, ?_⟩
  have h1 := h.good.1
  have h2 : xs.sum = (xs.take k).sum + (xs.drop k).sum := by rw [← List.sum_append, List.take_append_drop]
  have h3 := sum_nonneg (fun x hx => h1 x (List.mem_of_mem_drop hx) : ∀ x ∈ xs.drop k, 1 ≤ x)
  have := h.2
  omega
set_option maxHeartbeats 800000 in
theorem saWeight_any (ao : Option Addr) (n cap : Nat) (xs : List Int) (w : World) (h : IntsAt w ao n cap xs) (hg : Grains xs) :
    Calls Tryz.prog 24 #[.slice ao n cap] w fun e w' => e = .returned (.int .i64 (wt 0 xs)) ∧ w = w' := by
  have hn := h.lenInt
  have hl := h.length
  have hlen := hg.len
  have hn24 : (n : Int) ≤ 24 := by omega
  have Hg := Lib.hid hg; clear hg
  have Hl := Lib.hid hl; clear hl
  go_enter Tryz.func24, Tryz.ntmps24
  go_wp2
  go_loop [3, 8] (fun s i => ∃ k : Nat, ∃ t : Int, k ≤ n ∧ i = .int .i64 k ∧ s = .int .i64 t ∧ wt 0 (xs.take k) = t) (fun _ i => n - (intOf i).toNat)
  case atStart => exact ⟨0, 0, Nat.zero_le _, rfl, rfl, rfl⟩
  case round =>
    obtain ⟨k, t, hk, rfl, rfl, ht⟩ := hrel
    have hb := (Hg.out.take k).wt
    rw [ht] at hb
    have Ht := Lib.hid ht; clear ht
    by_cases hlt : k < n
    · obtain ⟨b, o, rfl, hb, hc⟩ := h.cell k hlt
      have hck := hc k hlt
      clear hc
      generalize hx : xs.getD k 0 = x at hck
      have Hx := Lib.hid hx; clear hx
      have e := take_snoc Hx.out hlt Hl.out
      have hx := grains_at Hg.out k
      rw [Hx.out] at hx
      have e2 : wt 0 (xs.take (k + 1)) = t + (k : Int) * x := by
        rw [e, wt_snoc, Ht.out, List.length_take, Nat.min_eq_left (by have := Hl.out; omega)]
        simp
      have hq : 0 ≤ (k : Int) * x ∧ (k : Int) * x ≤ 576 := by
        refine ⟨Int.mul_nonneg (by omega) (by omega), ?_⟩
        have h1 : (k : Int) * x ≤ (k : Int) * 24 := Int.mul_le_mul_of_nonneg_left (by omega) (by omega)
        omega
      have E2 := Lib.hid e2; clear e2
      have E := Lib.hid e; clear e
      go_wp2
      go_round
      case rel => exact ⟨k + 1, t + (k : Int) * x, by omega, by go_num, rfl, E2.out⟩
      case measure => simp [intOf]; omega
    · go_wp2
      go_ret
      obtain rfl : n = k := by omega
      have hh := Ht.out
      rw [take_all Hl.out] at hh
      exact ⟨by first | rfl | (rw [hh]; rfl), rfl⟩
theorem l1In_yes' (a lo hi : Int) (w : World) (h : lo ≤ a ∧ a ≤ hi) : Calls Tryz.prog 79 #[.int .i64 a, .int .i64 lo, .int .i64 hi] w fun e w' => e = .returned (.bool true) ∧ w = w' := by
  have := l1In_any a lo hi w; rw [decide_eq_true h] at this; exact this
theorem l1In_no' (a lo hi : Int) (w : World) (h : ¬ (lo ≤ a ∧ a ≤ hi)) : Calls Tryz.prog 79 #[.int .i64 a, .int .i64 lo, .int .i64 hi] w fun e w' => e = .returned (.bool false) ∧ w = w' := by
  have := l1In_any a lo hi w; rw [decide_eq_false h] at this; exact this

end Go.Proofs.YtdfmljkjidepeaaGreatDoor
