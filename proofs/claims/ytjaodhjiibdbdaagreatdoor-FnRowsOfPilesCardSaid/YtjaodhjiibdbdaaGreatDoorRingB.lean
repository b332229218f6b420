/- Chapter 2: rings of bits: their piles and their turns. No condition. -/
import Derived.Test.YtjaodhjiibdbdaaGreatDoorOrbC
namespace Go.Proofs.YtjaodhjiibdbdaaGreatDoor
open Go.RowKit
set_option linter.unusedVariables false
set_option linter.unusedSimpArgs false
set_option maxRecDepth 20000

/-- the cells of a ring, one by one -/
def R9 (bs : List Int) (b0 b1 b2 b3 b4 b5 b6 b7 : Int) (n : Nat) : Prop :=
  bs.length = n ∧ n ≤ 8 ∧ bs.getD 0 0 = b0 ∧ bs.getD 1 0 = b1 ∧ bs.getD 2 0 = b2 ∧ bs.getD 3 0 = b3 ∧ bs.getD 4 0 = b4 ∧ bs.getD 5 0 = b5 ∧ bs.getD 6 0 = b6 ∧ bs.getD 7 0 = b7
theorem R9.of {bs : List Int} (h8 : bs.length ≤ 8) : ∃ b0 b1 b2 b3 b4 b5 b6 b7 n, R9 bs b0 b1 b2 b3 b4 b5 b6 b7 n := ⟨_, _, _, _, _, _, _, _, _, rfl, h8, rfl, rfl, rfl, rfl, rfl, rfl, rfl, rfl⟩
theorem R9.v {bs b0 b1 b2 b3 b4 b5 b6 b7 n} (h : R9 bs b0 b1 b2 b3 b4 b5 b6 b7 n) : ringV bs = .agg #[.int .i64 b0, .int .i64 b1, .int .i64 b2, .int .i64 b3, .int .i64 b4, .int .i64 b5, .int .i64 b6, .int .i64 b7, .int .i64 n] := by
  obtain ⟨hn, h8, h0, h1, h2, h3, h4, h5, h6, h7⟩ := h
  unfold ringV ring9
  rw [h0, h1, h2, h3, h4, h5, h6, h7, hn]
theorem wpList_pushX {ops : Array Oper} {rest : List Oper} {o : Oper} {a : Act} {Q : Exit → Act → World → Prop} (w : World) (hgd : o.guard = none) (s x : Operand)
    (ho : o.op = .call { callee := .builtin .append, args := #[s, x], argTypes := #[24, 24] })
    (B E : Nat) (ao : Option Addr) (n cap : Nat) (xs : List Int) (hs : a.eval s = .slice ao n cap) (hown : Own B E w ao n cap xs) (y : Int)
    (hx : a.eval x = .slice (some ⟨w.heap.size, 0, none⟩) 1 1) (hn : n ≤ 67108863) (hB : B ≤ w.heap.size)
    (h : ∀ ao' cap' w', Own B w'.heap.size w' ao' (n + 1) cap' (xs ++ [y]) → Chg (fun k => (Value.slice ao n cap).ownBlock = some k) w w' → NewOr w (.slice ao n cap) (.slice ao' (n + 1) cap') → wpList Tryz.prog ops Q rest (a.put o.dst (.slice ao' (n + 1) cap')) w') :
    wpList Tryz.prog ops Q (o :: rest) a (w.alloc (.cells #[.int .i64 y] 3)) :=
  wpList_pushVX w hgd s x 24 ho 3 _ 8 Tryz.underlying24 Tryz.infoInt rfl (by decide) B E ao n cap _ hs hown _ rfl hx hn hB (fun ao' cap' w' ho' hc hn => h ao' cap' w' (by unfold Own; rw [List.map_append]; exact ho') hc hn)
theorem Chg.newOr {S : Nat → Prop} {w1 wr w2 : World} {v0 v : Value} (h : Chg S w1 wr) (hn : NewOr w1 v0 v) (hv0 : ∀ g, v0.ownBlock = some g → S g) (hc : Chg (fun k => v.ownBlock = some k) wr w2) : Chg S w1 w2 :=
  ⟨hc.os.trans h.os, hc.tape.trans h.tape, hc.output.trans h.output, Nat.le_trans h.size hc.size, fun k hk hs => (hc.block k (Nat.lt_of_lt_of_le hk h.size) (fun e => by
    rcases hn k e with e' | e'
    · exact hs (hv0 k e')
    · omega)).trans (h.block k hk hs)⟩

end Go.Proofs.YtjaodhjiibdbdaaGreatDoor
