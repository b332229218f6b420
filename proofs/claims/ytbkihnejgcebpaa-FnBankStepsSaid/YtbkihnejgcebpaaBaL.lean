/- Chapter 7: what the laws' walks ask of bank states, spelt as values. No condition but a bound on lengths. -/
import Derived.Test.YtbkihnejgcebpaaBaH
namespace Go.Proofs.Ytbkihnejgcebpaa
open Go.RowKit
set_option linter.unusedVariables false
set_option linter.unusedSimpArgs false
set_option maxRecDepth 20000

theorem toBankL (h l : Int) (ao : Option Addr) (n cap : Nat) (xs : List Int) (hn : n ≤ 1048576) (W : World) (hA : IntsAt W ao n cap xs) :
    Calls Try.prog 13 #[.agg #[.int .i64 h, .int .i64 l, .slice ao n cap]] W fun e w' => ∃ ao' cap', e = .returned (.agg #[.int .i64 h, .int .i64 l, .slice ao' n cap']) ∧ Own W.heap.size w'.heap.size w' ao' n cap' xs ∧ Below W.heap.size W w' := toBank_any h l ao n cap xs W hA hn
theorem eqBankL (h l h' l' : Int) (ao bo : Option Addr) (n m c c' : Nat) (xs ys : List Int) (W : World) (hA : IntsAt W ao n c xs) (hB : IntsAt W bo m c' ys) (he : h = h' ∧ l = l' ∧ xs = ys) :
    Calls Try.prog 15 #[.agg #[.int .i64 h, .int .i64 l, .slice ao n c], .agg #[.int .i64 h', .int .i64 l', .slice bo m c']] W fun e w' => e = .returned (.bool true) ∧ Below W.heap.size W w' := by
  have := eqBank_any h l h' l' ao bo n m c c' xs ys W hA hB
  rw [decide_eq_true he] at this
  exact this
theorem szBankL (h l : Int) (ao : Option Addr) (n cap : Nat) (hn : n ≤ 1048576) (w : World) :
    Calls Try.prog 11 #[.agg #[.int .i64 h, .int .i64 l, .slice ao n cap], .int .i64 1048576] w fun e w' => e = .returned (.int .i64 (1048576 - n)) ∧ Below w.heap.size w w' := szBank_small h l ao n cap w hn
theorem szBankN (h l : Int) (ao : Option Addr) (n cap : Nat) (hn : 1048576 < n) (hI : (n : Int) ≤ 9223372036854775807) (w : World) :
    Calls Try.prog 11 #[.agg #[.int .i64 h, .int .i64 l, .slice ao n cap], .int .i64 1048576] w fun e w' => e = .returned (.int .i64 (-1)) ∧ Below w.heap.size w w' := szBank_big h l ao n cap w hn hI
theorem markBankL (B E : Nat) (h l : Int) (ao : Option Addr) (n cap : Nat) (xs : List Int) (k : Int) (w : World) (hO : Own B E w ao n cap xs) (hn : n ≤ 1048576) (hk0 : 0 ≤ k) (hk1 : k ≤ 1048576) :
    Calls Try.prog 16 #[.agg #[.int .i64 h, .int .i64 l, .slice ao n cap], .int .i64 k] w fun e w' => e = .returned (.int .i64 (k + n)) ∧ Own B E w' ao n cap (marks k n) ∧ Chg (Rg B E) w w' := markBank_any B E h l ao n cap xs k w hO hn hk0 hk1
/-- a bank state's block, cell by cell -/
def Blk (w : World) (g : Nat) (h l : Int) (a : Option Addr) (n c : Nat) (ty : TypeId) : Prop := w.heap[g]? = some (.cells #[.int .i64 h, .int .i64 l, .slice a n c] ty (0, 0))
theorem Blk.cells {w g h l a n c ty} (hh : Blk w g h l a n c ty) : (w.cell? ⟨g, 0, none⟩ = some (.int .i64 h) ∧ w.cell? ⟨g, 1, none⟩ = some (.int .i64 l) ∧ w.cell? ⟨g, 2, none⟩ = some (.slice a n c)) ∧ w.frozen? ⟨g, 0, none⟩ = false ∧ w.frozen? ⟨g, 1, none⟩ = false ∧ w.frozen? ⟨g, 2, none⟩ = false := bank3 hh
theorem Blk.size {w g h l a n c ty} (hh : Blk w g h l a n c ty) : g < w.heap.size := (Array.getElem?_eq_some_iff.1 hh).1
theorem Blk.keep {w w' g h l a n c ty} (hh : Blk w g h l a n c ty) (hb : Below w.heap.size w w') : Blk w' g h l a n c ty := (keepAt hb hh.size).trans hh
theorem Blk.drew {w g h l a n c ty} (hh : Blk w g h l a n c ty) : Blk w.drew g h l a n c ty := hh
theorem Blk.rg {B E w w' g h l a n c ty} (hh : Blk w g h l a n c ty) (hc : Chg (Rg B E) w w') (hd : E ≤ g ∨ g < B) : Blk w' g h l a n c ty := by
  unfold Blk
  rw [hc.block g hh.size (fun q => by have := q.1; have := q.2; omega)]
  exact hh
theorem Blk.new (w : World) (h l : Int) (a : Option Addr) (n c : Nat) (ty : TypeId) : Blk (w.alloc (.cells #[.int .i64 h, .int .i64 l, .slice a n c] ty)) w.heap.size h l a n c ty := allocNew w _
end Go.Proofs.Ytbkihnejgcebpaa
