/- Several texts in one: BaM, BaH, BaL. No condition. -/
import Derived.Test.YtimmjimeldejjaaGreatDoorGa
import Derived.Test.YtimmjimeldejjaaGreatDoorHelp
import Derived.Test.YtimmjimeldejjaaGreatDoorGb
namespace Go.Proofs.YtimmjimeldejjaaGreatDoor
section
set_option linter.unusedVariables false
set_option linter.unusedSimpArgs false

structure Bk where
  h : Int
  l : Int
  p : List Int
  deriving DecidableEq
def BankOk (b : Bk) : Prop := (1 ≤ b.h ∧ b.h ≤ 10) ∧ (0 ≤ b.l ∧ b.l ≤ b.h - 1) ∧ Good b.p ∧ b.p.getD 0 0 ≤ b.h ∧ b.l + b.p.sum ≤ 28
instance (b : Bk) : Decidable (BankOk b) := by unfold BankOk; infer_instance
def bankB (b : Bk) : Bool := decide (BankOk b)
theorem bank_iff {b : Bk} : bankB b = true ↔ BankOk b := by unfold bankB; simp
theorem bank_no {b : Bk} : bankB b = false ↔ ¬ BankOk b := by unfold bankB; simp
theorem head_all {xs : List Int} (h : Good xs) {x : Int} (hx : x ∈ xs) : x ≤ xs.getD 0 0 := by
  cases xs with
  | nil => cases hx
  | cons a l =>
    rcases List.mem_cons.1 hx with rfl | hm
    · exact Int.le_refl _
    · have := (List.pairwise_cons.1 h.2.1).1 x hm
      exact this
theorem BankOk.le {b : Bk} (h : BankOk b) {x : Int} (hx : x ∈ b.p) : 1 ≤ x ∧ x ≤ b.h := ⟨h.2.2.1.1 x hx, Int.le_trans (head_all h.2.2.1 hx) h.2.2.2.1⟩
theorem BankOk.len {b : Bk} (h : BankOk b) : b.p.length ≤ 28 := h.2.2.1.len
theorem BankOk.sum {b : Bk} (h : BankOk b) : 0 ≤ b.p.sum ∧ b.p.sum ≤ 28 ∧ (b.p.length : Int) ≤ b.p.sum := by
  have h1 := sum_nonneg h.2.2.1.1
  have h2 := h.2.2.2.2
  have h3 := h.2.1.1
  omega
/-- new piles of c cards, in front of older ones -/
def fillB (h c : Int) (older : List Int) : Bk := ⟨h, c % h, List.replicate (c / h).toNat h ++ older⟩
def stepB (b : Bk) : Bk := fillB b.h (b.l + b.p.length) (lowL b.p)
def madeB (b : Bk) : Int := (b.l + b.p.length) / b.h
def stepsB : Nat → Bk → Bk
  | 0, b => b
  | k + 1, b => stepB (stepsB k b)
theorem sum_replicate (n : Nat) (x : Int) : (List.replicate n x).sum = n * x := by
  induction n with
  | zero => simp
  | succ n ih => rw [List.replicate_succ, List.sum_cons, ih]; push_cast; rw [Int.add_mul]; omega
theorem fill_ok {h c : Int} {older : List Int} (h1 : 1 ≤ h ∧ h ≤ 10) (h2 : 0 ≤ c) (h3 : ∀ x ∈ older, 1 ≤ x ∧ x ≤ h) (h4 : older.Pairwise (· ≥ ·)) (h5 : c + older.sum ≤ 28) : BankOk (fillB h c older) ∧ (fillB h c older).l + (fillB h c older).p.sum = c + older.sum ∧ 0 ≤ c / h ∧ c / h ≤ 28 := by
  have e1 : h * (c / h) + c % h = c := Int.mul_ediv_add_emod c h
  have e2 : 0 ≤ c % h := Int.emod_nonneg c (by omega)
  have e3 : c % h < h := Int.emod_lt_of_pos c (by omega)
  have e4 : 0 ≤ c / h := Int.ediv_nonneg h2 (by omega)
  have e5 : c / h ≤ c := Int.ediv_le_self _ h2
  have e6 := sum_nonneg (fun x hx => (h3 x hx).1 : ∀ x ∈ older, 1 ≤ x)
  have hs : (List.replicate (c / h).toNat h ++ older).sum = h * (c / h) + older.sum := by
    rw [List.sum_append, sum_replicate, Int.toNat_of_nonneg e4, Int.mul_comm]
  have hsum : (fillB h c older).l + (fillB h c older).p.sum = c + older.sum := by
    show c % h + (List.replicate (c / h).toNat h ++ older).sum = _
    rw [hs]; omega
  have hmem : ∀ x ∈ List.replicate (c / h).toNat h ++ older, 1 ≤ x ∧ x ≤ h := fun x hx => by
    rcases List.mem_append.1 hx with h' | h'
    · have := List.eq_of_mem_replicate h'; omega
    · exact h3 x h'
  refine ⟨⟨h1, ⟨e2, by show c % h ≤ h - 1; omega⟩, ⟨fun x hx => (hmem x hx).1, ?_, by show (List.replicate (c / h).toNat h ++ older).sum ≤ 28; rw [hs]; omega⟩, ?_, by rw [hsum]; exact h5⟩, hsum, e4, by omega⟩
  · show (List.replicate (c / h).toNat h ++ older).Pairwise (· ≥ ·)
    rw [List.pairwise_append]
    refine ⟨List.pairwise_replicate.2 (.inr (Int.le_refl _)), h4, fun x hx y hy => ?_⟩
    have := List.eq_of_mem_replicate hx
    have := (h3 y hy).2
    show y ≤ x
    omega
  · show (List.replicate (c / h).toNat h ++ older).getD 0 0 ≤ h
    cases hl : List.replicate (c / h).toNat h ++ older with
    | nil => simp; omega
    | cons a l =>
      have := hmem a (by rw [hl]; simp)
      simp; omega
theorem step_low {b : Bk} (h : BankOk b) : ∀ x ∈ lowL b.p, 1 ≤ x ∧ x ≤ b.h := fun x hx => by
  obtain ⟨y, hy, h1, rfl⟩ := lowL_mem hx
  have := h.le hy
  omega
theorem step_ok {b : Bk} (h : BankOk b) : BankOk (stepB b) ∧ (stepB b).l + (stepB b).p.sum = b.l + b.p.sum ∧ 0 ≤ madeB b ∧ madeB b ≤ 28 := by
  have h1 := lowL_sum h.2.2.1.1
  have h2 := h.sum
  have h3 := h.2.1.1
  have h4 := h.2.2.2.2
  have := fill_ok (h := b.h) (c := b.l + b.p.length) (older := lowL b.p) h.1 (by omega) (step_low h) (lowL_sorted h.2.2.1.2.1) (by rw [h1]; omega)
  refine ⟨this.1, ?_, this.2.2⟩
  have e := this.2.1
  rw [h1] at e
  show (fillB b.h (b.l + b.p.length) (lowL b.p)).l + (fillB b.h (b.l + b.p.length) (lowL b.p)).p.sum = _
  rw [e]; omega
theorem steps_okB {b : Bk} (h : BankOk b) : ∀ k, BankOk (stepsB k b)
  | 0 => h
  | k + 1 => (step_ok (steps_okB h k)).1
def noBk : Bk := ⟨0, 0, []⟩
def mStartBank (h n : Int) : Bk × Bool := if (1 ≤ h ∧ h ≤ 10) ∧ 0 ≤ n ∧ n ≤ 28 then (fillB h n [], true) else (noBk, false)
def mStepBank (b : Bk) : Bk × Int × Bool := if bankB b = true then (stepB b, madeB b, true) else (noBk, 0, false)
def newL (b : Bk) (k : Nat) : List Int := (List.range k).map fun i => madeB (stepsB i b)
theorem newL_length (b : Bk) (k : Nat) : (newL b k).length = k := by simp [newL]
theorem newL_succ (b : Bk) (k : Nat) : newL b (k + 1) = newL b k ++ [madeB (stepsB k b)] := by unfold newL; rw [List.range_succ, List.map_append]; rfl
/-! ### Ages -/
end
end Go.Proofs.YtimmjimeldejjaaGreatDoor
namespace Go.Proofs.YtimmjimeldejjaaGreatDoor
section
open Go.RowKit
set_option linter.unusedVariables false
set_option linter.unusedSimpArgs false
set_option maxRecDepth 20000

/-- a bank state: its height, what is left, the slice of its piles -/
def bankV (h l : Int) (a : Option Addr) (n c : Nat) : Value := .agg #[.int .i64 h, .int .i64 l, .slice a n c]

/-- the block of a bank state's three cells -/
def bankC (h l : Int) (a : Option Addr) (n c : Nat) (ty : TypeId) : Obj := .cells #[.int .i64 h, .int .i64 l, .slice a n c] ty
theorem cellOfB {w : World} {g : Nat} {cs : Array Value} {ty : TypeId} (h : w.heap[g]? = some (.cells cs ty (0, 0))) (i : Nat) (v : Value) (hv : cs[i]? = some v) : w.cell? ⟨g, i, none⟩ = some v ∧ w.frozen? ⟨g, i, none⟩ = false := by
  constructor
  · simp [World.cell?, h, hv]
  · simp [World.frozen?, h]
theorem allocNew (w : World) (o : Obj) : (w.alloc o).heap[w.heap.size]? = some o := by show (w.heap.push o)[w.heap.size]? = some o; simp
theorem keepAt {w w' : World} (hb : Below w.heap.size w w') {k : Nat} (hk : k < w.heap.size) : w'.heap[k]? = w.heap[k]? := (Chg.ofBelow (S := fun _ => False) hb).block k hk id
theorem bank3 {w : World} {g : Nat} {h l : Int} {a : Option Addr} {n c : Nat} {ty : TypeId} (hh : w.heap[g]? = some (bankC h l a n c ty)) :
    (w.cell? ⟨g, 0, none⟩ = some (.int .i64 h) ∧ w.cell? ⟨g, 1, none⟩ = some (.int .i64 l) ∧ w.cell? ⟨g, 2, none⟩ = some (.slice a n c)) ∧ w.frozen? ⟨g, 0, none⟩ = false ∧ w.frozen? ⟨g, 1, none⟩ = false ∧ w.frozen? ⟨g, 2, none⟩ = false := by
  unfold bankC at hh
  exact ⟨⟨(cellOfB hh 0 _ rfl).1, (cellOfB hh 1 _ rfl).1, (cellOfB hh 2 _ rfl).1⟩, (cellOfB hh 0 _ rfl).2, (cellOfB hh 1 _ rfl).2, (cellOfB hh 2 _ rfl).2⟩
theorem chgCell (w : World) (R i : Nat) (v : Value) : Chg (fun k => k = R) w (w.setCell ⟨R, i, none⟩ v) :=
  ⟨rfl, rfl, rfl, by simp, fun q _ hq => heap_setCell_other w ⟨R, i, none⟩ q _ (fun e => hq (by simp [e]))⟩
theorem Own.offCell {B E w a n c zs} (h : Own B E w a n c zs) {R : Nat} (hR : R < B) (i : Nat) (v : Value) : Own B E (w.setCell ⟨R, i, none⟩ v) a n c zs :=
  h.chg (chgCell w R i v) fun g hg _ _ e => by omega
theorem resCell {fn : Func} {p : Tmp} {ty : TypeId} (h : fn.results = #[.cell p ty]) (tmps : Array Value) (P : Program) (w : World) :
    (results fn tmps).run P w = ((asAddr (tmps.getD p undef)).run P w).andThen fun a w₁ => (loadVar ty a).run P w₁ := by
  simp only [results, h]
  simp [Sem.run_bind, Result.andThen]
end
end Go.Proofs.YtimmjimeldejjaaGreatDoor
namespace Go.Proofs.YtimmjimeldejjaaGreatDoor
section
open Go.RowKit
set_option linter.unusedVariables false
set_option linter.unusedSimpArgs false
set_option maxRecDepth 20000

/-- a bank state's block, cell by cell -/
def Blk (w : World) (g : Nat) (h l : Int) (a : Option Addr) (n c : Nat) (ty : TypeId) : Prop := w.heap[g]? = some (.cells #[.int .i64 h, .int .i64 l, .slice a n c] ty (0, 0))
theorem Blk.cells {w g h l a n c ty} (hh : Blk w g h l a n c ty) : (w.cell? ⟨g, 0, none⟩ = some (.int .i64 h) ∧ w.cell? ⟨g, 1, none⟩ = some (.int .i64 l) ∧ w.cell? ⟨g, 2, none⟩ = some (.slice a n c)) ∧ w.frozen? ⟨g, 0, none⟩ = false ∧ w.frozen? ⟨g, 1, none⟩ = false ∧ w.frozen? ⟨g, 2, none⟩ = false := bank3 hh
theorem Blk.size {w g h l a n c ty} (hh : Blk w g h l a n c ty) : g < w.heap.size := (Array.getElem?_eq_some_iff.1 hh).1
theorem Blk.keep {w w' g h l a n c ty} (hh : Blk w g h l a n c ty) (hb : Below w.heap.size w w') : Blk w' g h l a n c ty := (keepAt hb hh.size).trans hh
theorem Blk.drew {w g h l a n c ty} (hh : Blk w g h l a n c ty) : Blk w.drew g h l a n c ty := hh
theorem Blk.new (w : World) (h l : Int) (a : Option Addr) (n c : Nat) (ty : TypeId) : Blk (w.alloc (.cells #[.int .i64 h, .int .i64 l, .slice a n c] ty)) w.heap.size h l a n c ty := allocNew w _
end
end Go.Proofs.YtimmjimeldejjaaGreatDoor
