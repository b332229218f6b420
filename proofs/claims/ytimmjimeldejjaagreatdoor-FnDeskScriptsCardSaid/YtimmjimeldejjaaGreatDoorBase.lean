/- What the contracts of this seat say of memory: slices of ints that can be read, rows that a call owns, frames. No condition. -/
import Derived.Test.YtimmjimeldejjaaGreatDoorRows
import Derived.WalkKit
import Derived.Deep.QuietTactic
import Derived.BigQuiet
import Derived.Lib.Hide
import Derived.WalkSpells
import Derived.WalkLawsBesides
namespace Go.Proofs.YtimmjimeldejjaaGreatDoor
open Go.RowKit
set_option linter.unusedVariables false

theorem Tryz.infoInt : (Tryz.prog.info? 3).map (fun i => (i.zero, i.size, i.bytes)) = some (some (.int .i64 0), 1, 8) := by kernel_rfl
theorem Tryz.infoInts : (Tryz.prog.info? 24).map (fun i => (i.zero, i.size, i.bytes)) = some (some (.slice none 0 0), 1, 24) := by kernel_rfl

theorem maxLen_le {n : Nat} (h : n ≤ maxLen) : (n : Int) ≤ 9223372036854775807 := by unfold maxLen at h; omega

/-! ### Slices of ints that can be read -/
structure IntsAt (w : World) (ao : Option Addr) (n cap : Nat) (xs : List Int) : Prop where
  length : xs.length = n
  le : n ≤ cap
  max : cap ≤ maxLen
  isNil : ao = none → n = 0 ∧ cap = 0
  cell : ∀ j, j < n → ∃ b o, ao = some ⟨b, o, none⟩ ∧ b < w.heap.size ∧ ∀ i, i < n → w.cell? ⟨b, o + i, none⟩ = some (.int .i64 (xs.getD i 0))

theorem IntsAt.lenInt {w ao n cap xs} (h : IntsAt w ao n cap xs) : (n : Int) ≤ 9223372036854775807 := maxLen_le (Nat.le_trans h.le h.max)

theorem IntsAt.below {B : Nat} {w w' ao n cap xs} (h : IntsAt w ao n cap xs) (hb : Below B w w') (hB : ∀ b o, ao = some ⟨b, o, none⟩ → b < B) : IntsAt w' ao n cap xs := by
  refine ⟨h.length, h.le, h.max, h.isNil, fun j hj => ?_⟩
  obtain ⟨b, o, e, hlt, hc⟩ := h.cell j hj
  refine ⟨b, o, e, Nat.lt_of_lt_of_le hlt hb.size, fun i hi => ?_⟩
  rw [hb.cell (p := ⟨b, o + i, none⟩) (hB b o e)]
  exact hc i hi

theorem IntsAt.keep {w w' ao n cap xs} (h : IntsAt w ao n cap xs) (hb : Below w.heap.size w w') : IntsAt w' ao n cap xs := by
  refine ⟨h.length, h.le, h.max, h.isNil, fun j hj => ?_⟩
  obtain ⟨b, o, e, hlt, hc⟩ := h.cell j hj
  refine ⟨b, o, e, Nat.lt_of_lt_of_le hlt hb.size, fun i hi => ?_⟩
  rw [hb.cell (p := ⟨b, o + i, none⟩) hlt]
  exact hc i hi

/-- the empty slice, nil or not -/
theorem IntsAt.nil (w : World) : IntsAt w none 0 0 [] := ⟨rfl, Nat.le_refl _, Nat.zero_le _, fun _ => ⟨rfl, rfl⟩, fun j hj => absurd hj (Nat.not_lt_zero _)⟩

/-! ### Frames: all blocks stay but those of S -/
structure Chg (S : Nat → Prop) (w w' : World) : Prop where
  os : w'.os = w.os
  tape : w'.tape = w.tape
  output : w'.output = w.output
  size : w.heap.size ≤ w'.heap.size
  block : ∀ k, k < w.heap.size → ¬ S k → w'.heap[k]? = w.heap[k]?

theorem Chg.refl (S : Nat → Prop) (w : World) : Chg S w w := ⟨rfl, rfl, rfl, Nat.le_refl _, fun _ _ _ => rfl⟩
theorem Chg.trans {S : Nat → Prop} {a b c : World} (h : Chg S a b) (k : Chg S b c) : Chg S a c :=
  ⟨k.os.trans h.os, k.tape.trans h.tape, k.output.trans h.output, Nat.le_trans h.size k.size, fun i hi hs => (k.block i (Nat.lt_of_lt_of_le hi h.size) hs).trans (h.block i hi hs)⟩
theorem Chg.mono {S S' : Nat → Prop} {w w' : World} (h : Chg S w w') (hs : ∀ k, S k → S' k) : Chg S' w w' := ⟨h.os, h.tape, h.output, h.size, fun k hk n => h.block k hk (fun s => n (hs k s))⟩
theorem Chg.below {S : Nat → Prop} {B : Nat} {w w' : World} (h : Chg S w w') (hB : B ≤ w.heap.size) (hs : ∀ k, S k → B ≤ k) : Below B w w' :=
  ⟨h.os, h.tape, h.output, h.size, fun k hk => h.block k (by omega) (fun s => by have := hs k s; omega)⟩
theorem Chg.ofGrown {w w' : World} {row : Option Nat} (h : w.grownBy w' row) : Chg (fun k => some k = row) w w' := ⟨h.os, h.tape, h.output, h.size, fun k hk n => h.block k hk n⟩
theorem Chg.ofBelow {S : Nat → Prop} {w w' : World} (h : Below w.heap.size w w') : Chg S w w' := ⟨h.os, h.tape, h.output, h.size, fun k hk _ => h.block k hk⟩

/-- what was done step by step is done below B -/
theorem belowTrans {B : Nat} {w w1 w2 : World} (h : Below B w w1) (k : Below w1.heap.size w1 w2) (hB : B ≤ w.heap.size) : Below B w w2 := h.trans (k.mono (Nat.le_trans hB h.size))

theorem IntsAt.chg {S : Nat → Prop} {w w' ao n cap xs} (h : IntsAt w ao n cap xs) (hc : Chg S w w') (hs : ∀ b o, ao = some ⟨b, o, none⟩ → ¬ S b) : IntsAt w' ao n cap xs := by
  refine ⟨h.length, h.le, h.max, h.isNil, fun j hj => ?_⟩
  obtain ⟨b, o, e, hlt, hcell⟩ := h.cell j hj
  refine ⟨b, o, e, Nat.lt_of_lt_of_le hlt hc.size, fun i hi => ?_⟩
  have := World.cell?_of_block (a := ⟨b, o + i, none⟩) (hc.block b hlt (hs b o e))
  rw [this]
  exact hcell i hi

/-! ### Rows that the call made, in blocks from B on, up to E -/
def OwnRow (B E : Nat) (w : World) (ty : TypeId) (ao : Option Addr) (n cap : Nat) (vs : List Value) : Prop :=
  w.ownsRow B ty 1 (.slice ao n cap) n vs ∧ ∀ g, (Value.slice ao n cap).ownBlock = some g → g < E

theorem OwnRow.of {B : Nat} {w : World} {ty ao n cap vs} (h : w.ownsRow B ty 1 (.slice ao n cap) n vs) : OwnRow B w.heap.size w ty ao n cap vs := ⟨h, fun g hg => (h.lt g hg).2⟩

theorem OwnRow.length {B E w ty ao n cap vs} (h : OwnRow B E w ty ao n cap vs) : vs.length = n := by simpa using h.1.1

theorem OwnRow.mono {B B' E E' : Nat} {w ty ao n cap vs} (h : OwnRow B E w ty ao n cap vs) (hB : B' ≤ B) (hE : E ≤ E') : OwnRow B' E' w ty ao n cap vs := by
  refine ⟨⟨h.1.1, ?_⟩, fun g hg => Nat.lt_of_lt_of_le (h.2 g hg) hE⟩
  rcases h.1.2 with hn | ⟨g, c, cur, hv, hg, rest⟩
  · exact .inl hn
  · exact .inr ⟨g, c, cur, hv, Nat.le_trans hB hg, rest⟩

theorem OwnRow.nil (B E : Nat) (w : World) (ty : TypeId) : OwnRow B E w ty none 0 0 [] := ⟨World.ownsRow_nil w B ty 1, fun g hg => by simp [Value.ownBlock] at hg⟩

theorem OwnRow.cases {B E w ty ao n cap vs} (h : OwnRow B E w ty ao n cap vs) : (ao = none ∧ n = 0 ∧ cap = 0 ∧ vs = []) ∨ ∃ g, ao = some ⟨g, 0, none⟩ ∧ B ≤ g ∧ g < E ∧ g < w.heap.size := by
  rcases h.1.2 with ⟨hv, hn⟩ | ⟨g, c, cur, hv, hg, hh, rest⟩
  · simp only [Value.slice.injEq] at hv
    obtain ⟨rfl, _, rfl⟩ := hv
    exact .inl ⟨rfl, hn, rfl, List.eq_nil_of_length_eq_zero (by rw [h.length]; exact hn)⟩
  · simp only [Value.slice.injEq] at hv
    exact .inr ⟨g, hv.1, hg, h.2 g (by rw [hv.1]; rfl), (Array.getElem?_eq_some_iff.1 hh).1⟩

theorem OwnRow.chg {S : Nat → Prop} {B E w w' ty ao n cap vs} (h : OwnRow B E w ty ao n cap vs) (hc : Chg S w w') (hs : ∀ g, B ≤ g → g < E → (Value.slice ao n cap).ownBlock = some g → ¬ S g) : OwnRow B E w' ty ao n cap vs := by
  refine ⟨⟨h.1.1, ?_⟩, h.2⟩
  rcases h.1.2 with hn | ⟨g, c, cur, hv, hg, hh, rest⟩
  · exact .inl hn
  · refine .inr ⟨g, c, cur, hv, hg, ?_, rest⟩
    have hb : (Value.slice ao n cap).ownBlock = some g := by rw [hv]; rfl
    rw [hc.block g (Array.getElem?_eq_some_iff.1 hh).1 (hs g hg (h.2 g hb) hb)]
    exact hh
theorem OwnRow.keep {B E w w' ty ao n cap vs} (h : OwnRow B E w ty ao n cap vs) (hb : Below w.heap.size w w') : OwnRow B E w' ty ao n cap vs :=
  h.chg (S := fun _ => False) (Chg.ofBelow hb) (fun _ _ _ _ h => h)

def Own (B E : Nat) (w : World) (ao : Option Addr) (n cap : Nat) (xs : List Int) : Prop := OwnRow B E w 3 ao n cap (xs.map (Value.int .i64))

theorem Own.of {B : Nat} {w : World} {ao n cap} {xs : List Int} (h : w.ownsRow B 3 1 (.slice ao n cap) n (xs.map (Value.int .i64))) : Own B w.heap.size w ao n cap xs := OwnRow.of h
theorem Own.length {B E w ao n cap xs} (h : Own B E w ao n cap xs) : xs.length = n := by simpa using OwnRow.length h
theorem Own.mono {B B' E E' : Nat} {w ao n cap xs} (h : Own B E w ao n cap xs) (hB : B' ≤ B) (hE : E ≤ E') : Own B' E' w ao n cap xs := OwnRow.mono h hB hE
theorem Own.nil (B E : Nat) (w : World) : Own B E w none 0 0 [] := OwnRow.nil B E w _
theorem Own.cases {B E w ao n cap xs} (h : Own B E w ao n cap xs) : (ao = none ∧ n = 0 ∧ cap = 0 ∧ xs = []) ∨ ∃ g, ao = some ⟨g, 0, none⟩ ∧ B ≤ g ∧ g < E ∧ g < w.heap.size := by
  rcases OwnRow.cases h with ⟨a, b, c, d⟩ | h'
  · exact .inl ⟨a, b, c, by simpa using d⟩
  · exact .inr h'
theorem Own.chg {S : Nat → Prop} {B E w w' ao n cap xs} (h : Own B E w ao n cap xs) (hc : Chg S w w') (hs : ∀ g, B ≤ g → g < E → (Value.slice ao n cap).ownBlock = some g → ¬ S g) : Own B E w' ao n cap xs := OwnRow.chg h hc hs
theorem Own.keep {B E w w' ao n cap xs} (h : Own B E w ao n cap xs) (hb : Below w.heap.size w w') : Own B E w' ao n cap xs := OwnRow.keep h hb

theorem Own.at {B E w ao n cap xs} (h : Own B E w ao n cap xs) : IntsAt w ao n cap xs := by
  rcases h.1.2 with ⟨hv, hn⟩ | ⟨g, c, cur, hv, hg, hh, hnc, hcm, hcs, htake⟩
  · simp only [Value.slice.injEq] at hv
    obtain ⟨rfl, _, rfl⟩ := hv
    refine ⟨h.length, by omega, Nat.zero_le _, fun _ => ⟨hn, rfl⟩, fun j hj => by omega⟩
  · simp only [Value.slice.injEq] at hv
    obtain ⟨rfl, _, rfl⟩ := hv
    refine ⟨h.length, hnc, hcm, fun e => by simp at e, fun j hj => ⟨g, 0, rfl, (Array.getElem?_eq_some_iff.1 hh).1, fun i hi => ?_⟩⟩
    have hl := h.length
    have := World.ownsRow.cellAt h.1 i (by omega)
    simp only [Nat.zero_add]
    rw [this, List.getElem?_map, List.getElem?_eq_getElem (by omega), List.getD_eq_getElem?_getD, List.getElem?_eq_getElem (by omega)]
    rfl

/-- no block of one lies in the other -/
def apart (v u : Value) : Prop := v.ownBlock = none ∨ v.ownBlock ≠ u.ownBlock

/-! ### Lists of lists that the call made: each list in a row of its own -/
def OwnRows (B E : Nat) (w : World) (ao : Option Addr) (n cap : Nat) (xss : List (List Int)) : Prop :=
  ∃ vs : List Value, OwnRow B E w 24 ao n cap vs ∧ xss.length = n ∧
    (∀ i, i < n → ∃ a m c, vs.getD i undef = .slice a m c ∧ Own B E w a m c (xss.getD i [])) ∧ (∀ i j, i < j → j < n → apart (vs.getD i undef) (vs.getD j undef))

theorem OwnRows.length {B E w ao n cap xss} (h : OwnRows B E w ao n cap xss) : xss.length = n := by obtain ⟨_, _, h, _⟩ := h; exact h
theorem OwnRows.nil (B E : Nat) (w : World) : OwnRows B E w none 0 0 [] := ⟨[], OwnRow.nil B E w _, rfl, fun i hi => absurd hi (Nat.not_lt_zero _), fun i j _ hj => absurd hj (Nat.not_lt_zero _)⟩
theorem OwnRows.chg {S : Nat → Prop} {B E w w' ao n cap xss} (h : OwnRows B E w ao n cap xss) (hc : Chg S w w') (hs : ∀ g, B ≤ g → g < E → ¬ S g) : OwnRows B E w' ao n cap xss := by
  obtain ⟨vs, h1, h2, h3, h4⟩ := h
  refine ⟨vs, h1.chg hc (fun g a b _ => hs g a b), h2, fun i hi => ?_, h4⟩
  obtain ⟨a, m, c, e, ho⟩ := h3 i hi
  exact ⟨a, m, c, e, ho.chg hc (fun g a b _ => hs g a b)⟩
theorem OwnRows.keep {B E w w' ao n cap xss} (h : OwnRows B E w ao n cap xss) (hb : Below w.heap.size w w') : OwnRows B E w' ao n cap xss :=
  h.chg (S := fun _ => False) (Chg.ofBelow hb) (fun _ _ _ h => h)
theorem OwnRows.mono {B B' E E' : Nat} {w ao n cap xss} (h : OwnRows B E w ao n cap xss) (hB : B' ≤ B) (hE : E ≤ E') : OwnRows B' E' w ao n cap xss := by
  obtain ⟨vs, h1, h2, h3, h4⟩ := h
  refine ⟨vs, h1.mono hB hE, h2, fun i hi => ?_, h4⟩
  obtain ⟨a, m, c, e, ho⟩ := h3 i hi
  exact ⟨a, m, c, e, ho.mono hB hE⟩

/-! ### Lists of lists that can be read -/
structure RowsAt (w : World) (ao : Option Addr) (n cap : Nat) (xss : List (List Int)) : Prop where
  length : xss.length = n
  le : n ≤ cap
  max : cap ≤ maxLen
  isNil : ao = none → n = 0 ∧ cap = 0
  cell : ∀ j, j < n → ∃ b o, ao = some ⟨b, o, none⟩ ∧ b < w.heap.size ∧ ∀ i, i < n → ∃ a m c, w.cell? ⟨b, o + i, none⟩ = some (.slice a m c) ∧ IntsAt w a m c (xss.getD i [])
theorem RowsAt.lenInt {w ao n cap xs} (h : RowsAt w ao n cap xs) : (n : Int) ≤ 9223372036854775807 := maxLen_le (Nat.le_trans h.le h.max)
theorem RowsAt.keep {w w' ao n cap xs} (h : RowsAt w ao n cap xs) (hb : Below w.heap.size w w') : RowsAt w' ao n cap xs := by
  refine ⟨h.length, h.le, h.max, h.isNil, fun j hj => ?_⟩
  obtain ⟨b, o, e, hlt, hc⟩ := h.cell j hj
  refine ⟨b, o, e, Nat.lt_of_lt_of_le hlt hb.size, fun i hi => ?_⟩
  obtain ⟨a, m, c, h1, h2⟩ := hc i hi
  exact ⟨a, m, c, by rw [hb.cell (p := ⟨b, o + i, none⟩) hlt]; exact h1, h2.keep hb⟩
theorem OwnRows.at {B E w ao n cap xss} (h : OwnRows B E w ao n cap xss) : RowsAt w ao n cap xss := by
  obtain ⟨vs, h1, h2, h3, h4⟩ := h
  rcases h1.1.2 with ⟨hv, hn⟩ | ⟨g, c, cur, hv, hg, hh, hnc, hcm, hcs, htake⟩
  · simp only [Value.slice.injEq] at hv
    obtain ⟨rfl, _, rfl⟩ := hv
    refine ⟨h2, by omega, Nat.zero_le _, fun _ => ⟨hn, rfl⟩, fun j hj => by omega⟩
  · simp only [Value.slice.injEq] at hv
    obtain ⟨rfl, _, rfl⟩ := hv
    refine ⟨h2, hnc, hcm, fun e => by simp at e, fun j hj => ⟨g, 0, rfl, (Array.getElem?_eq_some_iff.1 hh).1, fun i hi => ?_⟩⟩
    obtain ⟨a, m, c, e, ho⟩ := h3 i hi
    refine ⟨a, m, c, ?_, ho.at⟩
    have hl := h1.length
    have := World.ownsRow.cellAt h1.1 i (by omega)
    simp only [Nat.zero_add]
    rw [this, ← e, List.getElem?_eq_getElem (by omega), List.getD_eq_getElem?_getD, List.getElem?_eq_getElem (by omega)]
    rfl

/-! ### Arguments -/
/-- a call that leaves the world alone leaves it below -/
theorem callsBelow {P : Program} {f : FuncId} {args : Array Value} {w : World} {v : Value} (h : Calls P f args w fun e w' => e = .returned v ∧ w = w') :
    Calls P f args w fun e w' => e = .returned v ∧ Below w.heap.size w w' := h.mono fun e w' ⟨a, b⟩ => ⟨a, b ▸ Below.refl _ _⟩

theorem belowDrewN {B : Nat} {a w : World} (h : Below B a w) (n : Nat) : Below B a (w.drewN n) := ⟨h.os, h.tape, h.output, h.size, h.block⟩

theorem valI {a b : Int} (h : a = b) : Value.int .i64 a = Value.int .i64 b := by rw [h]
theorem retB {a b : Bool} (h : a = b) : Ending.returned (Value.bool a) = Ending.returned (Value.bool b) := by rw [h]
theorem retI {a b : Int} (h : a = b) : Ending.returned (Value.int .i64 a) = Ending.returned (Value.int .i64 b) := by rw [h]
theorem retIIB {a b a' b' : Int} {c d : Bool} (h : a = b) (h' : a' = b') (k : c = d) : Ending.returned (Value.tuple #[.int .i64 a, .int .i64 a', .bool c]) = Ending.returned (Value.tuple #[.int .i64 b, .int .i64 b', .bool d]) := by rw [h, h', k]

/-! ### Lists, place by place -/
theorem take_snoc {xs : List Int} {k n : Nat} {x : Int} (hx : xs.getD k 0 = x) (hk : k < n) (hl : xs.length = n) : xs.take (k + 1) = xs.take k ++ [x] := by
  subst hx hl
  rw [List.take_add_one, List.getElem?_eq_getElem hk, List.getD_eq_getElem?_getD, List.getElem?_eq_getElem hk]
  rfl
theorem take_all {xs : List Int} {n : Nat} (hl : xs.length = n) : xs.take n = xs := List.take_of_length_le (Nat.le_of_eq hl)
theorem getD_mem {xs : List Int} {k n : Nat} {x : Int} (hx : xs.getD k 0 = x) (hk : k < n) (hl : xs.length = n) : x ∈ xs := by
  subst hx hl
  rw [List.getD_eq_getElem?_getD, List.getElem?_eq_getElem hk]
  exact List.getElem_mem hk

end Go.Proofs.YtimmjimeldejjaaGreatDoor
