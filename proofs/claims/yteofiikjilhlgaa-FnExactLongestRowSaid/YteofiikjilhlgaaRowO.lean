/- Chapter 5 by the program: StepRow, RowSteps, PlayRow, RowOrbit, IsCyclicRow. No condition. -/
import Derived.Test.YteofiikjilhlgaaRowW
import Derived.Test.YteofiikjilhlgaaRingC
namespace Go.Proofs.Yteofiikjilhlgaa
open Go.RowKit
set_option linter.unusedVariables false
set_option linter.unusedSimpArgs false
set_option maxRecDepth 20000

theorem chgBelowG {g B : Nat} {w w' : World} (h : Chg (fun k => k = g) w w') (hB : B ≤ w.heap.size) (hg : B ≤ g) : Below B w w' := h.below hB (fun k hk => by omega)
theorem cellsAt {w : World} {g : Nat} {cs : Array Value} {ty : TypeId} (h : w.heap[g]? = some (.cells cs ty (0, 0))) (i : Nat) (v : Value) (hv : cs[i]? = some v) : w.cell? ⟨g, i, none⟩ = some v := by
  unfold World.cell?
  simp [h, hv]
/-- a walk that lies in a variable -/
structure WalkB (R : Nat) (w : World) (g gw : Nat) (xs : List Int) : Prop where
  walk : Walk R w g xs
  lt : g < gw
  box : w.heap[gw]? = some (.cells #[hereFn g, stepFn g] 47 (0, 0))
theorem WalkB.hi {R w g gw xs} (h : WalkB R w g gw xs) : gw < w.heap.size := (Array.getElem?_eq_some_iff.1 h.box).1
theorem WalkB.keep {R w w' g gw xs} (h : WalkB R w g gw xs) (hb : Below w.heap.size w w') : WalkB R w' g gw xs :=
  ⟨h.walk.keep hb, h.lt, by rw [(Chg.ofBelow (S := fun _ => False) hb).block gw h.hi id]; exact h.box⟩
theorem WalkB.chgSpine {R w w' g gw xs E' ao n cap us} (h : WalkB R w g gw xs) (k : OwnRow (gw + 1) E' w 25 ao n cap us) (hc : Chg (fun q => (Value.slice ao n cap).ownBlock = some q) w w') : WalkB R w' g gw xs :=
  ⟨h.walk.chgSpine (k.mono (by have := h.lt; omega) (Nat.le_refl _)) hc, h.lt, by
    rw [hc.block gw h.hi (fun hh => by have := (k.1.lt gw hh).1; omega)]; exact h.box⟩
theorem WalkB.step {R w w' g gw xs ys} (h : WalkB R w g gw xs) (hw : Walk R w' g ys) (hc : Chg (fun k => k = g) w w') : WalkB R w' g gw ys :=
  ⟨hw, h.lt, by rw [hc.block gw h.hi (fun hh => by have := h.lt; omega)]; exact h.box⟩
theorem WalkB.c0 {R w g gw xs} (h : WalkB R w g gw xs) : w.cell? ⟨gw, 0, none⟩ = some (.func (.func 32) #[] #[.pointer (some ⟨g, 0, none⟩)]) := cellsAt h.box 0 _ rfl
theorem WalkB.c1 {R w g gw xs} (h : WalkB R w g gw xs) : w.cell? ⟨gw, 1, none⟩ = some (.func (.func 34) #[] #[.pointer (some ⟨g, 0, none⟩)]) := cellsAt h.box 1 _ rfl
theorem WalkB.new {R w g xs} (h : Walk R w g xs) : WalkB R (w.alloc (.cells #[hereFn g, stepFn g] 47)) g w.heap.size xs :=
  ⟨h.keep (belowAlloc w _), h.hi, heap_alloc_new w _⟩
set_option maxHeartbeats 800000 in
theorem walkFrom_any (ao : Option Addr) (n cap : Nat) (xs : List Int) (w : World) (h : IntsAt w ao n cap xs) (hn : n ≤ 28) :
    Calls Try.prog 29 #[.slice ao n cap] w fun e w' => ∃ g, e = .returned (.agg #[.func (.func 32) #[] #[.pointer (some ⟨g, 0, none⟩)], .func (.func 34) #[] #[.pointer (some ⟨g, 0, none⟩)]]) ∧ Walk w.heap.size w' g xs ∧ Below w.heap.size w w' := by
  have hb1 := belowAlloc w (.cells #[.slice ao n cap] 25)
  have hs1 : (w.alloc (.cells #[.slice ao n cap] 25)).heap.size = w.heap.size + 1 := by simp
  have hw0 : Walk w.heap.size (w.alloc (.cells #[.slice ao n cap] 25)) w.heap.size xs := ⟨Nat.le_refl _, by omega, ao, n, cap, heap_alloc_new w _, hn, h.keep hb1, .inl (fun h0 => intsBlock h h0)⟩
  have hwb := WalkB.new hw0
  rw [hs1] at hwb
  have hb2 : Below w.heap.size w ((w.alloc (.cells #[.slice ao n cap] 25)).alloc (.cells #[hereFn w.heap.size, stepFn w.heap.size] 47)) := hb1.alloc (by omega) _
  have p0 := hwb.c0
  have p1 := hwb.c1
  have hwk := hwb.walk
  unfold hereFn stepFn at p0 p1 hwk hb2
  have Hwk := Lib.hid hwk; clear hwk
  have Hb2 := Lib.hid hb2; clear hb2
  have Hb1 := Lib.hid hb1; clear hb1
  have Hw0 := Lib.hid hw0; clear hw0
  have Hwb := Lib.hid hwb; clear hwb
  have P0 := Lib.hid p0; clear p0
  have P1 := Lib.hid p1; clear p1
  clear h
  go_enter Try.func29, Try.ntmps29
  go_wp2
  refine bodyPost_ret (v := .agg #[.func (.func 32) #[] #[.pointer (some ⟨w.heap.size, 0, none⟩)], .func (.func 34) #[] #[.pointer (some ⟨w.heap.size, 0, none⟩)]]) ?_ rfl ⟨_, rfl, Hwk.out, Hb2.out⟩
  have p0 := P0.out
  have p1 := P1.out
  rw [results_cell_one rfl]
  simp [go_sem, asAddr, Result.andThen, loadVar, p0, p1]

end Go.Proofs.Yteofiikjilhlgaa
