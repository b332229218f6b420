/- slices.SortFunc over numbers from 0 to 63, and slices.Index: the shelf's contracts in this seat's words. No condition but the range. -/
import Derived.Test.YtimmjimeldejjaaGreatDoorGb
import Derived.Test.YtimmjimeldejjaaGreatDoorGa
import Derived.Test.YtimmjimeldejjaaGreatDoorShelf
import Derived.Lib.SortBridge
namespace Go.Proofs.YtimmjimeldejjaaGreatDoor
open Go.RowKit Go.Shelf Go.Lib Go.Sort
set_option linter.unusedVariables false
set_option maxRecDepth 20000
set_option linter.unusedSimpArgs false

def encF (i : Fin 64) : Value := .int .i64 (i.val : Int)
def cfD (x y : Fin 64) : Int := (y.val : Int) - x.val
theorem ltD (x y : Fin 64) : ltOf cfD x y = decide (y.val < x.val) := by
  unfold ltOf cfD
  by_cases h : y.val < x.val
  · simp [h]; omega
  · simp [h]; omega
theorem swoD : SWO (ltOf cfD) where
  irrefl x := by rw [ltD]; simp
  trans x y z h1 h2 := by rw [ltD] at *; simp at *; omega
  ntrans x y z h1 h2 := by rw [ltD] at *; simp at *; omega
theorem totD (x y : Fin 64) (h1 : ltOf cfD x y = false) (h2 : ltOf cfD y x = false) : x = y := by
  rw [ltD] at *; simp at *; apply Fin.ext; omega

set_option maxHeartbeats 400000 in
/-- the comparison that inOrder hands over -/
theorem closure_any (x y : Fin 64) (w : World) : Calls Tryz.prog 190 #[encF x, encF y] w fun e w' => e = .returned (.int .i64 (cfD x y)) ∧ ∃ q, w' = w.drewN q := by
  unfold encF cfD
  have hx : (x.val : Int) < 64 := by have := x.isLt; omega
  have hy : (y.val : Int) < 64 := by have := y.isLt; omega
  generalize x.val = a at *
  generalize y.val = b at *
  go_enter Tryz.func190, Tryz.ntmps190
  go_wp2
  go_ret
  exact ⟨rfl, 0, rfl⟩

theorem toFin (xs : List Int) (h : ∀ x ∈ xs, 0 ≤ x ∧ x < 64) : ∃ d : List (Fin 64), d.map (fun i => (i.val : Int)) = xs := by
  induction xs with
  | nil => exact ⟨[], rfl⟩
  | cons x xs ih =>
    obtain ⟨d, hd⟩ := ih (fun y hy => h y (by simp [hy]))
    have hx := h x (by simp)
    exact ⟨⟨x.toNat, by omega⟩ :: d, by simp [hd]; omega⟩

theorem sortFunc_any (B E g n cap : Nat) (xs : List Int) (w : World) (hown : Own B E w (some ⟨g, 0, none⟩) n cap xs) (hx : ∀ x ∈ xs, 0 ≤ x ∧ x < 64) (hn : n < 1048577) :
    Calls Tryz.prog 189 #[.slice (some ⟨g, 0, none⟩) n cap, .func (.func 190) #[] #[]] w fun e w' =>
      e = .returned (.tuple #[]) ∧ ∃ ys, Own B E w' (some ⟨g, 0, none⟩) n cap ys ∧ ys.Perm xs ∧ ys.Pairwise (· ≥ ·) ∧ Chg (fun k => k = g) w w' := by
  obtain ⟨d, hd⟩ := toFin xs hx
  have hl := hown.length
  have hdl : d.length = n := by rw [← hl, ← hd]; simp
  have hmap : d.map encF = xs.map (Value.int .i64) := by rw [← hd, List.map_map]; rfl
  rcases hown.1.2 with ⟨hv, _⟩ | ⟨g', cap', cur, hv, hg, hh, hnc, hcm, hcs, htake⟩
  · simp at hv
  simp only [Value.slice.injEq, Option.some.injEq, Addr.mk.injEq, and_true, true_and] at hv
  obtain ⟨rfl, rfl⟩ := hv
  have hgw : g < w.heap.size := (Array.getElem?_eq_some_iff.1 hh).1
  have hH : Holds encF w g 0 d.toArray := by
    intro j hj
    have hj' : j < n := by simpa [hdl] using hj
    refine ⟨?_, ?_⟩
    · have h1 := World.ownsRow.cellAt hown.1 j (by omega)
      simp only [Nat.zero_add]
      rw [h1, ← hmap, List.getElem?_map, List.getElem?_eq_getElem (by omega), getElem!_pos _ j hj]
      simp
    · simp only [Nat.zero_add]; exact World.ownsRow.frozenAt hown.1 j
  have eg : ∀ args w, (callFunc 190 args).run Tryz.prog w = .ok (.enter 190 args) w := enters_of Tryz.func190 (by kernel_rfl) rfl
  have hcmp : CmpReads Tryz.prog 190 #[] encF cfD g 0 d.toArray.size w := fun _ _ _ _ x y => closure_any x y _
  have hS := Any.slices_SortFunc_total Tryz.sortL encF (fun _ => rfl) cfD swoD 190 #[] g 0 cap d.toArray w eg hcmp.lays hH hgw (by simp; omega) totD
  change Calls Tryz.prog 189 _ _ _ at hS
  have hsz : d.toArray.size = n := by simpa using hdl
  rw [hsz] at hS
  refine hS.mono fun e w' ⟨he, q, os, hw⟩ => ⟨he, ?_⟩
  generalize hms : (d.toArray.toList.mergeSort fun x y => !ltOf cfD y x) = ms at hw
  have hperm : ms.Perm d := by rw [← hms]; exact List.mergeSort_perm _ _
  have hsorted : ms.Pairwise (fun x y => y.val ≤ x.val) := by
    have := List.pairwise_mergeSort (le := fun x y => !ltOf cfD y x) (fun a b c h1 h2 => by simp [ltD] at *; omega) (fun a b => by simp [ltD]; omega) d.toArray.toList
    rw [hms] at this
    exact this.imp (fun {a b} h => by simp [ltD] at h; omega)
  have hml : ms.length = n := by rw [hperm.length_eq, hdl]
  refine ⟨ms.map (fun i => (i.val : Int)), ?_, ?_, ?_, ?_⟩
  · have hheap : w'.heap[g]? = some (.cells (putCells encF 0 ms.toArray cur) 3 (0, 0)) := by
      rw [hw]
      unfold sortWorld
      rw [heap_grow_old _ _ (by simp [ahead]; exact hgw)]
      simp [putRow, mapBlock, ahead, Array.getElem?_modify, hh, onCells]
    refine ⟨⟨by simp [hml], .inr ⟨g, cap, _, rfl, hg, hheap, hnc, hcm, by simp [putCells, hcs], ?_⟩⟩, hown.2⟩
    apply List.ext_getElem
    · simp [putCells, hml, hcs]; omega
    · intro i h1 h2
      simp [hml] at h2
      simp [putCells, encF, hml, h2, getElem!_pos ms i (by omega)]
  · rw [← hd]; exact hperm.map _
  · rw [List.pairwise_map]
    exact hsorted.imp (fun {a b} h => by show (a.val : Int) ≥ b.val; omega)
  · rw [hw]
    unfold sortWorld
    refine ⟨rfl, rfl, rfl, by simp [ahead], fun k hk hs => ?_⟩
    rw [heap_grow_old _ _ (by simp [ahead]; exact hk)]
    have : ¬ g = k := fun e => hs e.symm
    simp [putRow, mapBlock, ahead, Array.getElem?_modify, this]

theorem index_any (ao : Option Addr) (n cap : Nat) (xs : List Int) (x : Int) (w : World) (h : IntsAt w ao n cap xs) :
    Calls Tryz.prog 201 #[.slice ao n cap, .int .i64 x] w fun e w' => e = .returned (.int .i64 (Lib.idxOf xs x)) ∧ w = w' := by
  have hl := h.length
  by_cases hz : n = 0
  · subst hz
    have hxs : xs = [] := List.eq_nil_of_length_eq_zero hl
    subst hxs
    have := Any.slices_Index_int_empty Tryz.lays108 ao cap x w
    change Calls Tryz.prog 201 _ _ _ at this
    exact this.mono fun e w' ⟨a, b⟩ => ⟨a, b.symm⟩
  · obtain ⟨b, oo, rfl, hb, hc⟩ := h.cell 0 (by omega)
    have := Any.slices_Index_int Tryz.lays108 b oo n cap xs x w (by omega) (by have := h.lenInt; omega) (fun j hj => hc j (by omega))
    change Calls Tryz.prog 201 _ _ _ at this
    rw [List.take_of_length_le (by omega)] at this
    exact this.mono fun e w' ⟨a, b⟩ => ⟨a, b.symm⟩
end Go.Proofs.YtimmjimeldejjaaGreatDoor
