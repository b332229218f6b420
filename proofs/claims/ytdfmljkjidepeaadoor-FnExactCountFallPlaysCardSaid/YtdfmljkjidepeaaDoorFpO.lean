/- Numbers of orders noted under texts: a map; single variables; the deferred note. No condition. -/
import Derived.Test.YtdfmljkjidepeaaDoorFpN
import Derived.Test.YtdfmljkjidepeaaDoorFpK
import Derived.Test.YtdfmljkjidepeaaDoorSaT
import Derived.Maps.OwnSet
import Derived.Maps.OwnOps
import Derived.StringKeys
import Derived.Defers
namespace Go.Proofs.YtdfmljkjidepeaaDoor
open Go.RowKit Go.Maps
set_option linter.unusedVariables false
set_option linter.unusedSimpArgs false
set_option maxRecDepth 20000

/-! ### A variable in a block of its own -/
def One (w : World) (b : Nat) (v : Value) (ty : TypeId) : Prop := w.heap[b]? = some (.cells #[v] ty (0, 0))
theorem One.lt {w b v ty} (h : One w b v ty) : b < w.heap.size := (Array.getElem?_eq_some_iff.1 h).1
theorem One.chg {S : Nat → Prop} {w w' b v ty} (h : One w b v ty) (hc : Chg S w w') (hs : ¬ S b) : One w' b v ty := (hc.block b h.lt hs).trans h
theorem One.keep {w w' : World} {b v ty} (h : One w b v ty) (hb : Below w.heap.size w w') : One w' b v ty := (hb.block b h.lt).trans h
theorem One.new (w : World) (v : Value) (ty : TypeId) : One (w.alloc (.cells #[v] ty)) w.heap.size v ty := (MapKept.heap_alloc w _).1
theorem One.cell {w b v ty} (h : One w b v ty) : w.cell? ⟨b, 0, none⟩ = some v := by
  unfold World.cell?
  rw [h]
  rfl
theorem One.frozen {w b v ty} (h : One w b v ty) : w.frozen? ⟨b, 0, none⟩ = false := by
  unfold World.frozen?
  rw [h]
  rfl
theorem One.set {w b v ty} (h : One w b v ty) (u : Value) : One (w.setCell ⟨b, 0, none⟩ u) b u ty := by
  have := heap_setCell_same w b 0 _ _ u h
  unfold One
  rw [this]; rfl
theorem chgOne (w : World) (R i : Nat) (v : Value) : Chg (fun k => k = R) w (w.setCell ⟨R, i, none⟩ v) :=
  ⟨rfl, rfl, rfl, by simp, fun q _ hq => heap_setCell_other w ⟨R, i, none⟩ q _ (fun e => hq (by simp [e]))⟩
theorem chgNewO {w0 wr : World} {g b : Nat} (h : Chg (fun k => k = g) w0 wr) (hb : w0.heap.size ≤ b) (k : Nat) (v : Value) : Chg (fun k => k = g) w0 (wr.setCell ⟨b, k, none⟩ v) := by
  have hc := chgOne wr b k v
  exact ⟨hc.os.trans h.os, hc.tape.trans h.tape, hc.output.trans h.output, Nat.le_trans h.size hc.size, fun i hi hs => (hc.block i (Nat.lt_of_lt_of_le hi h.size) (fun e => by omega)).trans (h.block i hi hs)⟩
theorem results_one {fn : Func} {p : Tmp} {ty : TypeId} (h : fn.results = #[.cell p ty]) (tmps : Array Value) (P : Program) (w : World) :
    (results fn tmps).run P w = ((asAddr (tmps.getD p undef)).run P w).andThen fun a w₁ => (loadVar ty a).run P w₁ := by
  simp only [results, h]
  simp [Sem.run_bind, Result.andThen]
/-- a region that ends as it should: what else may come is false -/
def onlyN (K : Act → World → Prop) : Exit → Act → World → Prop
  | .normal, a, w => K a w
  | _, _, _ => False
theorem wp_only {P : Program} {c : Code} {Q : Exit → Act → World → Prop} {a : Act} {w : World} (h : c.wp P (onlyN fun a w => Q .normal a w) a w) : c.wp P Q a w :=
  Code.wp_mono (fun e a w q => by cases e <;> first | exact q | exact q.elim) h
/-! ### The notes -/
theorem mapKS : Keyed Tryd.prog 9 := string_keyed Tryd.underlying9
theorem mapZI (w : World) : (zeroValue 3).run Tryd.prog w = .ok (.int .i64 0) w := by kernel_rfl
theorem litI2 {a b : Int} (h : (DataW.lit (.int .i64 a) : DataW Unit) = .lit (.int .i64 b)) : a = b := by injection h with h; injection h
structure MapW (w : World) (g : Nat) (D : DataW Unit) (S : List (List Int)) : Prop where
  own : w.ownsMap Tryd.prog 9 (plainElem (H := Unit) Tryd.prog 3) g S.length D
  tidy : Maps.Tidy D
  good : ∀ b ∈ S, Good b
  yes : ∀ b ∈ S, Maps.has D (.string (textL b)) = true ∧ D.atKey (.string (textL b)) (.lit (.int .i64 0)) = .lit (.int .i64 (wL b : Nat))
  no : ∀ b, Good b → b ∉ S → Maps.has D (.string (textL b)) = false
theorem MapW.made (w : World) : MapW (w.alloc (.map #[] 0)) w.heap.size (.map []) [] :=
  ⟨World.ownsMap_made _ _ _ _, Maps.tidy_empty, fun b hb => (by cases hb), fun b hb => (by cases hb), fun b _ _ => (by simp [Maps.has])⟩
theorem MapW.lt {w g D S} (h : MapW w g D S) : g < w.heap.size := h.own.lt
theorem MapW.chg {T : Nat → Prop} {w w' g D S} (h : MapW w g D S) (hc : Chg T w w') (hs : ¬ T g) : MapW w' g D S := by
  have hg := h.lt
  obtain ⟨⟨es, clock, h1, h2⟩, a, b, c, d⟩ := h
  exact ⟨⟨es, clock, (hc.block g hg hs).trans h1, h2⟩, a, b, c, d⟩
theorem MapW.keep {w w' : World} {g D S} (h : MapW w g D S) (hb : Below w.heap.size w w') : MapW w' g D S := h.chg (T := fun _ => False) (Chg.ofBelow hb) (fun q => q)
theorem MapW.put {w w' g D S} (h : MapW w g D S) {a : List Int} (ha : Good a) (hn : a ∉ S) (hown : w'.ownsMap Tryd.prog 9 (plainElem (H := Unit) Tryd.prog 3) g (S.length + 1) (D.put (.string (textL a)) (.lit (.int .i64 (wL a : Nat))))) :
    MapW w' g (D.put (.string (textL a)) (.lit (.int .i64 (wL a : Nat)))) (S ++ [a]) := by
  have hk : WideAt.IsKeyLit (.string (textL a)) := trivial
  have hne : ∀ b, Good b → b ≠ a → (Lit.string (textL b)) ≠ .string (textL a) := fun b hb e q => by
    injection q with q
    exact e (textL_inj hb ha q)
  refine ⟨by rw [List.length_append]; exact hown, h.tidy.put hk _, fun b hb => ?_, fun b hb => ?_, fun b hb hbn => ?_⟩
  · rcases List.mem_append.1 hb with q | q
    · exact h.good b q
    · rw [List.mem_singleton.1 q]; exact ha
  · by_cases e : b = a
    · subst e
      exact ⟨Maps.has_put_same h.tidy.isMap hk _, Maps.atKey_put_same h.tidy.isMap hk _ _⟩
    · have hbS : b ∈ S := by
        rcases List.mem_append.1 hb with q | q
        · exact q
        · exact absurd (List.mem_singleton.1 q) e
      rw [Maps.has_put_other (hne b (h.good b hbS) e), Maps.atKey_put_other (hne b (h.good b hbS) e)]
      exact h.yes b hbS
  · have e : b ≠ a := fun q => hbn (by rw [q]; simp)
    rw [Maps.has_put_other (hne b hb e)]
    exact h.no b hb (fun q => hbn (by simp [q]))
theorem textKeyL {a : List Int} (h : Good a) : keyOf Tryd.prog 9 (.string ⟨(textL a).toArray⟩) = some (.string (textL a)) := by
  have hl := textL_length h
  have := WideMaps.keyOf_string_mk (P := Tryd.prog) (k := 9) Tryd.underlying9 (s := ⟨(textL a).toArray⟩) (by show (textL a).toArray.size ≤ maxLen; rw [List.size_toArray]; unfold maxLen; omega)
  simpa using this
theorem joinPlus_any (ao : Option Addr) (n cap : Nat) (xs : List Int) (w : World) (h : IntsAt w ao n cap xs) (hG : Good xs) :
    Calls Tryd.prog 24 #[.slice ao n cap, .string ⟨#[43]⟩, .string ⟨#[48]⟩] w fun e w' => e = .returned (.string ⟨(textL xs).toArray⟩) ∧ Below w.heap.size w w' := by
  have hl := h.length
  have hlen := hG.len
  have hcon := joinNumbers_any ao n cap xs 43 [48] w h (by omega) (fun x hx => itoa_small w x (by have := hG.mem hx; omega) (by have := hG.mem hx; omega)) (fun x hx => itoa_len_small (by have := hG.mem hx; omega) (hG.mem hx).2)
  rw [jnL_text (fun x hx => by have := hG.mem hx; omega)] at hcon
  exact hcon
set_option maxHeartbeats 800000 in
theorem noteW_any (g c o t : Nat) (tc to tt : TypeId) (D : DataW Unit) (S : List (List Int)) (a : List Int) (u : FrameMode) (w : World) (hm : MapW w g D S) (hk : Good a) (hn : a ∉ S) (hS : S.length ≤ 400) (hW : wL a ≤ 1000000001)
    (hc : One w c (.int .i64 (wL a : Nat)) tc) (ho : One w o (.map (some g)) to) (ht : One w t (.string ⟨(textL a).toArray⟩) tt) :
    CallsD Tryd.prog 25 #[.pointer (some ⟨c, 0, none⟩), .pointer (some ⟨o, 0, none⟩), .pointer (some ⟨t, 0, none⟩)] u w fun e u' w' => u' = u ∧ (e = .returned (.tuple #[]) ∧ ∃ D', MapW w' g D' (S ++ [a]) ∧ Chg (fun k => k = g) w w') := by
  have c1 := hc.cell
  have c2 := ho.cell
  have c3 := ht.cell
  have hkey := textKeyL hk
  have hwf : (Lit.int .i64 ((wL a : Nat) : Int)).wf = true := WalkArith.wf_i64 (by omega)
  have hput := fun w' hown => hm.put (w' := w') hk hn hown
  have hown := hm.own
  generalize textL a = T at *
  generalize wL a = N at *
  clear hc ho ht hm hk hn
  have Hkey := Lib.hid hkey; clear hkey
  have Hwf := Lib.hid hwf; clear hwf
  have Hput := Lib.hid hput; clear hput
  go_enter_d Tryd.func25, Tryd.ntmps25
  go_wp2_with (at_mapUpdate; refine wpList_mapUpdate_own w rfl _ _ _ 34 rfl 9 3 mapKS Tryd.underlying34 _ g _ _ rfl hown (by unfold maxLen; omega) _ _ _ rfl rfl Hkey.out _ [] (plainElem_int Tryd.underlying3 Hwf.out) ?_; intro w3 hown3 hgrow3)
  go_wp2
  go_end0
  exact ⟨rfl, ⟨_, Hput.out _ hown3⟩, (Chg.ofGrown hgrow3).mono (fun k e => by simpa using e)⟩
end Go.Proofs.YtdfmljkjidepeaaDoor
