/- Several texts in one: FpK, FpO, FpI, FpJ. No condition. -/
import Derived.Test.YtdfmljkjidepeaaGreatDoorGt
import Derived.Test.YtdfmljkjidepeaaGreatDoorGp
import Derived.Test.YtdfmljkjidepeaaGreatDoorSaT
import Derived.Maps.OwnSet
import Derived.Maps.OwnOps
import Derived.StringKeys
import Derived.Defers
import Derived.Test.YtdfmljkjidepeaaGreatDoorGs
import Derived.Lib.MinMax
namespace Go.Proofs.YtdfmljkjidepeaaGreatDoor
section
set_option linter.unusedVariables false
set_option linter.unusedSimpArgs false

theorem dd_inj {x y : Int} (h0 : 0 ≤ x) (h1 : x ≤ 28) (k0 : 0 ≤ y) (k1 : y ≤ 28) (e : dd x = dd y) : x = y := by
  rw [← read_ddI h0 h1, e, read_ddI k0 k1]
theorem map_dd_inj {p q : List Int} (hp : ∀ x ∈ p, 1 ≤ x ∧ x ≤ 28) (hq : ∀ x ∈ q, 1 ≤ x ∧ x ≤ 28) (e : p.map dd = q.map dd) : p = q := by
  induction p generalizing q with
  | nil => cases q with
    | nil => rfl
    | cons y q => simp at e
  | cons x p ih =>
    cases q with
    | nil => simp at e
    | cons y q =>
      simp only [List.map_cons, List.cons.injEq] at e
      have h1 := hp x (by simp)
      have h2 := hq y (by simp)
      rw [dd_inj (by omega) h1.2 (by omega) h2.2 e.1, ih (fun z hz => hp z (by simp [hz])) (fun z hz => hq z (by simp [hz])) e.2]
theorem textL_one {p : List Int} (h : Good p) (e : textL p = [48]) : p = [] := by
  by_cases hp : p = []
  · exact hp
  · exfalso
    have hm := fun x hx => h.mem (x := x) hx
    have hsp : splitL 43 (textL p) = p.map dd := by unfold textL; rw [if_neg hp]; exact split_join hp hm
    rw [e] at hsp
    have h48 : splitL 43 [48] = [[48]] := by decide
    rw [h48] at hsp
    have hl1 : p.length = 1 := by have := congrArg List.length hsp; simpa using this.symm
    obtain ⟨x, rfl⟩ := List.length_eq_one_iff.1 hl1
    simp at hsp
    have hx := hm x (by simp)
    have := read_ddI (x := x) (by omega) hx.2
    rw [← hsp] at this
    have h0 : readL [48] = 0 := by decide +kernel
    omega
theorem textL_inj {p q : List Int} (hp : Good p) (hq : Good q) (e : textL p = textL q) : p = q := by
  by_cases h1 : p = []
  · subst h1; exact (textL_one hq e.symm).symm
  · by_cases h2 : q = []
    · subst h2; exact textL_one hp e
    · have hm := fun x hx => hp.mem (x := x) hx
      have km := fun x hx => hq.mem (x := x) hx
      have e1 : splitL 43 (textL p) = p.map dd := by unfold textL; rw [if_neg h1]; exact split_join h1 hm
      have e2 : splitL 43 (textL q) = q.map dd := by unfold textL; rw [if_neg h2]; exact split_join h2 km
      refine map_dd_inj hm km ?_
      rw [← e1, e, e2]
theorem textL_length {xs : List Int} (h : Good xs) : (textL xs).length ≤ 85 := by
  unfold textL
  by_cases hx : xs = []
  · rw [if_pos hx]; simp
  · rw [if_neg hx]
    have := joinL_length (fun x hx => (h.mem hx).2) xs.length
    rw [List.take_length] at this
    have := h.len
    omega
end
end Go.Proofs.YtdfmljkjidepeaaGreatDoor
namespace Go.Proofs.YtdfmljkjidepeaaGreatDoor
section
open Go.RowKit Go.Maps
set_option linter.unusedVariables false
set_option linter.unusedSimpArgs false
set_option maxRecDepth 20000

/-! ### A variable in a block of its own -/
def One (w : World) (b : Nat) (v : Value) (ty : TypeId) : Prop := w.heap[b]? = some (.cells #[v] ty (0, 0))
theorem One.lt {w b v ty} (h : One w b v ty) : b < w.heap.size := (Array.getElem?_eq_some_iff.1 h).1
theorem One.chg {S : Nat → Prop} {w w' b v ty} (h : One w b v ty) (hc : Chg S w w') (hs : ¬ S b) : One w' b v ty := (hc.block b h.lt hs).trans h
theorem One.keep {w w' : World} {b v ty} (h : One w b v ty) (hb : Below w.heap.size w w') : One w' b v ty := (hb.block b h.lt).trans h
theorem One.new (w : World) (v : Value) (ty : TypeId) : One (w.alloc (.cells #[v] ty)) w.heap.size v ty := (MapKept.heap_alloc w _).1
theorem One.cell {w b v ty} (h : One w b v ty) : w.cell? ⟨b, 0, none⟩ = some v := by
  unfold World.cell?
  rw [h]
  rfl
theorem One.frozen {w b v ty} (h : One w b v ty) : w.frozen? ⟨b, 0, none⟩ = false := by
  unfold World.frozen?
  rw [h]
  rfl
theorem One.set {w b v ty} (h : One w b v ty) (u : Value) : One (w.setCell ⟨b, 0, none⟩ u) b u ty := by
  have := heap_setCell_same w b 0 _ _ u h
  unfold One
  rw [this]; rfl
theorem chgOne (w : World) (R i : Nat) (v : Value) : Chg (fun k => k = R) w (w.setCell ⟨R, i, none⟩ v) :=
  ⟨rfl, rfl, rfl, by simp, fun q _ hq => heap_setCell_other w ⟨R, i, none⟩ q _ (fun e => hq (by simp [e]))⟩
theorem chgNewO {w0 wr : World} {g b : Nat} (h : Chg (fun k => k = g) w0 wr) (hb : w0.heap.size ≤ b) (k : Nat) (v : Value) : Chg (fun k => k = g) w0 (wr.setCell ⟨b, k, none⟩ v) := by
  have hc := chgOne wr b k v
  exact ⟨hc.os.trans h.os, hc.tape.trans h.tape, hc.output.trans h.output, Nat.le_trans h.size hc.size, fun i hi hs => (hc.block i (Nat.lt_of_lt_of_le hi h.size) (fun e => by omega)).trans (h.block i hi hs)⟩
theorem results_one {fn : Func} {p : Tmp} {ty : TypeId} (h : fn.results = #[.cell p ty]) (tmps : Array Value) (P : Program) (w : World) :
    (results fn tmps).run P w = ((asAddr (tmps.getD p undef)).run P w).andThen fun a w₁ => (loadVar ty a).run P w₁ := by
  simp only [results, h]
  simp [Sem.run_bind, Result.andThen]
/-- a region that ends as it should: what else may come is false -/
def onlyN (K : Act → World → Prop) : Exit → Act → World → Prop
  | .normal, a, w => K a w
  | _, _, _ => False
theorem wp_only {P : Program} {c : Code} {Q : Exit → Act → World → Prop} {a : Act} {w : World} (h : c.wp P (onlyN fun a w => Q .normal a w) a w) : c.wp P Q a w :=
  Code.wp_mono (fun e a w q => by cases e <;> first | exact q | exact q.elim) h
/-! ### The notes -/
theorem mapKS : Keyed Tryz.prog 9 := string_keyed Tryz.underlying9
theorem mapZI (w : World) : (zeroValue 3).run Tryz.prog w = .ok (.int .i64 0) w := by kernel_rfl
theorem litI2 {a b : Int} (h : (DataW.lit (.int .i64 a) : DataW Unit) = .lit (.int .i64 b)) : a = b := by injection h with h; injection h
structure MapW (w : World) (g : Nat) (D : DataW Unit) (S : List (List Int)) : Prop where
  own : w.ownsMap Tryz.prog 9 (plainElem (H := Unit) Tryz.prog 3) g S.length D
  tidy : Maps.Tidy D
  good : ∀ b ∈ S, Good b
  yes : ∀ b ∈ S, Maps.has D (.string (textL b)) = true ∧ D.atKey (.string (textL b)) (.lit (.int .i64 0)) = .lit (.int .i64 (wL b : Nat))
  no : ∀ b, Good b → b ∉ S → Maps.has D (.string (textL b)) = false
theorem MapW.made (w : World) : MapW (w.alloc (.map #[] 0)) w.heap.size (.map []) [] :=
  ⟨World.ownsMap_made _ _ _ _, Maps.tidy_empty, fun b hb => (by cases hb), fun b hb => (by cases hb), fun b _ _ => (by simp [Maps.has])⟩
theorem MapW.lt {w g D S} (h : MapW w g D S) : g < w.heap.size := h.own.lt
theorem MapW.chg {T : Nat → Prop} {w w' g D S} (h : MapW w g D S) (hc : Chg T w w') (hs : ¬ T g) : MapW w' g D S := by
  have hg := h.lt
  obtain ⟨⟨es, clock, h1, h2⟩, a, b, c, d⟩ := h
  exact ⟨⟨es, clock, (hc.block g hg hs).trans h1, h2⟩, a, b, c, d⟩
theorem MapW.keep {w w' : World} {g D S} (h : MapW w g D S) (hb : Below w.heap.size w w') : MapW w' g D S := h.chg (T := fun _ => False) (Chg.ofBelow hb) (fun q => q)
theorem MapW.put {w w' g D S} (h : MapW w g D S) {a : List Int} (ha : Good a) (hn : a ∉ S) (hown : w'.ownsMap Tryz.prog 9 (plainElem (H := Unit) Tryz.prog 3) g (S.length + 1) (D.put (.string (textL a)) (.lit (.int .i64 (wL a : Nat))))) :
    MapW w' g (D.put (.string (textL a)) (.lit (.int .i64 (wL a : Nat)))) (S ++ [a]) := by
  have hk : WideAt.IsKeyLit (.string (textL a)) := trivial
  have hne : ∀ b, Good b → b ≠ a → (Lit.string (textL b)) ≠ .string (textL a) := fun b hb e q => by
    injection q with q
    exact e (textL_inj hb ha q)
  refine ⟨by rw [List.length_append]; exact hown, h.tidy.put hk _, fun b hb => ?_, fun b hb => ?_, fun b hb hbn => ?_⟩
  · rcases List.mem_append.1 hb with q | q
    · exact h.good b q
    · rw [List.mem_singleton.1 q]; exact ha
  · by_cases e : b = a
    · subst e
      exact ⟨Maps.has_put_same h.tidy.isMap hk _, Maps.atKey_put_same h.tidy.isMap hk _ _⟩
    · have hbS : b ∈ S := by
        rcases List.mem_append.1 hb with q | q
        · exact q
        · exact absurd (List.mem_singleton.1 q) e
      rw [Maps.has_put_other (hne b (h.good b hbS) e), Maps.atKey_put_other (hne b (h.good b hbS) e)]
      exact h.yes b hbS
  · have e : b ≠ a := fun q => hbn (by rw [q]; simp)
    rw [Maps.has_put_other (hne b hb e)]
    exact h.no b hb (fun q => hbn (by simp [q]))
theorem textKeyL {a : List Int} (h : Good a) : keyOf Tryz.prog 9 (.string ⟨(textL a).toArray⟩) = some (.string (textL a)) := by
  have hl := textL_length h
  have := WideMaps.keyOf_string_mk (P := Tryz.prog) (k := 9) Tryz.underlying9 (s := ⟨(textL a).toArray⟩) (by show (textL a).toArray.size ≤ maxLen; rw [List.size_toArray]; unfold maxLen; omega)
  simpa using this
theorem joinPlus_any (ao : Option Addr) (n cap : Nat) (xs : List Int) (w : World) (h : IntsAt w ao n cap xs) (hG : Good xs) :
    Calls Tryz.prog 57 #[.slice ao n cap, .string ⟨#[43]⟩, .string ⟨#[48]⟩] w fun e w' => e = .returned (.string ⟨(textL xs).toArray⟩) ∧ Below w.heap.size w w' := by
  have hl := h.length
  have hlen := hG.len
  have hcon := joinNumbers_any ao n cap xs 43 [48] w h (by omega) (fun x hx => itoa_small w x (by have := hG.mem hx; omega) (by have := hG.mem hx; omega)) (fun x hx => itoa_len_small (by have := hG.mem hx; omega) (hG.mem hx).2)
  rw [jnL_text (fun x hx => by have := hG.mem hx; omega)] at hcon
  exact hcon
set_option maxHeartbeats 800000 in
theorem noteW_any (g c o t : Nat) (tc to tt : TypeId) (D : DataW Unit) (S : List (List Int)) (a : List Int) (u : FrameMode) (w : World) (hm : MapW w g D S) (hk : Good a) (hn : a ∉ S) (hS : S.length ≤ 400) (hW : wL a ≤ 1000000001)
    (hc : One w c (.int .i64 (wL a : Nat)) tc) (ho : One w o (.map (some g)) to) (ht : One w t (.string ⟨(textL a).toArray⟩) tt) :
    CallsD Tryz.prog 58 #[.pointer (some ⟨c, 0, none⟩), .pointer (some ⟨o, 0, none⟩), .pointer (some ⟨t, 0, none⟩)] u w fun e u' w' => u' = u ∧ (e = .returned (.tuple #[]) ∧ ∃ D', MapW w' g D' (S ++ [a]) ∧ Chg (fun k => k = g) w w') := by
  have c1 := hc.cell
  have c2 := ho.cell
  have c3 := ht.cell
  have hkey := textKeyL hk
  have hwf : (Lit.int .i64 ((wL a : Nat) : Int)).wf = true := WalkArith.wf_i64 (by omega)
  have hput := fun w' hown => hm.put (w' := w') hk hn hown
  have hown := hm.own
  generalize textL a = T at *
  generalize wL a = N at *
  clear hc ho ht hm hk hn
  have Hkey := Lib.hid hkey; clear hkey
  have Hwf := Lib.hid hwf; clear hwf
  have Hput := Lib.hid hput; clear hput
  go_enter_d Tryz.func58, Tryz.ntmps58
  go_wp2_with (at_mapUpdate; refine wpList_mapUpdate_own w rfl _ _ _ 55 rfl 9 3 mapKS Tryz.underlying55 _ g _ _ rfl hown (by unfold maxLen; omega) _ _ _ rfl rfl Hkey.out _ [] (plainElem_int Tryz.underlying3 Hwf.out) ?_; intro w3 hown3 hgrow3)
  go_wp2
  go_end0
  exact ⟨rfl, ⟨_, Hput.out _ hown3⟩, (Chg.ofGrown hgrow3).mono (fun k e => by simpa using e)⟩
end
end Go.Proofs.YtdfmljkjidepeaaGreatDoor
namespace Go.Proofs.YtdfmljkjidepeaaGreatDoor
section
open Go.RowKit Go.Maps
set_option linter.unusedVariables false
set_option linter.unusedSimpArgs false
set_option maxRecDepth 20000

theorem IntsAt.drewS {w a n c xs} (h : IntsAt w a n c xs) : IntsAt w.drew a n c xs := ⟨h.length, h.le, h.max, h.isNil, h.cell⟩
theorem wrap_small {x y : Int} (h1 : 0 ≤ x ∧ x ≤ 1000000001) (h2 : 0 ≤ y ∧ y ≤ 1000000001) : IntKind.i64.wrap (x + y) = x + y ∧ wrap64 (x + y) = x + y :=
  ⟨IntWalk.i64_in _ (by omega), IntWalk.wrap64_in _ (by omega)⟩
theorem cutP5 {P Q : Prop} (f : Hid P → Q) (p : P) : Q := f (Lib.hid p)
set_option maxHeartbeats 6400000 in
set_option maxRecDepth 100000 in
theorem from_any (xs0 : List Int) (h0 : Grains xs0) (hsm : (rchS xs0).length ≤ 400) : ∀ (k : Nat) (a : List Int) (ao : Option Addr) (n cap g : Nat) (D : DataW Unit) (S : List (List Int)) (w : World),
    577 - wt 0 a ≤ k → a ∈ rchS xs0 → IntsAt w ao n cap a → MapW w g D S → S.Nodup → (∀ s ∈ S, s ∈ rchS xs0) →
    Calls Tryz.prog 33 #[.map (some g), .slice ao n cap] w fun e w' => e = .returned (.int .i64 (wL a : Nat)) ∧ ∃ D' S', MapW w' g D' S' ∧ S'.Nodup ∧ (∀ s ∈ S', s ∈ rchS xs0) ∧ (∀ s ∈ S', s ∈ S ∨ wt 0 a ≤ wt 0 s) ∧ Chg (fun q => q = g) w w' := by
  intro k
  induction k with
  | zero => intro a ao n cap g D S w hk ha; have := (rch_grains h0 ha).wt; omega
  | succ k ih =>
    intro a ao n cap g D S w hk ha hA hM hnd hsub
    have hga := rch_grains h0 ha
    have hgl := hM.lt
    have hGa : Good a := hga.good
    have hSl : S.length ≤ 400 := Nat.le_trans (nodup_len hnd hsub) hsm
    have hWa := wL_le hga
    -- the variables
    have hbo := belowAlloc w (.cells #[.map (some g)] 55)
    have o1 := One.new w (.map (some g)) 55
    have hbc := belowAlloc (w.alloc (.cells #[.map (some g)] 55)) (.cells #[.int .i64 0] 3)
    have c1 := One.new (w.alloc (.cells #[.map (some g)] 55)) (.int .i64 0) 3
    have hsz : (w.alloc (.cells #[.map (some g)] 55)).heap.size = w.heap.size + 1 := by simp
    rw [hsz] at c1
    obtain ⟨W, hW⟩ : ∃ W, W = (w.alloc (.cells #[.map (some g)] 55)).alloc (.cells #[.int .i64 0] 3) := ⟨_, rfl⟩
    have o2 := o1.keep hbc
    have hbw := belowTrans hbo hbc (Nat.le_refl _)
    rw [← hW] at c1 o2 hbw hbc
    have hjn := joinPlus_any ao n cap a W (hA.keep hbw) hGa
    have hM1 := hM.keep hbw
    have hA1 := hA.keep hbw
    have hsW : w.heap.size + 2 ≤ W.heap.size := by rw [hW]; simp
    clear hbo o1 hbc hsz
    have Hjn := Lib.hid hjn; clear hjn
    have HW := Lib.hid hW; clear hW
    have C1 := Lib.hid c1; clear c1
    have O2 := Lib.hid o2; clear o2
    have Hbw := Lib.hid hbw; clear hbw
    have HM1 := Lib.hid hM1; clear hM1
    have HA1 := Lib.hid hA1; clear hA1
    have Hga := Lib.hid hga; clear hga
    have Hsub := Lib.hid hsub; clear hsub
    have Hnd := Lib.hid hnd; clear hnd
    have Ha := Lib.hid ha; clear ha
    have HGa := Lib.hid hGa; clear hGa
    have HA := Lib.hid hA; clear hA
    go_enter_defers Tryz.func33, Tryz.ntmps33
    go_wp2_with fail
    rw [← HW.out]
    with_reducible refine (Hjn.out).mono ?_
    rintro e w2 ⟨rfl, hb2⟩
    have hbt := belowAlloc w2 (.cells #[.string ⟨(textL a).toArray⟩] 9)
    have t3 := One.new w2 (.string ⟨(textL a).toArray⟩) 9
    obtain ⟨X, hX⟩ : ∃ X, X = w2.alloc (.cells #[.string ⟨(textL a).toArray⟩] 9) := ⟨_, rfl⟩
    rw [← hX] at hbt t3
    have c3 := (C1.out.keep hb2).keep hbt
    have o3 := (O2.out.keep hb2).keep hbt
    have hM3 := (HM1.out.keep hb2).keep hbt
    have hA3 := (HA1.out.keep hb2).keep hbt
    have hb3 := belowTrans (belowTrans Hbw.out hb2 (Nat.le_refl _)) hbt (Nat.le_refl _)
    have hs2 := hb2.size
    have hsX : w2.heap.size + 1 ≤ X.heap.size := by rw [hX]; simp
    have hkey := textKeyL HGa.out
    have hown := hM3.own
    have hyes := hM3.yes
    have hno := hM3.no
    have x1 := o3.cell
    have x2 := t3.cell
    have x3 := c3.cell
    have x4 := c3.frozen
    clear hb2 hbt C1 O2 HM1 HA1 Hbw hM
    generalize hT : textL a = T at *
    subst hX
    by_cases hin : a ∈ S
    · obtain ⟨h1, h2⟩ := hyes a hin
      rw [hT] at h1 h2
      have hfin : Chg (fun q => q = g) w ((w2.alloc (.cells #[.string ⟨T.toArray⟩] 9)).setCell ⟨w.heap.size + 1, 0, none⟩ (.int .i64 (wL a : Nat))) := Chg.ofBelow (hb3.setCell (p := ⟨w.heap.size + 1, 0, none⟩) (by show w.heap.size ≤ w.heap.size + 1; omega) _)
      have hMf := hM3.chg (chgOne (w2.alloc (.cells #[.string ⟨T.toArray⟩] 9)) (w.heap.size + 1) 0 (.int .i64 (wL a : Nat))) (fun e => by omega)
      have cf := (c3.set (.int .i64 (wL a : Nat))).cell
      clear hyes hno hb3
      have H1 := Lib.hid h1; clear h1
      have H2 := Lib.hid h2; clear h2
      have C3 := Lib.hid c3; clear c3
      have O3 := Lib.hid o3; clear o3
      have T3 := Lib.hid t3; clear t3
      have HM3 := Lib.hid hM3; clear hM3
      have HA3 := Lib.hid hA3; clear hA3
      have Hkey := Lib.hid hkey; clear hkey
      have Hin := Lib.hid hin; clear hin
      have HT := Lib.hid hT; clear hT
      have Hfin := Lib.hid hfin; clear hfin
      have HMf := Lib.hid hMf; clear hMf
      go_wp2_with (at_lookup; refine wpList_lookup_own_ok_int _ rfl _ _ 55 rfl 9 3 .i64 mapKS Tryz.underlying55 Tryz.underlying3 (mapZI _) g _ _ rfl hown _ _ rfl Hkey.out ?_; intro c9 hat hwc; rw [H1.out]; obtain rfl : ((wL a : Nat) : Int) = c9 := litI2 (H2.out.symm.trans hat); clear hat hwc)
      go_wp2
      trace_state
      refine ⟨_, by rw [results_one rfl]; simp [go_sem, asAddr, Result.andThen, loadVar, cf], rfl, D, S, HMf.out, Hnd.out, Hsub.out, fun s hs => .inl hs, Hfin.out⟩
    · have h1 := hno a HGa.out hin
      rw [hT] at h1
      have hlb := listsBehind_any ao n cap a (w2.alloc (.cells #[.string ⟨T.toArray⟩] 9)) hA3 Hga.out
      clear hyes hno
      have H1 := Lib.hid h1; clear h1
      have C3 := Lib.hid c3; clear c3
      have O3 := Lib.hid o3; clear o3
      have T3 := Lib.hid t3; clear t3
      have HM3 := Lib.hid hM3; clear hM3
      have HA3 := Lib.hid hA3; clear hA3
      have Hkey := Lib.hid hkey; clear hkey
      have Hin := Lib.hid hin; clear hin
      have HT := Lib.hid hT; clear hT
      have Hlb := Lib.hid hlb; clear hlb
      have Hb3 := Lib.hid hb3; clear hb3
      have hmf : ∀ (fn : Fn) (first cap : Array Value) (w : World), (Instr.makeFunc fn first cap).run Tryz.prog w = .ok (.func fn first cap) w := fun _ _ _ _ => rfl
      go_wp2_with (at_lookup; refine wpList_lookup_own_ok_int _ rfl _ _ 55 rfl 9 3 .i64 mapKS Tryz.underlying55 Tryz.underlying3 (mapZI _) g _ _ rfl hown _ _ rfl Hkey.out ?_; intro c9 hat hwc; rw [H1.out]; clear hat hwc)
      with_reducible refine (Hlb.out).mono ?_
      rintro e w4 ⟨a4, n4, c4, rfl, ho4, hb4⟩
      have hn4 := ho4.length
      have c5 := C3.out.keep hb4
      have o5 := O3.out.keep hb4
      have t5 := T3.out.keep hb4
      have hM5 := HM3.out.keep hb4
      have hb5 := belowTrans Hb3.out hb4 (Nat.le_refl _)
      have hs4 := hb4.size
      have hs5 := hb5.size
      have hgW : g < w.heap.size := hgl
      obtain ⟨B4, hB4⟩ : ∃ B, B = (w2.alloc (.cells #[.string ⟨T.toArray⟩] 9)).heap.size := ⟨_, rfl⟩
      rw [← hB4] at ho4 hsX hs4
      have hnote := fun u W D1 S1 (q : MapW W g D1 S1) (q2 : a ∉ S1) (q3 : S1.length ≤ 400) q4 q5 q6 => noteW_any g (w.heap.size + 1) w.heap.size w2.heap.size 3 55 9 D1 S1 a u W q HGa.out q2 q3 hWa q4 q5 (by rw [HT.out]; exact q6)
      clear C3 O3 T3 HM3 Hb3 hb4 hB4 hown Hjn x1 x2 x3 x4 HA3 Hlb
      by_cases hb0 : behL a = []
      · have hz : n4 = 0 := by rw [← hn4, hb0]; rfl
        subst hz
        have hw1 := wL_end Hga.out hb0
        have y1 := c5.cell
        have y2 := c5.frozen
        have hcg := chgOne w4 (w.heap.size + 1) 0 (.int .i64 1)
        have c6 := c5.set (.int .i64 1)
        have o6 := o5.chg hcg (by omega)
        have t6 := t5.chg hcg (by omega)
        have hM6 := hM5.chg hcg (fun e => by omega)
        have hb6 : Below w.heap.size w (w4.setCell ⟨w.heap.size + 1, 0, none⟩ (.int .i64 1)) := hb5.setCell (p := ⟨w.heap.size + 1, 0, none⟩) (by show w.heap.size ≤ w.heap.size + 1; omega) _
        have hcl := fun u => hnote u _ D S hM6 Hin.out hSl (by rw [hw1]; exact c6) o6 t6
        clear hcg hM6 hnote ho4 hM5 hb5 o5 t5 o6 t6
        have Hw1 := Lib.hid hw1; clear hw1
        have C6 := Lib.hid c6; clear c6
        have Hb6 := Lib.hid hb6; clear hb6
        have Hcl := Lib.hid hcl; clear hcl
        have Hn4 := Lib.hid hn4; clear hn4
        have Hb0 := Lib.hid hb0; clear hb0
        clear c5
        go_wp2
        refine leaves_cons (f := 58) (args := #[.pointer (some ⟨w.heap.size + 1, 0, none⟩), .pointer (some ⟨w.heap.size, 0, none⟩), .pointer (some ⟨w2.heap.size, 0, none⟩)]) (by simp) (by simp [go_sem]) ?_
        refine (Hcl.out _).mono ?_
        rintro e u' w'' ⟨rfl, rfl, D', hM', hc'⟩
        have cf := (C6.out.chg hc' (fun e => by omega)).cell
        refine ⟨.int .i64 1, by rw [results_one rfl]; simp [go_sem, asAddr, Result.andThen, loadVar, cf], by simp [Hw1.out], D', S ++ [a], hM', ?_, ?_, ?_, (Chg.ofBelow Hb6.out).trans hc'⟩
        · exact List.nodup_append.2 ⟨Hnd.out, by simp, fun x hx y hy e => by rw [List.mem_singleton] at hy; subst hy; subst e; exact Hin.out hx⟩
        · intro s hs
          rcases List.mem_append.1 hs with q | q
          · exact Hsub.out s q
          · rw [List.mem_singleton.1 q]; exact Ha.out
        · intro s hs
          rcases List.mem_append.1 hs with q | q
          · exact .inl q
          · rw [List.mem_singleton.1 q]; exact .inr (Int.le_refl _)
      · have hn0 : 0 < n4 := by rw [← hn4]; exact List.length_pos_iff.2 hb0
        have hn0i : ¬ (n4 : Int) = 0 := by omega
        have hn0b : ((n4 : Int) == 0) = false := by simpa using hn0i
        have hbl24 := behL_length Hga.out
        have hn24 : n4 ≤ 24 := by rw [← hn4]; exact hbl24
        have hcw := Chg.ofBelow (S := fun q => q = g) hb5
        have hord : ∀ s ∈ S, s ∈ S ∨ wt 0 a + 1 ≤ wt 0 s := fun s hs => .inl hs
        clear hb5
        have hw0 : One w4 (w.heap.size + 1) (.int .i64 (wP a 0 : Nat)) 3 := c5
        have Hw0 := Lib.hid hw0; clear hw0
        have O5 := Lib.hid o5; clear o5
        have T5 := Lib.hid t5; clear t5
        have HM5 := Lib.hid hM5; clear hM5
        have Hcw := Lib.hid hcw; clear hcw
        have Hord := Lib.hid hord; clear hord
        have Ho4 := Lib.hid ho4; clear ho4
        have Hn4 := Lib.hid hn4; clear hn4
        have Hb0 := Lib.hid hb0; clear hb0
        have Hnote := Lib.hid hnote; clear hnote
        have Hbl24 := Lib.hid hbl24; clear hbl24
        clear c5
        obtain ⟨wi, hwi⟩ : ∃ wi : World, wi = w4 := ⟨_, rfl⟩
        subst hwi
        go_wp2_with fail
        go_loopw [29] (fun v wr => ∃ (j : Nat) (D1 : DataW Unit) (S1 : List (List Int)), j ≤ n4 ∧ v = .int .i64 j ∧ Hid (One wr (w.heap.size + 1) (.int .i64 (wP a j : Nat)) 3) ∧ Hid (One wr w.heap.size (.map (some g)) 55) ∧ Hid (One wr w2.heap.size (.string ⟨T.toArray⟩) 9) ∧ Hid (MapW wr g D1 S1) ∧ Hid (S1.Nodup) ∧ Hid (∀ s ∈ S1, s ∈ rchS xs0) ∧ Hid (∀ s ∈ S1, s ∈ S ∨ wt 0 a + 1 ≤ wt 0 s) ∧ Hid (OwnRows B4 wi.heap.size wr a4 n4 c4 (behL a)) ∧ Hid (Chg (fun q => q = g) w wr) ∧ wi.heap.size ≤ wr.heap.size) (fun v _ => n4 - (intOf v).toNat)
        case atStart => exact ⟨0, D, S, Nat.zero_le _, rfl, Hw0, O5, T5, HM5, Hnd, Hsub, Hord, Ho4, Hcw, Nat.le_refl _⟩
        case round =>
          obtain ⟨j, D1, S1, hj, rfl, Hc, Ho, Ht, HM, Hn1, Hs1, Hd1, Hro, Hch, hsr⟩ := hrel
          clear Hw0 O5 T5 HM5 Hord Ho4 Hcw
          have y1 := Hc.out.cell
          have y2 := Hc.out.frozen
          by_cases hlt : j < n4
          · have hlti : (j : Int) < (n4 : Int) := by omega
            have hjb : j < (behL a).length := by have := Hn4.out; omega
            obtain ⟨b9, o9, rfl, hbl9, hc9⟩ := Hro.out.at.cell j hlt
            obtain ⟨a7, n7, c7, x7, hI7⟩ := hc9 j hlt
            clear hc9
            have hmem : (behL a).getD j [] ∈ behL a := by rw [List.getD_eq_getElem?_getD, List.getElem?_eq_getElem hjb]; exact List.getElem_mem _
            obtain ⟨g1, g2⟩ := behL_grains Hga.out hmem
            have hreach : (behL a).getD j [] ∈ rchS xs0 := rch_trans h0 Ha.out (mem_rsS.2 ⟨1, by omega, mem_frS_succ.2 ⟨a, by simp [frS], hmem⟩⟩)
            have hws := wP_succ hjb
            have hwPj := wP_le a j
            have hwLb := wL_le g1
            have z1 := Ho.out.cell
            have hrec := ih ((behL a).getD j []) a7 n7 c7 g D1 S1 wr.drew (by omega) hreach hI7.drewS (HM.out.chg (T := fun _ => False) (Chg.ofBelow (Below.refl wr.heap.size wr).drew) (fun q => q)) Hn1.out Hs1.out
            generalize hbY : (behL a).getD j [] = Y at *
            have hnew : min (((wP a j : Nat) : Int) + ((wL Y : Nat) : Int)) (1000000001 : Int) = ((wP a (j + 1) : Nat) : Int) := by rw [hws]; omega
            obtain ⟨WT, hWT⟩ : ∃ x : Int, x = ((wP a j : Nat) : Int) := ⟨_, rfl⟩
            obtain ⟨WY, hWY⟩ : ∃ x : Int, x = ((wL Y : Nat) : Int) := ⟨_, rfl⟩
            rw [← hWT] at y1
            rw [← hWT, ← hWY] at hnew
            have hT0 : 0 ≤ WT ∧ WT ≤ 1000000001 := by omega
            have hY0 : 0 ≤ WY ∧ WY ≤ 1000000001 := by omega
            obtain ⟨hwrap, hwrap2⟩ := wrap_small hT0 hY0
            clear hT0 hY0
            rw [← hWY] at hrec
            clear hmem g1 hreach hws hwPj hwLb hI7
            have Hrec := Lib.hid hrec; clear hrec
            have HbY := Lib.hid hbY; clear hbY
            have Hnew := Lib.hid hnew; clear hnew
            have HWT := Lib.hid hWT; clear hWT
            have HWY := Lib.hid hWY; clear hWY
            have G2 := Lib.hid g2; clear g2
            have Hjb := Lib.hid hjb; clear hjb
            go_wp2_with fail
            refine' cutP5 (fun key => ?main) ?pf
            case main =>
              refine wp_only ?_
              go_region_law (first | (go_simp; with_reducible refine (Hrec.out).mono ?_; rintro e w5 ⟨rfl, D2, S2, f1, f2, f3, f4, f5⟩; have hcd := (Chg.ofBelow (S := fun q => q = g) (Below.refl wr.heap.size wr).drew).trans f5; have Hc5 := Lib.hid (Hc.out.chg hcd (fun e => by omega)); have Ho5 := Lib.hid (Ho.out.chg hcd (fun e => by omega)); have Ht5 := Lib.hid (Ht.out.chg hcd (fun e => by omega)); have F1 := Lib.hid f1; have F2 := Lib.hid f2; have F3 := Lib.hid f3; have F4 := Lib.hid f4; have Hcd := Lib.hid hcd; have y3 := Hc5.out.cell; rw [← HWT.out] at y3; have y4 := Hc5.out.frozen; have z3 := Ho5.out.cell; clear f1 f2 f3 f4 f5 hcd))
              all_goals
                unfold onlyN
                clear y3 y4 z3
                revert D2 S2 w5
                exact key.out
            case pf =>
              intro w5 D2 S2 Hc5 Ho5 Ht5 F1 F2 F3 F4 Hcd
              obtain ⟨V, hV⟩ : ∃ V : Int, V = min (WT + WY) 1000000001 := ⟨_, rfl⟩
              have hVn : V = ((wP a (j + 1) : Nat) : Int) := hV.trans Hnew.out
              rw [← hV]
              have hcg := chgOne w5 (w.heap.size + 1) 0 (.int .i64 V)
              have c6 := Hc5.out.set (.int .i64 V)
              have o6 := Ho5.out.chg hcg (by omega)
              have t6 := Ht5.out.chg hcg (by omega)
              have hM6 := F1.out.chg hcg (fun e => by omega)
              have hr6 := ((Hro.out.chg Hcd.out (fun q h1 _ e => by omega)).chg hcg (fun q h1 _ e => by omega))
              have hd6 : ∀ s ∈ S2, s ∈ S ∨ wt 0 a + 1 ≤ wt 0 s := fun s hs => by
                have hg2 := G2.out
                rcases F4.out s hs with q | q
                · exact Hd1.out s q
                · exact .inr (by omega)
              have hch6 : Chg (fun q => q = g) w (w5.setCell ⟨w.heap.size + 1, 0, none⟩ (.int .i64 V)) := chgNewO (Hch.out.trans Hcd.out) (by omega) 0 _
              have hsz6 : wi.heap.size ≤ (w5.setCell ⟨w.heap.size + 1, 0, none⟩ (.int .i64 V)).heap.size := by have := Hcd.out.size; simp; omega
              have c7 : One (w5.setCell ⟨w.heap.size + 1, 0, none⟩ (.int .i64 V)) (w.heap.size + 1) (.int .i64 (wP a (j + 1) : Nat)) 3 := by rw [← hVn]; exact c6
              clear hcg y1 y2
              clear c6
              have C7 := Lib.hid c7; clear c7
              have O6 := Lib.hid o6; clear o6
              have T6 := Lib.hid t6; clear t6
              have HM6 := Lib.hid hM6; clear hM6
              have Hr6 := Lib.hid hr6; clear hr6
              have Hd6 := Lib.hid hd6; clear hd6
              have Hch6 := Lib.hid hch6; clear hch6
              have Hsz6 := Lib.hid hsz6; clear hsz6
              have HVn := Lib.hid hVn; clear hVn
              have HV := Lib.hid hV; clear hV
              go_wp2
              go_roundw
              case rel => exact ⟨j + 1, D2, S2, by omega, by go_num, C7, O6, T6, HM6, F2, F3, Hd6, Hr6, Hch6, Hsz6.out⟩
              case measure => simp [intOf] <;> omega
          · obtain rfl : j = n4 := by omega
            have hwm := wL_more Hga.out Hb0.out
            rw [Hn4.out] at hwm
            have hcg := chgOne wr (w.heap.size + 1) 0 (.int .i64 (wP a j : Nat))
            have c6 := Hc.out.set (.int .i64 (wP a j : Nat))
            have o6 := Ho.out.chg hcg (by omega)
            have t6 := Ht.out.chg hcg (by omega)
            have hM6 := HM.out.chg hcg (fun e => by omega)
            have hns : a ∉ S1 := fun q => by
              rcases Hd1.out a q with r | r
              · exact Hin.out r
              · omega
            have hS1l : S1.length ≤ 400 := Nat.le_trans (nodup_len Hn1.out Hs1.out) hsm
            have hcl := fun u => Hnote.out u _ D1 S1 hM6 hns hS1l (by rw [hwm]; exact c6) o6 t6
            have hch6 : Chg (fun q => q = g) w (wr.setCell ⟨w.heap.size + 1, 0, none⟩ (.int .i64 (wP a j : Nat))) := chgNewO Hch.out (by omega) 0 _
            clear hcg hM6 o6 t6 Hro
            have C6 := Lib.hid c6; clear c6
            have Hcl := Lib.hid hcl; clear hcl
            have Hch6 := Lib.hid hch6; clear hch6
            have Hwm := Lib.hid hwm; clear hwm
            have Hns := Lib.hid hns; clear hns
            go_wp2
            refine leaves_cons (f := 58) (args := #[.pointer (some ⟨w.heap.size + 1, 0, none⟩), .pointer (some ⟨w.heap.size, 0, none⟩), .pointer (some ⟨w2.heap.size, 0, none⟩)]) (by simp) (by simp [go_sem]) ?_
            refine (Hcl.out _).mono ?_
            rintro e u' w'' ⟨rfl, rfl, D', hM', hc'⟩
            have cf := (C6.out.chg hc' (fun e => by omega)).cell
            refine ⟨.int .i64 (wP a j : Nat), by rw [results_one rfl]; simp [go_sem, asAddr, Result.andThen, loadVar, cf], by rw [Hwm.out], D', S1 ++ [a], hM', ?_, ?_, ?_, Hch6.out.trans hc'⟩
            · exact List.nodup_append.2 ⟨Hn1.out, by simp, fun x hx y hy e => by rw [List.mem_singleton] at hy; subst hy; subst e; exact Hns.out hx⟩
            · intro s hs
              rcases List.mem_append.1 hs with q | q
              · exact Hs1.out s q
              · rw [List.mem_singleton.1 q]; exact Ha.out
            · intro s hs
              rcases List.mem_append.1 hs with q | q
              · rcases Hd1.out s q with r | r
                · exact .inl r
                · exact .inr (by omega)
              · rw [List.mem_singleton.1 q]; exact .inr (Int.le_refl _)
end
end Go.Proofs.YtdfmljkjidepeaaGreatDoor
namespace Go.Proofs.YtdfmljkjidepeaaGreatDoor
section
open Go.RowKit Go.Maps
set_option linter.unusedVariables false
set_option linter.unusedSimpArgs false
set_option maxRecDepth 20000

set_option maxHeartbeats 1600000 in
theorem impl_CountFallPlays (ao : Option Addr) (n cap : Nat) (xs : List Int) (w : World) (h : IntsAt w ao n cap xs) :
    Calls Tryz.prog 15 #[.slice ao n cap] w fun e w' => e = .returned (.tuple #[.int .i64 (mCountFallPlays xs).1, .bool (mCountFallPlays xs).2]) ∧ Below w.heap.size w w' := by
  have hst := impl_SettleSand ao n cap xs w h
  cases hq : (mSettleSand xs).2
  · have hm := mPlays_no2 hq
    rw [hq] at hst
    rw [hm]
    clear hq hm
    have Hst := Lib.hid hst; clear hst
    go_enter Tryz.func15, Tryz.ntmps15
    go_wp2_with fail
    with_reducible refine (Hst.out).mono ?_
    rintro e w1 ⟨a1, n1, c1, rfl, ho1, hb1⟩
    clear ho1
    have Hb1 := Lib.hid hb1; clear hb1
    go_wp2
    go_ret2
    exact ⟨rfl, Hb1.out⟩
  · have hsb : sandB xs = true := by
      cases hs : sandB xs with
      | true => rfl
      | false => rw [mSettle_no hs] at hq; cases hq
    have hsand := sand_iff.1 hsb
    have hok := (ok_settle hsand).2 hq
    have hfrom := fun W g (hA : IntsAt W ao n cap xs) (hM : MapW W g (.map []) []) => from_any xs hsand.grains hok.1 577 xs ao n cap g (.map []) [] W (by have := hsand.grains.wt; omega) (self_mem xs) hA hM List.nodup_nil (fun s hs => by cases hs)
    have hWl := wL_le hsand.grains
    rw [hq] at hst
    have hm1 := fun q => mPlays_yes hsb hq q
    have hm2 := fun q => mPlays_no3 (a := xs) q
    clear hq hsb hsand hok
    generalize wL xs = N at *
    have Hst := Lib.hid hst; clear hst
    have Hfrom := Lib.hid hfrom; clear hfrom
    have Hm1 := Lib.hid hm1; clear hm1
    have Hm2 := Lib.hid hm2; clear hm2
    have hmm := @run_makeMap Tryz.prog
    go_enter Tryz.func15, Tryz.ntmps15
    go_wp2_with fail
    with_reducible refine (Hst.out).mono ?_
    rintro e w1 ⟨a1, n1, c1, rfl, ho1, hb1⟩
    clear ho1
    have hba := belowAlloc w1 (.map #[] 0)
    have hM := MapW.made w1
    have hA1 := (h.keep hb1).keep hba
    have hb2 := belowTrans hb1 hba (Nat.le_refl _)
    have hcon := Hfrom.out _ _ hA1 hM
    have hgl : w.heap.size ≤ w1.heap.size := hb1.size
    clear hb1 hba hM hA1
    have Hcon := Lib.hid hcon; clear hcon
    have Hb2 := Lib.hid hb2; clear hb2
    go_wp2_with fail
    with_reducible refine (Hcon.out).mono ?_
    rintro e w3 ⟨rfl, D', S', f1, f2, f3, f4, f5⟩
    have hb3 : Below w.heap.size w w3 := Hb2.out.trans (f5.below (by have := Hb2.out.size; omega) (fun k e => by omega))
    clear f1 f2 f3 f4 f5 hmm
    by_cases hN : N ≤ 1000000000
    · have hm := Hm1.out hN
      have hNi : ¬ (1000000000 : Int) < (N : Int) := by omega
      have Hb3 := Lib.hid hb3; clear hb3
      have Hm := Lib.hid hm; clear hm
      go_wp2
      go_ret2
      rw [Hm.out]
      exact ⟨rfl, Hb3.out⟩
    · have hm := Hm2.out hN
      have hNi : (1000000000 : Int) < (N : Int) := by omega
      have Hb3 := Lib.hid hb3; clear hb3
      have Hm := Lib.hid hm; clear hm
      go_wp2
      go_ret2
      rw [Hm.out]
      exact ⟨rfl, Hb3.out⟩
end
end Go.Proofs.YtdfmljkjidepeaaGreatDoor
