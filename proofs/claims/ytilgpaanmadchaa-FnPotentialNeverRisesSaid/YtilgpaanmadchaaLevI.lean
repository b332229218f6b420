/- Chapter 3: the cards on levels in a map, as the program counts them; the potential; by how much a step lowers it. No condition. -/
import Derived.Test.YtilgpaanmadchaaGa
import Derived.Test.YtilgpaanmadchaaPileB
import Derived.Test.YtilgpaanmadchaaPileF
namespace Go.Proofs.Ytilgpaanmadchaa
open Go.RowKit Go.Maps
set_option linter.unusedVariables false
set_option linter.unusedSimpArgs false

theorem mapK : Keyed Try.prog 3 := int_keyed Try.underlying3
theorem mapZ (w : World) : (zeroValue 3).run Try.prog w = .ok (.int .i64 0) w := by kernel_rfl
/-- a map in a block that holds a list of levels -/
def MapAt (w : World) (b : Nat) (ls : List Int) : Prop := ∃ D, w.ownsMap Try.prog 3 (plainElem (H := Unit) Try.prog 3) b ls.length D ∧ RepL D ls
theorem MapAt.of {w : World} {b n : Nat} {ls : List Int} {D : DataW Unit} (h : w.ownsMap Try.prog 3 (plainElem (H := Unit) Try.prog 3) b n D) (hr : RepL D ls) : MapAt w b ls :=
  ⟨D, by have := tightMap h; rwa [hr.size] at this, hr⟩
theorem MapAt.made (w : World) : MapAt (w.alloc (.map #[] 0)) w.heap.size [] := ⟨.map [], World.ownsMap_made _ _ _ _, repL_empty⟩
theorem MapAt.lt {w : World} {b : Nat} {ls : List Int} (h : MapAt w b ls) : b < w.heap.size := by
  obtain ⟨D, h, _⟩ := h; exact h.lt
theorem MapAt.below {w w' : World} {b B : Nat} {ls : List Int} (h : MapAt w b ls) (hb : Below B w w') (hB : b < B) : MapAt w' b ls := by
  obtain ⟨D, ⟨es, clock, h1, h2⟩, hr⟩ := h
  exact ⟨D, ⟨es, clock, (hb.block b hB).trans h1, h2⟩, hr⟩
theorem MapAt.keep {w w' : World} {b : Nat} {ls : List Int} (h : MapAt w b ls) (hb : Below w.heap.size w w') : MapAt w' b ls := h.below hb h.lt
theorem MapAt.setCell {w : World} {b : Nat} {ls : List Int} (h : MapAt w b ls) {a : Addr} (ha : b ≠ a.block) (u : Value) : MapAt (w.setCell a u) b ls := by
  obtain ⟨D, h, hr⟩ := h
  exact ⟨D, h.setCell ha u, hr⟩
theorem MapAt.kept {w w' : World} {b : Nat} {ls : List Int} {row : Option Nat} (h : MapAt w b ls) (hg : w.grownBy w' row) (hne : some b ≠ row) : MapAt w' b ls := by
  obtain ⟨D, h, hr⟩ := h
  exact ⟨D, h.kept hg hne, hr⟩
theorem mapKey {l : Nat} (h : l ≤ 1000000) : keyOf Try.prog 3 (.int .i64 (l : Int)) = some (.int .i64 (l : Int)) := keyOf_int_mk Try.underlying3 (WalkArith.wf_i64 (by omega))
theorem litI {a b : Int} (h : (DataW.lit (.int .i64 a) : DataW Unit) = .lit (.int .i64 b)) : a = b := by injection h with h; injection h

theorem bumps_le {xs : List Int} (hg : Good xs) {k q : Nat} (hk : k < xs.length) (hq : (q : Int) ≤ xs.getD k 0) : (bumps (levN xs k) k q).length ≤ 28 := by
  have h1 := level_top hg hk
  have h2 := levN_le hg (k := k) (by omega)
  rw [bumps_length _ _ _ (levN_ge hg (by omega))]
  omega
theorem bumps_at {xs : List Int} (hg : Good xs) {k q : Nat} (hk : k < xs.length) (l : Nat) : 0 ≤ (bumps (levN xs k) k q).getD l 0 ∧ (bumps (levN xs k) k q).getD l 0 ≤ 29 := by
  have h1 := lev_bound xs l k
  have := hg.len
  rw [bumps_getD _ _ _ _ (levN_ge hg (by omega)), levN_getD hg (by omega)]
  split <;> omega
theorem bumps_ge {xs : List Int} (hg : Good xs) {k q : Nat} (hk : k < xs.length) : k + q ≤ (bumps (levN xs k) k q).length := by
  rw [bumps_length _ _ _ (levN_ge hg (by omega))]; omega

set_option maxRecDepth 100000 in
set_option maxHeartbeats 1600000 in
theorem cardsByLevel_any (ao : Option Addr) (n cap : Nat) (xs : List Int) (w : World) (h : IntsAt w ao n cap xs) (hg : Good xs) :
    Calls Try.prog 143 #[.slice ao n cap] w fun e w' => e = .returned (.map (some w.heap.size)) ∧ MapAt w' w.heap.size (lvsL xs) ∧ Below w.heap.size w w' := by
  have hmm := @run_makeMap Try.prog
  have hl := h.length
  have hlen := hg.len
  have hn28 : n ≤ 28 := by omega
  have Hg := Lib.hid hg; clear hg
  have Hl := Lib.hid hl; clear hl
  go_enter Try.func143, Try.ntmps143
  go_wp2
  go_loopw [10] (fun i wr => ∃ k : Nat, k ≤ n ∧ i = .int .i64 k ∧ MapAt wr w.heap.size (levN xs k) ∧ Below w.heap.size w wr) (fun i _ => n - (intOf i).toNat)
  case atStart => exact ⟨0, Nat.zero_le _, rfl, MapAt.made _, (Below.refl _ _).alloc (Nat.le_refl _) _⟩
  case round =>
    obtain ⟨k, hk, rfl, hm, hbk⟩ := hrel
    by_cases hlt : k < n
    · have hr := h.keep hbk
      obtain ⟨b, o, rfl, hb, hc⟩ := hr.cell k hlt
      have hck := hc k hlt
      clear hc
      generalize hx : xs.getD k 0 = x at hck
      have Hx := Lib.hid hx; clear hx
      have hxl : k < xs.length := by rw [Hl.out]; exact hlt
      have hx1 := good_at Hg.out hxl
      rw [Hx.out] at hx1
      obtain ⟨wi, hwi⟩ : ∃ wi : World, wi = wr := ⟨_, rfl⟩
      subst hwi
      have Hxl := Lib.hid hxl; clear hxl
      have Hr := Lib.hid hr; clear hr
      go_wp2
      go_loopw [16] (fun p wq => ∃ q : Nat, (q : Int) ≤ x ∧ p = .int .i64 q ∧ MapAt wq w.heap.size (bumps (levN xs k) k q) ∧ Below w.heap.size w wq) (fun p _ => x.toNat - (intOf p).toNat)
      case atStart => exact ⟨0, by omega, rfl, hm, hbk⟩
      case round =>
        obtain ⟨q, hq, rfl, hmq, hbq⟩ := hrel
        clear hm hbk
        by_cases hlt2 : (q : Int) < x
        · have b1 := bumps_le Hg.out Hxl.out (by rw [Hx.out]; exact hq)
          have b2 := bumps_at Hg.out (q := q) Hxl.out (k + q)
          have b3 := bumps_ge Hg.out (q := q) Hxl.out
          have e3 : bumps (levN xs k) k (q + 1) = bump (bumps (levN xs k) k q) (k + q) := rfl
          obtain ⟨D, hown, hrep⟩ := hmq
          have hat0 := hrep.at_ (k + q)
          have hbump := hrep.bump (k + q) b3
          have hkey : keyOf Try.prog 3 (.int .i64 ((k : Int) + (q : Int))) = some (.int .i64 ((k + q : Nat) : Int)) := by rw [← Int.natCast_add]; exact mapKey (by omega)
          generalize bumps (levN xs k) k q = ls at *
          have E3 := Lib.hid e3; clear e3
          have Hat0 := Lib.hid hat0; clear hat0
          have Hbump := Lib.hid hbump; clear hbump
          have Hkey := Lib.hid hkey; clear hkey
          have Hrep := Lib.hid hrep; clear hrep
          clear b3
          go_wp2_with (first
            | (at_lookup; refine wpList_lookup_own_int _ rfl _ _ 95 rfl 3 3 .i64 mapK Try.underlying95 Try.underlying3 (mapZ _) w.heap.size _ _ rfl hown _ _ rfl Hkey.out ?_; intro c hat hwc)
            | (at_mapUpdate; refine wpList_mapUpdate_own _ rfl _ _ _ 95 rfl 3 3 mapK Try.underlying95 _ w.heap.size _ _ rfl hown (by unfold maxLen; omega) _ _ _ rfl rfl Hkey.out _ [] (plainElem_int Try.underlying3 (wrap64_wf _)) ?_; intro w1 hown1 hgrow1))
          have hc : ls.getD (k + q) 0 = c := litI ((Hat0.out).symm.trans hat)
          rw [hc] at b2 Hbump
          have hw2 : wrap64 (c + 1) = c + 1 := by unfold wrap64; omega
          rw [hw2] at hown1
          have hm1 : MapAt w1 w.heap.size (bump ls (k + q)) := MapAt.of hown1 Hbump.out
          have hb1 := hbq.grown hgrow1 hbq.size (fun j hj => by cases hj; exact Nat.le_refl _)
          clear hown hown1 hgrow1 hbq
          go_roundw
          case rel => exact ⟨q + 1, by omega, valI (by omega), by rw [E3.out]; exact hm1, hb1⟩
          case measure => simp [intOf]; omega
        · have hxq : x = (q : Int) := by omega
          have e4 : levN xs (k + 1) = bumps (levN xs k) k q := by show bumps (levN xs k) k (xs.getD k 0).toNat = _; rw [Hx.out, hxq]; rfl
          have E4 := Lib.hid e4; clear e4
          have Hxq := Lib.hid hxq; clear hxq
          go_wp2_with fail
          go_roundw
          case rel => exact ⟨k + 1, by omega, valI (by omega), by rw [E4.out]; exact hmq, hbq⟩
          case measure => simp [intOf]; omega
    · have hkn : k = xs.length := by rw [Hl.out]; omega
      go_wp2_with fail
      go_ret
      refine ⟨rfl, ?_, hbk⟩
      rw [hkn] at hm
      exact hm
end Go.Proofs.Ytilgpaanmadchaa
