/- Bank states as values; the laws' own helpers for them. No condition but a bound on lengths. -/
import Derived.Test.YtbkihnejgcebpaaHelp
import Derived.Test.YtbkihnejgcebpaaPileE
import Derived.Test.YtbkihnejgcebpaaBaM
namespace Go.Proofs.Ytbkihnejgcebpaa
open Go.RowKit
set_option linter.unusedVariables false
set_option linter.unusedSimpArgs false
set_option maxRecDepth 20000

/-- a bank state: its height, what is left, the slice of its piles -/
def bankV (h l : Int) (a : Option Addr) (n c : Nat) : Value := .agg #[.int .i64 h, .int .i64 l, .slice a n c]

theorem szIntS_any (ao : Option Addr) (n cap : Nat) (left : Int) (w : World) (h0 : 0 ≤ left) (h1 : left ≤ 1048576) (hn : (n : Int) ≤ 9223372036854775807) :
    Calls Try.prog 39 #[.slice ao n cap, .int .i64 left] w fun e w' => e = .returned (.int .i64 (if left - n < 0 then -1 else left - n)) ∧ w = w' := by
  by_cases hb : left - n < 0
  · rw [if_pos hb]
    go_enter Try.func39, Try.ntmps39
    go_wp2
    go_ret
    exact ⟨rfl, rfl⟩
  · rw [if_neg hb]
    go_enter Try.func39, Try.ntmps39
    go_wp2
    go_ret
    exact ⟨rfl, rfl⟩
/-- the block of a bank state's three cells -/
def bankC (h l : Int) (a : Option Addr) (n c : Nat) (ty : TypeId) : Obj := .cells #[.int .i64 h, .int .i64 l, .slice a n c] ty
theorem cellOfB {w : World} {g : Nat} {cs : Array Value} {ty : TypeId} (h : w.heap[g]? = some (.cells cs ty (0, 0))) (i : Nat) (v : Value) (hv : cs[i]? = some v) : w.cell? ⟨g, i, none⟩ = some v ∧ w.frozen? ⟨g, i, none⟩ = false := by
  constructor
  · simp [World.cell?, h, hv]
  · simp [World.frozen?, h]
theorem allocNew (w : World) (o : Obj) : (w.alloc o).heap[w.heap.size]? = some o := by show (w.heap.push o)[w.heap.size]? = some o; simp
theorem keepAt {w w' : World} (hb : Below w.heap.size w w') {k : Nat} (hk : k < w.heap.size) : w'.heap[k]? = w.heap[k]? := (Chg.ofBelow (S := fun _ => False) hb).block k hk id
theorem bank3 {w : World} {g : Nat} {h l : Int} {a : Option Addr} {n c : Nat} {ty : TypeId} (hh : w.heap[g]? = some (bankC h l a n c ty)) :
    (w.cell? ⟨g, 0, none⟩ = some (.int .i64 h) ∧ w.cell? ⟨g, 1, none⟩ = some (.int .i64 l) ∧ w.cell? ⟨g, 2, none⟩ = some (.slice a n c)) ∧ w.frozen? ⟨g, 0, none⟩ = false ∧ w.frozen? ⟨g, 1, none⟩ = false ∧ w.frozen? ⟨g, 2, none⟩ = false := by
  unfold bankC at hh
  exact ⟨⟨(cellOfB hh 0 _ rfl).1, (cellOfB hh 1 _ rfl).1, (cellOfB hh 2 _ rfl).1⟩, (cellOfB hh 0 _ rfl).2, (cellOfB hh 1 _ rfl).2, (cellOfB hh 2 _ rfl).2⟩
theorem chgCell (w : World) (R i : Nat) (v : Value) : Chg (fun k => k = R) w (w.setCell ⟨R, i, none⟩ v) :=
  ⟨rfl, rfl, rfl, by simp, fun q _ hq => heap_setCell_other w ⟨R, i, none⟩ q _ (fun e => hq (by simp [e]))⟩
theorem Own.offCell {B E w a n c zs} (h : Own B E w a n c zs) {R : Nat} (hR : R < B) (i : Nat) (v : Value) : Own B E (w.setCell ⟨R, i, none⟩ v) a n c zs :=
  h.chg (chgCell w R i v) fun g hg _ _ e => by omega
theorem resCell {fn : Func} {p : Tmp} {ty : TypeId} (h : fn.results = #[.cell p ty]) (tmps : Array Value) (P : Program) (w : World) :
    (results fn tmps).run P w = ((asAddr (tmps.getD p undef)).run P w).andThen fun a w₁ => (loadVar ty a).run P w₁ := by
  simp only [results, h]
  simp [Sem.run_bind, Result.andThen]
theorem szBank_small (h l : Int) (ao : Option Addr) (n cap : Nat) (w : World) (hn : n ≤ 1048576) :
    Calls Try.prog 11 #[bankV h l ao n cap, .int .i64 1048576] w fun e w' => e = .returned (.int .i64 (1048576 - n)) ∧ Below w.heap.size w w' := by
  have hcon := fun W => szIntS_any ao n cap 1048576 W (by omega) (by omega) (by omega)
  rw [if_neg (by omega)] at hcon
  have hb := belowAlloc w (bankC h l ao n cap 30)
  unfold bankC at hb
  have Hcon := Lib.hid hcon; clear hcon
  have Hb := Lib.hid hb; clear hb
  unfold bankV
  go_enter Try.func11, Try.ntmps11
  go_wp2_with fail
  with_reducible refine ((Hcon.out _)).mono ?_
  rintro e w' ⟨rfl, rfl⟩
  go_wp2
  go_ret
  exact ⟨rfl, Hb.out⟩
theorem szBank_big (h l : Int) (ao : Option Addr) (n cap : Nat) (w : World) (hn : 1048576 < n) (hI : (n : Int) ≤ 9223372036854775807) :
    Calls Try.prog 11 #[bankV h l ao n cap, .int .i64 1048576] w fun e w' => e = .returned (.int .i64 (-1)) ∧ Below w.heap.size w w' := by
  have hcon := fun W => szIntS_any ao n cap 1048576 W (by omega) (by omega) hI
  rw [if_pos (by omega)] at hcon
  have hb := belowAlloc w (bankC h l ao n cap 30)
  unfold bankC at hb
  have Hcon := Lib.hid hcon; clear hcon
  have Hb := Lib.hid hb; clear hb
  unfold bankV
  go_enter Try.func11, Try.ntmps11
  go_wp2_with fail
  with_reducible refine ((Hcon.out _)).mono ?_
  rintro e w' ⟨rfl, rfl⟩
  go_wp2
  go_ret
  exact ⟨rfl, Hb.out⟩
set_option maxHeartbeats 1600000 in
theorem eqBank_any (h l h' l' : Int) (a a' : Option Addr) (n n' c c' : Nat) (xs ys : List Int) (w : World) (hA : IntsAt w a n c xs) (hB : IntsAt w a' n' c' ys) :
    Calls Try.prog 15 #[bankV h l a n c, bankV h' l' a' n' c'] w fun e w' => e = .returned (.bool (decide (h = h' ∧ l = l' ∧ xs = ys))) ∧ Below w.heap.size w w' := by
  have hb0 := belowAlloc w (bankC h l a n c 33)
  have hb := belowTrans hb0 (belowAlloc _ (bankC h' l' a' n' c' 33)) (Nat.le_refl _)
  have hcon := eqIntS_any a a' n n' c c' xs ys _ (hA.keep hb) (hB.keep hb)
  clear hb0
  unfold bankC at hb hcon
  have Hcon := Lib.hid hcon; clear hcon
  have Hb := Lib.hid hb; clear hb
  unfold bankV
  by_cases e1 : h = h'
  · by_cases e2 : l = l'
    · subst e1 e2
      go_enter Try.func15, Try.ntmps15
      go_wp2_with fail
      with_reducible refine (Hcon.out).mono ?_
      rintro e w1 ⟨rfl, hb1⟩
      have hbb := belowTrans Hb.out hb1 (Nat.le_refl _)
      by_cases e3 : xs = ys
      · rw [decide_eq_true e3]
        have Hbb := Lib.hid hbb; clear hbb
        have E3 := Lib.hid e3; clear e3
        go_wp2
        go_ret
        exact ⟨by simp [E3.out], Hbb.out⟩
      · rw [decide_eq_false e3]
        have Hbb := Lib.hid hbb; clear hbb
        have E3 := Lib.hid e3; clear e3
        go_wp2
        go_ret
        exact ⟨by simp [E3.out], Hbb.out⟩
    · subst e1
      go_enter Try.func15, Try.ntmps15
      go_wp2
      go_ret
      exact ⟨by simp [e2], Hb.out⟩
  · go_enter Try.func15, Try.ntmps15
    go_wp2
    go_ret
    exact ⟨by simp [e1], Hb.out⟩
theorem markBank_any (B E : Nat) (h l : Int) (ao : Option Addr) (n cap : Nat) (xs : List Int) (k : Int) (w : World) (hO : Own B E w ao n cap xs) (hn : n ≤ 1048576) (hk0 : 0 ≤ k) (hk1 : k ≤ 1048576) :
    Calls Try.prog 16 #[bankV h l ao n cap, .int .i64 k] w fun e w' => e = .returned (.int .i64 (k + n)) ∧ Own B E w' ao n cap (marks k n) ∧ Chg (Rg B E) w w' := by
  have hb := belowAlloc w (bankC h l ao n cap 33)
  have hcon := markIntS_any B E ao n cap xs k _ (hO.keep hb) hn hk0 (by omega)
  have hch : Chg (Rg B E) w _ := Chg.ofBelow hb
  unfold bankC at hch hcon
  clear hb
  have Hcon := Lib.hid hcon; clear hcon
  have Hch := Lib.hid hch; clear hch
  unfold bankV
  go_enter Try.func16, Try.ntmps16
  go_wp2_with fail
  with_reducible refine ((Hcon.out)).mono ?_
  rintro e w' ⟨rfl, ho, hc⟩
  go_wp2
  go_ret
  exact ⟨rfl, ho, Hch.out.trans hc⟩
set_option maxHeartbeats 1600000 in
theorem toBank_any (h l : Int) (ao : Option Addr) (n cap : Nat) (xs : List Int) (w : World) (hA : IntsAt w ao n cap xs) (hn : n ≤ 1048576) :
    Calls Try.prog 13 #[bankV h l ao n cap] w fun e w' => ∃ ao' cap', e = .returned (bankV h l ao' n cap') ∧ Own w.heap.size w'.heap.size w' ao' n cap' xs ∧ Below w.heap.size w w' := by
  have hb1 := belowAlloc w (bankC h l ao n cap 30)
  have hb2 := belowTrans hb1 (belowAlloc _ (bankC 0 0 none 0 0 33)) (Nat.le_refl _)
  have hb3 := belowTrans hb2 (belowAlloc _ (bankC h l none 0 0 33)) (Nat.le_refl _)
  have n2 := allocNew (w.alloc (bankC h l ao n cap 30)) (bankC 0 0 none 0 0 33)
  rw [← keepAt (belowAlloc _ (bankC h l none 0 0 33)) (by simp)] at n2
  have n3 := allocNew ((w.alloc (bankC h l ao n cap 30)).alloc (bankC 0 0 none 0 0 33)) (bankC h l none 0 0 33)
  have hcon := toIntS_any ao n cap xs _ (hA.keep hb3) hn
  have hsz : (((w.alloc (bankC h l ao n cap 30)).alloc (bankC 0 0 none 0 0 33)).alloc (bankC h l none 0 0 33)).heap.size = w.heap.size + 3 := by simp
  rw [show (w.alloc (bankC h l ao n cap 30)).heap.size = w.heap.size + 1 by simp] at n2
  rw [show ((w.alloc (bankC h l ao n cap 30)).alloc (bankC 0 0 none 0 0 33)).heap.size = w.heap.size + 1 + 1 by simp] at n3
  clear hb1 hb2
  have n2' := fun w1 (q : Below _ _ w1) => (keepAt q (k := w.heap.size + 1) (by rw [hsz]; omega)).trans n2
  have n3' := fun w1 (q : Below _ _ w1) => (keepAt q (k := w.heap.size + 1 + 1) (by rw [hsz]; omega)).trans n3
  clear n2 n3
  have hcon' := hcon.mono (R' := fun e w1 => ∃ ao' cap', e = .returned (.slice ao' n cap') ∧ Own (w.heap.size + 3) w1.heap.size w1 ao' n cap' xs ∧ Below w.heap.size w w1 ∧ w1.heap[w.heap.size + 1]? = some (bankC 0 0 none 0 0 33) ∧ w1.heap[w.heap.size + 1 + 1]? = some (bankC h l none 0 0 33))
    (fun e w1 ⟨a, c, e1, e2, e3⟩ => ⟨a, c, e1, hsz ▸ e2, belowTrans hb3 e3 (Nat.le_refl _), n2' w1 e3, n3' w1 e3⟩)
  clear hcon n2' n3' hb3 hsz
  unfold bankC at hcon'
  have Hcon' := Lib.hid hcon'; clear hcon'
  unfold bankV
  go_enter Try.func13, Try.ntmps13
  go_wp2_with fail
  with_reducible refine (Hcon'.out).mono ?_
  rintro e w1 ⟨a1, c1, rfl, ho, hb, n2, n3⟩
  obtain ⟨⟨x0, x1, x2⟩, y0, y1, y2⟩ := bank3 n2
  obtain ⟨⟨u0, u1, u2⟩, v0, v1, v2⟩ := bank3 n3
  have ho' := ((((ho.offCell (R := w.heap.size + 1 + 1) (by omega) 2 (.slice a1 n c1)).offCell (R := w.heap.size + 1) (by omega) 0 (.int .i64 h)).offCell (R := w.heap.size + 1) (by omega) 1 (.int .i64 l)).offCell (R := w.heap.size + 1) (by omega) 2 (.slice a1 n c1)).mono (show w.heap.size ≤ w.heap.size + 3 by omega) (Nat.le_refl _)
  have hb' := (((hb.setCell (p := ⟨w.heap.size + 1 + 1, 2, none⟩) (by show w.heap.size ≤ w.heap.size + 1 + 1; omega) (.slice a1 n c1)).setCell (p := ⟨w.heap.size + 1, 0, none⟩) (by show w.heap.size ≤ w.heap.size + 1; omega) (.int .i64 h)).setCell (p := ⟨w.heap.size + 1, 1, none⟩) (by show w.heap.size ≤ w.heap.size + 1; omega) (.int .i64 l)).setCell (p := ⟨w.heap.size + 1, 2, none⟩) (by show w.heap.size ≤ w.heap.size + 1; omega) (.slice a1 n c1)
  clear n2 n3 ho hb
  have Ho' := Lib.hid ho'; clear ho'
  have Hb' := Lib.hid hb'; clear hb'
  go_wp2
  refine bodyPost_ret (v := .agg #[.int .i64 h, .int .i64 l, .slice a1 n c1]) ?_ rfl ⟨a1, c1, rfl, ?_, Hb'.out⟩
  · rw [resCell rfl]
    simp [go_sem, asAddr, Result.andThen, loadVar, *]
  · have := Ho'.out
    simpa using this
end Go.Proofs.Ytbkihnejgcebpaa
