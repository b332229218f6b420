/- Several texts in one: Draw, DrawB. No condition. -/
import Derived.Test.YtimmjimeldejjaaGreatDoorPileA
import Derived.BigQuiet
import Derived.IntWalk
import Derived.Laws.Bits64b
import Derived.Laws.Rows
import Derived.Test.YtimmjimeldejjaaGreatDoorGb
namespace Go.Proofs.YtimmjimeldejjaaGreatDoor
section
open Go.RowKit
set_option linter.unusedVariables false
set_option linter.unusedSimpArgs false

/-- bytes that can be read, in a block below g -/
def ByteIn (w : World) (g : Nat) (ac : Option Addr) (nc : Nat) : Prop :=
  ∀ j, j < nc → ∃ b o, ac = some ⟨b, o, none⟩ ∧ b < g ∧ ∀ i, i < nc → ∃ v : Nat, v ≤ 255 ∧ w.cell? ⟨b, o + i, none⟩ = some (.int .u8 (v : Int))
theorem ByteIn.chg {S : Nat → Prop} {w w' g ac nc} (h : ByteIn w g ac nc) (hg : g ≤ w.heap.size) (hc : Chg S w w') (hs : ∀ k, k < g → ¬ S k) : ByteIn w' g ac nc := fun j hj => by
  obtain ⟨b, o, e, hb, hi⟩ := h j hj
  refine ⟨b, o, e, hb, fun i hi' => ?_⟩
  obtain ⟨v, hv, hcell⟩ := hi i hi'
  exact ⟨v, hv, by rw [World.cell?_of_block (a := ⟨b, o + i, none⟩) (hc.block b (by omega) (hs b hb))]; exact hcell⟩
/-- a cursor in block g: the code, at most A bytes of it passed, some seed -/
def Cur (w : World) (g A : Nat) : Prop :=
  ∃ (ac : Option Addr) (nc cc p : Nat) (q : Int), w.heap[g]? = some (.cells #[.slice ac nc cc, .int .i64 p, .int .u64 q] 51 (0, 0)) ∧ nc ≤ 1048576 ∧ p ≤ A ∧ 0 ≤ q ∧ q ≤ 18446744073709551615 ∧ ByteIn w g ac nc
theorem Cur.lt {w g A} (h : Cur w g A) : g < w.heap.size := by
  obtain ⟨_, _, _, _, _, hg, _⟩ := h
  exact (Array.getElem?_eq_some_iff.1 hg).1
theorem Cur.chg {S : Nat → Prop} {w w' g A} (h : Cur w g A) (hc : Chg S w w') (hs : ∀ k, k ≤ g → ¬ S k) : Cur w' g A := by
  have hlt := h.lt
  obtain ⟨ac, nc, cc, p, q, hg, h1, h2, h3, h4, h5⟩ := h
  exact ⟨ac, nc, cc, p, q, by rw [hc.block g hlt (hs g (Nat.le_refl _))]; exact hg, h1, h2, h3, h4, h5.chg (by omega) hc (fun k hk => hs k (by omega))⟩
theorem Cur.keep {w w' g A} (h : Cur w g A) (hb : Below w.heap.size w w') : Cur w' g A := h.chg (S := fun _ => False) (Chg.ofBelow hb) (fun _ _ h => h)
theorem Cur.le {w g A A'} (h : Cur w g A) (ha : A ≤ A') : Cur w g A' := by
  obtain ⟨ac, nc, cc, p, q, hg, h1, h2, h3⟩ := h
  exact ⟨ac, nc, cc, p, q, hg, h1, by omega, h3⟩

theorem rnd (z : Int) : ∃ b : Nat, b ≤ 255 ∧ wrap64 (bits .and .u64 (IntKind.u64.wrap z / 1099511627776) 255) = (b : Int) := by
  obtain ⟨n, hn, hlt⟩ : ∃ n : Nat, IntKind.u64.wrap z = (n : Int) ∧ n < 18446744073709551616 := ⟨(IntKind.u64.wrap z).toNat, by rw [IntKind.wrap_u64]; omega, by rw [IntKind.wrap_u64]; omega⟩
  have h2 := bits_and_u64_nat (n / 1099511627776) 255 (by omega) (by omega)
  have hle : (n / 1099511627776) &&& 255 ≤ 255 := Nat.and_le_right
  refine ⟨(n / 1099511627776) &&& 255, hle, ?_⟩
  rw [hn, show ((n : Int) / 1099511627776) = ((n / 1099511627776 : Nat) : Int) by omega]
  have h3 : bits .and .u64 ((n / 1099511627776 : Nat) : Int) 255 = (((n / 1099511627776) &&& 255 : Nat) : Int) := h2
  rw [h3]
  exact IntWalk.wrap64_in _ (by omega)
/-- the cursor behind one step -/
theorem cur_step {w : World} {g A : Nat} {ac : Option Addr} {nc cc p : Nat} {q z : Int} (hg : w.heap[g]? = some (.cells #[.slice ac nc cc, .int .i64 p, .int .u64 q] 51 (0, 0)))
    (hnc : nc ≤ 1048576) (hp : p ≤ A) (hby : ByteIn w g ac nc) :
    Cur ((w.setCell ⟨g, 1, none⟩ (.int .i64 ((p : Int) + 1))).setCell ⟨g, 2, none⟩ (.int .u64 (IntKind.u64.wrap z))) g (A + 1) ∧
      Chg (fun k => k = g) w ((w.setCell ⟨g, 1, none⟩ (.int .i64 ((p : Int) + 1))).setCell ⟨g, 2, none⟩ (.int .u64 (IntKind.u64.wrap z))) := by
  have h1 := heap_setCell_same w g 1 _ _ (.int .i64 ((p : Int) + 1)) hg
  have h2 := heap_setCell_same _ g 2 _ _ (.int .u64 (IntKind.u64.wrap z)) h1
  have hc : Chg (fun k => k = g) w ((w.setCell ⟨g, 1, none⟩ (.int .i64 ((p : Int) + 1))).setCell ⟨g, 2, none⟩ (.int .u64 (IntKind.u64.wrap z))) :=
    ⟨rfl, rfl, rfl, by simp, fun k _ hk => by rw [heap_setCell_other _ _ _ _ hk, heap_setCell_other _ _ _ _ hk]⟩
  have hlt : g < w.heap.size := (Array.getElem?_eq_some_iff.1 hg).1
  exact ⟨⟨ac, nc, cc, p + 1, IntKind.u64.wrap z, h2, hnc, by omega, by rw [IntKind.wrap_u64]; omega, by rw [IntKind.wrap_u64]; omega, hby.chg (by omega) hc (fun k hk e => by omega)⟩, hc⟩
theorem Cur.drew {w g A} (h : Cur w g A) : Cur w.drew g A := h
theorem Chg.drew {S : Nat → Prop} {w w' : World} (h : Chg S w w') : Chg S w w'.drew := ⟨h.os, h.tape, h.output, h.size, h.block⟩

set_option maxHeartbeats 1600000 in
set_option maxRecDepth 100000 in
theorem next_any (w : World) (g A : Nat) (h : Cur w g A) (hA : A ≤ 1000000000) :
    Calls Tryz.prog 84 #[.pointer (some ⟨g, 0, none⟩)] w fun e w' => ∃ b : Nat, b ≤ 255 ∧ e = .returned (.int .i64 b) ∧ Cur w' g (A + 1) ∧ Chg (fun k => k = g) w w' := by
  obtain ⟨ac, nc, cc, p, q, hg, hnc, hp, hq0, hq1, hby⟩ := h
  have c0 : w.cell? ⟨g, 0, none⟩ = some (.slice ac nc cc) := by simp [World.cell?, hg]
  have c1 : w.cell? ⟨g, 1, none⟩ = some (.int .i64 p) := by simp [World.cell?, hg]
  have c2 : w.cell? ⟨g, 2, none⟩ = some (.int .u64 q) := by simp [World.cell?, hg]
  have f1 : w.frozen? ⟨g, 1, none⟩ = false := by simp [World.frozen?, hg]
  have f2 : w.frozen? ⟨g, 2, none⟩ = false := by simp [World.frozen?, hg]
  have hnc8 : (nc : Int) ≤ 1048576 := by omega
  have hp8 : (p : Int) ≤ 1000000000 := by omega
  have Hg := Lib.hid hg; clear hg
  by_cases hlt : p < nc
  · obtain ⟨b, o, rfl, hb, hi⟩ := hby p hlt
    obtain ⟨v, hv, hcell⟩ := hi p hlt
    have hv8 : (v : Int) ≤ 255 := by omega
    have Hby := Lib.hid hby; clear hby
    have Hi := Lib.hid hi; clear hi
    go_enter Tryz.func84, Tryz.ntmps84
    go_wp2
    go_region
    go_wp2
    go_region
    go_wp2
    go_region
    go_wp2
    go_ret
    exact ⟨v, hv, rfl, (cur_step Hg.out hnc hp Hby.out).1, (cur_step Hg.out hnc hp Hby.out).2.drew.drew.drew⟩
  · have hr := fun z => rnd z
    have Hr := Lib.hid hr; clear hr
    go_enter Tryz.func84, Tryz.ntmps84
    go_wp2
    go_region
    go_wp2
    go_region
    go_wp2
    go_ret
    obtain ⟨b, hb, e⟩ := Hr.out (IntKind.u64.wrap (IntKind.u64.wrap (q * 6364136223846793005)) + 1442695040888963407)
    exact ⟨b, hb, retI e, (cur_step Hg.out hnc hp hby).1, (cur_step Hg.out hnc hp hby).2.drew.drew⟩

/-- some number from 0 to n - 1 -/
theorem pick_any (n : Nat) (w : World) (g A : Nat) (h : Cur w g A) (hA : A ≤ 900000000) (hn : 1 ≤ n) (hn2 : n ≤ 1048576) :
    Calls Tryz.prog 53 #[.pointer (some ⟨g, 0, none⟩), .int .i64 n] w fun e w' => ∃ b : Nat, b < n ∧ e = .returned (.int .i64 b) ∧ Cur w' g (A + 2) ∧ Chg (fun k => k = g) w w' := by
  have hn8 : (n : Int) ≤ 1048576 := by omega
  by_cases h1 : n = 1
  · subst h1
    go_enter Tryz.func53, Tryz.ntmps53
    go_wp2
    go_ret
    exact ⟨0, by omega, rfl, h.le (by omega), Chg.refl _ _⟩
  · have hlt : ¬ (n : Int) ≤ 1 := by omega
    have hcon := fun W B hW hB => next_any W g B hW hB
    by_cases h2 : 200 < n
    · have Hcon := Lib.hid hcon; clear hcon
      go_enter Tryz.func53, Tryz.ntmps53
      go_wp2_with fail
      with_reducible refine (Hcon.out w A h (by omega)).mono ?_
      rintro e w1 ⟨b1, hb1, rfl, hc1, hg1⟩
      have hb18 : (b1 : Int) ≤ 255 := by omega
      go_wp2_with fail
      with_reducible refine (Hcon.out w1 (A + 1) hc1 (by omega)).mono ?_
      rintro e w2 ⟨b2, hb2, rfl, hc2, hg2⟩
      have hb28 : (b2 : Int) ≤ 255 := by omega
      go_wp2
      go_ret
      exact ⟨(b1 * 256 + b2) % n, Nat.mod_lt _ (by omega), retI (by rw [Int.natCast_emod, Int.natCast_add, Int.natCast_mul]; rfl), hc2, hg1.trans hg2⟩
    · have Hcon := Lib.hid hcon; clear hcon
      go_enter Tryz.func53, Tryz.ntmps53
      go_wp2_with fail
      with_reducible refine (Hcon.out w A h (by omega)).mono ?_
      rintro e w1 ⟨b1, hb1, rfl, hc1, hg1⟩
      have hb18 : (b1 : Int) ≤ 255 := by omega
      go_wp2
      go_ret
      exact ⟨b1 % n, Nat.mod_lt _ (by omega), retI (Int.natCast_emod b1 n).symm, hc1.le (by omega), hg1⟩

theorem one_any (n : Nat) (w : World) (g A : Nat) (h : Cur w g A) (hA : A ≤ 900000000) (hn : 1 ≤ n) (hn2 : n ≤ 1048576) :
    Calls Tryz.prog 34 #[.pointer (some ⟨g, 0, none⟩), .int .i64 n] w fun e w' => ∃ t : Bool, e = .returned (.bool t) ∧ Cur w' g (A + 2) ∧ Chg (fun k => k = g) w w' := by
  have hcon := pick_any n w g A h hA hn hn2
  have Hcon := Lib.hid hcon; clear hcon
  go_enter Tryz.func34, Tryz.ntmps34
  go_wp2_with fail
  with_reducible refine (Hcon.out).mono ?_
  rintro e w1 ⟨b1, hb1, rfl, hc1, hg1⟩
  go_wp2
  go_ret
  exact ⟨_, rfl, hc1, hg1⟩

theorem among_any (n cap : Nat) (ao : Option Addr) (xs : List Int) (w : World) (g A : Nat) (hx : IntsAt w ao n cap xs) (hag : ∀ b o, ao = some ⟨b, o, none⟩ → b ≠ g) (h : Cur w g A) (hA : A ≤ 900000000) (hn : 1 ≤ n) (hn2 : n ≤ 1048576) :
    Calls Tryz.prog 54 #[.pointer (some ⟨g, 0, none⟩), .slice ao n cap] w fun e w' => ∃ i : Nat, i < n ∧ e = .returned (.int .i64 (xs.getD i 0)) ∧ Cur w' g (A + 2) ∧ Chg (fun k => k = g) w w' := by
  have hcon := pick_any n w g A h hA hn hn2
  have hn8 : (n : Int) ≤ 1048576 := by omega
  have Hcon := Lib.hid hcon; clear hcon
  go_enter Tryz.func54, Tryz.ntmps54
  go_wp2_with fail
  with_reducible refine (Hcon.out).mono ?_
  rintro e w1 ⟨i, hi, rfl, hc1, hg1⟩
  obtain ⟨b, o, rfl, hb, hc⟩ := (hx.chg hg1 (fun b o e => hag b o e)).cell i hi
  have hci := hc i hi
  clear hc
  go_wp2
  go_ret
  exact ⟨i, hi, rfl, hc1, hg1⟩

theorem mem_of_getD {xs : List Int} {i : Nat} (h : i < xs.length) : xs.getD i 0 ∈ xs := by
  rw [List.getD_eq_getElem?_getD, List.getElem?_eq_getElem h]; exact List.getElem_mem h
/-- a row that was just laid -/
theorem intsAt_new (w : World) (xs : List Int) (hm : xs.length ≤ maxLen) : IntsAt (w.alloc (.cells (xs.map (Value.int .i64)).toArray 3)) (some ⟨w.heap.size, 0, none⟩) xs.length xs.length xs := by
  refine ⟨rfl, Nat.le_refl _, hm, (fun e => by cases e), fun j hj => ⟨w.heap.size, 0, rfl, by simp, fun i hi => ?_⟩⟩
  rw [World.cell?_alloc_at _ _ _ _ rfl, Nat.zero_add, List.getElem?_toArray, List.getElem?_map, List.getElem?_eq_getElem hi, List.getD_eq_getElem?_getD, List.getElem?_eq_getElem hi]
  rfl
theorem Chg.allocFirst {S : Nat → Prop} {w w' : World} {o : Obj} (h : Chg S (w.alloc o) w') : Chg S w w' :=
  ⟨h.os, h.tape, h.output, Nat.le_trans (by simp) h.size, fun k hk hs => by rw [h.block k (by simp; omega) hs]; exact Below.heap_alloc _ _ _ hk⟩

/-- the cursor that a draw makes -/
theorem cur_new (w : World) (ac : Option Addr) (nc cc : Nat) (hnc : nc ≤ 1048576) (hby : ByteIn w w.heap.size ac nc) :
    Cur (w.alloc (.cells #[.slice ac nc cc, .int .i64 0, .int .u64 0] 51)) w.heap.size 0 :=
  ⟨ac, nc, cc, 0, 0, heap_alloc_new w _, hnc, Nat.le_refl _, by omega, by omega, hby.chg (S := fun _ => False) (Nat.le_refl _) (Chg.ofBelow ((Below.refl _ _).alloc (Nat.le_refl _) _)) (fun _ _ h => h)⟩
/-- what a draw changes is new -/
theorem Chg.drawn {w w' : World} {o : Obj} (h : Chg (fun k => k = w.heap.size) (w.alloc o) w') : Below w.heap.size w w' :=
  h.allocFirst.below (Nat.le_refl _) (fun k hk => by omega)

end
end Go.Proofs.YtimmjimeldejjaaGreatDoor
namespace Go.Proofs.YtimmjimeldejjaaGreatDoor
section
open Go.RowKit
set_option linter.unusedVariables false
set_option linter.unusedSimpArgs false

/-- what is new does not count as changed -/
theorem Chg.newer {S T : Nat → Prop} {w w' w2 : World} (h : Chg S w w') (k : Chg T w' w2) (ht : ∀ k, T k → w.heap.size ≤ k) : Chg S w w2 :=
  ⟨k.os.trans h.os, k.tape.trans h.tape, k.output.trans h.output, Nat.le_trans h.size k.size, fun i hi hs => (k.block i (Nat.lt_of_lt_of_le hi h.size) (fun e => by have := ht i e; omega)).trans (h.block i hi hs)⟩
/-- numbers near piles -/
def Near (xs : List Int) : Prop := xs.length ≤ 29 ∧ ∀ x ∈ xs, -1 ≤ x ∧ x ≤ 31
def Pos (xs : List Int) : Prop := ∀ x ∈ xs, 1 ≤ x ∧ x ≤ 28
theorem pos_snoc {xs : List Int} {x : Int} (h : Pos xs) (h1 : 1 ≤ x) (h2 : x ≤ 28) : Pos (xs ++ [x]) := fun y hy => by
  rcases List.mem_append.1 hy with h' | h'
  · exact h y h'
  · rw [List.mem_singleton.1 h']; exact ⟨h1, h2⟩
theorem Pos.near {xs : List Int} (h : Pos xs) (hl : xs.length ≤ 28) : Near xs := ⟨by omega, fun x hx => by have := h x hx; omega⟩

set_option maxHeartbeats 1600000 in
set_option maxRecDepth 100000 in
theorem drawPiles_any (most : Nat) (w : World) (g A : Nat) (h : Cur w g A) (hA : A ≤ 800000000) (hm : most ≤ 28) :
    Calls Tryz.prog 52 #[.pointer (some ⟨g, 0, none⟩), .int .i64 most] w fun e w' => ∃ ao n cap xs, e = .returned (.slice ao n cap) ∧ Own w.heap.size w'.heap.size w' ao n cap xs ∧ n ≤ most ∧ Pos xs ∧ Cur w' g (A + 200) ∧ Chg (fun k => k = g) w w' := by
  have hcon := pick_any (most + 1) w g A h (by omega) (by omega) (by omega)
  simp only [show ((most + 1 : Nat) : Int) = (most : Int) + 1 from rfl] at hcon
  have hm8 : (most : Int) ≤ 28 := by omega
  have hg := h.lt
  have Hcon := Lib.hid hcon; clear hcon
  go_enter Tryz.func52, Tryz.ntmps52
  go_wp2_with fail
  with_reducible refine (Hcon.out).mono ?_
  rintro e w1 ⟨N, hN, rfl, hc1, hg1⟩
  clear Hcon
  go_wp2
  go_loopw [5, 6, 7] (fun v i l wr => ∃ (k m L : Nat) (a : Option Addr) (c : Nat) (xs : List Int), v = .slice a k c ∧ i = .int .i64 m ∧ l = .int .i64 L ∧ k + m ≤ N ∧ (0 < m → 1 ≤ L) ∧ L ≤ 28 ∧ Pos xs ∧ Own w.heap.size wr.heap.size wr a k c xs ∧ Cur wr g (A + 2 + 6 * k) ∧ Chg (fun k => k = g) w wr) (fun _ i _ _ => (intOf i).toNat)
  case atStart => exact ⟨0, N, N, none, 0, [], rfl, rfl, rfl, by omega, by omega, by omega, (fun x hx => by cases hx), Own.nil _ _ _, hc1, hg1⟩
  case round =>
    obtain ⟨k, m, L, a, c, xs, rfl, rfl, rfl, hkm, hL1, hL, hpos, ho, hc, hgw⟩ := hrel
    clear hc1 hg1
    by_cases hz : m = 0
    · subst hz
      go_wp2
      go_ret
      exact ⟨a, k, c, xs, rfl, ho, by omega, hpos, hc.le (by omega), hgw⟩
    · have hL1 := hL1 (by omega)
      have hleast := l1Least_any (m : Int) (L : Int) wr
      rw [show min (m : Int) (L : Int) = ((min m L : Nat) : Int) by omega] at hleast
      have hp1 := pick_any (min m L) wr g _ hc (by omega) (by omega) (by omega)
      have hone := fun W hW => one_any 3 W g (A + 2 + 6 * k + 2) hW (by omega) (by omega) (by omega)
      simp only [show ((3 : Nat) : Int) = 3 from rfl] at hone
      have hp3 := fun W hW => pick_any 3 W g (A + 2 + 6 * k + 4) hW (by omega) (by omega) (by omega)
      simp only [show ((3 : Nat) : Int) = 3 from rfl] at hp3
      have hfin : ∀ (W : World) (x : Nat), 1 ≤ x → x ≤ m → x ≤ 28 → Chg (fun k => k = g) wr W → Cur W g (A + 2 + 6 * k + 6) → ∀ (a' : Option Addr) (c' : Nat) (w' : World), Own w.heap.size w'.heap.size w' a' (k + 1) c' (xs ++ [(x : Int)]) → Chg (fun j => (Value.slice a k c).ownBlock = some j) W w' →
          (k + 1) + (m - x) ≤ N ∧ Pos (xs ++ [(x : Int)]) ∧ Cur w' g (A + 2 + 6 * (k + 1)) ∧ Chg (fun k => k = g) w w' := by
        intro W x h1 h2 h3 hW hcW a' c' w' ho' hc'
        have hnew : ∀ j, (Value.slice a k c).ownBlock = some j → w.heap.size ≤ j := fun j hj => (ho.1.lt j hj).1
        exact ⟨by omega, pos_snoc hpos (by omega) (by omega), (hcW.chg hc' (fun j hj e => by have := hnew j e; omega)).le (by omega), (hgw.trans hW).newer hc' hnew⟩
      have hown : ∀ W : World, Chg (fun k => k = g) wr W → Own w.heap.size wr.heap.size W a k c xs := fun W hW => ho.chg hW (fun j h1 _ _ e => by omega)
      have hsz : ∀ W : World, Chg (fun k => k = g) wr W → w.heap.size ≤ W.heap.size := fun W hW => Nat.le_trans hgw.size hW.size
      have Hleast := Lib.hid hleast; clear hleast
      have Hp1 := Lib.hid hp1; clear hp1
      have Hone := Lib.hid hone; clear hone
      have Hp3 := Lib.hid hp3; clear hp3
      have Hfin := Lib.hid hfin; clear hfin
      have Hown := Lib.hid hown; clear hown
      have Hsz := Lib.hid hsz; clear hsz
      clear ho hc hgw
      have hk8 : (k : Int) ≤ 28 := by omega
      have hm2 : (m : Int) ≤ 28 := by omega
      have hm3 : (0 : Int) < m := by omega
      have hL8 : (L : Int) ≤ 28 := by omega
      go_wp2_with fail
      with_reducible refine (Hleast.out).mono ?_
      rintro e w' ⟨rfl, rfl⟩
      go_wp2_with fail
      with_reducible refine (Hp1.out).mono ?_
      rintro e w2 ⟨b, hb, rfl, hc2, hg2⟩
      have hb8 : (b : Int) < 28 := by omega
      go_wp2_with fail
      with_reducible refine (Hone.out w2 hc2).mono ?_
      rintro e w3 ⟨t, rfl, hc3, hg3⟩
      have hg23 := hg2.trans hg3
      clear hc2 hg2 hg3
      cases t
      · have ho3 := Hown.out w3 hg23
        have hs3 := Hsz.out w3 hg23
        go_wp2_with (at_builtin; refine wpList_push w3 rfl _ _ rfl w.heap.size _ a k c _ rfl ho3 _ rfl (by omega) hs3 ?_)
        intro a' c' w' ho' hch'
        rw [show (1 : Int) + (b : Int) = ((1 + b : Nat) : Int) by omega] at ho'
        have hf := Hfin.out w3 (1 + b) (by omega) (by omega) (by omega) hg23 (hc3.le (by omega)) a' c' w' ho' hch'
        have Hf := Lib.hid hf; clear hf
        have Ho' := Lib.hid ho'; clear ho'
        clear ho3 hs3 hch' hg23 hc3
        go_wp2
        go_roundw
        case rel => exact ⟨k + 1, m - (1 + b), 1 + b, a', c', _, rfl, valI (by omega), valI (by omega), Hf.out.1, fun _ => by omega, by omega, Hf.out.2.1, Ho'.out, Hf.out.2.2.1, Hf.out.2.2.2⟩
        case measure => simp [intOf]; omega
      · go_wp2_with fail
        with_reducible refine (Hp3.out w3 hc3).mono ?_
        rintro e w4 ⟨b3, hb3, rfl, hc4, hg4⟩
        have hg24 := hg23.trans hg4
        have hb38 : (b3 : Int) < 3 := by omega
        clear hc3 hg23 hg4
        go_wp2_with fail
        with_reducible refine (l1Least_any _ _ _).mono ?_
        rintro e w' ⟨rfl, rfl⟩
        go_wp2_with fail
        with_reducible refine (l1Least_any _ _ _).mono ?_
        rintro e w' ⟨rfl, rfl⟩
        rw [show min (m : Int) (min (L : Int) (1 + (b3 : Int))) = ((min m (min L (1 + b3)) : Nat) : Int) by omega]
        generalize hX : min m (min L (1 + b3)) = X
        have hX1 : 1 ≤ X := by omega
        have hX2 : X ≤ m := by omega
        have hX8 : (X : Int) ≤ 28 := by omega
        have ho3 := Hown.out w4 hg24
        have hs3 := Hsz.out w4 hg24
        go_wp2_with (at_builtin; refine wpList_push w4 rfl _ _ rfl w.heap.size _ a k c _ rfl ho3 _ rfl (by omega) hs3 ?_)
        intro a' c' w' ho' hch'
        have hf := Hfin.out w4 X (by omega) (by omega) (by omega) hg24 (hc4.le (by omega)) a' c' w' ho' hch'
        have Hf := Lib.hid hf; clear hf
        have Ho' := Lib.hid ho'; clear ho'
        clear ho3 hs3 hch' hg24 hc4
        go_wp2
        go_roundw
        case rel => exact ⟨k + 1, m - X, X, a', c', _, rfl, valI (by omega), rfl, Hf.out.1, fun _ => by omega, by omega, Hf.out.2.1, Ho'.out, Hf.out.2.2.1, Hf.out.2.2.2⟩
        case measure => simp [intOf]; omega

end
end Go.Proofs.YtimmjimeldejjaaGreatDoor
