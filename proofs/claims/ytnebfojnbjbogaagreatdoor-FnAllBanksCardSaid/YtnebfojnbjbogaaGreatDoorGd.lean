/- Several texts in one: Draw, DrawB, DrawC. No condition. -/
import Derived.Test.YtnebfojnbjbogaaGreatDoorPileA
import Derived.BigQuiet
import Derived.IntWalk
import Derived.Laws.Bits64b
import Derived.Laws.Rows
import Derived.Test.YtnebfojnbjbogaaGreatDoorGb
namespace Go.Proofs.YtnebfojnbjbogaaGreatDoor
section
open Go.RowKit
set_option linter.unusedVariables false
set_option linter.unusedSimpArgs false

/-- bytes that can be read, in a block below g -/
def ByteIn (w : World) (g : Nat) (ac : Option Addr) (nc : Nat) : Prop :=
  ∀ j, j < nc → ∃ b o, ac = some ⟨b, o, none⟩ ∧ b < g ∧ ∀ i, i < nc → ∃ v : Nat, v ≤ 255 ∧ w.cell? ⟨b, o + i, none⟩ = some (.int .u8 (v : Int))
theorem ByteIn.chg {S : Nat → Prop} {w w' g ac nc} (h : ByteIn w g ac nc) (hg : g ≤ w.heap.size) (hc : Chg S w w') (hs : ∀ k, k < g → ¬ S k) : ByteIn w' g ac nc := fun j hj => by
  obtain ⟨b, o, e, hb, hi⟩ := h j hj
  refine ⟨b, o, e, hb, fun i hi' => ?_⟩
  obtain ⟨v, hv, hcell⟩ := hi i hi'
  exact ⟨v, hv, by rw [World.cell?_of_block (a := ⟨b, o + i, none⟩) (hc.block b (by omega) (hs b hb))]; exact hcell⟩
/-- a cursor in block g: the code, at most A bytes of it passed, some seed -/
def Cur (w : World) (g A : Nat) : Prop :=
  ∃ (ac : Option Addr) (nc cc p : Nat) (q : Int), w.heap[g]? = some (.cells #[.slice ac nc cc, .int .i64 p, .int .u64 q] 53 (0, 0)) ∧ nc ≤ 1048576 ∧ p ≤ A ∧ 0 ≤ q ∧ q ≤ 18446744073709551615 ∧ ByteIn w g ac nc
theorem Cur.lt {w g A} (h : Cur w g A) : g < w.heap.size := by
  obtain ⟨_, _, _, _, _, hg, _⟩ := h
  exact (Array.getElem?_eq_some_iff.1 hg).1
theorem Cur.chg {S : Nat → Prop} {w w' g A} (h : Cur w g A) (hc : Chg S w w') (hs : ∀ k, k ≤ g → ¬ S k) : Cur w' g A := by
  have hlt := h.lt
  obtain ⟨ac, nc, cc, p, q, hg, h1, h2, h3, h4, h5⟩ := h
  exact ⟨ac, nc, cc, p, q, by rw [hc.block g hlt (hs g (Nat.le_refl _))]; exact hg, h1, h2, h3, h4, h5.chg (by omega) hc (fun k hk => hs k (by omega))⟩
theorem Cur.keep {w w' g A} (h : Cur w g A) (hb : Below w.heap.size w w') : Cur w' g A := h.chg (S := fun _ => False) (Chg.ofBelow hb) (fun _ _ h => h)
theorem Cur.le {w g A A'} (h : Cur w g A) (ha : A ≤ A') : Cur w g A' := by
  obtain ⟨ac, nc, cc, p, q, hg, h1, h2, h3⟩ := h
  exact ⟨ac, nc, cc, p, q, hg, h1, by omega, h3⟩

theorem rnd (z : Int) : ∃ b : Nat, b ≤ 255 ∧ wrap64 (bits .and .u64 (IntKind.u64.wrap z / 1099511627776) 255) = (b : Int) := by
  obtain ⟨n, hn, hlt⟩ : ∃ n : Nat, IntKind.u64.wrap z = (n : Int) ∧ n < 18446744073709551616 := ⟨(IntKind.u64.wrap z).toNat, by rw [IntKind.wrap_u64]; omega, by rw [IntKind.wrap_u64]; omega⟩
  have h2 := bits_and_u64_nat (n / 1099511627776) 255 (by omega) (by omega)
  have hle : (n / 1099511627776) &&& 255 ≤ 255 := Nat.and_le_right
  refine ⟨(n / 1099511627776) &&& 255, hle, ?_⟩
  rw [hn, show ((n : Int) / 1099511627776) = ((n / 1099511627776 : Nat) : Int) by omega]
  have h3 : bits .and .u64 ((n / 1099511627776 : Nat) : Int) 255 = (((n / 1099511627776) &&& 255 : Nat) : Int) := h2
  rw [h3]
  exact IntWalk.wrap64_in _ (by omega)
/-- the cursor behind one step -/
theorem cur_step {w : World} {g A : Nat} {ac : Option Addr} {nc cc p : Nat} {q z : Int} (hg : w.heap[g]? = some (.cells #[.slice ac nc cc, .int .i64 p, .int .u64 q] 53 (0, 0)))
    (hnc : nc ≤ 1048576) (hp : p ≤ A) (hby : ByteIn w g ac nc) :
    Cur ((w.setCell ⟨g, 1, none⟩ (.int .i64 ((p : Int) + 1))).setCell ⟨g, 2, none⟩ (.int .u64 (IntKind.u64.wrap z))) g (A + 1) ∧
      Chg (fun k => k = g) w ((w.setCell ⟨g, 1, none⟩ (.int .i64 ((p : Int) + 1))).setCell ⟨g, 2, none⟩ (.int .u64 (IntKind.u64.wrap z))) := by
  have h1 := heap_setCell_same w g 1 _ _ (.int .i64 ((p : Int) + 1)) hg
  have h2 := heap_setCell_same _ g 2 _ _ (.int .u64 (IntKind.u64.wrap z)) h1
  have hc : Chg (fun k => k = g) w ((w.setCell ⟨g, 1, none⟩ (.int .i64 ((p : Int) + 1))).setCell ⟨g, 2, none⟩ (.int .u64 (IntKind.u64.wrap z))) :=
    ⟨rfl, rfl, rfl, by simp, fun k _ hk => by rw [heap_setCell_other _ _ _ _ hk, heap_setCell_other _ _ _ _ hk]⟩
  have hlt : g < w.heap.size := (Array.getElem?_eq_some_iff.1 hg).1
  exact ⟨⟨ac, nc, cc, p + 1, IntKind.u64.wrap z, h2, hnc, by omega, by rw [IntKind.wrap_u64]; omega, by rw [IntKind.wrap_u64]; omega, hby.chg (by omega) hc (fun k hk e => by omega)⟩, hc⟩
theorem Cur.drew {w g A} (h : Cur w g A) : Cur w.drew g A := h
theorem Chg.drew {S : Nat → Prop} {w w' : World} (h : Chg S w w') : Chg S w w'.drew := ⟨h.os, h.tape, h.output, h.size, h.block⟩

set_option maxHeartbeats 1600000 in
set_option maxRecDepth 100000 in
theorem next_any (w : World) (g A : Nat) (h : Cur w g A) (hA : A ≤ 1000000000) :
    Calls Tryz.prog 64 #[.pointer (some ⟨g, 0, none⟩)] w fun e w' => ∃ b : Nat, b ≤ 255 ∧ e = .returned (.int .i64 b) ∧ Cur w' g (A + 1) ∧ Chg (fun k => k = g) w w' := by
  obtain ⟨ac, nc, cc, p, q, hg, hnc, hp, hq0, hq1, hby⟩ := h
  have c0 : w.cell? ⟨g, 0, none⟩ = some (.slice ac nc cc) := by simp [World.cell?, hg]
  have c1 : w.cell? ⟨g, 1, none⟩ = some (.int .i64 p) := by simp [World.cell?, hg]
  have c2 : w.cell? ⟨g, 2, none⟩ = some (.int .u64 q) := by simp [World.cell?, hg]
  have f1 : w.frozen? ⟨g, 1, none⟩ = false := by simp [World.frozen?, hg]
  have f2 : w.frozen? ⟨g, 2, none⟩ = false := by simp [World.frozen?, hg]
  have hnc8 : (nc : Int) ≤ 1048576 := by omega
  have hp8 : (p : Int) ≤ 1000000000 := by omega
  have Hg := Lib.hid hg; clear hg
  by_cases hlt : p < nc
  · obtain ⟨b, o, rfl, hb, hi⟩ := hby p hlt
    obtain ⟨v, hv, hcell⟩ := hi p hlt
    have hv8 : (v : Int) ≤ 255 := by omega
    have Hby := Lib.hid hby; clear hby
    have Hi := Lib.hid hi; clear hi
    go_enter Tryz.func64, Tryz.ntmps64
    go_wp2
    go_region
    go_wp2
    go_region
    go_wp2
    go_region
    go_wp2
    go_ret
    exact ⟨v, hv, rfl, (cur_step Hg.out hnc hp Hby.out).1, (cur_step Hg.out hnc hp Hby.out).2.drew.drew.drew⟩
  · have hr := fun z => rnd z
    have Hr := Lib.hid hr; clear hr
    go_enter Tryz.func64, Tryz.ntmps64
    go_wp2
    go_region
    go_wp2
    go_region
    go_wp2
    go_ret
    obtain ⟨b, hb, e⟩ := Hr.out (IntKind.u64.wrap (IntKind.u64.wrap (q * 6364136223846793005)) + 1442695040888963407)
    exact ⟨b, hb, retI e, (cur_step Hg.out hnc hp hby).1, (cur_step Hg.out hnc hp hby).2.drew.drew⟩

/-- some number from 0 to n - 1 -/
theorem pick_any (n : Nat) (w : World) (g A : Nat) (h : Cur w g A) (hA : A ≤ 900000000) (hn : 1 ≤ n) (hn2 : n ≤ 1048576) :
    Calls Tryz.prog 51 #[.pointer (some ⟨g, 0, none⟩), .int .i64 n] w fun e w' => ∃ b : Nat, b < n ∧ e = .returned (.int .i64 b) ∧ Cur w' g (A + 2) ∧ Chg (fun k => k = g) w w' := by
  have hn8 : (n : Int) ≤ 1048576 := by omega
  by_cases h1 : n = 1
  · subst h1
    go_enter Tryz.func51, Tryz.ntmps51
    go_wp2
    go_ret
    exact ⟨0, by omega, rfl, h.le (by omega), Chg.refl _ _⟩
  · have hlt : ¬ (n : Int) ≤ 1 := by omega
    have hcon := fun W B hW hB => next_any W g B hW hB
    by_cases h2 : 200 < n
    · have Hcon := Lib.hid hcon; clear hcon
      go_enter Tryz.func51, Tryz.ntmps51
      go_wp2_with fail
      with_reducible refine (Hcon.out w A h (by omega)).mono ?_
      rintro e w1 ⟨b1, hb1, rfl, hc1, hg1⟩
      have hb18 : (b1 : Int) ≤ 255 := by omega
      go_wp2_with fail
      with_reducible refine (Hcon.out w1 (A + 1) hc1 (by omega)).mono ?_
      rintro e w2 ⟨b2, hb2, rfl, hc2, hg2⟩
      have hb28 : (b2 : Int) ≤ 255 := by omega
      go_wp2
      go_ret
      exact ⟨(b1 * 256 + b2) % n, Nat.mod_lt _ (by omega), retI (by rw [Int.natCast_emod, Int.natCast_add, Int.natCast_mul]; rfl), hc2, hg1.trans hg2⟩
    · have Hcon := Lib.hid hcon; clear hcon
      go_enter Tryz.func51, Tryz.ntmps51
      go_wp2_with fail
      with_reducible refine (Hcon.out w A h (by omega)).mono ?_
      rintro e w1 ⟨b1, hb1, rfl, hc1, hg1⟩
      have hb18 : (b1 : Int) ≤ 255 := by omega
      go_wp2
      go_ret
      exact ⟨b1 % n, Nat.mod_lt _ (by omega), retI (Int.natCast_emod b1 n).symm, hc1.le (by omega), hg1⟩

theorem among_any (n cap : Nat) (ao : Option Addr) (xs : List Int) (w : World) (g A : Nat) (hx : IntsAt w ao n cap xs) (hag : ∀ b o, ao = some ⟨b, o, none⟩ → b ≠ g) (h : Cur w g A) (hA : A ≤ 900000000) (hn : 1 ≤ n) (hn2 : n ≤ 1048576) :
    Calls Tryz.prog 29 #[.pointer (some ⟨g, 0, none⟩), .slice ao n cap] w fun e w' => ∃ i : Nat, i < n ∧ e = .returned (.int .i64 (xs.getD i 0)) ∧ Cur w' g (A + 2) ∧ Chg (fun k => k = g) w w' := by
  have hcon := pick_any n w g A h hA hn hn2
  have hn8 : (n : Int) ≤ 1048576 := by omega
  have Hcon := Lib.hid hcon; clear hcon
  go_enter Tryz.func29, Tryz.ntmps29
  go_wp2_with fail
  with_reducible refine (Hcon.out).mono ?_
  rintro e w1 ⟨i, hi, rfl, hc1, hg1⟩
  obtain ⟨b, o, rfl, hb, hc⟩ := (hx.chg hg1 (fun b o e => hag b o e)).cell i hi
  have hci := hc i hi
  clear hc
  go_wp2
  go_ret
  exact ⟨i, hi, rfl, hc1, hg1⟩

theorem mem_of_getD {xs : List Int} {i : Nat} (h : i < xs.length) : xs.getD i 0 ∈ xs := by
  rw [List.getD_eq_getElem?_getD, List.getElem?_eq_getElem h]; exact List.getElem_mem h
/-- a row that was just laid -/
theorem intsAt_new (w : World) (xs : List Int) (hm : xs.length ≤ maxLen) : IntsAt (w.alloc (.cells (xs.map (Value.int .i64)).toArray 3)) (some ⟨w.heap.size, 0, none⟩) xs.length xs.length xs := by
  refine ⟨rfl, Nat.le_refl _, hm, (fun e => by cases e), fun j hj => ⟨w.heap.size, 0, rfl, by simp, fun i hi => ?_⟩⟩
  rw [World.cell?_alloc_at _ _ _ _ rfl, Nat.zero_add, List.getElem?_toArray, List.getElem?_map, List.getElem?_eq_getElem hi, List.getD_eq_getElem?_getD, List.getElem?_eq_getElem hi]
  rfl
theorem Chg.allocFirst {S : Nat → Prop} {w w' : World} {o : Obj} (h : Chg S (w.alloc o) w') : Chg S w w' :=
  ⟨h.os, h.tape, h.output, Nat.le_trans (by simp) h.size, fun k hk hs => by rw [h.block k (by simp; omega) hs]; exact Below.heap_alloc _ _ _ hk⟩

/-- the cursor that a draw makes -/
theorem cur_new (w : World) (ac : Option Addr) (nc cc : Nat) (hnc : nc ≤ 1048576) (hby : ByteIn w w.heap.size ac nc) :
    Cur (w.alloc (.cells #[.slice ac nc cc, .int .i64 0, .int .u64 0] 53)) w.heap.size 0 :=
  ⟨ac, nc, cc, 0, 0, heap_alloc_new w _, hnc, Nat.le_refl _, by omega, by omega, hby.chg (S := fun _ => False) (Nat.le_refl _) (Chg.ofBelow ((Below.refl _ _).alloc (Nat.le_refl _) _)) (fun _ _ h => h)⟩
/-- what a draw changes is new -/
theorem Chg.drawn {w w' : World} {o : Obj} (h : Chg (fun k => k = w.heap.size) (w.alloc o) w') : Below w.heap.size w w' :=
  h.allocFirst.below (Nat.le_refl _) (fun k hk => by omega)

end
end Go.Proofs.YtnebfojnbjbogaaGreatDoor
namespace Go.Proofs.YtnebfojnbjbogaaGreatDoor
section
open Go.RowKit
set_option linter.unusedVariables false
set_option linter.unusedSimpArgs false

/-- what is new does not count as changed -/
theorem Chg.newer {S T : Nat → Prop} {w w' w2 : World} (h : Chg S w w') (k : Chg T w' w2) (ht : ∀ k, T k → w.heap.size ≤ k) : Chg S w w2 :=
  ⟨k.os.trans h.os, k.tape.trans h.tape, k.output.trans h.output, Nat.le_trans h.size k.size, fun i hi hs => (k.block i (Nat.lt_of_lt_of_le hi h.size) (fun e => by have := ht i e; omega)).trans (h.block i hi hs)⟩
/-- numbers near piles -/
def Near (xs : List Int) : Prop := xs.length ≤ 29 ∧ ∀ x ∈ xs, -1 ≤ x ∧ x ≤ 31
theorem near_snoc {xs : List Int} {x : Int} (h : Near xs) (hl : xs.length ≤ 28) (h1 : -1 ≤ x) (h2 : x ≤ 31) : Near (xs ++ [x]) :=
  ⟨by simp; omega, fun y hy => by
    rcases List.mem_append.1 hy with h' | h'
    · exact h.2 y h'
    · rw [List.mem_singleton.1 h']; exact ⟨h1, h2⟩⟩
def Pos (xs : List Int) : Prop := ∀ x ∈ xs, 1 ≤ x ∧ x ≤ 28
theorem pos_snoc {xs : List Int} {x : Int} (h : Pos xs) (h1 : 1 ≤ x) (h2 : x ≤ 28) : Pos (xs ++ [x]) := fun y hy => by
  rcases List.mem_append.1 hy with h' | h'
  · exact h y h'
  · rw [List.mem_singleton.1 h']; exact ⟨h1, h2⟩
theorem Pos.near {xs : List Int} (h : Pos xs) (hl : xs.length ≤ 28) : Near xs := ⟨by omega, fun x hx => by have := h x hx; omega⟩

theorem near_set {xs : List Int} {x : Int} (h : Near xs) (i : Nat) (h1 : -1 ≤ x) (h2 : x ≤ 31) : Near (xs.set i x) :=
  ⟨by rw [List.length_set]; exact h.1, fun y hy => by
    rcases List.mem_or_eq_of_mem_set hy with h' | h'
    · exact h.2 y h'
    · rw [h']; exact ⟨h1, h2⟩⟩
theorem near_zeros (n : Nat) (h : n ≤ 29) : Near (List.replicate n 0) := ⟨by simpa using h, fun x hx => by rw [(List.mem_replicate.1 hx).2]; omega⟩

end
end Go.Proofs.YtnebfojnbjbogaaGreatDoor
namespace Go.Proofs.YtnebfojnbjbogaaGreatDoor
section
open Go.RowKit
set_option linter.unusedVariables false
set_option linter.unusedSimpArgs false

theorem curSize (w : World) (o : Obj) : w.heap.size ≤ (w.alloc o).heap.size := by simp

end
end Go.Proofs.YtnebfojnbjbogaaGreatDoor
