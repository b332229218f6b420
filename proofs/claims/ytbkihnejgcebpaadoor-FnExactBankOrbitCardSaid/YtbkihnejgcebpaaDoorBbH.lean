/- Slices of bank states that can be read; the laws' comparison of two. No condition but sizes. -/
import Derived.Test.YtbkihnejgcebpaaDoorBaL
import Derived.Deep.RegionLaw
namespace Go.Proofs.YtbkihnejgcebpaaDoor
open Go.RowKit
set_option linter.unusedVariables false
set_option linter.unusedSimpArgs false
set_option maxRecDepth 20000

theorem IntsAt.drewB {w a n c xs} (h : IntsAt w a n c xs) : IntsAt w.drew a n c xs := ⟨h.length, h.le, h.max, h.isNil, h.cell⟩
def noBank : Bk := ⟨0, 0, []⟩
/-- a slice of bank states that can be read: three cells each -/
structure BanksAt (w : World) (ao : Option Addr) (n cap : Nat) (bs : List Bk) : Prop where
  length : bs.length = n
  le : n ≤ cap
  max : cap ≤ maxLen
  cell : 0 < n → ∃ b o, ao = some ⟨b, o, none⟩ ∧ b < w.heap.size ∧ ∀ i, i < n → ∃ a m c, w.cell? ⟨b, o + i * 3, none⟩ = some (.int .i64 (bs.getD i noBank).h) ∧ w.cell? ⟨b, o + i * 3 + 1, none⟩ = some (.int .i64 (bs.getD i noBank).l) ∧ w.cell? ⟨b, o + i * 3 + 2, none⟩ = some (.slice a m c) ∧ IntsAt w a m c (bs.getD i noBank).p
theorem BanksAt.lenInt {w ao n cap xs} (h : BanksAt w ao n cap xs) : (n : Int) ≤ 9223372036854775807 := maxLen_le (Nat.le_trans h.le h.max)
theorem BanksAt.keep {w w' ao n cap bs} (h : BanksAt w ao n cap bs) (hb : Below w.heap.size w w') : BanksAt w' ao n cap bs := by
  refine ⟨h.length, h.le, h.max, fun hn => ?_⟩
  obtain ⟨b, o, e, hlt, hc⟩ := h.cell hn
  refine ⟨b, o, e, Nat.lt_of_lt_of_le hlt hb.size, fun i hi => ?_⟩
  obtain ⟨a, m, c, c0, c1, c2, hI⟩ := hc i hi
  refine ⟨a, m, c, ?_, ?_, ?_, hI.keep hb⟩
  · rw [hb.cell (p := ⟨b, o + i * 3, none⟩) hlt]; exact c0
  · rw [hb.cell (p := ⟨b, o + i * 3 + 1, none⟩) hlt]; exact c1
  · rw [hb.cell (p := ⟨b, o + i * 3 + 2, none⟩) hlt]; exact c2

set_option maxHeartbeats 1600000 in
set_option maxRecDepth 100000 in
theorem eqBankS_any (a a' : Option Addr) (n c c' : Nat) (bs : List Bk) (w : World) (hA : BanksAt w a n c bs) (hB : BanksAt w a' n c' bs) :
    Calls Tryd.prog 16 #[.slice a n c, .slice a' n c'] w fun e w' => e = .returned (.bool true) ∧ Below w.heap.size w w' := by
  have hn := hA.lenInt
  have HA := Lib.hid hA
  have HB := Lib.hid hB
  clear hA hB
  go_enter Tryd.func16, Tryd.ntmps16
  go_wp2
  go_loopw [5] (fun i wr => ∃ k : Nat, k ≤ n ∧ i = .int .i64 k ∧ Below w.heap.size w wr) (fun i _ => n - (intOf i).toNat)
  case atStart => exact ⟨0, Nat.zero_le _, rfl, Below.refl _ _⟩
  case round =>
    obtain ⟨k, hk, rfl, hb⟩ := hrel
    by_cases hlt : k < n
    · obtain ⟨b1, o1, rfl, -, hc1⟩ := (HA.out.keep hb).cell (by omega)
      obtain ⟨b2, o2, rfl, -, hc2⟩ := (HB.out.keep hb).cell (by omega)
      obtain ⟨a1, m1, d1, x0, x1, x2, hI1⟩ := hc1 k hlt
      obtain ⟨a2, m2, d2, y0, y1, y2, hI2⟩ := hc2 k hlt
      clear hc1 hc2
      generalize bs.getD k noBank = B at *
      obtain ⟨h, l, p⟩ := B
      simp only at x0 x1 x2 y0 y1 y2 hI1 hI2
      have hcon := eqBankL h l h l a1 a2 m1 m2 d1 d2 p p wr.drew hI1.drewB hI2.drewB ⟨rfl, rfl, rfl⟩
      have hlti : (k : Int) < n := by omega
      clear hI1 hI2
      have Hcon := Lib.hid hcon; clear hcon
      go_wp2_with fail
      go_region_law (first | (go_simp; with_reducible refine (Hcon.out).mono ?_; rintro e w3 ⟨rfl, hb3⟩; have Hb3 := Lib.hid (belowTrans hb.drew hb3 (Nat.le_refl _)); clear hb3))
      all_goals
        go_wp2
        go_roundw
        case rel => exact ⟨k + 1, by omega, by go_num, Hb3.out⟩
        case measure => simp [intOf] <;> omega
    · obtain rfl : n = k := by omega
      go_wp2
      go_ret
      exact ⟨rfl, hb⟩

/-! ### What was marked is held -/
/-- bank states that are marked from a number on -/
def marksBk (k : Int) : List Nat → List Bk
  | [] => []
  | m :: ls => ⟨k, k + 1, marks (k + 1 + 1) m⟩ :: marksBk (k + 1 + 1 + m) ls
def plus2 (ls : List Nat) : List Nat := ls.map (· + 2)
theorem marksBk_length (k : Int) (ls : List Nat) : (marksBk k ls).length = ls.length := by
  induction ls generalizing k with
  | nil => rfl
  | cons m ls ih => simp [marksBk, ih]
theorem marksBk_getD (k : Int) (ls : List Nat) (j : Nat) (hj : j < ls.length) :
    (marksBk k ls).getD j noBank = ⟨k + (((plus2 ls).take j).sum : Nat), k + (((plus2 ls).take j).sum : Nat) + 1, marks (k + (((plus2 ls).take j).sum : Nat) + 1 + 1) (ls.getD j 0)⟩ := by
  induction ls generalizing k j with
  | nil => simp at hj
  | cons m ls ih =>
    cases j with
    | zero => simp [marksBk, plus2]
    | succ j =>
      have := ih (k + 1 + 1 + m) j (by simpa using hj)
      simp only [marksBk, List.getD_cons_succ, this, plus2, List.map_cons, List.take_succ_cons, List.sum_cons]
      have e : k + 1 + 1 + (m : Int) + ((((ls.map (· + 2)).take j).sum : Nat) : Int) = k + ((m + 2 + ((ls.map (· + 2)).take j).sum : Nat) : Int) := by omega
      rw [e]

set_option maxHeartbeats 1600000 in
set_option maxRecDepth 100000 in
theorem heldBankS_any (ao : Option Addr) (n cap : Nat) (ls : List Nat) (k : Int) (w : World) (h : BanksAt w ao n cap (marksBk k ls)) (hn : n ≤ 1048576) (ht : (plus2 ls).sum ≤ 1048576) (hk0 : 0 ≤ k) (hk1 : k ≤ 1048576) :
    Calls Tryd.prog 18 #[.slice ao n cap, .int .i64 k] w fun e w' => e = .returned (.int .i64 (k + ((plus2 ls).sum : Nat))) ∧ w = w' := by
  have hn' : (n : Int) ≤ 1048576 := by omega
  have hl := h.length
  rw [marksBk_length] at hl
  have hl2 : (plus2 ls).length = n := by simp [plus2, hl]
  have Hl := Lib.hid hl; clear hl
  have Hl2 := Lib.hid hl2; clear hl2
  go_enter Tryd.func18, Tryd.ntmps18
  go_wp2
  go_loop [1, 5] (fun q i => ∃ j : Nat, j ≤ n ∧ i = .int .i64 j ∧ q = .int .i64 (k + (((plus2 ls).take j).sum : Nat)))
    (fun _ i => n - (intOf i).toNat)
  case atStart => exact ⟨0, Nat.zero_le _, rfl, by simp⟩
  case round =>
    obtain ⟨j, hj, rfl, rfl⟩ := hrel
    by_cases hlt : j < n
    · obtain ⟨b, o, rfl, hb', hc⟩ := h.cell (by omega)
      obtain ⟨a, m, c, x0, x1, x2, hi⟩ := hc j hlt
      rw [marksBk_getD k ls j (by rw [Hl.out]; exact hlt)] at x0 x1 hi
      simp only at x0 x1 hi
      have hsum := sum_take_le (plus2 ls) j
      have hstep := sum_take_succ (plus2 ls) j (by rw [Hl2.out]; exact hlt)
      have hm : ls.getD j 0 = m := by have := hi.length; rwa [marks_length] at this
      have hm2 : (plus2 ls).getD j 0 = m + 2 := by
        rw [← hm, plus2, List.getD_eq_getElem?_getD, List.getD_eq_getElem?_getD, List.getElem?_map, List.getElem?_eq_getElem (by rw [Hl.out]; exact hlt)]; rfl
      have hsum1 := sum_take_le (plus2 ls) (j + 1)
      rw [hm] at hi
      rw [hm2] at hstep
      generalize hS : ((plus2 ls).take j).sum = S at *
      generalize hS1 : ((plus2 ls).take (j + 1)).sum = S1 at *
      have hcon := heldIntS_any a m c (k + (S : Int) + 1 + 1) w hi (by omega) (by omega) (by omega)
      have hge : ¬ (k + (S : Int) + 1 + 1 + m < 0) := by omega
      have hb1 : k + (S : Int) + 1 ≤ 4194304 := by omega
      have Hcon := Lib.hid hcon; clear hcon
      have Hstep := Lib.hid hstep; clear hstep
      have HS := Lib.hid hS; clear hS
      have HS1 := Lib.hid hS1; clear hS1
      have Hm := Lib.hid hm; clear hm
      have Hm2 := Lib.hid hm2; clear hm2
      have Hi := Lib.hid hi; clear hi
      clear hc hsum1 h
      go_wp2_with (go_at_call 34; refine (Hcon.out).mono ?_; rintro e w1 ⟨rfl, rfl⟩)
      have e2 := Hstep.out
      go_round
      case rel =>
        refine ⟨j + 1, by omega, by go_num, ?_⟩
        rw [HS1.out, e2]; go_num
      case measure => simp [intOf]; omega
    · go_wp2
      go_ret
      obtain rfl : n = j := by omega
      refine ⟨?_, rfl⟩
      rw [List.take_of_length_le (by rw [Hl2.out]; exact Nat.le_refl _)] <;> rfl
end Go.Proofs.YtbkihnejgcebpaaDoor
