/- The draws of FnAllBanks. No condition but a size. -/
import Derived.Test.YtnebfojnbjbogaaGreatDoorDbC
namespace Go.Proofs.YtnebfojnbjbogaaGreatDoor
open Go.RowKit
set_option linter.unusedVariables false
set_option linter.unusedSimpArgs false
set_option maxRecDepth 20000

theorem DrawAllBanks_any (ac : Option Addr) (nc cc : Nat) (w : World) (hnc : nc ≤ 1048576) (hby : ByteIn w w.heap.size ac nc) :
    Calls Tryz.prog 11 #[.slice ac nc cc] w fun e w' => ∃ m k : Int, e = .returned (.tuple #[.int .i64 m, .int .i64 k]) ∧ Below w.heap.size w w' := by
  have hcon := amongNew_any [1, 2, 3, 4, 10, 11, 0] _ _ 0 (cur_new w ac nc cc hnc hby) (by omega) (by simp) (by simp)
  have hst := fun W hW => amongNew_any [0, 1, 4, 7, 10, 14, 15, -1] W w.heap.size 2 hW (by omega) (by simp) (by simp)
  simp only [List.map_cons, List.map_nil, List.length_cons, List.length_nil, Nat.reduceAdd] at hcon hst
  have hsz : (w.alloc (.cells #[.slice ac nc cc, .int .i64 0, .int .u64 0] 53)).heap.size = w.heap.size + 1 := by simp
  rw [hsz] at hcon
  have Hcon := Lib.hid hcon; clear hcon
  have Hby := Lib.hid hby; clear hby
  have Hst := Lib.hid hst; clear hst
  go_enter Tryz.func11, Tryz.ntmps11
  go_wp2_with fail
  with_reducible refine (Hcon.out).mono ?_
  rintro e w1 ⟨m, hm, rfl, hc, hg⟩
  have hlt := hc.lt
  clear hm
  go_wp2_with fail
  with_reducible refine (Hst.out w1 hc).mono ?_
  rintro e w2 ⟨k, hk, rfl, hc2, hg2⟩
  clear hk
  go_wp2
  go_ret2
  exact ⟨_, _, rfl, (hg.trans hg2).drawn⟩
theorem DrawCyclicBanks_any (ac : Option Addr) (nc cc : Nat) (w : World) (hnc : nc ≤ 1048576) (hby : ByteIn w w.heap.size ac nc) :
    Calls Tryz.prog 5 #[.slice ac nc cc] w fun e w' => ∃ m k : Int, e = .returned (.tuple #[.int .i64 m, .int .i64 k]) ∧ Below w.heap.size w w' := by
  have hcon := DrawAllBanks_any ac nc cc w hnc hby
  have Hcon := Lib.hid hcon; clear hcon
  have Hby := Lib.hid hby; clear hby
  go_enter Tryz.func5, Tryz.ntmps5
  go_wp2_with fail
  with_reducible refine (Hcon.out).mono ?_
  rintro e w1 ⟨m, k, rfl, hb⟩
  go_wp2
  go_ret2
  exact ⟨_, _, rfl, hb⟩
theorem DrawCountBanks_any (ac : Option Addr) (nc cc : Nat) (w : World) (hnc : nc ≤ 1048576) (hby : ByteIn w w.heap.size ac nc) :
    Calls Tryz.prog 15 #[.slice ac nc cc] w fun e w' => ∃ m k : Int, e = .returned (.tuple #[.int .i64 m, .int .i64 k]) ∧ Below w.heap.size w w' := by
  have hcon := DrawStartBank_any ac nc cc w hnc hby
  have Hcon := Lib.hid hcon; clear hcon
  have Hby := Lib.hid hby; clear hby
  go_enter Tryz.func15, Tryz.ntmps15
  go_wp2_with fail
  with_reducible refine (Hcon.out).mono ?_
  rintro e w1 ⟨m, k, rfl, hm, hk, hb⟩
  clear hm hk
  go_wp2
  go_ret2
  exact ⟨_, _, rfl, hb⟩
set_option maxRecDepth 100000 in
theorem xBanks_any (a a' : Option Addr) (n c c' : Nat) (bs : List Bk) (w : World) (hA : BanksAt w a n c bs) (hB : BanksAt w a' n c' bs) :
    Calls Tryz.prog 8 #[.slice a n c, .slice a' n c'] w fun e w' => e = .returned (.bool true) ∧ Below w.heap.size w w' := by
  have hn := hA.lenInt
  have HA := Lib.hid hA
  have HB := Lib.hid hB
  clear hA hB
  go_enter Tryz.func8, Tryz.ntmps8
  go_wp2
  go_loopw [13] (fun i wr => ∃ k : Nat, k ≤ n ∧ i = .int .i64 k ∧ Below w.heap.size w wr) (fun i _ => n - (intOf i).toNat)
  case atStart => exact ⟨0, Nat.zero_le _, rfl, Below.refl _ _⟩
  case round =>
    obtain ⟨k, hk, rfl, hb⟩ := hrel
    by_cases hlt : k < n
    · obtain ⟨b1, o1, rfl, -, hc1⟩ := (HA.out.keep hb).cell (by omega)
      obtain ⟨b2, o2, rfl, -, hc2⟩ := (HB.out.keep hb).cell (by omega)
      obtain ⟨a1, m1, d1, x0, x1, x2, hI1⟩ := hc1 k hlt
      obtain ⟨a2, m2, d2, y0, y1, y2, hI2⟩ := hc2 k hlt
      clear hc1 hc2
      generalize bs.getD k noBank = B at *
      obtain ⟨h, l, p⟩ := B
      simp only at x0 x1 x2 y0 y1 y2 hI1 hI2
      have hcon := xBank_any h l h l a1 a2 m1 m2 d1 d2 p p wr.drew hI1.drewB hI2.drewB
      rw [decide_eq_true rfl] at hcon
      have hlti : (k : Int) < n := by omega
      clear hI1 hI2
      have Hcon := Lib.hid hcon; clear hcon
      go_wp2_with fail
      go_region_law (first | (go_simp; with_reducible refine (Hcon.out).mono ?_; rintro e w3 ⟨rfl, hb3⟩; have Hb3 := Lib.hid (belowTrans hb.drew hb3 (Nat.le_refl _)); clear hb3))
      all_goals
        go_wp2
        go_roundw
        case rel => exact ⟨k + 1, by omega, by go_num, Hb3.out⟩
        case measure => simp [intOf] <;> omega
    · obtain rfl : n = k := by omega
      go_wp2
      go_ret
      exact ⟨rfl, hb⟩
end Go.Proofs.YtnebfojnbjbogaaGreatDoor
