/- The draws of FnBankSteps, and two bank states alike. No condition but sizes. -/
import Derived.Test.YtnebfojnbjbogaaGreatDoorDbB
import Derived.Test.YtnebfojnbjbogaaGreatDoorRwL
import Derived.Test.YtnebfojnbjbogaaGreatDoorLawp
namespace Go.Proofs.YtnebfojnbjbogaaGreatDoor
open Go.RowKit
set_option linter.unusedVariables false
set_option linter.unusedSimpArgs false
set_option maxRecDepth 20000

theorem resFin {w0 wr : World} {R : Nat} {h l : Int} {a : Option Addr} {n c : Nat} {xs : List Int} (kR : Blk wr R 0 0 none 0 0 32) (ho : Own w0.heap.size wr.heap.size wr a n c xs) (hb : Below w0.heap.size w0 wr) (hR : w0.heap.size ≤ R) :
    Own w0.heap.size (((wr.setCell ⟨R, 0, none⟩ (.int .i64 h)).setCell ⟨R, 1, none⟩ (.int .i64 l)).setCell ⟨R, 2, none⟩ (.slice a n c)).heap.size (((wr.setCell ⟨R, 0, none⟩ (.int .i64 h)).setCell ⟨R, 1, none⟩ (.int .i64 l)).setCell ⟨R, 2, none⟩ (.slice a n c)) a n c xs ∧
    Below w0.heap.size w0 (((wr.setCell ⟨R, 0, none⟩ (.int .i64 h)).setCell ⟨R, 1, none⟩ (.int .i64 l)).setCell ⟨R, 2, none⟩ (.slice a n c)) := by
  have hne := fun k q => kR.apartOwn ho (k := k) q
  have e1 := chgCell wr R 0 (.int .i64 h)
  have e2 := chgCell (wr.setCell ⟨R, 0, none⟩ (.int .i64 h)) R 1 (.int .i64 l)
  have e3 := chgCell ((wr.setCell ⟨R, 0, none⟩ (.int .i64 h)).setCell ⟨R, 1, none⟩ (.int .i64 l)) R 2 (.slice a n c)
  refine ⟨?_, ((hb.setCell (p := ⟨R, 0, none⟩) hR _).setCell (p := ⟨R, 1, none⟩) hR _).setCell (p := ⟨R, 2, none⟩) hR _⟩
  have := ho.chg ((e1.trans e2).trans e3) (fun k _ _ q e => hne k q e)
  simpa using this
theorem DrawStartBank_any (ac : Option Addr) (nc cc : Nat) (w : World) (hnc : nc ≤ 1048576) (hby : ByteIn w w.heap.size ac nc) :
    Calls Tryz.prog 34 #[.slice ac nc cc] w fun e w' => ∃ m k : Int, e = .returned (.tuple #[.int .i64 m, .int .i64 k]) ∧ (0 ≤ m ∧ m ≤ 11) ∧ (-1 ≤ k ∧ k ≤ 29) ∧ Below w.heap.size w w' := by
  have hcon := amongNew_any [1, 2, 3, 5, 10, 11, 0] _ _ 0 (cur_new w ac nc cc hnc hby) (by omega) (by simp) (by simp)
  have hst := fun W hW => amongNew_any [0, 1, 7, 14, 15, 28, 29, -1] W w.heap.size 2 hW (by omega) (by simp) (by simp)
  simp only [List.map_cons, List.map_nil, List.length_cons, List.length_nil, Nat.reduceAdd] at hcon hst
  have hsz : (w.alloc (.cells #[.slice ac nc cc, .int .i64 0, .int .u64 0] 53)).heap.size = w.heap.size + 1 := by simp
  rw [hsz] at hcon
  have Hcon := Lib.hid hcon; clear hcon
  have Hby := Lib.hid hby; clear hby
  have Hst := Lib.hid hst; clear hst
  go_enter Tryz.func34, Tryz.ntmps34
  go_wp2_with fail
  with_reducible refine (Hcon.out).mono ?_
  rintro e w1 ⟨m, hm, rfl, hc, hg⟩
  have hlt := hc.lt
  go_wp2_with fail
  with_reducible refine (Hst.out w1 hc).mono ?_
  rintro e w2 ⟨k, hk, rfl, hc2, hg2⟩
  have hm2 : 0 ≤ m ∧ m ≤ 11 := by
    simp only [List.mem_cons, List.mem_nil_iff, or_false] at hm
    rcases hm with rfl | rfl | rfl | rfl | rfl | rfl | rfl <;> decide
  have hk2 : -1 ≤ k ∧ k ≤ 29 := by
    simp only [List.mem_cons, List.mem_nil_iff, or_false] at hk
    rcases hk with rfl | rfl | rfl | rfl | rfl | rfl | rfl | rfl <;> decide
  clear hm hk
  go_wp2
  go_ret2
  exact ⟨_, _, rfl, hm2, hk2, (hg.trans hg2).drawn⟩
/-- two bank states alike, by the law -/
theorem xBank_any (h l h' l' : Int) (a a' : Option Addr) (n n' c c' : Nat) (xs ys : List Int) (w : World) (hA : IntsAt w a n c xs) (hB : IntsAt w a' n' c' ys) :
    Calls Tryz.prog 21 #[.agg #[.int .i64 h, .int .i64 l, .slice a n c], .agg #[.int .i64 h', .int .i64 l', .slice a' n' c']] w fun e w' => e = .returned (.bool (decide ((⟨h, l, xs⟩ : Bk) = ⟨h', l', ys⟩))) ∧ Below w.heap.size w w' := by
  have hb0 := belowAlloc w (.cells #[.int .i64 h, .int .i64 l, .slice a n c] 32)
  have hb := belowTrans hb0 (belowAlloc _ (.cells #[.int .i64 h', .int .i64 l', .slice a' n' c'] 32)) (Nat.le_refl _)
  have hcon := xSame_any a a' n n' c c' xs ys _ (hA.keep hb) (hB.keep hb)
  clear hb0
  have Hcon := Lib.hid hcon; clear hcon
  have Hb := Lib.hid hb; clear hb
  by_cases e1 : h = h'
  · by_cases e2 : l = l'
    · subst e1 e2
      go_enter Tryz.func21, Tryz.ntmps21
      go_wp2_with fail
      with_reducible refine (Hcon.out).mono ?_
      rintro e w1 ⟨rfl, hb1⟩
      have hbb := belowTrans Hb.out hb1 (Nat.le_refl _)
      go_wp2
      go_ret
      exact ⟨by simp, hbb⟩
    · subst e1
      have hd : decide (l = l') = false := decide_eq_false e2
      go_enter Tryz.func21, Tryz.ntmps21
      go_wp2
      go_ret
      exact ⟨by simp [e2], Hb.out⟩
  · have hd : decide (h = h') = false := decide_eq_false e1
    go_enter Tryz.func21, Tryz.ntmps21
    go_wp2
    go_ret
    exact ⟨by simp [e1], Hb.out⟩
end Go.Proofs.YtnebfojnbjbogaaGreatDoor
