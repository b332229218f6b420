/- The draws of FnBankSteps, and two bank states alike. No condition but sizes. -/
import Derived.Test.YtnebfojnbjbogaaDoorDbB
import Derived.Test.YtnebfojnbjbogaaDoorRwL
import Derived.Test.YtnebfojnbjbogaaDoorLawp
namespace Go.Proofs.YtnebfojnbjbogaaDoor
open Go.RowKit
set_option linter.unusedVariables false
set_option linter.unusedSimpArgs false
set_option maxRecDepth 20000

theorem resFin {w0 wr : World} {R : Nat} {h l : Int} {a : Option Addr} {n c : Nat} {xs : List Int} (kR : Blk wr R 0 0 none 0 0 26) (ho : Own w0.heap.size wr.heap.size wr a n c xs) (hb : Below w0.heap.size w0 wr) (hR : w0.heap.size ≤ R) :
    Own w0.heap.size (((wr.setCell ⟨R, 0, none⟩ (.int .i64 h)).setCell ⟨R, 1, none⟩ (.int .i64 l)).setCell ⟨R, 2, none⟩ (.slice a n c)).heap.size (((wr.setCell ⟨R, 0, none⟩ (.int .i64 h)).setCell ⟨R, 1, none⟩ (.int .i64 l)).setCell ⟨R, 2, none⟩ (.slice a n c)) a n c xs ∧
    Below w0.heap.size w0 (((wr.setCell ⟨R, 0, none⟩ (.int .i64 h)).setCell ⟨R, 1, none⟩ (.int .i64 l)).setCell ⟨R, 2, none⟩ (.slice a n c)) := by
  have hne := fun k q => kR.apartOwn ho (k := k) q
  have e1 := chgCell wr R 0 (.int .i64 h)
  have e2 := chgCell (wr.setCell ⟨R, 0, none⟩ (.int .i64 h)) R 1 (.int .i64 l)
  have e3 := chgCell ((wr.setCell ⟨R, 0, none⟩ (.int .i64 h)).setCell ⟨R, 1, none⟩ (.int .i64 l)) R 2 (.slice a n c)
  refine ⟨?_, ((hb.setCell (p := ⟨R, 0, none⟩) hR _).setCell (p := ⟨R, 1, none⟩) hR _).setCell (p := ⟨R, 2, none⟩) hR _⟩
  have := ho.chg ((e1.trans e2).trans e3) (fun k _ _ q e => hne k q e)
  simpa using this
/-- two bank states alike, by the law -/
theorem xBank_any (h l h' l' : Int) (a a' : Option Addr) (n n' c c' : Nat) (xs ys : List Int) (w : World) (hA : IntsAt w a n c xs) (hB : IntsAt w a' n' c' ys) :
    Calls Tryd.prog 11 #[.agg #[.int .i64 h, .int .i64 l, .slice a n c], .agg #[.int .i64 h', .int .i64 l', .slice a' n' c']] w fun e w' => e = .returned (.bool (decide ((⟨h, l, xs⟩ : Bk) = ⟨h', l', ys⟩))) ∧ Below w.heap.size w w' := by
  have hb0 := belowAlloc w (.cells #[.int .i64 h, .int .i64 l, .slice a n c] 26)
  have hb := belowTrans hb0 (belowAlloc _ (.cells #[.int .i64 h', .int .i64 l', .slice a' n' c'] 26)) (Nat.le_refl _)
  have hcon := xSame_any a a' n n' c c' xs ys _ (hA.keep hb) (hB.keep hb)
  clear hb0
  have Hcon := Lib.hid hcon; clear hcon
  have Hb := Lib.hid hb; clear hb
  by_cases e1 : h = h'
  · by_cases e2 : l = l'
    · subst e1 e2
      go_enter Tryd.func11, Tryd.ntmps11
      go_wp2_with fail
      with_reducible refine (Hcon.out).mono ?_
      rintro e w1 ⟨rfl, hb1⟩
      have hbb := belowTrans Hb.out hb1 (Nat.le_refl _)
      go_wp2
      go_ret
      exact ⟨by simp, hbb⟩
    · subst e1
      have hd : decide (l = l') = false := decide_eq_false e2
      go_enter Tryd.func11, Tryd.ntmps11
      go_wp2
      go_ret
      exact ⟨by simp [e2], Hb.out⟩
  · have hd : decide (h = h') = false := decide_eq_false e1
    go_enter Tryd.func11, Tryd.ntmps11
    go_wp2
    go_ret
    exact ⟨by simp [e1], Hb.out⟩
end Go.Proofs.YtnebfojnbjbogaaDoor
