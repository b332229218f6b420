/- Two bank states alike, by the specification. No condition. -/
import Derived.Test.YtbkihnejgcebpaaDoorSmA
import Derived.Test.YtbkihnejgcebpaaDoorBaL
namespace Go.Proofs.YtbkihnejgcebpaaDoor
open Go.RowKit
set_option linter.unusedVariables false
set_option linter.unusedSimpArgs false
set_option maxRecDepth 20000

theorem baSame_any (h l h' l' : Int) (a a' : Option Addr) (n n' c c' : Nat) (xs ys : List Int) (w : World) (hA : IntsAt w a n c xs) (hB : IntsAt w a' n' c' ys) :
    Calls Tryd.prog 44 #[.agg #[.int .i64 h, .int .i64 l, .slice a n c], .agg #[.int .i64 h', .int .i64 l', .slice a' n' c']] w fun e w' => e = .returned (.bool (decide ((⟨h, l, xs⟩ : Bk) = ⟨h', l', ys⟩))) ∧ Below w.heap.size w w' := by
  have hb0 := belowAlloc w (.cells #[.int .i64 h, .int .i64 l, .slice a n c] 28)
  have hb := belowTrans hb0 (belowAlloc _ (.cells #[.int .i64 h', .int .i64 l', .slice a' n' c'] 28)) (Nat.le_refl _)
  have hcon := l1Same_any a a' n n' c c' xs ys _ (hA.keep hb) (hB.keep hb)
  clear hb0
  have Hcon := Lib.hid hcon; clear hcon
  have Hb := Lib.hid hb; clear hb
  by_cases e1 : h = h'
  · by_cases e2 : l = l'
    · subst e1 e2
      go_enter Tryd.func44, Tryd.ntmps44
      go_wp2_with fail
      with_reducible refine (Hcon.out).mono ?_
      rintro e w1 ⟨rfl, q, rfl⟩
      go_wp2
      go_ret
      exact ⟨by simp, belowDrewN Hb.out _⟩
    · subst e1
      have hd : decide (l = l') = false := decide_eq_false e2
      go_enter Tryd.func44, Tryd.ntmps44
      go_wp2
      go_ret
      exact ⟨by simp [e2], Hb.out⟩
  · have hd : decide (h = h') = false := decide_eq_false e1
    go_enter Tryd.func44, Tryd.ntmps44
    go_wp2
    go_ret
    exact ⟨by simp [e1], Hb.out⟩
end Go.Proofs.YtbkihnejgcebpaaDoor
