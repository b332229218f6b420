/- The console's model: the line that starts a bank state. No condition but what the line's block holds. -/
import Derived.Test.YtimmjimeldejjaaGreatDoorCoR
namespace Go.Proofs.YtimmjimeldejjaaGreatDoor
open Go.RowKit
set_option linter.unusedVariables false
set_option linter.unusedSimpArgs false
set_option maxRecDepth 20000
theorem below3J {B : Nat} {w w' : World} (h : Below B w w') {R : Nat} (hR : B ≤ R) (v0 v1 v2 : Value) : Below B w (((w'.setCell ⟨R, 0, none⟩ v0).setCell ⟨R, 1, none⟩ v1).setCell ⟨R, 2, none⟩ v2) :=
  ((h.setCell (p := ⟨R, 0, none⟩) hR v0).setCell (p := ⟨R, 1, none⟩) hR v1).setCell (p := ⟨R, 2, none⟩) hR v2
theorem own_off3 {B E w a n c zs} (h : Own B E w a n c zs) {R : Nat} (hR : R < B) (v0 v1 v2 : Value) : Own B E (((w.setCell ⟨R, 0, none⟩ v0).setCell ⟨R, 1, none⟩ v1).setCell ⟨R, 2, none⟩ v2) a n c zs :=
  ((h.offCell hR 0 v0).offCell hR 1 v1).offCell hR 2 v2
section
variable {g : Nat} {pa : Option Addr} {pn pc : Nat} {la : Option Addr} {ln lc : Nat} {bh bl : Int} {ba : Option Addr} {bn bc : Nat} {na : Option Addr} {nn nc : Nat} {ty : TypeId}
set_option maxHeartbeats 3200000 in
theorem asked_start {w : World} (hh : LnB w g pa pn pc la ln lc bh bl ba bn bc na nn nc ty) {x y : Int} (hn : IntsAt w na nn nc [x, y]) (hk : ∀ b, (mStartBank x y) = (b, true) → BankOk b) :
    Calls Tryz.prog 71 #[.pointer (some ⟨g, 0, none⟩), .string ⟨#[115, 116, 97, 114, 116]⟩] w fun e w' => e = .returned (.string ⟨(if (mStartBank x y).2 = true then bankL (mStartBank x y).1 else [110, 111]).toArray⟩) ∧ Below w.heap.size w w' := by
  obtain ⟨⟨u0, u1, u2, u3, u4, u5⟩, f0, f1, f2, f3, f4, f5⟩ := hh.cells
  have hl2 : nn = 2 := by have := hn.length; simpa using this.symm
  subst hl2
  obtain ⟨b3, o3, rfl, hbl3, hc3⟩ := hn.cell 0 (by omega)
  have hx0 := hc3 0 (by omega)
  have hx1 := hc3 1 (by omega)
  rw [List.getD_cons_zero, Nat.add_zero] at hx0
  rw [List.getD_cons_succ, List.getD_cons_zero] at hx1
  have hba := belowAlloc w (.cells #[.int .i64 0, .int .i64 0, .slice none 0 0] 84)
  obtain ⟨⟨v0, v1, v2, v3, v4, v5⟩, s0, s1, s2, s3, s4, s5⟩ := (hh.keep hba).cells
  obtain ⟨b4, o4, e4, hbl4, hc4⟩ := (hn.keep hba).cell 0 (by omega)
  cases e4
  have hy0 := hc4 0 (by omega)
  have hy1 := hc4 1 (by omega)
  rw [List.getD_cons_zero, Nat.add_zero] at hy0
  rw [List.getD_cons_succ, List.getD_cons_zero] at hy1
  clear hc3 hc4 hn hh
  have hcon := fun W => spec_StartBank x y W
  generalize mStartBank x y = S at hcon hk ⊢
  obtain ⟨⟨sh, sl, sp⟩, sb⟩ := S
  simp only at hcon ⊢
  have hz := (Below.refl w.heap.size w).drew
  have bz := Blk.new w 0 0 none 0 0 84
  have c1 := (hcon w.drew).mono (R' := fun e w1 => ∃ a m c, e = .returned (.tuple #[.agg #[.int .i64 sh, .int .i64 sl, .slice a m c], .bool sb]) ∧ Own w.heap.size w1.heap.size w1 a m c sp ∧ Below w.heap.size w w1)
    (fun e w1 ⟨a, m, c, e1, e2, e3⟩ => ⟨a, m, c, e1, e2, belowTrans hz e3 (Nat.le_refl _)⟩)
  have c2 := (hcon (w.alloc (.cells #[.int .i64 0, .int .i64 0, .slice none 0 0] 84)).drew).mono (R' := fun e w1 => ∃ a m c, e = .returned (.tuple #[.agg #[.int .i64 sh, .int .i64 sl, .slice a m c], .bool sb]) ∧ Own (w.heap.size + 1) w1.heap.size w1 a m c sp ∧ Below w.heap.size w w1 ∧ Blk w1 w.heap.size 0 0 none 0 0 84)
    (fun e w1 ⟨a, m, c, e1, e2, e3⟩ => ⟨a, m, c, e1, e2.mono (by simp [World.drew]) (Nat.le_refl _), belowTrans hba.drew e3 (by simp [World.drew]), bz.drew.keep e3⟩)
  have htx := fun a m c W (h : IntsAt W a m c sp) (q : sb = true) => baText_any sh sl a m c sp W h (hk _ (by rw [q]))
  clear hcon hz hba bz hk
  clear u0 u1 u2 u3 u4 f0 f1 f2 f3 f4 f5 v0 v1 v2 v3 v4 s0 s1 s2 s3 s4 s5 hbl3 hbl4
  have C1 := Lib.hid c1; clear c1
  have C2 := Lib.hid c2; clear c2
  have Htx := Lib.hid htx; clear htx
  go_enter Tryz.func71, Tryz.ntmps71
  go_wp2_with fail
  go_region_law (first | (go_simp; with_reducible refine (C1.out).mono ?_; rintro e w1 ⟨a1, n1, d1, rfl, ho1, hb1⟩; have Ho1 := Lib.hid ho1; have Hb1 := Lib.hid hb1; clear ho1 hb1) | (go_simp; with_reducible refine (C2.out).mono ?_; rintro e w1 ⟨a1, n1, d1, rfl, ho1, hb1, bk1⟩; obtain ⟨⟨p0, p1, p2⟩, q0, q1, q2⟩ := bk1.cells; have Ho1 := Lib.hid ho1; have Hb1 := Lib.hid hb1; have Bk1 := Lib.hid bk1; clear ho1 hb1 bk1))
  all_goals
    cases sb
    · go_wp2
      go_ret
      first
        | exact ⟨rfl, Hb1.out.alloc Hb1.out.size _⟩
        | exact ⟨rfl, below3J Hb1.out (Nat.le_refl _) _ _ _⟩
    · go_wp2_with fail
      first
        | (with_reducible refine (Htx.out _ _ _ _ (Ho1.out.at.keep (belowAlloc w1 _)) (by trivial)).mono ?_; rintro e w3 ⟨rfl, hb3⟩; have Hfin := Lib.hid (belowTrans (Hb1.out.alloc Hb1.out.size _) hb3 (Nat.le_refl _)); clear hb3)
        | (with_reducible refine (Htx.out _ _ _ _ (own_off3 Ho1.out (Nat.lt_succ_self _) _ _ _).at (by trivial)).mono ?_; rintro e w3 ⟨rfl, hb3⟩; have Hfin := Lib.hid (belowTrans (below3J Hb1.out (Nat.le_refl _) _ _ _) hb3 (Nat.le_refl _)); clear hb3)
      go_wp2
      go_ret
      exact ⟨rfl, Hfin.out⟩
end
end Go.Proofs.YtimmjimeldejjaaGreatDoor
