/- The draws of FnBankOrbits. No condition but a size. -/
import Derived.Test.YtnebfojnbjbogaaDoorDbC
namespace Go.Proofs.YtnebfojnbjbogaaDoor
open Go.RowKit
set_option linter.unusedVariables false
set_option linter.unusedSimpArgs false
set_option maxRecDepth 20000

theorem DrawBankOrbit_any (ac : Option Addr) (nc cc : Nat) (w : World) (hnc : nc ≤ 1048576) (hby : ByteIn w w.heap.size ac nc) :
    Calls Tryd.prog 6 #[.slice ac nc cc] w fun e w' => ∃ h l a n c xs, e = .returned (.agg #[.int .i64 h, .int .i64 l, .slice a n c]) ∧ Own w.heap.size w'.heap.size w' a n c xs ∧ n ≤ 40 ∧ Below w.heap.size w w' := by
  have hba := belowAlloc w (.cells #[.int .i64 0, .int .i64 0, .slice none 0 0] 26)
  have kR := Blk.new w 0 0 none 0 0 26
  obtain ⟨W, hW⟩ : ∃ W, W = w.alloc (.cells #[.int .i64 0, .int .i64 0, .slice none 0 0] 26) := ⟨_, rfl⟩
  rw [← hW] at hba kR
  have hsW : W.heap.size = w.heap.size + 1 := by rw [hW]; simp
  have hcon := bank_any 18 _ _ 0 (cur_new W ac nc cc hnc (hby.up (Nat.le_refl _) hba hba.size)) (by omega) (by omega)
  rw [show ((18 : Nat) : Int) = 18 from rfl] at hcon
  have hb2 := belowAlloc W (.cells #[.slice ac nc cc, .int .i64 0, .int .u64 0] 52)
  have hs2 : (W.alloc (.cells #[.slice ac nc cc, .int .i64 0, .int .u64 0] 52)).heap.size = w.heap.size + 2 := by simp [hsW]
  rw [hsW] at hcon
  have Hcon := Lib.hid hcon; clear hcon
  have Hby := Lib.hid hby; clear hby
  have HW := Lib.hid hW; clear hW
  have Hba := Lib.hid hba; clear hba
  have KR := Lib.hid kR; clear kR
  have Hb2 := Lib.hid hb2; clear hb2
  have Hs2 := Lib.hid hs2; clear hs2
  go_enter Tryd.func6, Tryd.ntmps6
  go_wp2_with fail
  rw [← HW.out]
  with_reducible refine (Hcon.out).mono ?_
  rintro e w3 ⟨h, l, a, n, c, xs, rfl, ho, hn, hc, hg⟩
  have hb : Below w.heap.size w w3 := (belowTrans Hba.out Hb2.out (Nat.le_refl _)).trans (hg.below (by rw [Hs2.out]; omega) (fun k hk => by omega))
  have k3 := (KR.out.keep Hb2.out).chg hg (by omega)
  have ho3 := ho.mono (show w.heap.size ≤ _ by rw [Hs2.out]; omega) (Nat.le_refl _)
  obtain ⟨f1, f2⟩ := resFin (h := h) (l := l) k3 ho3 hb (Nat.le_refl _)
  obtain ⟨⟨x0, x1, x2⟩, y0, y1, y2⟩ := k3.cells
  clear ho ho3 hb k3 hc hg
  have F1 := Lib.hid f1; clear f1
  have F2 := Lib.hid f2; clear f2
  go_wp2
  refine bodyPost_ret (v := .agg #[.int .i64 h, .int .i64 l, .slice a n c]) ?_ rfl ⟨_, _, _, _, _, _, rfl, F1.out, hn, F2.out⟩
  rw [resCell rfl]
  simp [go_sem, asAddr, Result.andThen, loadVar, *]
theorem DrawBankSteps_any (ac : Option Addr) (nc cc : Nat) (w : World) (hnc : nc ≤ 1048576) (hby : ByteIn w w.heap.size ac nc) :
    Calls Tryd.prog 31 #[.slice ac nc cc] w fun e w' => ∃ h l a n c xs k, e = .returned (.tuple #[.agg #[.int .i64 h, .int .i64 l, .slice a n c], .int .i64 k]) ∧ Own w.heap.size w'.heap.size w' a n c xs ∧ n ≤ 40 ∧ Below w.heap.size w w' := by
  have hba := belowAlloc w (.cells #[.int .i64 0, .int .i64 0, .slice none 0 0] 26)
  have kR := Blk.new w 0 0 none 0 0 26
  obtain ⟨W, hW⟩ : ∃ W, W = w.alloc (.cells #[.int .i64 0, .int .i64 0, .slice none 0 0] 26) := ⟨_, rfl⟩
  rw [← hW] at hba kR
  have hsW : W.heap.size = w.heap.size + 1 := by rw [hW]; simp
  have hcon := bank_any 20 _ _ 0 (cur_new W ac nc cc hnc (hby.up (Nat.le_refl _) hba hba.size)) (by omega) (by omega)
  rw [show ((20 : Nat) : Int) = 20 from rfl] at hcon
  have hb2 := belowAlloc W (.cells #[.slice ac nc cc, .int .i64 0, .int .u64 0] 52)
  have hs2 : (W.alloc (.cells #[.slice ac nc cc, .int .i64 0, .int .u64 0] 52)).heap.size = w.heap.size + 2 := by simp [hsW]
  rw [hsW] at hcon
  have Hcon := Lib.hid hcon; clear hcon
  have Hby := Lib.hid hby; clear hby
  have HW := Lib.hid hW; clear hW
  have Hba := Lib.hid hba; clear hba
  have KR := Lib.hid kR; clear kR
  have Hb2 := Lib.hid hb2; clear hb2
  have Hs2 := Lib.hid hs2; clear hs2
  go_enter Tryd.func31, Tryd.ntmps31
  go_wp2_with fail
  rw [← HW.out]
  with_reducible refine (Hcon.out).mono ?_
  rintro e w3 ⟨h, l, a, n, c, xs, rfl, ho, hn, hc, hg⟩
  have ha := amongNew_any [0, 1, 2, 5, 20, 1000, 1001, -1] w3 _ _ hc (by omega) (by simp) (by simp)
  simp only [List.map_cons, List.map_nil, List.length_cons, List.length_nil, Nat.reduceAdd] at ha
  have z1 := hg.size
  have Ha := Lib.hid ha; clear ha
  clear Hcon
  go_wp2_with fail
  with_reducible refine (Ha.out).mono ?_
  rintro e w4 ⟨k, hk, rfl, hc4, hg4⟩
  have hgg := hg.trans hg4
  have hs22 := Hs2.out
  have hb : Below w.heap.size w w4 := (belowTrans Hba.out Hb2.out (Nat.le_refl _)).trans (hgg.below (by omega) (fun k hk => by omega))
  have k3 := (KR.out.keep Hb2.out).chg hgg (by omega)
  have ho3 := ((ho.chg hg4 (fun q h1 _ _ e => by rw [hs22] at h1; omega)).mono (show w.heap.size ≤ _ by omega) hg4.size)
  obtain ⟨f1, f2⟩ := resFin (h := h) (l := l) k3 ho3 hb (Nat.le_refl _)
  obtain ⟨⟨x0, x1, x2⟩, y0, y1, y2⟩ := k3.cells
  clear ho ho3 hb k3 hc hg hgg hs22 hk hc4 hg4 Ha
  have F1 := Lib.hid f1; clear f1
  have F2 := Lib.hid f2; clear f2
  go_wp2
  refine bodyPost_ret (v := .tuple #[.agg #[.int .i64 h, .int .i64 l, .slice a n c], .int .i64 k]) ?_ rfl ⟨_, _, _, _, _, _, _, rfl, F1.out, hn, F2.out⟩
  rw [results_cell_tmp rfl]
  simp [go_sem, asAddr, Result.andThen, loadVar, *]
theorem DrawNewPiles_any (ac : Option Addr) (nc cc : Nat) (w : World) (hnc : nc ≤ 1048576) (hby : ByteIn w w.heap.size ac nc) :
    Calls Tryd.prog 15 #[.slice ac nc cc] w fun e w' => ∃ h l a n c xs k, e = .returned (.tuple #[.agg #[.int .i64 h, .int .i64 l, .slice a n c], .int .i64 k]) ∧ Own w.heap.size w'.heap.size w' a n c xs ∧ n ≤ 40 ∧ Below w.heap.size w w' := by
  have hba := belowAlloc w (.cells #[.int .i64 0, .int .i64 0, .slice none 0 0] 26)
  have kR := Blk.new w 0 0 none 0 0 26
  obtain ⟨W, hW⟩ : ∃ W, W = w.alloc (.cells #[.int .i64 0, .int .i64 0, .slice none 0 0] 26) := ⟨_, rfl⟩
  rw [← hW] at hba kR
  have hsW : W.heap.size = w.heap.size + 1 := by rw [hW]; simp
  have hcon := DrawBankSteps_any ac nc cc W hnc (hby.up (Nat.le_refl _) hba hba.size)
  have Hcon := Lib.hid hcon; clear hcon
  have Hby := Lib.hid hby; clear hby
  have HW := Lib.hid hW; clear hW
  have Hba := Lib.hid hba; clear hba
  have KR := Lib.hid kR; clear kR
  go_enter Tryd.func15, Tryd.ntmps15
  go_wp2_with fail
  rw [← HW.out]
  with_reducible refine (Hcon.out).mono ?_
  rintro e w3 ⟨h, l, a, n, c, xs, k, rfl, ho, hn, hb3⟩
  have hb := belowTrans Hba.out hb3 (Nat.le_refl _)
  have k3 := KR.out.keep hb3
  have ho3 := ho.mono (show w.heap.size ≤ W.heap.size by omega) (Nat.le_refl _)
  obtain ⟨f1, f2⟩ := resFin (h := h) (l := l) k3 ho3 hb (Nat.le_refl _)
  obtain ⟨⟨x0, x1, x2⟩, y0, y1, y2⟩ := k3.cells
  clear ho ho3 hb k3 hb3
  have F1 := Lib.hid f1; clear f1
  have F2 := Lib.hid f2; clear f2
  go_wp2
  refine bodyPost_ret (v := .tuple #[.agg #[.int .i64 h, .int .i64 l, .slice a n c], .int .i64 k]) ?_ rfl ⟨_, _, _, _, _, _, _, rfl, F1.out, hn, F2.out⟩
  rw [results_cell_tmp rfl]
  simp [go_sem, asAddr, Result.andThen, loadVar, *]
end Go.Proofs.YtnebfojnbjbogaaDoor
