/- Several texts in one: DbC, DsC. No condition. -/
import Derived.Test.YtjaodhjiibdbdaaGreatDoorDbB
import Derived.Test.YtjaodhjiibdbdaaGreatDoorRwL
import Derived.Test.YtjaodhjiibdbdaaGreatDoorLawp
import Derived.Test.YtjaodhjiibdbdaaGreatDoorDsA
import Derived.Test.YtjaodhjiibdbdaaGreatDoorBtA
import Derived.Test.YtjaodhjiibdbdaaGreatDoorGc
namespace Go.Proofs.YtjaodhjiibdbdaaGreatDoor
section
open Go.RowKit
set_option linter.unusedVariables false
set_option linter.unusedSimpArgs false
set_option maxRecDepth 20000

theorem resFin {w0 wr : World} {R : Nat} {h l : Int} {a : Option Addr} {n c : Nat} {xs : List Int} (kR : Blk wr R 0 0 none 0 0 40) (ho : Own w0.heap.size wr.heap.size wr a n c xs) (hb : Below w0.heap.size w0 wr) (hR : w0.heap.size ≤ R) :
    Own w0.heap.size (((wr.setCell ⟨R, 0, none⟩ (.int .i64 h)).setCell ⟨R, 1, none⟩ (.int .i64 l)).setCell ⟨R, 2, none⟩ (.slice a n c)).heap.size (((wr.setCell ⟨R, 0, none⟩ (.int .i64 h)).setCell ⟨R, 1, none⟩ (.int .i64 l)).setCell ⟨R, 2, none⟩ (.slice a n c)) a n c xs ∧
    Below w0.heap.size w0 (((wr.setCell ⟨R, 0, none⟩ (.int .i64 h)).setCell ⟨R, 1, none⟩ (.int .i64 l)).setCell ⟨R, 2, none⟩ (.slice a n c)) := by
  have hne := fun k q => kR.apartOwn ho (k := k) q
  have e1 := chgCell wr R 0 (.int .i64 h)
  have e2 := chgCell (wr.setCell ⟨R, 0, none⟩ (.int .i64 h)) R 1 (.int .i64 l)
  have e3 := chgCell ((wr.setCell ⟨R, 0, none⟩ (.int .i64 h)).setCell ⟨R, 1, none⟩ (.int .i64 l)) R 2 (.slice a n c)
  refine ⟨?_, ((hb.setCell (p := ⟨R, 0, none⟩) hR _).setCell (p := ⟨R, 1, none⟩) hR _).setCell (p := ⟨R, 2, none⟩) hR _⟩
  have := ho.chg ((e1.trans e2).trans e3) (fun k _ _ q e => hne k q e)
  simpa using this
theorem DrawIsBank_any (ac : Option Addr) (nc cc : Nat) (w : World) (hnc : nc ≤ 1048576) (hby : ByteIn w w.heap.size ac nc) :
    Calls Tryz.prog 62 #[.slice ac nc cc] w fun e w' => ∃ h l a n c xs, e = .returned (.agg #[.int .i64 h, .int .i64 l, .slice a n c]) ∧ Own w.heap.size w'.heap.size w' a n c xs ∧ n ≤ 40 ∧ Below w.heap.size w w' := by
  have hba := belowAlloc w (.cells #[.int .i64 0, .int .i64 0, .slice none 0 0] 40)
  have kR := Blk.new w 0 0 none 0 0 40
  obtain ⟨W, hW⟩ : ∃ W, W = w.alloc (.cells #[.int .i64 0, .int .i64 0, .slice none 0 0] 40) := ⟨_, rfl⟩
  rw [← hW] at hba kR
  have hsW : W.heap.size = w.heap.size + 1 := by rw [hW]; simp
  have hcon := bank_any 28 _ _ 0 (cur_new W ac nc cc hnc (hby.up (Nat.le_refl _) hba hba.size)) (by omega) (by omega)
  rw [show ((28 : Nat) : Int) = 28 from rfl] at hcon
  have hb2 := belowAlloc W (.cells #[.slice ac nc cc, .int .i64 0, .int .u64 0] 55)
  have hs2 : (W.alloc (.cells #[.slice ac nc cc, .int .i64 0, .int .u64 0] 55)).heap.size = w.heap.size + 2 := by simp [hsW]
  rw [hsW] at hcon
  have Hcon := Lib.hid hcon; clear hcon
  have Hby := Lib.hid hby; clear hby
  have HW := Lib.hid hW; clear hW
  have Hba := Lib.hid hba; clear hba
  have KR := Lib.hid kR; clear kR
  have Hb2 := Lib.hid hb2; clear hb2
  have Hs2 := Lib.hid hs2; clear hs2
  go_enter Tryz.func62, Tryz.ntmps62
  go_wp2_with fail
  rw [← HW.out]
  with_reducible refine (Hcon.out).mono ?_
  rintro e w3 ⟨h, l, a, n, c, xs, rfl, ho, hn, hc, hg⟩
  have hb : Below w.heap.size w w3 := (belowTrans Hba.out Hb2.out (Nat.le_refl _)).trans (hg.below (by rw [Hs2.out]; omega) (fun k hk => by omega))
  have k3 := (KR.out.keep Hb2.out).chg hg (by omega)
  have ho3 := ho.mono (show w.heap.size ≤ _ by rw [Hs2.out]; omega) (Nat.le_refl _)
  obtain ⟨f1, f2⟩ := resFin (h := h) (l := l) k3 ho3 hb (Nat.le_refl _)
  obtain ⟨⟨x0, x1, x2⟩, y0, y1, y2⟩ := k3.cells
  clear ho ho3 hb k3 hc hg
  have F1 := Lib.hid f1; clear f1
  have F2 := Lib.hid f2; clear f2
  go_wp2
  refine bodyPost_ret (v := .agg #[.int .i64 h, .int .i64 l, .slice a n c]) ?_ rfl ⟨_, _, _, _, _, _, rfl, F1.out, hn, F2.out⟩
  rw [resCell rfl]
  simp [go_sem, asAddr, Result.andThen, loadVar, *]
/-- two bank states alike, by the law -/
theorem xBank_any (h l h' l' : Int) (a a' : Option Addr) (n n' c c' : Nat) (xs ys : List Int) (w : World) (hA : IntsAt w a n c xs) (hB : IntsAt w a' n' c' ys) :
    Calls Tryz.prog 26 #[.agg #[.int .i64 h, .int .i64 l, .slice a n c], .agg #[.int .i64 h', .int .i64 l', .slice a' n' c']] w fun e w' => e = .returned (.bool (decide ((⟨h, l, xs⟩ : Bk) = ⟨h', l', ys⟩))) ∧ Below w.heap.size w w' := by
  have hb0 := belowAlloc w (.cells #[.int .i64 h, .int .i64 l, .slice a n c] 40)
  have hb := belowTrans hb0 (belowAlloc _ (.cells #[.int .i64 h', .int .i64 l', .slice a' n' c'] 40)) (Nat.le_refl _)
  have hcon := xSame_any a a' n n' c c' xs ys _ (hA.keep hb) (hB.keep hb)
  clear hb0
  have Hcon := Lib.hid hcon; clear hcon
  have Hb := Lib.hid hb; clear hb
  by_cases e1 : h = h'
  · by_cases e2 : l = l'
    · subst e1 e2
      go_enter Tryz.func26, Tryz.ntmps26
      go_wp2_with fail
      with_reducible refine (Hcon.out).mono ?_
      rintro e w1 ⟨rfl, hb1⟩
      have hbb := belowTrans Hb.out hb1 (Nat.le_refl _)
      go_wp2
      go_ret
      exact ⟨by simp, hbb⟩
    · subst e1
      have hd : decide (l = l') = false := decide_eq_false e2
      go_enter Tryz.func26, Tryz.ntmps26
      go_wp2
      go_ret
      exact ⟨by simp [e2], Hb.out⟩
  · have hd : decide (h = h') = false := decide_eq_false e1
    go_enter Tryz.func26, Tryz.ntmps26
    go_wp2
    go_ret
    exact ⟨by simp [e1], Hb.out⟩
end
end Go.Proofs.YtjaodhjiibdbdaaGreatDoor
namespace Go.Proofs.YtjaodhjiibdbdaaGreatDoor
section
open Go.RowKit
set_option linter.unusedVariables false
set_option linter.unusedSimpArgs false
set_option maxRecDepth 20000

set_option maxRecDepth 100000 in
theorem xBanks_any (a a' : Option Addr) (n c c' : Nat) (bs : List Bk) (w : World) (hA : BanksAt w a n c bs) (hB : BanksAt w a' n c' bs) :
    Calls Tryz.prog 24 #[.slice a n c, .slice a' n c'] w fun e w' => e = .returned (.bool true) ∧ Below w.heap.size w w' := by
  have hn := hA.lenInt
  have HA := Lib.hid hA
  have HB := Lib.hid hB
  clear hA hB
  go_enter Tryz.func24, Tryz.ntmps24
  go_wp2
  go_loopw [13] (fun i wr => ∃ k : Nat, k ≤ n ∧ i = .int .i64 k ∧ Below w.heap.size w wr) (fun i _ => n - (intOf i).toNat)
  case atStart => exact ⟨0, Nat.zero_le _, rfl, Below.refl _ _⟩
  case round =>
    obtain ⟨k, hk, rfl, hb⟩ := hrel
    by_cases hlt : k < n
    · obtain ⟨b1, o1, rfl, -, hc1⟩ := (HA.out.keep hb).cell (by omega)
      obtain ⟨b2, o2, rfl, -, hc2⟩ := (HB.out.keep hb).cell (by omega)
      obtain ⟨a1, m1, d1, x0, x1, x2, hI1⟩ := hc1 k hlt
      obtain ⟨a2, m2, d2, y0, y1, y2, hI2⟩ := hc2 k hlt
      clear hc1 hc2
      generalize bs.getD k noBank = B at *
      obtain ⟨h, l, p⟩ := B
      simp only at x0 x1 x2 y0 y1 y2 hI1 hI2
      have hcon := xBank_any h l h l a1 a2 m1 m2 d1 d2 p p wr.drew hI1.drewB hI2.drewB
      rw [decide_eq_true rfl] at hcon
      have hlti : (k : Int) < n := by omega
      clear hI1 hI2
      have Hcon := Lib.hid hcon; clear hcon
      go_wp2_with fail
      go_region_law (first | (go_simp; with_reducible refine (Hcon.out).mono ?_; rintro e w3 ⟨rfl, hb3⟩; have Hb3 := Lib.hid (belowTrans hb.drew hb3 (Nat.le_refl _)); clear hb3))
      all_goals
        go_wp2
        go_roundw
        case rel => exact ⟨k + 1, by omega, by go_num, Hb3.out⟩
        case measure => simp [intOf] <;> omega
    · obtain rfl : n = k := by omega
      go_wp2
      go_ret
      exact ⟨rfl, hb⟩
theorem DrawBankText_any (ac : Option Addr) (nc cc : Nat) (w : World) (hnc : nc ≤ 1048576) (hby : ByteIn w w.heap.size ac nc) :
    Calls Tryz.prog 27 #[.slice ac nc cc] w fun e w' => ∃ h l a n c xs, e = .returned (.agg #[.int .i64 h, .int .i64 l, .slice a n c]) ∧ Own w.heap.size w'.heap.size w' a n c xs ∧ n ≤ 40 ∧ Below w.heap.size w w' := by
  have hba := belowAlloc w (.cells #[.int .i64 0, .int .i64 0, .slice none 0 0] 40)
  have kR := Blk.new w 0 0 none 0 0 40
  obtain ⟨W, hW⟩ : ∃ W, W = w.alloc (.cells #[.int .i64 0, .int .i64 0, .slice none 0 0] 40) := ⟨_, rfl⟩
  rw [← hW] at hba kR
  have hsW : W.heap.size = w.heap.size + 1 := by rw [hW]; simp
  have hcon := DrawIsBank_any ac nc cc W hnc (hby.up (Nat.le_refl _) hba hba.size)
  have Hcon := Lib.hid hcon; clear hcon
  have Hby := Lib.hid hby; clear hby
  have HW := Lib.hid hW; clear hW
  have Hba := Lib.hid hba; clear hba
  have KR := Lib.hid kR; clear kR
  go_enter Tryz.func27, Tryz.ntmps27
  go_wp2_with fail
  rw [← HW.out]
  with_reducible refine (Hcon.out).mono ?_
  rintro e w3 ⟨h, l, a, n, c, xs, rfl, ho, hn, hb3⟩
  have hb := belowTrans Hba.out hb3 (Nat.le_refl _)
  have k3 := KR.out.keep hb3
  have ho3 := ho.mono (show w.heap.size ≤ W.heap.size by omega) (Nat.le_refl _)
  obtain ⟨f1, f2⟩ := resFin (h := h) (l := l) k3 ho3 hb (Nat.le_refl _)
  obtain ⟨⟨x0, x1, x2⟩, y0, y1, y2⟩ := k3.cells
  clear ho ho3 hb k3 hb3
  have F1 := Lib.hid f1; clear f1
  have F2 := Lib.hid f2; clear f2
  go_wp2
  refine bodyPost_ret (v := .agg #[.int .i64 h, .int .i64 l, .slice a n c]) ?_ rfl ⟨_, _, _, _, _, _, rfl, F1.out, hn, F2.out⟩
  rw [resCell rfl]
  simp [go_sem, asAddr, Result.andThen, loadVar, *]
theorem among8b {z : Int} (h : z ∈ [(8 : Int), 12, 15]) : ∃ Z : Nat, z = (Z : Int) ∧ Z ≤ 28 := by
  simp only [List.mem_cons, List.mem_nil_iff, or_false] at h
  rcases h with rfl | rfl | rfl
  · exact ⟨8, rfl, by omega⟩
  · exact ⟨12, rfl, by omega⟩
  · exact ⟨15, rfl, by omega⟩
theorem DrawBankPasts_any (ac : Option Addr) (nc cc : Nat) (w : World) (hnc : nc ≤ 1048576) (hby : ByteIn w w.heap.size ac nc) :
    Calls Tryz.prog 21 #[.slice ac nc cc] w fun e w' => ∃ h l a n c xs, e = .returned (.agg #[.int .i64 h, .int .i64 l, .slice a n c]) ∧ Own w.heap.size w'.heap.size w' a n c xs ∧ n ≤ 40 ∧ Below w.heap.size w w' := by
  have hba := belowAlloc w (.cells #[.int .i64 0, .int .i64 0, .slice none 0 0] 40)
  have kR := Blk.new w 0 0 none 0 0 40
  obtain ⟨W, hW⟩ : ∃ W, W = w.alloc (.cells #[.int .i64 0, .int .i64 0, .slice none 0 0] 40) := ⟨_, rfl⟩
  rw [← hW] at hba kR
  have hsW : W.heap.size = w.heap.size + 1 := by rw [hW]; simp
  have hcn := cur_new W ac nc cc hnc (hby.up (Nat.le_refl _) hba hba.size)
  have hb2 := belowAlloc W (.cells #[.slice ac nc cc, .int .i64 0, .int .u64 0] 55)
  obtain ⟨V, hV⟩ : ∃ V, V = W.alloc (.cells #[.slice ac nc cc, .int .i64 0, .int .u64 0] 55) := ⟨_, rfl⟩
  rw [← hV] at hcn hb2
  have hs2 : V.heap.size = w.heap.size + 2 := by rw [hV]; simp [hsW]
  rw [hsW] at hcn
  have ha := amongNew_any [8, 12, 15] V _ 0 hcn (by omega) (by simp) (by simp)
  simp only [List.map_cons, List.map_nil, List.length_cons, List.length_nil, Nat.reduceAdd] at ha
  rw [hs2] at ha
  have Ha := Lib.hid ha; clear ha
  have Hby := Lib.hid hby; clear hby
  have HW := Lib.hid hW; clear hW
  have HV := Lib.hid hV; clear hV
  have Hba := Lib.hid hba; clear hba
  have KR := Lib.hid kR; clear kR
  have Hb2 := Lib.hid hb2; clear hb2
  have Hs2 := Lib.hid hs2; clear hs2
  have HsW := Lib.hid hsW; clear hsW
  go_enter Tryz.func21, Tryz.ntmps21
  go_wp2_with fail
  rw [← HW.out, ← HV.out]
  with_reducible refine (Ha.out).mono ?_
  rintro e w1 ⟨z, hz, rfl, hc1, hg1⟩
  obtain ⟨Z, rfl, hZ⟩ := among8b hz
  have hcon := bank_any Z w1 _ _ hc1 (by omega) hZ
  have z1 := hg1.size
  have Hcon := Lib.hid hcon; clear hcon
  clear hz Ha
  go_wp2_with fail
  with_reducible refine (Hcon.out).mono ?_
  rintro e w3 ⟨h, l, a, n, c, xs, rfl, ho, hn, hc, hg⟩
  have hgg := hg1.trans hg
  have hs22 := Hs2.out
  have hb : Below w.heap.size w w3 := (belowTrans Hba.out Hb2.out (Nat.le_refl _)).trans (hgg.below (by omega) (fun k hk => by omega))
  have k3 := (KR.out.keep Hb2.out).chg hgg (by omega)
  have ho3 := ho.mono (show w.heap.size ≤ w1.heap.size by omega) (Nat.le_refl _)
  obtain ⟨f1, f2⟩ := resFin (h := h) (l := l) k3 ho3 hb (Nat.le_refl _)
  obtain ⟨⟨x0, x1, x2⟩, y0, y1, y2⟩ := k3.cells
  clear ho ho3 hb k3 hc hg hgg hs22
  have F1 := Lib.hid f1; clear f1
  have F2 := Lib.hid f2; clear f2
  go_wp2
  refine bodyPost_ret (v := .agg #[.int .i64 h, .int .i64 l, .slice a n c]) ?_ rfl ⟨_, _, _, _, _, _, rfl, F1.out, hn, F2.out⟩
  rw [resCell rfl]
  simp [go_sem, asAddr, Result.andThen, loadVar, *]
theorem bankL_size {b : Bk} (h : BankOk b) : (⟨(bankL b).toArray⟩ : ByteArray).size ≤ 200 := by
  have h1 := textL_length h.2.2.1
  have h2 := dd_length b.h (by have := h.1; omega)
  have h3 := dd_length b.l (by have := h.1; have := h.2.1; omega)
  show (bankL b).toArray.size ≤ 200
  rw [List.size_toArray]
  unfold bankL
  simp only [List.length_append, List.length_cons, List.length_nil]
  omega
set_option maxHeartbeats 1600000 in
theorem DrawParseBank_any (ac : Option Addr) (nc cc : Nat) (w : World) (hnc : nc ≤ 1048576) (hby : ByteIn w w.heap.size ac nc) :
    Calls Tryz.prog 31 #[.slice ac nc cc] w fun e w' => ∃ s : ByteArray, e = .returned (.string s) ∧ s.size ≤ 1004 ∧ Below w.heap.size w w' := by
  have hcon := bank_any 14 _ _ 0 (cur_new w ac nc cc hnc hby) (by omega) (by omega)
  rw [show ((14 : Nat) : Int) = 14 from rfl] at hcon
  have Hcon := Lib.hid hcon; clear hcon
  have Hby := Lib.hid hby; clear hby
  go_enter Tryz.func31, Tryz.ntmps31
  go_wp2_with fail
  with_reducible refine (Hcon.out).mono ?_
  rintro e w1 ⟨h, l, a, n, c, xs, rfl, ho, hn, hc, hg⟩
  have hb1 : Below w.heap.size w w1 := hg.drawn
  have hba := belowAlloc w1 (.cells #[.int .i64 h, .int .i64 l, .slice a n c] 40)
  have k2 := Blk.new w1 h l a n c 40
  have hI2 := (ho.keep hba).at
  have hc2 := hc.keep hba
  have hb2 := belowTrans hb1 hba (Nat.le_refl _)
  have hgd := baGood_any h l a n c xs _ hI2
  unfold bankV at hgd
  obtain ⟨⟨x0, x1, x2⟩, y0, y1, y2⟩ := k2.cells
  clear ho hc hg hb1 hba
  by_cases hk : BankOk ⟨h, l, xs⟩
  · rw [bank_iff.2 hk] at hgd
    have hsz := bankL_size hk
    have htx := fun U (q : IntsAt U a n c xs) => baText_any h l a n c xs U q hk
    generalize (⟨(bankL ⟨h, l, xs⟩).toArray⟩ : ByteArray) = T at *
    have Hgd := Lib.hid hgd; clear hgd
    have Htx := Lib.hid htx; clear htx
    have K2 := Lib.hid k2; clear k2
    have HI2 := Lib.hid hI2; clear hI2
    have Hb2 := Lib.hid hb2; clear hb2
    have Hk := Lib.hid hk; clear hk
    go_wp2_with fail
    with_reducible refine (Hgd.out).mono ?_
    rintro e w3 ⟨rfl, hb3⟩
    have k3 := K2.out.keep hb3
    have hI3 := HI2.out.keep hb3
    have hc3 := hc2.keep hb3
    have hbb3 := belowTrans Hb2.out hb3 (Nat.le_refl _)
    clear x0 x1 x2 y0 y1 y2 hb3 hc2
    obtain ⟨⟨x0, x1, x2⟩, y0, y1, y2⟩ := k3.cells
    have K3 := Lib.hid k3; clear k3
    have HI3 := Lib.hid hI3; clear hI3
    go_wp2_with fail
    with_reducible refine (Htx.out _ HI3.out).mono ?_
    rintro e w4 ⟨rfl, hb4⟩
    have hc4 := hc3.keep hb4
    have hbb4 := belowTrans hbb3 hb4 (Nat.le_refl _)
    clear x0 x1 x2 y0 y1 y2 hb4 hc3 hbb3
    have hone := one_any 3 _ w.heap.size _ hc4 (by omega) (by omega) (by omega)
    rw [show ((3 : Nat) : Int) = 3 from rfl] at hone
    have hs7 := hbb4.size
    have Hone := Lib.hid hone; clear hone
    go_wp2_with fail
    with_reducible refine (Hone.out).mono ?_
    rintro e w7 ⟨t, rfl, hc7, hg7⟩
    have hb7 : Below w.heap.size w w7 := hbb4.trans (hg7.below (by omega) (fun k hk => by omega))
    cases t
    · have Hb7 := Lib.hid hb7; clear hb7
      go_wp2
      go_ret
      exact ⟨_, rfl, by have := hsz; omega, Hb7.out⟩
    · have hsp := spoilt_any T ⟨#[48, 49, 50, 51, 58, 43]⟩ w7 w.heap.size _ hc7 (by omega) (by have := hsz; omega) (by decide) (by decide)
      have Hsp := Lib.hid hsp; clear hsp
      go_wp2_with fail
      with_reducible refine (Hsp.out).mono ?_
      rintro e w8 ⟨s, rfl, hss, hc8, hg8⟩
      have hs8 := hb7.size
      have hb8 : Below w.heap.size w w8 := hb7.trans (hg8.below (by omega) (fun k hk => by omega))
      have Hb8 := Lib.hid hb8; clear hb8
      go_wp2
      go_ret
      exact ⟨s, rfl, hss, Hb8.out⟩
  · rw [bank_no.2 hk] at hgd
    have hsz : (⟨#[51, 58, 49, 58, 51, 43, 51]⟩ : ByteArray).size ≤ 200 := by decide
    have Hgd := Lib.hid hgd; clear hgd
    have K2 := Lib.hid k2; clear k2
    have HI2 := Lib.hid hI2; clear hI2
    have Hb2 := Lib.hid hb2; clear hb2
    have Hk := Lib.hid hk; clear hk
    go_wp2_with fail
    with_reducible refine (Hgd.out).mono ?_
    rintro e w3 ⟨rfl, hb3⟩
    have hc4 := hc2.keep hb3
    have hbb4 := belowTrans Hb2.out hb3 (Nat.le_refl _)
    clear x0 x1 x2 y0 y1 y2 hb3 hc2
    have hone := one_any 3 _ w.heap.size _ hc4 (by omega) (by omega) (by omega)
    rw [show ((3 : Nat) : Int) = 3 from rfl] at hone
    have hs7 := hbb4.size
    have Hone := Lib.hid hone; clear hone
    go_wp2_with fail
    with_reducible refine (Hone.out).mono ?_
    rintro e w7 ⟨t, rfl, hc7, hg7⟩
    have hb7 : Below w.heap.size w w7 := hbb4.trans (hg7.below (by omega) (fun k hk => by omega))
    cases t
    · have Hb7 := Lib.hid hb7; clear hb7
      go_wp2
      go_ret
      exact ⟨_, rfl, by have := hsz; omega, Hb7.out⟩
    · have hsp := spoilt_any ⟨#[51, 58, 49, 58, 51, 43, 51]⟩ ⟨#[48, 49, 50, 51, 58, 43]⟩ w7 w.heap.size _ hc7 (by omega) (by have := hsz; omega) (by decide) (by decide)
      have Hsp := Lib.hid hsp; clear hsp
      go_wp2_with fail
      with_reducible refine (Hsp.out).mono ?_
      rintro e w8 ⟨s, rfl, hss, hc8, hg8⟩
      have hs8 := hb7.size
      have hb8 : Below w.heap.size w w8 := hb7.trans (hg8.below (by omega) (fun k hk => by omega))
      have Hb8 := Lib.hid hb8; clear hb8
      go_wp2
      go_ret
      exact ⟨s, rfl, hss, Hb8.out⟩
end
end Go.Proofs.YtjaodhjiibdbdaaGreatDoor
