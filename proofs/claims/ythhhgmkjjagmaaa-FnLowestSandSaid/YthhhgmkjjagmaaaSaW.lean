/- Chapter 6 by the program: CountReach, CanReach, FallsBetween, FallVector. No condition. -/
import Derived.Test.YthhhgmkjjagmaaaSaU
import Derived.Test.YthhhgmkjjagmaaaSaV
namespace Go.Proofs.Ythhhgmkjjagmaaa
open Go.RowKit
set_option linter.unusedVariables false
set_option linter.unusedSimpArgs false
set_option maxRecDepth 20000

theorem impl_CountReach (ao : Option Addr) (n cap : Nat) (xs : List Int) (w : World) (h : IntsAt w ao n cap xs) :
    Calls Try.prog 33 #[.slice ao n cap] w fun e w' => e = .returned (.tuple #[.int .i64 (mCountReach xs).1, .bool (mCountReach xs).2]) ∧ Below w.heap.size w w' := by
  have hcon := impl_ReachSand ao n cap xs w h
  have hm : mCountReach xs = (((mReachSand xs).1.length : Int), (mReachSand xs).2) := rfl
  rw [hm]
  generalize mReachSand xs = M at *
  have Hcon := Lib.hid hcon; clear hcon
  have Hm := Lib.hid hm; clear hm
  go_enter Try.func33, Try.ntmps33
  go_wp2_with fail
  with_reducible refine (Hcon.out).mono ?_
  rintro e w1 ⟨a1, n1, c1, rfl, ho1, hb1⟩
  have hl := ho1.length
  clear ho1
  have Hl := Lib.hid hl; clear hl
  go_wp2
  go_ret2
  rw [Hl.out]
  exact ⟨rfl, hb1⟩

set_option maxHeartbeats 800000 in
theorem eqPredS_any (ao bo : Option Addr) (n m cap cap' B : Nat) (xs ys : List Int) (w : World) (hx : IntsAt w ao n cap xs) (hy : IntsAt w bo m cap' ys) (hc : w.cell? ⟨B, 0, none⟩ = some (.slice bo m cap')) :
    Calls Try.prog 77 #[.slice ao n cap, .pointer (some ⟨B, 0, none⟩)] w fun e w' => e = .returned (.bool (decide (xs = ys))) ∧ Below w.heap.size w w' := by
  have hcon := equal_any ao bo n m cap cap' xs ys w hx hy
  have Hcon := Lib.hid hcon; clear hcon
  go_enter Try.func77, Try.ntmps77
  go_wp2_with fail
  with_reducible refine (Hcon.out).mono ?_
  rintro e w' ⟨rfl, q, rfl⟩
  go_wp2
  go_ret
  exact ⟨rfl, belowDrewN (Below.refl _ _) q⟩
theorem containsEq_any (ao bo : Option Addr) (n m cap cap' B : Nat) (xss : List (List Int)) (ys : List Int) (w : World) (h : RowsAt w ao n cap xss) (hn : n ≤ 4000) (hy : IntsAt w bo m cap' ys) (hB : B < w.heap.size) (hc : w.cell? ⟨B, 0, none⟩ = some (.slice bo m cap')) :
    Calls Try.prog 72 #[.slice ao n cap, .func (.func 77) #[] #[.pointer (some ⟨B, 0, none⟩)]] w fun e w' => e = .returned (.bool (decide (ys ∈ xss))) ∧ Below w.heap.size w w' := by
  have hcon := indexBy_any _ (fun x => decide (x = ys)) ao n cap xss w h hn 77 #[.pointer (some ⟨B, 0, none⟩)] rfl (fun a m2 c x W hb hi => by
    have := eqPredS_any a bo m2 m c cap' B x ys W hi (hy.keep hb) (by rw [hb.cell (p := ⟨B, 0, none⟩) hB]; exact hc)
    exact this) (.inr ⟨B, rfl, rfl⟩)
  have Hcon := Lib.hid hcon; clear hcon
  go_enter Try.func72, Try.ntmps72
  go_wp2_with fail
  with_reducible refine (Hcon.out).mono ?_
  rintro e w1 ⟨r, rfl, hr, hb⟩
  rcases hr with ⟨rfl, hno⟩ | ⟨hr0, x, hx, hs⟩
  · have hd : decide (ys ∈ xss) = false := decide_eq_false fun hm => by
      have := hno ys hm
      simp at this
    have Hno := Lib.hid hno; clear hno
    have Hd := Lib.hid hd; clear hd
    go_wp2
    go_ret
    exact ⟨by rw [Hd.out]; rfl, hb⟩
  · have hd : decide (ys ∈ xss) = true := decide_eq_true (by
      have e : x = ys := of_decide_eq_true hs
      rw [← e]; exact hx)
    have Hx := Lib.hid hx; clear hx
    have Hs := Lib.hid hs; clear hs
    have Hd := Lib.hid hd; clear hd
    go_wp2
    go_ret
    exact ⟨by rw [Hd.out]; simp [hr0], hb⟩

set_option maxHeartbeats 1600000 in
theorem impl_CanReach (ao : Option Addr) (n cap : Nat) (xs : List Int) (bo : Option Addr) (m cap' : Nat) (ys : List Int) (w : World) (h : IntsAt w ao n cap xs) (h' : IntsAt w bo m cap' ys) :
    Calls Try.prog 37 #[.slice ao n cap, .slice bo m cap'] w fun e w' => e = .returned (.tuple #[.bool (mCanReach xs ys).1, .bool (mCanReach xs ys).2]) ∧ Below w.heap.size w w' := by
  have hba := belowAlloc w (.cells #[.slice bo m cap'] 24)
  have hxa := h.keep hba
  have hya := h'.keep hba
  have hsz : (w.alloc (.cells #[.slice bo m cap'] 24)).heap.size = w.heap.size + 1 := by simp
  have hcell : ∀ W, Below (w.heap.size + 1) (w.alloc (.cells #[.slice bo m cap'] 24)) W → W.cell? ⟨w.heap.size, 0, none⟩ = some (.slice bo m cap') := fun W hW => by
    rw [hW.cell (p := ⟨w.heap.size, 0, none⟩) (by show w.heap.size < _; omega), World.cell?_alloc_at _ _ _ _ rfl]; rfl
  have hcon := impl_ReachSand ao n cap xs _ hxa
  have hmf : ∀ (fn : Fn) (first cap : Array Value) (w : World), (Instr.makeFunc fn first cap).run Try.prog w = .ok (.func fn first cap) w := fun _ _ _ _ => rfl
  cases hg : sandB xs
  · have hm := mCan_no1 (ys := ys) hg
    rw [mReach_no1 hg] at hcon
    have Hg := Lib.hid hg; clear hg
    have Hm := Lib.hid hm; clear hm
    have Hcon := Lib.hid hcon; clear hcon
    have Hba := Lib.hid hba; clear hba
    have Hcell := Lib.hid hcell; clear hcell
    have Hsz := Lib.hid hsz; clear hsz
    go_enter Try.func37, Try.ntmps37
    go_wp2_with fail
    with_reducible refine (Hcon.out).mono ?_
    rintro e w1 ⟨a1, n1, c1, rfl, ho1, hb1⟩
    have hbf := belowTrans Hba.out hb1 (Nat.le_refl _)
    clear ho1
    go_wp2
    go_ret2
    rw [Hm.out]
    exact ⟨rfl, hbf⟩
  by_cases hok : okR xs
  · rw [mReach_yes hg hok] at hcon
    cases hg2 : sandB ys
    · have hm := mCan_no2 (xs := xs) hg2
      have Hg := Lib.hid hg; clear hg
      have Hm := Lib.hid hm; clear hm
      have Hcon := Lib.hid hcon; clear hcon
      have Hba := Lib.hid hba; clear hba
      have Hcell := Lib.hid hcell; clear hcell
      have Hsz := Lib.hid hsz; clear hsz
      have Hok := Lib.hid hok; clear hok
      have Hg2 := Lib.hid hg2; clear hg2
      go_enter Try.func37, Try.ntmps37
      go_wp2_with fail
      with_reducible refine (Hcon.out).mono ?_
      rintro e w1 ⟨a1, n1, c1, rfl, ho1, hb1⟩
      have hb1' := hb1.mono (show w.heap.size + 1 ≤ _ by rw [Hsz.out]; exact Nat.le_refl _)
      have hc1 := Hcell.out w1 hb1'
      have hbf := belowTrans Hba.out hb1 (Nat.le_refl _)
      have hy1 := hya.keep hb1
      clear ho1 hb1 hb1'
      go_wp2_with fail
      with_reducible refine (isSand_no _ _ _ _ _ hy1 Hg2.out).mono ?_
      rintro e w' ⟨rfl, rfl⟩
      go_wp2
      go_ret2
      rw [Hm.out]
      exact ⟨rfl, hbf⟩
    · have hm := mCan_yes hg hg2
      rw [decide_eq_true hok] at hm
      have hcb : canB xs ys = decide (ys ∈ rchL xs) := rfl
      have hlen := rchL_len xs
      have Hg := Lib.hid hg; clear hg
      have Hm := Lib.hid hm; clear hm
      have Hcon := Lib.hid hcon; clear hcon
      have Hba := Lib.hid hba; clear hba
      have Hcell := Lib.hid hcell; clear hcell
      have Hsz := Lib.hid hsz; clear hsz
      have Hok := Lib.hid hok; clear hok
      have Hg2 := Lib.hid hg2; clear hg2
      have Hcb := Lib.hid hcb; clear hcb
      go_enter Try.func37, Try.ntmps37
      go_wp2_with fail
      with_reducible refine (Hcon.out).mono ?_
      rintro e w1 ⟨a1, n1, c1, rfl, ho1, hb1⟩
      have hb1' := hb1.mono (show w.heap.size + 1 ≤ _ by rw [Hsz.out]; exact Nat.le_refl _)
      have hc1 := Hcell.out w1 hb1'
      have hw1 : w.heap.size < w1.heap.size := by have := hb1.size; rw [Hsz.out] at this; omega
      have hbf := belowTrans Hba.out hb1 (Nat.le_refl _)
      have hy1 := hya.keep hb1
      have hl1 : (rchL xs).length = n1 := ho1.length
      have hk := containsEq_any a1 bo n1 m c1 cap' w.heap.size (rchL xs) ys w1 ho1.at (by omega) hy1 hw1 hc1
      rw [← Hcb.out] at hk
      clear ho1 hb1 hb1'
      have Hk := Lib.hid hk; clear hk
      have Hl1 := Lib.hid hl1; clear hl1
      go_wp2_with fail
      with_reducible refine (isSand_yes _ _ _ _ _ hy1 (sand_iff.1 Hg2.out)).mono ?_
      rintro e w' ⟨rfl, rfl⟩
      go_wp2_with fail
      with_reducible refine (Hk.out).mono ?_
      rintro e w2 ⟨rfl, hb2⟩
      have hbg := belowTrans hbf hb2 (Nat.le_refl _)
      go_wp2
      go_ret2
      rw [Hm.out]
      exact ⟨rfl, hbg⟩
  · rw [mReach_no2 hok] at hcon
    have hm : mCanReach xs ys = (false, false) := by
      cases hg2 : sandB ys
      · exact mCan_no2 hg2
      · rw [mCan_yes hg hg2, decide_eq_false hok]
        have : canB xs ys = false := by unfold canB; rw [rchL_no hok]; simp
        rw [this]
    have Hg := Lib.hid hg; clear hg
    have Hm := Lib.hid hm; clear hm
    have Hcon := Lib.hid hcon; clear hcon
    have Hba := Lib.hid hba; clear hba
    have Hcell := Lib.hid hcell; clear hcell
    have Hsz := Lib.hid hsz; clear hsz
    have Hok := Lib.hid hok; clear hok
    go_enter Try.func37, Try.ntmps37
    go_wp2_with fail
    with_reducible refine (Hcon.out).mono ?_
    rintro e w1 ⟨a1, n1, c1, rfl, ho1, hb1⟩
    have hbf := belowTrans Hba.out hb1 (Nat.le_refl _)
    clear ho1
    go_wp2
    go_ret2
    rw [Hm.out]
    exact ⟨rfl, hbf⟩

theorem reaches_any (ao : Option Addr) (n cap : Nat) (xs : List Int) (bo : Option Addr) (m cap' : Nat) (ys : List Int) (w : World) (h : IntsAt w ao n cap xs) (h' : IntsAt w bo m cap' ys) :
    Calls Try.prog 80 #[.slice ao n cap, .slice bo m cap'] w fun e w' => e = .returned (.bool (reaB xs ys)) ∧ Below w.heap.size w w' := by
  have hcon := impl_CanReach ao n cap xs bo m cap' ys w h h'
  have hr : reaB xs ys = ((mCanReach xs ys).2 && (mCanReach xs ys).1) := by
    cases hg : sandB xs
    · rw [mCan_no1 hg, reaB_no1 hg]; rfl
    · cases hg2 : sandB ys
      · rw [mCan_no2 hg2, reaB_no2 hg2]; rfl
      · rw [mCan_yes hg hg2, reaB_yes hg hg2]
        by_cases hok : okR xs
        · rw [decide_eq_true hok]; simp
        · have : canB xs ys = false := by unfold canB; rw [rchL_no hok]; simp
          rw [this]; simp
  generalize mCanReach xs ys = M at *
  obtain ⟨b1, b2⟩ := M
  have Hcon := Lib.hid hcon; clear hcon
  have Hr := Lib.hid hr; clear hr
  go_enter Try.func80, Try.ntmps80
  go_wp2_with fail
  with_reducible refine (Hcon.out).mono ?_
  rintro e w1 ⟨rfl, hb1⟩
  cases b2
  · go_wp2
    go_ret
    exact ⟨by rw [Hr.out]; rfl, hb1⟩
  · go_wp2
    go_ret
    exact ⟨by rw [Hr.out]; simp, hb1⟩

theorem impl_FallsBetween (ao : Option Addr) (n cap : Nat) (xs : List Int) (bo : Option Addr) (m cap' : Nat) (ys : List Int) (w : World) (h : IntsAt w ao n cap xs) (h' : IntsAt w bo m cap' ys) :
    Calls Try.prog 40 #[.slice ao n cap, .slice bo m cap'] w fun e w' => e = .returned (.tuple #[.int .i64 (mFallsBetween xs ys).1, .bool (mFallsBetween xs ys).2]) ∧ Below w.heap.size w w' := by
  have hcon := reaches_any ao n cap xs bo m cap' ys w h h'
  cases hr : reaB xs ys
  · rw [hr] at hcon
    have hm := mFB_no hr
    have Hcon := Lib.hid hcon; clear hcon
    have Hr := Lib.hid hr; clear hr
    have Hm := Lib.hid hm; clear hm
    go_enter Try.func40, Try.ntmps40
    go_wp2_with fail
    with_reducible refine (Hcon.out).mono ?_
    rintro e w1 ⟨rfl, hb1⟩
    go_wp2
    go_ret2
    rw [Hm.out]
    exact ⟨rfl, hb1⟩
  · rw [hr] at hcon
    have hm := mFB_yes hr
    obtain ⟨hS, hS2, _, _⟩ := reaB_iff.1 hr
    have hw1 := hS.grains.wt
    have hw2 := hS2.grains.wt
    have hwa := fun W hh => impl_WeightOf ao n cap xs W hh
    have hwb := fun W hh => impl_WeightOf bo m cap' ys W hh
    rw [mWeight_yes (sand_iff.2 hS)] at hwa
    rw [mWeight_yes (sand_iff.2 hS2)] at hwb
    generalize wt 0 xs = p at *
    generalize wt 0 ys = q at *
    have Hcon := Lib.hid hcon; clear hcon
    have Hr := Lib.hid hr; clear hr
    have Hm := Lib.hid hm; clear hm
    have HS := Lib.hid hS; clear hS
    have HS2 := Lib.hid hS2; clear hS2
    have Hwa := Lib.hid hwa; clear hwa
    have Hwb := Lib.hid hwb; clear hwb
    go_enter Try.func40, Try.ntmps40
    go_wp2_with fail
    with_reducible refine (Hcon.out).mono ?_
    rintro e w1 ⟨rfl, hb1⟩
    go_wp2_with fail
    with_reducible refine (Hwa.out _ (h.keep hb1)).mono ?_
    rintro e w2 ⟨rfl, hb2⟩
    have hb12 := belowTrans hb1 hb2 (Nat.le_refl _)
    go_wp2_with fail
    with_reducible refine (Hwb.out _ (h'.keep hb12)).mono ?_
    rintro e w3 ⟨rfl, hb3⟩
    have hb13 := belowTrans hb12 hb3 (Nat.le_refl _)
    go_wp2
    go_ret2
    rw [Hm.out]
    exact ⟨rfl, hb13⟩
end Go.Proofs.Ythhhgmkjjagmaaa
