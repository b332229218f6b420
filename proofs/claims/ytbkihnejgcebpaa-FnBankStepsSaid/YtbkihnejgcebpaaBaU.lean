/- Chapter 7: bank states from ages, by the program and by its specification. No condition. -/
import Derived.Test.YtbkihnejgcebpaaBaS
import Derived.Test.YtbkihnejgcebpaaBaA
import Derived.Test.YtbkihnejgcebpaaBaJ
namespace Go.Proofs.Ytbkihnejgcebpaa
open Go.RowKit
set_option linter.unusedVariables false
set_option linter.unusedSimpArgs false
set_option maxRecDepth 20000

theorem mFA_no1 {h l : Int} {ages : List Int} (hh : ¬ (1 ≤ h ∧ h ≤ 10)) : mFromAges h l ages = (noBk, false) := by unfold mFromAges; rw [if_neg (fun q => hh q.1.1)]
theorem mFA_no2 {h l : Int} {ages : List Int} (hh : ¬ ((ages.length : Int) = h)) : mFromAges h l ages = (noBk, false) := by unfold mFromAges; rw [if_neg (fun q => hh q.1.2.1)]
theorem mFA_no3 {h l : Int} {ages : List Int} (hh : ¬ agesOk ages) : mFromAges h l ages = (noBk, false) := by unfold mFromAges; rw [if_neg (fun q => hh q.1.2.2)]
theorem mFA_no4 {h l : Int} {ages : List Int} (hh : bankB ⟨h, l, fromA h ages ages.length⟩ = false) : mFromAges h l ages = (noBk, false) := by unfold mFromAges; rw [if_neg (fun q => bank_no.1 hh q.2)]
theorem mFA_yes {h l : Int} {ages : List Int} (h1 : 1 ≤ h ∧ h ≤ 10) (h2 : (ages.length : Int) = h) (h3 : agesOk ages) (hh : bankB ⟨h, l, fromA h ages ages.length⟩ = true) : mFromAges h l ages = (⟨h, l, fromA h ages ages.length⟩, true) := by unfold mFromAges; rw [if_pos ⟨⟨h1, h2, h3⟩, bank_iff.1 hh⟩]
theorem ages_getD {ages : List Int} {n : Nat} (hn : ages.length = n) (h : ∀ i, i < n → 0 ≤ ages.getD i 0 ∧ ages.getD i 0 ≤ 28) : agesOk ages := fun x hx => by
  obtain ⟨i, hi, rfl⟩ := List.mem_iff_getElem.1 hx
  have := h i (by omega)
  rwa [List.getD_eq_getElem?_getD, List.getElem?_eq_getElem hi, Option.getD_some] at this
theorem ages_bad {ages : List Int} {n i : Nat} (hn : ages.length = n) (hi : i < n) (h : ¬ (0 ≤ ages.getD i 0 ∧ ages.getD i 0 ≤ 28)) : ¬ agesOk ages := fun q => h (by
  have := q _ (List.getElem_mem (by omega : i < ages.length))
  rwa [List.getD_eq_getElem?_getD, List.getElem?_eq_getElem (by omega), Option.getD_some])
theorem fromA_len {h : Int} {ages : List Int} : ∀ k, (∀ i, i < k → 0 ≤ ages.getD i 0 ∧ ages.getD i 0 ≤ 28) → (fromA h ages k).length ≤ 28 * k
  | 0, _ => by simp [fromA]
  | k + 1, ho => by
    have ih := fromA_len (h := h) k (fun i hi => ho i (by omega))
    have hx := ho k (by omega)
    simp only [fromA, List.length_append, List.length_replicate]
    omega
theorem fromA_next (h : Int) {ages : List Int} {k m : Nat} (hm : ages.getD k 0 = (m : Int)) : fromA h ages (k + 1) = fromA h ages k ++ List.replicate m (h - k) := by
  show fromA h ages k ++ List.replicate (ages.getD k 0).toNat (h - k) = _
  rw [hm, Int.toNat_natCast]

/-- behind the append: what stands in the two blocks and in the row -/
theorem from_store {w wr w1 w4 : World} {h l : Int} {a a4 : Option Addr} {p c p4 c4 : Nat} {xs zs : List Int}
    (Kr : Blk wr w.heap.size 0 0 none 0 0 33) (Mr : Blk wr (w.heap.size + 1) h l a p c 33) (hor : Own (w.heap.size + 2) wr.heap.size wr a p c xs) (hbr : Below w.heap.size w wr) (hsr : w.heap.size + 2 ≤ wr.heap.size)
    (hb1 : Below wr.heap.size wr w1) (ho4 : Own (w.heap.size + 2) w4.heap.size w4 a4 p4 c4 zs) (hch : Chg (fun k => (Value.slice a p c).ownBlock = some k) w1 w4) :
    Blk w4 (w.heap.size + 1) h l a p c 33 ∧ Blk (w4.setCell ⟨w.heap.size + 1, 2, none⟩ (.slice a4 p4 c4)) w.heap.size 0 0 none 0 0 33 ∧ Blk (w4.setCell ⟨w.heap.size + 1, 2, none⟩ (.slice a4 p4 c4)) (w.heap.size + 1) h l a4 p4 c4 33 ∧
      Own (w.heap.size + 2) (w4.setCell ⟨w.heap.size + 1, 2, none⟩ (.slice a4 p4 c4)).heap.size (w4.setCell ⟨w.heap.size + 1, 2, none⟩ (.slice a4 p4 c4)) a4 p4 c4 zs ∧ Below w.heap.size w (w4.setCell ⟨w.heap.size + 1, 2, none⟩ (.slice a4 p4 c4)) ∧ w.heap.size + 2 ≤ (w4.setCell ⟨w.heap.size + 1, 2, none⟩ (.slice a4 p4 c4)).heap.size := by
  have hge : ∀ g, (Value.slice a p c).ownBlock = some g → w.heap.size + 2 ≤ g := fun g hg => (hor.1.lt g hg).1
  have hns : ∀ g, g < w.heap.size + 2 → ¬ (Value.slice a p c).ownBlock = some g := fun g hg e => by have := hge g e; omega
  have k4 := (Kr.keep hb1).chg hch (hns _ (by omega))
  have m4 := (Mr.keep hb1).chg hch (hns _ (by omega))
  have s1 := hb1.size
  have hb4 : Below (w.heap.size + 2) w1 w4 := (hor.keep hb1).chgBelow hch (by omega)
  have hb5 := ((belowTrans hbr hb1 (by omega)).trans (hb4.mono (by omega))).setCell (p := ⟨w.heap.size + 1, 2, none⟩) (by show w.heap.size ≤ w.heap.size + 1; omega) (.slice a4 p4 c4)
  have hs4 : w.heap.size + 2 ≤ w4.heap.size := Nat.le_trans (by omega) hb4.size
  have ho5 := ho4.offCell (R := w.heap.size + 1) (by omega) 2 (.slice a4 p4 c4)
  exact ⟨m4, k4.chg (chgCell w4 (w.heap.size + 1) 2 (.slice a4 p4 c4)) (by omega), m4.set2 a4 p4 c4, by simpa using ho5, hb5, by simpa using hs4⟩
/-- the end: the bank state, or none, is stored in the result's cell -/
theorem from_end {w w2 : World} {h l : Int} {a : Option Addr} {p c : Nat} {xs : List Int} (ho : Own (w.heap.size + 2) w2.heap.size w2 a p c xs) (hb : Below w.heap.size w w2) (h' l' : Int) (a' : Option Addr) (p' c' : Nat) :
    Own w.heap.size (((w2.setCell ⟨w.heap.size, 0, none⟩ (.int .i64 h')).setCell ⟨w.heap.size, 1, none⟩ (.int .i64 l')).setCell ⟨w.heap.size, 2, none⟩ (.slice a' p' c')).heap.size (((w2.setCell ⟨w.heap.size, 0, none⟩ (.int .i64 h')).setCell ⟨w.heap.size, 1, none⟩ (.int .i64 l')).setCell ⟨w.heap.size, 2, none⟩ (.slice a' p' c')) a p c xs ∧
      Below w.heap.size w (((w2.setCell ⟨w.heap.size, 0, none⟩ (.int .i64 h')).setCell ⟨w.heap.size, 1, none⟩ (.int .i64 l')).setCell ⟨w.heap.size, 2, none⟩ (.slice a' p' c')) := by
  constructor
  · have := ((((ho.offCell (R := w.heap.size) (by omega) 0 (.int .i64 h')).offCell (R := w.heap.size) (by omega) 1 (.int .i64 l')).offCell (R := w.heap.size) (by omega) 2 (.slice a' p' c'))).mono (show w.heap.size ≤ w.heap.size + 2 by omega) (Nat.le_refl _)
    simpa using this
  · exact (((hb.setCell (p := ⟨w.heap.size, 0, none⟩) (Nat.le_refl _) (.int .i64 h')).setCell (p := ⟨w.heap.size, 1, none⟩) (Nat.le_refl _) (.int .i64 l')).setCell (p := ⟨w.heap.size, 2, none⟩) (Nat.le_refl _) (.slice a' p' c'))

set_option maxHeartbeats 6400000 in
theorem impl_FromAges (h l : Int) (ao : Option Addr) (n cap : Nat) (xs : List Int) (w : World) (hA : IntsAt w ao n cap xs) :
    Calls Try.prog 25 #[.int .i64 h, .int .i64 l, .slice ao n cap] w fun e w' => ∃ ao' n' cap', e = .returned (.tuple #[.agg #[.int .i64 (mFromAges h l xs).1.h, .int .i64 (mFromAges h l xs).1.l, .slice ao' n' cap'], .bool (mFromAges h l xs).2]) ∧ Own w.heap.size w'.heap.size w' ao' n' cap' (mFromAges h l xs).1.p ∧ Below w.heap.size w w' := by
  have hb1 := belowAlloc w (.cells #[.int .i64 0, .int .i64 0, .slice none 0 0] 33)
  have k1 := Blk.new w 0 0 none 0 0 33
  have hn := hA.length
  by_cases hh : 1 ≤ h ∧ h ≤ 10
  · have h1 := fun W => isHeight_yes h W hh
    by_cases hl : (n : Int) = h
    · subst hl
      have hn10 : n ≤ 10 := by omega
      have hn1 : 1 ≤ n := by omega
      have hnn : ((n : Int) != (n : Int)) = false := by simp
      obtain ⟨qm, hmq⟩ : ∃ q, mFromAges (n : Int) l xs = q := ⟨_, rfl⟩
      have hb2 := belowTrans hb1 (belowAlloc _ (.cells #[.int .i64 (n : Int), .int .i64 l, .slice none 0 0] 33)) (Nat.le_refl _)
      have k2 := k1.keep (belowAlloc _ (.cells #[.int .i64 (n : Int), .int .i64 l, .slice none 0 0] 33))
      have m2 := Blk.new (w.alloc (.cells #[.int .i64 0, .int .i64 0, .slice none 0 0] 33)) (n : Int) l none 0 0 33
      rw [show (w.alloc (.cells #[.int .i64 0, .int .i64 0, .slice none 0 0] 33)).heap.size = w.heap.size + 1 by simp] at m2
      have hs2 : ((w.alloc (.cells #[.int .i64 0, .int .i64 0, .slice none 0 0] 33)).alloc (.cells #[.int .i64 (n : Int), .int .i64 l, .slice none 0 0] 33)).heap.size = w.heap.size + 2 := by simp
      rw [hmq]
      clear hb1 k1
      have H1 := Lib.hid h1; clear h1
      have Hh := Lib.hid hh; clear hh
      have Hb2 := Lib.hid hb2; clear hb2
      have K2 := Lib.hid k2; clear k2
      have M2 := Lib.hid m2; clear m2
      have HA := Lib.hid hA; clear hA
      have Hs2 := Lib.hid hs2; clear hs2
      have Hmq := Lib.hid hmq; clear hmq
      have Hn := Lib.hid hn; clear hn
      go_enter Try.func25, Try.ntmps25
      go_wp2_with fail
      with_reducible refine ((H1.out _)).mono ?_
      rintro e w' ⟨rfl, rfl⟩
      go_wp2_with fail
      go_loopw [26] (fun x wr => ∃ (k : Nat) (a : Option Addr) (p c : Nat), k ≤ n ∧ x = .int .i64 k ∧ Hid (Blk wr w.heap.size 0 0 none 0 0 33) ∧ Hid (Blk wr (w.heap.size + 1) (n : Int) l a p c 33) ∧ Own (w.heap.size + 2) wr.heap.size wr a p c (fromA n xs k) ∧ Hid (Below w.heap.size w wr) ∧ w.heap.size + 2 ≤ wr.heap.size ∧ Hid (∀ i, i < k → 0 ≤ xs.getD i 0 ∧ xs.getD i 0 ≤ 28)) (fun x _ => n - (intOf x).toNat)
      case atStart => exact ⟨0, none, 0, 0, Nat.zero_le _, rfl, K2, M2, Own.nil _ _ _, Hb2, by rw [Hs2.out]; exact Nat.le_refl _, Lib.hid (fun i hi => absurd hi (Nat.not_lt_zero _))⟩
      case round =>
        obtain ⟨k, a, p, c, hkn, rfl, Kr, Mr, hor, Hbr, hsr, Hok⟩ := hrel
        clear K2 M2 Hb2 Hs2
        have hlp := hor.length
        have hpl := fromA_len (h := (n : Int)) k Hok.out
        rw [hlp] at hpl
        have Hlp := Lib.hid hlp; clear hlp
        obtain ⟨⟨x0, x1, x2⟩, y0, y1, y2⟩ := Mr.out.cells
        obtain ⟨⟨u0, u1, u2⟩, v0, v1, v2⟩ := Kr.out.cells
        by_cases hlt : k < n
        · obtain ⟨b, o, rfl, hbl, hc⟩ := (HA.out.keep Hbr.out).cell k hlt
          have hck := hc k hlt
          clear hc hbl
          by_cases hx : 0 ≤ xs.getD k 0 ∧ xs.getD k 0 ≤ 28
          · have h2 := fun W => inRange_yes (xs.getD k 0) 28 W hx
            have hstep := fun (m : Nat) (e : xs.getD k 0 = (m : Int)) => fromA_next (n : Int) e
            have hok2 : ∀ i, i < k + 1 → 0 ≤ xs.getD i 0 ∧ xs.getD i 0 ≤ 28 := fun i hi => by
              by_cases e : i = k
              · subst e; exact hx
              · exact Hok.out i (by omega)
            obtain ⟨m, hm0⟩ := Int.eq_ofNat_of_zero_le hx.1
            have hm28 : m ≤ 28 := by omega
            have hst := hstep m hm0
            rw [hm0] at h2 hck
            have hrep := fun g W => repeat_any ((n : Int) - (k : Int)) m g W hm28
            have hWd : Below wr.heap.size wr (wr.alloc (.cells #[.int .i64 ((n : Int) - (k : Int))] 3)).drew := belowDrewN (belowAlloc wr _) 1
            have hcell : (wr.alloc (.cells #[.int .i64 ((n : Int) - (k : Int))] 3)).drew.cell? ⟨wr.heap.size, 0, none⟩ = some (.int .i64 ((n : Int) - (k : Int))) := by
              have : (wr.alloc (.cells #[.int .i64 ((n : Int) - (k : Int))] 3)).cell? ⟨wr.heap.size, 0, none⟩ = some (.int .i64 ((n : Int) - (k : Int))) := by rw [World.cell?_alloc_at _ _ _ _ rfl]; rfl
              exact this
            have hrep1 := hrep wr.heap.size _ hcell (by simp)
            have hMd := (Mr.out.keep hWd).cells
            have hwrap : IntKind.i64.wrap ((n : Int) - (k : Int)) = (n : Int) - (k : Int) := IntWalk.i64_in _ (by omega)
            clear hrep hstep hcell hx hm0 Hok
            obtain ⟨⟨q0, q1, q2⟩, r0, r1, r2⟩ := hMd
            have H2 := Lib.hid h2; clear h2
            have Hst := Lib.hid hst; clear hst
            have Hok2 := Lib.hid hok2; clear hok2
            have Hrep1 := Lib.hid hrep1; clear hrep1
            have HWd := Lib.hid hWd; clear hWd
            have Hor := Lib.hid hor; clear hor
            go_wp2_with fail
            with_reducible refine ((H2.out _)).mono ?_
            rintro e w' ⟨rfl, rfl⟩
            go_wp2
            go_region_law (first | (go_simp; with_reducible refine (Hrep1.out).mono ?_; rintro e w1 ⟨a1, c1, rfl, ho1, hb1⟩; have hb9 := belowTrans HWd.out hb1 (Nat.le_refl _); have ho9 := Hor.out.keep hb9; obtain ⟨⟨s0, s1, s2⟩, t0, t1, t2⟩ := (Mr.out.keep hb9).cells; have hat := ho1.at; have hs9 := hb9.size; clear ho1 hb1) | (refine step_cat w1 rfl (.tmp 36) (.tmp 42) rfl (w.heap.size + 2) wr.heap.size a p c (fromA n xs k) rfl ho9 a1 m c1 (List.replicate m ((n : Int) - (k : Int))) rfl hat (by omega) (by omega) ?_; intro a4 c4 w4 ho4 hch; obtain ⟨m4, k5, m5, ho5, hb5, hs5⟩ := from_store Kr.out Mr.out Hor.out Hbr.out hsr hb9 ho4 hch; obtain ⟨⟨l0, l1, l2⟩, j0, j1, j2⟩ := m4.cells; have K5 := Lib.hid k5; have M5 := Lib.hid m5; have Ho5 := Lib.hid ho5; have Hb5 := Lib.hid hb5; have Hs5 := Lib.hid hs5; clear k5 m5 ho5 hb5 hs5 m4 ho4 hch hat ho9))
            all_goals
              go_wp2
              go_roundw
              case rel => exact ⟨k + 1, a4, p + m, c4, by omega, by go_num, K5, M5, by rw [Hst.out]; exact Ho5.out, Hb5, Hs5.out, Hok2⟩
              case measure => simp [intOf]; omega
          · have h2 := fun W => inRange_no (xs.getD k 0) 28 W hx
            have hmm : qm = (noBk, false) := by rw [← Hmq.out]; exact mFA_no3 (ages_bad Hn.out hlt hx)
            subst hmm
            generalize xs.getD k 0 = x at *
            obtain ⟨e1, e2⟩ := from_end (h := 0) (l := 0) hor Hbr.out 0 0 none 0 0
            have e3 := Own.nil w.heap.size (((wr.setCell ⟨w.heap.size, 0, none⟩ (.int .i64 0)).setCell ⟨w.heap.size, 1, none⟩ (.int .i64 0)).setCell ⟨w.heap.size, 2, none⟩ (.slice none 0 0)).heap.size (((wr.setCell ⟨w.heap.size, 0, none⟩ (.int .i64 0)).setCell ⟨w.heap.size, 1, none⟩ (.int .i64 0)).setCell ⟨w.heap.size, 2, none⟩ (.slice none 0 0))
            clear hor e1
            have H2 := Lib.hid h2; clear h2
            have E2 := Lib.hid e2; clear e2
            have E3 := Lib.hid e3; clear e3
            have Hx := Lib.hid hx; clear hx
            go_wp2_with fail
            with_reducible refine ((H2.out _)).mono ?_
            rintro e w' ⟨rfl, rfl⟩
            go_wp2
            refine bodyPost_ret (v := .tuple #[.agg #[.int .i64 0, .int .i64 0, .slice none 0 0], .bool false]) ?_ rfl ⟨none, 0, 0, rfl, E3.out, E2.out⟩
            rw [results_cell_tmp rfl]
            simp [go_sem, asAddr, Result.andThen, loadVar, *]
        · obtain rfl : k = n := by omega
          have hcon := isBank_any (k : Int) l a p c _ wr hor.at
          have hok := ages_getD Hn.out Hok.out
          unfold bankV at hcon
          have hfin : ∀ w2, Below wr.heap.size wr w2 → Own (w.heap.size + 2) w2.heap.size w2 a p c (fromA k xs k) ∧ Below w.heap.size w w2 ∧ Blk w2 w.heap.size 0 0 none 0 0 33 ∧ Blk w2 (w.heap.size + 1) (k : Int) l a p c 33 := fun w2 hb => ⟨(hor.keep hb).mono (Nat.le_refl _) hb.size, belowTrans Hbr.out hb (by omega), Kr.out.keep hb, Mr.out.keep hb⟩
          cases hB : bankB ⟨(k : Int), l, fromA k xs k⟩
          · have hmm : qm = (noBk, false) := by rw [← Hmq.out]; exact mFA_no4 (by rw [Hn.out]; exact hB)
            subst hmm
            rw [hB] at hcon
            have Hcon := Lib.hid hcon; clear hcon
            have Hfin := Lib.hid hfin; clear hfin
            have Hok := Lib.hid hok; clear hok
            have HB := Lib.hid hB; clear hB
            have Hor := Lib.hid hor; clear hor
            go_wp2_with fail
            with_reducible refine (Hcon.out).mono ?_
            rintro e w2 ⟨rfl, hb2⟩
            obtain ⟨o2, b2, kk2, mm2⟩ := Hfin.out w2 hb2
            clear x0 x1 x2 y0 y1 y2 u0 u1 u2 v0 v1 v2 hb2
            obtain ⟨⟨x0, x1, x2⟩, y0, y1, y2⟩ := mm2.cells
            obtain ⟨⟨u0, u1, u2⟩, v0, v1, v2⟩ := kk2.cells
            obtain ⟨e1, e2⟩ := from_end (h := 0) (l := 0) o2 b2 0 0 none 0 0
            have e3 := Own.nil w.heap.size (((w2.setCell ⟨w.heap.size, 0, none⟩ (.int .i64 0)).setCell ⟨w.heap.size, 1, none⟩ (.int .i64 0)).setCell ⟨w.heap.size, 2, none⟩ (.slice none 0 0)).heap.size (((w2.setCell ⟨w.heap.size, 0, none⟩ (.int .i64 0)).setCell ⟨w.heap.size, 1, none⟩ (.int .i64 0)).setCell ⟨w.heap.size, 2, none⟩ (.slice none 0 0))
            clear o2 b2 kk2 mm2 e1
            have E2 := Lib.hid e2; clear e2
            have E3 := Lib.hid e3; clear e3
            go_wp2
            refine bodyPost_ret (v := .tuple #[.agg #[.int .i64 0, .int .i64 0, .slice none 0 0], .bool false]) ?_ rfl ⟨none, 0, 0, rfl, E3.out, E2.out⟩
            rw [results_cell_tmp rfl]
            simp [go_sem, asAddr, Result.andThen, loadVar, *]
          · have hmm : qm = (⟨(k : Int), l, fromA k xs k⟩, true) := by
              rw [← Hmq.out]
              have := mFA_yes (l := l) (h := (k : Int)) (ages := xs) Hh.out (by rw [Hn.out]) hok (by rw [Hn.out]; exact hB)
              rwa [Hn.out] at this
            subst hmm
            rw [hB] at hcon
            have Hcon := Lib.hid hcon; clear hcon
            have Hfin := Lib.hid hfin; clear hfin
            have Hok := Lib.hid hok; clear hok
            have HB := Lib.hid hB; clear hB
            have Hor := Lib.hid hor; clear hor
            go_wp2_with fail
            with_reducible refine (Hcon.out).mono ?_
            rintro e w2 ⟨rfl, hb2⟩
            obtain ⟨o2, b2, kk2, mm2⟩ := Hfin.out w2 hb2
            clear x0 x1 x2 y0 y1 y2 u0 u1 u2 v0 v1 v2 hb2
            obtain ⟨⟨x0, x1, x2⟩, y0, y1, y2⟩ := mm2.cells
            obtain ⟨⟨u0, u1, u2⟩, v0, v1, v2⟩ := kk2.cells
            obtain ⟨e1, e2⟩ := from_end (h := 0) (l := 0) o2 b2 (k : Int) l a p c
            clear o2 b2 kk2 mm2
            have E1 := Lib.hid e1; clear e1
            have E2 := Lib.hid e2; clear e2
            go_wp2
            refine bodyPost_ret (v := .tuple #[.agg #[.int .i64 (k : Int), .int .i64 l, .slice a p c], .bool true]) ?_ rfl ⟨a, p, c, rfl, E1.out, E2.out⟩
            rw [results_cell_tmp rfl]
            simp [go_sem, asAddr, Result.andThen, loadVar, *]
    · rw [mFA_no2 (by rw [hn]; exact hl)]
      have hnn : ((n : Int) != h) = true := by simpa using hl
      clear k1
      have H1 := Lib.hid h1; clear h1
      have Hb1 := Lib.hid hb1; clear hb1
      have Hh := Lib.hid hh; clear hh
      have Hl := Lib.hid hl; clear hl
      go_enter Try.func25, Try.ntmps25
      go_wp2_with fail
      with_reducible refine ((H1.out _)).mono ?_
      rintro e w' ⟨rfl, rfl⟩
      go_wp2
      refine bodyPost_ret (v := .tuple #[.agg #[.int .i64 0, .int .i64 0, .slice none 0 0], .bool false]) ?_ rfl ⟨none, 0, 0, rfl, Own.nil _ _ _, Hb1.out⟩
      rw [results_cell_tmp rfl]
      simp [go_sem, asAddr, Result.andThen, loadVar, *]
  · rw [mFA_no1 hh]
    have h1 := fun W => isHeight_no h W hh
    clear k1
    have H1 := Lib.hid h1; clear h1
    have Hb1 := Lib.hid hb1; clear hb1
    have Hh := Lib.hid hh; clear hh
    go_enter Try.func25, Try.ntmps25
    go_wp2_with fail
    with_reducible refine ((H1.out _)).mono ?_
    rintro e w' ⟨rfl, rfl⟩
    go_wp2
    refine bodyPost_ret (v := .tuple #[.agg #[.int .i64 0, .int .i64 0, .slice none 0 0], .bool false]) ?_ rfl ⟨none, 0, 0, rfl, Own.nil _ _ _, Hb1.out⟩
    rw [results_cell_tmp rfl]
    simp [go_sem, asAddr, Result.andThen, loadVar, *]

set_option maxHeartbeats 6400000 in
theorem spec_FromAges (h l : Int) (ao : Option Addr) (n cap : Nat) (xs : List Int) (w : World) (hA : IntsAt w ao n cap xs) :
    Calls Try.prog 27 #[.int .i64 h, .int .i64 l, .slice ao n cap] w fun e w' => ∃ ao' n' cap', e = .returned (.tuple #[.agg #[.int .i64 (mFromAges h l xs).1.h, .int .i64 (mFromAges h l xs).1.l, .slice ao' n' cap'], .bool (mFromAges h l xs).2]) ∧ Own w.heap.size w'.heap.size w' ao' n' cap' (mFromAges h l xs).1.p ∧ Below w.heap.size w w' := by
  have hb1 := belowAlloc w (.cells #[.int .i64 0, .int .i64 0, .slice none 0 0] 33)
  have k1 := Blk.new w 0 0 none 0 0 33
  have hn := hA.length
  by_cases hh : 1 ≤ h ∧ h ≤ 10
  · have h1 := fun W => baHeight_yes h W hh
    by_cases hl : (n : Int) = h
    · subst hl
      have hn10 : n ≤ 10 := by omega
      have hn1 : 1 ≤ n := by omega
      have hnn : ((n : Int) != (n : Int)) = false := by simp
      have hall := l1All_any ao n cap xs 0 28 _ (hA.keep hb1)
      by_cases hok : agesOk xs
      · have hokk : ∀ i, i < n → 0 ≤ xs.getD i 0 ∧ xs.getD i 0 ≤ 28 := fun i hi => by
          rw [List.getD_eq_getElem?_getD, List.getElem?_eq_getElem (by omega)]; exact hok _ (List.getElem_mem _)
        rw [decide_eq_true (show ∀ x ∈ xs, 0 ≤ x ∧ x ≤ 28 from hok)] at hall
        obtain ⟨qm, hmq⟩ : ∃ q, mFromAges (n : Int) l xs = q := ⟨_, rfl⟩
        have hb2 := belowTrans hb1 (belowAlloc _ (.cells #[.int .i64 (n : Int), .int .i64 l, .slice none 0 0] 33)) (Nat.le_refl _)
        have k2 := k1.keep (belowAlloc _ (.cells #[.int .i64 (n : Int), .int .i64 l, .slice none 0 0] 33))
        have m2 := Blk.new (w.alloc (.cells #[.int .i64 0, .int .i64 0, .slice none 0 0] 33)) (n : Int) l none 0 0 33
        rw [show (w.alloc (.cells #[.int .i64 0, .int .i64 0, .slice none 0 0] 33)).heap.size = w.heap.size + 1 by simp] at m2
        have hs2 : ((w.alloc (.cells #[.int .i64 0, .int .i64 0, .slice none 0 0] 33)).alloc (.cells #[.int .i64 (n : Int), .int .i64 l, .slice none 0 0] 33)).heap.size = w.heap.size + 2 := by simp
        rw [hmq]
        clear hb1 k1
        have H1 := Lib.hid h1; clear h1
        have Hh := Lib.hid hh; clear hh
        have Hb2 := Lib.hid hb2; clear hb2
        have K2 := Lib.hid k2; clear k2
        have M2 := Lib.hid m2; clear m2
        have HA := Lib.hid hA; clear hA
        have Hs2 := Lib.hid hs2; clear hs2
        have Hmq := Lib.hid hmq; clear hmq
        have Hn := Lib.hid hn; clear hn
        have Hall := Lib.hid hall; clear hall
        have Hok := Lib.hid hok; clear hok
        have Hokk := Lib.hid hokk; clear hokk
        go_enter Try.func27, Try.ntmps27
        go_wp2_with fail
        with_reducible refine ((H1.out _)).mono ?_
        rintro e w' ⟨rfl, rfl⟩
        go_wp2_with fail
        with_reducible refine ((Hall.out)).mono ?_
        rintro e w' ⟨rfl, rfl⟩
        go_wp2_with fail
        go_loopw [31] (fun x wr => ∃ (k : Nat) (a : Option Addr) (p c : Nat), k ≤ n ∧ x = .int .i64 k ∧ Hid (Blk wr w.heap.size 0 0 none 0 0 33) ∧ Hid (Blk wr (w.heap.size + 1) (n : Int) l a p c 33) ∧ Own (w.heap.size + 2) wr.heap.size wr a p c (fromA n xs k) ∧ Hid (Below w.heap.size w wr) ∧ w.heap.size + 2 ≤ wr.heap.size) (fun x _ => n - (intOf x).toNat)
        case atStart => exact ⟨0, none, 0, 0, Nat.zero_le _, rfl, K2, M2, Own.nil _ _ _, Hb2, by rw [Hs2.out]; exact Nat.le_refl _⟩
        case round =>
          obtain ⟨k, a, p, c, hkn, rfl, Kr, Mr, hor, Hbr, hsr⟩ := hrel
          clear K2 M2 Hb2 Hs2
          have hlp := hor.length
          have hpl := fromA_len (h := (n : Int)) k (fun i hi => Hokk.out i (by omega))
          rw [hlp] at hpl
          have Hlp := Lib.hid hlp; clear hlp
          by_cases hlt : k < n
          · obtain ⟨b, o, rfl, hbl, hc⟩ := (HA.out.keep Hbr.out).cell k hlt
            have hck := hc k hlt
            clear hc hbl
            have hx := Hokk.out k hlt
            obtain ⟨m, hm0⟩ := Int.eq_ofNat_of_zero_le hx.1
            have hm28 : m ≤ 28 := by omega
            have hst := fromA_next (n : Int) hm0
            rw [hm0] at hck
            clear hx hm0
            obtain ⟨wi, hwi⟩ : ∃ wi : World, wi = wr := ⟨_, rfl⟩
            subst hwi
            have hw0 : w.heap.size ≤ wi.heap.size := by omega
            have Hst := Lib.hid hst; clear hst
            go_wp2_with fail
            go_loopw [10] (fun x wr => ∃ (j : Nat) (a' : Option Addr) (p' c' : Nat), j ≤ m ∧ x = .int .i64 ((m : Int) - (j : Int)) ∧ Hid (Blk wr w.heap.size 0 0 none 0 0 33) ∧ Hid (Blk wr (w.heap.size + 1) (n : Int) l a' p' c' 33) ∧ Own (w.heap.size + 2) wr.heap.size wr a' p' c' (fromA n xs k ++ List.replicate j ((n : Int) - (k : Int))) ∧ Hid (Below w.heap.size w wr) ∧ w.heap.size + 2 ≤ wr.heap.size) (fun x _ => (intOf x).toNat)
            case atStart => exact ⟨0, a, p, c, Nat.zero_le _, valI (by omega), Kr, Mr, by rw [List.replicate_zero, List.append_nil]; exact hor, Hbr, hsr⟩
            case round =>
              obtain ⟨j, a', p', c', hjm, rfl, Kr', Mr', hor', Hbr', hsr'⟩ := hrel
              clear Kr Mr hor hck Hbr hsr
              have hlp' := hor'.length
              rw [List.length_append, List.length_replicate, Hlp.out] at hlp'
              have hp8 : p' ≤ 1000 := by omega
              have Hlp' := Lib.hid hlp'; clear hlp'
              by_cases hjl : j < m
              · have hgt : ((m : Int) - (j : Int)) > 0 := by omega
                obtain ⟨⟨x0, x1, x2⟩, y0, y1, y2⟩ := Mr'.out.cells
                go_wp2_with (at_builtin; refine wpList_push wr rfl _ _ rfl (w.heap.size + 2) _ a' p' c' _ rfl hor' ((n : Int) - (k : Int)) rfl (by omega) hsr' ?_)
                intro a4 c4 w4 ho4 hch
                obtain ⟨m4, k5, m5, ho5, hb5, hs5⟩ := from_store Kr'.out Mr'.out hor' Hbr'.out hsr' (Below.refl _ _) ho4 hch
                clear x0 x1 x2 y0 y1 y2 hor' Kr' Mr' Hbr' ho4 hch
                obtain ⟨⟨x0, x1, x2⟩, y0, y1, y2⟩ := m4.cells
                clear m4
                have K5 := Lib.hid k5; clear k5
                have M5 := Lib.hid m5; clear m5
                have Ho5 := Lib.hid ho5; clear ho5
                have Hb5 := Lib.hid hb5; clear hb5
                have Hs5 := Lib.hid hs5; clear hs5
                go_wp2
                go_roundw
                case rel => exact ⟨j + 1, a4, p' + 1, c4, by omega, by go_num, K5, M5, by rw [List.replicate_succ']; have := Ho5.out; simpa using this, Hb5, Hs5.out⟩
                case measure => simp [intOf]; omega
              · obtain rfl : j = m := by omega
                have hz : ((j : Int) - (j : Int)) = 0 := by omega
                rw [← Hst.out] at hor'
                have Hor' := Lib.hid hor'; clear hor'
                go_wp2
                go_roundw
                case rel => exact ⟨k + 1, a', p', c', by omega, by go_num, Kr', Mr', Hor'.out, Hbr', hsr'⟩
                case measure => simp [intOf]; omega
          · obtain rfl : k = n := by omega
            have hcon := baGood_any (k : Int) l a p c _ wr hor.at
            unfold bankV at hcon
            obtain ⟨⟨x0, x1, x2⟩, y0, y1, y2⟩ := Mr.out.cells
            have hfin : ∀ w2, Below wr.heap.size wr w2 → Own (w.heap.size + 2) w2.heap.size w2 a p c (fromA k xs k) ∧ Below w.heap.size w w2 ∧ Blk w2 w.heap.size 0 0 none 0 0 33 ∧ Blk w2 (w.heap.size + 1) (k : Int) l a p c 33 := fun w2 hb => ⟨(hor.keep hb).mono (Nat.le_refl _) hb.size, belowTrans Hbr.out hb (by omega), Kr.out.keep hb, Mr.out.keep hb⟩
            cases hB : bankB ⟨(k : Int), l, fromA k xs k⟩
            · have hmm : qm = (noBk, false) := by rw [← Hmq.out]; exact mFA_no4 (by rw [Hn.out]; exact hB)
              subst hmm
              rw [hB] at hcon
              have Hcon := Lib.hid hcon; clear hcon
              have Hfin := Lib.hid hfin; clear hfin
              have HB := Lib.hid hB; clear hB
              have Hor := Lib.hid hor; clear hor
              go_wp2_with fail
              with_reducible refine (Hcon.out).mono ?_
              rintro e w2 ⟨rfl, hb2⟩
              obtain ⟨o2, b2, kk2, mm2⟩ := Hfin.out w2 hb2
              clear x0 x1 x2 y0 y1 y2 hb2
              obtain ⟨⟨x0, x1, x2⟩, y0, y1, y2⟩ := mm2.cells
              obtain ⟨⟨u0, u1, u2⟩, v0, v1, v2⟩ := kk2.cells
              obtain ⟨e1, e2⟩ := from_end (h := 0) (l := 0) o2 b2 0 0 none 0 0
              have e3 := Own.nil w.heap.size (((w2.setCell ⟨w.heap.size, 0, none⟩ (.int .i64 0)).setCell ⟨w.heap.size, 1, none⟩ (.int .i64 0)).setCell ⟨w.heap.size, 2, none⟩ (.slice none 0 0)).heap.size (((w2.setCell ⟨w.heap.size, 0, none⟩ (.int .i64 0)).setCell ⟨w.heap.size, 1, none⟩ (.int .i64 0)).setCell ⟨w.heap.size, 2, none⟩ (.slice none 0 0))
              clear o2 b2 kk2 mm2 e1
              have E2 := Lib.hid e2; clear e2
              have E3 := Lib.hid e3; clear e3
              go_wp2
              refine bodyPost_ret (v := .tuple #[.agg #[.int .i64 0, .int .i64 0, .slice none 0 0], .bool false]) ?_ rfl ⟨none, 0, 0, rfl, E3.out, E2.out⟩
              rw [results_cell_tmp rfl]
              simp [go_sem, asAddr, Result.andThen, loadVar, *]
            · have hmm : qm = (⟨(k : Int), l, fromA k xs k⟩, true) := by
                rw [← Hmq.out]
                have := mFA_yes (l := l) (h := (k : Int)) (ages := xs) Hh.out (by rw [Hn.out]) Hok.out (by rw [Hn.out]; exact hB)
                rwa [Hn.out] at this
              subst hmm
              rw [hB] at hcon
              have Hcon := Lib.hid hcon; clear hcon
              have Hfin := Lib.hid hfin; clear hfin
              have HB := Lib.hid hB; clear hB
              have Hor := Lib.hid hor; clear hor
              go_wp2_with fail
              with_reducible refine (Hcon.out).mono ?_
              rintro e w2 ⟨rfl, hb2⟩
              obtain ⟨o2, b2, kk2, mm2⟩ := Hfin.out w2 hb2
              clear x0 x1 x2 y0 y1 y2 hb2
              obtain ⟨⟨x0, x1, x2⟩, y0, y1, y2⟩ := mm2.cells
              obtain ⟨⟨u0, u1, u2⟩, v0, v1, v2⟩ := kk2.cells
              obtain ⟨e1, e2⟩ := from_end (h := 0) (l := 0) o2 b2 (k : Int) l a p c
              clear o2 b2 kk2 mm2
              have E1 := Lib.hid e1; clear e1
              have E2 := Lib.hid e2; clear e2
              go_wp2
              refine bodyPost_ret (v := .tuple #[.agg #[.int .i64 (k : Int), .int .i64 l, .slice a p c], .bool true]) ?_ rfl ⟨a, p, c, rfl, E1.out, E2.out⟩
              rw [results_cell_tmp rfl]
              simp [go_sem, asAddr, Result.andThen, loadVar, *]
      · rw [decide_eq_false (show ¬ ∀ x ∈ xs, 0 ≤ x ∧ x ≤ 28 from hok)] at hall
        rw [mFA_no3 hok]
        clear k1
        have H1 := Lib.hid h1; clear h1
        have Hb1 := Lib.hid hb1; clear hb1
        have Hh := Lib.hid hh; clear hh
        have Hall := Lib.hid hall; clear hall
        have Hok := Lib.hid hok; clear hok
        go_enter Try.func27, Try.ntmps27
        go_wp2_with fail
        with_reducible refine ((H1.out _)).mono ?_
        rintro e w' ⟨rfl, rfl⟩
        go_wp2_with fail
        with_reducible refine ((Hall.out)).mono ?_
        rintro e w' ⟨rfl, rfl⟩
        go_wp2
        refine bodyPost_ret (v := .tuple #[.agg #[.int .i64 0, .int .i64 0, .slice none 0 0], .bool false]) ?_ rfl ⟨none, 0, 0, rfl, Own.nil _ _ _, Hb1.out⟩
        rw [results_cell_tmp rfl]
        simp [go_sem, asAddr, Result.andThen, loadVar, *]
    · rw [mFA_no2 (by rw [hn]; exact hl)]
      have hnn : ((n : Int) != h) = true := by simpa using hl
      clear k1
      have H1 := Lib.hid h1; clear h1
      have Hb1 := Lib.hid hb1; clear hb1
      have Hh := Lib.hid hh; clear hh
      have Hl := Lib.hid hl; clear hl
      go_enter Try.func27, Try.ntmps27
      go_wp2_with fail
      with_reducible refine ((H1.out _)).mono ?_
      rintro e w' ⟨rfl, rfl⟩
      go_wp2
      refine bodyPost_ret (v := .tuple #[.agg #[.int .i64 0, .int .i64 0, .slice none 0 0], .bool false]) ?_ rfl ⟨none, 0, 0, rfl, Own.nil _ _ _, Hb1.out⟩
      rw [results_cell_tmp rfl]
      simp [go_sem, asAddr, Result.andThen, loadVar, *]
  · rw [mFA_no1 hh]
    have h1 := fun W => baHeight_no h W hh
    clear k1
    have H1 := Lib.hid h1; clear h1
    have Hb1 := Lib.hid hb1; clear hb1
    have Hh := Lib.hid hh; clear hh
    go_enter Try.func27, Try.ntmps27
    go_wp2_with fail
    with_reducible refine ((H1.out _)).mono ?_
    rintro e w' ⟨rfl, rfl⟩
    go_wp2
    refine bodyPost_ret (v := .tuple #[.agg #[.int .i64 0, .int .i64 0, .slice none 0 0], .bool false]) ?_ rfl ⟨none, 0, 0, rfl, Own.nil _ _ _, Hb1.out⟩
    rw [results_cell_tmp rfl]
    simp [go_sem, asAddr, Result.andThen, loadVar, *]
end Go.Proofs.Ytbkihnejgcebpaa
