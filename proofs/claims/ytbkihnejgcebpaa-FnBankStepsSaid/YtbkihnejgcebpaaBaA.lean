/- Chapter 7: bank states told and counted. No condition. -/
import Derived.Test.YtbkihnejgcebpaaBaH
import Derived.Test.YtbkihnejgcebpaaBaN
import Derived.Test.YtbkihnejgcebpaaPileF
namespace Go.Proofs.Ytbkihnejgcebpaa
open Go.RowKit
set_option linter.unusedVariables false
set_option linter.unusedSimpArgs false
set_option maxRecDepth 20000

theorem bankNo {b : Bk} (h : ¬ BankOk b) : bankB b = false := bank_no.2 h
theorem bankYes {b : Bk} (h : BankOk b) : bankB b = true := bank_iff.2 h

set_option maxHeartbeats 800000 in
theorem cardsWith_any (h l : Int) (ao : Option Addr) (n cap : Nat) (xs : List Int) (w : World) (hA : IntsAt w ao n cap xs) (hG : Good xs) (hl : 0 ≤ l ∧ l ≤ 100) :
    Calls Try.prog 45 #[bankV h l ao n cap] w fun e w' => e = .returned (.int .i64 (l + xs.sum)) ∧ Below w.heap.size w w' := by
  have hb := belowAlloc w (bankC h l ao n cap 33)
  have hcon := fun nq => (sumOf_any ao n cap xs _ ((hA.keep hb).drewN nq) hG).mono fun _ _ ⟨a, b⟩ => And.intro a b.symm
  have hs0 := sum_nonneg hG.1
  have hs1 := hG.2.2
  unfold bankC at hb hcon
  generalize xs.sum = S at *
  have Hcon := Lib.hid hcon; clear hcon
  have Hb := Lib.hid hb; clear hb
  unfold bankV
  go_enter Try.func45, Try.ntmps45
  go_wp2_with fail
  go_quiet ((go_at_call 71; exact Calls.quiet_of_same (Hcon.out _)))
  go_wp2
  go_ret
  exact ⟨rfl, belowDrewN Hb.out _⟩
set_option maxHeartbeats 1600000 in
theorem isBank_any (h l : Int) (ao : Option Addr) (n cap : Nat) (xs : List Int) (w : World) (hA : IntsAt w ao n cap xs) :
    Calls Try.prog 22 #[bankV h l ao n cap] w fun e w' => e = .returned (.bool (bankB ⟨h, l, xs⟩)) ∧ Below w.heap.size w w' := by
  have hb := belowAlloc w (bankC h l ao n cap 33)
  have hA' := hA.keep hb
  by_cases h1 : 1 ≤ h ∧ h ≤ 10
  · have c1 := fun W => isHeight_yes h W h1
    by_cases h2 : 0 ≤ l ∧ l ≤ h - 1
    · have c2 := fun W => inRange_yes l (h - 1) W h2
      by_cases h3 : Good xs
      · have c3 := isPiles_yes ao n cap xs _ hA' h3
        have hn := hA.length
        have hn28 := h3.len
        have c4 := fun W (hW : IntsAt W ao n cap xs) => cardsWith_any h l ao n cap xs W hW h3 (by omega)
        have hs0 := sum_nonneg h3.1
        have hs1 := h3.2.2
        have hbk : bankB ⟨h, l, xs⟩ = decide (xs.getD 0 0 ≤ h ∧ l + xs.sum ≤ 28) := by
          
          by_cases q : xs.getD 0 0 ≤ h ∧ l + xs.sum ≤ 28
          · rw [decide_eq_true q, bankYes ⟨h1, h2, h3, q.1, q.2⟩]
          · rw [decide_eq_false q, bankNo fun z => q ⟨z.2.2.2.1, z.2.2.2.2⟩]
        rw [hbk]
        have hdrew := fun nq => hA'.drewN nq
        unfold bankC at hb c3 hdrew hA'
        unfold bankV at c4
        generalize xs.sum = S at *
        by_cases hz : n = 0
        · subst hz
          have hg0 : xs.getD 0 0 = 0 := by rw [List.getD_eq_getElem?_getD, List.getElem?_eq_none (by omega)]; rfl
          have hd : decide (xs.getD 0 0 ≤ h ∧ l + S ≤ 28) = decide (l + S ≤ 28) := by rw [hg0]; simp; omega
          rw [hd]
          have hgt : decide ((0 : Int) > 0) = false := by decide
          clear hd hg0 hbk hA hA'
          have C1 := Lib.hid c1; clear c1
          have C2 := Lib.hid c2; clear c2
          have C3 := Lib.hid c3; clear c3
          have C4 := Lib.hid c4; clear c4
          have Hb := Lib.hid hb; clear hb
          have Hdrew := Lib.hid hdrew; clear hdrew
          have Hn := Lib.hid hn; clear hn
          have H3 := Lib.hid h3; clear h3
          unfold bankV
          go_enter Try.func22, Try.ntmps22
          go_wp2_with fail
          with_reducible refine ((C1.out _)).mono ?_
          rintro e w' ⟨rfl, rfl⟩
          go_wp2_with fail
          with_reducible refine ((C2.out _)).mono ?_
          rintro e w' ⟨rfl, rfl⟩
          go_wp2_with fail
          with_reducible refine ((C3.out)).mono ?_
          rintro e w' ⟨rfl, rfl⟩
          go_wp2_with fail
          go_quiet (fail)
          go_wp2_with fail
          with_reducible refine (C4.out _ (Hdrew.out _)).mono ?_
          rintro e w1 ⟨rfl, hb1⟩
          have hbb := belowTrans (belowDrewN Hb.out _) hb1 (Nat.le_refl _)
          have Hbb := Lib.hid hbb; clear hbb
          go_wp2
          go_ret
          exact ⟨rfl, Hbb.out⟩
        · obtain ⟨b, o, rfl, hbl, hc⟩ := hA'.cell 0 (by omega)
          have hck := hc 0 (by omega)
          rw [Nat.add_zero] at hck
          have hgt : decide (0 < n) = true := by simp; omega
          clear hc hbl
          generalize xs.getD 0 0 = x at *
          by_cases hx : x ≤ h
          · have hd : decide (x ≤ h ∧ l + S ≤ 28) = decide (l + S ≤ 28) := by simp [hx]
            have hx2 : decide (h < x) = false := by simp; omega
            rw [hd]
            clear hd hbk hA hA'
            have C1 := Lib.hid c1; clear c1
            have C2 := Lib.hid c2; clear c2
            have C3 := Lib.hid c3; clear c3
            have C4 := Lib.hid c4; clear c4
            have Hb := Lib.hid hb; clear hb
            have Hdrew := Lib.hid hdrew; clear hdrew
            have Hn := Lib.hid hn; clear hn
            have H3 := Lib.hid h3; clear h3
            unfold bankV
            go_enter Try.func22, Try.ntmps22
            go_wp2_with fail
            with_reducible refine ((C1.out _)).mono ?_
            rintro e w' ⟨rfl, rfl⟩
            go_wp2_with fail
            with_reducible refine ((C2.out _)).mono ?_
            rintro e w' ⟨rfl, rfl⟩
            go_wp2_with fail
            with_reducible refine ((C3.out)).mono ?_
            rintro e w' ⟨rfl, rfl⟩
            go_wp2_with fail
            go_quiet (fail)
            go_wp2_with fail
            with_reducible refine (C4.out _ (Hdrew.out _)).mono ?_
            rintro e w1 ⟨rfl, hb1⟩
            have hbb := belowTrans (belowDrewN Hb.out _) hb1 (Nat.le_refl _)
            have Hbb := Lib.hid hbb; clear hbb
            go_wp2
            go_ret
            exact ⟨rfl, Hbb.out⟩
          · have hd : decide (x ≤ h ∧ l + S ≤ 28) = false := by simp [hx]
            have hx2 : decide (h < x) = true := by simp; omega
            rw [hd]
            clear hd hbk hA hA'
            have C1 := Lib.hid c1; clear c1
            have C2 := Lib.hid c2; clear c2
            have C3 := Lib.hid c3; clear c3
            have C4 := Lib.hid c4; clear c4
            have Hb := Lib.hid hb; clear hb
            have Hdrew := Lib.hid hdrew; clear hdrew
            have Hn := Lib.hid hn; clear hn
            have H3 := Lib.hid h3; clear h3
            unfold bankV
            go_enter Try.func22, Try.ntmps22
            go_wp2_with fail
            with_reducible refine ((C1.out _)).mono ?_
            rintro e w' ⟨rfl, rfl⟩
            go_wp2_with fail
            with_reducible refine ((C2.out _)).mono ?_
            rintro e w' ⟨rfl, rfl⟩
            go_wp2_with fail
            with_reducible refine ((C3.out)).mono ?_
            rintro e w' ⟨rfl, rfl⟩
            go_wp2_with fail
            go_quiet (fail)
            go_wp2
            go_ret
            exact ⟨rfl, belowDrewN Hb.out _⟩
      · have c3 := isPiles_no ao n cap xs _ hA' (by cases hq : goodB xs with | false => rfl | true => exact absurd (good_iff.1 hq) h3)
        rw [bankNo fun q => h3 q.2.2.1]
        unfold bankC at hb c3
        have C1 := Lib.hid c1; clear c1
        have C2 := Lib.hid c2; clear c2
        have C3 := Lib.hid c3; clear c3
        have Hb := Lib.hid hb; clear hb
        have H3 := Lib.hid h3; clear h3
        unfold bankV
        go_enter Try.func22, Try.ntmps22
        go_wp2_with fail
        with_reducible refine ((C1.out _)).mono ?_
        rintro e w' ⟨rfl, rfl⟩
        go_wp2_with fail
        with_reducible refine ((C2.out _)).mono ?_
        rintro e w' ⟨rfl, rfl⟩
        go_wp2_with fail
        with_reducible refine ((C3.out)).mono ?_
        rintro e w' ⟨rfl, rfl⟩
        go_wp2
        go_ret
        exact ⟨rfl, Hb.out⟩
    · have c2 := fun W => inRange_no l (h - 1) W h2
      rw [bankNo fun q => h2 q.2.1]
      unfold bankC at hb
      have C1 := Lib.hid c1; clear c1
      have C2 := Lib.hid c2; clear c2
      have Hb := Lib.hid hb; clear hb
      have H2 := Lib.hid h2; clear h2
      unfold bankV
      go_enter Try.func22, Try.ntmps22
      go_wp2_with fail
      with_reducible refine ((C1.out _)).mono ?_
      rintro e w' ⟨rfl, rfl⟩
      go_wp2_with fail
      with_reducible refine ((C2.out _)).mono ?_
      rintro e w' ⟨rfl, rfl⟩
      go_wp2
      go_ret
      exact ⟨rfl, Hb.out⟩
  · have c1 := fun W => isHeight_no h W h1
    rw [bankNo fun q => h1 q.1]
    unfold bankC at hb
    have C1 := Lib.hid c1; clear c1
    have Hb := Lib.hid hb; clear hb
    have H1 := Lib.hid h1; clear h1
    unfold bankV
    go_enter Try.func22, Try.ntmps22
    go_wp2_with fail
    with_reducible refine ((C1.out _)).mono ?_
    rintro e w' ⟨rfl, rfl⟩
    go_wp2
    go_ret
    exact ⟨rfl, Hb.out⟩
theorem l1In_t (a lo hi : Int) (w : World) (h : lo ≤ a ∧ a ≤ hi) : Calls Try.prog 64 #[.int .i64 a, .int .i64 lo, .int .i64 hi] w fun e w' => e = .returned (.bool true) ∧ w = w' := by
  have := l1In_any a lo hi w; rw [decide_eq_true h] at this; exact this
theorem l1In_f (a lo hi : Int) (w : World) (h : ¬ (lo ≤ a ∧ a ≤ hi)) : Calls Try.prog 64 #[.int .i64 a, .int .i64 lo, .int .i64 hi] w fun e w' => e = .returned (.bool false) ∧ w = w' := by
  have := l1In_any a lo hi w; rw [decide_eq_false h] at this; exact this
set_option maxHeartbeats 1600000 in
theorem baGood_any (h l : Int) (ao : Option Addr) (n cap : Nat) (xs : List Int) (w : World) (hA : IntsAt w ao n cap xs) :
    Calls Try.prog 40 #[bankV h l ao n cap] w fun e w' => e = .returned (.bool (bankB ⟨h, l, xs⟩)) ∧ Below w.heap.size w w' := by
  have hb := belowAlloc w (bankC h l ao n cap 33)
  have hA' := hA.keep hb
  by_cases h1 : 1 ≤ h ∧ h ≤ 10
  · have c1 := fun W => l1In_t h 1 10 W h1
    by_cases h2 : 0 ≤ l ∧ l ≤ h - 1
    · have c2 := fun W => l1In_t l 0 (h - 1) W h2
      by_cases h3 : Good xs
      · have c3 := piGood_yes ao n cap xs _ hA' h3
        have hn := hA.length
        have hn28 := h3.len
        have c4 := fun nq => (piSum_any ao n cap xs _ (hA'.drewN nq) h3).mono fun _ _ ⟨a, b⟩ => And.intro a b.symm
        have hs0 := sum_nonneg h3.1
        have hs1 := h3.2.2
        have hbk : bankB ⟨h, l, xs⟩ = decide (xs.getD 0 0 ≤ h ∧ l + xs.sum ≤ 28) := by
          
          by_cases q : xs.getD 0 0 ≤ h ∧ l + xs.sum ≤ 28
          · rw [decide_eq_true q, bankYes ⟨h1, h2, h3, q.1, q.2⟩]
          · rw [decide_eq_false q, bankNo fun z => q ⟨z.2.2.2.1, z.2.2.2.2⟩]
        rw [hbk]
        unfold bankC at hb c3 c4 hA'
        generalize xs.sum = S at *
        by_cases hz : n = 0
        · subst hz
          have hg0 : xs.getD 0 0 = 0 := by rw [List.getD_eq_getElem?_getD, List.getElem?_eq_none (by omega)]; rfl
          have hd : decide (xs.getD 0 0 ≤ h ∧ l + S ≤ 28) = decide (l + S ≤ 28) := by rw [hg0]; simp; omega
          rw [hd]
          have hgt : decide ((0 : Int) = 0) = true := by decide
          clear hd hg0 hbk hA hA'
          have C1 := Lib.hid c1; clear c1
          have C2 := Lib.hid c2; clear c2
          have C3 := Lib.hid c3; clear c3
          have C4 := Lib.hid c4; clear c4
          have Hb := Lib.hid hb; clear hb
          have Hn := Lib.hid hn; clear hn
          have H3 := Lib.hid h3; clear h3
          unfold bankV
          go_enter Try.func40, Try.ntmps40
          go_wp2_with fail
          with_reducible refine ((C1.out _)).mono ?_
          rintro e w' ⟨rfl, rfl⟩
          go_wp2_with fail
          with_reducible refine ((C2.out _)).mono ?_
          rintro e w' ⟨rfl, rfl⟩
          go_wp2_with fail
          with_reducible refine ((C3.out)).mono ?_
          rintro e w' ⟨rfl, rfl⟩
          go_wp2_with fail
          go_quiet ((go_at_call 41; exact Calls.quiet_of_same (C4.out _)))
          go_wp2
          go_ret
          exact ⟨rfl, belowDrewN Hb.out _⟩
        · obtain ⟨b, o, rfl, hbl, hc⟩ := hA'.cell 0 (by omega)
          have hck := hc 0 (by omega)
          rw [Nat.add_zero] at hck
          have hgt : decide (n = 0) = false := by simp; omega
          have hgt2 : decide (0 < n) = true := by simp; omega
          have hgt3 : 0 < n := by omega
          have hwr : IntKind.i64.wrap (l + S) = l + S := IntWalk.i64_in _ (by omega)
          clear hc hbl
          generalize xs.getD 0 0 = x at *
          by_cases hx : x ≤ h
          · have hd : decide (x ≤ h ∧ l + S ≤ 28) = decide (l + S ≤ 28) := by simp [hx]
            have hx2 : decide (x ≤ h) = true := by simp; omega
            rw [hd]
            clear hd hbk hA hA'
            have C1 := Lib.hid c1; clear c1
            have C2 := Lib.hid c2; clear c2
            have C3 := Lib.hid c3; clear c3
            have C4 := Lib.hid c4; clear c4
            have Hb := Lib.hid hb; clear hb
            have Hn := Lib.hid hn; clear hn
            have H3 := Lib.hid h3; clear h3
            unfold bankV
            go_enter Try.func40, Try.ntmps40
            go_wp2_with fail
            with_reducible refine ((C1.out _)).mono ?_
            rintro e w' ⟨rfl, rfl⟩
            go_wp2_with fail
            with_reducible refine ((C2.out _)).mono ?_
            rintro e w' ⟨rfl, rfl⟩
            go_wp2_with fail
            with_reducible refine ((C3.out)).mono ?_
            rintro e w' ⟨rfl, rfl⟩
            go_wp2_with fail
            go_quiet ((go_at_call 41; exact Calls.quiet_of_same (C4.out _)))
            go_wp2
            go_ret
            exact ⟨rfl, belowDrewN Hb.out _⟩
          · have hd : decide (x ≤ h ∧ l + S ≤ 28) = false := by simp [hx]
            have hx2 : decide (x ≤ h) = false := by simp; omega
            rw [hd]
            clear hd hbk hA hA'
            have C1 := Lib.hid c1; clear c1
            have C2 := Lib.hid c2; clear c2
            have C3 := Lib.hid c3; clear c3
            have C4 := Lib.hid c4; clear c4
            have Hb := Lib.hid hb; clear hb
            have Hn := Lib.hid hn; clear hn
            have H3 := Lib.hid h3; clear h3
            unfold bankV
            go_enter Try.func40, Try.ntmps40
            go_wp2_with fail
            with_reducible refine ((C1.out _)).mono ?_
            rintro e w' ⟨rfl, rfl⟩
            go_wp2_with fail
            with_reducible refine ((C2.out _)).mono ?_
            rintro e w' ⟨rfl, rfl⟩
            go_wp2_with fail
            with_reducible refine ((C3.out)).mono ?_
            rintro e w' ⟨rfl, rfl⟩
            go_wp2_with fail
            go_quiet (fail)
            go_wp2
            go_ret
            exact ⟨rfl, belowDrewN Hb.out _⟩
      · have c3 := piGood_no ao n cap xs _ hA' (by cases hq : goodB xs with | false => rfl | true => exact absurd (good_iff.1 hq) h3)
        rw [bankNo fun q => h3 q.2.2.1]
        unfold bankC at hb c3
        have C1 := Lib.hid c1; clear c1
        have C2 := Lib.hid c2; clear c2
        have C3 := Lib.hid c3; clear c3
        have Hb := Lib.hid hb; clear hb
        have H3 := Lib.hid h3; clear h3
        unfold bankV
        go_enter Try.func40, Try.ntmps40
        go_wp2_with fail
        with_reducible refine ((C1.out _)).mono ?_
        rintro e w' ⟨rfl, rfl⟩
        go_wp2_with fail
        with_reducible refine ((C2.out _)).mono ?_
        rintro e w' ⟨rfl, rfl⟩
        go_wp2_with fail
        with_reducible refine ((C3.out)).mono ?_
        rintro e w' ⟨rfl, rfl⟩
        go_wp2
        go_ret
        exact ⟨rfl, Hb.out⟩
    · have c2 := fun W => l1In_f l 0 (h - 1) W h2
      rw [bankNo fun q => h2 q.2.1]
      unfold bankC at hb
      have C1 := Lib.hid c1; clear c1
      have C2 := Lib.hid c2; clear c2
      have Hb := Lib.hid hb; clear hb
      have H2 := Lib.hid h2; clear h2
      unfold bankV
      go_enter Try.func40, Try.ntmps40
      go_wp2_with fail
      with_reducible refine ((C1.out _)).mono ?_
      rintro e w' ⟨rfl, rfl⟩
      go_wp2_with fail
      with_reducible refine ((C2.out _)).mono ?_
      rintro e w' ⟨rfl, rfl⟩
      go_wp2
      go_ret
      exact ⟨rfl, Hb.out⟩
  · have c1 := fun W => l1In_f h 1 10 W h1
    rw [bankNo fun q => h1 q.1]
    unfold bankC at hb
    have C1 := Lib.hid c1; clear c1
    have Hb := Lib.hid hb; clear hb
    have H1 := Lib.hid h1; clear h1
    unfold bankV
    go_enter Try.func40, Try.ntmps40
    go_wp2_with fail
    with_reducible refine ((C1.out _)).mono ?_
    rintro e w' ⟨rfl, rfl⟩
    go_wp2
    go_ret
    exact ⟨rfl, Hb.out⟩

/-! ### IsBank, BankCards -/
theorem impl_IsBank (h l : Int) (ao : Option Addr) (n cap : Nat) (xs : List Int) (w : World) (hA : IntsAt w ao n cap xs) :
    Calls Try.prog 22 #[bankV h l ao n cap] w fun e w' => e = .returned (.bool (bankB ⟨h, l, xs⟩)) ∧ Below w.heap.size w w' := isBank_any h l ao n cap xs w hA
set_option maxHeartbeats 800000 in
theorem impl_BankCards (h l : Int) (ao : Option Addr) (n cap : Nat) (xs : List Int) (w : World) (hA : IntsAt w ao n cap xs) :
    Calls Try.prog 23 #[bankV h l ao n cap] w fun e w' => e = .returned (.tuple #[.int .i64 (mBankCards ⟨h, l, xs⟩).1, .bool (mBankCards ⟨h, l, xs⟩).2]) ∧ Below w.heap.size w w' := by
  have hm := mBankCards.eq_1 ⟨h, l, xs⟩
  have hb := belowAlloc w (bankC h l ao n cap 33)
  have hA' := hA.keep hb
  have hcon := isBank_any h l ao n cap xs _ hA'
  by_cases hk : BankOk ⟨h, l, xs⟩
  · rw [if_pos (bankYes hk)] at hm
    rw [bankYes hk] at hcon
    have h2 : 0 ≤ l ∧ l ≤ h - 1 := hk.2.1
    have h1 : 1 ≤ h ∧ h ≤ 10 := hk.1
    have h3 : Good xs := hk.2.2.1
    have c4 := fun W (hW : IntsAt W ao n cap xs) => cardsWith_any h l ao n cap xs W hW h3 (by omega)
    have n1 := allocNew w (bankC h l ao n cap 33)
    have n2 := fun w1 (q : Below _ _ w1) => (keepAt q (k := w.heap.size) (by simp)).trans n1
    have hcon' := hcon.mono (R' := fun e w1 => e = .returned (.bool true) ∧ Below w.heap.size w w1 ∧ IntsAt w1 ao n cap xs ∧ w1.heap[w.heap.size]? = some (bankC h l ao n cap 33))
      (fun e w1 ⟨e1, e2⟩ => ⟨e1, belowTrans hb e2 (Nat.le_refl _), hA'.keep e2, n2 w1 e2⟩)
    simp only at hm
    clear hcon n1 n2 hk hA hA' hb
    unfold bankC at hcon'
    unfold bankV at hcon' c4
    have Hcon' := Lib.hid hcon'; clear hcon'
    have Hm := Lib.hid hm; clear hm
    have H3 := Lib.hid h3; clear h3
    have C4 := Lib.hid c4; clear c4
    unfold bankV
    go_enter Try.func23, Try.ntmps23
    go_wp2_with fail
    with_reducible refine (Hcon'.out).mono ?_
    rintro e w1 ⟨rfl, hb1, hA1, n1⟩
    obtain ⟨⟨x0, x1, x2⟩, y0, y1, y2⟩ := bank3 n1
    have c5 := C4.out w1 hA1
    clear n1
    have C5 := Lib.hid c5; clear c5
    have Hb1 := Lib.hid hb1; clear hb1
    have HA1 := Lib.hid hA1; clear hA1
    go_wp2_with fail
    with_reducible refine (C5.out).mono ?_
    rintro e w2 ⟨rfl, hb2⟩
    have hbb := belowTrans Hb1.out hb2 (Nat.le_refl _)
    have Hbb := Lib.hid hbb; clear hbb
    go_wp2
    go_ret2
    rw [Hm.out]
    exact ⟨rfl, Hbb.out⟩
  · rw [if_neg (by rw [bankNo hk]; simp)] at hm
    rw [bankNo hk] at hcon
    unfold bankC at hb hcon
    unfold bankV at hcon
    have Hcon := Lib.hid hcon; clear hcon
    have Hm := Lib.hid hm; clear hm
    have Hb := Lib.hid hb; clear hb
    unfold bankV
    go_enter Try.func23, Try.ntmps23
    go_wp2_with fail
    with_reducible refine (Hcon.out).mono ?_
    rintro e w1 ⟨rfl, hb1⟩
    have hbb := belowTrans Hb.out hb1 (Nat.le_refl _)
    have Hbb := Lib.hid hbb; clear hbb
    go_wp2
    go_ret2
    rw [Hm.out]
    exact ⟨rfl, Hbb.out⟩
end Go.Proofs.Ytbkihnejgcebpaa
