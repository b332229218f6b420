/- Chapter 2: LongestTail, FarthestStart. No condition. -/
import Derived.Test.YtaebdafjbkadlaaByTail
import Derived.Test.YtaebdafjbkadlaaCmp
import Derived.Laws.EntriesVeiled
namespace Go.Proofs.Ytaebdafjbkadlaa
open Go.RowKit
set_option linter.unusedVariables false
set_option linter.unusedSimpArgs false
set_option maxRecDepth 20000

/-! ### All cyclic piles -/
theorem isB_sum {bs : List Int} (h : IsB bs) : 0 ≤ bs.sum := by
  induction bs with
  | nil => simp
  | cons b l ih =>
    have := ih (fun x hx => h x (by simp [hx]))
    have := h b (by simp)
    rw [List.sum_cons]; omega
theorem mem_choice (bs : List Int) : IsB bs → ∀ o : Nat, bs.sum = o → bs ∈ choiceL bs.length o := by
  induction bs with
  | nil =>
    intro _ o h
    simp at h
    obtain rfl : o = 0 := by omega
    simp [choiceL]
  | cons b l ih =>
    intro hB o h
    have hl : IsB l := fun x hx => hB x (by simp [hx])
    have h0 := isB_sum hl
    rw [List.sum_cons] at h
    rw [List.length_cons]
    unfold choiceL
    rw [List.mem_append]
    rcases hB b (by simp) with rfl | rfl
    · exact .inr (List.mem_map.2 ⟨l, ih hl o (by omega), rfl⟩)
    · left
      rw [if_pos (by omega)]
      exact List.mem_map.2 ⟨l, ih hl (o - 1) (by omega), rfl⟩
theorem allC_nodup : ∀ n, n < 29 → (allC n).Nodup := by decide +kernel
theorem allC_all (n : Nat) (hn : n ≤ 28) : AllCyc (allC n) n where
  small := hn
  good := fun x hx => (allC_good hn hx).1
  cyc := fun x hx => (allC_good hn hx).2.2
  sum := fun x hx => (allC_good hn hx).2.1
  nodup := allC_nodup n (by omega)
  all := fun x hg hc hs => by
    have hB := bitsL_isB hc
    have ht := fromB_total (bitsL x) hB
    rw [from_bits hg hc, bitsL_length, Nat.add_sub_cancel] at ht
    have hk : hL x = hgt n := by unfold hL; rw [hs]; simp
    have hb0 := isB_sum hB
    unfold allC
    refine List.mem_map.2 ⟨bitsL x, ?_, from_bits hg hc⟩
    have := mem_choice (bitsL x) hB (n - tri (hgt n)) (by rw [hk] at ht; omega)
    rw [bitsL_length, hk] at this
    exact this

/-! ### By the model -/
set_option maxHeartbeats 800000 in
theorem orSteps_any (ao : Option Addr) (n cap : Nat) (xs : List Int) (w : World) (h : IntsAt w ao n cap xs) (hg : Good xs) :
    Calls Try.prog 100 #[.slice ao n cap] w fun e w' => e = .returned (.int .i64 (tailL xs)) ∧ Below w.heap.size w w' := by
  have hlen := hg.len
  have hl := h.length
  have hcp := l1Own_any ao n cap xs w h (by omega)
  have Hg := Lib.hid hg; clear hg
  have Hcp := Lib.hid hcp; clear hcp
  have Hl := Lib.hid hl; clear hl
  go_enter Try.func100, Try.ntmps100
  go_wp2_with fail
  with_reducible refine (Hcp.out).mono ?_
  rintro e w1 ⟨a1, c1, rfl, ho1, hb1⟩
  have hx1 := ho1.at
  clear ho1
  go_wp2_with fail
  go_loopw [3, 4] (fun t v wr => ∃ (j : Nat) (a : Option Addr) (m c : Nat), t = .int .i64 j ∧ v = .slice a m c ∧ IntsAt wr a m c (stepsL j xs) ∧ (∀ i, i < j → ¬ Cyc (stepsL i xs)) ∧ Below w.heap.size w wr) (fun t _ _ => 3719 - (intOf t).toNat)
  case atStart => exact ⟨0, _, _, _, rfl, rfl, hx1, fun i hi => by omega, hb1⟩
  case round =>
    obtain ⟨j, a, m, c, rfl, rfl, hx, hno, hb⟩ := hrel
    clear hx1
    have hG := stepsL_good Hg.out j
    have hjt := tail_least Hg.out hno
    have htl := (tailL_spec Hg.out).1
    have hcon := orCyclic_any a m c _ wr hx hG
    by_cases hc : Cyc (stepsL j xs)
    · have hj : tailL xs = j := tailL_unique Hg.out hc hno
      rw [cyc_iff.2 hc] at hcon
      have HG := Lib.hid hG; clear hG
      have Hc := Lib.hid hc; clear hc
      have Hno := Lib.hid hno; clear hno
      have Hj := Lib.hid hj; clear hj
      have Hcon := Lib.hid hcon; clear hcon
      clear hjt
      go_wp2_with fail
      with_reducible refine (Hcon.out).mono ?_
      rintro e w' ⟨rfl, rfl⟩
      go_wp2_with fail
      go_ret
      rw [Hj.out]
      exact ⟨rfl, hb⟩
    · rw [cycBF hc] at hcon
      have hno2 : ∀ i, i < j + 1 → ¬ Cyc (stepsL i xs) := fun i hi => by
        by_cases e : i = j
        · subst e; exact hc
        · exact hno i (by omega)
      have hjt2 := tail_least Hg.out hno2
      have HG := Lib.hid hG; clear hG
      have Hc := Lib.hid hc; clear hc
      have Hno := Lib.hid hno; clear hno
      have Hno2 := Lib.hid hno2; clear hno2
      have Hcon := Lib.hid hcon; clear hcon
      go_wp2_with fail
      with_reducible refine (Hcon.out).mono ?_
      rintro e w' ⟨rfl, rfl⟩
      go_wp2_with fail
      with_reducible refine (piStep_any _ _ _ _ _ hx HG.out).mono ?_
      rintro e w5 ⟨a5, m5, c5, rfl, ho5, hb5⟩
      go_wp2_with fail
      go_roundw
      case rel => exact ⟨j + 1, _, _, _, valI (by omega), rfl, ho5.at, Hno2.out, belowTrans hb hb5 (Nat.le_refl _)⟩
      case measure => simp [intOf]; omega

def mLongestTail (n : Int) : Int × Bool := if 0 ≤ n ∧ n ≤ 28 then ((longF (allL n.toNat)).1, true) else (0, false)
theorem mLong_yes (n : Nat) (h : n ≤ 28) : mLongestTail n = ((longF (allL n)).1, true) := by unfold mLongestTail; rw [if_pos (by omega)]; rfl
theorem mLong_no (n : Int) (h : ¬ (0 ≤ n ∧ n ≤ 28)) : mLongestTail n = (0, false) := by unfold mLongestTail; rw [if_neg h]
def mFarthestStart (n : Int) : List Int × Bool := if 0 ≤ n ∧ n ≤ 28 then ((longF (allL n.toNat)).2, true) else ([], false)
theorem mFar_yes (n : Nat) (h : n ≤ 28) : mFarthestStart n = ((longF (allL n)).2, true) := by unfold mFarthestStart; rw [if_pos (by omega)]; rfl
theorem mFar_no (n : Int) (h : ¬ (0 ≤ n ∧ n ≤ 28)) : mFarthestStart n = ([], false) := by unfold mFarthestStart; rw [if_neg h]
theorem mFarthestStart_bound (n : Int) : (mFarthestStart n).1.length ≤ 1048576 := by
  by_cases h : 0 ≤ n ∧ n ≤ 28
  · obtain ⟨m, rfl⟩ := Int.eq_ofNat_of_zero_le h.1
    rw [mFar_yes m (by omega)]
    show (longF (allL m)).2.length ≤ _
    obtain ⟨M, _, _, _, hm, _⟩ := long_lev (allC_all m (by omega))
    have := (lev_good (allC_all m (by omega)).toCyclics hm).len
    omega
  · rw [mFar_no n h]; simp

/-! ### By the program -/
theorem levelsN {c : List (List Int)} {n N M : Nat} (h : Cyclics c n) (h1 : 1 ≤ N) (h2 : ∀ i, 1 ≤ i → i < N → levL c i ≠ []) (h3 : levL c N = []) (h4 : levL c M ≠ []) (h5 : levL c (M + 1) = []) : N = M + 1 := by
  rcases Nat.lt_trichotomy N (M + 1) with hl | he | hl
  · exact absurd h3 (lev_down h (by omega) h4)
  · exact he
  · exact absurd h5 (h2 _ (by omega) hl)
theorem rowsLev {B E w a m c xss} (h : OwnRows B E w a m c xss) : LevAt B E w (.slice a m c) xss := by
  obtain ⟨vs, h1, h2⟩ := h.vals
  exact ⟨a, m, c, vs, rfl, h1, h2.toX⟩

theorem cmp_bef (a b : List Int) : befB a b = true ↔ 0 < cmpL a b := by
  induction a generalizing b with
  | nil => cases b <;> simp [befB, cmpL]
  | cons x l ih =>
    cases b with
    | nil => simp [befB, cmpL]
    | cons y m =>
      show (if x = y then befB l m else decide (y < x)) = true ↔ 0 < (if x = y then cmpL l m else if x < y then -1 else 1)
      by_cases h : x = y
      · rw [if_pos h, if_pos h]; exact ih m
      · rw [if_neg h, if_neg h]
        by_cases h2 : x < y
        · rw [if_pos h2]; simp; omega
        · rw [if_neg h2]; simp; omega
def maxTo (xss : List (List Int)) (k : Nat) : List Int := ((xss.take k).drop 1).foldl maxStep (xss.headD [])
theorem maxTo_max {l : List (List Int)} {f : List Int} (hf : f ∈ l) (h : ∀ g ∈ l, g = f ∨ befB f g = true) {m : Nat} (hm : l.length = m) : maxTo l m = f := by
  unfold maxTo
  rw [List.take_of_length_le (by omega)]
  cases l with
  | nil => cases hf
  | cons x k =>
    simp only [List.drop_succ_cons, List.drop_zero, List.headD_cons]
    obtain ⟨h1, h2, h3⟩ := max_spec x k
    have hr : k.foldl maxStep x ∈ x :: k := by
      rcases h1 with e | e
      · rw [e]; exact List.mem_cons_self
      · exact List.mem_cons_of_mem _ e
    rcases h _ hr with e | e
    · exact e
    · have : befB f (k.foldl maxStep x) = false := by
        rcases List.mem_cons.1 hf with rfl | hf
        · exact h2
        · exact h3 f hf
      rw [this] at e; cases e

end Go.Proofs.Ytaebdafjbkadlaa
