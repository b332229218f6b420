/- Chapter 1: the piles of a rank. No condition. -/
import Derived.Test.YthppkfhhidlpiaaRank
import Derived.Test.YthppkfhhidlpiaaPush
namespace Go.Proofs.Ythppkfhhidlpiaa
open Go.RowKit
set_option linter.unusedVariables false
set_option linter.unusedSimpArgs false

def WInv (n0 r0 : Nat) (out : List Int) (L M r f : Nat) : Prop := out ++ withF f L M r = withL n0 r0 ∧ L ≤ f ∧ out.length + f ≤ 28 ∧ M ≤ 28 ∧ (0 < L → 1 ≤ M ∧ r < cnt (min L M) L)
theorem winv_start (n r : Nat) (hn : n ≤ 28) (hr : r < cnt n n) : WInv n r [] n n r 28 := ⟨rfl, hn, Nat.le_refl _, hn, fun h => ⟨h, by rw [Nat.min_self]; exact hr⟩⟩
theorem winv_step {n0 r0 L M r f : Nat} {out : List Int} (h : WInv n0 r0 out L M r f) (hL : 0 < L) {X R : Nat} (h1 : 1 ≤ X) (h2 : X ≤ min L M) (h3 : findX L X R = findX L (min L M) r) (h4 : R < cnt X (L - X)) :
    WInv n0 r0 (out ++ [(X : Int)]) (L - X) X R (f - 1) := by
  obtain ⟨a, b, c, d, e⟩ := h
  obtain ⟨f, rfl⟩ : ∃ f', f = f' + 1 := ⟨f - 1, by omega⟩
  rw [findX_stop L X R h4 h1] at h3
  refine ⟨?_, by omega, by simp; omega, by omega, fun h => ⟨h1, ?_⟩⟩
  · rw [← a, show withF (f + 1) L M r = if L = 0 then [] else ((findX L (min L M) r).1 : Int) :: withF f (L - (findX L (min L M) r).1) (findX L (min L M) r).1 (findX L (min L M) r).2 from rfl, if_neg (by omega), ← h3]
    simp
  · rw [cnt_min (by omega) (by omega)]; exact h4
theorem winv_end {n0 r0 M r f : Nat} {out : List Int} (h : WInv n0 r0 out 0 M r f) : out = withL n0 r0 := by
  have := h.1
  rw [← this]
  cases f <;> simp [withF]
theorem findX_next {L m r X R : Nat} (hX : 1 ≤ X) (hXL : X ≤ L) (hL : L ≤ 28) (h : findX L X R = findX L m r) (hr : R < cnt X L) (hge : cnt X (L - X) ≤ R) :
    findX L (X - 1) (R - cnt X (L - X)) = findX L m r ∧ R - cnt X (L - X) < cnt (X - 1) L ∧ 2 ≤ X := by
  have h1 := rank_step hX hXL hL hr hge
  exact ⟨by rw [← findX_step L X R hge hX]; exact h, h1.1, h1.2⟩
theorem withF_length (f n m r : Nat) : (withF f n m r).length ≤ f := by
  induction f generalizing n m r with
  | zero => exact Nat.le_refl _
  | succ f ih =>
    unfold withF
    split
    · simp
    · simp only [List.length_cons]; have := ih (n - (findX n (min n m) r).1) (findX n (min n m) r).1 (findX n (min n m) r).2; omega

def mPilesWith (n rank : Int) : List Int × Bool := if 0 ≤ n ∧ n ≤ 28 ∧ 0 ≤ rank ∧ rank < cnt n.toNat n.toNat then (withL n.toNat rank.toNat, true) else ([], false)
theorem mPilesWith_bound (n rank : Int) : (mPilesWith n rank).1.length ≤ 1048576 := by
  unfold mPilesWith
  split
  · have := withF_length 28 n.toNat n.toNat rank.toNat
    show (withF 28 n.toNat n.toNat rank.toNat).length ≤ _
    omega
  · simp
theorem mPilesWith_yes (n r : Nat) (h1 : n ≤ 28) (h2 : r < cnt n n) : mPilesWith n r = (withL n r, true) := by
  unfold mPilesWith
  rw [if_pos (by simp only [Int.toNat_natCast]; omega)]
  simp
theorem mPilesWith_no (n r : Int) (h : ¬ (0 ≤ n ∧ n ≤ 28 ∧ 0 ≤ r ∧ r < cnt n.toNat n.toNat)) : mPilesWith n r = ([], false) := by
  unfold mPilesWith
  rw [if_neg h]

set_option maxHeartbeats 1600000 in
set_option maxRecDepth 100000 in
theorem spec_PilesWith (n rank : Int) (w : World) :
    Calls Try.prog 133 #[.int .i64 n, .int .i64 rank] w fun e w' => ∃ ao' n' cap', e = .returned (.tuple #[.slice ao' n' cap', .bool (mPilesWith n rank).2]) ∧ Own w.heap.size w'.heap.size w' ao' n' cap' (mPilesWith n rank).1 ∧ Below w.heap.size w w' := by
  by_cases hn : 0 ≤ n ∧ n ≤ 28
  · obtain ⟨m, rfl⟩ := Int.eq_ofNat_of_zero_le hn.1
    have hm28 : m ≤ 28 := by omega
    have hcon := piCount_any m m w hm28 hm28
    have hle := cnt_le m (by omega) m (by omega)
    have hg0 := piCards_yes m w hn
    by_cases hr : 0 ≤ rank ∧ rank < cnt m m
    · obtain ⟨r, rfl⟩ := Int.eq_ofNat_of_zero_le hr.1
      have hm := mPilesWith_yes m r hm28 (by omega)
      have hinv := winv_start m r hm28 (by omega)
      have hin := fun W => l1In_any (r : Int) 0 (((cnt m m : Nat) : Int) - 1) W
      have hdd : decide ((0 : Int) ≤ r ∧ (r : Int) ≤ ((cnt m m : Nat) : Int) - 1) = true := decide_eq_true (by omega)
      simp only [hdd] at hin
      obtain ⟨hr0, hr1⟩ := hr
      generalize cnt m m = C at hr1 hcon hle hin
      clear hn hdd
      have Hcon := Lib.hid hcon; clear hcon
      have Hm := Lib.hid hm; clear hm
      have Hinv := Lib.hid hinv; clear hinv
      have Hg0 := Lib.hid hg0; clear hg0
      have Hin := Lib.hid hin; clear hin
      go_enter Try.func133, Try.ntmps133
      go_wp2_with fail
      with_reducible refine (Hg0.out).mono ?_
      rintro e w0 ⟨rfl, rfl⟩
      go_wp2_with fail
      with_reducible refine (Hcon.out).mono ?_
      rintro e w1 ⟨rfl, hb1⟩
      go_wp2_with fail
      with_reducible refine (Hin.out _).mono ?_
      rintro e w2 ⟨rfl, rfl⟩
      go_wp2
      go_loopw [0, 1, 6, 7] (fun l rk v mo wr => ∃ (L M R f : Nat) (a : Option Addr) (k c : Nat) (out : List Int), rk = .int .i64 R ∧ v = .slice a k c ∧ l = .int .i64 L ∧ mo = .int .i64 M ∧ WInv m r out L M R f ∧ Own w.heap.size wr.heap.size wr a k c out ∧ Below w.heap.size w wr) (fun l _ _ _ _ => (intOf l).toNat)
      case atStart => exact ⟨m, m, r, 28, none, 0, 0, [], rfl, rfl, rfl, rfl, Hinv.out, Own.nil _ _ _, hb1⟩
      case round =>
        obtain ⟨L, M, R, f, a, k, c, out, rfl, rfl, rfl, rfl, hw, hown, hb⟩ := hrel
        clear hb1
        have hk := hown.length
        have hw' := hw
        obtain ⟨-, i1, i2, i3, i4⟩ := hw'
        by_cases hL : 0 < L
        · obtain ⟨i5, i6⟩ := i4 hL
          have hv : min (L : Int) (M : Int) = ((min L M : Nat) : Int) := by omega
          have hh := l1Least_any (L : Int) (M : Int) wr
          rw [hv] at hh
          have hq1 : 1 ≤ min L M := by omega
          have hq2 : min L M ≤ L := Nat.min_le_left _ _
          generalize hQ : min L M = Q at *
          have hR := cnt_le Q (by omega) L (by omega)
          have Hh := Lib.hid hh; clear hh
          have Hv := Lib.hid hv; clear hv
          have Hk := Lib.hid hk; clear hk
          have Hw := Lib.hid hw; clear hw
          have HQ := Lib.hid hQ; clear hQ
          clear i4
          go_wp2_with fail
          with_reducible refine (Hh.out).mono ?_
          rintro e w2 ⟨rfl, rfl⟩
          go_wp2_with fail
          go_loopw [1, 8] (fun rk x wq => ∃ (X S : Nat), rk = .int .i64 S ∧ x = .int .i64 X ∧ 1 ≤ X ∧ X ≤ Q ∧ findX L X S = findX L Q R ∧ S < cnt X L ∧ Own w.heap.size wq.heap.size wq a k c out ∧ Below w.heap.size w wq) (fun _ x _ => (intOf x).toNat)
          case atStart => exact ⟨Q, R, rfl, rfl, hq1, Nat.le_refl _, rfl, i6, hown, hb⟩
          case round =>
            obtain ⟨X, S, rfl, rfl, j1, j2, j3, j4, hoq, hbq⟩ := hrel
            clear hown hb
            have ecast : ((L - X : Nat) : Int) = (L : Int) - (X : Int) := by omega
            have hc1 := fun W => piCount_any (L - X) X W (by omega) (by omega)
            rw [ecast] at hc1
            have l2 := cnt_le X (by omega) L (by omega)
            have l3 := cnt_le X (by omega) (L - X) (by omega)
            by_cases hge : cnt X (L - X) ≤ S
            · have hnx := findX_next j1 (by omega) (by omega) j3 j4 hge
              generalize cnt X (L - X) = c1 at *
              generalize cnt X L = c2 at *
              have Hc1 := Lib.hid hc1; clear hc1
              have Ecast := Lib.hid ecast; clear ecast
              have Hnx := Lib.hid hnx; clear hnx
              have J3 := Lib.hid j3; clear j3
              go_wp2_with fail
              with_reducible refine (Hc1.out _).mono ?_
              rintro e w3 ⟨rfl, hb3⟩
              go_wp2_with fail
              with_reducible refine (Hc1.out _).mono ?_
              rintro e w4 ⟨rfl, hb4⟩
              have hn := Hnx.out
              go_wp2
              go_roundw
              case rel => exact ⟨X - 1, S - c1, valI (by omega), valI (by omega), by omega, by omega, hn.1, hn.2.1, by exact ((hoq.keep hb3).keep hb4).mono (Nat.le_refl _) (Nat.le_trans hb3.size hb4.size), belowTrans (belowTrans hbq hb3 (Nat.le_refl _)) hb4 (Nat.le_refl _)⟩
              case measure => simp [intOf]; omega
            · have hst := winv_step Hw.out hL j1 (by rw [HQ.out]; exact j2) (by rw [HQ.out]; exact j3) (by omega)
              generalize cnt X (L - X) = c1 at *
              generalize cnt X L = c2 at *
              have Hc1 := Lib.hid hc1; clear hc1
              have Ecast := Lib.hid ecast; clear ecast
              have J3 := Lib.hid j3; clear j3
              have Hst := Lib.hid hst; clear hst
              go_wp2_with fail
              with_reducible refine (Hc1.out _).mono ?_
              rintro e w3 ⟨rfl, hb3⟩
              have ho3 := (hoq.keep hb3).mono (Nat.le_refl _) hb3.size
              have hb3' := belowTrans hbq hb3 (Nat.le_refl _)
              have hk28 : k ≤ 28 := by have := Hk.out; omega
              clear hoq hbq hb3
              go_wp2_with (at_builtin; refine wpList_push w3 rfl _ _ rfl w.heap.size w3.heap.size a k c _ rfl ho3 _ rfl (by omega) hb3'.size ?_)
              intro a5 c5 w5 ho5 hc5
              have hb5 := hb3'.trans (ho3.chgBelow hc5 hb3'.size)
              clear ho3 hb3' hc5
              go_wp2
              go_roundw
              case rel => exact ⟨L - X, X, S, f - 1, a5, k + 1, c5, _, rfl, rfl, valI (by omega), rfl, Hst.out, ho5, hb5⟩
              case measure => simp [intOf]; omega
        · obtain rfl : L = 0 := by omega
          have e := winv_end hw
          have Hw := Lib.hid hw; clear hw
          have Hk := Lib.hid hk; clear hk
          have I4 := Lib.hid i4; clear i4
          go_wp2
          go_ret2
          rw [Hm.out]
          subst e
          exact ⟨_, _, _, rfl, hown, hb⟩
    · have hm := mPilesWith_no m rank (fun hh => hr ⟨hh.2.2.1, by have := hh.2.2.2; rwa [Int.toNat_natCast] at this⟩)
      have hin := fun W => l1In_any rank 0 (((cnt m m : Nat) : Int) - 1) W
      have hdd : decide ((0 : Int) ≤ rank ∧ rank ≤ ((cnt m m : Nat) : Int) - 1) = false := decide_eq_false (fun hh => hr ⟨hh.1, by omega⟩)
      simp only [hdd] at hin
      generalize cnt m m = C at hcon hle hin
      clear hn hr hdd
      have Hcon := Lib.hid hcon; clear hcon
      have Hm := Lib.hid hm; clear hm
      have Hg0 := Lib.hid hg0; clear hg0
      have Hin := Lib.hid hin; clear hin
      go_enter Try.func133, Try.ntmps133
      go_wp2_with fail
      with_reducible refine (Hg0.out).mono ?_
      rintro e w0 ⟨rfl, rfl⟩
      go_wp2_with fail
      with_reducible refine (Hcon.out).mono ?_
      rintro e w1 ⟨rfl, hb1⟩
      go_wp2_with fail
      with_reducible refine (Hin.out _).mono ?_
      rintro e w2 ⟨rfl, rfl⟩
      go_wp2
      go_ret2
      rw [Hm.out]
      exact ⟨none, 0, 0, rfl, Own.nil _ _ _, hb1⟩
  · have hg0 := piCards_no n w hn
    have hm := mPilesWith_no n rank (fun hh => hn ⟨hh.1, hh.2.1⟩)
    clear hn
    have Hg0 := Lib.hid hg0; clear hg0
    have Hm := Lib.hid hm; clear hm
    go_enter Try.func133, Try.ntmps133
    go_wp2_with fail
    with_reducible refine (Hg0.out).mono ?_
    rintro e w1 ⟨rfl, rfl⟩
    go_wp2
    go_ret2
    rw [Hm.out]
    exact ⟨none, 0, 0, rfl, Own.nil _ _ _, Below.refl _ _⟩
end Go.Proofs.Ythppkfhhidlpiaa
