/- Chapter 7: how many bank states some cards make. No condition. -/
import Derived.Test.YtmlkgnjenfonfaaHelp
import Derived.Test.YtmlkgnjenfonfaaPileC
import Derived.Test.YtmlkgnjenfonfaaBaM
import Derived.Lib.MinMax
namespace Go.Proofs.Ytmlkgnjenfonfaa
open Go.RowKit
set_option linter.unusedVariables false
set_option linter.unusedSimpArgs false
set_option maxRecDepth 20000

theorem isHeight_any (h : Int) (w : World) : Calls Try.prog 50 #[.int .i64 h] w fun e w' => e = .returned (.bool (decide (1 ≤ h ∧ h ≤ 10))) ∧ w = w' := by
  go_enter Try.func50, Try.ntmps50
  go_wp2
  all_goals (go_ret; exact ⟨by congr 2; simp; omega, rfl⟩)
theorem isHeight_yes (h : Int) (w : World) (hh : 1 ≤ h ∧ h ≤ 10) : Calls Try.prog 50 #[.int .i64 h] w fun e w' => e = .returned (.bool true) ∧ w = w' := by
  have := isHeight_any h w; rw [decide_eq_true hh] at this; exact this
theorem isHeight_no (h : Int) (w : World) (hh : ¬ (1 ≤ h ∧ h ≤ 10)) : Calls Try.prog 50 #[.int .i64 h] w fun e w' => e = .returned (.bool false) ∧ w = w' := by
  have := isHeight_any h w; rw [decide_eq_false hh] at this; exact this
theorem baHeight_any (h : Int) (w : World) : Calls Try.prog 55 #[.int .i64 h] w fun e w' => e = .returned (.bool (decide (1 ≤ h ∧ h ≤ 10))) ∧ w = w' := by
  have hcon := fun W => l1In_any h 1 10 W
  have Hcon := Lib.hid hcon; clear hcon
  go_enter Try.func55, Try.ntmps55
  go_wp2_with fail
  with_reducible refine ((Hcon.out _)).mono ?_
  rintro e w' ⟨rfl, rfl⟩
  go_wp2
  go_ret
  exact ⟨by simp, rfl⟩
theorem baHeight_yes (h : Int) (w : World) (hh : 1 ≤ h ∧ h ≤ 10) : Calls Try.prog 55 #[.int .i64 h] w fun e w' => e = .returned (.bool true) ∧ w = w' := by
  have := baHeight_any h w; rw [decide_eq_true hh] at this; exact this
theorem baHeight_no (h : Int) (w : World) (hh : ¬ (1 ≤ h ∧ h ≤ 10)) : Calls Try.prog 55 #[.int .i64 h] w fun e w' => e = .returned (.bool false) ∧ w = w' := by
  have := baHeight_any h w; rw [decide_eq_false hh] at this; exact this

set_option maxHeartbeats 800000 in
theorem baCount_all : ∀ (f n m : Nat) (w : World), n ≤ f → n ≤ 28 → m ≤ 28 →
    Calls Try.prog 63 #[.int .i64 n, .int .i64 m] w fun e w' => e = .returned (.int .i64 (cnt m n)) ∧ w = w' := by
  intro f
  induction f with
  | zero =>
    intro n m w h1 h2 h3
    obtain rfl : n = 0 := by omega
    have hz := cnt_zero m (by omega)
    have Hz := Lib.hid hz; clear hz
    go_enter Try.func63, Try.ntmps63
    go_wp2
    go_ret
    rw [Hz.out]
    exact ⟨rfl, rfl⟩
  | succ f ih =>
    intro n m w h1 h2 h3
    by_cases hn : n = 0
    · subst hn
      have hz := cnt_zero m (by omega)
      have Hz := Lib.hid hz; clear hz
      go_enter Try.func63, Try.ntmps63
      go_wp2
      go_ret
      rw [Hz.out]
      exact ⟨rfl, rfl⟩
    · have hne : ((n : Int) == 0) = false := by simp; omega
      have hmn : min (n : Int) (m : Int) = ((min n m : Nat) : Int) := by omega
      have hq : min n m ≤ n := Nat.min_le_left _ _
      have hcn : cnt (min n m) n = cnt m n := by
        by_cases hle : n ≤ m
        · rw [Nat.min_eq_left hle, ← cnt_big m (by omega) n hle]
        · rw [Nat.min_eq_right (by omega)]
      have hb := fun x (hx : x < 29) => cnt_le x hx n (by omega)
      have hz : cnt 0 n = 0 := by rw [cnt_none n (by omega), if_neg hn]
      have hcon := l1Least_any (n : Int) (m : Int) w
      rw [hmn] at hcon
      generalize min n m = Q at *
      have hrec : ∀ X, 1 ≤ X → X ≤ Q → cnt X n = cnt (X - 1) n + cnt X (n - X) := by
        intro X x1 x2
        have := cnt_rec (X - 1) (by omega) n (by omega)
        rw [show X - 1 + 1 = X by omega, if_pos (by omega)] at this
        exact this
      have Hne := Lib.hid hne; clear hne
      have Hmn := Lib.hid hmn; clear hmn
      have Hcon := Lib.hid hcon; clear hcon
      have Ih := Lib.hid ih; clear ih
      have Hcn := Lib.hid hcn; clear hcn
      have Hb := Lib.hid hb; clear hb
      have Hz := Lib.hid hz; clear hz
      have Hrec := Lib.hid hrec; clear hrec
      go_enter Try.func63, Try.ntmps63
      have hne' := Hne.out
      go_wp2_with fail
      with_reducible refine (Hcon.out).mono ?_
      rintro e w' ⟨rfl, rfl⟩
      go_wp2_with fail
      go_loopw [5, 6] (fun c x wr => ∃ X : Nat, X ≤ Q ∧ x = .int .i64 X ∧ c = .int .i64 ((cnt Q n - cnt X n : Nat) : Int) ∧ cnt X n ≤ cnt Q n ∧ wr = w) (fun _ x _ => (intOf x).toNat)
      case atStart => exact ⟨Q, Nat.le_refl _, rfl, by rw [Nat.sub_self]; rfl, Nat.le_refl _, rfl⟩
      case round =>
        obtain ⟨X, hX, rfl, rfl, hle, rfl⟩ := hrel
        by_cases hlt : 1 ≤ X
        · have hcon2 := Ih.out (n - X) X wr (by omega) (by omega) (by omega)
          have ecast : ((n - X : Nat) : Int) = (n : Int) - (X : Int) := by omega
          rw [ecast] at hcon2
          have hr := Hrec.out X hlt hX
          have hbQ := Hb.out Q (by omega)
          have hs : ((cnt Q n - cnt X n : Nat) : Int) + (cnt X (n - X) : Int) = ((cnt Q n - cnt (X - 1) n : Nat) : Int) := by omega
          have hl2 : cnt (X - 1) n ≤ cnt Q n := by omega
          have hb2 : cnt X (n - X) ≤ 3718 := by omega
          generalize cnt X (n - X) = y at *
          generalize hd1 : cnt Q n - cnt X n = d1 at *
          have hd : d1 ≤ 3718 := by omega
          have Hcon2 := Lib.hid hcon2; clear hcon2
          have Ecast := Lib.hid ecast; clear ecast
          have Hr := Lib.hid hr; clear hr
          have Hs := Lib.hid hs; clear hs
          have Hl2 := Lib.hid hl2; clear hl2
          have Hle := Lib.hid hle; clear hle
          have Hd1 := Lib.hid hd1; clear hd1
          go_wp2_with fail
          with_reducible refine (Hcon2.out).mono ?_
          rintro e w1 ⟨rfl, rfl⟩
          go_wp2_with fail
          go_roundw
          case rel => exact ⟨X - 1, by omega, by go_num, by rw [← Hs.out], Hl2.out, trivial⟩
          case measure => simp [intOf]; omega
        · obtain rfl : X = 0 := by omega
          go_wp2
          go_ret
          rw [← Hcn.out, Hz.out]
          exact ⟨rfl, rfl⟩
theorem baCount_any (n m : Nat) (w : World) (hn : n ≤ 28) (hm : m ≤ 28) :
    Calls Try.prog 63 #[.int .i64 n, .int .i64 m] w fun e w' => e = .returned (.int .i64 (cnt m n)) ∧ w = w' := baCount_all n n m w (Nat.le_refl _) hn hm

/-! ### All bank states counted -/
def cbkN (h n k : Nat) : Nat := ((List.range k).map fun l => cnt h (n - l)).sum
theorem cbkN_succ (h n k : Nat) : cbkN h n (k + 1) = cbkN h n k + cnt h (n - k) := by
  unfold cbkN; rw [List.range_succ, List.map_append, List.sum_append]; simp
theorem cbkN_le (h n k : Nat) (hh : h ≤ 10) (hn : n ≤ 28) (hk : k ≤ 10) : cbkN h n k ≤ 3718 * k := by
  induction k with
  | zero => simp [cbkN]
  | succ k ih => rw [cbkN_succ]; have := cnt_le h (by omega) (n - k) (by omega); have := ih (by omega); omega
def mCountBanks (h n : Int) : Int × Bool := if (1 ≤ h ∧ h ≤ 10) ∧ 0 ≤ n ∧ n ≤ 28 then ((cbkN h.toNat n.toNat (min h.toNat (n.toNat + 1)) : Nat), true) else (0, false)

set_option maxHeartbeats 1600000 in
theorem spec_CountBanks (h n : Int) (w : World) :
    Calls Try.prog 34 #[.int .i64 h, .int .i64 n] w fun e w' => e = .returned (.tuple #[.int .i64 (mCountBanks h n).1, .bool (mCountBanks h n).2]) ∧ Below w.heap.size w w' := by
  have hm := mCountBanks.eq_1 h n
  by_cases hh : 1 ≤ h ∧ h ≤ 10
  · by_cases hn : 0 ≤ n ∧ n ≤ 28
    · rw [if_pos ⟨hh, hn⟩] at hm
      obtain ⟨H, rfl⟩ := Int.eq_ofNat_of_zero_le (show 0 ≤ h by omega)
      obtain ⟨N, rfl⟩ := Int.eq_ofNat_of_zero_le hn.1
      simp only [Int.toNat_natCast] at hm
      have hH : H ≤ 10 := by omega
      have hN : N ≤ 28 := by omega
      have h1 := baHeight_yes (H : Int) w hh
      have h2 := piCards_yes (N : Int) w hn
      have Hm := Lib.hid hm; clear hm
      have H1 := Lib.hid h1; clear h1
      have H2 := Lib.hid h2; clear h2
      have Hh := Lib.hid hh; clear hh
      have Hn := Lib.hid hn; clear hn
      go_enter Try.func34, Try.ntmps34
      go_wp2_with fail
      with_reducible refine (H1.out).mono ?_
      rintro e w' ⟨rfl, rfl⟩
      go_wp2_with fail
      with_reducible refine (H2.out).mono ?_
      rintro e w' ⟨rfl, rfl⟩
      go_wp2_with fail
      go_loopw [6, 7] (fun c x wr => ∃ k : Nat, k ≤ H ∧ k ≤ N + 1 ∧ x = .int .i64 k ∧ c = .int .i64 (cbkN H N k) ∧ wr = w) (fun _ x _ => H - (intOf x).toNat)
      case atStart => exact ⟨0, Nat.zero_le _, Nat.zero_le _, rfl, rfl, rfl⟩
      case round =>
        obtain ⟨k, hk1, hk2, rfl, rfl, rfl⟩ := hrel
        have hb := cbkN_le H N k hH hN (by omega)
        have hs := cbkN_succ H N k
        generalize hd : cbkN H N k = d at *
        have Hd := Lib.hid hd; clear hd
        by_cases hlt : k < H ∧ k ≤ N
        · obtain ⟨hlt1, hlt2⟩ := hlt
          have hcon2 := baCount_any (N - k) H wr (by omega) (by omega)
          have ecast : ((N - k : Nat) : Int) = (N : Int) - (k : Int) := by omega
          rw [ecast] at hcon2
          have hb2 := cnt_le H (by omega) (N - k) (by omega)
          generalize cnt H (N - k) = y at *
          have Hcon2 := Lib.hid hcon2; clear hcon2
          have Ecast := Lib.hid ecast; clear ecast
          have Hs := Lib.hid hs; clear hs
          go_wp2_with fail
          with_reducible refine (Hcon2.out).mono ?_
          rintro e w1 ⟨rfl, rfl⟩
          go_wp2_with fail
          go_roundw
          case rel => exact ⟨k + 1, by omega, by omega, by go_num, by rw [Hs.out]; go_num, trivial⟩
          case measure => simp [intOf]; omega
        · have hkk : min H (N + 1) = k := by omega
          by_cases hlt1 : k < H
          · obtain rfl : k = N + 1 := by omega
            go_wp2
            go_ret2
            rw [Hm.out, hkk, Hd.out]
            exact ⟨rfl, Below.refl _ _⟩
          · obtain rfl : k = H := by omega
            go_wp2
            go_ret2
            rw [Hm.out, hkk, Hd.out]
            exact ⟨rfl, Below.refl _ _⟩
    · rw [if_neg (fun h => hn h.2)] at hm
      have h1 := baHeight_yes h w hh
      have h2 := piCards_no n w hn
      have Hm := Lib.hid hm; clear hm
      have H1 := Lib.hid h1; clear h1
      have H2 := Lib.hid h2; clear h2
      have Hh := Lib.hid hh; clear hh
      have Hn := Lib.hid hn; clear hn
      go_enter Try.func34, Try.ntmps34
      go_wp2_with fail
      with_reducible refine (H1.out).mono ?_
      rintro e w' ⟨rfl, rfl⟩
      go_wp2_with fail
      with_reducible refine (H2.out).mono ?_
      rintro e w' ⟨rfl, rfl⟩
      go_wp2
      go_ret2
      rw [Hm.out]
      exact ⟨rfl, Below.refl _ _⟩
  · rw [if_neg (fun h => hh h.1)] at hm
    have h1 := baHeight_no h w hh
    have Hm := Lib.hid hm; clear hm
    have H1 := Lib.hid h1; clear h1
    have Hh := Lib.hid hh; clear hh
    go_enter Try.func34, Try.ntmps34
    go_wp2_with fail
    with_reducible refine (H1.out).mono ?_
    rintro e w' ⟨rfl, rfl⟩
    go_wp2
    go_ret2
    rw [Hm.out]
    exact ⟨rfl, Below.refl _ _⟩
set_option maxHeartbeats 1600000 in
theorem impl_CountBanks (h n : Int) (w : World) :
    Calls Try.prog 35 #[.int .i64 h, .int .i64 n] w fun e w' => e = .returned (.tuple #[.int .i64 (mCountBanks h n).1, .bool (mCountBanks h n).2]) ∧ Below w.heap.size w w' := by
  have hm := mCountBanks.eq_1 h n
  by_cases hh : 1 ≤ h ∧ h ≤ 10
  · by_cases hn : 0 ≤ n ∧ n ≤ 28
    · rw [if_pos ⟨hh, hn⟩] at hm
      obtain ⟨H, rfl⟩ := Int.eq_ofNat_of_zero_le (show 0 ≤ h by omega)
      obtain ⟨N, rfl⟩ := Int.eq_ofNat_of_zero_le hn.1
      simp only [Int.toNat_natCast] at hm
      have hH : H ≤ 10 := by omega
      have hN : N ≤ 28 := by omega
      have hmn : min (H : Int) ((N : Int) + 1) = ((min H (N + 1) : Nat) : Int) := by omega
      have hK1 : min H (N + 1) ≤ H := by omega
      have hK2 : min H (N + 1) ≤ N + 1 := by omega
      generalize min H (N + 1) = K at *
      have h1 := isHeight_yes (H : Int) w hh
      have h2 := inRange_yes (N : Int) 28 w hn
      have Hmn := Lib.hid hmn; clear hmn
      have Hm := Lib.hid hm; clear hm
      have H1 := Lib.hid h1; clear h1
      have H2 := Lib.hid h2; clear h2
      have Hh := Lib.hid hh; clear hh
      have Hn := Lib.hid hn; clear hn
      go_enter Try.func35, Try.ntmps35
      go_wp2_with fail
      with_reducible refine (H1.out).mono ?_
      rintro e w' ⟨rfl, rfl⟩
      go_wp2_with fail
      with_reducible refine (H2.out).mono ?_
      rintro e w' ⟨rfl, rfl⟩
      go_wp2_with fail
      rw [Hmn.out]
      go_loopw [6, 20] (fun c x wr => ∃ k : Nat, k ≤ K ∧ x = .int .i64 k ∧ c = .int .i64 (cbkN H N k) ∧ Below w.heap.size w wr) (fun _ x _ => H - (intOf x).toNat)
      case atStart => exact ⟨0, Nat.zero_le _, rfl, rfl, Below.refl _ _⟩
      case round =>
        obtain ⟨k, hk1, rfl, rfl, hb0⟩ := hrel
        have hb := cbkN_le H N k hH hN (by omega)
        have hs := cbkN_succ H N k
        generalize hd : cbkN H N k = d at *
        have Hd := Lib.hid hd; clear hd
        by_cases hlt : k < K
        · have hcon2 := countUpTo_any (N - k) H wr (by omega) (by omega)
          have ecast : ((N - k : Nat) : Int) = (N : Int) - (k : Int) := by omega
          rw [ecast] at hcon2
          have hb2 := cnt_le H (by omega) (N - k) (by omega)
          generalize cnt H (N - k) = y at *
          have Hcon2 := Lib.hid hcon2; clear hcon2
          have Ecast := Lib.hid ecast; clear ecast
          have Hs := Lib.hid hs; clear hs
          go_wp2_with fail
          with_reducible refine (Hcon2.out).mono ?_
          rintro e w1 ⟨rfl, hb1⟩
          go_wp2_with fail
          go_roundw
          case rel => exact ⟨k + 1, by omega, by go_num, by rw [Hs.out]; go_num, belowTrans hb0 hb1 (Nat.le_refl _)⟩
          case measure => simp [intOf]; omega
        · obtain rfl : k = K := by omega
          go_wp2
          go_ret2
          rw [Hm.out, Hd.out]
          exact ⟨rfl, hb0⟩
    · rw [if_neg (fun h => hn h.2)] at hm
      have h1 := isHeight_yes h w hh
      have h2 := inRange_no n 28 w hn
      have Hm := Lib.hid hm; clear hm
      have H1 := Lib.hid h1; clear h1
      have H2 := Lib.hid h2; clear h2
      have Hh := Lib.hid hh; clear hh
      have Hn := Lib.hid hn; clear hn
      go_enter Try.func35, Try.ntmps35
      go_wp2_with fail
      with_reducible refine (H1.out).mono ?_
      rintro e w' ⟨rfl, rfl⟩
      go_wp2_with fail
      with_reducible refine (H2.out).mono ?_
      rintro e w' ⟨rfl, rfl⟩
      go_wp2
      go_ret2
      rw [Hm.out]
      exact ⟨rfl, Below.refl _ _⟩
  · rw [if_neg (fun h => hh h.1)] at hm
    have h1 := isHeight_no h w hh
    have Hm := Lib.hid hm; clear hm
    have H1 := Lib.hid h1; clear h1
    have Hh := Lib.hid hh; clear hh
    go_enter Try.func35, Try.ntmps35
    go_wp2_with fail
    with_reducible refine (H1.out).mono ?_
    rintro e w' ⟨rfl, rfl⟩
    go_wp2
    go_ret2
    rw [Hm.out]
    exact ⟨rfl, Below.refl _ _⟩
end Go.Proofs.Ytmlkgnjenfonfaa
