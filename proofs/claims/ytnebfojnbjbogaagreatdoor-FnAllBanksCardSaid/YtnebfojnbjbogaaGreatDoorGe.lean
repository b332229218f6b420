/- Several texts in one: BaN, BaR, BaF, BaS, BaA, BaT. No condition. -/
import Derived.Test.YtnebfojnbjbogaaGreatDoorHelp
import Derived.Test.YtnebfojnbjbogaaGreatDoorGb
import Derived.Test.YtnebfojnbjbogaaGreatDoorBaM
import Derived.Lib.MinMax
import Derived.Laws.CopyOwn
import Derived.Deep.RegionLaw
import Derived.Test.YtnebfojnbjbogaaGreatDoorGc
import Derived.OneCell
import Derived.Test.YtnebfojnbjbogaaGreatDoorGa
namespace Go.Proofs.YtnebfojnbjbogaaGreatDoor
section
open Go.RowKit
set_option linter.unusedVariables false
set_option linter.unusedSimpArgs false
set_option maxRecDepth 20000

theorem isHeight_any (h : Int) (w : World) : Calls Tryz.prog 30 #[.int .i64 h] w fun e w' => e = .returned (.bool (decide (1 ≤ h ∧ h ≤ 10))) ∧ w = w' := by
  go_enter Tryz.func30, Tryz.ntmps30
  go_wp2
  all_goals (go_ret; exact ⟨by congr 2; simp; omega, rfl⟩)
theorem isHeight_yes (h : Int) (w : World) (hh : 1 ≤ h ∧ h ≤ 10) : Calls Tryz.prog 30 #[.int .i64 h] w fun e w' => e = .returned (.bool true) ∧ w = w' := by
  have := isHeight_any h w; rw [decide_eq_true hh] at this; exact this
theorem isHeight_no (h : Int) (w : World) (hh : ¬ (1 ≤ h ∧ h ≤ 10)) : Calls Tryz.prog 30 #[.int .i64 h] w fun e w' => e = .returned (.bool false) ∧ w = w' := by
  have := isHeight_any h w; rw [decide_eq_false hh] at this; exact this
theorem baHeight_any (h : Int) (w : World) : Calls Tryz.prog 35 #[.int .i64 h] w fun e w' => e = .returned (.bool (decide (1 ≤ h ∧ h ≤ 10))) ∧ w = w' := by
  have hcon := fun W => l1In_any h 1 10 W
  have Hcon := Lib.hid hcon; clear hcon
  go_enter Tryz.func35, Tryz.ntmps35
  go_wp2_with fail
  with_reducible refine ((Hcon.out _)).mono ?_
  rintro e w' ⟨rfl, rfl⟩
  go_wp2
  go_ret
  exact ⟨by simp, rfl⟩
theorem baHeight_yes (h : Int) (w : World) (hh : 1 ≤ h ∧ h ≤ 10) : Calls Tryz.prog 35 #[.int .i64 h] w fun e w' => e = .returned (.bool true) ∧ w = w' := by
  have := baHeight_any h w; rw [decide_eq_true hh] at this; exact this
theorem baHeight_no (h : Int) (w : World) (hh : ¬ (1 ≤ h ∧ h ≤ 10)) : Calls Tryz.prog 35 #[.int .i64 h] w fun e w' => e = .returned (.bool false) ∧ w = w' := by
  have := baHeight_any h w; rw [decide_eq_false hh] at this; exact this

set_option maxHeartbeats 800000 in
theorem baCount_all : ∀ (f n m : Nat) (w : World), n ≤ f → n ≤ 28 → m ≤ 28 →
    Calls Tryz.prog 37 #[.int .i64 n, .int .i64 m] w fun e w' => e = .returned (.int .i64 (cnt m n)) ∧ w = w' := by
  intro f
  induction f with
  | zero =>
    intro n m w h1 h2 h3
    obtain rfl : n = 0 := by omega
    have hz := cnt_zero m (by omega)
    have Hz := Lib.hid hz; clear hz
    go_enter Tryz.func37, Tryz.ntmps37
    go_wp2
    go_ret
    rw [Hz.out]
    exact ⟨rfl, rfl⟩
  | succ f ih =>
    intro n m w h1 h2 h3
    by_cases hn : n = 0
    · subst hn
      have hz := cnt_zero m (by omega)
      have Hz := Lib.hid hz; clear hz
      go_enter Tryz.func37, Tryz.ntmps37
      go_wp2
      go_ret
      rw [Hz.out]
      exact ⟨rfl, rfl⟩
    · have hne : ((n : Int) == 0) = false := by simp; omega
      have hmn : min (n : Int) (m : Int) = ((min n m : Nat) : Int) := by omega
      have hq : min n m ≤ n := Nat.min_le_left _ _
      have hcn : cnt (min n m) n = cnt m n := by
        by_cases hle : n ≤ m
        · rw [Nat.min_eq_left hle, ← cnt_big m (by omega) n hle]
        · rw [Nat.min_eq_right (by omega)]
      have hb := fun x (hx : x < 29) => cnt_le x hx n (by omega)
      have hz : cnt 0 n = 0 := by rw [cnt_none n (by omega), if_neg hn]
      have hcon := l1Least_any (n : Int) (m : Int) w
      rw [hmn] at hcon
      generalize min n m = Q at *
      have hrec : ∀ X, 1 ≤ X → X ≤ Q → cnt X n = cnt (X - 1) n + cnt X (n - X) := by
        intro X x1 x2
        have := cnt_rec (X - 1) (by omega) n (by omega)
        rw [show X - 1 + 1 = X by omega, if_pos (by omega)] at this
        exact this
      have Hne := Lib.hid hne; clear hne
      have Hmn := Lib.hid hmn; clear hmn
      have Hcon := Lib.hid hcon; clear hcon
      have Ih := Lib.hid ih; clear ih
      have Hcn := Lib.hid hcn; clear hcn
      have Hb := Lib.hid hb; clear hb
      have Hz := Lib.hid hz; clear hz
      have Hrec := Lib.hid hrec; clear hrec
      go_enter Tryz.func37, Tryz.ntmps37
      have hne' := Hne.out
      go_wp2_with fail
      with_reducible refine (Hcon.out).mono ?_
      rintro e w' ⟨rfl, rfl⟩
      go_wp2_with fail
      go_loopw [5, 6] (fun c x wr => ∃ X : Nat, X ≤ Q ∧ x = .int .i64 X ∧ c = .int .i64 ((cnt Q n - cnt X n : Nat) : Int) ∧ cnt X n ≤ cnt Q n ∧ wr = w) (fun _ x _ => (intOf x).toNat)
      case atStart => exact ⟨Q, Nat.le_refl _, rfl, by rw [Nat.sub_self]; rfl, Nat.le_refl _, rfl⟩
      case round =>
        obtain ⟨X, hX, rfl, rfl, hle, rfl⟩ := hrel
        by_cases hlt : 1 ≤ X
        · have hcon2 := Ih.out (n - X) X wr (by omega) (by omega) (by omega)
          have ecast : ((n - X : Nat) : Int) = (n : Int) - (X : Int) := by omega
          rw [ecast] at hcon2
          have hr := Hrec.out X hlt hX
          have hbQ := Hb.out Q (by omega)
          have hs : ((cnt Q n - cnt X n : Nat) : Int) + (cnt X (n - X) : Int) = ((cnt Q n - cnt (X - 1) n : Nat) : Int) := by omega
          have hl2 : cnt (X - 1) n ≤ cnt Q n := by omega
          have hb2 : cnt X (n - X) ≤ 3718 := by omega
          generalize cnt X (n - X) = y at *
          generalize hd1 : cnt Q n - cnt X n = d1 at *
          have hd : d1 ≤ 3718 := by omega
          have Hcon2 := Lib.hid hcon2; clear hcon2
          have Ecast := Lib.hid ecast; clear ecast
          have Hr := Lib.hid hr; clear hr
          have Hs := Lib.hid hs; clear hs
          have Hl2 := Lib.hid hl2; clear hl2
          have Hle := Lib.hid hle; clear hle
          have Hd1 := Lib.hid hd1; clear hd1
          go_wp2_with fail
          with_reducible refine (Hcon2.out).mono ?_
          rintro e w1 ⟨rfl, rfl⟩
          go_wp2_with fail
          go_roundw
          case rel => exact ⟨X - 1, by omega, by go_num, by rw [← Hs.out], Hl2.out, trivial⟩
          case measure => simp [intOf]; omega
        · obtain rfl : X = 0 := by omega
          go_wp2
          go_ret
          rw [← Hcn.out, Hz.out]
          exact ⟨rfl, rfl⟩
theorem baCount_any (n m : Nat) (w : World) (hn : n ≤ 28) (hm : m ≤ 28) :
    Calls Tryz.prog 37 #[.int .i64 n, .int .i64 m] w fun e w' => e = .returned (.int .i64 (cnt m n)) ∧ w = w' := baCount_all n n m w (Nat.le_refl _) hn hm

/-! ### All bank states counted -/
def cbkN (h n k : Nat) : Nat := ((List.range k).map fun l => cnt h (n - l)).sum
theorem cbkN_succ (h n k : Nat) : cbkN h n (k + 1) = cbkN h n k + cnt h (n - k) := by
  unfold cbkN; rw [List.range_succ, List.map_append, List.sum_append]; simp
theorem cbkN_le (h n k : Nat) (hh : h ≤ 10) (hn : n ≤ 28) (hk : k ≤ 10) : cbkN h n k ≤ 3718 * k := by
  induction k with
  | zero => simp [cbkN]
  | succ k ih => rw [cbkN_succ]; have := cnt_le h (by omega) (n - k) (by omega); have := ih (by omega); omega
def mCountBanks (h n : Int) : Int × Bool := if (1 ≤ h ∧ h ≤ 10) ∧ 0 ≤ n ∧ n ≤ 28 then ((cbkN h.toNat n.toNat (min h.toNat (n.toNat + 1)) : Nat), true) else (0, false)

set_option maxHeartbeats 1600000 in
theorem spec_CountBanks (h n : Int) (w : World) :
    Calls Tryz.prog 16 #[.int .i64 h, .int .i64 n] w fun e w' => e = .returned (.tuple #[.int .i64 (mCountBanks h n).1, .bool (mCountBanks h n).2]) ∧ Below w.heap.size w w' := by
  have hm := mCountBanks.eq_1 h n
  by_cases hh : 1 ≤ h ∧ h ≤ 10
  · by_cases hn : 0 ≤ n ∧ n ≤ 28
    · rw [if_pos ⟨hh, hn⟩] at hm
      obtain ⟨H, rfl⟩ := Int.eq_ofNat_of_zero_le (show 0 ≤ h by omega)
      obtain ⟨N, rfl⟩ := Int.eq_ofNat_of_zero_le hn.1
      simp only [Int.toNat_natCast] at hm
      have hH : H ≤ 10 := by omega
      have hN : N ≤ 28 := by omega
      have h1 := baHeight_yes (H : Int) w hh
      have h2 := piCards_yes (N : Int) w hn
      have Hm := Lib.hid hm; clear hm
      have H1 := Lib.hid h1; clear h1
      have H2 := Lib.hid h2; clear h2
      have Hh := Lib.hid hh; clear hh
      have Hn := Lib.hid hn; clear hn
      go_enter Tryz.func16, Tryz.ntmps16
      go_wp2_with fail
      with_reducible refine (H1.out).mono ?_
      rintro e w' ⟨rfl, rfl⟩
      go_wp2_with fail
      with_reducible refine (H2.out).mono ?_
      rintro e w' ⟨rfl, rfl⟩
      go_wp2_with fail
      go_loopw [6, 7] (fun c x wr => ∃ k : Nat, k ≤ H ∧ k ≤ N + 1 ∧ x = .int .i64 k ∧ c = .int .i64 (cbkN H N k) ∧ wr = w) (fun _ x _ => H - (intOf x).toNat)
      case atStart => exact ⟨0, Nat.zero_le _, Nat.zero_le _, rfl, rfl, rfl⟩
      case round =>
        obtain ⟨k, hk1, hk2, rfl, rfl, rfl⟩ := hrel
        have hb := cbkN_le H N k hH hN (by omega)
        have hs := cbkN_succ H N k
        generalize hd : cbkN H N k = d at *
        have Hd := Lib.hid hd; clear hd
        by_cases hlt : k < H ∧ k ≤ N
        · obtain ⟨hlt1, hlt2⟩ := hlt
          have hcon2 := baCount_any (N - k) H wr (by omega) (by omega)
          have ecast : ((N - k : Nat) : Int) = (N : Int) - (k : Int) := by omega
          rw [ecast] at hcon2
          have hb2 := cnt_le H (by omega) (N - k) (by omega)
          generalize cnt H (N - k) = y at *
          have Hcon2 := Lib.hid hcon2; clear hcon2
          have Ecast := Lib.hid ecast; clear ecast
          have Hs := Lib.hid hs; clear hs
          go_wp2_with fail
          with_reducible refine (Hcon2.out).mono ?_
          rintro e w1 ⟨rfl, rfl⟩
          go_wp2_with fail
          go_roundw
          case rel => exact ⟨k + 1, by omega, by omega, by go_num, by rw [Hs.out]; go_num, trivial⟩
          case measure => simp [intOf]; omega
        · have hkk : min H (N + 1) = k := by omega
          by_cases hlt1 : k < H
          · obtain rfl : k = N + 1 := by omega
            go_wp2
            go_ret2
            rw [Hm.out, hkk, Hd.out]
            exact ⟨rfl, Below.refl _ _⟩
          · obtain rfl : k = H := by omega
            go_wp2
            go_ret2
            rw [Hm.out, hkk, Hd.out]
            exact ⟨rfl, Below.refl _ _⟩
    · rw [if_neg (fun h => hn h.2)] at hm
      have h1 := baHeight_yes h w hh
      have h2 := piCards_no n w hn
      have Hm := Lib.hid hm; clear hm
      have H1 := Lib.hid h1; clear h1
      have H2 := Lib.hid h2; clear h2
      have Hh := Lib.hid hh; clear hh
      have Hn := Lib.hid hn; clear hn
      go_enter Tryz.func16, Tryz.ntmps16
      go_wp2_with fail
      with_reducible refine (H1.out).mono ?_
      rintro e w' ⟨rfl, rfl⟩
      go_wp2_with fail
      with_reducible refine (H2.out).mono ?_
      rintro e w' ⟨rfl, rfl⟩
      go_wp2
      go_ret2
      rw [Hm.out]
      exact ⟨rfl, Below.refl _ _⟩
  · rw [if_neg (fun h => hh h.1)] at hm
    have h1 := baHeight_no h w hh
    have Hm := Lib.hid hm; clear hm
    have H1 := Lib.hid h1; clear h1
    have Hh := Lib.hid hh; clear hh
    go_enter Tryz.func16, Tryz.ntmps16
    go_wp2_with fail
    with_reducible refine (H1.out).mono ?_
    rintro e w' ⟨rfl, rfl⟩
    go_wp2
    go_ret2
    rw [Hm.out]
    exact ⟨rfl, Below.refl _ _⟩
set_option maxHeartbeats 1600000 in
theorem impl_CountBanks (h n : Int) (w : World) :
    Calls Tryz.prog 14 #[.int .i64 h, .int .i64 n] w fun e w' => e = .returned (.tuple #[.int .i64 (mCountBanks h n).1, .bool (mCountBanks h n).2]) ∧ Below w.heap.size w w' := by
  have hm := mCountBanks.eq_1 h n
  by_cases hh : 1 ≤ h ∧ h ≤ 10
  · by_cases hn : 0 ≤ n ∧ n ≤ 28
    · rw [if_pos ⟨hh, hn⟩] at hm
      obtain ⟨H, rfl⟩ := Int.eq_ofNat_of_zero_le (show 0 ≤ h by omega)
      obtain ⟨N, rfl⟩ := Int.eq_ofNat_of_zero_le hn.1
      simp only [Int.toNat_natCast] at hm
      have hH : H ≤ 10 := by omega
      have hN : N ≤ 28 := by omega
      have hmn : min (H : Int) ((N : Int) + 1) = ((min H (N + 1) : Nat) : Int) := by omega
      have hK1 : min H (N + 1) ≤ H := by omega
      have hK2 : min H (N + 1) ≤ N + 1 := by omega
      generalize min H (N + 1) = K at *
      have h1 := isHeight_yes (H : Int) w hh
      have h2 := inRange_yes (N : Int) 28 w hn
      have Hmn := Lib.hid hmn; clear hmn
      have Hm := Lib.hid hm; clear hm
      have H1 := Lib.hid h1; clear h1
      have H2 := Lib.hid h2; clear h2
      have Hh := Lib.hid hh; clear hh
      have Hn := Lib.hid hn; clear hn
      go_enter Tryz.func14, Tryz.ntmps14
      go_wp2_with fail
      with_reducible refine (H1.out).mono ?_
      rintro e w' ⟨rfl, rfl⟩
      go_wp2_with fail
      with_reducible refine (H2.out).mono ?_
      rintro e w' ⟨rfl, rfl⟩
      go_wp2_with fail
      rw [Hmn.out]
      go_loopw [6, 20] (fun c x wr => ∃ k : Nat, k ≤ K ∧ x = .int .i64 k ∧ c = .int .i64 (cbkN H N k) ∧ Below w.heap.size w wr) (fun _ x _ => H - (intOf x).toNat)
      case atStart => exact ⟨0, Nat.zero_le _, rfl, rfl, Below.refl _ _⟩
      case round =>
        obtain ⟨k, hk1, rfl, rfl, hb0⟩ := hrel
        have hb := cbkN_le H N k hH hN (by omega)
        have hs := cbkN_succ H N k
        generalize hd : cbkN H N k = d at *
        have Hd := Lib.hid hd; clear hd
        by_cases hlt : k < K
        · have hcon2 := countUpTo_any (N - k) H wr (by omega) (by omega)
          have ecast : ((N - k : Nat) : Int) = (N : Int) - (k : Int) := by omega
          rw [ecast] at hcon2
          have hb2 := cnt_le H (by omega) (N - k) (by omega)
          generalize cnt H (N - k) = y at *
          have Hcon2 := Lib.hid hcon2; clear hcon2
          have Ecast := Lib.hid ecast; clear ecast
          have Hs := Lib.hid hs; clear hs
          go_wp2_with fail
          with_reducible refine (Hcon2.out).mono ?_
          rintro e w1 ⟨rfl, hb1⟩
          go_wp2_with fail
          go_roundw
          case rel => exact ⟨k + 1, by omega, by go_num, by rw [Hs.out]; go_num, belowTrans hb0 hb1 (Nat.le_refl _)⟩
          case measure => simp [intOf]; omega
        · obtain rfl : k = K := by omega
          go_wp2
          go_ret2
          rw [Hm.out, Hd.out]
          exact ⟨rfl, hb0⟩
    · rw [if_neg (fun h => hn h.2)] at hm
      have h1 := isHeight_yes h w hh
      have h2 := inRange_no n 28 w hn
      have Hm := Lib.hid hm; clear hm
      have H1 := Lib.hid h1; clear h1
      have H2 := Lib.hid h2; clear h2
      have Hh := Lib.hid hh; clear hh
      have Hn := Lib.hid hn; clear hn
      go_enter Tryz.func14, Tryz.ntmps14
      go_wp2_with fail
      with_reducible refine (H1.out).mono ?_
      rintro e w' ⟨rfl, rfl⟩
      go_wp2_with fail
      with_reducible refine (H2.out).mono ?_
      rintro e w' ⟨rfl, rfl⟩
      go_wp2
      go_ret2
      rw [Hm.out]
      exact ⟨rfl, Below.refl _ _⟩
  · rw [if_neg (fun h => hh h.1)] at hm
    have h1 := isHeight_no h w hh
    have Hm := Lib.hid hm; clear hm
    have H1 := Lib.hid h1; clear h1
    have Hh := Lib.hid hh; clear hh
    go_enter Tryz.func14, Tryz.ntmps14
    go_wp2_with fail
    with_reducible refine (H1.out).mono ?_
    rintro e w' ⟨rfl, rfl⟩
    go_wp2
    go_ret2
    rw [Hm.out]
    exact ⟨rfl, Below.refl _ _⟩
end
end Go.Proofs.YtnebfojnbjbogaaGreatDoor
namespace Go.Proofs.YtnebfojnbjbogaaGreatDoor
section
open Go.RowKit
set_option linter.unusedVariables false
set_option linter.unusedSimpArgs false
set_option maxRecDepth 20000

set_option maxHeartbeats 3200000 in
theorem mul64_any (y : Nat) (w : World) (hy : y ≤ 28) :
    Calls Tryz.prog 87 #[.int .u64 1, .int .u64 y] w fun e w' => e = .returned (.tuple #[.int .u64 0, .int .u64 y]) ∧ w = w' := by
  have hc : y = 0 ∨ y = 1 ∨ y = 2 ∨ y = 3 ∨ y = 4 ∨ y = 5 ∨ y = 6 ∨ y = 7 ∨ y = 8 ∨ y = 9 ∨ y = 10 ∨ y = 11 ∨ y = 12 ∨ y = 13 ∨ y = 14 ∨ y = 15 ∨ y = 16 ∨ y = 17 ∨ y = 18 ∨ y = 19 ∨ y = 20 ∨ y = 21 ∨ y = 22 ∨ y = 23 ∨ y = 24 ∨ y = 25 ∨ y = 26 ∨ y = 27 ∨ y = 28 := by omega
  rcases hc with rfl | rfl | rfl | rfl | rfl | rfl | rfl | rfl | rfl | rfl | rfl | rfl | rfl | rfl | rfl | rfl | rfl | rfl | rfl | rfl | rfl | rfl | rfl | rfl | rfl | rfl | rfl | rfl | rfl
  all_goals
    go_enter Tryz.func87, Tryz.ntmps87
    go_wp2
    go_ret2
    exact ⟨rfl, rfl⟩

set_option maxHeartbeats 800000 in
theorem mul_any (y : Nat) (w : World) (hy : y ≤ 28) :
    Calls Tryz.prog 71 #[.int .u64 1, .int .u64 y] w fun e w' => e = .returned (.tuple #[.int .u64 0, .int .u64 y]) ∧ w = w' := by
  have hcon := fun W => mul64_any y W hy
  have Hcon := Lib.hid hcon; clear hcon
  go_enter Tryz.func71, Tryz.ntmps71
  go_wp2_with fail
  with_reducible refine ((Hcon.out _)).mono ?_
  rintro e w' ⟨rfl, rfl⟩
  go_wp2
  go_ret2
  exact ⟨rfl, rfl⟩
/-- the first k of c cells hold h, the others 0 -/
def repR (h : Int) (c k : Nat) : List Value := List.replicate k (.int .i64 h) ++ List.replicate (c - k) (.int .i64 0)
theorem repR_length (h : Int) (c k : Nat) (hk : k ≤ c) : (repR h c k).length = c := by simp [repR]; omega
theorem repR_splice (h : Int) (c k m : Nat) (hk : k + m ≤ c) : splice (repR h c k) k (List.replicate m (.int .i64 h)) = repR h c (k + m) := by
  unfold splice repR
  rw [List.length_replicate]
  have e1 : (List.replicate k (Value.int .i64 h) ++ List.replicate (c - k) (Value.int .i64 0)).take k = List.replicate k (Value.int .i64 h) := List.take_left' (by simp)
  have e2 : (List.replicate k (Value.int .i64 h) ++ List.replicate (c - k) (Value.int .i64 0)).drop (k + m) = List.replicate (c - (k + m)) (Value.int .i64 0) := by
    rw [List.drop_append, List.drop_of_length_le (by simp), List.drop_replicate]; simp
    omega
  rw [e1, e2, ← List.append_assoc, List.replicate_append_replicate]
theorem repR_full (h : Int) (c : Nat) : repR h c c = (List.replicate c h).map (Value.int .i64) := by simp [repR]
theorem repR_zero (h : Int) (c : Nat) : repR h c 0 = List.replicate c (.int .i64 0) := by simp [repR]
theorem repR_cell {w : World} {B c k : Nat} {h : Int} {ty : TypeId} (hg : w.heap[B]? = some (.cells (repR h c k).toArray ty (0, 0))) (j : Nat) (hj : j < k) : w.cell? ⟨B, j, none⟩ = some (.int .i64 h) := by
  simp [World.cell?, hg, repR, List.getElem?_append, hj]
theorem sizeIntR (w : World) : (sizeOf (Tryz.prog.elem 30)).run Tryz.prog w = .ok 1 w := by kernel_rfl
theorem slFromI (g n cap lo : Nat) (h1 : lo < n) (h2 : n ≤ cap) (k : IntKind) (w : World) : (Instr.sliceAt 30 (.slice (some ⟨g, 0, none⟩) n cap) (some (.int k (lo : Int))) none none).run Tryz.prog w = .ok (.slice (some ⟨g, lo, none⟩) (n - lo) (cap - lo)) w := by
  have hrun := run_slice_l (P := Tryz.prog) (w := w) 30 (some ⟨g, 0, none⟩) n cap Tryz.underlying30 k (lo : Int) (by omega) (by omega)
  rw [sizeIntR] at hrun
  rw [run_sliceAt_slice _ _ _ _ _ _ Tryz.underlying30, hrun]
  have : ¬ cap = lo := by omega
  simp [Result.andThen, sliced, this, Addr.add_lit]
theorem slUptoI (g n cap hi : Nat) (h1 : hi ≤ n) (h2 : n ≤ cap) (h3 : 0 < cap) (k : IntKind) (w : World) : (Instr.sliceAt 30 (.slice (some ⟨g, 0, none⟩) n cap) none (some (.int k (hi : Int))) none).run Tryz.prog w = .ok (.slice (some ⟨g, 0, none⟩) hi cap) w := by
  have hrun := run_slice_h (P := Tryz.prog) (w := w) 30 (some ⟨g, 0, none⟩) n cap Tryz.underlying30 k (hi : Int) (by omega) (by omega)
  rw [sizeIntR] at hrun
  rw [run_sliceAt_slice _ _ _ _ _ _ Tryz.underlying30, hrun]
  have : ¬ cap = 0 := by omega
  simp [Result.andThen, sliced, this, Addr.add_lit]
theorem copyPos {w1 : World} {g m : Nat} {h : Int} (B : Nat) (hg' : w1.cell? ⟨g, 0, none⟩ = some (.int .i64 h)) (hm : m ≤ 1) :
    0 < (List.replicate m (Value.int .i64 h)).length → (some ⟨B, 0, none⟩ : Option Addr) = some ⟨B, 0, none⟩ ∧ ∃ ad, (some ⟨g, 0, none⟩ : Option Addr) = some ad ∧ ∀ j v, (List.replicate m (Value.int .i64 h))[j]? = some v → w1.cell? (ad.add j) = some v := by
  intro _
  refine ⟨rfl, _, rfl, fun j v hj => ?_⟩
  obtain ⟨hlt, hv⟩ := List.getElem?_eq_some_iff.1 hj
  rw [List.length_replicate] at hlt
  rw [List.getElem_replicate] at hv
  subst hv
  obtain rfl : j = 0 := by omega
  rw [show (⟨g, 0, none⟩ : Addr).add 0 = ⟨g, 0, none⟩ by simp [Addr.add_lit]]
  exact hg'
theorem copyRow {w1 : World} {B c k m : Nat} {h : Int} {ty : TypeId} (hg : w1.heap[B]? = some (.cells (repR h c k).toArray ty (0, 0))) (hm : m ≤ k) :
    0 < (List.replicate m (Value.int .i64 h)).length → (some ⟨B, k, none⟩ : Option Addr) = some ⟨B, k, none⟩ ∧ ∃ ad, (some ⟨B, 0, none⟩ : Option Addr) = some ad ∧ ∀ j v, (List.replicate m (Value.int .i64 h))[j]? = some v → w1.cell? (ad.add j) = some v := by
  intro _
  refine ⟨rfl, _, rfl, fun j v hj => ?_⟩
  obtain ⟨hlt, hv⟩ := List.getElem?_eq_some_iff.1 hj
  rw [List.length_replicate] at hlt
  rw [List.getElem_replicate] at hv
  subst hv
  rw [show (⟨B, 0, none⟩ : Addr).add j = ⟨B, j, none⟩ by simp [Addr.add_lit]]
  exact repR_cell hg j (by omega)
theorem oneRep (m : Nat) (h : Int) : ∀ v ∈ List.replicate m (Value.int .i64 h), v.oneCell' = true := by intro v hv; rw [List.eq_of_mem_replicate hv]; rfl
theorem copy_run (w : World) (B c k m : Nat) (h : Int) (hg : w.heap[B]? = some (.cells (repR h c k).toArray 3 (0, 0))) (hm : m = min k (c - k)) (hk : k ≤ c) :
    ∃ w', (∀ ty, (Builtin.copy_ #[30, 30] ty #[.slice (some ⟨B, k, none⟩) (c - k) (c - k), .slice (some ⟨B, 0, none⟩) k c]).run Tryz.prog w = .ok (.int .i64 (m : Int)) w') ∧ w'.heap[B]? = some (.cells (repR h c (k + m)).toArray 3 (0, 0)) ∧ Below B w w' := by
  obtain ⟨i0, hi, hz0, hz1, hz2⟩ := info_parts Tryz.infoInt
  have hsz1 : (Tryz.prog.info? 3).map (·.size) = some 1 := by rw [hi]; simp [hz1]
  have hr := fun ty => run_copy_row (P := Tryz.prog) w 30 30 ty 3 B k (c - k) (c - k) ⟨B, 0, none⟩ k c (repR h c k).toArray 3 (List.replicate m (.int .i64 h)) Tryz.underlying30 hsz1 hg (by rw [List.length_replicate]; exact hm)
    (fun j v hj => by
      obtain ⟨hlt, hv⟩ := List.getElem?_eq_some_iff.1 hj
      rw [List.length_replicate] at hlt
      rw [List.getElem_replicate] at hv
      subst hv
      rw [show (⟨B, 0, none⟩ : Addr).add j = ⟨B, j, none⟩ by simp [Addr.add_lit]]
      exact repR_cell hg j (by omega))
    (by rw [List.length_replicate, List.size_toArray, repR_length h c k hk]; omega) (oneRep m h)
  have hsp := repR_splice h c k m (by omega)
  unfold splice at hsp
  refine ⟨_, fun ty => by rw [hr ty, List.length_replicate]; rfl, ?_, (Below.refl _ _).trans (below_setRow (Below.refl _ _) (Nat.le_refl _) _)⟩
  rw [setRow_heap w B _ _ _ _ hg]
  simp only [List.append_assoc, List.length_replicate] at hsp ⊢
  rw [hsp]
set_option maxHeartbeats 1600000 in
theorem repeat_any (h : Int) (c g : Nat) (w : World) (hc : c ≤ 28) (hg : w.cell? ⟨g, 0, none⟩ = some (.int .i64 h)) (hgs : g < w.heap.size) :
    Calls Tryz.prog 65 #[.slice (some ⟨g, 0, none⟩) 1 1, .int .i64 c] w fun e w' => ∃ ao' cap', e = .returned (.slice ao' c cap') ∧ Own w.heap.size w'.heap.size w' ao' c cap' (List.replicate c h) ∧ Below w.heap.size w w' := by
  have hm := fun W => mul_any c W hc
  obtain ⟨i0, hi, hz0, hz1, hz2⟩ := info_parts Tryz.infoInt
  have hsz1 : (Tryz.prog.info? 3).map (·.size) = some 1 := by rw [hi]; simp [hz1]
  have Hm := Lib.hid hm; clear hm
  have Hsz1 := Lib.hid hsz1; clear hsz1
  go_enter Tryz.func65, Tryz.ntmps65
  go_wp2_with fail
  with_reducible refine ((Hm.out _)).mono ?_
  rintro e w' ⟨rfl, rfl⟩
  go_wp2_with (at_make; refine wpList_make_full w rfl _ _ _ rfl w.heap.size 3 i0 _ 1 Tryz.underlying30 hi hz0 hz1 _ _ _ _ c rfl rfl rfl rfl ?_ ?_ (Nat.le_refl _) ?_)
  · first | (rw [hz2]; omega) | omega
  · first | (unfold maxLen; omega) | omega
  · intro w1 hown hgrow
    rw [madeZeros] at hown
    have hg1 : w1.heap[w.heap.size]? = some (.cells (repR h c 0).toArray 3 (0, 0)) := by
      rcases hown.2 with ⟨h1, _⟩ | ⟨g', cap', cur, h1, _, h3, _, _, h6, h7⟩
      · simp at h1
      · simp only [Value.slice.injEq, Option.some.injEq, Addr.mk.injEq, true_and, and_true] at h1
        obtain ⟨rfl, rfl⟩ := h1
        rw [h3]
        rw [List.take_of_length_le (by simp; omega)] at h7
        rw [repR_zero, ← List.map_replicate, ← h7]
    have hb1 : Below w.heap.size w w1 := (Below.refl _ _).grown hgrow (Nat.le_refl _) (fun k hk => by cases hk)
    have hg' : w1.cell? ⟨g, 0, none⟩ = some (.int .i64 h) := by rw [hb1.cell (p := ⟨g, 0, none⟩) hgs]; exact hg
    obtain ⟨m, hmm⟩ : ∃ m, m = min 1 c := ⟨_, rfl⟩
    have hm1 : m ≤ c := by omega
    have hm2 : m = 0 → c = 0 := by omega
    have hcs : (List.replicate m (Value.int .i64 h)).length = Nat.min 1 c := by rw [List.length_replicate]; exact hmm
    have hm3 : m ≤ 1 := by omega
    have hfit : 0 + (List.replicate m (Value.int .i64 h)).length ≤ (repR h c 0).length := by rw [repR_length h c 0 (by omega), List.length_replicate]; omega
    clear hown hgrow hi hz0 hz1 hz2 hmm
    have Hg1 := Lib.hid hg1; clear hg1
    have Hb1 := Lib.hid hb1; clear hb1
    have Hg' := Lib.hid hg'; clear hg'
    have Hm2 := Lib.hid hm2; clear hm2
    have Hcs := Lib.hid hcs; clear hcs
    have Hfit := Lib.hid hfit; clear hfit
    have Hg := Lib.hid hg; clear hg
    have Hgs := Lib.hid hgs; clear hgs
    go_wp2_with (refine wpList_copy_splice rfl (.tmp 31) (.tmp 32) 30 30 rfl 3 Tryz.underlying30 Hsz1.out (some ⟨w.heap.size, 0, none⟩) (some ⟨g, 0, none⟩) c c 1 1 rfl rfl w.heap.size 0 (repR h c 0) _ Hg1.out (List.replicate m (Value.int .i64 h)) Hcs.out (copyPos w.heap.size Hg'.out hm3) Hfit.out (oneRep m h) w.heap.size w Hb1.out (Nat.le_refl _) ?_)
    intro w2 hg2 hb2
    rw [repR_splice h c 0 m (by omega), Nat.zero_add] at hg2
    clear Hg1 Hb1 Hg' Hcs Hfit Hg Hgs
    have Hb2 := Lib.hid hb2; clear hb2
    have Hg2 := Lib.hid hg2.out; clear hg2
    go_wp2_with fail
    go_loopw [8] (fun x wr => ∃ k : Nat, k ≤ c ∧ Hid (k = 0 → c = 0) ∧ x = .int .i64 k ∧ Hid (wr.heap[w.heap.size]? = some (.cells (repR h c k).toArray 3 (0, 0))) ∧ Below w.heap.size w wr) (fun x _ => c - (intOf x).toNat)
    case atStart => exact ⟨m, hm1, Hm2, rfl, Hg2, Hb2.out⟩
    case round =>
      obtain ⟨k, hkc, Hk0, rfl, Hgr, hbr⟩ := hrel
      clear Hg2 Hb2 Hm2 hm1 hm3
      by_cases hlt : k < c
      · have hk1 : 1 ≤ k := by have := Hk0.out; omega
        have hs1 := slFromI w.heap.size c c k hlt (Nat.le_refl _) .i64
        have hs2 := slUptoI w.heap.size c c k (by omega) (Nat.le_refl _) (by omega) .i64
        obtain ⟨m2, hmm⟩ : ∃ m2, m2 = min k (c - k) := ⟨_, rfl⟩
        have hmk : m2 ≤ k := by omega
        have hmc : k + m2 ≤ c := by omega
        have hmp : 1 ≤ m2 := by omega
        obtain ⟨w4, hrun, hg4, hb4⟩ := copy_run wr.drew w.heap.size c k m2 h Hgr.out hmm hkc
        have hb5 := hbr.drew.trans hb4
        clear hmm hb4
        have Hg4 := Lib.hid hg4; clear hg4
        have Hb5 := Lib.hid hb5; clear hb5
        have Hbr := Lib.hid hbr; clear hbr
        go_wp2
        go_region
        all_goals
          go_wp2
          go_roundw
          case rel => exact ⟨k + m2, by omega, Lib.hid (by omega), by go_num, Lib.hid Hg4.out, Hb5.out⟩
          case measure => simp [intOf]; omega
      · obtain rfl : k = c := by omega
        have Hbr := Lib.hid hbr; clear hbr
        go_wp2
        go_ret
        have hg5 := Hgr.out
        rw [repR_full] at hg5
        refine ⟨_, _, rfl, Own.of ⟨by simp, .inr ⟨w.heap.size, k, _, rfl, Nat.le_refl _, hg5, Nat.le_refl _, by unfold maxLen; omega, by simp, ?_⟩⟩, Hbr.out⟩
        simp
end
end Go.Proofs.YtnebfojnbjbogaaGreatDoor
namespace Go.Proofs.YtnebfojnbjbogaaGreatDoor
section
open Go.RowKit
set_option linter.unusedVariables false
set_option linter.unusedSimpArgs false
set_option maxRecDepth 20000

theorem divs (H C : Nat) : Int.tdiv (C : Int) (H : Int) = ((C / H : Nat) : Int) ∧ Int.tmod (C : Int) (H : Int) = ((C % H : Nat) : Int) := ⟨(Int.ofNat_tdiv _ _).symm, (Int.ofNat_tmod _ _).symm⟩
theorem divN (H C : Nat) (h1 : 1 ≤ H) (hC : C ≤ 28) : C / H ≤ 28 ∧ C % H ≤ 28 := ⟨Nat.le_trans (Nat.div_le_self _ _) hC, Nat.le_trans (Nat.mod_le _ _) hC⟩
set_option maxHeartbeats 1600000 in
theorem makePiles_any (H C : Nat) (ao : Option Addr) (n cap : Nat) (xs : List Int) (w : World) (hA : IntsAt w ao n cap xs) (h1 : 1 ≤ H ∧ H ≤ 10) (hC : C ≤ 28) (hn : n ≤ 28) :
    Calls Tryz.prog 55 #[.int .i64 H, .int .i64 C, .slice ao n cap] w fun e w' => ∃ ao' n' cap', e = .returned (.tuple #[.agg #[.int .i64 H, .int .i64 ((C % H : Nat) : Int), .slice ao' n' cap'], .int .i64 ((C / H : Nat) : Int)]) ∧ Own w.heap.size w'.heap.size w' ao' n' cap' (List.replicate (C / H) (H : Int) ++ xs) ∧ Below w.heap.size w w' := by
  obtain ⟨d1, d2⟩ := divs H C
  obtain ⟨b1, b2⟩ := divN H C h1.1 hC
  have hz : ((H : Int) == 0) = false := by simp; omega
  have hz2 : ¬ (H : Int) = 0 := by omega
  have hrep := fun g W => repeat_any (H : Int) (C / H) g W b1
  generalize C / H = q at *
  generalize C % H = r at *
  have hb1 := belowAlloc w (.cells #[.int .i64 0, .int .i64 0, .slice none 0 0] 32)
  have hb2 := belowTrans hb1 (belowAlloc _ (.cells #[.int .i64 (H : Int)] 3)) (Nat.le_refl _)
  have k1 := (Blk.new w 0 0 none 0 0 32).keep (belowAlloc _ (.cells #[.int .i64 (H : Int)] 3))
  have hc2 : ((w.alloc (.cells #[.int .i64 0, .int .i64 0, .slice none 0 0] 32)).alloc (.cells #[.int .i64 (H : Int)] 3)).cell? ⟨w.heap.size + 1, 0, none⟩ = some (.int .i64 (H : Int)) := by
    rw [World.cell?_alloc_at _ _ _ _ (by simp)]; rfl
  have hA2 := hA.keep hb2
  have hcon := (hrep (w.heap.size + 1) _ hc2 (by simp)).mono (R' := fun e w1 => ∃ a c, e = .returned (.slice a q c) ∧ Own (w.heap.size + 2) w1.heap.size w1 a q c (List.replicate q (H : Int)) ∧ Below w.heap.size w w1 ∧ Blk w1 w.heap.size 0 0 none 0 0 32 ∧ IntsAt w1 ao n cap xs ∧ w.heap.size + 2 ≤ w1.heap.size)
    (fun e w1 ⟨a, c, e1, e2, e3⟩ => ⟨a, c, e1, by simpa using e2, belowTrans hb2 e3 (Nat.le_refl _), k1.keep e3, hA2.keep e3, by simpa using e3.size⟩)
  clear hrep hb1 hb2 k1 hc2 hA2
  have Hcon := Lib.hid hcon; clear hcon
  go_enter Tryz.func55, Tryz.ntmps55
  go_wp2_with fail
  with_reducible refine (Hcon.out).mono ?_
  rintro e w1 ⟨a1, c1, rfl, ho1, hb1, k1, hA1, hs1⟩
  have Hb1 := Lib.hid hb1; clear hb1
  have K1 := Lib.hid k1; clear k1
  go_wp2_with (at_builtin; refine wpList_cat w1 rfl _ _ rfl (w.heap.size + 2) _ a1 q c1 _ rfl ho1 ao n cap xs rfl hA1 (by omega) (by omega) ?_)
  intro a2 c2 w2 ho2 hch
  have hb2 : Below (w.heap.size + 2) w1 w2 := ho1.chgBelow hch (by omega)
  have k2 : Blk w2 w.heap.size 0 0 none 0 0 32 := (hb2.block w.heap.size (by omega)).trans K1.out
  have hb3 := Hb1.out.trans (hb2.mono (by omega))
  obtain ⟨⟨x0, x1, x2⟩, y0, y1, y2⟩ := k2.cells
  have ho3 := (((ho2.offCell (R := w.heap.size) (by omega) 0 (.int .i64 (H : Int))).offCell (R := w.heap.size) (by omega) 1 (.int .i64 (r : Int))).offCell (R := w.heap.size) (by omega) 2 (.slice a2 (q + n) c2)).mono (show w.heap.size ≤ w.heap.size + 2 by omega) (Nat.le_refl _)
  have hb4 := ((hb3.setCell (p := ⟨w.heap.size, 0, none⟩) (Nat.le_refl _) (.int .i64 (H : Int))).setCell (p := ⟨w.heap.size, 1, none⟩) (Nat.le_refl _) (.int .i64 (r : Int))).setCell (p := ⟨w.heap.size, 2, none⟩) (Nat.le_refl _) (.slice a2 (q + n) c2)
  clear ho1 ho2 hch hb2 hb3 k2 hA1 K1 Hb1
  have Ho3 := Lib.hid ho3; clear ho3
  have Hb4 := Lib.hid hb4; clear hb4
  go_wp2
  refine bodyPost_ret (v := .tuple #[.agg #[.int .i64 H, .int .i64 (r : Int), .slice a2 (q + n) c2], .int .i64 (q : Int)]) ?_ rfl ⟨a2, q + n, c2, rfl, by have := Ho3.out; simpa using this, Hb4.out⟩
  rw [results_cell_tmp rfl]
  simp [go_sem, asAddr, Result.andThen, loadVar, *]

theorem Blk.set2 {w g h l a n c ty} (hh : Blk w g h l a n c ty) (a' : Option Addr) (n' c' : Nat) : Blk (w.setCell ⟨g, 2, none⟩ (.slice a' n' c')) g h l a' n' c' ty := by
  have := heap_setCell_same w g 2 _ _ (.slice a' n' c') hh
  unfold Blk
  rw [this]; rfl
theorem Blk.chg {S : Nat → Prop} {w w' g h l a n c ty} (hh : Blk w g h l a n c ty) (hc : Chg S w w') (hs : ¬ S g) : Blk w' g h l a n c ty := (hc.block g hh.size hs).trans hh

set_option maxHeartbeats 1600000 in
theorem baFill_any (H C : Nat) (ao : Option Addr) (n cap : Nat) (xs : List Int) (w : World) (hA : IntsAt w ao n cap xs) (h1 : 1 ≤ H ∧ H ≤ 10) (hC : C ≤ 28) (hn : n ≤ 28) :
    Calls Tryz.prog 61 #[.int .i64 H, .int .i64 C, .slice ao n cap] w fun e w' => ∃ ao' n' cap', e = .returned (.tuple #[.agg #[.int .i64 H, .int .i64 ((C % H : Nat) : Int), .slice ao' n' cap'], .int .i64 ((C / H : Nat) : Int)]) ∧ Own w.heap.size w'.heap.size w' ao' n' cap' (List.replicate (C / H) (H : Int) ++ xs) ∧ Below w.heap.size w w' := by
  obtain ⟨d1, d2⟩ := divs H C
  obtain ⟨b1, b2⟩ := divN H C h1.1 hC
  have hz : ((H : Int) == 0) = false := by simp; omega
  have hz2 : ¬ (H : Int) = 0 := by omega
  generalize C / H = q at *
  generalize C % H = r at *
  have hb1 := belowAlloc w (.cells #[.int .i64 0, .int .i64 0, .slice none 0 0] 32)
  have hbn := belowAlloc (w.alloc (.cells #[.int .i64 0, .int .i64 0, .slice none 0 0] 32)) (.cells #[.int .i64 (H : Int), .int .i64 (r : Int), .slice none 0 0] 32)
  have hb2 := belowTrans hb1 hbn (Nat.le_refl _)
  have k1 := (Blk.new w 0 0 none 0 0 32).keep hbn
  have m1 := Blk.new (w.alloc (.cells #[.int .i64 0, .int .i64 0, .slice none 0 0] 32)) (H : Int) (r : Int) none 0 0 32
  rw [show (w.alloc (.cells #[.int .i64 0, .int .i64 0, .slice none 0 0] 32)).heap.size = w.heap.size + 1 by simp] at m1
  have hA2 := hA
  have hs2 : ((w.alloc (.cells #[.int .i64 0, .int .i64 0, .slice none 0 0] 32)).alloc (.cells #[.int .i64 (H : Int), .int .i64 (r : Int), .slice none 0 0] 32)).heap.size = w.heap.size + 2 := by simp
  have hst : ∃ W, W = ((w.alloc (.cells #[.int .i64 0, .int .i64 0, .slice none 0 0] 32)).alloc (.cells #[.int .i64 (H : Int), .int .i64 (r : Int), .slice none 0 0] 32)) := ⟨_, rfl⟩
  clear hb1 hbn
  have Hb2 := Lib.hid hb2; clear hb2
  have K1 := Lib.hid k1; clear k1
  have M1 := Lib.hid m1; clear m1
  have HA2 := Lib.hid hA2; clear hA2
  have Hs2 := Lib.hid hs2; clear hs2
  go_enter Tryz.func61, Tryz.ntmps61
  go_wp2_with fail
  go_loopw [9] (fun x wr => ∃ (k : Nat) (a : Option Addr) (p c : Nat), k ≤ q ∧ x = .int .i64 k ∧ Hid (Blk wr w.heap.size 0 0 none 0 0 32) ∧ Hid (Blk wr (w.heap.size + 1) (H : Int) (r : Int) a p c 32) ∧ Own (w.heap.size + 2) wr.heap.size wr a p c (List.replicate k (H : Int)) ∧ Hid (Below w.heap.size w wr) ∧ w.heap.size + 2 ≤ wr.heap.size) (fun x _ => q - (intOf x).toNat)
  case atStart => exact ⟨0, none, 0, 0, Nat.zero_le _, rfl, K1, M1, Own.nil _ _ _, Hb2, by rw [Hs2.out]; exact Nat.le_refl _⟩
  case round =>
    obtain ⟨k, a, p, c, hkq, rfl, Kr, Mr, hor, Hbr, hsr⟩ := hrel
    clear K1 M1 Hb2 Hs2
    have hlp := hor.length
    rw [List.length_replicate] at hlp
    subst hlp
    have hge : ∀ g, (Value.slice a k c).ownBlock = some g → w.heap.size + 2 ≤ g := fun g hg => (hor.1.lt g hg).1
    obtain ⟨⟨x0, x1, x2⟩, y0, y1, y2⟩ := Mr.out.cells
    obtain ⟨⟨u0, u1, u2⟩, v0, v1, v2⟩ := Kr.out.cells
    by_cases hlt : k < q
    · have Hge := Lib.hid hge; clear hge
      go_wp2_with (at_builtin; refine wpList_push wr rfl _ _ rfl (w.heap.size + 2) _ a k c _ rfl hor (H : Int) rfl (by omega) hsr ?_)
      intro a4 c4 w4 ho4 hch
      have hns : ∀ g, g < w.heap.size + 2 → ¬ (Value.slice a k c).ownBlock = some g := fun g hg e => by have := Hge.out g e; omega
      have k4 := Kr.out.chg hch (hns _ (by omega))
      have m4 := Mr.out.chg hch (hns _ (by omega))
      have hb4 : Below (w.heap.size + 2) wr w4 := hor.chgBelow hch hsr
      have hb5 := (Hbr.out.trans (hb4.mono (by omega))).setCell (p := ⟨w.heap.size + 1, 2, none⟩) (by show w.heap.size ≤ w.heap.size + 1; omega) (.slice a4 (k + 1) c4)
      have hs4 : w.heap.size + 2 ≤ w4.heap.size := Nat.le_trans hsr hb4.size
      have m5 := m4.set2 a4 (k + 1) c4
      have k5 := k4.chg (chgCell w4 (w.heap.size + 1) 2 (.slice a4 (k + 1) c4)) (by omega)
      have ho5 := ho4.offCell (R := w.heap.size + 1) (by omega) 2 (.slice a4 (k + 1) c4)
      rw [← List.replicate_succ'] at ho5
      clear x0 x1 x2 y0 y1 y2 u0 u1 u2 v0 v1 v2 hor ho4 hch hb4 Kr Mr Hbr k4
      obtain ⟨⟨x0, x1, x2⟩, y0, y1, y2⟩ := m4.cells
      clear m4
      have Hb5 := Lib.hid hb5; clear hb5
      have M5 := Lib.hid m5; clear m5
      have K5 := Lib.hid k5; clear k5
      have Ho5 := Lib.hid ho5; clear ho5
      have Hns := Lib.hid hns; clear hns
      go_wp2
      go_roundw
      case rel => exact ⟨k + 1, a4, k + 1, c4, by omega, by go_num, K5, M5, by have := Ho5.out; simpa using this, Hb5, by simpa using hs4⟩
      case measure => simp [intOf]; omega
    · obtain rfl : k = q := by omega
      go_wp2_with (at_builtin; refine wpList_cat wr rfl _ _ rfl (w.heap.size + 2) _ a k c _ rfl hor ao n cap xs rfl (HA2.out.keep Hbr.out) (by omega) hsr ?_)
      intro a4 c4 w4 ho4 hch
      have hns : ∀ g, g < w.heap.size + 2 → ¬ (Value.slice a k c).ownBlock = some g := fun g hg e => by have := hge g e; omega
      have k4 := Kr.out.chg hch (hns _ (by omega))
      have m4 := Mr.out.chg hch (hns _ (by omega))
      have hb4 : Below (w.heap.size + 2) wr w4 := hor.chgBelow hch hsr
      have hb5 := (Hbr.out.trans (hb4.mono (by omega))).setCell (p := ⟨w.heap.size + 1, 2, none⟩) (by show w.heap.size ≤ w.heap.size + 1; omega) (.slice a4 (k + n) c4)
      have hs4 : w.heap.size + 2 ≤ w4.heap.size := Nat.le_trans hsr hb4.size
      have m5 := m4.set2 a4 (k + n) c4
      have k5 := k4.chg (chgCell w4 (w.heap.size + 1) 2 (.slice a4 (k + n) c4)) (by omega)
      have ho5 := ho4.offCell (R := w.heap.size + 1) (by omega) 2 (.slice a4 (k + n) c4)
      clear x0 x1 x2 y0 y1 y2 u0 u1 u2 v0 v1 v2 hor ho4 hch hb4 Kr Mr Hbr k4 hge
      obtain ⟨⟨x0, x1, x2⟩, y0, y1, y2⟩ := m4.cells
      clear m4
      obtain ⟨w5, hw5⟩ : ∃ w5, w5 = w4.setCell ⟨w.heap.size + 1, 2, none⟩ (.slice a4 (k + n) c4) := ⟨_, rfl⟩
      have Hb5 := Lib.hid hb5; clear hb5
      have M5 := Lib.hid m5; clear m5
      have K5 := Lib.hid k5; clear k5
      have Ho5 := Lib.hid ho5; clear ho5
      have Hns := Lib.hid hns; clear hns
      have Hw5 := Lib.hid hw5; clear hw5
      go_wp2_with fail
      rw [← Hw5.out]
      clear x0 x1 x2 y0 y1 y2
      have k6 : Blk w5 w.heap.size 0 0 none 0 0 32 := by rw [Hw5.out]; exact K5.out
      have m6 : Blk w5 (w.heap.size + 1) (H : Int) (r : Int) a4 (k + n) c4 32 := by rw [Hw5.out]; exact M5.out
      have ho6 : Own (w.heap.size + 2) w5.heap.size w5 a4 (k + n) c4 (List.replicate k (H : Int) ++ xs) := by rw [Hw5.out]; have := Ho5.out; simpa using this
      have hb6 : Below w.heap.size w w5 := by rw [Hw5.out]; exact Hb5.out
      have ho7 := (((ho6.offCell (R := w.heap.size) (by omega) 0 (.int .i64 (H : Int))).offCell (R := w.heap.size) (by omega) 1 (.int .i64 (r : Int))).offCell (R := w.heap.size) (by omega) 2 (.slice a4 (k + n) c4)).mono (show w.heap.size ≤ w.heap.size + 2 by omega) (Nat.le_refl _)
      have hb7 := (((hb6.setCell (p := ⟨w.heap.size, 0, none⟩) (Nat.le_refl _) (.int .i64 (H : Int))).setCell (p := ⟨w.heap.size, 1, none⟩) (Nat.le_refl _) (.int .i64 (r : Int))).setCell (p := ⟨w.heap.size, 2, none⟩) (Nat.le_refl _) (.slice a4 (k + n) c4)).drew
      clear Hw5 Hb5 M5 K5 Ho5 ho6 hb6
      obtain ⟨⟨x0, x1, x2⟩, y0, y1, y2⟩ := m6.cells
      obtain ⟨⟨u0, u1, u2⟩, v0, v1, v2⟩ := k6.cells
      clear m6 k6
      have Ho7 := Lib.hid ho7; clear ho7
      have Hb7 := Lib.hid hb7; clear hb7
      go_region
      all_goals
        go_wp2
        refine bodyPost_ret (v := .tuple #[.agg #[.int .i64 H, .int .i64 (r : Int), .slice a4 (k + n) c4], .int .i64 (k : Int)]) ?_ rfl ⟨a4, k + n, c4, rfl, by have := Ho7.out.drew; simpa using this, Hb7.out⟩
        rw [results_cell_tmp rfl]
        simp [go_sem, asAddr, Result.andThen, loadVar, *]
end
end Go.Proofs.YtnebfojnbjbogaaGreatDoor
namespace Go.Proofs.YtnebfojnbjbogaaGreatDoor
section
open Go.RowKit
set_option linter.unusedVariables false
set_option linter.unusedSimpArgs false
set_option maxRecDepth 20000

theorem fill_nat (H C : Nat) (xs : List Int) : fillB (H : Int) (C : Int) xs = ⟨(H : Int), ((C % H : Nat) : Int), List.replicate (C / H) (H : Int) ++ xs⟩ := by
  unfold fillB
  rw [← Int.natCast_ediv, ← Int.natCast_emod, Int.toNat_natCast]
theorem mStartBank_bound (h n : Int) : (mStartBank h n).1.p.length ≤ 1048576 := by
  unfold mStartBank
  split
  · next q =>
    obtain ⟨H, rfl⟩ := Int.eq_ofNat_of_zero_le (show 0 ≤ h by omega)
    obtain ⟨C, rfl⟩ := Int.eq_ofNat_of_zero_le (show 0 ≤ n by omega)
    rw [fill_nat]
    have := Nat.div_le_self C H
    simp
    omega
  · simp [noBk]
end
end Go.Proofs.YtnebfojnbjbogaaGreatDoor
namespace Go.Proofs.YtnebfojnbjbogaaGreatDoor
section
open Go.RowKit
set_option linter.unusedVariables false
set_option linter.unusedSimpArgs false
set_option maxRecDepth 20000

theorem bankNo {b : Bk} (h : ¬ BankOk b) : bankB b = false := bank_no.2 h
theorem bankYes {b : Bk} (h : BankOk b) : bankB b = true := bank_iff.2 h

set_option maxHeartbeats 800000 in
theorem cardsWith_any (h l : Int) (ao : Option Addr) (n cap : Nat) (xs : List Int) (w : World) (hA : IntsAt w ao n cap xs) (hG : Good xs) (hl : 0 ≤ l ∧ l ≤ 100) :
    Calls Tryz.prog 24 #[bankV h l ao n cap] w fun e w' => e = .returned (.int .i64 (l + xs.sum)) ∧ Below w.heap.size w w' := by
  have hb := belowAlloc w (bankC h l ao n cap 32)
  have hcon := fun nq => (sumOf_any ao n cap xs _ ((hA.keep hb).drewN nq) hG).mono fun _ _ ⟨a, b⟩ => And.intro a b.symm
  have hs0 := sum_nonneg hG.1
  have hs1 := hG.2.2
  unfold bankC at hb hcon
  generalize xs.sum = S at *
  have Hcon := Lib.hid hcon; clear hcon
  have Hb := Lib.hid hb; clear hb
  unfold bankV
  go_enter Tryz.func24, Tryz.ntmps24
  go_wp2_with fail
  go_quiet ((go_at_call 49; exact Calls.quiet_of_same (Hcon.out _)))
  go_wp2
  go_ret
  exact ⟨rfl, belowDrewN Hb.out _⟩
set_option maxHeartbeats 1600000 in
theorem isBank_any (h l : Int) (ao : Option Addr) (n cap : Nat) (xs : List Int) (w : World) (hA : IntsAt w ao n cap xs) :
    Calls Tryz.prog 23 #[bankV h l ao n cap] w fun e w' => e = .returned (.bool (bankB ⟨h, l, xs⟩)) ∧ Below w.heap.size w w' := by
  have hb := belowAlloc w (bankC h l ao n cap 32)
  have hA' := hA.keep hb
  by_cases h1 : 1 ≤ h ∧ h ≤ 10
  · have c1 := fun W => isHeight_yes h W h1
    by_cases h2 : 0 ≤ l ∧ l ≤ h - 1
    · have c2 := fun W => inRange_yes l (h - 1) W h2
      by_cases h3 : Good xs
      · have c3 := isPiles_yes ao n cap xs _ hA' h3
        have hn := hA.length
        have hn28 := h3.len
        have c4 := fun W (hW : IntsAt W ao n cap xs) => cardsWith_any h l ao n cap xs W hW h3 (by omega)
        have hs0 := sum_nonneg h3.1
        have hs1 := h3.2.2
        have hbk : bankB ⟨h, l, xs⟩ = decide (xs.getD 0 0 ≤ h ∧ l + xs.sum ≤ 28) := by
          
          by_cases q : xs.getD 0 0 ≤ h ∧ l + xs.sum ≤ 28
          · rw [decide_eq_true q, bankYes ⟨h1, h2, h3, q.1, q.2⟩]
          · rw [decide_eq_false q, bankNo fun z => q ⟨z.2.2.2.1, z.2.2.2.2⟩]
        rw [hbk]
        have hdrew := fun nq => hA'.drewN nq
        unfold bankC at hb c3 hdrew hA'
        unfold bankV at c4
        generalize xs.sum = S at *
        by_cases hz : n = 0
        · subst hz
          have hg0 : xs.getD 0 0 = 0 := by rw [List.getD_eq_getElem?_getD, List.getElem?_eq_none (by omega)]; rfl
          have hd : decide (xs.getD 0 0 ≤ h ∧ l + S ≤ 28) = decide (l + S ≤ 28) := by rw [hg0]; simp; omega
          rw [hd]
          have hgt : decide ((0 : Int) > 0) = false := by decide
          clear hd hg0 hbk hA hA'
          have C1 := Lib.hid c1; clear c1
          have C2 := Lib.hid c2; clear c2
          have C3 := Lib.hid c3; clear c3
          have C4 := Lib.hid c4; clear c4
          have Hb := Lib.hid hb; clear hb
          have Hdrew := Lib.hid hdrew; clear hdrew
          have Hn := Lib.hid hn; clear hn
          have H3 := Lib.hid h3; clear h3
          unfold bankV
          go_enter Tryz.func23, Tryz.ntmps23
          go_wp2_with fail
          with_reducible refine ((C1.out _)).mono ?_
          rintro e w' ⟨rfl, rfl⟩
          go_wp2_with fail
          with_reducible refine ((C2.out _)).mono ?_
          rintro e w' ⟨rfl, rfl⟩
          go_wp2_with fail
          with_reducible refine ((C3.out)).mono ?_
          rintro e w' ⟨rfl, rfl⟩
          go_wp2_with fail
          go_quiet (fail)
          go_wp2_with fail
          with_reducible refine (C4.out _ (Hdrew.out _)).mono ?_
          rintro e w1 ⟨rfl, hb1⟩
          have hbb := belowTrans (belowDrewN Hb.out _) hb1 (Nat.le_refl _)
          have Hbb := Lib.hid hbb; clear hbb
          go_wp2
          go_ret
          exact ⟨rfl, Hbb.out⟩
        · obtain ⟨b, o, rfl, hbl, hc⟩ := hA'.cell 0 (by omega)
          have hck := hc 0 (by omega)
          rw [Nat.add_zero] at hck
          have hgt : decide (0 < n) = true := by simp; omega
          clear hc hbl
          generalize xs.getD 0 0 = x at *
          by_cases hx : x ≤ h
          · have hd : decide (x ≤ h ∧ l + S ≤ 28) = decide (l + S ≤ 28) := by simp [hx]
            have hx2 : decide (h < x) = false := by simp; omega
            rw [hd]
            clear hd hbk hA hA'
            have C1 := Lib.hid c1; clear c1
            have C2 := Lib.hid c2; clear c2
            have C3 := Lib.hid c3; clear c3
            have C4 := Lib.hid c4; clear c4
            have Hb := Lib.hid hb; clear hb
            have Hdrew := Lib.hid hdrew; clear hdrew
            have Hn := Lib.hid hn; clear hn
            have H3 := Lib.hid h3; clear h3
            unfold bankV
            go_enter Tryz.func23, Tryz.ntmps23
            go_wp2_with fail
            with_reducible refine ((C1.out _)).mono ?_
            rintro e w' ⟨rfl, rfl⟩
            go_wp2_with fail
            with_reducible refine ((C2.out _)).mono ?_
            rintro e w' ⟨rfl, rfl⟩
            go_wp2_with fail
            with_reducible refine ((C3.out)).mono ?_
            rintro e w' ⟨rfl, rfl⟩
            go_wp2_with fail
            go_quiet (fail)
            go_wp2_with fail
            with_reducible refine (C4.out _ (Hdrew.out _)).mono ?_
            rintro e w1 ⟨rfl, hb1⟩
            have hbb := belowTrans (belowDrewN Hb.out _) hb1 (Nat.le_refl _)
            have Hbb := Lib.hid hbb; clear hbb
            go_wp2
            go_ret
            exact ⟨rfl, Hbb.out⟩
          · have hd : decide (x ≤ h ∧ l + S ≤ 28) = false := by simp [hx]
            have hx2 : decide (h < x) = true := by simp; omega
            rw [hd]
            clear hd hbk hA hA'
            have C1 := Lib.hid c1; clear c1
            have C2 := Lib.hid c2; clear c2
            have C3 := Lib.hid c3; clear c3
            have C4 := Lib.hid c4; clear c4
            have Hb := Lib.hid hb; clear hb
            have Hdrew := Lib.hid hdrew; clear hdrew
            have Hn := Lib.hid hn; clear hn
            have H3 := Lib.hid h3; clear h3
            unfold bankV
            go_enter Tryz.func23, Tryz.ntmps23
            go_wp2_with fail
            with_reducible refine ((C1.out _)).mono ?_
            rintro e w' ⟨rfl, rfl⟩
            go_wp2_with fail
            with_reducible refine ((C2.out _)).mono ?_
            rintro e w' ⟨rfl, rfl⟩
            go_wp2_with fail
            with_reducible refine ((C3.out)).mono ?_
            rintro e w' ⟨rfl, rfl⟩
            go_wp2_with fail
            go_quiet (fail)
            go_wp2
            go_ret
            exact ⟨rfl, belowDrewN Hb.out _⟩
      · have c3 := isPiles_no ao n cap xs _ hA' (by cases hq : goodB xs with | false => rfl | true => exact absurd (good_iff.1 hq) h3)
        rw [bankNo fun q => h3 q.2.2.1]
        unfold bankC at hb c3
        have C1 := Lib.hid c1; clear c1
        have C2 := Lib.hid c2; clear c2
        have C3 := Lib.hid c3; clear c3
        have Hb := Lib.hid hb; clear hb
        have H3 := Lib.hid h3; clear h3
        unfold bankV
        go_enter Tryz.func23, Tryz.ntmps23
        go_wp2_with fail
        with_reducible refine ((C1.out _)).mono ?_
        rintro e w' ⟨rfl, rfl⟩
        go_wp2_with fail
        with_reducible refine ((C2.out _)).mono ?_
        rintro e w' ⟨rfl, rfl⟩
        go_wp2_with fail
        with_reducible refine ((C3.out)).mono ?_
        rintro e w' ⟨rfl, rfl⟩
        go_wp2
        go_ret
        exact ⟨rfl, Hb.out⟩
    · have c2 := fun W => inRange_no l (h - 1) W h2
      rw [bankNo fun q => h2 q.2.1]
      unfold bankC at hb
      have C1 := Lib.hid c1; clear c1
      have C2 := Lib.hid c2; clear c2
      have Hb := Lib.hid hb; clear hb
      have H2 := Lib.hid h2; clear h2
      unfold bankV
      go_enter Tryz.func23, Tryz.ntmps23
      go_wp2_with fail
      with_reducible refine ((C1.out _)).mono ?_
      rintro e w' ⟨rfl, rfl⟩
      go_wp2_with fail
      with_reducible refine ((C2.out _)).mono ?_
      rintro e w' ⟨rfl, rfl⟩
      go_wp2
      go_ret
      exact ⟨rfl, Hb.out⟩
  · have c1 := fun W => isHeight_no h W h1
    rw [bankNo fun q => h1 q.1]
    unfold bankC at hb
    have C1 := Lib.hid c1; clear c1
    have Hb := Lib.hid hb; clear hb
    have H1 := Lib.hid h1; clear h1
    unfold bankV
    go_enter Tryz.func23, Tryz.ntmps23
    go_wp2_with fail
    with_reducible refine ((C1.out _)).mono ?_
    rintro e w' ⟨rfl, rfl⟩
    go_wp2
    go_ret
    exact ⟨rfl, Hb.out⟩
theorem l1In_t (a lo hi : Int) (w : World) (h : lo ≤ a ∧ a ≤ hi) : Calls Tryz.prog 42 #[.int .i64 a, .int .i64 lo, .int .i64 hi] w fun e w' => e = .returned (.bool true) ∧ w = w' := by
  have := l1In_any a lo hi w; rw [decide_eq_true h] at this; exact this
theorem l1In_f (a lo hi : Int) (w : World) (h : ¬ (lo ≤ a ∧ a ≤ hi)) : Calls Tryz.prog 42 #[.int .i64 a, .int .i64 lo, .int .i64 hi] w fun e w' => e = .returned (.bool false) ∧ w = w' := by
  have := l1In_any a lo hi w; rw [decide_eq_false h] at this; exact this
/-! ### IsBank, BankCards -/
theorem impl_IsBank (h l : Int) (ao : Option Addr) (n cap : Nat) (xs : List Int) (w : World) (hA : IntsAt w ao n cap xs) :
    Calls Tryz.prog 23 #[bankV h l ao n cap] w fun e w' => e = .returned (.bool (bankB ⟨h, l, xs⟩)) ∧ Below w.heap.size w w' := isBank_any h l ao n cap xs w hA
end
end Go.Proofs.YtnebfojnbjbogaaGreatDoor
namespace Go.Proofs.YtnebfojnbjbogaaGreatDoor
section
open Go.RowKit
set_option linter.unusedVariables false
set_option linter.unusedSimpArgs false
set_option maxRecDepth 20000

theorem step_nat (H L0 n : Nat) (xs : List Int) (hn : xs.length = n) : stepB ⟨(H : Int), (L0 : Int), xs⟩ = ⟨(H : Int), (((L0 + n) % H : Nat) : Int), List.replicate ((L0 + n) / H) (H : Int) ++ lowL xs⟩ ∧ madeB ⟨(H : Int), (L0 : Int), xs⟩ = (((L0 + n) / H : Nat) : Int) := by
  subst hn
  refine ⟨?_, ?_⟩
  · unfold stepB
    simp only
    rw [← Int.natCast_add, fill_nat]
  · unfold madeB
    simp only
    rw [← Int.natCast_add, ← Int.natCast_ediv]

set_option maxHeartbeats 1600000 in
theorem baStep_any (h l : Int) (ao : Option Addr) (n cap : Nat) (xs : List Int) (w : World) (hA : IntsAt w ao n cap xs) (hk : BankOk ⟨h, l, xs⟩) :
    Calls Tryz.prog 45 #[.agg #[.int .i64 h, .int .i64 l, .slice ao n cap]] w fun e w' => ∃ a m c, e = .returned (.tuple #[.agg #[.int .i64 (stepB ⟨h, l, xs⟩).h, .int .i64 (stepB ⟨h, l, xs⟩).l, .slice a m c], .int .i64 (madeB ⟨h, l, xs⟩)]) ∧ Own w.heap.size w'.heap.size w' a m c (stepB ⟨h, l, xs⟩).p ∧ Below w.heap.size w w' := by
  have hl0 := hA.length
  have h1 : 1 ≤ h ∧ h ≤ 10 := hk.1
  have h2 : 0 ≤ l ∧ l ≤ h - 1 := hk.2.1
  have hsum : 0 ≤ xs.sum ∧ xs.sum ≤ 28 ∧ (xs.length : Int) ≤ xs.sum := hk.sum
  have h5 : l + xs.sum ≤ 28 := hk.2.2.2.2
  have hle := fun k (hkn : k < n) => hk.le (x := xs.getD k 0) (by rw [List.getD_eq_getElem?_getD, List.getElem?_eq_getElem (by omega)]; exact List.getElem_mem _)
  obtain ⟨H, rfl⟩ := Int.eq_ofNat_of_zero_le (show 0 ≤ h by omega)
  obtain ⟨L0, rfl⟩ := Int.eq_ofNat_of_zero_le h2.1
  have hC : L0 + n ≤ 28 := by omega
  have hn28 : n ≤ 28 := by omega
  obtain ⟨e1, e2⟩ := step_nat H L0 n xs hl0
  rw [e1, e2]
  clear e1 e2
  generalize hq : (L0 + n) / H = q
  generalize hr : (L0 + n) % H = r
  have hb1 := belowAlloc w (.cells #[.int .i64 (H : Int), .int .i64 (L0 : Int), .slice ao n cap] 32)
  have hbn := belowAlloc (w.alloc (.cells #[.int .i64 (H : Int), .int .i64 (L0 : Int), .slice ao n cap] 32)) (.cells #[.int .i64 0, .int .i64 0, .slice none 0 0] 32)
  have hb2 := belowTrans hb1 hbn (Nat.le_refl _)
  have k1 := (Blk.new w (H : Int) (L0 : Int) ao n cap 32).keep hbn
  have m1 := Blk.new (w.alloc (.cells #[.int .i64 (H : Int), .int .i64 (L0 : Int), .slice ao n cap] 32)) 0 0 none 0 0 32
  rw [show (w.alloc (.cells #[.int .i64 (H : Int), .int .i64 (L0 : Int), .slice ao n cap] 32)).heap.size = w.heap.size + 1 by simp] at m1
  have hs2 : ((w.alloc (.cells #[.int .i64 (H : Int), .int .i64 (L0 : Int), .slice ao n cap] 32)).alloc (.cells #[.int .i64 0, .int .i64 0, .slice none 0 0] 32)).heap.size = w.heap.size + 2 := by simp
  clear hb1 hbn hk hsum h5
  have hA0 := hA
  clear hA
  have Hb2 := Lib.hid hb2; clear hb2
  have K1 := Lib.hid k1; clear k1
  have M1 := Lib.hid m1; clear m1
  have HA0 := Lib.hid hA0; clear hA0
  have Hs2 := Lib.hid hs2; clear hs2
  have Hl0 := Lib.hid hl0; clear hl0
  have Hle := Lib.hid hle; clear hle
  have Hq := Lib.hid hq; clear hq
  have Hr := Lib.hid hr; clear hr
  go_enter Tryz.func45, Tryz.ntmps45
  go_wp2_with fail
  go_loopw [4, 10] (fun v x wr => ∃ (k : Nat) (a : Option Addr) (m c : Nat), k ≤ n ∧ x = .int .i64 k ∧ v = .slice a m c ∧ Hid (Blk wr w.heap.size (H : Int) (L0 : Int) ao n cap 32) ∧ Hid (Blk wr (w.heap.size + 1) 0 0 none 0 0 32) ∧ Own (w.heap.size + 2) wr.heap.size wr a m c (lowL (xs.take k)) ∧ Hid (Below w.heap.size w wr) ∧ w.heap.size + 2 ≤ wr.heap.size) (fun _ x _ => n - (intOf x).toNat)
  case atStart => exact ⟨0, none, 0, 0, Nat.zero_le _, rfl, rfl, K1, M1, Own.nil _ _ _, Hb2, by rw [Hs2.out]; exact Nat.le_refl _⟩
  case round =>
    obtain ⟨k, a, m, c, hkn, rfl, rfl, Kr, Mr, hor, Hbr, hsr⟩ := hrel
    clear K1 M1 Hb2 Hs2
    have hm := hor.length
    have hml := lowL_length (xs.take k)
    have htl : (xs.take k).length ≤ 28 := by rw [List.length_take]; omega
    rw [hm] at hml
    have hge : ∀ g, (Value.slice a m c).ownBlock = some g → w.heap.size + 2 ≤ g := fun g hg => (hor.1.lt g hg).1
    have Hm := Lib.hid hm; clear hm
    have Hge := Lib.hid hge; clear hge
    obtain ⟨⟨u0, u1, u2⟩, v0, v1, v2⟩ := Kr.out.cells
    by_cases hlt : k < n
    · obtain ⟨b, o, rfl, hbl, hc⟩ := (HA0.out.keep Hbr.out).cell k hlt
      have hck := hc k hlt
      clear hc hbl
      obtain ⟨q1, q2⟩ := Hle.out k hlt
      generalize hx : xs.getD k 0 = x at hck q1 q2
      have e := lowL_snoc (xs.take k) x
      rw [← take_snoc hx hlt Hl0.out] at e
      have Hx := Lib.hid hx; clear hx
      by_cases hx1 : 1 < x
      · rw [if_pos hx1] at e
        have E := Lib.hid e; clear e
        go_wp2_with (at_builtin; refine wpList_push wr rfl _ _ rfl (w.heap.size + 2) _ a m c _ rfl hor _ rfl (by omega) hsr ?_)
        intro a4 c4 w4 ho4 hch
        have hns : ∀ g, g < w.heap.size + 2 → ¬ (Value.slice a m c).ownBlock = some g := fun g hg e => by have := Hge.out g e; omega
        have K4 := Lib.hid (Kr.out.chg hch (hns _ (by omega)))
        have M4 := Lib.hid (Mr.out.chg hch (hns _ (by omega)))
        have hb4 : Below (w.heap.size + 2) wr w4 := hor.chgBelow hch hsr
        have Hb5 := Lib.hid (Hbr.out.trans (hb4.mono (by omega)))
        have hs4 : w.heap.size + 2 ≤ w4.heap.size := Nat.le_trans hsr hb4.size
        clear u0 u1 u2 v0 v1 v2 hor hch hb4 Kr Mr Hbr hns
        go_wp2
        go_roundw
        case rel => exact ⟨k + 1, a4, _, c4, by omega, by go_num, rfl, K4, M4, by rw [E.out]; exact ho4, Hb5, hs4⟩
        case measure => simp [intOf]; omega
      · rw [if_neg hx1, List.append_nil] at e
        have E := Lib.hid e; clear e
        go_wp2
        go_roundw
        case rel => exact ⟨k + 1, a, m, c, by omega, by go_num, rfl, Kr, Mr, by rw [E.out]; exact hor, Hbr, hsr⟩
        case measure => simp [intOf]; omega
    · obtain rfl : k = n := by omega
      have etk : xs.take k = xs := List.take_of_length_le (by have := Hl0.out; omega)
      rw [etk] at hor
      clear etk
      have hcon := baFill_any H (L0 + k) a m c (lowL xs) wr hor.at (by omega) hC (by omega)
      have ecast : ((L0 + k : Nat) : Int) = (L0 : Int) + (k : Int) := by omega
      rw [ecast] at hcon
      have hsz1 : w.heap.size < wr.heap.size := by omega
      have hcon' := hcon.mono (R' := fun e w1 => ∃ a m c, e = .returned (.tuple #[.agg #[.int .i64 (H : Int), .int .i64 (((L0 + k) % H : Nat) : Int), .slice a m c], .int .i64 (((L0 + k) / H : Nat) : Int)]) ∧ Own (w.heap.size + 2) w1.heap.size w1 a m c (List.replicate ((L0 + k) / H) (H : Int) ++ lowL xs) ∧ Below w.heap.size w w1 ∧ Blk w1 (w.heap.size + 1) 0 0 none 0 0 32)
        (fun e w1 ⟨a, m, c, e1, e2, e3⟩ => ⟨a, m, c, e1, e2.mono hsr (Nat.le_refl _), belowTrans Hbr.out e3 (by omega), Mr.out.keep e3⟩)
      clear hcon hor Mr Hbr
      rw [Hq.out, Hr.out] at hcon'
      have Hcon' := Lib.hid hcon'; clear hcon'
      have Ecast := Lib.hid ecast; clear ecast
      go_wp2_with fail
      with_reducible refine (Hcon'.out).mono ?_
      rintro e w1 ⟨a1, m1, c1, rfl, ho, hb, kz⟩
      clear u0 u1 u2 v0 v1 v2
      obtain ⟨⟨u0, u1, u2⟩, v0, v1, v2⟩ := kz.cells
      have ho2 := (((ho.offCell (R := w.heap.size + 1) (by omega) 0 (.int .i64 (H : Int))).offCell (R := w.heap.size + 1) (by omega) 1 (.int .i64 (r : Int))).offCell (R := w.heap.size + 1) (by omega) 2 (.slice a1 m1 c1)).mono (show w.heap.size ≤ w.heap.size + 2 by omega) (Nat.le_refl _)
      have hb2 := ((hb.setCell (p := ⟨w.heap.size + 1, 0, none⟩) (by show w.heap.size ≤ w.heap.size + 1; omega) (.int .i64 (H : Int))).setCell (p := ⟨w.heap.size + 1, 1, none⟩) (by show w.heap.size ≤ w.heap.size + 1; omega) (.int .i64 (r : Int))).setCell (p := ⟨w.heap.size + 1, 2, none⟩) (by show w.heap.size ≤ w.heap.size + 1; omega) (.slice a1 m1 c1)
      clear ho hb kz
      have Ho2 := Lib.hid ho2; clear ho2
      have Hb2 := Lib.hid hb2; clear hb2
      go_wp2
      refine bodyPost_ret (v := .tuple #[.agg #[.int .i64 H, .int .i64 (r : Int), .slice a1 m1 c1], .int .i64 (q : Int)]) ?_ rfl ⟨a1, m1, c1, rfl, by have := Ho2.out; simpa using this, by have := Hb2.out; simpa using this⟩
      rw [results_cell_tmp rfl]
      simp [go_sem, asAddr, Result.andThen, loadVar, *]

set_option maxHeartbeats 1600000 in
theorem stepOfBank_any (h l : Int) (ao : Option Addr) (n cap : Nat) (xs : List Int) (w : World) (hA : IntsAt w ao n cap xs) (hk : BankOk ⟨h, l, xs⟩) :
    Calls Tryz.prog 38 #[.agg #[.int .i64 h, .int .i64 l, .slice ao n cap]] w fun e w' => ∃ a m c, e = .returned (.tuple #[.agg #[.int .i64 (stepB ⟨h, l, xs⟩).h, .int .i64 (stepB ⟨h, l, xs⟩).l, .slice a m c], .int .i64 (madeB ⟨h, l, xs⟩)]) ∧ Own w.heap.size w'.heap.size w' a m c (stepB ⟨h, l, xs⟩).p ∧ Below w.heap.size w w' := by
  have hl0 := hA.length
  have h1 : 1 ≤ h ∧ h ≤ 10 := hk.1
  have h2 : 0 ≤ l ∧ l ≤ h - 1 := hk.2.1
  have hsum : 0 ≤ xs.sum ∧ xs.sum ≤ 28 ∧ (xs.length : Int) ≤ xs.sum := hk.sum
  have h5 : l + xs.sum ≤ 28 := hk.2.2.2.2
  have hle := fun k (hkn : k < n) => hk.le (x := xs.getD k 0) (by rw [List.getD_eq_getElem?_getD, List.getElem?_eq_getElem (by omega)]; exact List.getElem_mem _)
  obtain ⟨H, rfl⟩ := Int.eq_ofNat_of_zero_le (show 0 ≤ h by omega)
  obtain ⟨L0, rfl⟩ := Int.eq_ofNat_of_zero_le h2.1
  have hC : L0 + n ≤ 28 := by omega
  have hn28 : n ≤ 28 := by omega
  obtain ⟨e1, e2⟩ := step_nat H L0 n xs hl0
  rw [e1, e2]
  clear e1 e2
  generalize hq : (L0 + n) / H = q
  generalize hr : (L0 + n) % H = r
  have hb1 := belowAlloc w (.cells #[.int .i64 (H : Int), .int .i64 (L0 : Int), .slice ao n cap] 32)
  have hbn := belowAlloc (w.alloc (.cells #[.int .i64 (H : Int), .int .i64 (L0 : Int), .slice ao n cap] 32)) (.cells #[.int .i64 0, .int .i64 0, .slice none 0 0] 32)
  have hb2 := belowTrans hb1 hbn (Nat.le_refl _)
  have k1 := (Blk.new w (H : Int) (L0 : Int) ao n cap 32).keep hbn
  have m1 := Blk.new (w.alloc (.cells #[.int .i64 (H : Int), .int .i64 (L0 : Int), .slice ao n cap] 32)) 0 0 none 0 0 32
  rw [show (w.alloc (.cells #[.int .i64 (H : Int), .int .i64 (L0 : Int), .slice ao n cap] 32)).heap.size = w.heap.size + 1 by simp] at m1
  have hs2 : ((w.alloc (.cells #[.int .i64 (H : Int), .int .i64 (L0 : Int), .slice ao n cap] 32)).alloc (.cells #[.int .i64 0, .int .i64 0, .slice none 0 0] 32)).heap.size = w.heap.size + 2 := by simp
  clear hb1 hbn hk hsum h5
  have hA0 := hA
  clear hA
  have Hb2 := Lib.hid hb2; clear hb2
  have K1 := Lib.hid k1; clear k1
  have M1 := Lib.hid m1; clear m1
  have HA0 := Lib.hid hA0; clear hA0
  have Hs2 := Lib.hid hs2; clear hs2
  have Hl0 := Lib.hid hl0; clear hl0
  have Hle := Lib.hid hle; clear hle
  have Hq := Lib.hid hq; clear hq
  have Hr := Lib.hid hr; clear hr
  go_enter Tryz.func38, Tryz.ntmps38
  go_wp2_with fail
  go_loopw [4, 10] (fun v x wr => ∃ (k : Nat) (a : Option Addr) (m c : Nat), k ≤ n ∧ x = .int .i64 k ∧ v = .slice a m c ∧ Hid (Blk wr w.heap.size (H : Int) (L0 : Int) ao n cap 32) ∧ Hid (Blk wr (w.heap.size + 1) 0 0 none 0 0 32) ∧ Own (w.heap.size + 2) wr.heap.size wr a m c (lowL (xs.take k)) ∧ Hid (Below w.heap.size w wr) ∧ w.heap.size + 2 ≤ wr.heap.size) (fun _ x _ => n - (intOf x).toNat)
  case atStart => exact ⟨0, none, 0, 0, Nat.zero_le _, rfl, rfl, K1, M1, Own.nil _ _ _, Hb2, by rw [Hs2.out]; exact Nat.le_refl _⟩
  case round =>
    obtain ⟨k, a, m, c, hkn, rfl, rfl, Kr, Mr, hor, Hbr, hsr⟩ := hrel
    clear K1 M1 Hb2 Hs2
    have hm := hor.length
    have hml := lowL_length (xs.take k)
    have htl : (xs.take k).length ≤ 28 := by rw [List.length_take]; omega
    rw [hm] at hml
    have hge : ∀ g, (Value.slice a m c).ownBlock = some g → w.heap.size + 2 ≤ g := fun g hg => (hor.1.lt g hg).1
    have Hm := Lib.hid hm; clear hm
    have Hge := Lib.hid hge; clear hge
    obtain ⟨⟨u0, u1, u2⟩, v0, v1, v2⟩ := Kr.out.cells
    by_cases hlt : k < n
    · obtain ⟨b, o, rfl, hbl, hc⟩ := (HA0.out.keep Hbr.out).cell k hlt
      have hck := hc k hlt
      clear hc hbl
      obtain ⟨q1, q2⟩ := Hle.out k hlt
      generalize hx : xs.getD k 0 = x at hck q1 q2
      have e := lowL_snoc (xs.take k) x
      rw [← take_snoc hx hlt Hl0.out] at e
      have Hx := Lib.hid hx; clear hx
      by_cases hx1 : 1 < x
      · rw [if_pos hx1] at e
        have E := Lib.hid e; clear e
        go_wp2_with (at_builtin; refine wpList_push wr rfl _ _ rfl (w.heap.size + 2) _ a m c _ rfl hor _ rfl (by omega) hsr ?_)
        intro a4 c4 w4 ho4 hch
        have hns : ∀ g, g < w.heap.size + 2 → ¬ (Value.slice a m c).ownBlock = some g := fun g hg e => by have := Hge.out g e; omega
        have K4 := Lib.hid (Kr.out.chg hch (hns _ (by omega)))
        have M4 := Lib.hid (Mr.out.chg hch (hns _ (by omega)))
        have hb4 : Below (w.heap.size + 2) wr w4 := hor.chgBelow hch hsr
        have Hb5 := Lib.hid (Hbr.out.trans (hb4.mono (by omega)))
        have hs4 : w.heap.size + 2 ≤ w4.heap.size := Nat.le_trans hsr hb4.size
        clear u0 u1 u2 v0 v1 v2 hor hch hb4 Kr Mr Hbr hns
        go_wp2
        go_roundw
        case rel => exact ⟨k + 1, a4, _, c4, by omega, by go_num, rfl, K4, M4, by rw [E.out]; exact ho4, Hb5, hs4⟩
        case measure => simp [intOf]; omega
      · rw [if_neg hx1, List.append_nil] at e
        have E := Lib.hid e; clear e
        go_wp2
        go_roundw
        case rel => exact ⟨k + 1, a, m, c, by omega, by go_num, rfl, Kr, Mr, by rw [E.out]; exact hor, Hbr, hsr⟩
        case measure => simp [intOf]; omega
    · obtain rfl : k = n := by omega
      have etk : xs.take k = xs := List.take_of_length_le (by have := Hl0.out; omega)
      rw [etk] at hor
      clear etk
      have hcon := makePiles_any H (L0 + k) a m c (lowL xs) wr hor.at (by omega) hC (by omega)
      have ecast : ((L0 + k : Nat) : Int) = (L0 : Int) + (k : Int) := by omega
      rw [ecast] at hcon
      have hsz1 : w.heap.size < wr.heap.size := by omega
      have hcon' := hcon.mono (R' := fun e w1 => ∃ a m c, e = .returned (.tuple #[.agg #[.int .i64 (H : Int), .int .i64 (((L0 + k) % H : Nat) : Int), .slice a m c], .int .i64 (((L0 + k) / H : Nat) : Int)]) ∧ Own (w.heap.size + 2) w1.heap.size w1 a m c (List.replicate ((L0 + k) / H) (H : Int) ++ lowL xs) ∧ Below w.heap.size w w1 ∧ Blk w1 (w.heap.size + 1) 0 0 none 0 0 32)
        (fun e w1 ⟨a, m, c, e1, e2, e3⟩ => ⟨a, m, c, e1, e2.mono hsr (Nat.le_refl _), belowTrans Hbr.out e3 (by omega), Mr.out.keep e3⟩)
      clear hcon hor Mr Hbr
      rw [Hq.out, Hr.out] at hcon'
      have Hcon' := Lib.hid hcon'; clear hcon'
      have Ecast := Lib.hid ecast; clear ecast
      go_wp2_with fail
      with_reducible refine (Hcon'.out).mono ?_
      rintro e w1 ⟨a1, m1, c1, rfl, ho, hb, kz⟩
      clear u0 u1 u2 v0 v1 v2
      obtain ⟨⟨u0, u1, u2⟩, v0, v1, v2⟩ := kz.cells
      have ho2 := (((ho.offCell (R := w.heap.size + 1) (by omega) 0 (.int .i64 (H : Int))).offCell (R := w.heap.size + 1) (by omega) 1 (.int .i64 (r : Int))).offCell (R := w.heap.size + 1) (by omega) 2 (.slice a1 m1 c1)).mono (show w.heap.size ≤ w.heap.size + 2 by omega) (Nat.le_refl _)
      have hb2 := ((hb.setCell (p := ⟨w.heap.size + 1, 0, none⟩) (by show w.heap.size ≤ w.heap.size + 1; omega) (.int .i64 (H : Int))).setCell (p := ⟨w.heap.size + 1, 1, none⟩) (by show w.heap.size ≤ w.heap.size + 1; omega) (.int .i64 (r : Int))).setCell (p := ⟨w.heap.size + 1, 2, none⟩) (by show w.heap.size ≤ w.heap.size + 1; omega) (.slice a1 m1 c1)
      clear ho hb kz
      have Ho2 := Lib.hid ho2; clear ho2
      have Hb2 := Lib.hid hb2; clear hb2
      go_wp2
      refine bodyPost_ret (v := .tuple #[.agg #[.int .i64 H, .int .i64 (r : Int), .slice a1 m1 c1], .int .i64 (q : Int)]) ?_ rfl ⟨a1, m1, c1, rfl, by have := Ho2.out; simpa using this, by have := Hb2.out; simpa using this⟩
      rw [results_cell_tmp rfl]
      simp [go_sem, asAddr, Result.andThen, loadVar, *]
end
end Go.Proofs.YtnebfojnbjbogaaGreatDoor
