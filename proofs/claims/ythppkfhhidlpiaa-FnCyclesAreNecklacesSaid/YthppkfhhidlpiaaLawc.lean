/- Cycles are necklaces: mathematics, and the laws' own helpers for choices and divisors. No condition but sizes. -/
import Derived.Test.YthppkfhhidlpiaaGx
import Derived.Test.YthppkfhhidlpiaaGl
import Derived.Test.YthppkfhhidlpiaaGe
namespace Go.Proofs.Ythppkfhhidlpiaa
open Go.RowKit
set_option linter.unusedVariables false
set_option linter.unusedSimpArgs false

def pchL (n k : Nat) : Nat → Nat
  | 0 => 1
  | i + 1 => pchL n k i * (n - k + (i + 1)) / (i + 1)
theorem pchL_fin : ∀ n, n < 10 → ∀ k, k ≤ n → ∀ i, i ≤ k → pchL n k i ≤ 1000 := by decide +kernel
def pchN (n k : Nat) : Nat := if n < k then 0 else pchL n k k
def ringT (K r j : Nat) : Nat := if (r * Nat.gcd j (K + 1)) % (K + 1) = 0 then pchN (Nat.gcd j (K + 1)) (r * Nat.gcd j (K + 1) / (K + 1)) else 0
def ringS (K r : Nat) : Nat → Nat
  | 0 => 0
  | j + 1 => ringS K r j + ringT K r j
theorem ringS_fin : ∀ K, K < 8 → ∀ r, r ≤ K → ∀ j, j ≤ K + 1 → ringS K r j ≤ 2000 := by decide +kernel
theorem ring_parts : ∀ K, K < 8 → ∀ r, r ≤ K → ∀ j, j ≤ K → 1 ≤ Nat.gcd j (K + 1) ∧ Nat.gcd j (K + 1) ≤ 8 ∧ r * Nat.gcd j (K + 1) ≤ 64 ∧ r * Nat.gcd j (K + 1) / (K + 1) ≤ 8 := by decide +kernel
def firstsN (n : Nat) : Nat := ((choiceL (hgt n + 1) (n - tri (hgt n))).filter isFirstB).length
theorem neck_fin : ∀ n, n < 29 → hgt n ≤ 7 ∧ n - tri (hgt n) ≤ hgt n ∧ (choiceL (hgt n + 1) (n - tri (hgt n))).length = pchN (hgt n + 1) (n - tri (hgt n)) ∧ ringS (hgt n) (n - tri (hgt n)) (hgt n + 1) = firstsN n * (hgt n + 1) := by decide +kernel
theorem neck_ord : ∀ n, n < 29 → ordB (allC n) = true ∧ ordB (((choiceL (hgt n + 1) (n - tri (hgt n))).filter isFirstB).map fromB) = true := by decide +kernel
def neckB (n : Nat) : Bool := ((choiceL (hgt n + 1) (n - tri (hgt n))).filter isFirstB).all fun f => (ringB f).all fun b => !befB (fromB b) (fromB f)
theorem neck_bef : ∀ n, n < 29 → neckB n = true := by decide +kernel
theorem neck_len : ∀ n, n < 29 → (((choiceL (hgt n + 1) (n - tri (hgt n))).filter isFirstB).map fun f => (ringB f).length).sum = (choiceL (hgt n + 1) (n - tri (hgt n))).length := by decide +kernel
theorem cyc_in_all {n : Nat} (h : n ≤ 28) {a : List Int} (ha : a ∈ firstsL n) : ∀ b ∈ cycL a, b ∈ allC n ∧ befB b a = false := by
  intro b hb
  obtain ⟨hg, hs, hc⟩ := firsts_good h ha
  unfold firstsL at ha
  obtain ⟨f, hf, rfl⟩ := List.mem_map.1 ha
  have hfG := choice_GB h (List.mem_filter.1 hf).1
  rw [cycle_bits hfG] at hb
  obtain ⟨b', hb', rfl⟩ := List.mem_map.1 hb
  have hbG := ringB_GB hfG b' hb'
  refine ⟨?_, ?_⟩
  · refine (allC_all n h).all _ hbG.good hbG.cyc ?_
    have hm : fromB b' ∈ cycL (fromB f) := by rw [cycle_bits hfG]; exact List.mem_map.2 ⟨b', hb', rfl⟩
    obtain ⟨s, e1, _, hC⟩ := cyc_cyclics hg
    have := hC.sum _ hm
    omega
  · have h1 := neck_bef n (by omega)
    unfold neckB at h1
    have h2 := List.all_eq_true.1 (List.all_eq_true.1 h1 f hf) b' hb'
    simpa using h2
def cycS (l : List (List Int)) (k : Nat) : Int := ((l.take k).map fun b => (((cycL b).length : Nat) : Int)).sum
theorem cycS_succ {l : List (List Int)} {k : Nat} (h : k < l.length) : cycS l (k + 1) = cycS l k + ((cycL (l.getD k [])).length : Int) := by
  unfold cycS
  have e : l.take (k + 1) = l.take k ++ [l.getD k []] := by
    rw [List.take_add_one, List.getD_eq_getElem?_getD, List.getElem?_eq_getElem h]; rfl
  rw [e, List.map_append, List.sum_append]; simp
theorem cycS_le (l : List (List Int)) (k : Nat) : 0 ≤ cycS l k ∧ cycS l k ≤ (l.map fun b => (((cycL b).length : Nat) : Int)).sum := by
  have h0 : ∀ m : List (List Int), 0 ≤ (m.map fun b => (((cycL b).length : Nat) : Int)).sum := fun m => by
    induction m with
    | nil => exact Int.le_refl _
    | cons a m ih => rw [List.map_cons, List.sum_cons]; omega
  have := congrArg (fun m : List (List Int) => (m.map fun b => (((cycL b).length : Nat) : Int)).sum) (List.take_append_drop k l)
  simp only [List.map_append, List.sum_append] at this
  have h1 := h0 (l.take k)
  have h2 := h0 (l.drop k)
  unfold cycS
  omega
theorem cycles_add {n : Nat} (h : n ≤ 28) : ((firstsL n).map fun b => (((cycL b).length : Nat) : Int)).sum = ((allC n).length : Int) := by
  unfold allC
  rw [List.length_map, ← neck_len n (by omega)]
  unfold firstsL
  rw [List.map_map]
  have hG : ∀ f ∈ (choiceL (hgt n + 1) (n - tri (hgt n))).filter isFirstB, GB f := fun f hf => choice_GB h (List.mem_filter.1 hf).1
  generalize (choiceL (hgt n + 1) (n - tri (hgt n))).filter isFirstB = l at *
  induction l with
  | nil => rfl
  | cons f l ih =>
    rw [List.map_cons, List.sum_cons, List.map_cons, List.sum_cons, ih (fun g hg => hG g (by simp [hg]))]
    simp only [Function.comp]
    rw [cycle_bits (hG f (by simp)), List.length_map]
    omega

set_option maxHeartbeats 800000 in
theorem pChoose_any (n k : Nat) (w : World) (hn : n ≤ 9) (hk : k ≤ 9) :
    Calls Try.prog 56 #[.int .i64 n, .int .i64 k] w fun e w' => e = .returned (.int .i64 (pchN n k : Nat)) ∧ w = w' := by
  by_cases h : n < k
  · have hp : pchN n k = 0 := if_pos h
    have Hp := Lib.hid hp; clear hp
    go_enter Try.func56, Try.ntmps56
    go_wp2
    go_ret
    exact ⟨by rw [Hp.out]; rfl, rfl⟩
  · have hp : pchN n k = pchL n k k := if_neg h
    have hfin := pchL_fin n (by omega) k (by omega)
    have hsucc : ∀ i, pchL n k (i + 1) = pchL n k i * (n - k + (i + 1)) / (i + 1) := fun i => rfl
    have Hp := Lib.hid hp; clear hp
    have Hfin := Lib.hid hfin; clear hfin
    have Hsucc := Lib.hid hsucc; clear hsucc
    go_enter Try.func56, Try.ntmps56
    go_wp2
    go_loop [5, 6] (fun o i => ∃ j : Nat, j ≤ k ∧ i = .int .i64 (j + 1 : Nat) ∧ o = .int .i64 (pchL n k j : Nat)) (fun _ i => k + 1 - (intOf i).toNat)
    case atStart => exact ⟨0, Nat.zero_le _, rfl, rfl⟩
    case round =>
      obtain ⟨j, hj, rfl, rfl⟩ := hrel
      have hb := Hfin.out j hj
      have hj9 : (j : Int) ≤ 9 := by omega
      have hk9 : (k : Int) ≤ 9 := by omega
      have hn9 : (n : Int) ≤ 9 := by omega
      by_cases hlt : j < k
      · have hs := Hsucc.out j
        have hpr : pchL n k j * (n - k + (j + 1)) ≤ 1000 * 10 := Nat.mul_le_mul hb (by omega)
        have e1 : Int.tdiv ((pchL n k j : Int) * ((n : Int) - k + ((j + 1 : Nat) : Int))) ((j + 1 : Nat) : Int) = ((pchL n k (j + 1) : Nat) : Int) := by
          rw [hs, show (n : Int) - k + ((j + 1 : Nat) : Int) = ((n - k + (j + 1) : Nat) : Int) by omega, ← Int.natCast_mul]
          exact (Int.ofNat_tdiv _ _).symm
        have hpI : (0 : Int) ≤ (pchL n k j : Int) * ((n : Int) - k + ((j : Int) + 1)) ∧ (pchL n k j : Int) * ((n : Int) - k + ((j : Int) + 1)) ≤ 10000 := by
          rw [show (n : Int) - k + ((j : Int) + 1) = ((n - k + (j + 1) : Nat) : Int) by omega, ← Int.natCast_mul]
          omega
        rw [show ((j + 1 : Nat) : Int) = (j : Int) + 1 from rfl] at e1
        have hle1 : pchL n k (j + 1) ≤ 1000 := Hfin.out (j + 1) (by omega)
        have hdv : (0 : Int) ≤ Int.tdiv ((pchL n k j : Int) * ((n : Int) - k + ((j : Int) + 1))) ((j : Int) + 1) ∧ Int.tdiv ((pchL n k j : Int) * ((n : Int) - k + ((j : Int) + 1))) ((j : Int) + 1) ≤ 1000 := by rw [e1]; omega
        generalize pchL n k j = p at *
        have Hs := Lib.hid hs; clear hs
        have E1 := Lib.hid e1; clear e1
        go_wp2
        go_round
        case rel => exact ⟨j + 1, by omega, by go_num, by rw [← E1.out]⟩
        case measure => simp [intOf]; omega
      · obtain rfl : k = j := by omega
        go_wp2
        go_ret
        exact ⟨by rw [Hp.out]; rfl, rfl⟩
set_option maxHeartbeats 800000 in
theorem pGcd_any (a b : Nat) (w : World) (ha : a ≤ 100) (hb : b ≤ 100) :
    Calls Try.prog 58 #[.int .i64 a, .int .i64 b] w fun e w' => e = .returned (.int .i64 (Nat.gcd a b : Nat)) ∧ Below w.heap.size w w' := by
  go_enter Try.func58, Try.ntmps58
  go_wp2
  go_loopw [0, 1] (fun u v wr => ∃ x y : Nat, x ≤ 100 ∧ y ≤ 100 ∧ u = .int .i64 x ∧ v = .int .i64 y ∧ Nat.gcd x y = Nat.gcd a b ∧ Below w.heap.size w wr) (fun _ v _ => (intOf v).toNat)
  case atStart => exact ⟨a, b, ha, hb, rfl, rfl, rfl, Below.refl _ _⟩
  case round =>
    obtain ⟨x, y, hx, hy, rfl, rfl, hg, hbw⟩ := hrel
    by_cases h0 : 0 < y
    · have e1 : Int.tmod (x : Int) (y : Int) = ((x % y : Nat) : Int) := (Int.ofNat_tmod x y).symm
      have hm := Nat.mod_lt x h0
      have hg2 : Nat.gcd y (x % y) = Nat.gcd a b := by rw [← hg, Nat.gcd_comm x y, Nat.gcd_rec y x, Nat.gcd_comm]
      have hyi : (0 : Int) < y := by omega
      have hyb : ((y : Int) == 0) = false := by rw [beq_eq_false_iff_ne]; omega
      have hyn : ¬ ((y : Int) = 0) := by omega
      have hxy : (x % y : Nat) ≤ 100 := by omega
      have Hg := Lib.hid hg; clear hg
      have Hg2 := Lib.hid hg2; clear hg2
      go_wp2_with fail
      go_quiet (fail)
      go_wp2_with fail
      go_roundw
      case rel => exact ⟨y, x % y, hy, hxy, rfl, by first | rfl | rw [← e1], Hg2.out, belowDrewN hbw _⟩
      case measure => simp [intOf]; omega
    · obtain rfl : y = 0 := by omega
      rw [Nat.gcd_zero_right] at hg
      have Hg := Lib.hid hg; clear hg
      go_wp2
      go_ret
      exact ⟨by rw [← Hg.out]; rfl, hbw⟩
end Go.Proofs.Ythppkfhhidlpiaa
