/- Ranks of rows in mathematics. No condition. -/
import Derived.Test.YtjaodhjiibdbdaaGreatDoorGm
import Derived.Laws.DeepBits32
namespace Go.Proofs.YtjaodhjiibdbdaaGreatDoor
set_option linter.unusedVariables false
set_option linter.unusedSimpArgs false

def sumR (d : Nat) : Nat := if d = 0 then 0 else 2 ^ (d - 1)
theorem sumR_succ (d : Nat) : sumR (d + 1) = sumR d + cntR d := by
  unfold sumR cntR
  cases d with
  | zero => rfl
  | succ d => simp only [Nat.add_sub_cancel, if_neg (Nat.succ_ne_zero _)]; rw [Nat.pow_succ]; omega
theorem sumR_le : ∀ d, d < 30 → sumR d ≤ 268435456 := by decide +kernel
def rankR : List Int → Nat
  | [] => 0
  | _ :: l => sumR l.sum.toNat + rankR l
def endR : List Int → Nat
  | [] => 0
  | _ :: l => 2 ^ l.sum.toNat + endR l
theorem endR_half {l : List Int} (h : ∀ x ∈ l, 1 ≤ x) : endR l / 2 = rankR l ∧ (l ≠ [] → endR l % 2 = 1) := by
  induction l with
  | nil => exact ⟨rfl, fun h => absurd rfl h⟩
  | cons x l ih =>
    obtain ⟨i1, i2⟩ := ih (fun y hy => h y (by simp [hy]))
    show (2 ^ l.sum.toNat + endR l) / 2 = sumR l.sum.toNat + rankR l ∧ (_ → (2 ^ l.sum.toNat + endR l) % 2 = 1)
    by_cases hl : l = []
    · subst hl; exact ⟨rfl, fun _ => rfl⟩
    · have hs : 1 ≤ l.sum := by
        have := sum_nonneg (fun y hy => h y (List.mem_cons_of_mem _ hy) : ∀ y ∈ l, 1 ≤ y)
        have := List.length_pos_iff.2 hl
        omega
      obtain ⟨s, hs2⟩ : ∃ s, l.sum.toNat = s + 1 := ⟨l.sum.toNat - 1, by omega⟩
      have h2 := i2 hl
      rw [hs2]
      have e : sumR (s + 1) = 2 ^ s := by unfold sumR; rw [if_neg (by omega)]; rfl
      rw [e, Nat.pow_succ, ← i1]
      constructor
      · omega
      · intro _; omega
theorem pow_add' (a b : Nat) : 2 ^ (a + b) = 2 ^ a * 2 ^ b := Nat.pow_add 2 a b
theorem endR_snoc {l : List Int} {x : Int} (h : ∀ y ∈ l, 1 ≤ y) (hx : 1 ≤ x) : endR (l ++ [x]) = endR l * 2 ^ x.toNat + 1 := by
  induction l with
  | nil => show 2 ^ (([] : List Int).sum).toNat + 0 = 0 * _ + 1; simp
  | cons y l ih =>
    have hl := fun z hz => h z (List.mem_cons_of_mem y hz)
    show 2 ^ (l ++ [x]).sum.toNat + endR (l ++ [x]) = (2 ^ l.sum.toNat + endR l) * 2 ^ x.toNat + 1
    rw [ih hl, List.sum_append]
    have h0 : 0 ≤ l.sum := by have := sum_nonneg hl; omega
    have e : (l.sum + [x].sum).toNat = l.sum.toNat + x.toNat := by simp; omega
    rw [e, pow_add', Nat.add_mul]; omega
theorem endR_le {l : List Int} (h : ∀ x ∈ l, 1 ≤ x) : endR l ≤ 2 ^ l.sum.toNat := by
  induction l with
  | nil => exact Nat.zero_le _
  | cons x l ih =>
    have hl := fun z hz => h z (List.mem_cons_of_mem x hz)
    have i := ih hl
    have h0 : 0 ≤ l.sum := by have := sum_nonneg hl; omega
    have hx := h x List.mem_cons_self
    show 2 ^ l.sum.toNat + endR l ≤ 2 ^ (x :: l).sum.toNat
    rw [List.sum_cons]
    have : 2 ^ (l.sum.toNat + 1) ≤ 2 ^ (x + l.sum).toNat := Nat.pow_le_pow_right (by omega) (by omega)
    rw [Nat.pow_succ] at this
    omega
theorem pow_28 {s : Nat} (h : s ≤ 28) : 2 ^ s ≤ 268435456 := Nat.pow_le_pow_right (n := 2) (by omega) h
theorem endR_row {l : List Int} (h : RowOk l) : endR l ≤ 268435456 := Nat.le_trans (endR_le h.1) (pow_28 (by have := h.2; omega))
theorem rankR_row {l : List Int} (h : RowOk l) : rankR l ≤ 268435456 := by
  have := (endR_half h.1).1
  have := endR_row h
  omega
theorem rankR_drop {xs : List Int} {k : Nat} (h : k < xs.length) : rankR (xs.drop k) = sumR (xs.drop (k + 1)).sum.toNat + rankR (xs.drop (k + 1)) ∧ (xs.drop k).sum = xs.getD k 0 + (xs.drop (k + 1)).sum := by
  have e : xs.drop k = xs.getD k 0 :: xs.drop (k + 1) := by
    rw [List.drop_eq_getElem_cons h, List.getD_eq_getElem?_getD, List.getElem?_eq_getElem h]; rfl
  rw [e]
  exact ⟨rfl, List.sum_cons⟩
theorem row_drop {xs : List Int} (h : RowOk xs) (k : Nat) : RowOk (xs.drop k) := by
  refine ⟨fun x hx => h.1 x (List.mem_of_mem_drop hx), ?_⟩
  have e := congrArg List.sum (List.take_append_drop k xs)
  rw [List.sum_append] at e
  have h1 := sum_nonneg (fun x hx => h.1 x (List.mem_of_mem_take hx) : ∀ x ∈ xs.take k, 1 ≤ x)
  have := h.2
  omega
def mRankRow (xs : List Int) : Int × Bool := (if rowB xs then (rankR xs : Int) else 0, rowB xs)
theorem mRank_yesR {xs : List Int} (h : rowB xs = true) : mRankRow xs = ((rankR xs : Int), true) := by unfold mRankRow; rw [h]; rfl
theorem mRank_noR {xs : List Int} (h : rowB xs = false) : mRankRow xs = (0, false) := by unfold mRankRow; rw [h]; rfl

/-! ### The row with a rank -/
def goR (E : Nat) : Nat → Nat → List Int
  | 0, _ => []
  | c + 1, p => if E.testBit c then ((p + 1 : Nat) : Int) :: goR E c 0 else goR E c (p + 1)
theorem goR_cons (E c p : Nat) : goR E (c + 1) p = if E.testBit c then ((p + 1 : Nat) : Int) :: goR E c 0 else goR E c (p + 1) := rfl
theorem goR_congr {E F : Nat} : ∀ (c p : Nat), (∀ i, i < c → E.testBit i = F.testBit i) → goR E c p = goR F c p
  | 0, _, _ => rfl
  | c + 1, p, h => by
    rw [goR_cons, goR_cons, h c (by omega), goR_congr c 0 (fun i hi => h i (by omega)), goR_congr c (p + 1) (fun i hi => h i (by omega))]
theorem goR_skip {E d : Nat} (hz : ∀ i, d < i → E.testBit i = false) (hd : E.testBit d = true) : ∀ (m p : Nat), goR E (d + 1 + m) p = ((p + m + 1 : Nat) : Int) :: goR E d 0
  | 0, p => by
    show goR E (d + 1) p = _
    rw [goR_cons, hd, if_pos rfl]
  | m + 1, p => by
    show goR E ((d + 1 + m) + 1) p = _
    rw [goR_cons, hz (d + 1 + m) (by omega), if_neg (by simp), goR_skip hz hd m (p + 1)]
    congr 2; omega
theorem goR_step {r n d : Nat} (h1 : sumR d ≤ r) (h2 : r < sumR (d + 1)) (hd : d < n) : goR (2 * r + 1) n 0 = ((n - d : Nat) : Int) :: goR (2 * (r - sumR d) + 1) d 0 := by
  have hlo : 2 ^ d ≤ 2 * r + 1 ∧ 2 * r + 1 < 2 ^ (d + 1) := by
    have e2 : sumR (d + 1) = 2 ^ d := by unfold sumR; rw [if_neg (by omega)]; rfl
    rw [e2] at h2
    cases d with
    | zero => simp at h2; subst h2; simp
    | succ d =>
      have e1 : sumR (d + 1) = 2 ^ d := by unfold sumR; rw [if_neg (by omega)]; rfl
      rw [e1] at h1
      rw [Nat.pow_succ] at h2 ⊢
      rw [Nat.pow_succ, Nat.pow_succ]
      omega
  have hz : ∀ i, d < i → (2 * r + 1).testBit i = false := fun i hi => Nat.testBit_lt_two_pow (Nat.lt_of_lt_of_le hlo.2 (Nat.pow_le_pow_right (by omega) hi))
  have hb : (2 * r + 1).testBit d = true := by
    rw [Nat.testBit_eq_decide_div_mod_eq, decide_eq_true_iff]
    have : (2 * r + 1) / 2 ^ d = 1 := by
      rw [Nat.div_eq_iff (Nat.two_pow_pos d)]
      rw [Nat.pow_succ] at hlo
      omega
    rw [this]
  have h := goR_skip hz hb (n - (d + 1)) 0
  rw [show d + 1 + (n - (d + 1)) = n by omega] at h
  rw [h]
  congr 1
  · congr 1; omega
  · refine goR_congr d 0 fun i hi => ?_
    have e : (2 * r + 1) % 2 ^ d = (2 * (r - sumR d) + 1) % 2 ^ d := by
      cases d with
      | zero => omega
      | succ d =>
        have e1 : sumR (d + 1) = 2 ^ d := by unfold sumR; rw [if_neg (by omega)]; rfl
        rw [e1] at h1 ⊢
        have : 2 * r + 1 = 2 * (r - 2 ^ d) + 1 + 2 ^ (d + 1) := by rw [Nat.pow_succ]; omega
        rw [this, Nat.add_mod_right]
    have t1 := Nat.testBit_mod_two_pow (2 * r + 1) d i
    have t2 := Nat.testBit_mod_two_pow (2 * (r - sumR d) + 1) d i
    rw [e, t2] at t1
    simpa [hi] using t1.symm
theorem goR_length (E : Nat) : ∀ (c p : Nat), (goR E c p).length ≤ c
  | 0, _ => Nat.le_refl _
  | c + 1, p => by
    rw [goR_cons]
    split
    · rw [List.length_cons]; have := goR_length E c 0; omega
    · have := goR_length E c (p + 1); omega
def mRowWith (n rank : Int) : List Int × Bool := if (0 ≤ n ∧ n ≤ 28) ∧ 0 ≤ rank ∧ rank < cntR n.toNat then (goR (2 * rank.toNat + 1) n.toNat 0, true) else ([], false)
theorem mRW_yes {n r : Nat} (h : n ≤ 28) (hr : r < cntR n) : mRowWith n r = (goR (2 * r + 1) n 0, true) := by unfold mRowWith; rw [if_pos ⟨by omega, by omega, by show (r : Int) < (cntR ((n : Int)).toNat : Nat); rw [Int.toNat_natCast]; omega⟩]; rfl
theorem mRW_no1 {n rank : Int} (h : ¬ (0 ≤ n ∧ n ≤ 28)) : mRowWith n rank = ([], false) := by unfold mRowWith; rw [if_neg (fun hh => h hh.1)]
theorem mRW_no2 {n : Nat} {rank : Int} (h : ¬ (0 ≤ rank ∧ rank < cntR n)) : mRowWith n rank = ([], false) := by unfold mRowWith; rw [if_neg (fun hh => h (by rw [Int.toNat_natCast] at hh; exact hh.2))]
theorem mRowWith_bound (n rank : Int) : (mRowWith n rank).1.length ≤ 1048576 := by
  unfold mRowWith
  split
  · next h => have := goR_length (2 * rank.toNat + 1) n.toNat 0; show (goR (2 * rank.toNat + 1) n.toNat 0).length ≤ _; omega
  · simp

/-! ### Bits -/
theorem wrap_i64_small (n : Int) (h0 : 0 ≤ n) (h1 : n < 9223372036854775808) : IntKind.i64.wrap n = n := by
  simp [IntKind.wrap, IntKind.bits, IntKind.signed]
  split <;> omega
theorem bits_or_i64 (a b : Nat) (ha : a < 4611686018427387904) (hb : b < 4611686018427387904) : bits .or .i64 (a : Int) (b : Int) = ((a ||| b : Nat) : Int) := by
  have hx : a ||| b < 2 ^ 62 := Nat.or_lt_two_pow (by omega) (by omega)
  have h1 : (BitVec.ofInt 64 (a : Int)).toNat = a := by
    rw [BitVec.ofInt_natCast, BitVec.toNat_ofNat]; exact Nat.mod_eq_of_lt (by omega)
  have h2 : (BitVec.ofInt 64 (b : Int)).toNat = b := by
    rw [BitVec.ofInt_natCast, BitVec.toNat_ofNat]; exact Nat.mod_eq_of_lt (by omega)
  show IntKind.i64.wrap ((BitVec.ofInt 64 (a : Int) ||| BitVec.ofInt 64 (b : Int)).toNat : Int) = _
  rw [BitVec.toNat_or, h1, h2]
  exact wrap_i64_small _ (by omega) (by omega)
theorem bits_and_i64 (a b : Nat) (ha : a < 4611686018427387904) (hb : b < 4611686018427387904) : bits .and .i64 (a : Int) (b : Int) = ((a &&& b : Nat) : Int) := by
  have hx : a &&& b < 2 ^ 62 := Nat.and_lt_two_pow _ (by omega)
  have h1 : (BitVec.ofInt 64 (a : Int)).toNat = a := by
    rw [BitVec.ofInt_natCast, BitVec.toNat_ofNat]; exact Nat.mod_eq_of_lt (by omega)
  have h2 : (BitVec.ofInt 64 (b : Int)).toNat = b := by
    rw [BitVec.ofInt_natCast, BitVec.toNat_ofNat]; exact Nat.mod_eq_of_lt (by omega)
  show IntKind.i64.wrap ((BitVec.ofInt 64 (a : Int) &&& BitVec.ofInt 64 (b : Int)).toNat : Int) = _
  rw [BitVec.toNat_and, h1, h2]
  exact wrap_i64_small _ (by omega) (by omega)
theorem or_one {e : Nat} (he : e < 1073741824) : bits .or .i64 ((2 * e : Nat) : Int) 1 = ((2 * e + 1 : Nat) : Int) := by
  have h := bits_or_i64 (2 * e) 1 (by omega) (by omega)
  have : 2 * e ||| 1 = 2 * e + 1 := or_bit (2 * e) 1 (by omega) (by omega)
  rw [this] at h
  exact h
theorem and_one {e : Nat} (he : e < 4611686018427387904) : bits .and .i64 (e : Int) 1 = ((e % 2 : Nat) : Int) := by
  have h := bits_and_i64 e 1 he (by omega)
  rw [Nat.and_one_is_mod] at h
  exact h
end Go.Proofs.YtjaodhjiibdbdaaGreatDoor
