/- Several texts in one: ParseM, Parse, Split, ParseS, ParseI. No condition. -/
import Derived.Lib.Split
import Derived.Lib.SplitLaws
import Derived.Lib.CountLaws
import Derived.Lib.AtoiAll
import Derived.Lib.ItoaNum
import Derived.Test.YtimmjimeldejjaaGreatDoorText
import Derived.Lib.Join
import Derived.Test.YtimmjimeldejjaaGreatDoorGb
import Derived.Test.YtimmjimeldejjaaGreatDoorShelfB
import Derived.Lib.AtoiErrMem
import Derived.Lib.AtoiAllCases
import Derived.Lib.ItoaLen
import Derived.Lib.LaidTab
import Derived.Lib.AppendIntMem
import Derived.ChangeAgain
namespace Go.Proofs.YtimmjimeldejjaaGreatDoor
section
set_option linter.unusedVariables false
set_option linter.unusedSimpArgs false

/-- the parts between the bytes b -/
def splitL (b : UInt8) : List UInt8 → List (List UInt8)
  | [] => [[]]
  | c :: l => if c = b then [] :: splitL b l else match splitL b l with
    | [] => [[c]]
    | h :: t => (c :: h) :: t
theorem splitL_ne (b : UInt8) (l : List UInt8) : splitL b l ≠ [] := by
  cases l with
  | nil => simp [splitL]
  | cons c l => unfold splitL; split; simp; split <;> simp
theorem splitL_app (b : UInt8) (w r : List UInt8) (h : b ∉ w) : splitL b (w ++ b :: r) = w :: splitL b r := by
  induction w with
  | nil => simp [splitL]
  | cons c w ih =>
    have hc : ¬ c = b := fun e => h (by simp [e])
    have := ih (fun hm => h (by simp [hm]))
    simp only [List.cons_append, splitL, if_neg hc, this]
theorem splitL_none (b : UInt8) (w : List UInt8) (h : b ∉ w) : splitL b w = [w] := by
  induction w with
  | nil => rfl
  | cons c w ih =>
    have hc : ¬ c = b := fun e => h (by simp [e])
    simp only [splitL, if_neg hc, ih (fun hm => h (by simp [hm]))]
theorem splitL_length (b : UInt8) (l : List UInt8) : (splitL b l).length = l.count b + 1 := by
  induction l with
  | nil => rfl
  | cons c l ih =>
    unfold splitL
    by_cases hc : c = b
    · rw [if_pos hc, List.length_cons, ih, hc, List.count_cons_self]
    · rw [if_neg hc, List.count_cons_of_ne hc]
      cases hs : splitL b l with
      | nil => exact absurd hs (splitL_ne b l)
      | cons h t => rw [hs] at ih; simpa using ih

theorem first_b (b : UInt8) (l : List UInt8) (h : b ∈ l) : ∃ w r, l = w ++ b :: r ∧ b ∉ w := by
  induction l with
  | nil => cases h
  | cons c l ih =>
    by_cases hc : c = b
    · exact ⟨[], l, by simp [hc], by simp⟩
    · have : b ∈ l := by
        rcases List.mem_cons.1 h with e | e
        · exact absurd e.symm hc
        · exact e
      obtain ⟨w, r, rfl, hw⟩ := ih this
      exact ⟨c :: w, r, rfl, fun hm => by
        rcases List.mem_cons.1 hm with e | e
        · exact hc e.symm
        · exact hw e⟩
theorem occ_false (b : UInt8) (l : List UInt8) (j : Nat) (h : l[j]? ≠ some b) : Lib.occAt l [b] j = false := by
  cases ho : Lib.occAt l [b] j
  · rfl
  · exact absurd (Lib.occAt_head rfl ho) h
theorem index_split (b : UInt8) (w r : List UInt8) (h : b ∉ w) : Lib.index (w ++ b :: r) [b] = w.length := by
  refine Lib.index_first (by simp) ?_ (fun j hj => occ_false b _ j fun e => ?_)
  · unfold Lib.occAt
    rw [List.drop_left']
    · simp
    · rfl
  · rw [List.getElem?_append_left hj] at e
    exact h (List.mem_of_getElem? e)
theorem index_miss (b : UInt8) (l : List UInt8) (h : b ∉ l) : Lib.index l [b] = -1 :=
  Lib.index_none fun j _ => occ_false b l j fun e => h (List.mem_of_getElem? e)
theorem splitK_eq (b : UInt8) (k : Nat) : ∀ l : List UInt8, l.count b ≤ k → Lib.splitK [b] 0 k l = splitL b l := by
  induction k with
  | zero =>
    intro l h
    rw [splitL_none b l (List.count_eq_zero.1 (by omega))]
    rfl
  | succ k ih =>
    intro l h
    by_cases hm : b ∈ l
    · obtain ⟨w, r, rfl, hw⟩ := first_b b l hm
      have hc : r.count b ≤ k := by
        rw [List.count_append, List.count_cons_self] at h
        omega
      unfold Lib.splitK
      rw [index_split b w r hw, if_neg (by simp), splitL_app b w r hw]
      have hd : (w ++ b :: r).drop (w.length + 1) = r := by
        rw [← List.singleton_append, ← List.append_assoc, List.drop_left' (by simp)]
      simp only [Int.toNat_natCast, Nat.add_zero, List.take_left, List.length_singleton, hd, ih r hc]
    · unfold Lib.splitK
      rw [index_miss b l hm, if_pos (by simp), splitL_none b l hm]

/-! ### Numbers that are read -/
def isDig (c : UInt8) : Prop := 48 ≤ c.toNat ∧ c.toNat ≤ 57
instance (c : UInt8) : Decidable (isDig c) := by unfold isDig; infer_instance
def numV (w : List UInt8) : Nat := w.foldl (fun n c => 10 * n + (c.toNat - 48)) 0
theorem numV_snoc (w : List UInt8) (c : UInt8) : numV (w ++ [c]) = 10 * numV w + (c.toNat - 48) := by unfold numV; rw [List.foldl_append]; rfl
def ReadOk (w : List UInt8) : Prop := 1 ≤ w.length ∧ w.length ≤ 6 ∧ ¬ (w.getD 0 0 = 48 ∧ 1 < w.length) ∧ ∀ c ∈ w, isDig c
instance (w : List UInt8) : Decidable (ReadOk w) := by unfold ReadOk; infer_instance
def readL (w : List UInt8) : Int := if ReadOk w then (numV w : Int) else -1
theorem numV_lt (w : List UInt8) (h : ∀ c ∈ w, isDig c) : numV w < 10 ^ w.length := by
  have gen : ∀ (r : List UInt8) (n : Nat), (∀ c ∈ r, isDig c) → r.foldl (fun n c => 10 * n + (c.toNat - 48)) n < (n + 1) * 10 ^ r.length := by
    intro r
    induction r with
    | nil => intro n _; simp
    | cons c r ih =>
      intro n hd
      have hc := hd c (by simp)
      have := ih (10 * n + (c.toNat - 48)) (fun x hx => hd x (by simp [hx]))
      simp only [List.foldl_cons, List.length_cons, Nat.pow_succ]
      refine Nat.lt_of_lt_of_le this ?_
      have h1 : 10 * n + (c.toNat - 48) + 1 ≤ (n + 1) * 10 := by unfold isDig at hc; omega
      calc (10 * n + (c.toNat - 48) + 1) * 10 ^ r.length ≤ ((n + 1) * 10) * 10 ^ r.length := Nat.mul_le_mul_right _ h1
        _ = (n + 1) * (10 ^ r.length * 10) := by rw [Nat.mul_assoc, Nat.mul_comm 10]
  have := gen w 0 h
  simpa [numV] using this
theorem readL_bounds (w : List UInt8) : -1 ≤ readL w ∧ readL w ≤ 999999 := by
  unfold readL
  split
  · next h =>
    have := numV_lt w h.2.2.2
    have h6 : 10 ^ w.length ≤ 10 ^ 6 := Nat.pow_le_pow_right (by omega) h.2.1
    omega
  · omega
theorem dig_eq (c : UInt8) (h : isDig c) : c = UInt8.ofNat (48 + (c.toNat - 48)) := by
  unfold isDig at h
  apply UInt8.toNat_inj.1
  rw [UInt8.toNat_ofNat']
  omega
/-- a small number that is read is written so -/
theorem readL_small (w : List UInt8) (h1 : 1 ≤ readL w) (h2 : readL w ≤ 28) : w = Lib.decDigits (readL w).toNat := by
  unfold readL at h1 h2 ⊢
  split at h1
  · next h =>
    rw [if_pos h] at h2 ⊢
    obtain ⟨l1, l6, hz, hd⟩ := h
    simp only [Int.toNat_natCast]
    match w, l1, l6, hz, hd, h1, h2 with
    | [c], _, _, _, hd, h1, h2 =>
      have hc := hd c (by simp)
      have hv : numV [c] = c.toNat - 48 := by simp [numV]
      rw [hv] at h2 ⊢
      unfold isDig at hc
      rw [Lib.decDigits_one (by omega), ← dig_eq c hc]
    | [c, d], _, _, hz, hd, h1, h2 =>
      have hc := hd c (by simp); have hdd := hd d (by simp)
      have hv : numV [c, d] = 10 * (c.toNat - 48) + (d.toNat - 48) := by simp [numV]
      rw [hv] at h2 ⊢
      have hc0 : c.toNat ≠ 48 := fun e => hz ⟨UInt8.toNat_inj.1 (by simpa using e), by simp⟩
      have hc' := hc; have hd' := hdd
      unfold isDig at hc' hd'
      rw [Lib.decDigits_two (by omega) (by omega), show (10 * (c.toNat - 48) + (d.toNat - 48)) / 10 = c.toNat - 48 by omega, show (10 * (c.toNat - 48) + (d.toNat - 48)) % 10 = d.toNat - 48 by omega, ← dig_eq c hc, ← dig_eq d hdd]
    | c :: d :: e :: r, _, _, hz, hd, h1, h2 =>
      exfalso
      have hc := hd c (by simp)
      unfold isDig at hc
      have hc0 : c.toNat ≠ 48 := fun e => hz ⟨UInt8.toNat_inj.1 (by simpa using e), by simp⟩
      have mono : ∀ (l : List UInt8) (n : Nat), n ≤ l.foldl (fun n c => 10 * n + (c.toNat - 48)) n := by
        intro l
        induction l with
        | nil => intro n; exact Nat.le_refl _
        | cons x l ih => intro n; exact Nat.le_trans (show n ≤ 10 * n + (x.toNat - 48) by omega) (ih _)
      have := mono r (10 * (10 * (10 * 0 + (c.toNat - 48)) + (d.toNat - 48)) + (e.toNat - 48))
      have hv : numV (c :: d :: e :: r) = r.foldl (fun n c => 10 * n + (c.toNat - 48)) (10 * (10 * (10 * 0 + (c.toNat - 48)) + (d.toNat - 48)) + (e.toNat - 48)) := rfl
      rw [← hv] at this
      omega
  · omega

def okIs (l : List UInt8) (v : Nat) : Bool := match Lib.atoiAll l with
  | .ok u => u == (v : Int)
  | _ => false
theorem okIs_one : ∀ v, v < 10 → okIs [UInt8.ofNat (48 + v)] v = true := by decide +kernel
theorem okIs_two : ∀ v, v < 29 → 10 ≤ v → okIs [UInt8.ofNat (48 + v / 10), UInt8.ofNat (48 + v % 10)] v = true := by decide +kernel
theorem okIs_eq {l : List UInt8} {v : Nat} (h : okIs l v = true) : Lib.atoiAll l = .ok (v : Int) := by
  unfold okIs at h
  split at h
  · next u hu => rw [hu]; congr 1; simpa using h
  · cases h
theorem atoi_dd (v : Nat) (h : v ≤ 28) : Lib.atoiAll (Lib.decDigits v) = .ok (v : Int) := by
  by_cases h1 : v < 10
  · rw [Lib.decDigits_one h1]; exact okIs_eq (okIs_one v h1)
  · rw [Lib.decDigits_two h1 (by omega)]; exact okIs_eq (okIs_two v (by omega) (by omega))
def readIs (l : List UInt8) (v : Nat) : Bool := decide (readL l = (v : Int))
theorem readIs_one : ∀ v, v < 10 → readIs [UInt8.ofNat (48 + v)] v = true := by decide +kernel
theorem readIs_two : ∀ v, v < 29 → 10 ≤ v → readIs [UInt8.ofNat (48 + v / 10), UInt8.ofNat (48 + v % 10)] v = true := by decide +kernel
theorem read_dd (v : Nat) (h : v ≤ 28) : readL (Lib.decDigits v) = v := by
  by_cases h1 : v < 10
  · rw [Lib.decDigits_one h1]; exact of_decide_eq_true (readIs_one v h1)
  · rw [Lib.decDigits_two h1 (by omega)]; exact of_decide_eq_true (readIs_two v (by omega) (by omega))
theorem dd_no43 (v : Nat) (h : v ≤ 28) : (43 : UInt8) ∉ Lib.decDigits v := by
  have key : ∀ d, d < 10 → (43 : UInt8) ≠ UInt8.ofNat (48 + d) := by decide +kernel
  by_cases h1 : v < 10
  · rw [Lib.decDigits_one h1]; simpa using key v h1
  · rw [Lib.decDigits_two h1 (by omega)]
    simp only [List.mem_cons, List.mem_nil_iff, or_false, not_or]
    exact ⟨key _ (by omega), key _ (by omega)⟩
end
end Go.Proofs.YtimmjimeldejjaaGreatDoor
namespace Go.Proofs.YtimmjimeldejjaaGreatDoor
section
open Go.RowKit
set_option linter.unusedVariables false
set_option linter.unusedSimpArgs false

theorem split_join {xs : List Int} (h0 : xs ≠ []) (h : ∀ x ∈ xs, 1 ≤ x ∧ x ≤ 28) : splitL 43 (joinL xs) = xs.map dd := by
  unfold joinL
  induction xs with
  | nil => exact absurd rfl h0
  | cons x r ih =>
    have hx := h x (by simp)
    have hno : (43 : UInt8) ∉ dd x := dd_no43 x.toNat (by omega)
    cases r with
    | nil => simp only [List.map_cons, List.map_nil, Lib.join_one]; exact splitL_none _ _ hno
    | cons y r =>
      have := ih (by simp) (fun z hz => h z (by simp [hz]))
      have e : Lib.join ((x :: y :: r).map dd) [43] = dd x ++ 43 :: Lib.join ((y :: r).map dd) [43] := by
        simp only [List.map_cons]
        rw [Lib.join_cons, Lib.join_cons]
        simp [Lib.joinTail]
      rw [e, splitL_app _ _ _ hno, this]
      rfl
theorem join_split (b : UInt8) (l : List UInt8) : Lib.join (splitL b l) [b] = l := by
  induction l with
  | nil => simp [splitL, Lib.join_one]
  | cons c l ih =>
    unfold splitL
    cases hs : splitL b l with
    | nil => exact absurd hs (splitL_ne b l)
    | cons h t =>
      rw [hs, Lib.join_cons] at ih
      by_cases hc : c = b
      · rw [if_pos hc, Lib.join_cons]
        simp only [Lib.joinTail, List.map_cons, List.flatten_cons, List.nil_append] at ih ⊢
        rw [hc, List.append_assoc, ih]
        rfl
      · rw [if_neg hc, Lib.join_cons, List.cons_append, ih]

def outL (l : List UInt8) : List Int := (splitL 43 l).map readL
def mParsePiles (s : ByteArray) : List Int × Bool := if s.data.toList = [48] then ([], true) else if goodB (outL s.data.toList) then (outL s.data.toList, true) else ([], false)
theorem mParsePiles_bound (s : ByteArray) : (mParsePiles s).1.length ≤ 1048576 := by
  unfold mParsePiles
  split
  · simp
  · split
    · next h => have := (good_iff.1 h).len; show (outL s.data.toList).length ≤ _; omega
    · simp
/-- how Atoi ends at a word whose number is one of piles -/
theorem atoi_word {w : List UInt8} (h1 : 1 ≤ readL w) (h2 : readL w ≤ 28) : Lib.atoiAll w = .ok (readL w) := by
  have e := readL_small w h1 h2
  have := atoi_dd (readL w).toNat (by omega)
  rw [← e] at this
  rw [this]
  congr 1
  omega
theorem outL_mem {l w : List UInt8} (hg : goodB (outL l) = true) (hw : w ∈ splitL 43 l) : 1 ≤ readL w ∧ readL w ≤ 28 := (good_iff.1 hg).mem (List.mem_map_of_mem hw)
theorem outL_text {l : List UInt8} (hg : goodB (outL l) = true) : textL (outL l) = l := by
  have hne : outL l ≠ [] := fun e => splitL_ne 43 l (by simpa [outL] using e)
  unfold textL
  rw [if_neg hne]
  unfold joinL
  have : (outL l).map dd = splitL 43 l := by
    unfold outL
    rw [List.map_map]
    conv => rhs; rw [← List.map_id (splitL 43 l)]
    apply List.map_congr_left
    intro w hw
    have := outL_mem hg hw
    exact (readL_small w this.1 this.2).symm
  rw [this]
  exact join_split 43 l
/-- what the program finds is what the model finds -/
theorem vals_out {l : List UInt8} {vals : List Int} (hlen : vals.length = (splitL 43 l).length) (hv : ∀ i, i < vals.length → Lib.atoiAll ((splitL 43 l).getD i []) = .ok (vals.getD i 0)) :
    (goodB vals = true ∧ textL vals = l) ↔ (goodB (outL l) = true ∧ vals = outL l) := by
  have hne : vals ≠ [] := fun e => splitL_ne 43 l (by rw [e] at hlen; exact List.eq_nil_of_length_eq_zero hlen.symm)
  constructor
  · rintro ⟨hg, ht⟩
    have hm := fun x hx => (good_iff.1 hg).mem (x := x) hx
    have : outL l = vals := by
      unfold textL at ht
      rw [if_neg hne] at ht
      unfold outL
      rw [← ht, split_join hne hm, List.map_map]
      conv => rhs; rw [← List.map_id vals]
      apply List.map_congr_left
      intro x hx
      have := hm x hx
      show readL (Lib.decDigits x.toNat) = x
      rw [read_dd _ (by omega)]
      omega
    exact ⟨by rw [this]; exact hg, this.symm⟩
  · rintro ⟨hg, rfl⟩
    exact ⟨hg, outL_text hg⟩
theorem vals_eq {l : List UInt8} {vals : List Int} (hlen : vals.length = (splitL 43 l).length) (hv : ∀ i, i < vals.length → Lib.atoiAll ((splitL 43 l).getD i []) = .ok (vals.getD i 0)) (hg : goodB (outL l) = true) : vals = outL l := by
  apply List.ext_getElem
  · rw [hlen]; simp [outL]
  · intro i h1 h2
    have := hv i h1
    have hi : i < (splitL 43 l).length := by omega
    rw [List.getD_eq_getElem?_getD, List.getElem?_eq_getElem hi, List.getD_eq_getElem?_getD, List.getElem?_eq_getElem h1] at this
    simp only [Option.getD_some] at this
    have hw := outL_mem hg (List.getElem_mem hi)
    rw [atoi_word hw.1 hw.2] at this
    simp only [outL, List.getElem_map]
    injection this with h
    exact h.symm

theorem data_get (s : ByteArray) (k : Nat) (h : k < s.size) : s.data.toList[k]? = some s[k] := by
  rw [List.getElem?_eq_getElem (by simpa using h)]; rfl
theorem take_data (s : ByteArray) (k : Nat) (h : k < s.size) : s.data.toList.take (k + 1) = s.data.toList.take k ++ [s[k]] := by
  rw [List.take_add_one, data_get s k h]; rfl

set_option maxHeartbeats 1600000 in
set_option maxRecDepth 100000 in
theorem l1Read_loop (s : ByteArray) (w : World) (hs : 1 ≤ s.size ∧ s.size ≤ 6) (hq : ¬ (s.data.toList.getD 0 0 = 48 ∧ 1 < s.size)) :
    Calls Tryz.prog 122 #[.string s] w fun e w' => e = .returned (.int .i64 (readL s.data.toList)) ∧ w = w' := by
  have hin := l1In_any (s.size : Int) 1 6 w
  rw [decide_eq_true (by omega)] at hin
  have h0 : 0 < s.size := by omega
  have h1 := hs.1
  have h6 := hs.2
  have hsz : s.data.toList.length = s.size := rfl
  have hg0 : s.data.toList.getD 0 0 = s[0] := by rw [List.getD_eq_getElem?_getD, data_get s 0 h0]; rfl
  rw [hg0] at hq
  have hend : (∀ c ∈ s.data.toList, isDig c) → readL s.data.toList = (numV s.data.toList : Int) := fun hd => by
    unfold readL; rw [if_pos ⟨by omega, by omega, by rw [hg0, hsz]; exact hq, hd⟩]
  have hbad : ∀ k (h : k < s.size), ¬ isDig s[k] → readL s.data.toList = -1 := fun k h hno => by
    unfold readL; rw [if_neg (fun hh => hno (hh.2.2.2 _ (List.mem_of_getElem? (data_get s k h))))]
  have hnv := fun k => numV_lt (s.data.toList.take k)
  have Hend := Lib.hid hend
  have Hbad := Lib.hid hbad
  have Hnv := Lib.hid hnv
  have Hg0 := Lib.hid hg0
  clear hend hbad hg0 hnv hs
  by_cases hz : (s[0].toNat : Int) = 48
  · have h1' : ¬ 1 < s.size := fun hh => hq ⟨UInt8.toNat_inj.1 (by simp; omega), hh⟩
    have hb : ((s[0].toNat : Int) == 48) = true := by simpa using hz
    have hd : decide (1 < s.size) = false := decide_eq_false h1'
    have Hin := Lib.hid hin; clear hin
    have Hq := Lib.hid hq; clear hq
    have Hz := Lib.hid hz; clear hz
    go_enter Tryz.func122, Tryz.ntmps122
    go_wp2_with fail
    with_reducible refine (Hin.out).mono ?_
    rintro e w' ⟨rfl, rfl⟩
    go_wp2
    have Hb := Lib.hid hb; clear hb
    have Hd := Lib.hid hd; clear hd
    go_loop [3, 4] (fun v i => ∃ k : Nat, k ≤ s.size ∧ i = .int .i64 k ∧ v = .int .i64 (numV (s.data.toList.take k) : Nat) ∧ ∀ c ∈ s.data.toList.take k, isDig c) (fun _ i => s.size - (intOf i).toNat)
    case atStart => exact ⟨0, Nat.zero_le _, rfl, rfl, by simp⟩
    case round =>
      obtain ⟨k, hk, rfl, rfl, hall⟩ := hrel
      have hlt6 := Hnv.out k hall
      have hp : 10 ^ (s.data.toList.take k).length ≤ 10 ^ 6 := Nat.pow_le_pow_right (by omega) (by rw [List.length_take]; omega)
      have hb6 : numV (s.data.toList.take k) ≤ 1000000 := by omega
      have Hall := Lib.hid hall; clear hall
      clear hlt6 hp
      by_cases hlt : k < s.size
      · have hsn := numV_snoc (s.data.toList.take k) s[k]
        rw [← take_data s k hlt] at hsn
        generalize numV (s.data.toList.take k) = V at *
        by_cases hdig : isDig s[k]
        · have hd1 : 48 ≤ (s[k].toNat : Int) := by have := hdig.1; omega
          have hd2 : (s[k].toNat : Int) ≤ 57 := by have := hdig.2; omega
          have Hsn := Lib.hid hsn; clear hsn
          have Hdig := Lib.hid hdig; clear hdig
          go_wp2
          go_round
          case rel => exact ⟨k + 1, by omega, by go_num, by rw [Hsn.out]; exact valI (by omega), fun c hc => by
            rw [take_data s k hlt] at hc
            rcases List.mem_append.1 hc with h' | h'
            · exact Hall.out c h'
            · rw [List.mem_singleton.1 h']; exact Hdig.out⟩
          case measure => simp [intOf] <;> omega
        · have hr := Hbad.out k hlt hdig
          have hor : (s[k].toNat : Int) < 48 ∨ 57 < (s[k].toNat : Int) := by unfold isDig at hdig; omega
          have Hsn := Lib.hid hsn; clear hsn
          have Hdig := Lib.hid hdig; clear hdig
          have Hr := Lib.hid hr; clear hr
          rcases hor with hor | hor
          · go_wp2
            go_ret
            exact ⟨retI Hr.out.symm, rfl⟩
          · go_wp2
            go_ret
            exact ⟨retI Hr.out.symm, rfl⟩
      · have hkk : k = s.size := by omega
        have hall2 := Hall.out
        rw [hkk, List.take_of_length_le (by omega)] at hall2
        have hr := Hend.out hall2
        have ht : s.data.toList.take k = s.data.toList := List.take_of_length_le (by omega)
        rw [ht]
        have Hr := Lib.hid hr; clear hr
        have Hall2 := Lib.hid hall2; clear hall2
        have Ht := Lib.hid ht; clear ht
        have Hkk := Lib.hid hkk; clear hkk
        go_wp2
        go_ret
        exact ⟨retI Hr.out.symm, rfl⟩
  · have hb : ((s[0].toNat : Int) == 48) = false := by simpa using hz
    have Hin := Lib.hid hin; clear hin
    have Hq := Lib.hid hq; clear hq
    have Hz := Lib.hid hz; clear hz
    go_enter Tryz.func122, Tryz.ntmps122
    go_wp2_with fail
    with_reducible refine (Hin.out).mono ?_
    rintro e w' ⟨rfl, rfl⟩
    go_wp2
    have Hb := Lib.hid hb; clear hb
    go_loop [3, 4] (fun v i => ∃ k : Nat, k ≤ s.size ∧ i = .int .i64 k ∧ v = .int .i64 (numV (s.data.toList.take k) : Nat) ∧ ∀ c ∈ s.data.toList.take k, isDig c) (fun _ i => s.size - (intOf i).toNat)
    case atStart => exact ⟨0, Nat.zero_le _, rfl, rfl, by simp⟩
    case round =>
      obtain ⟨k, hk, rfl, rfl, hall⟩ := hrel
      have hlt6 := Hnv.out k hall
      have hp : 10 ^ (s.data.toList.take k).length ≤ 10 ^ 6 := Nat.pow_le_pow_right (by omega) (by rw [List.length_take]; omega)
      have hb6 : numV (s.data.toList.take k) ≤ 1000000 := by omega
      have Hall := Lib.hid hall; clear hall
      clear hlt6 hp
      by_cases hlt : k < s.size
      · have hsn := numV_snoc (s.data.toList.take k) s[k]
        rw [← take_data s k hlt] at hsn
        generalize numV (s.data.toList.take k) = V at *
        by_cases hdig : isDig s[k]
        · have hd1 : 48 ≤ (s[k].toNat : Int) := by have := hdig.1; omega
          have hd2 : (s[k].toNat : Int) ≤ 57 := by have := hdig.2; omega
          have Hsn := Lib.hid hsn; clear hsn
          have Hdig := Lib.hid hdig; clear hdig
          go_wp2
          go_round
          case rel => exact ⟨k + 1, by omega, by go_num, by rw [Hsn.out]; exact valI (by omega), fun c hc => by
            rw [take_data s k hlt] at hc
            rcases List.mem_append.1 hc with h' | h'
            · exact Hall.out c h'
            · rw [List.mem_singleton.1 h']; exact Hdig.out⟩
          case measure => simp [intOf] <;> omega
        · have hr := Hbad.out k hlt hdig
          have hor : (s[k].toNat : Int) < 48 ∨ 57 < (s[k].toNat : Int) := by unfold isDig at hdig; omega
          have Hsn := Lib.hid hsn; clear hsn
          have Hdig := Lib.hid hdig; clear hdig
          have Hr := Lib.hid hr; clear hr
          rcases hor with hor | hor
          · go_wp2
            go_ret
            exact ⟨retI Hr.out.symm, rfl⟩
          · go_wp2
            go_ret
            exact ⟨retI Hr.out.symm, rfl⟩
      · have hkk : k = s.size := by omega
        have hall2 := Hall.out
        rw [hkk, List.take_of_length_le (by omega)] at hall2
        have hr := Hend.out hall2
        have ht : s.data.toList.take k = s.data.toList := List.take_of_length_le (by omega)
        rw [ht]
        have Hr := Lib.hid hr; clear hr
        have Hall2 := Lib.hid hall2; clear hall2
        have Ht := Lib.hid ht; clear ht
        have Hkk := Lib.hid hkk; clear hkk
        go_wp2
        go_ret
        exact ⟨retI Hr.out.symm, rfl⟩

set_option maxHeartbeats 800000 in
set_option maxRecDepth 100000 in
theorem l1Read_any (s : ByteArray) (w : World) (hs : s.size ≤ 1048576) :
    Calls Tryz.prog 122 #[.string s] w fun e w' => e = .returned (.int .i64 (readL s.data.toList)) ∧ w = w' := by
  have hsz : s.data.toList.length = s.size := rfl
  by_cases hlen : 1 ≤ s.size ∧ s.size ≤ 6
  · by_cases hz : s.data.toList.getD 0 0 = 48 ∧ 1 < s.size
    · have hin := l1In_any (s.size : Int) 1 6 w
      rw [decide_eq_true (by omega)] at hin
      have h0 : 0 < s.size := by omega
      have h1 := hz.2
      have h6 := hlen.2
      have hno : ¬ ReadOk s.data.toList := fun h => h.2.2.1 hz
      have hr : readL s.data.toList = -1 := by unfold readL; rw [if_neg hno]
      have hg0 : s.data.toList.getD 0 0 = s[0] := by rw [List.getD_eq_getElem?_getD, data_get s 0 h0]; rfl
      have hb : ((s[0].toNat : Int) == 48) = true := by
        have := hz.1
        rw [hg0] at this
        rw [this]; rfl
      have hd : decide (1 < s.size) = true := decide_eq_true h1
      clear hg0 hno
      have Hin := Lib.hid hin; clear hin
      have Hr := Lib.hid hr; clear hr
      have Hz := Lib.hid hz; clear hz
      go_enter Tryz.func122, Tryz.ntmps122
      go_wp2_with fail
      with_reducible refine (Hin.out).mono ?_
      rintro e w' ⟨rfl, rfl⟩
      go_wp2
      go_ret
      exact ⟨retI Hr.out.symm, rfl⟩
    · exact l1Read_loop s w hlen hz
  · have hin := l1In_any (s.size : Int) 1 6 w
    have hno : ¬ ReadOk s.data.toList := fun h => hlen ⟨h.1, h.2.1⟩
    have hr : readL s.data.toList = -1 := by unfold readL; rw [if_neg hno]
    rw [decide_eq_false (by omega)] at hin
    have Hin := Lib.hid hin; clear hin
    have Hr := Lib.hid hr; clear hr
    go_enter Tryz.func122, Tryz.ntmps122
    go_wp2_with fail
    with_reducible refine (Hin.out).mono ?_
    rintro e w' ⟨rfl, rfl⟩
    go_wp2
    go_ret
    exact ⟨retI Hr.out.symm, rfl⟩
end
end Go.Proofs.YtimmjimeldejjaaGreatDoor
namespace Go.Proofs.YtimmjimeldejjaaGreatDoor
section
open Go.RowKit
set_option linter.unusedVariables false
set_option linter.unusedSimpArgs false

def strVs (O : List (List UInt8)) : List Value := O.map fun x => Value.string ⟨x.toArray⟩
theorem ext_str (s : ByteArray) (a b : Nat) : Value.string (s.extract a b) = .string ⟨((s.data.toList.take b).drop a).toArray⟩ := by
  have h := Lib.extract_data s a b
  rw [List.drop_take, ← h]
theorem drop_step {l : List UInt8} {f i : Nat} {c : UInt8} (hc : l[i]? = some c) (hf : f ≤ i) : l.drop f = (l.take i).drop f ++ c :: l.drop (i + 1) := by
  have hi : i < l.length := (List.getElem?_eq_some_iff.1 hc).1
  have h1 : l = l.take i ++ l.drop i := (List.take_append_drop i l).symm
  have h2 : l.drop i = c :: l.drop (i + 1) := by
    rw [List.drop_eq_getElem_cons hi]
    rw [List.getElem?_eq_getElem hi] at hc
    simp only [Option.some.injEq] at hc
    rw [hc]
  conv => lhs; rw [h1]
  rw [List.drop_append_of_le_length (by rw [List.length_take]; omega), h2]

set_option maxHeartbeats 1600000 in
set_option maxRecDepth 100000 in
theorem l1Split_any (s : ByteArray) (b : UInt8) (w : World) (hs : s.size ≤ 1048576) :
    Calls Tryz.prog 40 #[.string s, .int .u8 (b.toNat : Int)] w fun e w' => ∃ ao n cap, e = .returned (.slice ao n cap) ∧ OwnRow w.heap.size w'.heap.size w' 9 ao n cap (strVs (splitL b s.data.toList)) ∧ Below w.heap.size w w' := by
  have hsz : s.data.toList.length = s.size := rfl
  go_enter Tryz.func40, Tryz.ntmps40
  go_wp2
  go_loopw [5, 6, 7] (fun v f i wr => ∃ (k q : Nat) (a : Option Addr) (p c : Nat) (O : List (List UInt8)), k ≤ s.size ∧ q ≤ k ∧ p ≤ k ∧ i = .int .i64 k ∧ f = .int .i64 q ∧ v = .slice a p c ∧ OwnRow w.heap.size wr.heap.size wr 9 a p c (strVs O) ∧ splitL b s.data.toList = O ++ splitL b (s.data.toList.drop q) ∧ b ∉ (s.data.toList.take k).drop q ∧ Below w.heap.size w wr) (fun _ _ i _ => s.size - (intOf i).toNat)
  case atStart => exact ⟨0, 0, none, 0, 0, [], Nat.zero_le _, Nat.le_refl _, Nat.le_refl _, rfl, rfl, rfl, OwnRow.nil _ _ _ _, by simp, by simp, Below.refl _ _⟩
  case round =>
    obtain ⟨k, q, a, p, c, O, hk, hqk, hpk, rfl, rfl, rfl, hown, hO, hno, hb⟩ := hrel
    have HO := Lib.hid hO; clear hO
    have Hno := Lib.hid hno; clear hno
    by_cases hlt : k < s.size
    · have hget := data_get s k hlt
      have hds := drop_step hget hqk
      have htk := take_data s k hlt
      have hdt : (s.data.toList.take (k + 1)).drop q = (s.data.toList.take k).drop q ++ [s[k]] := by
        rw [htk, List.drop_append_of_le_length (by rw [List.length_take]; omega)]
      by_cases hbk : s[k] = b
      · have heq : ((s[k].toNat : Int) == (b.toNat : Int)) = true := by rw [hbk]; simp
        have hO2 : splitL b s.data.toList = (O ++ [(s.data.toList.take k).drop q]) ++ splitL b (s.data.toList.drop (k + 1)) := by
          rw [HO.out, hds, hbk, splitL_app _ _ _ Hno.out]; simp
        have hstr := ext_str s q k
        have Hget := Lib.hid hget; clear hget
        have Hds := Lib.hid hds; clear hds
        have Htk := Lib.hid htk; clear htk
        have Hdt := Lib.hid hdt; clear hdt
        have Hbk := Lib.hid hbk; clear hbk
        have HO2 := Lib.hid hO2; clear hO2
        have Hstr := Lib.hid hstr; clear hstr
        go_wp2_with (at_builtin; refine wpList_pushV wr rfl _ _ 38 rfl 9 _ 16 Tryz.underlying38 Tryz.infoStr rfl (by decide) w.heap.size wr.heap.size a p c _ rfl hown _ rfl rfl (by omega) hb.size ?_)
        intro a2 c2 w2 ho2 hc2
        have hb2 := hb.trans (hown.chgBelow hc2 hb.size)
        clear hown hc2
        go_wp2
        go_roundw
        case rel => exact ⟨k + 1, k + 1, a2, p + 1, c2, _, by omega, Nat.le_refl _, by omega, by go_num, by go_num, rfl, by unfold strVs at ho2 ⊢; rw [List.map_append]; simp only [List.map_cons, List.map_nil]; rw [← Hstr.out]; exact ho2, HO2.out, by rw [List.drop_of_length_le (by rw [List.length_take]; omega)]; simp, hb2⟩
        case measure => simp [intOf] <;> omega
      · have heq : ((s[k].toNat : Int) == (b.toNat : Int)) = false := by
          have : ¬ s[k].toNat = b.toNat := fun e => hbk (UInt8.toNat_inj.1 e)
          simp; omega
        have hno2 : b ∉ (s.data.toList.take (k + 1)).drop q := by
          rw [hdt]
          intro hm
          rcases List.mem_append.1 hm with h' | h'
          · exact Hno.out h'
          · exact hbk (List.mem_singleton.1 h').symm
        have Hget := Lib.hid hget; clear hget
        have Hds := Lib.hid hds; clear hds
        have Htk := Lib.hid htk; clear htk
        have Hdt := Lib.hid hdt; clear hdt
        have Hbk := Lib.hid hbk; clear hbk
        have Hno2 := Lib.hid hno2; clear hno2
        go_wp2
        go_roundw
        case rel => exact ⟨k + 1, q, a, p, c, O, by omega, by omega, by omega, by go_num, rfl, rfl, hown, HO.out, Hno2.out, hb⟩
        case measure => simp [intOf] <;> omega
    · have hkk : k = s.size := by omega
      have hfull : (s.data.toList.take k).drop q = s.data.toList.drop q := by rw [List.take_of_length_le (by omega)]
      have hend : splitL b s.data.toList = O ++ [s.data.toList.drop q] := by
        have := Hno.out
        rw [hfull] at this
        rw [HO.out, splitL_none _ _ this]
      have hstr := ext_str s q s.size
      rw [List.take_of_length_le (by omega)] at hstr
      have Hkk := Lib.hid hkk; clear hkk
      have Hfull := Lib.hid hfull; clear hfull
      have Hend := Lib.hid hend; clear hend
      have Hstr := Lib.hid hstr; clear hstr
      go_wp2_with (at_builtin; refine wpList_pushV wr rfl _ _ 38 rfl 9 _ 16 Tryz.underlying38 Tryz.infoStr rfl (by decide) w.heap.size wr.heap.size a p c _ rfl hown _ rfl rfl (by omega) hb.size ?_)
      intro a2 c2 w2 ho2 hc2
      have hb2 := hb.trans (hown.chgBelow hc2 hb.size)
      clear hown hc2
      go_wp2
      go_ret
      refine ⟨_, _, _, rfl, ?_, hb2⟩
      rw [Hend.out]
      unfold strVs at ho2 ⊢
      rw [List.map_append]
      simp only [List.map_cons, List.map_nil]
      rw [← Hstr.out]
      exact ho2
end
end Go.Proofs.YtimmjimeldejjaaGreatDoor
namespace Go.Proofs.YtimmjimeldejjaaGreatDoor
section
open Go.RowKit
set_option linter.unusedVariables false
set_option linter.unusedSimpArgs false

theorem bytes_eq {s : ByteArray} {l : List UInt8} (h : s.data.toList = l) : s = ⟨l.toArray⟩ := by
  apply ByteArray.ext; subst h; simp
theorem bytes_ne {s : ByteArray} {l : List UInt8} (h : s.data.toList ≠ l) : (s.toList == l) = false := by
  rw [beq_eq_false_iff_ne, ByteArray.toList_eq]; exact h
theorem mParse_zero {s : ByteArray} (h : s.data.toList = [48]) : mParsePiles s = ([], true) := by unfold mParsePiles; rw [if_pos h]
theorem mParse_yes {s : ByteArray} (h : s.data.toList ≠ [48]) (hg : goodB (outL s.data.toList) = true) : mParsePiles s = (outL s.data.toList, true) := by unfold mParsePiles; rw [if_neg h, if_pos hg]
theorem mParse_no {s : ByteArray} (h : s.data.toList ≠ [48]) (hg : goodB (outL s.data.toList) = false) : mParsePiles s = ([], false) := by unfold mParsePiles; rw [if_neg h, if_neg (by rw [hg]; simp)]
theorem splitL_le (b : UInt8) (l : List UInt8) : (splitL b l).length ≤ l.length + 1 := by rw [splitL_length]; have := List.count_le_length (a := b) (l := l); omega
/-- a word of those that were split -/
theorem strVs_getD {O : List (List UInt8)} {k : Nat} (h : k < O.length) : (strVs O).getD k undef = .string ⟨(O.getD k []).toArray⟩ := by
  unfold strVs
  rw [List.getD_eq_getElem?_getD, List.getElem?_map, List.getElem?_eq_getElem h, List.getD_eq_getElem?_getD, List.getElem?_eq_getElem h]; rfl
theorem splitL_word_le (b : UInt8) (l : List UInt8) : ∀ w ∈ splitL b l, w.length ≤ l.length := by
  induction l with
  | nil => intro w hw; simp [splitL] at hw; subst hw; simp
  | cons c l ih =>
    intro w hw
    unfold splitL at hw
    split at hw
    · rcases List.mem_cons.1 hw with rfl | h
      · simp
      · have := ih w h; simp only [List.length_cons]; omega
    · cases hs : splitL b l with
      | nil => exact absurd hs (splitL_ne b l)
      | cons h t =>
        rw [hs] at hw ih
        rcases List.mem_cons.1 hw with rfl | h'
        · have := ih h (by simp); simp only [List.length_cons]; omega
        · have := ih w (by simp [h']); simp only [List.length_cons]; omega
theorem getD_word {O : List (List UInt8)} {k b : Nat} (h : ∀ w ∈ O, w.length ≤ b) : (O.getD k []).length ≤ b := by
  by_cases hk : k < O.length
  · rw [List.getD_eq_getElem?_getD, List.getElem?_eq_getElem hk]; exact h _ (List.getElem_mem hk)
  · rw [List.getD_eq_getElem?_getD, List.getElem?_eq_none (by omega)]; simp
theorem outL_take {O : List (List UInt8)} {k : Nat} (h : k < O.length) : (O.map readL).take (k + 1) = (O.map readL).take k ++ [readL (O.getD k [])] := by
  rw [List.take_add_one, List.getElem?_map, List.getElem?_eq_getElem h, List.getD_eq_getElem?_getD, List.getElem?_eq_getElem h]; rfl

/-- a string of a row that the call made -/
theorem OwnRow.strAt {B E w ao n cap O} (h : OwnRow B E w 9 ao n cap (strVs O)) {k : Nat} (hk : k < n) : ∃ g, ao = some ⟨g, 0, none⟩ ∧ g < w.heap.size ∧ w.cell? ⟨g, k, none⟩ = some (.string ⟨(O.getD k []).toArray⟩) := by
  have hl := h.length
  rcases h.cases with ⟨_, rfl, _⟩ | ⟨g, rfl, _, _, hg⟩
  · omega
  refine ⟨g, rfl, hg, ?_⟩
  have h1 := World.ownsRow.cellAt h.1 k (by omega)
  have hO : k < O.length := by simp [strVs] at hl; omega
  rw [h1, ← strVs_getD hO, List.getD_eq_getElem?_getD, List.getElem?_eq_getElem (by simp [strVs]; exact hO)]
  rfl

set_option maxHeartbeats 1600000 in
set_option maxRecDepth 100000 in
theorem spec_ParsePiles (s : ByteArray) (w : World) (hs : s.size ≤ 1048576) :
    Calls Tryz.prog 123 #[.string s] w fun e w' => ∃ ao' n' cap', e = .returned (.tuple #[.slice ao' n' cap', .bool (mParsePiles s).2]) ∧ Own w.heap.size w'.heap.size w' ao' n' cap' (mParsePiles s).1 ∧ Below w.heap.size w w' := by
  by_cases hz : s.data.toList = [48]
  · have hm := mParse_zero hz
    have e := bytes_eq hz
    subst e
    have Hm := Lib.hid hm; clear hm
    have Hz := Lib.hid hz; clear hz
    go_enter Tryz.func123, Tryz.ntmps123
    go_wp2
    go_ret2
    rw [Hm.out]
    exact ⟨none, 0, 0, rfl, Own.nil _ _ _, Below.refl _ _⟩
  · have hne := bytes_ne hz
    have hsp := l1Split_any s 43 w hs
    rw [show (((43 : UInt8).toNat : Nat) : Int) = 43 from rfl] at hsp
    have hwl := splitL_word_le 43 s.data.toList
    have hcl := splitL_le 43 s.data.toList
    have hsz : s.data.toList.length = s.size := rfl
    have hout : outL s.data.toList = (splitL 43 s.data.toList).map readL := rfl
    have hyes := fun h => mParse_yes (s := s) hz h
    have hnot := fun h => mParse_no (s := s) hz h
    generalize splitL 43 s.data.toList = O at *
    generalize outL s.data.toList = R at *
    have Hz := Lib.hid hz; clear hz
    have Hsp := Lib.hid hsp; clear hsp
    have Hwl := Lib.hid hwl; clear hwl
    have Hout := Lib.hid hout; clear hout
    have Hyes := Lib.hid hyes; clear hyes
    have Hnot := Lib.hid hnot; clear hnot
    go_enter Tryz.func123, Tryz.ntmps123
    go_wp2_with fail
    with_reducible refine (Hsp.out).mono ?_
    rintro e w1 ⟨a1, n1, c1, rfl, ho1, hb1⟩
    have hn1 := ho1.length
    simp only [strVs, List.length_map] at hn1
    have Hn1 := Lib.hid hn1; clear hn1
    have hn8 : (n1 : Int) ≤ 1048577 := by have := Hn1.out; omega
    obtain ⟨wo, hwo⟩ : ∃ wo : World, wo = w1 := ⟨_, rfl⟩
    subst hwo
    go_wp2_with fail
    go_loopw [4, 12] (fun v i wr => ∃ (k : Nat) (a : Option Addr) (p c : Nat), k ≤ n1 ∧ p = k ∧ i = .int .i64 k ∧ v = .slice a p c ∧ Own wo.heap.size wr.heap.size wr a p c ((O.map readL).take k) ∧ Below wo.heap.size wo wr) (fun _ i _ => n1 - (intOf i).toNat)
    case atStart => exact ⟨0, none, 0, 0, Nat.zero_le _, rfl, rfl, rfl, Own.nil _ _ _, Below.refl _ _⟩
    case round =>
      obtain ⟨k, a, p, c, hk, rfl, rfl, rfl, hown, hb⟩ := hrel
      by_cases hlt : p < n1
      · obtain ⟨g, rfl, hg, hcell⟩ := (ho1.keep hb).strAt hlt
        have hot := outL_take (O := O) (k := p) (by have := Hn1.out; omega)
        have hwd := getD_word (k := p) Hwl.out
        have hcon := l1Read_any ⟨(O.getD p []).toArray⟩ wr (by show (O.getD p []).toArray.size ≤ _; rw [List.size_toArray]; omega)
        simp only [List.toList_toArray] at hcon
        generalize O.getD p [] = W at *
        have hrb := readL_bounds W
        generalize readL W = r at *
        have Hot := Lib.hid hot; clear hot
        have Hcon := Lib.hid hcon; clear hcon
        have Hwd := Lib.hid hwd; clear hwd
        clear ho1
        go_wp2_with fail
        with_reducible refine (Hcon.out).mono ?_
        rintro e w2 ⟨rfl, rfl⟩
        go_wp2_with (at_builtin; refine wpList_push wr rfl _ _ rfl wo.heap.size wr.heap.size a p c _ rfl hown _ rfl (by omega) hb.size ?_)
        intro a3 c3 w3 ho3 hc3
        have hb3 := hb.trans (hown.chgBelow hc3 hb.size)
        clear hown hc3
        go_wp2
        go_roundw
        case rel => exact ⟨p + 1, a3, p + 1, c3, by omega, rfl, by go_num, rfl, by rw [Hot.out]; exact ho3, hb3⟩
        case measure => simp [intOf] <;> omega
      · obtain rfl : n1 = p := by omega
        rw [List.take_of_length_le (by rw [List.length_map]; have := Hn1.out; omega), ← Hout.out] at hown
        have hbb := hb1.trans (hb.mono hb1.size)
        cases hgd : goodB R
        · have hcon := piGoodT_no _ _ _ _ wr hown.at hgd
          have hm := Hnot.out hgd
          have Hcon := Lib.hid hcon; clear hcon
          have Hm := Lib.hid hm; clear hm
          have Hgd := Lib.hid hgd; clear hgd
          go_wp2_with fail
          with_reducible refine (Hcon.out).mono ?_
          rintro e w2 ⟨rfl, rfl⟩
          go_wp2
          go_ret2
          rw [Hm.out]
          exact ⟨none, 0, 0, rfl, Own.nil _ _ _, hbb⟩
        · have hcon := piGoodT_yes _ _ _ _ wr hown.at (good_iff.1 hgd)
          have hm := Hyes.out hgd
          have Hcon := Lib.hid hcon; clear hcon
          have Hm := Lib.hid hm; clear hm
          have Hgd := Lib.hid hgd; clear hgd
          go_wp2_with fail
          with_reducible refine (Hcon.out).mono ?_
          rintro e w2 ⟨rfl, rfl⟩
          go_wp2
          go_ret2
          rw [Hm.out]
          exact ⟨_, _, _, rfl, hown.mono hb1.size (Nat.le_refl _), hbb⟩
end
end Go.Proofs.YtimmjimeldejjaaGreatDoor
namespace Go.Proofs.YtimmjimeldejjaaGreatDoor
section
open Go.RowKit
set_option linter.unusedVariables false
set_option linter.unusedSimpArgs false

theorem var_keep {n : String} {w w' : World} {x : Array Value} (h : w.var? Tryz.prog n = some x) (hb : Below w.heap.size w w') : w'.var? Tryz.prog n = some x := by
  unfold World.var? at h ⊢
  cases hg : Tryz.prog.globalNamed n with
  | none => rw [hg] at h; simp at h
  | some g =>
    rw [hg] at h
    simp only [Option.bind_some] at h ⊢
    have hlt : g < w.heap.size := by
      cases ho : w.heap[g]? with
      | none => rw [ho] at h; simp at h
      | some o => exact (Array.getElem?_eq_some_iff.1 ho).1
    rw [(Chg.ofBelow (S := fun _ => False) hb).block g hlt id]
    exact h
/-- what the library's contracts ask of the world -/
structure LibOk (w : World) : Prop where
  shape : w.ShapedOpen Tryz.prog
  syn : ∃ tp p, w.var? Tryz.prog "strconv.ErrSyntax" = some #[.iface tp p]
  rng : ∃ tp p, w.var? Tryz.prog "strconv.ErrRange" = some #[.iface tp p]
  tab : Lib.TabIs Tryz.prog w "internal/strconv.uint64pow10" .u64 Lib.pow10Tab
theorem LibOk.keep {w w' : World} (h : LibOk w) (hb : Below w.heap.size w w') : LibOk w' :=
  ⟨h.shape.keptBut (hb.frame (fun _ => False)) (fun _ hf => hf.elim), by obtain ⟨tp, p, e⟩ := h.syn; exact ⟨tp, p, var_keep e hb⟩, by obtain ⟨tp, p, e⟩ := h.rng; exact ⟨tp, p, var_keep e hb⟩, var_keep h.tab hb⟩

/-- strconv.Atoi, however it ends -/
theorem atoi_any (s : ByteArray) (w : World) (hs : s.size ≤ 1048576) (hL : LibOk w) :
    Calls Tryz.prog 160 #[.string s] w fun e w' => ((∃ v, Lib.atoiAll s.data.toList = .ok v ∧ e = .returned (.tuple #[.int .i64 v, .nilIface])) ∨ ((∀ v, Lib.atoiAll s.data.toList ≠ .ok v) ∧ ∃ x t q, e = .returned (.tuple #[.int .i64 x, .iface t q]))) ∧ Below w.heap.size w w' := by
  obtain ⟨tp, p, e1⟩ := hL.syn
  obtain ⟨tq, q, e2⟩ := hL.rng
  rcases hA : Lib.atoiAll s.data.toList with v | _ | _
  · refine (Tryz.strconv_Atoi_ok s (by omega) v hA w).mono fun e w' ⟨he, hw⟩ => ⟨.inl ⟨v, rfl, he⟩, ?_⟩
    rcases hw with rfl | ⟨t, rfl⟩
    · exact Below.refl _ _
    · exact Lib.bytesWorld_below _ _ _
  · refine (Any.strconv_Atoi_syntax_var Tryz.laysC172 s (by omega) hA tp p w e1).mono fun e w' ⟨N, he, _, _, hb⟩ => ⟨.inr ⟨fun v hv => (by cases hv), _, _, _, he⟩, hb⟩
  · refine (Tryz.strconv_Atoi_range_var s (by omega) hA tq q w e2).mono fun e w' ⟨N, he, _, _, hb⟩ => ⟨.inr ⟨fun v hv => (by cases hv), _, _, _, he⟩, hb⟩

theorem OwnRow.typedI {B E w ty ao n cap vs g} (h : OwnRow B E w ty ao n cap vs) (hg : (Value.slice ao n cap).ownBlock = some g) : ∃ cur, w.heap[g]? = some (.cells cur ty (0, 0)) := by
  rcases h.1.2 with ⟨hv, _⟩ | ⟨g', c, cur, hv, hg', hh, _⟩
  · rw [hv] at hg; simp [Value.ownBlock] at hg
  · rw [hv] at hg; simp [Value.ownBlock] at hg; subst hg; exact ⟨cur, hh⟩
theorem strInt {B E w ao n cap vs B' E' ao' n' cap' xs} (h : OwnRow B E w 9 ao n cap vs) (k : Own B' E' w ao' n' cap' xs) {g : Nat} (h1 : (Value.slice ao n cap).ownBlock = some g) (h2 : (Value.slice ao' n' cap').ownBlock = some g) : False := by
  obtain ⟨cur, e1⟩ := h.typedI h1
  obtain ⟨cur', e2⟩ := OwnRow.typedI k h2
  rw [e1] at e2
  simp at e2
theorem strs_row {bs : List ByteArray} {O : List (List UInt8)} (h : bs.map (·.data.toList) = O) : bs.map Value.string = strVs O := by
  subst h
  unfold strVs
  rw [List.map_map]
  apply List.map_congr_left
  intro b _
  simp
theorem split_any (s : ByteArray) (sep : UInt8) (w : World) (hs : s.size ≤ 1048576) (hL : LibOk w) :
    Calls Tryz.prog 65 #[.string s, .string ⟨#[sep]⟩] w fun e w' => ∃ ao n cap, e = .returned (.slice ao n cap) ∧ OwnRow w.heap.size w'.heap.size w' 9 ao n cap (strVs (splitL sep s.data.toList)) ∧ Below w.heap.size w w' := by
  have hc : Lib.countB s ⟨#[sep]⟩ = s.data.toList.count sep := Lib.count_one sep _
  have hd := Lib.splitB_data ⟨#[sep]⟩ 0 (Lib.countB s ⟨#[sep]⟩) s
  have hk : Lib.splitK [sep] 0 (Lib.countB s ⟨#[sep]⟩) s.data.toList = splitL sep s.data.toList := splitK_eq sep _ _ (by rw [hc]; exact Nat.le_refl _)
  have hd' : (Lib.splitB ⟨#[sep]⟩ 0 (Lib.countB s ⟨#[sep]⟩) s).map (·.data.toList) = splitL sep s.data.toList := hd.trans hk
  have hn : Lib.countB s ⟨#[sep]⟩ + 1 = (splitL sep s.data.toList).length := by rw [hc, splitL_length]
  have hle := splitL_le sep s.data.toList
  have hsz : s.data.toList.length = s.size := rfl
  have hrow := strs_row hd'
  have hlen : ((Lib.splitB ⟨#[sep]⟩ 0 (Lib.countB s ⟨#[sep]⟩) s).map Value.string).length = Lib.countB s ⟨#[sep]⟩ + 1 := by rw [hrow, hn]; simp [strVs]
  refine (Tryz.strings_Split_shaped s ⟨#[sep]⟩ w hL.shape (by omega) (by show 0 < [sep].length; simp)).mono fun e w' ⟨he, hw⟩ => ?_
  subst hw
  refine ⟨_, _, _, he, OwnRow.of ⟨by rw [← hrow, hlen]; omega, .inr ⟨_, _, _, rfl, Nat.le_refl _, heap_alloc_new w _, Nat.le_refl _, by unfold maxLen; omega, by rw [List.size_toArray, hlen]; omega, ?_⟩⟩, (Below.refl _ _).alloc (Nat.le_refl _) _⟩
  rw [Nat.mul_one, ← hlen, List.take_length, hrow]
theorem mParse_bad {s : ByteArray} {k : Nat} (hz : s.data.toList ≠ [48]) (hk : k < (splitL 43 s.data.toList).length) (h : ∀ v, Lib.atoiAll ((splitL 43 s.data.toList).getD k []) ≠ .ok v) : mParsePiles s = ([], false) := by
  refine mParse_no hz ?_
  cases hg : goodB (outL s.data.toList)
  · rfl
  · have hw := outL_mem hg (List.getElem_mem hk)
    exact absurd (atoi_word hw.1 hw.2) (by rw [List.getD_eq_getElem?_getD, List.getElem?_eq_getElem hk] at h; exact h _)
theorem mParse_vals {s : ByteArray} {vals : List Int} (hz : s.data.toList ≠ [48]) (hlen : vals.length = (splitL 43 s.data.toList).length) (hv : ∀ i, i < vals.length → Lib.atoiAll ((splitL 43 s.data.toList).getD i []) = .ok (vals.getD i 0)) :
    (goodB vals = false → mParsePiles s = ([], false)) ∧ (goodB vals = true → textL vals ≠ s.data.toList → mParsePiles s = ([], false)) ∧ (goodB vals = true → textL vals = s.data.toList → mParsePiles s = (vals, true)) := by
  refine ⟨fun hg => mParse_no hz ?_, fun hg ht => mParse_no hz ?_, fun hg ht => ?_⟩
  · cases ho : goodB (outL s.data.toList)
    · rfl
    · rw [vals_eq hlen hv ho, ho] at hg; cases hg
  · cases ho : goodB (outL s.data.toList)
    · rfl
    · exact absurd (by rw [vals_eq hlen hv ho]; exact outL_text ho) ht
  · obtain ⟨h1, h2⟩ := (vals_out hlen hv).1 ⟨hg, ht⟩
    rw [h2]; exact mParse_yes hz h1
theorem okAll_snoc {O : List (List UInt8)} {vals : List Int} {x : Int} (h : ∀ i, i < vals.length → Lib.atoiAll (O.getD i []) = .ok (vals.getD i 0)) (hx : Lib.atoiAll (O.getD vals.length []) = .ok x) : ∀ i, i < (vals ++ [x]).length → Lib.atoiAll (O.getD i []) = .ok ((vals ++ [x]).getD i 0) := by
  intro i hi
  rw [List.length_append, List.length_singleton] at hi
  by_cases hlt : i < vals.length
  · rw [h i hlt, List.getD_eq_getElem?_getD, List.getD_eq_getElem?_getD, List.getElem?_append_left hlt]
  · obtain rfl : i = vals.length := by omega
    rw [hx, List.getD_eq_getElem?_getD, List.getElem?_append_right (Nat.le_refl _)]; simp

/-- what splitNumbers comes to -/
def SplitIs (sep : UInt8) (nl l : List UInt8) (vals : List Int) (b : Bool) : Prop :=
  (l = nl ∧ vals = [] ∧ b = true) ∨ (l ≠ nl ∧ ((vals = [] ∧ b = false ∧ ∃ k, k < (splitL sep l).length ∧ ∀ v, Lib.atoiAll ((splitL sep l).getD k []) ≠ .ok v) ∨
    (vals.length = (splitL sep l).length ∧ (∀ j, j < vals.length → Lib.atoiAll ((splitL sep l).getD j []) = .ok (vals.getD j 0)) ∧ b = decide (jnL sep nl vals = l))))
/-- how it ends (a definition, so that no rule opens it) -/
def SplitPost (sep : UInt8) (nl : List UInt8) (s : ByteArray) (w : World) (e : Ending) (w' : World) : Prop :=
  ∃ ao n cap vals b, e = .returned (.tuple #[.slice ao n cap, .bool b]) ∧ Own w.heap.size w'.heap.size w' ao n cap vals ∧ SplitIs sep nl s.data.toList vals b ∧ Below w.heap.size w w'
theorem itoa_ok (w : World) (x : Int) (h0 : -9223372036854775808 ≤ x) (h1 : x ≤ 9223372036854775807) (hL : LibOk w) : ItoaOk w x := by
  intro W hb
  have hcon := Tryz.strconv_Itoa x h0 h1 W (hL.keep hb).tab
  change Calls Tryz.prog 74 _ _ _ at hcon
  refine hcon.mono fun e w' ⟨he, k, os, hw⟩ => ⟨he, ?_⟩
  rw [hw]
  exact Lib.below_grow _ _ (Nat.le_refl _) k os

theorem vals_ok {O : List (List UInt8)} {vals : List Int} (h : ∀ i, i < vals.length → Lib.atoiAll (O.getD i []) = .ok (vals.getD i 0)) (x : Int) (hx : x ∈ vals) : ∃ l : List UInt8, Lib.atoiAll l = .ok x := by
  obtain ⟨i, hi, rfl⟩ := List.getElem_of_mem hx
  have := h i hi
  rw [List.getD_eq_getElem?_getD (l := vals), List.getElem?_eq_getElem hi] at this
  exact ⟨_, this⟩
theorem parse_of_split {s : ByteArray} {vals : List Int} {b : Bool} (h : SplitIs 43 [48] s.data.toList vals b) :
    (b = false → mParsePiles s = ([], false)) ∧ (b = true → goodB vals = false → mParsePiles s = ([], false)) ∧ (b = true → goodB vals = true → mParsePiles s = (vals, true)) := by
  rcases h with ⟨h1, rfl, rfl⟩ | ⟨hz, ⟨rfl, rfl, k, hk, hno⟩ | ⟨hlen, hok, rfl⟩⟩
  · exact ⟨fun h => (by cases h), fun _ h => absurd (good_iff.2 good_nil) (by rw [h]; simp), fun _ _ => mParse_zero h1⟩
  · exact ⟨fun _ => mParse_bad hz hk hno, fun h => (by cases h), fun h => (by cases h)⟩
  · obtain ⟨h1, h2, h3⟩ := mParse_vals hz hlen hok
    refine ⟨fun h => ?_, fun _ hg => h1 hg, fun h hg => ?_⟩
    · cases hg : goodB vals
      · exact h1 hg
      · rw [decide_eq_false_iff_not, jnL_text (fun x hx => by have := (good_iff.1 hg).mem hx; omega)] at h
        exact h2 hg h
    · rw [decide_eq_true_iff, jnL_text (fun x hx => by have := (good_iff.1 hg).mem hx; omega)] at h
      exact h3 hg h

set_option maxHeartbeats 1600000 in
set_option maxRecDepth 100000 in
theorem splitNumbers_any (s : ByteArray) (sep : UInt8) (nl : List UInt8) (w : World) (hs : s.size ≤ 1048576) (hL : LibOk w) :
    Calls Tryz.prog 159 #[.string s, .string ⟨#[sep]⟩, .string ⟨nl.toArray⟩] w fun e w' => SplitPost sep nl s w e w' := by
  have hemp := Own.empty w
  have hb0 : Below w.heap.size w (w.alloc (.cells #[] 3)) := (Below.refl _ _).alloc (Nat.le_refl _) _
  by_cases hz : s.data.toList = nl
  · have e := bytes_eq hz
    subst e
    have Hz := Lib.hid hz; clear hz
    go_enter Tryz.func159, Tryz.ntmps159
    go_wp2
    go_ret2
    refine ⟨_, _, _, _, _, ?_, hemp, .inl ⟨by simp, rfl, rfl⟩, hb0⟩
    rfl
  · have hne := bytes_ne hz
    have hsp := split_any s sep (w.alloc (.cells #[] 3)) hs (hL.keep hb0)
    have hsz : s.data.toList.length = s.size := rfl
    have hwl := splitL_word_le sep s.data.toList
    have hcl := splitL_le sep s.data.toList
    have hpo := splitL_ne sep s.data.toList
    have hfin : ∀ vals b, SplitIs sep nl s.data.toList vals b ↔ ((vals = [] ∧ b = false ∧ ∃ k, k < (splitL sep s.data.toList).length ∧ ∀ v, Lib.atoiAll ((splitL sep s.data.toList).getD k []) ≠ .ok v) ∨
      (vals.length = (splitL sep s.data.toList).length ∧ (∀ j, j < vals.length → Lib.atoiAll ((splitL sep s.data.toList).getD j []) = .ok (vals.getD j 0)) ∧ b = decide (jnL sep nl vals = s.data.toList))) :=
      fun vals b => ⟨fun h => h.elim (fun h => absurd h.1 hz) (fun h => h.2), fun h => .inr ⟨hz, h⟩⟩
    generalize splitL sep s.data.toList = O at *
    have Hz := Lib.hid hz; clear hz
    have Hsp := Lib.hid hsp; clear hsp
    have Hwl := Lib.hid hwl; clear hwl
    have Hfin := Lib.hid hfin; clear hfin
    have Hpo := Lib.hid hpo; clear hpo
    go_enter Tryz.func159, Tryz.ntmps159
    go_wp2_with fail
    with_reducible refine (Hsp.out).mono ?_
    rintro e w1 ⟨a1, n, c1, rfl, ho1, hb1⟩
    have hbw := hb0.trans (hb1.mono hb0.size)
    have hemp1 := (hemp.keep hb1).mono (Nat.le_refl _) hb1.size
    replace ho1 := ho1.mono hb0.size (Nat.le_refl _)
    clear hemp hb0 hb1
    have hn := ho1.length
    simp only [strVs, List.length_map] at hn
    have hn8 : (n : Int) ≤ 1048577 := by omega
    have Hn := Lib.hid hn; clear hn
    obtain ⟨wo, hwo⟩ : ∃ wo : World, wo = w1 := ⟨_, rfl⟩
    subst hwo
    generalize hX : wo.heap.size = X at *
    have HX := Lib.hid hX; clear hX
    go_wp2_with fail
    go_loopw [8, 22] (fun v i wr => ∃ (k : Nat) (a : Option Addr) (p c : Nat) (vals : List Int), k ≤ n ∧ p = k ∧ i = .int .i64 k ∧ v = .slice a p c ∧ Own w.heap.size wr.heap.size wr a p c vals ∧ (∀ j, j < vals.length → Lib.atoiAll (O.getD j []) = .ok (vals.getD j 0)) ∧ Below w.heap.size w wr ∧ OwnRow w.heap.size X wr 9 a1 n c1 (strVs O)) (fun _ i _ => n - (intOf i).toNat)
    case atStart => exact ⟨0, _, 0, _, [], Nat.zero_le _, rfl, rfl, rfl, HX.out ▸ hemp1, fun j hj => absurd hj (by simp), hbw, ho1⟩
    case round =>
      obtain ⟨k, a, p, c, vals, hk, rfl, rfl, rfl, hown, hok, hb, hstr⟩ := hrel
      have hvl := hown.length
      by_cases hlt : p < n
      · obtain ⟨g, rfl, hg, hcell⟩ := hstr.strAt hlt
        have hwd := getD_word (k := p) Hwl.out
        have hcon := fun W hW => atoi_any ⟨(O.getD p []).toArray⟩ W (by show (O.getD p []).toArray.size ≤ _; rw [List.size_toArray]; omega) hW
        simp only [List.toList_toArray] at hcon
        have hcn := hcon wr (hL.keep hb)
        clear hcon
        have hsn := fun x hx => okAll_snoc (x := x) hok (by rw [hvl]; exact hx)
        have hbd : (∀ v, Lib.atoiAll (O.getD p []) ≠ .ok v) → SplitIs sep nl s.data.toList [] false := fun hno => (Hfin.out _ _).2 (.inl ⟨rfl, rfl, p, by have := Hn.out; omega, hno⟩)
        generalize hW : O.getD p [] = W at *
        have Hcn := Lib.hid hcn; clear hcn
        have Hwd := Lib.hid hwd; clear hwd
        have HW := Lib.hid hW; clear hW
        have Hsn := Lib.hid hsn; clear hsn
        have Hbd := Lib.hid hbd; clear hbd
        have Hok := Lib.hid hok; clear hok
        have Hvl := Lib.hid hvl; clear hvl
        clear ho1 hemp1 hbw
        go_wp2_with fail
        with_reducible refine (Hcn.out).mono ?_
        rintro e w2 ⟨⟨x, hx, rfl⟩ | ⟨hno, x, t, q, rfl⟩, hb2⟩
        · have hbw2 := hb.trans (hb2.mono hb.size)
          have hown2 := (hown.keep hb2).mono (Nat.le_refl _) hb2.size
          have hstr2 := hstr.keep hb2
          have hs1 := Hsn.out x hx
          clear hown hstr hb hb2 hcell
          have Hx := Lib.hid hx; clear hx
          have Hs1 := Lib.hid hs1; clear hs1
          go_wp2_with (at_builtin; refine wpList_push w2 rfl _ _ rfl w.heap.size w2.heap.size a p c _ rfl hown2 _ rfl (by omega) hbw2.size ?_)
          intro a3 c3 w3 ho3 hc3
          have hb3 := hbw2.trans (hown2.chgBelow hc3 hbw2.size)
          have hstr3 := hstr2.chg hc3 (fun g' _ _ hg' hs' => strInt hstr2 hown2 hg' hs')
          clear hown2 hc3 hstr2 hbw2
          go_wp2
          go_roundw
          case rel => exact ⟨p + 1, a3, p + 1, c3, _, by omega, rfl, by go_num, rfl, ho3, Hs1.out, hb3, hstr3⟩
          case measure => simp [intOf] <;> omega
        · have hm := Hbd.out hno
          have hbw2 := hb.trans (hb2.mono hb.size)
          have Hm := Lib.hid hm; clear hm
          have Hno := Lib.hid hno; clear hno
          clear hown hstr hb hb2 hcell
          go_wp2
          go_ret2
          exact ⟨none, 0, 0, _, _, rfl, Own.nil _ _ _, Hm.out, hbw2⟩
      · obtain rfl : n = p := by omega
        have hbd : ∀ x ∈ vals, -9223372036854775808 ≤ x ∧ x ≤ 9223372036854775807 := fun x hx => by obtain ⟨l, hl⟩ := vals_ok hok x hx; exact Lib.atoiAll_bounds hl
        have hcon := joinNumbers_any _ _ _ vals sep nl wr hown.at (by omega) (fun x hx => itoa_ok wr x (hbd x hx).1 (hbd x hx).2 (hL.keep hb)) (fun x hx => Lib.itoa_length_le x (hbd x hx).1 (hbd x hx).2)
        have hs2 : SplitIs sep nl s.data.toList vals (decide (jnL sep nl vals = s.data.toList)) := (Hfin.out _ _).2 (.inr ⟨by rw [hvl]; exact Hn.out.symm, hok, rfl⟩)
        clear ho1 hemp1 hbw hstr
        generalize hJ : jnL sep nl vals = J at *
        by_cases ht : J = s.data.toList
        · have hbeq : (J == s.toList) = true := by rw [beq_iff_eq, ByteArray.toList_eq]; exact ht
          rw [decide_eq_true ht] at hs2
          have Hcon := Lib.hid hcon; clear hcon
          have Hok := Lib.hid hok; clear hok
          have Hvl := Lib.hid hvl; clear hvl
          have Ht := Lib.hid ht; clear ht
          have Hs2 := Lib.hid hs2; clear hs2
          have HJ := Lib.hid hJ; clear hJ
          have Hbd := Lib.hid hbd; clear hbd
          go_wp2_with fail
          with_reducible refine (Hcon.out).mono ?_
          rintro e w2 ⟨rfl, hb2⟩
          have hown2 := (hown.keep hb2).mono (Nat.le_refl _) hb2.size
          go_wp2
          go_ret2
          exact ⟨_, _, _, _, _, rfl, hown2, Hs2.out, hb.trans (hb2.mono hb.size)⟩
        · have hbne : (J == s.toList) = false := by rw [beq_eq_false_iff_ne, ByteArray.toList_eq]; exact ht
          rw [decide_eq_false ht] at hs2
          have Hcon := Lib.hid hcon; clear hcon
          have Hok := Lib.hid hok; clear hok
          have Hvl := Lib.hid hvl; clear hvl
          have Ht := Lib.hid ht; clear ht
          have Hs2 := Lib.hid hs2; clear hs2
          have HJ := Lib.hid hJ; clear hJ
          have Hbd := Lib.hid hbd; clear hbd
          go_wp2_with fail
          with_reducible refine (Hcon.out).mono ?_
          rintro e w2 ⟨rfl, hb2⟩
          have hown2 := (hown.keep hb2).mono (Nat.le_refl _) hb2.size
          go_wp2
          go_ret2
          exact ⟨_, _, _, _, _, rfl, hown2, Hs2.out, hb.trans (hb2.mono hb.size)⟩

theorem impl_ParsePiles (s : ByteArray) (w : World) (hs : s.size ≤ 1048576) (hL : LibOk w) :
    Calls Tryz.prog 94 #[.string s] w fun e w' => ∃ ao' n' cap', e = .returned (.tuple #[.slice ao' n' cap', .bool (mParsePiles s).2]) ∧ Own w.heap.size w'.heap.size w' ao' n' cap' (mParsePiles s).1 ∧ Below w.heap.size w w' := by
  have hcon := splitNumbers_any s 43 [48] w hs hL
  change Calls Tryz.prog 159 #[.string s, .string ⟨#[43]⟩, .string ⟨#[48]⟩] _ _ at hcon
  have Hcon := Lib.hid hcon; clear hcon
  go_enter Tryz.func94, Tryz.ntmps94
  go_wp2_with fail
  with_reducible refine (Hcon.out).mono ?_
  rintro e w1 ⟨a1, n1, c1, vals, b, rfl, ho1, hsp, hb1⟩
  have hp := parse_of_split hsp
  cases b
  · have hq := hp.1 rfl
    have Hp := Lib.hid hp; clear hp
    have Hsp := Lib.hid hsp; clear hsp
    have Hq := Lib.hid hq; clear hq
    go_wp2
    go_ret2
    rw [Hq.out]
    exact ⟨none, 0, 0, rfl, Own.nil _ _ _, hb1⟩
  · cases hg : goodB vals
    · have hq := hp.2.1 rfl hg
      have Hp := Lib.hid hp; clear hp
      have Hsp := Lib.hid hsp; clear hsp
      have Hg := Lib.hid hg; clear hg
      have Hq := Lib.hid hq; clear hq
      go_wp2_with fail
      with_reducible refine (isPilesT_no _ _ _ _ _ ho1.at Hg.out).mono ?_
      rintro e w' ⟨rfl, rfl⟩
      go_wp2
      go_ret2
      rw [Hq.out]
      exact ⟨none, 0, 0, rfl, Own.nil _ _ _, hb1⟩
    · have hq := hp.2.2 rfl hg
      have Hp := Lib.hid hp; clear hp
      have Hsp := Lib.hid hsp; clear hsp
      have Hg := Lib.hid hg; clear hg
      have Hq := Lib.hid hq; clear hq
      go_wp2_with fail
      with_reducible refine (isPilesT_yes _ _ _ _ _ ho1.at (good_iff.1 Hg.out)).mono ?_
      rintro e w' ⟨rfl, rfl⟩
      go_wp2
      go_ret2
      rw [Hq.out]
      exact ⟨_, _, _, rfl, ho1, hb1⟩
end
end Go.Proofs.YtimmjimeldejjaaGreatDoor
