/- Texts of piles that are read: what the model and the program come to; the model's functions. No condition but sizes. -/
import Derived.Test.YtbkihnejgcebpaaGreatDoorText
import Derived.Test.YtbkihnejgcebpaaGreatDoorParseM
import Derived.Lib.Join
namespace Go.Proofs.YtbkihnejgcebpaaGreatDoor
open Go.RowKit
set_option linter.unusedVariables false
set_option linter.unusedSimpArgs false

theorem split_join {xs : List Int} (h0 : xs ≠ []) (h : ∀ x ∈ xs, 1 ≤ x ∧ x ≤ 28) : splitL 43 (joinL xs) = xs.map dd := by
  unfold joinL
  induction xs with
  | nil => exact absurd rfl h0
  | cons x r ih =>
    have hx := h x (by simp)
    have hno : (43 : UInt8) ∉ dd x := dd_no43 x.toNat (by omega)
    cases r with
    | nil => simp only [List.map_cons, List.map_nil, Lib.join_one]; exact splitL_none _ _ hno
    | cons y r =>
      have := ih (by simp) (fun z hz => h z (by simp [hz]))
      have e : Lib.join ((x :: y :: r).map dd) [43] = dd x ++ 43 :: Lib.join ((y :: r).map dd) [43] := by
        simp only [List.map_cons]
        rw [Lib.join_cons, Lib.join_cons]
        simp [Lib.joinTail]
      rw [e, splitL_app _ _ _ hno, this]
      rfl
theorem join_split (b : UInt8) (l : List UInt8) : Lib.join (splitL b l) [b] = l := by
  induction l with
  | nil => simp [splitL, Lib.join_one]
  | cons c l ih =>
    unfold splitL
    cases hs : splitL b l with
    | nil => exact absurd hs (splitL_ne b l)
    | cons h t =>
      rw [hs, Lib.join_cons] at ih
      by_cases hc : c = b
      · rw [if_pos hc, Lib.join_cons]
        simp only [Lib.joinTail, List.map_cons, List.flatten_cons, List.nil_append] at ih ⊢
        rw [hc, List.append_assoc, ih]
        rfl
      · rw [if_neg hc, Lib.join_cons, List.cons_append, ih]

def outL (l : List UInt8) : List Int := (splitL 43 l).map readL
def mParsePiles (s : ByteArray) : List Int × Bool := if s.data.toList = [48] then ([], true) else if goodB (outL s.data.toList) then (outL s.data.toList, true) else ([], false)
theorem mParsePiles_bound (s : ByteArray) : (mParsePiles s).1.length ≤ 1048576 := by
  unfold mParsePiles
  split
  · simp
  · split
    · next h => have := (good_iff.1 h).len; show (outL s.data.toList).length ≤ _; omega
    · simp
/-- how Atoi ends at a word whose number is one of piles -/
theorem atoi_word {w : List UInt8} (h1 : 1 ≤ readL w) (h2 : readL w ≤ 28) : Lib.atoiAll w = .ok (readL w) := by
  have e := readL_small w h1 h2
  have := atoi_dd (readL w).toNat (by omega)
  rw [← e] at this
  rw [this]
  congr 1
  omega
theorem outL_mem {l w : List UInt8} (hg : goodB (outL l) = true) (hw : w ∈ splitL 43 l) : 1 ≤ readL w ∧ readL w ≤ 28 := (good_iff.1 hg).mem (List.mem_map_of_mem hw)
theorem outL_text {l : List UInt8} (hg : goodB (outL l) = true) : textL (outL l) = l := by
  have hne : outL l ≠ [] := fun e => splitL_ne 43 l (by simpa [outL] using e)
  unfold textL
  rw [if_neg hne]
  unfold joinL
  have : (outL l).map dd = splitL 43 l := by
    unfold outL
    rw [List.map_map]
    conv => rhs; rw [← List.map_id (splitL 43 l)]
    apply List.map_congr_left
    intro w hw
    have := outL_mem hg hw
    exact (readL_small w this.1 this.2).symm
  rw [this]
  exact join_split 43 l
/-- what the program finds is what the model finds -/
theorem vals_out {l : List UInt8} {vals : List Int} (hlen : vals.length = (splitL 43 l).length) (hv : ∀ i, i < vals.length → Lib.atoiAll ((splitL 43 l).getD i []) = .ok (vals.getD i 0)) :
    (goodB vals = true ∧ textL vals = l) ↔ (goodB (outL l) = true ∧ vals = outL l) := by
  have hne : vals ≠ [] := fun e => splitL_ne 43 l (by rw [e] at hlen; exact List.eq_nil_of_length_eq_zero hlen.symm)
  constructor
  · rintro ⟨hg, ht⟩
    have hm := fun x hx => (good_iff.1 hg).mem (x := x) hx
    have : outL l = vals := by
      unfold textL at ht
      rw [if_neg hne] at ht
      unfold outL
      rw [← ht, split_join hne hm, List.map_map]
      conv => rhs; rw [← List.map_id vals]
      apply List.map_congr_left
      intro x hx
      have := hm x hx
      show readL (Lib.decDigits x.toNat) = x
      rw [read_dd _ (by omega)]
      omega
    exact ⟨by rw [this]; exact hg, this.symm⟩
  · rintro ⟨hg, rfl⟩
    exact ⟨hg, outL_text hg⟩
theorem vals_eq {l : List UInt8} {vals : List Int} (hlen : vals.length = (splitL 43 l).length) (hv : ∀ i, i < vals.length → Lib.atoiAll ((splitL 43 l).getD i []) = .ok (vals.getD i 0)) (hg : goodB (outL l) = true) : vals = outL l := by
  apply List.ext_getElem
  · rw [hlen]; simp [outL]
  · intro i h1 h2
    have := hv i h1
    have hi : i < (splitL 43 l).length := by omega
    rw [List.getD_eq_getElem?_getD, List.getElem?_eq_getElem hi, List.getD_eq_getElem?_getD, List.getElem?_eq_getElem h1] at this
    simp only [Option.getD_some] at this
    have hw := outL_mem hg (List.getElem_mem hi)
    rw [atoi_word hw.1 hw.2] at this
    simp only [outL, List.getElem_map]
    injection this with h
    exact h.symm

theorem data_get (s : ByteArray) (k : Nat) (h : k < s.size) : s.data.toList[k]? = some s[k] := by
  rw [List.getElem?_eq_getElem (by simpa using h)]; rfl
theorem take_data (s : ByteArray) (k : Nat) (h : k < s.size) : s.data.toList.take (k + 1) = s.data.toList.take k ++ [s[k]] := by
  rw [List.take_add_one, data_get s k h]; rfl

set_option maxHeartbeats 1600000 in
set_option maxRecDepth 100000 in
theorem l1Read_loop (s : ByteArray) (w : World) (hs : 1 ≤ s.size ∧ s.size ≤ 6) (hq : ¬ (s.data.toList.getD 0 0 = 48 ∧ 1 < s.size)) :
    Calls Tryz.prog 70 #[.string s] w fun e w' => e = .returned (.int .i64 (readL s.data.toList)) ∧ w = w' := by
  have hin := l1In_any (s.size : Int) 1 6 w
  rw [decide_eq_true (by omega)] at hin
  have h0 : 0 < s.size := by omega
  have h1 := hs.1
  have h6 := hs.2
  have hsz : s.data.toList.length = s.size := rfl
  have hg0 : s.data.toList.getD 0 0 = s[0] := by rw [List.getD_eq_getElem?_getD, data_get s 0 h0]; rfl
  rw [hg0] at hq
  have hend : (∀ c ∈ s.data.toList, isDig c) → readL s.data.toList = (numV s.data.toList : Int) := fun hd => by
    unfold readL; rw [if_pos ⟨by omega, by omega, by rw [hg0, hsz]; exact hq, hd⟩]
  have hbad : ∀ k (h : k < s.size), ¬ isDig s[k] → readL s.data.toList = -1 := fun k h hno => by
    unfold readL; rw [if_neg (fun hh => hno (hh.2.2.2 _ (List.mem_of_getElem? (data_get s k h))))]
  have hnv := fun k => numV_lt (s.data.toList.take k)
  have Hend := Lib.hid hend
  have Hbad := Lib.hid hbad
  have Hnv := Lib.hid hnv
  have Hg0 := Lib.hid hg0
  clear hend hbad hg0 hnv hs
  by_cases hz : (s[0].toNat : Int) = 48
  · have h1' : ¬ 1 < s.size := fun hh => hq ⟨UInt8.toNat_inj.1 (by simp; omega), hh⟩
    have hb : ((s[0].toNat : Int) == 48) = true := by simpa using hz
    have hd : decide (1 < s.size) = false := decide_eq_false h1'
    have Hin := Lib.hid hin; clear hin
    have Hq := Lib.hid hq; clear hq
    have Hz := Lib.hid hz; clear hz
    go_enter Tryz.func70, Tryz.ntmps70
    go_wp2_with fail
    with_reducible refine (Hin.out).mono ?_
    rintro e w' ⟨rfl, rfl⟩
    go_wp2
    have Hb := Lib.hid hb; clear hb
    have Hd := Lib.hid hd; clear hd
    go_loop [3, 4] (fun v i => ∃ k : Nat, k ≤ s.size ∧ i = .int .i64 k ∧ v = .int .i64 (numV (s.data.toList.take k) : Nat) ∧ ∀ c ∈ s.data.toList.take k, isDig c) (fun _ i => s.size - (intOf i).toNat)
    case atStart => exact ⟨0, Nat.zero_le _, rfl, rfl, by simp⟩
    case round =>
      obtain ⟨k, hk, rfl, rfl, hall⟩ := hrel
      have hlt6 := Hnv.out k hall
      have hp : 10 ^ (s.data.toList.take k).length ≤ 10 ^ 6 := Nat.pow_le_pow_right (by omega) (by rw [List.length_take]; omega)
      have hb6 : numV (s.data.toList.take k) ≤ 1000000 := by omega
      have Hall := Lib.hid hall; clear hall
      clear hlt6 hp
      by_cases hlt : k < s.size
      · have hsn := numV_snoc (s.data.toList.take k) s[k]
        rw [← take_data s k hlt] at hsn
        generalize numV (s.data.toList.take k) = V at *
        by_cases hdig : isDig s[k]
        · have hd1 : 48 ≤ (s[k].toNat : Int) := by have := hdig.1; omega
          have hd2 : (s[k].toNat : Int) ≤ 57 := by have := hdig.2; omega
          have Hsn := Lib.hid hsn; clear hsn
          have Hdig := Lib.hid hdig; clear hdig
          go_wp2
          go_round
          case rel => exact ⟨k + 1, by omega, by go_num, by rw [Hsn.out]; exact valI (by omega), fun c hc => by
            rw [take_data s k hlt] at hc
            rcases List.mem_append.1 hc with h' | h'
            · exact Hall.out c h'
            · rw [List.mem_singleton.1 h']; exact Hdig.out⟩
          case measure => simp [intOf] <;> omega
        · have hr := Hbad.out k hlt hdig
          have hor : (s[k].toNat : Int) < 48 ∨ 57 < (s[k].toNat : Int) := by unfold isDig at hdig; omega
          have Hsn := Lib.hid hsn; clear hsn
          have Hdig := Lib.hid hdig; clear hdig
          have Hr := Lib.hid hr; clear hr
          rcases hor with hor | hor
          · go_wp2
            go_ret
            exact ⟨retI Hr.out.symm, rfl⟩
          · go_wp2
            go_ret
            exact ⟨retI Hr.out.symm, rfl⟩
      · have hkk : k = s.size := by omega
        have hall2 := Hall.out
        rw [hkk, List.take_of_length_le (by omega)] at hall2
        have hr := Hend.out hall2
        have ht : s.data.toList.take k = s.data.toList := List.take_of_length_le (by omega)
        rw [ht]
        have Hr := Lib.hid hr; clear hr
        have Hall2 := Lib.hid hall2; clear hall2
        have Ht := Lib.hid ht; clear ht
        have Hkk := Lib.hid hkk; clear hkk
        go_wp2
        go_ret
        exact ⟨retI Hr.out.symm, rfl⟩
  · have hb : ((s[0].toNat : Int) == 48) = false := by simpa using hz
    have Hin := Lib.hid hin; clear hin
    have Hq := Lib.hid hq; clear hq
    have Hz := Lib.hid hz; clear hz
    go_enter Tryz.func70, Tryz.ntmps70
    go_wp2_with fail
    with_reducible refine (Hin.out).mono ?_
    rintro e w' ⟨rfl, rfl⟩
    go_wp2
    have Hb := Lib.hid hb; clear hb
    go_loop [3, 4] (fun v i => ∃ k : Nat, k ≤ s.size ∧ i = .int .i64 k ∧ v = .int .i64 (numV (s.data.toList.take k) : Nat) ∧ ∀ c ∈ s.data.toList.take k, isDig c) (fun _ i => s.size - (intOf i).toNat)
    case atStart => exact ⟨0, Nat.zero_le _, rfl, rfl, by simp⟩
    case round =>
      obtain ⟨k, hk, rfl, rfl, hall⟩ := hrel
      have hlt6 := Hnv.out k hall
      have hp : 10 ^ (s.data.toList.take k).length ≤ 10 ^ 6 := Nat.pow_le_pow_right (by omega) (by rw [List.length_take]; omega)
      have hb6 : numV (s.data.toList.take k) ≤ 1000000 := by omega
      have Hall := Lib.hid hall; clear hall
      clear hlt6 hp
      by_cases hlt : k < s.size
      · have hsn := numV_snoc (s.data.toList.take k) s[k]
        rw [← take_data s k hlt] at hsn
        generalize numV (s.data.toList.take k) = V at *
        by_cases hdig : isDig s[k]
        · have hd1 : 48 ≤ (s[k].toNat : Int) := by have := hdig.1; omega
          have hd2 : (s[k].toNat : Int) ≤ 57 := by have := hdig.2; omega
          have Hsn := Lib.hid hsn; clear hsn
          have Hdig := Lib.hid hdig; clear hdig
          go_wp2
          go_round
          case rel => exact ⟨k + 1, by omega, by go_num, by rw [Hsn.out]; exact valI (by omega), fun c hc => by
            rw [take_data s k hlt] at hc
            rcases List.mem_append.1 hc with h' | h'
            · exact Hall.out c h'
            · rw [List.mem_singleton.1 h']; exact Hdig.out⟩
          case measure => simp [intOf] <;> omega
        · have hr := Hbad.out k hlt hdig
          have hor : (s[k].toNat : Int) < 48 ∨ 57 < (s[k].toNat : Int) := by unfold isDig at hdig; omega
          have Hsn := Lib.hid hsn; clear hsn
          have Hdig := Lib.hid hdig; clear hdig
          have Hr := Lib.hid hr; clear hr
          rcases hor with hor | hor
          · go_wp2
            go_ret
            exact ⟨retI Hr.out.symm, rfl⟩
          · go_wp2
            go_ret
            exact ⟨retI Hr.out.symm, rfl⟩
      · have hkk : k = s.size := by omega
        have hall2 := Hall.out
        rw [hkk, List.take_of_length_le (by omega)] at hall2
        have hr := Hend.out hall2
        have ht : s.data.toList.take k = s.data.toList := List.take_of_length_le (by omega)
        rw [ht]
        have Hr := Lib.hid hr; clear hr
        have Hall2 := Lib.hid hall2; clear hall2
        have Ht := Lib.hid ht; clear ht
        have Hkk := Lib.hid hkk; clear hkk
        go_wp2
        go_ret
        exact ⟨retI Hr.out.symm, rfl⟩

set_option maxHeartbeats 800000 in
set_option maxRecDepth 100000 in
theorem l1Read_any (s : ByteArray) (w : World) (hs : s.size ≤ 1048576) :
    Calls Tryz.prog 70 #[.string s] w fun e w' => e = .returned (.int .i64 (readL s.data.toList)) ∧ w = w' := by
  have hsz : s.data.toList.length = s.size := rfl
  by_cases hlen : 1 ≤ s.size ∧ s.size ≤ 6
  · by_cases hz : s.data.toList.getD 0 0 = 48 ∧ 1 < s.size
    · have hin := l1In_any (s.size : Int) 1 6 w
      rw [decide_eq_true (by omega)] at hin
      have h0 : 0 < s.size := by omega
      have h1 := hz.2
      have h6 := hlen.2
      have hno : ¬ ReadOk s.data.toList := fun h => h.2.2.1 hz
      have hr : readL s.data.toList = -1 := by unfold readL; rw [if_neg hno]
      have hg0 : s.data.toList.getD 0 0 = s[0] := by rw [List.getD_eq_getElem?_getD, data_get s 0 h0]; rfl
      have hb : ((s[0].toNat : Int) == 48) = true := by
        have := hz.1
        rw [hg0] at this
        rw [this]; rfl
      have hd : decide (1 < s.size) = true := decide_eq_true h1
      clear hg0 hno
      have Hin := Lib.hid hin; clear hin
      have Hr := Lib.hid hr; clear hr
      have Hz := Lib.hid hz; clear hz
      go_enter Tryz.func70, Tryz.ntmps70
      go_wp2_with fail
      with_reducible refine (Hin.out).mono ?_
      rintro e w' ⟨rfl, rfl⟩
      go_wp2
      go_ret
      exact ⟨retI Hr.out.symm, rfl⟩
    · exact l1Read_loop s w hlen hz
  · have hin := l1In_any (s.size : Int) 1 6 w
    have hno : ¬ ReadOk s.data.toList := fun h => hlen ⟨h.1, h.2.1⟩
    have hr : readL s.data.toList = -1 := by unfold readL; rw [if_neg hno]
    rw [decide_eq_false (by omega)] at hin
    have Hin := Lib.hid hin; clear hin
    have Hr := Lib.hid hr; clear hr
    go_enter Tryz.func70, Tryz.ntmps70
    go_wp2_with fail
    with_reducible refine (Hin.out).mono ?_
    rintro e w' ⟨rfl, rfl⟩
    go_wp2
    go_ret
    exact ⟨retI Hr.out.symm, rfl⟩
end Go.Proofs.YtbkihnejgcebpaaGreatDoor
