/- Chapter 1: one past, by the model and by the program. No condition. -/
import Derived.Test.YtmfdimdcoeapoaaGreatSteps
import Derived.Lib.Slices
import Derived.IntWalk
namespace Go.Proofs.YtmfdimdcoeapoaaGreat
open Go.RowKit
set_option linter.unusedVariables false
set_option linter.unusedSimpArgs false

theorem first_at (xs : List Int) (x : Int) (h : x ∈ xs) : ∃ k, k < xs.length ∧ xs.getD k 0 = x ∧ (∀ j, j < k → xs.getD j 0 ≠ x) ∧ xs.erase x = xs.eraseIdx k := by
  induction xs with
  | nil => cases h
  | cons a l ih =>
    by_cases ha : a = x
    · subst ha
      exact ⟨0, by simp, rfl, fun j hj => absurd hj (Nat.not_lt_zero _), by rw [List.erase_cons_head]; rfl⟩
    · have hx : x ∈ l := by
        rcases List.mem_cons.1 h with e | e
        · exact absurd e.symm ha
        · exact e
      obtain ⟨k, h1, h2, h3, h4⟩ := ih hx
      refine ⟨k + 1, by simp; exact h1, by simpa using h2, fun j hj => ?_, ?_⟩
      · cases j with
        | zero => simpa using ha
        | succ j => simpa using h3 j (by omega)
      · rw [List.erase_cons_tail (by simpa using ha), h4]; rfl
theorem idx_of (xs : List Int) (x : Int) (h : x ∈ xs) : ∃ k, k < xs.length ∧ xs.getD k 0 = x ∧ Lib.idxOf xs x = k ∧ xs.erase x = xs.eraseIdx k := by
  obtain ⟨k, h1, h2, h3, h4⟩ := first_at xs x h
  have := Lib.idxOf_hit xs xs.length k x h1 (Nat.le_refl _) h2 h3
  rw [List.take_length] at this
  exact ⟨k, h1, h2, this, h4⟩
theorem idx_no (xs : List Int) (x : Int) (h : x ∉ xs) : Lib.idxOf xs x = -1 := by
  have := Lib.idxOf_miss xs xs.length x (fun j hj e => h (getD_mem e hj rfl))
  rwa [List.take_length] at this
theorem eraseIdx_next {xs : List Int} {j n at_ : Nat} {x : Int} (hx : xs.getD j 0 = x) (hj : j < n) (hl : xs.length = n) (h : j ≠ at_) : (xs.take (j + 1)).eraseIdx at_ = (xs.take j).eraseIdx at_ ++ [x] := by
  have hlen : (xs.take j).length = j := by simp; omega
  rw [take_snoc hx hj hl]
  by_cases h' : at_ < j
  · rw [List.eraseIdx_append_of_lt_length (by omega)]
  · rw [List.eraseIdx_of_length_le (by simp; omega), List.eraseIdx_of_length_le (by omega)]
theorem eraseIdx_here {xs : List Int} {j n : Nat} {x : Int} (hx : xs.getD j 0 = x) (hj : j < n) (hl : xs.length = n) : (xs.take (j + 1)).eraseIdx j = (xs.take j).eraseIdx j := by
  have hlen : (xs.take j).length = j := by simp; omega
  rw [take_snoc hx hj hl, List.eraseIdx_append_of_length_le (by omega), List.eraseIdx_of_length_le (l := xs.take j) (by omega), hlen]
  simp

def PastOk (xs : List Int) (x : Int) : Prop := x ∈ xs ∧ (xs.length : Int) - 1 ≤ x
instance (xs : List Int) (x : Int) : Decidable (PastOk xs x) := by unfold PastOk; infer_instance
/-- what pastBy comes to -/
def mPast (xs : List Int) (x : Int) : List Int × Bool := if PastOk xs x then (pastL xs x, true) else ([], false)
theorem mPast_yes {xs : List Int} {x : Int} (h : PastOk xs x) : mPast xs x = (pastL xs x, true) := by unfold mPast; rw [if_pos h]
theorem mPast_no {xs : List Int} {x : Int} (h : ¬ PastOk xs x) : mPast xs x = ([], false) := by unfold mPast; rw [if_neg h]

set_option maxHeartbeats 1600000 in
set_option maxRecDepth 100000 in
theorem beforeStep_any (ao : Option Addr) (n cap : Nat) (xs : List Int) (t : Nat) (w : World) (h : IntsAt w ao n cap xs) (hn : n ≤ t) (ht : t ≤ 1000) (hx : ∀ x ∈ xs, 0 ≤ x ∧ x ≤ 1000) :
    Calls Tryz.prog 67 #[.slice ao n cap, .int .i64 t] w fun e w' => ∃ ao' cap', e = .returned (.slice ao' t cap') ∧ Own w.heap.size w'.heap.size w' ao' t cap' (xs.map (· + 1) ++ List.replicate (t - n) 1) ∧ Below w.heap.size w w' := by
  have hl := h.length
  obtain ⟨i0, hi, hz0, hz1, hz2⟩ := info_parts Tryz.infoInt
  have Hl := Lib.hid hl; clear hl
  have Hx := Lib.hid hx; clear hx
  go_enter Tryz.func67, Tryz.ntmps67
  go_wp2_with (at_make; refine wpList_make_own w rfl _ _ _ rfl w.heap.size 3 i0 _ 1 Tryz.underlying24 hi hz0 hz1 _ _ _ t rfl rfl rfl ?_ ?_ (Nat.le_refl _) ?_)
  · rw [hz2]; omega
  · unfold maxLen; omega
  intro w1 hown hgrow
  have ho : Own w.heap.size w1.heap.size w1 (some ⟨w.heap.size, 0, none⟩) 0 t [] := Own.of hown
  have hb1 : Below w.heap.size w w1 := (Below.refl _ _).grown hgrow (Nat.le_refl _) (fun k hk => by cases hk)
  clear hown hgrow hi hz0 hz1 hz2
  go_wp2
  go_loopw [5, 12] (fun v i wr => ∃ (k : Nat) (a : Option Addr) (c : Nat), k ≤ n ∧ i = .int .i64 k ∧ v = .slice a k c ∧ Own w.heap.size wr.heap.size wr a k c ((xs.take k).map (· + 1)) ∧ Below w.heap.size w wr) (fun _ i _ => n - (intOf i).toNat)
  case atStart => exact ⟨0, _, _, Nat.zero_le _, rfl, rfl, by simpa using ho, hb1⟩
  case round =>
    obtain ⟨k, a, c, hk, rfl, rfl, hown, hb⟩ := hrel
    clear ho hb1
    by_cases hlt : k < n
    · have h1 := h.keep hb
      obtain ⟨b, oo, rfl, hbl, hc⟩ := h1.cell k hlt
      have hck := hc k hlt
      clear hc h1
      generalize hy : xs.getD k 0 = y at hck
      have hym := Hx.out y (getD_mem hy hlt Hl.out)
      have e := take_snoc hy hlt Hl.out
      have E := Lib.hid e; clear e
      have Hy := Lib.hid hy; clear hy
      go_wp2_with (at_builtin; refine wpList_push wr rfl _ _ rfl w.heap.size wr.heap.size a k c _ rfl hown _ rfl (by omega) hb.size ?_)
      intro a3 c3 w3 ho3 hc3
      have hb3 := hb.trans (hown.chgBelow hc3 hb.size)
      clear hown hc3
      go_wp2
      go_roundw
      case rel => exact ⟨k + 1, a3, c3, by omega, by go_num, rfl, by rw [E.out, List.map_append, List.map_take]; exact ho3, hb3⟩
      case measure => simp [intOf]; omega
    · obtain rfl : n = k := by omega
      rw [take_all Hl.out] at hown
      go_wp2
      go_loopw [5] (fun v wr => ∃ (p : Nat) (a : Option Addr) (c : Nat), n ≤ p ∧ p ≤ t ∧ v = .slice a p c ∧ Own w.heap.size wr.heap.size wr a p c (xs.map (· + 1) ++ List.replicate (p - n) 1) ∧ Below w.heap.size w wr) (fun v _ => match v with | .slice _ p _ => 2000 - p | _ => 0)
      case atStart => exact ⟨n, a, c, Nat.le_refl _, hn, rfl, by simpa using hown, hb⟩
      case round =>
        obtain ⟨p, a2, c2, hp1, hp2, rfl, hown2, hb2⟩ := hrel
        clear hown hb
        by_cases hlt2 : p < t
        · go_wp2_with (at_builtin; refine wpList_push wr rfl _ _ rfl w.heap.size wr.heap.size a2 p c2 _ rfl hown2 _ rfl (by omega) hb2.size ?_)
          intro a3 c3 w3 ho3 hc3
          have hb3 := hb2.trans (hown2.chgBelow hc3 hb2.size)
          clear hown2 hc3
          go_wp2
          go_roundw
          case rel => exact ⟨p + 1, a3, c3, by omega, by omega, rfl, by rw [show p + 1 - n = (p - n) + 1 by omega, List.replicate_succ']; exact ho3, hb3⟩
          case measure => simp; omega
        · obtain rfl : p = t := by omega
          go_wp2
          go_ret
          exact ⟨_, _, rfl, hown2, hb2⟩

set_option maxHeartbeats 1600000 in
set_option maxRecDepth 100000 in
theorem pastBy_any (ao : Option Addr) (n cap : Nat) (xs : List Int) (x : Int) (w : World) (h : IntsAt w ao n cap xs) (hg : Good xs) :
    Calls Tryz.prog 52 #[.slice ao n cap, .int .i64 x] w fun e w' => ∃ ao' n' cap', e = .returned (.tuple #[.slice ao' n' cap', .bool (mPast xs x).2]) ∧ Own w.heap.size w'.heap.size w' ao' n' cap' (mPast xs x).1 ∧ Below w.heap.size w w' := by
  have hl := h.length
  have hlen := hg.len
  have hn28 : (n : Int) ≤ 28 := by omega
  by_cases hx : x ∈ xs
  · have hxm := hg.mem hx
    obtain ⟨q, hq1, hq2, hq3, hq4⟩ := idx_of xs x hx
    have hcon := index_any ao n cap xs x w h
    rw [hq3] at hcon
    by_cases hle : (n : Int) - 1 ≤ x
    · have hm := mPast_yes (xs := xs) (x := x) ⟨hx, by omega⟩
      have hd1 : decide ((q : Int) < 0) = false := by simp
      have hd2 : decide (x < (n : Int) - 1) = false := by simp; omega
      have hlo : (xs.erase x).length = n - 1 := by rw [List.length_erase_of_mem hx, hl]
      obtain ⟨a2, hsl2, hi2⟩ := slUpto w xs h q (by omega) .i64
      obtain ⟨a3, hsl3, hi3⟩ := slFrom w xs h (q + 1) (by omega) .i64
      have eq1 : ((q + 1 : Nat) : Int) = (q : Int) + 1 := by omega
      rw [eq1] at hsl3
      have hwq : IntKind.i64.wrap ((q : Int) + 1) = (q : Int) + 1 := IntWalk.i64_in _ (by omega)
      have hr : RowsAt (w.alloc (.cells #[.slice a2 q cap, .slice a3 (n - (q + 1)) (cap - (q + 1))] 24)).drew (some ⟨w.heap.size, 0, none⟩) 2 2 [xs.take q, xs.drop (q + 1)] := (rowsAt_pair hi2 hi3).drewN 1
      have hfl : [xs.take q, xs.drop (q + 1)].flatten = xs.erase x := by rw [hq4, List.eraseIdx_eq_take_drop_succ]; simp
      have hcc := concat_any _ _ _ _ _ hr (by rw [hfl, hlo]; omega)
      rw [hfl] at hcc
      have hba : Below w.heap.size w (w.alloc (.cells #[.slice a2 q cap, .slice a3 (n - (q + 1)) (cap - (q + 1))] 24)).drew := belowDrewN (belowAlloc w _) 1
      obtain ⟨X, rfl⟩ := Int.eq_ofNat_of_zero_le (show 0 ≤ x by omega)
      have hbs := fun a c W (hh : IntsAt W a (n - 1) c (xs.erase (X : Int))) => beforeStep_any a (n - 1) c _ X W hh (by omega) (by omega) (fun y hy => by have := hg.mem (List.mem_of_mem_erase hy); omega)
      clear hr hi2 hi3 hfl eq1
      have Hcon := Lib.hid hcon; clear hcon
      have Hm := Lib.hid hm; clear hm
      have Hq2 := Lib.hid hq2; clear hq2
      have Hq3 := Lib.hid hq3; clear hq3
      have Hq4 := Lib.hid hq4; clear hq4
      have Hl := Lib.hid hl; clear hl
      have Hg := Lib.hid hg; clear hg
      have Hx := Lib.hid hx; clear hx
      have Hcc := Lib.hid hcc; clear hcc
      have Hba := Lib.hid hba; clear hba
      have Hlo := Lib.hid hlo; clear hlo
      have Hbs := Lib.hid hbs; clear hbs
      go_enter Tryz.func52, Tryz.ntmps52
      go_wp2_with fail
      with_reducible refine (Hcon.out).mono ?_
      rintro e w' ⟨rfl, rfl⟩
      go_wp2_with fail
      go_region_law (first | (go_simp; with_reducible refine (Hcc.out).mono ?_; rintro e w2 ⟨a4, n4, c4, rfl, ho4, hb4⟩; obtain rfl : n4 = n - 1 := (by have := ho4.length; rw [Hlo.out] at this; omega)) | (go_simp; with_reducible refine (Hbs.out a4 c4 w2 ho4.at).mono ?_; rintro e w3 ⟨a5, c5, rfl, ho5, hb5⟩))
      all_goals
        go_wp2
        go_ret2
        rw [Hm.out]
        have hs := Hba.out.size
        have hs4 := hb4.size
        refine ⟨_, _, _, rfl, ?_, belowTrans (belowTrans Hba.out hb4 (Nat.le_refl _)) hb5 (Nat.le_refl _)⟩
        unfold pastL
        rw [Hl.out]
        exact ho5.mono (by omega) (Nat.le_refl _)
    · have hm := mPast_no (xs := xs) (x := x) (fun hh => hle (by have := hh.2; omega))
      have hd2 : decide (x < (n : Int) - 1) = true := by simp; omega
      have Hcon := Lib.hid hcon; clear hcon
      have Hm := Lib.hid hm; clear hm
      have Hq2 := Lib.hid hq2; clear hq2
      have Hq3 := Lib.hid hq3; clear hq3
      have Hq4 := Lib.hid hq4; clear hq4
      have Hl := Lib.hid hl; clear hl
      have Hg := Lib.hid hg; clear hg
      have Hx := Lib.hid hx; clear hx
      go_enter Tryz.func52, Tryz.ntmps52
      go_wp2_with fail
      with_reducible refine (Hcon.out).mono ?_
      rintro e w' ⟨rfl, rfl⟩
      go_wp2
      go_ret2
      rw [Hm.out]
      exact ⟨none, 0, 0, rfl, Own.nil _ _ _, Below.refl _ _⟩
  · have hm := mPast_no (xs := xs) (x := x) (fun hh => hx hh.1)
    have hcon := index_any ao n cap xs x w h
    rw [idx_no xs x hx] at hcon
    have Hcon := Lib.hid hcon; clear hcon
    have Hm := Lib.hid hm; clear hm
    have Hx := Lib.hid hx; clear hx
    have Hl := Lib.hid hl; clear hl
    have Hg := Lib.hid hg; clear hg
    go_enter Tryz.func52, Tryz.ntmps52
    go_wp2_with fail
    with_reducible refine (Hcon.out).mono ?_
    rintro e w' ⟨rfl, rfl⟩
    go_wp2
    go_ret2
    rw [Hm.out]
    exact ⟨none, 0, 0, rfl, Own.nil _ _ _, Below.refl _ _⟩

/-! ### The model's -/
theorem l1Has_any (ao : Option Addr) (n cap : Nat) (xs : List Int) (x : Int) (w : World) (h : IntsAt w ao n cap xs) :
    Calls Tryz.prog 54 #[.slice ao n cap, .int .i64 x] w fun e w' => e = .returned (.bool (decide (x ∈ xs))) ∧ w = w' := by
  have hn := h.lenInt
  go_enter Tryz.func54, Tryz.ntmps54
  go_wp2
  go_loop [9] (fun i => ∃ k : Nat, k ≤ n ∧ i = .int .i64 k ∧ x ∉ xs.take k) (fun i => n - (intOf i).toNat)
  case atStart => exact ⟨0, Nat.zero_le _, rfl, by simp⟩
  case round =>
    obtain ⟨k, hk, rfl, hno⟩ := hrel
    have Hno := Lib.hid hno; clear hno
    by_cases hlt : k < n
    · obtain ⟨b, o, rfl, hb, hc⟩ := h.cell k hlt
      have hck := hc k hlt
      clear hc
      generalize hx : xs.getD k 0 = y at hck
      have Hx := Lib.hid hx; clear hx
      have Hl := Lib.hid h.length; clear h
      by_cases hxy : y = x
      · subst hxy
        have hd : decide (y ∈ xs) = true := decide_eq_true (getD_mem Hx.out hlt Hl.out)
        have Hd := Lib.hid hd; clear hd
        go_wp2
        go_ret
        exact ⟨retB Hd.out.symm, rfl⟩
      · have hne : (y == x) = false := by simpa using hxy
        go_wp2
        go_round
        case rel =>
          refine ⟨k + 1, by omega, by go_num, fun hm => ?_⟩
          rw [take_snoc Hx.out hlt Hl.out] at hm
          rcases List.mem_append.1 hm with h' | h'
          · exact Hno.out h'
          · exact hxy (List.mem_singleton.1 h').symm
        case measure => simp [intOf]; omega
    · go_wp2
      go_ret
      obtain rfl : n = k := by omega
      have hh := Hno.out
      rw [take_all h.length] at hh
      exact ⟨retB (decide_eq_false hh).symm, rfl⟩

set_option maxHeartbeats 1600000 in
set_option maxRecDepth 100000 in
theorem piPast_any (ao : Option Addr) (n cap : Nat) (xs : List Int) (x : Int) (w : World) (h : IntsAt w ao n cap xs) (hg : Good xs) (hok : PastOk xs x) :
    Calls Tryz.prog 61 #[.slice ao n cap, .int .i64 x] w fun e w' => ∃ ao' n' cap', e = .returned (.slice ao' n' cap') ∧ Own w.heap.size w'.heap.size w' ao' n' cap' (pastL xs x) ∧ Below w.heap.size w w' := by
  have hl := h.length
  have hlen := hg.len
  have hn28 : (n : Int) ≤ 28 := by omega
  have hxm := hg.mem hok.1
  have hle := hok.2
  rw [hl] at hle
  have Hl := Lib.hid hl; clear hl
  have Hg := Lib.hid hg; clear hg
  have Hok := Lib.hid hok; clear hok
  go_enter Tryz.func61, Tryz.ntmps61
  go_wp2
  go_loopw [5, 6, 12] (fun v t i wr => ∃ (k : Nat) (a : Option Addr) (p c : Nat), k ≤ n ∧ i = .int .i64 k ∧ t = .bool (decide (x ∈ xs.take k)) ∧ v = .slice a p c ∧ p ≤ k ∧ Own w.heap.size wr.heap.size wr a p c (((xs.take k).erase x).map (· + 1)) ∧ Below w.heap.size w wr) (fun _ _ i _ => n - (intOf i).toNat)
  case atStart => exact ⟨0, none, 0, 0, Nat.zero_le _, rfl, by simp, rfl, Nat.le_refl _, by simpa using Own.nil _ _ _, Below.refl _ _⟩
  case round =>
    obtain ⟨k, a, p, c, hk, rfl, rfl, rfl, hpk, hown, hb⟩ := hrel
    by_cases hlt : k < n
    · have h1 := h.keep hb
      obtain ⟨b, oo, rfl, hbl, hc⟩ := h1.cell k hlt
      have hck := hc k hlt
      clear hc h1
      generalize hy : xs.getD k 0 = y at hck
      have hym := Hg.out.mem (getD_mem hy hlt Hl.out)
      have e := take_snoc hy hlt Hl.out
      by_cases hyx : y = x ∧ x ∉ xs.take k
      · obtain ⟨rfl, hno⟩ := hyx
        have e2 : (xs.take (k + 1)).erase y = (xs.take k).erase y := by rw [e, List.erase_append_right _ hno, List.erase_of_not_mem hno]; simp
        rw [← e2] at hown
        have e3 : decide (y ∈ xs.take (k + 1)) = true := decide_eq_true (by rw [e]; simp)
        have hd : decide (y ∈ xs.take k) = false := decide_eq_false hno
        have hself : (y == y) = true := by simp
        have E := Lib.hid e; clear e
        have E2 := Lib.hid e2; clear e2
        have E3 := Lib.hid e3; clear e3
        have Hno := Lib.hid hno; clear hno
        have Hy := Lib.hid hy; clear hy
        rw [hd]
        go_wp2
        go_roundw
        case rel => exact ⟨k + 1, a, p, c, by omega, by go_num, by rw [E3.out], rfl, by omega, hown, hb⟩
        case measure => simp [intOf]; omega
      · have e2 : (xs.take (k + 1)).erase x = (xs.take k).erase x ++ [y] := by
          rw [e]
          by_cases hm : x ∈ xs.take k
          · rw [List.erase_append_left _ hm]
          · have hxy : ¬ y = x := fun e => hyx ⟨e, hm⟩
            rw [List.erase_append_right _ hm, List.erase_of_not_mem hm, List.erase_cons_tail (by simpa using hxy)]
            rfl
        have e3 : decide (x ∈ xs.take (k + 1)) = decide (x ∈ xs.take k) := by
          rw [decide_eq_decide, e]
          constructor
          · intro hm
            rcases List.mem_append.1 hm with h' | h'
            · exact h'
            · by_cases hm : x ∈ xs.take k
              · exact hm
              · exact absurd ⟨(List.mem_singleton.1 h').symm, hm⟩ hyx
          · exact fun hm => List.mem_append.2 (.inl hm)
        by_cases hxy : y = x
        · have hm : x ∈ xs.take k := by
            by_cases hm : x ∈ xs.take k
            · exact hm
            · exact absurd ⟨hxy, hm⟩ hyx
          have hd : decide (x ∈ xs.take k) = true := decide_eq_true hm
          rw [hd] at e3
          have hself : (y == x) = true := by simpa using hxy
          have E := Lib.hid e; clear e
          have E2 := Lib.hid e2; clear e2
          have E3 := Lib.hid e3; clear e3
          have Hm := Lib.hid hm; clear hm
          have Hy := Lib.hid hy; clear hy
          have Hyx := Lib.hid hyx; clear hyx
          have Hxy := Lib.hid hxy; clear hxy
          rw [hd]
          clear hd
          go_wp2_with (at_builtin; refine wpList_push wr rfl _ _ rfl w.heap.size wr.heap.size a p c _ rfl hown _ rfl (by omega) hb.size ?_)
          intro a3 c3 w3 ho3 hc3
          have hb3 := hb.trans (hown.chgBelow hc3 hb.size)
          clear hown hc3
          go_wp2
          go_roundw
          case rel => exact ⟨k + 1, a3, p + 1, c3, by omega, by go_num, by rw [E3.out], rfl, by omega, by rw [E2.out, List.map_append]; exact ho3, hb3⟩
          case measure => simp [intOf]; omega
        · have hself : (y == x) = false := by simpa using hxy
          have E := Lib.hid e; clear e
          have E2 := Lib.hid e2; clear e2
          have E3 := Lib.hid e3; clear e3
          have Hy := Lib.hid hy; clear hy
          have Hyx := Lib.hid hyx; clear hyx
          have Hxy := Lib.hid hxy; clear hxy
          go_wp2_with (at_builtin; refine wpList_push wr rfl _ _ rfl w.heap.size wr.heap.size a p c _ rfl hown _ rfl (by omega) hb.size ?_)
          intro a3 c3 w3 ho3 hc3
          have hb3 := hb.trans (hown.chgBelow hc3 hb.size)
          clear hown hc3
          go_wp2
          go_roundw
          case rel => exact ⟨k + 1, a3, p + 1, c3, by omega, by go_num, by rw [E3.out], rfl, by omega, by rw [E2.out, List.map_append]; exact ho3, hb3⟩
          case measure => simp [intOf]; omega
    · obtain rfl : n = k := by omega
      rw [take_all Hl.out] at hown
      have hpl := hown.length
      rw [List.length_map, List.length_erase_of_mem Hok.out.1, Hl.out] at hpl
      subst hpl
      have hn1 : 1 ≤ n := by
        have := List.length_pos_of_mem Hok.out.1
        rw [Hl.out] at this
        exact this
      have ecast : ((n - 1 : Nat) : Int) = (n : Int) - 1 := by omega
      have hmem : decide (x ∈ xs.take n) = true := decide_eq_true (by rw [take_all Hl.out]; exact Hok.out.1)
      have Ecast := Lib.hid ecast; clear ecast
      have Hmem := Lib.hid hmem; clear hmem
      go_wp2
      go_loopw [5, 9] (fun v i wr => ∃ (p : Nat) (a : Option Addr) (c : Nat), n - 1 ≤ p ∧ (p : Int) ≤ x ∧ i = .int .i64 (x - p) ∧ v = .slice a p c ∧ Own w.heap.size wr.heap.size wr a p c ((xs.erase x).map (· + 1) ++ List.replicate (p - (n - 1)) 1) ∧ Below w.heap.size w wr) (fun _ i _ => (intOf i).toNat)
      case atStart => exact ⟨n - 1, a, c, Nat.le_refl _, by omega, rfl, rfl, by simpa using hown, hb⟩
      case round =>
        obtain ⟨p, a2, c2, hp1, hp2, rfl, rfl, hown2, hb2⟩ := hrel
        clear hown hb
        by_cases hlt2 : (p : Int) < x
        · go_wp2_with (at_builtin; refine wpList_push wr rfl _ _ rfl w.heap.size wr.heap.size a2 p c2 _ rfl hown2 _ rfl (by omega) hb2.size ?_)
          intro a3 c3 w3 ho3 hc3
          have hb3 := hb2.trans (hown2.chgBelow hc3 hb2.size)
          clear hown2 hc3
          go_wp2
          go_roundw
          case rel => exact ⟨p + 1, a3, c3, by omega, by omega, valI (by omega), rfl, by rw [show p + 1 - (n - 1) = (p - (n - 1)) + 1 by omega, List.replicate_succ']; exact ho3, hb3⟩
          case measure => simp [intOf]; omega
        · go_wp2
          go_ret
          have e5 : p - (n - 1) = x.toNat - (n - 1) := by omega
          rw [e5] at hown2
          refine ⟨_, _, _, rfl, ?_, hb2⟩
          unfold pastL
          rw [Hl.out]
          exact hown2

def mPastBy (xs : List Int) (x : Int) : List Int × Bool := if goodB xs = true then mPast xs x else ([], false)
theorem mPastBy_yes {xs : List Int} {x : Int} (h : goodB xs = true) : mPastBy xs x = mPast xs x := by unfold mPastBy; rw [if_pos h]
theorem mPastBy_no {xs : List Int} {x : Int} (h : goodB xs = false) : mPastBy xs x = ([], false) := by unfold mPastBy; rw [if_neg (by rw [h]; simp)]
theorem mPast_bound {xs : List Int} (hg : Good xs) (x : Int) : (mPast xs x).1.length ≤ 28 := by
  unfold mPast
  split
  · next h => exact (past_good hg x h.1 h.2).len
  · simp
theorem mPastBy_bound (xs : List Int) (x : Int) : (mPastBy xs x).1.length ≤ 1048576 := by
  cases h : goodB xs
  · rw [mPastBy_no h]; simp
  · rw [mPastBy_yes h]; have := mPast_bound (good_iff.1 h) x; omega

end Go.Proofs.YtmfdimdcoeapoaaGreat
