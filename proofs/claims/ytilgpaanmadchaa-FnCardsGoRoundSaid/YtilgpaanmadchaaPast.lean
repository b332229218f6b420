/- Chapter 1: one past, by the model and by the program. No condition. -/
import Derived.Test.YtilgpaanmadchaaSteps
import Derived.Lib.Slices
namespace Go.Proofs.Ytilgpaanmadchaa
open Go.RowKit
set_option linter.unusedVariables false
set_option linter.unusedSimpArgs false

theorem first_at (xs : List Int) (x : Int) (h : x ∈ xs) : ∃ k, k < xs.length ∧ xs.getD k 0 = x ∧ (∀ j, j < k → xs.getD j 0 ≠ x) ∧ xs.erase x = xs.eraseIdx k := by
  induction xs with
  | nil => cases h
  | cons a l ih =>
    by_cases ha : a = x
    · subst ha
      exact ⟨0, by simp, rfl, fun j hj => absurd hj (Nat.not_lt_zero _), by rw [List.erase_cons_head]; rfl⟩
    · have hx : x ∈ l := by
        rcases List.mem_cons.1 h with e | e
        · exact absurd e.symm ha
        · exact e
      obtain ⟨k, h1, h2, h3, h4⟩ := ih hx
      refine ⟨k + 1, by simp; exact h1, by simpa using h2, fun j hj => ?_, ?_⟩
      · cases j with
        | zero => simpa using ha
        | succ j => simpa using h3 j (by omega)
      · rw [List.erase_cons_tail (by simpa using ha), h4]; rfl
theorem idx_of (xs : List Int) (x : Int) (h : x ∈ xs) : ∃ k, k < xs.length ∧ xs.getD k 0 = x ∧ Lib.idxOf xs x = k ∧ xs.erase x = xs.eraseIdx k := by
  obtain ⟨k, h1, h2, h3, h4⟩ := first_at xs x h
  have := Lib.idxOf_hit xs xs.length k x h1 (Nat.le_refl _) h2 h3
  rw [List.take_length] at this
  exact ⟨k, h1, h2, this, h4⟩
theorem idx_no (xs : List Int) (x : Int) (h : x ∉ xs) : Lib.idxOf xs x = -1 := by
  have := Lib.idxOf_miss xs xs.length x (fun j hj e => h (getD_mem e hj rfl))
  rwa [List.take_length] at this
theorem eraseIdx_next {xs : List Int} {j n at_ : Nat} {x : Int} (hx : xs.getD j 0 = x) (hj : j < n) (hl : xs.length = n) (h : j ≠ at_) : (xs.take (j + 1)).eraseIdx at_ = (xs.take j).eraseIdx at_ ++ [x] := by
  have hlen : (xs.take j).length = j := by simp; omega
  rw [take_snoc hx hj hl]
  by_cases h' : at_ < j
  · rw [List.eraseIdx_append_of_lt_length (by omega)]
  · rw [List.eraseIdx_of_length_le (by simp; omega), List.eraseIdx_of_length_le (by omega)]
theorem eraseIdx_here {xs : List Int} {j n : Nat} {x : Int} (hx : xs.getD j 0 = x) (hj : j < n) (hl : xs.length = n) : (xs.take (j + 1)).eraseIdx j = (xs.take j).eraseIdx j := by
  have hlen : (xs.take j).length = j := by simp; omega
  rw [take_snoc hx hj hl, List.eraseIdx_append_of_length_le (by omega), List.eraseIdx_of_length_le (l := xs.take j) (by omega), hlen]
  simp

def PastOk (xs : List Int) (x : Int) : Prop := x ∈ xs ∧ (xs.length : Int) - 1 ≤ x
instance (xs : List Int) (x : Int) : Decidable (PastOk xs x) := by unfold PastOk; infer_instance
/-- what pastBy comes to -/
def mPast (xs : List Int) (x : Int) : List Int × Bool := if PastOk xs x then (pastL xs x, true) else ([], false)
theorem mPast_yes {xs : List Int} {x : Int} (h : PastOk xs x) : mPast xs x = (pastL xs x, true) := by unfold mPast; rw [if_pos h]
theorem mPast_no {xs : List Int} {x : Int} (h : ¬ PastOk xs x) : mPast xs x = ([], false) := by unfold mPast; rw [if_neg h]

set_option maxHeartbeats 1600000 in
set_option maxRecDepth 100000 in
theorem pastBy_any (ao : Option Addr) (n cap : Nat) (xs : List Int) (x : Int) (w : World) (h : IntsAt w ao n cap xs) (hg : Good xs) :
    Calls Try.prog 174 #[.slice ao n cap, .int .i64 x] w fun e w' => ∃ ao' n' cap', e = .returned (.tuple #[.slice ao' n' cap', .bool (mPast xs x).2]) ∧ Own w.heap.size w'.heap.size w' ao' n' cap' (mPast xs x).1 ∧ Below w.heap.size w w' := by
  have hl := h.length
  have hlen := hg.len
  have hn28 : (n : Int) ≤ 28 := by omega
  by_cases hx : x ∈ xs
  · have hxm := hg.mem hx
    obtain ⟨q, hq1, hq2, hq3, hq4⟩ := idx_of xs x hx
    have hcon := index_any ao n cap xs x w h
    rw [hq3] at hcon
    by_cases hle : (n : Int) - 1 ≤ x
    · have hm := mPast_yes (xs := xs) (x := x) ⟨hx, by omega⟩
      have hd1 : decide ((q : Int) < 0) = false := by simp
      have hd2 : decide (x < (n : Int) - 1) = false := by simp; omega
      obtain ⟨i0, hi, hz0, hz1, hz2⟩ := info_parts Try.infoInt
      have hxc : x = ((x.toNat : Nat) : Int) := by omega
      have Hcon := Lib.hid hcon; clear hcon
      have Hm := Lib.hid hm; clear hm
      have Hq2 := Lib.hid hq2; clear hq2
      have Hq3 := Lib.hid hq3; clear hq3
      have Hq4 := Lib.hid hq4; clear hq4
      have Hl := Lib.hid hl; clear hl
      have Hg := Lib.hid hg; clear hg
      have Hx := Lib.hid hx; clear hx
      have Hxc := Lib.hid hxc; clear hxc
      go_enter Try.func174, Try.ntmps174
      go_wp2_with fail
      with_reducible refine (Hcon.out).mono ?_
      rintro e w' ⟨rfl, rfl⟩
      go_wp2_with (at_make; refine wpList_make_own w rfl _ _ _ rfl w.heap.size 3 i0 _ 1 Try.underlying24 hi hz0 hz1 _ _ _ x.toNat rfl rfl Hxc.out ?_ ?_ (Nat.le_refl _) ?_)
      · rw [hz2]; omega
      · unfold maxLen; omega
      intro w1 hown hgrow
      have ho : Own w.heap.size w1.heap.size w1 (some ⟨w.heap.size, 0, none⟩) 0 x.toNat [] := Own.of hown
      have hb1 : Below w.heap.size w w1 := (Below.refl _ _).grown hgrow (Nat.le_refl _) (fun k hk => by cases hk)
      clear hown hgrow hi hz0 hz1 hz2
      have Hd1 := Lib.hid hd1; clear hd1
      have Hd2 := Lib.hid hd2; clear hd2
      go_wp2
      go_loopw [7, 26] (fun v i wr => ∃ (k : Nat) (a : Option Addr) (p c : Nat), k ≤ n ∧ i = .int .i64 k ∧ v = .slice a p c ∧ p ≤ k ∧ Own w.heap.size wr.heap.size wr a p c (((xs.take k).eraseIdx q).map (· + 1)) ∧ Below w.heap.size w wr) (fun _ i _ => n - (intOf i).toNat)
      case atStart => exact ⟨0, _, 0, _, Nat.zero_le _, rfl, rfl, Nat.le_refl _, by simpa using ho, hb1⟩
      case round =>
        obtain ⟨k, a, p, c, hk, rfl, rfl, hpk, hown, hb⟩ := hrel
        clear ho hb1
        by_cases hlt : k < n
        · have h1 := h.keep hb
          obtain ⟨b, oo, rfl, hbl, hc⟩ := h1.cell k hlt
          have hck := hc k hlt
          clear hc h1
          generalize hy : xs.getD k 0 = y at hck
          have hym := Hg.out.mem (getD_mem hy hlt Hl.out)
          by_cases hkq : k = q
          · have e := eraseIdx_here hy hlt Hl.out
            rw [hkq] at e
            rw [hkq, ← e] at hown
            have hne : ((k : Int) != (q : Int)) = false := by simp; omega
            have E := Lib.hid e; clear e
            have Hy := Lib.hid hy; clear hy
            have Hkq := Lib.hid hkq; clear hkq
            go_wp2
            go_roundw
            case rel => exact ⟨k + 1, a, p, c, by omega, by go_num, rfl, by omega, by have := Hkq.out; rw [this]; exact hown, hb⟩
            case measure => simp [intOf]; omega
          · have e := eraseIdx_next hy hlt Hl.out hkq
            have hne : ((k : Int) != (q : Int)) = true := by simp; omega
            have E := Lib.hid e; clear e
            have Hy := Lib.hid hy; clear hy
            have Hkq := Lib.hid hkq; clear hkq
            go_wp2_with (at_builtin; refine wpList_push wr rfl _ _ rfl w.heap.size wr.heap.size a p c _ rfl hown _ rfl (by omega) hb.size ?_)
            intro a3 c3 w3 ho3 hc3
            have hb3 := hb.trans (hown.chgBelow hc3 hb.size)
            clear hown hc3
            go_wp2
            go_roundw
            case rel => exact ⟨k + 1, a3, p + 1, c3, by omega, by go_num, rfl, by omega, by rw [E.out, List.map_append]; exact ho3, hb3⟩
            case measure => simp [intOf]; omega
        · obtain rfl : n = k := by omega
          have e4 := Hq4.out
          rw [take_all Hl.out, ← e4] at hown
          have hpl := hown.length
          rw [List.length_map, List.length_erase_of_mem Hx.out, Hl.out] at hpl
          subst hpl
          have hn1 : 1 ≤ n := by have := hq1; have := Hl.out; omega
          have E4 := Lib.hid e4; clear e4
          go_wp2
          go_loopw [7] (fun v wr => ∃ (p : Nat) (a : Option Addr) (c : Nat), n - 1 ≤ p ∧ (p : Int) ≤ x ∧ v = .slice a p c ∧ Own w.heap.size wr.heap.size wr a p c ((xs.erase x).map (· + 1) ++ List.replicate (p - (n - 1)) 1) ∧ Below w.heap.size w wr) (fun v _ => match v with | .slice _ p _ => 100 - p | _ => 0)
          case atStart => exact ⟨n - 1, a, c, Nat.le_refl _, by omega, rfl, by simpa using hown, hb⟩
          case round =>
            obtain ⟨p, a2, c2, hp1, hp2, rfl, hown2, hb2⟩ := hrel
            clear hown hb
            by_cases hlt2 : (p : Int) < x
            · go_wp2_with (at_builtin; refine wpList_push wr rfl _ _ rfl w.heap.size wr.heap.size a2 p c2 _ rfl hown2 _ rfl (by omega) hb2.size ?_)
              intro a3 c3 w3 ho3 hc3
              have hb3 := hb2.trans (hown2.chgBelow hc3 hb2.size)
              clear hown2 hc3
              go_wp2
              go_roundw
              case rel => exact ⟨p + 1, a3, c3, by omega, by omega, rfl, by rw [show p + 1 - (n - 1) = (p - (n - 1)) + 1 by omega, List.replicate_succ']; exact ho3, hb3⟩
              case measure => simp; omega
            · go_wp2
              go_ret2
              rw [Hm.out]
              have e5 : p - (n - 1) = x.toNat - (n - 1) := by omega
              rw [e5] at hown2
              refine ⟨_, _, _, rfl, ?_, hb2⟩
              unfold pastL
              rw [Hl.out]
              exact hown2
    · have hm := mPast_no (xs := xs) (x := x) (fun hh => hle (by have := hh.2; omega))
      have hd2 : decide (x < (n : Int) - 1) = true := by simp; omega
      have Hcon := Lib.hid hcon; clear hcon
      have Hm := Lib.hid hm; clear hm
      have Hq2 := Lib.hid hq2; clear hq2
      have Hq3 := Lib.hid hq3; clear hq3
      have Hq4 := Lib.hid hq4; clear hq4
      have Hl := Lib.hid hl; clear hl
      have Hg := Lib.hid hg; clear hg
      have Hx := Lib.hid hx; clear hx
      go_enter Try.func174, Try.ntmps174
      go_wp2_with fail
      with_reducible refine (Hcon.out).mono ?_
      rintro e w' ⟨rfl, rfl⟩
      go_wp2
      go_ret2
      rw [Hm.out]
      exact ⟨none, 0, 0, rfl, Own.nil _ _ _, Below.refl _ _⟩
  · have hm := mPast_no (xs := xs) (x := x) (fun hh => hx hh.1)
    have hcon := index_any ao n cap xs x w h
    rw [idx_no xs x hx] at hcon
    have Hcon := Lib.hid hcon; clear hcon
    have Hm := Lib.hid hm; clear hm
    have Hx := Lib.hid hx; clear hx
    have Hl := Lib.hid hl; clear hl
    have Hg := Lib.hid hg; clear hg
    go_enter Try.func174, Try.ntmps174
    go_wp2_with fail
    with_reducible refine (Hcon.out).mono ?_
    rintro e w' ⟨rfl, rfl⟩
    go_wp2
    go_ret2
    rw [Hm.out]
    exact ⟨none, 0, 0, rfl, Own.nil _ _ _, Below.refl _ _⟩

/-! ### The model's -/
theorem l1Has_any (ao : Option Addr) (n cap : Nat) (xs : List Int) (x : Int) (w : World) (h : IntsAt w ao n cap xs) :
    Calls Try.prog 152 #[.slice ao n cap, .int .i64 x] w fun e w' => e = .returned (.bool (decide (x ∈ xs))) ∧ w = w' := by
  have hn := h.lenInt
  go_enter Try.func152, Try.ntmps152
  go_wp2
  go_loop [9] (fun i => ∃ k : Nat, k ≤ n ∧ i = .int .i64 k ∧ x ∉ xs.take k) (fun i => n - (intOf i).toNat)
  case atStart => exact ⟨0, Nat.zero_le _, rfl, by simp⟩
  case round =>
    obtain ⟨k, hk, rfl, hno⟩ := hrel
    have Hno := Lib.hid hno; clear hno
    by_cases hlt : k < n
    · obtain ⟨b, o, rfl, hb, hc⟩ := h.cell k hlt
      have hck := hc k hlt
      clear hc
      generalize hx : xs.getD k 0 = y at hck
      have Hx := Lib.hid hx; clear hx
      have Hl := Lib.hid h.length; clear h
      by_cases hxy : y = x
      · subst hxy
        have hd : decide (y ∈ xs) = true := decide_eq_true (getD_mem Hx.out hlt Hl.out)
        have Hd := Lib.hid hd; clear hd
        go_wp2
        go_ret
        exact ⟨retB Hd.out.symm, rfl⟩
      · have hne : (y == x) = false := by simpa using hxy
        go_wp2
        go_round
        case rel =>
          refine ⟨k + 1, by omega, by go_num, fun hm => ?_⟩
          rw [take_snoc Hx.out hlt Hl.out] at hm
          rcases List.mem_append.1 hm with h' | h'
          · exact Hno.out h'
          · exact hxy (List.mem_singleton.1 h').symm
        case measure => simp [intOf]; omega
    · go_wp2
      go_ret
      obtain rfl : n = k := by omega
      have hh := Hno.out
      rw [take_all h.length] at hh
      exact ⟨retB (decide_eq_false hh).symm, rfl⟩

def mPastBy (xs : List Int) (x : Int) : List Int × Bool := if goodB xs = true then mPast xs x else ([], false)
theorem mPastBy_yes {xs : List Int} {x : Int} (h : goodB xs = true) : mPastBy xs x = mPast xs x := by unfold mPastBy; rw [if_pos h]
theorem mPastBy_no {xs : List Int} {x : Int} (h : goodB xs = false) : mPastBy xs x = ([], false) := by unfold mPastBy; rw [if_neg (by rw [h]; simp)]
theorem mPast_bound {xs : List Int} (hg : Good xs) (x : Int) : (mPast xs x).1.length ≤ 28 := by
  unfold mPast
  split
  · next h => exact (past_good hg x h.1 h.2).len
  · simp
theorem mPastBy_bound (xs : List Int) (x : Int) : (mPastBy xs x).1.length ≤ 1048576 := by
  cases h : goodB xs
  · rw [mPastBy_no h]; simp
  · rw [mPastBy_yes h]; have := mPast_bound (good_iff.1 h) x; omega

end Go.Proofs.Ytilgpaanmadchaa
