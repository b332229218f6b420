/- Chapter 1, first contracts: IsPiles, CardsOf and what they call. No condition. -/
import Derived.Test.YtimmjimeldejjaaGreatDoorBase
import Derived.Test.YtimmjimeldejjaaGreatDoorGa
namespace Go.Proofs.YtimmjimeldejjaaGreatDoor
open Go.RowKit
set_option linter.unusedVariables false
set_option linter.unusedSimpArgs false

set_option maxHeartbeats 800000 in
theorem isRow_any (ao : Option Addr) (n cap : Nat) (xs : List Int) (w : World) (h : IntsAt w ao n cap xs) :
    Calls Tryz.prog 43 #[.slice ao n cap] w fun e w' => e = .returned (.bool (rowB xs)) ∧ w = w' := by
  have hn := h.lenInt
  go_enter Tryz.func43, Tryz.ntmps43
  go_wp2
  go_loop [3, 8] (fun s i => ∃ k : Nat, ∃ t : Int, k ≤ n ∧ i = .int .i64 k ∧ s = .int .i64 t ∧ (xs.take k).sum = t ∧ 0 ≤ t ∧ t ≤ 28 ∧ RowOk (xs.take k))
     (fun _ i => n - (intOf i).toNat)
  case atStart => exact ⟨0, 0, Nat.zero_le _, rfl, rfl, rfl, by omega, by omega, row_nil⟩
  case round =>
    obtain ⟨k, t, hk, rfl, rfl, ht, ht0, ht1, hg⟩ := hrel
    by_cases hlt : k < n
    · obtain ⟨b, o, rfl, hb, hc⟩ := h.cell k hlt
      have hck := hc k hlt
      clear hc
      generalize hx : xs.getD k 0 = x at hck
      have Hx := Lib.hid hx; clear hx
      have Hl := Lib.hid h.length; clear h
      have e := take_snoc Hx.out hlt Hl.out
      have e2 : (xs.take (k + 1)).sum = t + x := by rw [e, List.sum_append, ht]; simp
      have hs := row_snoc (x := x) hg
      rw [ht, ← e] at hs
      by_cases hin : 1 ≤ x ∧ x ≤ 28 - t
      · have hr := hs.2 hin
        have E := Lib.hid e; clear e
        have E2 := Lib.hid e2; clear e2
        have Hs := Lib.hid hs; clear hs
        have Ht := Lib.hid ht; clear ht
        have Hg := Lib.hid hg; clear hg
        have Hr := Lib.hid hr; clear hr
        go_wp2
        go_round
        case rel => exact ⟨k + 1, t + x, by omega, by go_num, rfl, E2.out, by omega, by omega, Hr.out⟩
        case measure => simp [intOf]; omega
      · have hbad : rowB xs = false := by
          unfold rowB; rw [decide_eq_false_iff_not]
          exact fun hh => hin (hs.1 (hh.take (k + 1)))
        have E := Lib.hid e; clear e
        have E2 := Lib.hid e2; clear e2
        have Hs := Lib.hid hs; clear hs
        have Ht := Lib.hid ht; clear ht
        have Hg := Lib.hid hg; clear hg
        have Hbad := Lib.hid hbad; clear hbad
        go_wp2
        all_goals
          go_ret
          exact ⟨by first | rfl | (rw [Hbad.out]; rfl), rfl⟩
    · go_wp2
      go_ret
      obtain rfl : n = k := by omega
      rw [take_all h.length] at hg
      exact ⟨by first | rfl | (rw [row_iff.2 hg]; rfl), rfl⟩
theorem isRow_yes (ao : Option Addr) (n cap : Nat) (xs : List Int) (w : World) (h : IntsAt w ao n cap xs) (hg : RowOk xs) :
    Calls Tryz.prog 43 #[.slice ao n cap] w fun e w' => e = .returned (.bool true) ∧ w = w' := by
  have := isRow_any ao n cap xs w h; rw [row_iff.2 hg] at this; exact this
theorem isRow_no (ao : Option Addr) (n cap : Nat) (xs : List Int) (w : World) (h : IntsAt w ao n cap xs) (hg : rowB xs = false) :
    Calls Tryz.prog 43 #[.slice ao n cap] w fun e w' => e = .returned (.bool false) ∧ w = w' := by
  have := isRow_any ao n cap xs w h; rw [hg] at this; exact this

set_option maxHeartbeats 800000 in
theorem isPiles_any (ao : Option Addr) (n cap : Nat) (xs : List Int) (w : World) (h : IntsAt w ao n cap xs) :
    Calls Tryz.prog 14 #[.slice ao n cap] w fun e w' => e = .returned (.bool (goodB xs)) ∧ w = w' := by
  have hn := h.lenInt
  go_enter Tryz.func14, Tryz.ntmps14
  go_wp2
  go_loop [7] (fun i => ∃ k : Nat, k ≤ n ∧ i = .int .i64 k ∧ (∀ j, 0 < j → j < k → xs.getD j 0 ≤ xs.getD (j - 1) 0))
     (fun i => n - (intOf i).toNat)
  case atStart => exact ⟨0, Nat.zero_le _, rfl, fun j h1 h2 => by omega⟩
  case round =>
    obtain ⟨k, hk, rfl, hp⟩ := hrel
    by_cases hlt : k < n
    · obtain ⟨b, o, rfl, hb, hc⟩ := h.cell k hlt
      have hck := hc k hlt
      have Hc := Lib.hid hc; clear hc
      have Hl := Lib.hid h.length; clear h
      generalize hx : xs.getD k 0 = x at hck
      have Hx := Lib.hid hx; clear hx
      have Hp := Lib.hid hp; clear hp
      by_cases h3 : k = 0
      · subst h3
        simp only [Nat.add_zero] at hck
        go_wp2
        go_round
        case rel => exact ⟨1, by omega, rfl, fun j h1 h2 => by omega⟩
        case measure => simp [intOf]; omega
      · have hck1 := Hc.out (k-1) (by omega)
        generalize hy : xs.getD (k-1) 0 = y at hck1
        have Hy := Lib.hid hy; clear hy
        by_cases hyx : y < x
        · go_wp2
          have hbad : goodB xs = false := by
            unfold goodB; rw [decide_eq_false_iff_not, good_spec]
            rintro ⟨_, _, h5, _⟩
            have := h5 k (by omega) (by rw [Hl.out]; exact hlt)
            rw [Hx.out, Hy.out] at this
            omega
          go_ret
          exact ⟨by first | rfl | (rw [hbad]; rfl), rfl⟩
        · go_wp2
          go_round
          case rel =>
            refine ⟨k + 1, by omega, by go_num, fun j h1 h2 => ?_⟩
            by_cases hj : j = k
            · subst hj; rw [Hx.out, Hy.out]; omega
            · exact Hp.out j h1 (by omega)
          case measure => simp [intOf]; omega
    · obtain rfl : n = k := by omega
      have e := good_row_sorted (xs := xs) (fun j h1 h2 => hp j h1 (by rw [h.length] at h2; exact h2))
      have hcon := isRow_any ao n cap xs w h
      rw [← e] at hcon
      have Hcon := Lib.hid hcon; clear hcon
      have Hp := Lib.hid hp; clear hp
      have E := Lib.hid e; clear e
      go_wp2_with fail
      with_reducible refine (Hcon.out).mono ?_
      rintro e w' ⟨rfl, rfl⟩
      go_wp2
      go_ret
      exact ⟨rfl, rfl⟩

set_option maxHeartbeats 400000 in
theorem l1In_any (a lo hi : Int) (w : World) :
    Calls Tryz.prog 89 #[.int .i64 a, .int .i64 lo, .int .i64 hi] w fun e w' => e = .returned (.bool (decide (lo ≤ a ∧ a ≤ hi))) ∧ w = w' := by
  go_enter Tryz.func89, Tryz.ntmps89
  go_wp2
  all_goals (go_ret; exact ⟨by congr 2; simp; omega, rfl⟩)

set_option maxHeartbeats 400000 in
theorem l1All_any (ao : Option Addr) (n cap : Nat) (xs : List Int) (lo hi : Int) (w : World) (h : IntsAt w ao n cap xs) :
    Calls Tryz.prog 68 #[.slice ao n cap, .int .i64 lo, .int .i64 hi] w fun e w' => e = .returned (.bool (decide (∀ x ∈ xs, lo ≤ x ∧ x ≤ hi))) ∧ w = w' := by
  have hn := h.lenInt
  go_enter Tryz.func68, Tryz.ntmps68
  go_wp2
  go_loop [11] (fun i => ∃ k : Nat, k ≤ n ∧ i = .int .i64 k ∧ ∀ x ∈ xs.take k, lo ≤ x ∧ x ≤ hi) (fun i => n - (intOf i).toNat)
  case atStart => exact ⟨0, Nat.zero_le _, rfl, by simp⟩
  case round =>
    obtain ⟨k, hk, rfl, hall⟩ := hrel
    have Hall := Lib.hid hall; clear hall
    by_cases hlt : k < n
    · obtain ⟨b, o, rfl, hb, hc⟩ := h.cell k hlt
      have hck := hc k hlt
      clear hc
      generalize hx : xs.getD k 0 = x at hck
      have Hx := Lib.hid hx; clear hx
      have Hl := Lib.hid h.length; clear h
      by_cases hin : lo ≤ x ∧ x ≤ hi
      · have hd : decide (lo ≤ x ∧ x ≤ hi) = true := decide_eq_true hin
        have Hin := Lib.hid hin; clear hin
        go_wp2_with (go_at_call 89; refine (l1In_any _ _ _ _).mono ?_; rintro e w' ⟨rfl, rfl⟩)
        go_round
        case rel =>
          refine ⟨k + 1, by omega, by go_num, fun y hy => ?_⟩
          rw [take_snoc Hx.out hlt Hl.out] at hy
          rcases List.mem_append.1 hy with h' | h'
          · exact Hall.out y h'
          · rw [List.mem_singleton.1 h']; exact Hin.out
        case measure => simp [intOf]; omega
      · have hd : decide (lo ≤ x ∧ x ≤ hi) = false := decide_eq_false hin
        have Hin := Lib.hid hin; clear hin
        go_wp2_with (go_at_call 89; refine (l1In_any _ _ _ _).mono ?_; rintro e w' ⟨rfl, rfl⟩)
        go_ret
        have hno : decide (∀ x ∈ xs, lo ≤ x ∧ x ≤ hi) = false := decide_eq_false (fun hh => Hin.out (hh x (getD_mem Hx.out hlt Hl.out)))
        exact ⟨by first | rfl | (rw [hno]; rfl), rfl⟩
    · go_wp2
      go_ret
      obtain rfl : n = k := by omega
      have hh := Hall.out
      rw [take_all h.length] at hh
      exact ⟨by first | rfl | (rw [decide_eq_true hh]; rfl), rfl⟩

set_option maxHeartbeats 400000 in
theorem sumOf_any (ao : Option Addr) (n cap : Nat) (xs : List Int) (w : World) (h : IntsAt w ao n cap xs) (hg : Good xs) :
    Calls Tryz.prog 164 #[.slice ao n cap] w fun e w' => e = .returned (.int .i64 xs.sum) ∧ w = w' := by
  have hn := h.lenInt
  go_enter Tryz.func164, Tryz.ntmps164
  go_wp2
  go_loop [3, 8] (fun s i => ∃ k : Nat, ∃ t : Int, k ≤ n ∧ i = .int .i64 k ∧ s = .int .i64 t ∧ (xs.take k).sum = t) (fun _ i => n - (intOf i).toNat)
  case atStart => exact ⟨0, 0, Nat.zero_le _, rfl, rfl, rfl⟩
  case round =>
    obtain ⟨k, t, hk, rfl, rfl, ht⟩ := hrel
    have ht1 := (hg.take k).2.2
    have ht0 := sum_nonneg (hg.take k).1
    rw [ht] at ht0 ht1
    have Ht := Lib.hid ht; clear ht
    by_cases hlt : k < n
    · obtain ⟨b, o, rfl, hb, hc⟩ := h.cell k hlt
      have hck := hc k hlt
      clear hc
      generalize hx : xs.getD k 0 = x at hck
      have Hx := Lib.hid hx; clear hx
      have hm := hg.mem (getD_mem Hx.out hlt h.length)
      have e := take_snoc Hx.out hlt h.length
      have e2 : (xs.take (k + 1)).sum = t + x := by rw [e, List.sum_append, Ht.out]; simp
      have E2 := Lib.hid e2; clear e2
      have Hg := Lib.hid hg; clear hg
      clear e h
      go_wp2
      go_round
      case rel => exact ⟨k + 1, t + x, by omega, by go_num, rfl, E2.out⟩
      case measure => simp [intOf]; omega
    · go_wp2
      go_ret
      obtain rfl : n = k := by omega
      have hh := Ht.out
      rw [take_all h.length] at hh
      exact ⟨by first | rfl | (rw [hh]; rfl), rfl⟩

set_option maxHeartbeats 400000 in
theorem piSum_any (ao : Option Addr) (n cap : Nat) (xs : List Int) (w : World) (h : IntsAt w ao n cap xs) (hg : Good xs) :
    Calls Tryz.prog 85 #[.slice ao n cap] w fun e w' => e = .returned (.int .i64 xs.sum) ∧ w = w' := by
  have hn := h.lenInt
  go_enter Tryz.func85, Tryz.ntmps85
  go_wp2
  go_loop [3, 8] (fun s i => ∃ k : Nat, ∃ t : Int, k ≤ n ∧ i = .int .i64 k ∧ s = .int .i64 t ∧ (xs.take k).sum = t) (fun _ i => n - (intOf i).toNat)
  case atStart => exact ⟨0, 0, Nat.zero_le _, rfl, rfl, rfl⟩
  case round =>
    obtain ⟨k, t, hk, rfl, rfl, ht⟩ := hrel
    have ht1 := (hg.take k).2.2
    have ht0 := sum_nonneg (hg.take k).1
    rw [ht] at ht0 ht1
    have Ht := Lib.hid ht; clear ht
    by_cases hlt : k < n
    · obtain ⟨b, o, rfl, hb, hc⟩ := h.cell k hlt
      have hck := hc k hlt
      clear hc
      generalize hx : xs.getD k 0 = x at hck
      have Hx := Lib.hid hx; clear hx
      have hm := hg.mem (getD_mem Hx.out hlt h.length)
      have e := take_snoc Hx.out hlt h.length
      have e2 : (xs.take (k + 1)).sum = t + x := by rw [e, List.sum_append, Ht.out]; simp
      have E2 := Lib.hid e2; clear e2
      have Hg := Lib.hid hg; clear hg
      clear e h
      go_wp2
      go_round
      case rel => exact ⟨k + 1, t + x, by omega, by go_num, rfl, E2.out⟩
      case measure => simp [intOf]; omega
    · go_wp2
      go_ret
      obtain rfl : n = k := by omega
      have hh := Ht.out
      rw [take_all h.length] at hh
      exact ⟨by first | rfl | (rw [hh]; rfl), rfl⟩

set_option maxHeartbeats 1000000 in
theorem piGood_any (ao : Option Addr) (n cap : Nat) (xs : List Int) (w : World) (h : IntsAt w ao n cap xs) :
    Calls Tryz.prog 39 #[.slice ao n cap] w fun e w' => e = .returned (.bool (goodB xs)) ∧ w = w' := by
  have hn := h.lenInt
  by_cases hlen : 28 < n
  · have hbad : goodB xs = false := by
      unfold goodB; rw [decide_eq_false_iff_not, good_spec, h.length]; omega
    go_enter Tryz.func39, Tryz.ntmps39
    go_wp2
    go_ret
    exact ⟨by first | rfl | (rw [hbad]; rfl), rfl⟩
  by_cases hall : ∀ x ∈ xs, 1 ≤ x ∧ x ≤ 28
  · have hd : decide (∀ x ∈ xs, 1 ≤ x ∧ x ≤ 28) = true := decide_eq_true hall
    have Hall := Lib.hid hall; clear hall
    go_enter Tryz.func39, Tryz.ntmps39
    go_wp2_with (go_at_call 68; refine (l1All_any _ _ _ _ _ _ _ h).mono ?_; rintro e w' ⟨rfl, rfl⟩)
    have Hd := Lib.hid hd; clear hd
    go_loop [3, 16] (fun s i => ∃ k : Nat, ∃ t : Int, k ≤ n ∧ i = .int .i64 k ∧ s = .int .i64 t ∧ (xs.take k).sum = t ∧ (k : Int) ≤ t ∧ t ≤ 28 * k ∧ (∀ j, 0 < j → j < k → xs.getD j 0 ≤ xs.getD (j - 1) 0)) (fun _ i => n - (intOf i).toNat)
    case atStart => exact ⟨0, 0, Nat.zero_le _, rfl, rfl, rfl, by omega, by omega, fun j h1 h2 => by omega⟩
    case round =>
      obtain ⟨k, t, hk, rfl, rfl, ht, ht0, ht1, hp⟩ := hrel
      have Ht := Lib.hid ht; clear ht
      have Hp := Lib.hid hp; clear hp
      by_cases hlt : k < n
      · obtain ⟨b, o, rfl, hb, hc⟩ := h.cell k hlt
        have hck := hc k hlt
        have Hc := Lib.hid hc; clear hc
        have Hl := Lib.hid h.length; clear h
        generalize hx : xs.getD k 0 = x at hck
        have Hx := Lib.hid hx; clear hx
        have hxm := Hall.out x (getD_mem Hx.out hlt Hl.out)
        have e2 : (xs.take (k + 1)).sum = t + x := by rw [take_snoc Hx.out hlt Hl.out, List.sum_append, Ht.out]; simp
        have E2 := Lib.hid e2; clear e2
        by_cases h3 : k = 0
        · subst h3
          simp only [Nat.add_zero] at hck
          go_wp2
          go_round
          case rel => exact ⟨1, t + x, by omega, rfl, rfl, E2.out, by omega, by omega, fun j h1 h2 => by omega⟩
          case measure => simp [intOf]; omega
        · have hck1 := Hc.out (k-1) (by omega)
          generalize hy : xs.getD (k-1) 0 = y at hck1
          have Hy := Lib.hid hy; clear hy
          by_cases hyx : y < x
          · go_wp2
            have hbad : goodB xs = false := by
              unfold goodB; rw [decide_eq_false_iff_not, good_spec]
              rintro ⟨_, _, h5, _⟩
              have := h5 k (by omega) (by rw [Hl.out]; exact hlt)
              rw [Hx.out, Hy.out] at this
              omega
            go_ret
            exact ⟨by first | rfl | (rw [hbad]; rfl), rfl⟩
          · go_wp2
            go_round
            case rel =>
              refine ⟨k + 1, t + x, by omega, by go_num, rfl, E2.out, by omega, by omega, fun j h1 h2 => ?_⟩
              by_cases hj : j = k
              · subst hj; rw [Hx.out, Hy.out]; omega
              · exact Hp.out j h1 (by omega)
            case measure => simp [intOf]; omega
      · go_wp2
        go_ret
        obtain rfl : n = k := by omega
        have hh := Ht.out
        rw [take_all h.length] at hh
        have hfin : goodB xs = decide (t ≤ 28) := by
          unfold goodB
          rw [decide_eq_decide, good_spec, hh]
          constructor
          · exact fun h => h.2.2.2
          · exact fun h' => ⟨by rw [h.length]; omega, Hall.out, fun k h1 h2 => Hp.out k h1 (by rw [h.length] at h2; exact h2), h'⟩
        exact ⟨by first | rfl | (rw [hfin]; rfl), rfl⟩
  · have hd : decide (∀ x ∈ xs, 1 ≤ x ∧ x ≤ 28) = false := decide_eq_false hall
    have hbad : goodB xs = false := by
      unfold goodB; rw [decide_eq_false_iff_not, good_spec]
      exact fun h => hall h.2.1
    have Hall := Lib.hid hall; clear hall
    have Hbad := Lib.hid hbad; clear hbad
    go_enter Tryz.func39, Tryz.ntmps39
    go_wp2_with (go_at_call 68; refine (l1All_any _ _ _ _ _ _ _ h).mono ?_; rintro e w' ⟨rfl, rfl⟩)
    go_ret
    exact ⟨by first | rfl | (rw [Hbad.out]; rfl), rfl⟩

/-- what a function of good piles comes to, that fails for others: a number -/
def ifGoodI (xs : List Int) (v : Int) : Value := .tuple #[.int .i64 (if goodB xs then v else 0), .bool (goodB xs)]

theorem cardsOf_any (ao : Option Addr) (n cap : Nat) (xs : List Int) (w : World) (h : IntsAt w ao n cap xs) :
    Calls Tryz.prog 109 #[.slice ao n cap] w fun e w' => e = .returned (ifGoodI xs xs.sum) ∧ w = w' := by
  cases hg : goodB xs
  · go_enter Tryz.func109, Tryz.ntmps109
    go_wp2_with (go_at_call 14; refine (isPiles_any _ _ _ _ _ h).mono ?_; rintro e w' ⟨rfl, rfl⟩)
    go_ret2
    exact ⟨by unfold ifGoodI; rw [hg] <;> rfl, rfl⟩
  · have G := good_iff.1 hg
    go_enter Tryz.func109, Tryz.ntmps109
    go_wp2_with (first | (go_at_call 14; refine (isPiles_any _ _ _ _ _ h).mono ?_; rintro e w' ⟨rfl, rfl⟩) | (go_at_call 164; refine (sumOf_any _ _ _ _ _ h G).mono ?_; rintro e w' ⟨rfl, rfl⟩))
    go_ret2
    exact ⟨by unfold ifGoodI; rw [hg] <;> rfl, rfl⟩

theorem specCardsOf_any (ao : Option Addr) (n cap : Nat) (xs : List Int) (w : World) (h : IntsAt w ao n cap xs) :
    Calls Tryz.prog 134 #[.slice ao n cap] w fun e w' => e = .returned (ifGoodI xs xs.sum) ∧ w = w' := by
  cases hg : goodB xs
  · go_enter Tryz.func134, Tryz.ntmps134
    go_wp2_with (go_at_call 39; refine (piGood_any _ _ _ _ _ h).mono ?_; rintro e w' ⟨rfl, rfl⟩)
    go_ret2
    exact ⟨by unfold ifGoodI; rw [hg] <;> rfl, rfl⟩
  · have G := good_iff.1 hg
    go_enter Tryz.func134, Tryz.ntmps134
    go_wp2_with (first | (go_at_call 39; refine (piGood_any _ _ _ _ _ h).mono ?_; rintro e w' ⟨rfl, rfl⟩) | (go_at_call 85; refine (piSum_any _ _ _ _ _ h G).mono ?_; rintro e w' ⟨rfl, rfl⟩))
    go_ret2
    exact ⟨by unfold ifGoodI; rw [hg] <;> rfl, rfl⟩
end Go.Proofs.YtimmjimeldejjaaGreatDoor
