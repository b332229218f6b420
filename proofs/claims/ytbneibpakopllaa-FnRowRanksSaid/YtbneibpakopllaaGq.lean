/- Several texts in one: RankR, RankW. No condition. -/
import Derived.Test.YtbneibpakopllaaRowB
import Derived.Test.YtbneibpakopllaaRankM
namespace Go.Proofs.Ytbneibpakopllaa
section
open Go.RowKit
set_option linter.unusedVariables false
set_option linter.unusedSimpArgs false
set_option maxRecDepth 20000

set_option maxHeartbeats 1600000 in
theorem impl_RankRow (ao : Option Addr) (n cap : Nat) (xs : List Int) (w : World) (h : IntsAt w ao n cap xs) :
    Calls Try.prog 76 #[.slice ao n cap] w fun e w' => e = .returned (.tuple #[.int .i64 (mRankRow xs).1, .bool (mRankRow xs).2]) ∧ Below w.heap.size w w' := by
  cases hg : rowB xs
  · have hm := mRank_noR hg
    have Hg := Lib.hid hg; clear hg
    have Hm := Lib.hid hm; clear hm
    go_enter Try.func76, Try.ntmps76
    go_wp2_with fail
    with_reducible refine (isRow_no _ _ _ _ _ h Hg.out).mono ?_
    rintro e w' ⟨rfl, rfl⟩
    go_wp2
    go_ret2
    rw [Hm.out]
    exact ⟨rfl, Below.refl _ _⟩
  · have hm := mRank_yesR hg
    have hG := row_iff.1 hg
    have hl := h.length
    have hn28 : (n : Int) ≤ 28 := by have := hG.len; omega
    have hhalf := (endR_half hG.1).1
    have hee := endR_row hG
    have Hg := Lib.hid hg; clear hg
    have Hm := Lib.hid hm; clear hm
    have HG := Lib.hid hG; clear hG
    have Hl := Lib.hid hl; clear hl
    have Hhalf := Lib.hid hhalf; clear hhalf
    go_enter Try.func76, Try.ntmps76
    go_wp2_with fail
    with_reducible refine (isRow_yes _ _ _ _ _ h HG.out).mono ?_
    rintro e w' ⟨rfl, rfl⟩
    go_wp2_with fail
    go_loop [4, 12] (fun ev iv => ∃ (k : Nat), k ≤ n ∧ iv = .int .i64 k ∧ ev = .int .i64 (endR (xs.take k) : Nat)) (fun _ i => n - (intOf i).toNat)
    case atStart => exact ⟨0, Nat.zero_le _, rfl, rfl⟩
    case round =>
      obtain ⟨k, hk, rfl, rfl⟩ := hrel
      have hrt := HG.out.take k
      have he := endR_row hrt
      by_cases hlt : k < n
      · have hxm := HG.out.mem (getD_mem rfl hlt Hl.out)
        obtain ⟨b, o, rfl, hb, hc⟩ := h.cell k hlt
        have hck := hc k hlt
        clear hc
        generalize hx : xs.getD k 0 = x at hck
        have Hx := Lib.hid hx; clear hx
        rw [Hx.out] at hxm
        have e := take_snoc Hx.out hlt Hl.out
        have hrt2 := HG.out.take (k + 1)
        have he2 := endR_row hrt2
        rw [e] at he2
        have hsn := endR_snoc (l := xs.take k) (x := x) hrt.1 hxm.1
        rw [hsn] at he2
        obtain ⟨p, rfl⟩ : ∃ p : Nat, x = (p : Int) + 1 := ⟨(x - 1).toNat, by omega⟩
        have hp : ((p : Int) + 1).toNat = p + 1 := by omega
        rw [hp] at hsn he2
        have hev : endR (xs.take k) * 2 ^ (p + 1) = 2 * (endR (xs.take k) * 2 ^ p) := by rw [Nat.pow_succ]; rw [← Nat.mul_assoc, Nat.mul_comm]
        have hor := or_one (e := endR (xs.take k) * 2 ^ p) (by omega)
        rw [← hev] at hor
        have hnext : endR (xs.take (k + 1)) = endR (xs.take k) * 2 ^ (p + 1) + 1 := by rw [e]; exact hsn
        rw [← hnext] at hor
        have hmul : ((endR (xs.take k) * 2 ^ (p + 1) : Nat) : Int) = (endR (xs.take k) : Int) * 2 ^ (p + 1) := by rw [Int.natCast_mul, Int.natCast_pow]; rfl
        have hb1 : (0 : Int) ≤ (endR (xs.take k) : Int) * 2 ^ (p + 1) ∧ (endR (xs.take k) : Int) * 2 ^ (p + 1) ≤ 268435456 := by rw [← hmul]; omega
        rw [hmul] at hor
        have E := Lib.hid e; clear e
        have Hsn := Lib.hid hsn; clear hsn
        have He2 := Lib.hid he2; clear he2
        have Hev := Lib.hid hev; clear hev
        have Hnext := Lib.hid hnext; clear hnext
        have Hmul := Lib.hid hmul; clear hmul
        have Hrt := Lib.hid hrt; clear hrt
        go_wp2
        go_round
        case rel => exact ⟨k + 1, by omega, by go_num, by first | rfl | (rw [← hor])⟩
        case measure => simp [intOf]; omega
      · obtain rfl : n = k := by omega
        rw [take_all Hl.out] at he ⊢
        have hh := Hhalf.out
        have hfd : ((endR xs : Nat) : Int) / 2 = (rankR xs : Int) := by omega
        have Hh := Lib.hid hh; clear hh
        have Hfd := Lib.hid hfd; clear hfd
        go_wp2
        go_ret2
        rw [Hm.out]
        exact ⟨by rw [← Hfd.out]; rfl, Below.refl _ _⟩
end
end Go.Proofs.Ytbneibpakopllaa
namespace Go.Proofs.Ytbneibpakopllaa
section
open Go.RowKit
set_option linter.unusedVariables false
set_option linter.unusedSimpArgs false
set_option maxRecDepth 20000

theorem sumR_cnt {n : Nat} (h : n ≠ 0) : sumR n = cntR n := by unfold sumR cntR; rw [if_neg h, if_neg h]
theorem sumR_mono {a b : Nat} (h : a ≤ b) : sumR a ≤ sumR b := by
  obtain ⟨d, rfl⟩ : ∃ d, b = a + d := ⟨b - a, by omega⟩
  clear h
  induction d with
  | zero => exact Nat.le_refl _
  | succ d ih => rw [← Nat.add_assoc, sumR_succ]; omega
set_option maxHeartbeats 3200000 in
theorem spec_RowWith (n rank : Int) (w : World) :
    Calls Try.prog 73 #[.int .i64 n, .int .i64 rank] w fun e w' => ∃ ao' n' cap', e = .returned (.tuple #[.slice ao' n' cap', .bool (mRowWith n rank).2]) ∧ Own w.heap.size w'.heap.size w' ao' n' cap' (mRowWith n rank).1 ∧ Below w.heap.size w w' := by
  by_cases hn : 0 ≤ n ∧ n ≤ 28
  · obtain ⟨m, rfl⟩ := Int.eq_ofNat_of_zero_le hn.1
    have h28 : m ≤ 28 := by omega
    have hpc := piCards_yes (m : Int) w hn
    have hcl := cntR_le m (by omega)
    have hrc := roCount_any m w h28
    by_cases hr : 0 ≤ rank ∧ rank < cntR m
    · obtain ⟨r, rfl⟩ := Int.eq_ofNat_of_zero_le hr.1
      have hrm : r < cntR m := by omega
      have hm := mRW_yes h28 hrm
      have hin := l1In_yes (r : Int) 0 ((cntR m : Int) - 1) w (by omega)
      have hrca := fun (t : Nat) (ht : t ≤ 28) W => roCount_any t W ht
      have hr27 : (cntR m : Int) ≤ 134217728 := by omega
      have Hn := Lib.hid hn; clear hn
      have Hm := Lib.hid hm; clear hm
      have Hpc := Lib.hid hpc; clear hpc
      have Hrc := Lib.hid hrc; clear hrc
      have Hin := Lib.hid hin; clear hin
      have Hrca := Lib.hid hrca; clear hrca
      go_enter Try.func73, Try.ntmps73
      go_wp2_with fail
      with_reducible refine (Hpc.out).mono ?_
      rintro e w' ⟨rfl, rfl⟩
      go_wp2_with fail
      with_reducible refine (Hrc.out).mono ?_
      rintro e w' ⟨rfl, rfl⟩
      go_wp2_with fail
      with_reducible refine (Hin.out).mono ?_
      rintro e w' ⟨rfl, rfl⟩
      go_wp2_with fail
      go_loopw [0, 1, 6] (fun nv rv v wr => ∃ (N R : Nat) (a : Option Addr) (k c : Nat) (l : List Int), nv = .int .i64 N ∧ rv = .int .i64 R ∧ v = .slice a k c ∧ N ≤ 28 ∧ R < cntR N ∧ k + N ≤ m ∧ Own w.heap.size wr.heap.size wr a k c l ∧ Hid (l ++ goR (2 * R + 1) N 0 = goR (2 * r + 1) m 0) ∧ Below w.heap.size w wr) (fun nv _ _ _ => (intOf nv).toNat)
      case atStart => exact ⟨m, r, none, 0, 0, [], rfl, rfl, rfl, h28, hrm, by omega, Own.nil _ _ _, Lib.hid rfl, Below.refl _ _⟩
      case round =>
        obtain ⟨N, R, a, k, c, l, rfl, rfl, rfl, hN, hR, hkN, hown, Hl, hb⟩ := hrel
        have hcN := (cntR_le N (by omega)).2
        by_cases h0 : 0 < N
        · have h0i : (0 : Int) < N := by omega
          have hsn := sumR_cnt (n := N) (by omega)
          obtain ⟨wo, hwo⟩ : ∃ wo : World, wo = wr := ⟨_, rfl⟩
          subst hwo
          go_wp2_with fail
          go_loop [1, 7] (fun rv xv => ∃ t : Nat, t < N ∧ sumR t ≤ R ∧ rv = .int .i64 (R - sumR t : Nat) ∧ xv = .int .i64 ((N : Int) - t)) (fun _ x => (intOf x).toNat)
          case atStart => exact ⟨0, h0, Nat.zero_le _, rfl, by simp⟩
          case round =>
            obtain ⟨t, ht, hst, rfl, rfl⟩ := hrel
            have hcon : ∀ W, Calls Try.prog 127 #[.int .i64 ((N : Int) - ((N : Int) - (t : Int)))] W fun e w' => e = .returned (.int .i64 (cntR t : Nat)) ∧ W = w' := fun W => by
              rw [show (N : Int) - ((N : Int) - (t : Int)) = (t : Int) by omega]; exact Hrca.out t (by omega) W
            have hss := sumR_succ t
            have hct := (cntR_le t (by omega)).2
            have hti : (t : Int) < N := by omega
            by_cases hge : cntR t ≤ R - sumR t
            · have ht1 : t + 1 < N := by
                rcases Nat.lt_or_ge (t + 1) N with h | h
                · exact h
                · have := sumR_mono h; omega
              have hnew : R - sumR (t + 1) = R - sumR t - cntR t := by omega
              have hle : sumR (t + 1) ≤ R := by omega
              have hgei : ((cntR t : Nat) : Int) ≤ ((R - sumR t : Nat) : Int) := by omega
              have hd : decide (((cntR t : Nat) : Int) ≤ ((R - sumR t : Nat) : Int)) = true := decide_eq_true hgei
              have hb1 : R - sumR t ≤ 134217728 := by omega
              generalize R - sumR t = q at *
              generalize cntR t = u at *
              have Hcon := Lib.hid hcon; clear hcon
              have Hss := Lib.hid hss; clear hss
              have Hst := Lib.hid hst; clear hst
              have Hle := Lib.hid hle; clear hle
              have Hnew := Lib.hid hnew; clear hnew
              go_wp2_with fail
              with_reducible refine (Hcon.out _).mono ?_
              rintro e w' ⟨rfl, rfl⟩
              go_wp2_with fail
              go_wp2_with fail
              with_reducible refine (Hcon.out _).mono ?_
              rintro e w' ⟨rfl, rfl⟩
              go_wp2
              go_round
              case rel => exact ⟨t + 1, ht1, Hle.out, by rw [Hnew.out]; go_num, by go_num⟩
              case measure => simp [intOf]; omega
            · have hstep := goR_step hst (by omega) ht
              have hlti : ¬ (((cntR t : Nat) : Int) ≤ ((R - sumR t : Nat) : Int)) := by omega
              have hd : decide (((cntR t : Nat) : Int) ≤ ((R - sumR t : Nat) : Int)) = false := decide_eq_false hlti
              have hRq : R - sumR t < cntR t := by omega
              have hbq : R - sumR t ≤ 134217728 := by omega
              generalize R - sumR t = q at *
              have heq : (l ++ [((N - t : Nat) : Int)]) ++ goR (2 * q + 1) t 0 = goR (2 * r + 1) m 0 := by
                rw [List.append_assoc, List.singleton_append, ← hstep]; exact Hl.out
              have hlen := hown.length
              rw [show ((N - t : Nat) : Int) = (N : Int) - (t : Int) by omega] at heq
              have Hcon := Lib.hid hcon; clear hcon
              have Hss := Lib.hid hss; clear hss
              have Hstep := Lib.hid hstep; clear hstep
              have Heq := Lib.hid heq; clear heq
              have Hlen := Lib.hid hlen; clear hlen
              go_wp2_with fail
              with_reducible refine (Hcon.out _).mono ?_
              rintro e w' ⟨rfl, rfl⟩
              go_wp2_with (at_builtin; refine wpList_push wo rfl _ _ rfl w.heap.size wo.heap.size a k c _ rfl hown _ rfl (by omega) hb.size ?_)
              intro a3 c3 w3 ho3 hc3
              have hb3 := hb.trans (hown.chgBelow hc3 hb.size)
              clear hown hc3
              go_wp2
              go_roundw
              case rel => exact ⟨t, q, a3, k + 1, c3, _, by go_num, rfl, rfl, by omega, hRq, by omega, ho3, Lib.hid Heq.out, hb3⟩
              case measure => simp [intOf]; omega
        · obtain rfl : N = 0 := by omega
          have hh := Hl.out
          have hR0 : goR (2 * R + 1) 0 0 = [] := rfl
          rw [hR0, List.append_nil] at hh
          have Hh := Lib.hid hh; clear hh
          have HR0 := Lib.hid hR0; clear hR0
          go_wp2
          go_ret2
          rw [Hm.out, ← Hh.out]
          exact ⟨_, _, _, rfl, hown, hb⟩
    · have hm := mRW_no2 (n := m) hr
      have hin := l1In_no rank 0 ((cntR m : Int) - 1) w (by omega)
      have hr27 : (cntR m : Int) ≤ 134217728 := by omega
      have Hn := Lib.hid hn; clear hn
      have Hm := Lib.hid hm; clear hm
      have Hpc := Lib.hid hpc; clear hpc
      have Hrc := Lib.hid hrc; clear hrc
      have Hin := Lib.hid hin; clear hin
      have Hr := Lib.hid hr; clear hr
      go_enter Try.func73, Try.ntmps73
      go_wp2_with fail
      with_reducible refine (Hpc.out).mono ?_
      rintro e w' ⟨rfl, rfl⟩
      go_wp2_with fail
      with_reducible refine (Hrc.out).mono ?_
      rintro e w' ⟨rfl, rfl⟩
      go_wp2_with fail
      with_reducible refine (Hin.out).mono ?_
      rintro e w' ⟨rfl, rfl⟩
      go_wp2
      go_ret2
      rw [Hm.out]
      exact ⟨none, 0, 0, rfl, Own.nil _ _ _, Below.refl _ _⟩
  · have hm := mRW_no1 (rank := rank) hn
    have Hn := Lib.hid hn; clear hn
    have Hm := Lib.hid hm; clear hm
    go_enter Try.func73, Try.ntmps73
    go_wp2_with fail
    with_reducible refine (piCards_no _ _ Hn.out).mono ?_
    rintro e w' ⟨rfl, rfl⟩
    go_wp2
    go_ret2
    rw [Hm.out]
    exact ⟨none, 0, 0, rfl, Own.nil _ _ _, Below.refl _ _⟩

/-! ### By the program -/
theorem bitTest {E : Nat} (c : Nat) (hE : E < 4611686018427387904) : bits .and .i64 ((E : Int) / 2 ^ c) 1 = if E.testBit c then 1 else 0 := by
  have e : (E : Int) / 2 ^ c = ((E / 2 ^ c : Nat) : Int) := by rw [Int.natCast_ediv, Int.natCast_pow]; rfl
  rw [e, and_one (e := E / 2 ^ c) (Nat.lt_of_le_of_lt (Nat.div_le_self _ _) hE)]
  rw [Nat.testBit_eq_decide_div_mod_eq]
  by_cases h : E / 2 ^ c % 2 = 1
  · simp [h]
  · have : E / 2 ^ c % 2 = 0 := by omega
    simp [this]
set_option maxHeartbeats 1600000 in
theorem impl_RowWith (n rank : Int) (w : World) :
    Calls Try.prog 72 #[.int .i64 n, .int .i64 rank] w fun e w' => ∃ ao' n' cap', e = .returned (.tuple #[.slice ao' n' cap', .bool (mRowWith n rank).2]) ∧ Own w.heap.size w'.heap.size w' ao' n' cap' (mRowWith n rank).1 ∧ Below w.heap.size w w' := by
  have hcr := impl_CountRows n w
  by_cases hn : 0 ≤ n ∧ n ≤ 28
  · obtain ⟨m, rfl⟩ := Int.eq_ofNat_of_zero_le hn.1
    have h28 : m ≤ 28 := by omega
    have hcr := countRows_any m w h28
    have hcl := cntR_le m (by omega)
    have hcli : ((cntR m : Nat) : Int) ≤ 134217728 := by omega
    by_cases hr : 0 ≤ rank ∧ rank < cntR m
    · obtain ⟨r, rfl⟩ := Int.eq_ofNat_of_zero_le hr.1
      have hrm : r < cntR m := by omega
      have hm := mRW_yes h28 hrm
      have hor := or_one (e := r) (by omega)
      rw [show ((2 * r : Nat) : Int) = (r : Int) * 2 by omega] at hor
      have hbit := fun c => bitTest (E := 2 * r + 1) c (by omega)
      obtain ⟨E, hE⟩ : ∃ E : Nat, 2 * r + 1 = E := ⟨_, rfl⟩
      rw [hE] at hor hm
      simp only [hE] at hbit
      have hri : (r : Int) < cntR m := by omega
      have hd1 : decide ((r : Int) < 0) = false := decide_eq_false (by omega)
      have hd2 : decide (((cntR m : Nat) : Int) ≤ r) = false := decide_eq_false (by omega)
      have hd3 : decide (cntR m ≤ r) = false := decide_eq_false (by omega)
      generalize cntR m = C at *
      have Hn := Lib.hid hn; clear hn
      have Hm := Lib.hid hm; clear hm
      have Hcr := Lib.hid hcr; clear hcr
      have Hbit := Lib.hid hbit; clear hbit
      have HE := Lib.hid hE; clear hE
      go_enter Try.func72, Try.ntmps72
      go_wp2_with fail
      with_reducible refine (Hcr.out).mono ?_
      rintro e w' ⟨rfl, rfl⟩
      go_wp2_with fail
      go_loopw [8, 9, 11] (fun v pv cv wr => ∃ (c p : Nat) (a : Option Addr) (k q : Nat) (l : List Int), cv = .int .i64 ((c : Int) - 1) ∧ pv = .int .i64 p ∧ v = .slice a k q ∧ c ≤ 28 ∧ p + c ≤ 28 ∧ k + c ≤ 28 ∧ Own w.heap.size wr.heap.size wr a k q l ∧ Hid (l ++ goR E c p = goR E m 0) ∧ Below w.heap.size w wr) (fun _ _ c _ => (intOf c + 1).toNat)
      case atStart => exact ⟨m, 0, _, 0, _, [], by go_num, rfl, rfl, h28, by omega, by omega, Own.empty w, Lib.hid rfl, belowAlloc w _⟩
      case round =>
        obtain ⟨c, p, a, k, q, l, rfl, rfl, rfl, hc, hpc, hkc, hown, Hl, hb⟩ := hrel
        cases c with
        | zero =>
          have hh := Hl.out
          have hR0 : goR E 0 p = [] := rfl
          rw [hR0, List.append_nil] at hh
          have Hh := Lib.hid hh; clear hh
          have HR0 := Lib.hid hR0; clear hR0
          go_wp2
          go_ret2
          rw [Hm.out, ← Hh.out]
          exact ⟨_, _, _, rfl, hown, hb⟩
        | succ c =>
          have ec : (((c + 1 : Nat)) : Int) - 1 = (c : Int) := by omega
          rw [ec]
          have hgo := goR_cons E c p
          have hbt := Hbit.out c
          have hc0 : (0 : Int) ≤ (c : Int) := by omega
          have hc8 : (c : Int) ≤ 64 := by omega
          have hlen := hown.length
          by_cases hE1 : E.testBit c = true
          · rw [hE1, if_pos rfl] at hgo hbt
            have heq : (l ++ [((p : Int) + 1)]) ++ goR E c 0 = goR E m 0 := by
              have := Hl.out
              rw [hgo] at this
              rw [List.append_assoc]; exact this
            have Hgo := Lib.hid hgo; clear hgo
            have Heq := Lib.hid heq; clear heq
            have Hlen := Lib.hid hlen; clear hlen
            have HE1 := Lib.hid hE1; clear hE1
            go_wp2_with (at_builtin; refine wpList_push wr rfl _ _ rfl w.heap.size wr.heap.size a k q _ rfl hown _ rfl (by omega) hb.size ?_)
            intro a3 c3 w3 ho3 hc3
            have hb3 := hb.trans (hown.chgBelow hc3 hb.size)
            clear hown hc3
            go_wp2
            go_roundw
            case rel => exact ⟨c, 0, a3, k + 1, c3, _, by go_num, rfl, rfl, by omega, by omega, by omega, ho3, Lib.hid Heq.out, hb3⟩
            case measure => simp [intOf] <;> omega
          · have hE0 : E.testBit c = false := by simpa using hE1
            rw [hE0, if_neg (by simp)] at hgo hbt
            have heq : l ++ goR E c (p + 1) = goR E m 0 := by rw [← hgo]; exact Hl.out
            have Hgo := Lib.hid hgo; clear hgo
            have Heq := Lib.hid heq; clear heq
            have Hlen := Lib.hid hlen; clear hlen
            have HE1 := Lib.hid hE1; clear hE1
            have HE0 := Lib.hid hE0; clear hE0
            go_wp2
            go_roundw
            case rel => exact ⟨c, p + 1, a, k, q, _, by go_num, by go_num, rfl, by omega, by omega, by omega, hown, Lib.hid Heq.out, hb⟩
            case measure => simp [intOf] <;> omega
    · have hm := mRW_no2 (n := m) hr
      generalize cntR m = C at *
      by_cases h0 : rank < 0
      · have Hn := Lib.hid hn; clear hn
        have Hm := Lib.hid hm; clear hm
        have Hcr := Lib.hid hcr; clear hcr
        have Hr := Lib.hid hr; clear hr
        go_enter Try.func72, Try.ntmps72
        go_wp2_with fail
        with_reducible refine (Hcr.out).mono ?_
        rintro e w' ⟨rfl, rfl⟩
        go_wp2
        go_ret2
        rw [Hm.out]
        exact ⟨none, 0, 0, rfl, Own.nil _ _ _, Below.refl _ _⟩
      · have h1 : ¬ (rank < (C : Int)) := by omega
        have Hn := Lib.hid hn; clear hn
        have Hm := Lib.hid hm; clear hm
        have Hcr := Lib.hid hcr; clear hcr
        have Hr := Lib.hid hr; clear hr
        go_enter Try.func72, Try.ntmps72
        go_wp2_with fail
        with_reducible refine (Hcr.out).mono ?_
        rintro e w' ⟨rfl, rfl⟩
        go_wp2
        go_ret2
        rw [Hm.out]
        exact ⟨none, 0, 0, rfl, Own.nil _ _ _, Below.refl _ _⟩
  · have hm := mRW_no1 (rank := rank) hn
    rw [mCR_no n hn] at hcr
    have Hn := Lib.hid hn; clear hn
    have Hm := Lib.hid hm; clear hm
    have Hcr := Lib.hid hcr; clear hcr
    go_enter Try.func72, Try.ntmps72
    go_wp2_with fail
    with_reducible refine (Hcr.out).mono ?_
    rintro e w' ⟨rfl, hb⟩
    go_wp2
    go_ret2
    rw [Hm.out]
    exact ⟨none, 0, 0, rfl, Own.nil _ _ _, hb⟩
end
end Go.Proofs.Ytbneibpakopllaa
