/- Chapter 5: RankRow by the model and by the program. No condition. -/
import Derived.Test.YtmhlciphicojnaaRowB
import Derived.Test.YtmhlciphicojnaaRankM
namespace Go.Proofs.Ytmhlciphicojnaa
open Go.RowKit
set_option linter.unusedVariables false
set_option linter.unusedSimpArgs false
set_option maxRecDepth 20000

set_option maxHeartbeats 3200000 in
theorem spec_RankRow (ao : Option Addr) (n cap : Nat) (xs : List Int) (w : World) (h : IntsAt w ao n cap xs) :
    Calls Try.prog 40 #[.slice ao n cap] w fun e w' => e = .returned (.tuple #[.int .i64 (mRankRow xs).1, .bool (mRankRow xs).2]) ∧ Below w.heap.size w w' := by
  cases hg : rowB xs
  · have hm := mRank_noR hg
    have Hg := Lib.hid hg; clear hg
    have Hm := Lib.hid hm; clear hm
    go_enter Try.func40, Try.ntmps40
    go_wp2_with fail
    with_reducible refine (roGood_no _ _ _ _ _ h Hg.out).mono ?_
    rintro e w' ⟨rfl, rfl⟩
    go_wp2
    go_ret2
    rw [Hm.out]
    exact ⟨rfl, Below.refl _ _⟩
  · have hm := mRank_yesR hg
    have hG := row_iff.1 hg
    have hl := h.length
    have hn28 : (n : Int) ≤ 28 := by have := hG.len; omega
    have hps := piSumB_any ao n cap xs w h (by rw [← hl]; exact hG.len) (fun x hx => hG.mem hx)
    have hrk := rankR_row hG
    obtain ⟨S, hS⟩ : ∃ S : Int, xs.sum = S := ⟨_, rfl⟩
    rw [hS] at hps
    have Hg := Lib.hid hg; clear hg
    have Hm := Lib.hid hm; clear hm
    have HG := Lib.hid hG; clear hG
    have Hl := Lib.hid hl; clear hl
    have Hps := Lib.hid hps; clear hps
    have HS := Lib.hid hS; clear hS
    have Hrk := Lib.hid hrk; clear hrk
    go_enter Try.func40, Try.ntmps40
    go_wp2_with fail
    with_reducible refine (roGood_yes _ _ _ _ _ h HG.out).mono ?_
    rintro e w' ⟨rfl, rfl⟩
    go_wp2_with fail
    with_reducible refine (Hps.out).mono ?_
    rintro e w' ⟨rfl, rfl⟩
    go_wp2_with fail
    go_loop [4, 5, 16] (fun rv lv iv => ∃ (k r : Nat) (s : Int), k ≤ n ∧ iv = .int .i64 k ∧ lv = .int .i64 s ∧ rv = .int .i64 r ∧ (xs.drop k).sum = s ∧ r + rankR (xs.drop k) = rankR xs) (fun _ _ i => n - (intOf i).toNat)
    case atStart => exact ⟨0, 0, S, Nat.zero_le _, rfl, rfl, rfl, by rw [List.drop_zero]; exact HS.out, by rw [List.drop_zero]; omega⟩
    case round =>
      obtain ⟨k, r, s, hk, rfl, rfl, rfl, hs, hr⟩ := hrel
      have hrk2 := Hrk.out
      by_cases hlt : k < n
      · have hd := rankR_drop (xs := xs) (k := k) (by rw [Hl.out]; exact hlt)
        have hR2 := row_drop HG.out (k + 1)
        have hR1 := row_drop HG.out k
        have h0 := row_sum0 hR2
        have h28 := hR1.2
        obtain ⟨d, hdd⟩ : ∃ d : Nat, (xs.drop (k + 1)).sum = d := ⟨(xs.drop (k + 1)).sum.toNat, by omega⟩
        rw [hdd, Int.toNat_natCast] at hd
        have hxm := HG.out.mem (getD_mem rfl hlt Hl.out)
        obtain ⟨b, o, rfl, hb, hc⟩ := h.cell k hlt
        have hck := hc k hlt
        clear hc
        generalize hx : xs.getD k 0 = x at hck
        have Hx := Lib.hid hx; clear hx
        rw [Hx.out] at hd hxm
        have hsd : s = x + d := by rw [← hs]; exact hd.2
        have hd28 : d ≤ 28 := by omega
        have hsl := sumR_le d (by omega)
        have hnx : r + sumR d + rankR (xs.drop (k + 1)) = rankR xs := by omega
        obtain ⟨hd1, hd2⟩ := hd
        have hsum : r + sumR d ≤ 268435456 := by omega
        have Hs := Lib.hid hs; clear hs
        have Hr := Lib.hid hr; clear hr
        have Hdd := Lib.hid hdd; clear hdd
        have Hnx := Lib.hid hnx; clear hnx
        have Hd1 := Lib.hid hd1; clear hd1
        have Hd2 := Lib.hid hd2; clear hd2
        clear h0 h28 hR1 hR2 hrk2
        have hrc := fun (t : Nat) (ht : t < d) W => roCount_any (d - 1 - t) W (by omega)
        have hss := fun (t : Nat) (ht : t < d) => sumR_succ (d - 1 - t)
        have hcl := fun (t : Nat) (ht : t < d) => cntR_le (d - 1 - t) (by omega)
        have Hrc := Lib.hid hrc; clear hrc
        have Hss := Lib.hid hss; clear hss
        have Hcl := Lib.hid hcl; clear hcl
        subst hsd
        go_wp2_with fail
        go_loop [4, 8] (fun rv yv => ∃ t r' : Nat, t ≤ d ∧ yv = .int .i64 (x + 1 + t) ∧ rv = .int .i64 r' ∧ r' + sumR (d - t) = r + sumR d) (fun _ y => (x + 1 + d - intOf y).toNat)
        case atStart => exact ⟨0, r, Nat.zero_le _, by simp, rfl, by simp⟩
        case round =>
          obtain ⟨t, r', ht, rfl, rfl, hrr⟩ := hrel
          by_cases hlt2 : t < d
          · have hcon := Hrc.out t hlt2
            rw [show ((d - 1 - t : Nat) : Int) = x + d - (x + 1 + (t : Int)) by omega] at hcon
            have hs2 := Hss.out t hlt2
            have hc2 := Hcl.out t hlt2
            rw [show d - 1 - t + 1 = d - t by omega] at hs2
            have hnew : r' + cntR (d - 1 - t) + sumR (d - (t + 1)) = r + sumR d := by
              rw [show d - (t + 1) = d - 1 - t by omega]; omega
            have hle : t + 1 ≤ d := hlt2
            have hti : (t : Int) + 1 ≤ d := by omega
            have hr8 : r' ≤ 268435456 := by omega
            generalize cntR (d - 1 - t) = c at *
            have Hcon := Lib.hid hcon; clear hcon
            have Hs2 := Lib.hid hs2; clear hs2
            have Hrr := Lib.hid hrr; clear hrr
            have Hnew := Lib.hid hnew; clear hnew
            go_wp2_with fail
            with_reducible refine (Hcon.out _).mono ?_
            rintro e w' ⟨rfl, rfl⟩
            go_wp2
            go_round
            case rel => exact ⟨t + 1, r' + c, hle, by go_num, by go_num, Hnew.out⟩
            case measure => simp [intOf]; omega
          · obtain rfl : t = d := by omega
            rw [Nat.sub_self, show sumR 0 = 0 from rfl, Nat.add_zero] at hrr
            subst hrr
            go_wp2
            go_round
            case rel => exact ⟨k + 1, r + sumR t, t, by omega, by go_num, by go_num, rfl, Hdd.out, Hnx.out⟩
            case measure => simp [intOf]; omega
      · obtain rfl : n = k := by omega
        have hdn : rankR (xs.drop n) = 0 := by rw [List.drop_of_length_le (by rw [Hl.out]; exact Nat.le_refl _)]; rfl
        rw [hdn, Nat.add_zero] at hr
        have Hs := Lib.hid hs; clear hs
        have Hr := Lib.hid hr; clear hr
        have Hdn := Lib.hid hdn; clear hdn
        go_wp2
        go_ret2
        rw [Hm.out, ← Hr.out]
        exact ⟨rfl, Below.refl _ _⟩

set_option maxHeartbeats 1600000 in
theorem impl_RankRow (ao : Option Addr) (n cap : Nat) (xs : List Int) (w : World) (h : IntsAt w ao n cap xs) :
    Calls Try.prog 41 #[.slice ao n cap] w fun e w' => e = .returned (.tuple #[.int .i64 (mRankRow xs).1, .bool (mRankRow xs).2]) ∧ Below w.heap.size w w' := by
  cases hg : rowB xs
  · have hm := mRank_noR hg
    have Hg := Lib.hid hg; clear hg
    have Hm := Lib.hid hm; clear hm
    go_enter Try.func41, Try.ntmps41
    go_wp2_with fail
    with_reducible refine (isRow_no _ _ _ _ _ h Hg.out).mono ?_
    rintro e w' ⟨rfl, rfl⟩
    go_wp2
    go_ret2
    rw [Hm.out]
    exact ⟨rfl, Below.refl _ _⟩
  · have hm := mRank_yesR hg
    have hG := row_iff.1 hg
    have hl := h.length
    have hn28 : (n : Int) ≤ 28 := by have := hG.len; omega
    have hhalf := (endR_half hG.1).1
    have hee := endR_row hG
    have Hg := Lib.hid hg; clear hg
    have Hm := Lib.hid hm; clear hm
    have HG := Lib.hid hG; clear hG
    have Hl := Lib.hid hl; clear hl
    have Hhalf := Lib.hid hhalf; clear hhalf
    go_enter Try.func41, Try.ntmps41
    go_wp2_with fail
    with_reducible refine (isRow_yes _ _ _ _ _ h HG.out).mono ?_
    rintro e w' ⟨rfl, rfl⟩
    go_wp2_with fail
    go_loop [4, 12] (fun ev iv => ∃ (k : Nat), k ≤ n ∧ iv = .int .i64 k ∧ ev = .int .i64 (endR (xs.take k) : Nat)) (fun _ i => n - (intOf i).toNat)
    case atStart => exact ⟨0, Nat.zero_le _, rfl, rfl⟩
    case round =>
      obtain ⟨k, hk, rfl, rfl⟩ := hrel
      have hrt := HG.out.take k
      have he := endR_row hrt
      by_cases hlt : k < n
      · have hxm := HG.out.mem (getD_mem rfl hlt Hl.out)
        obtain ⟨b, o, rfl, hb, hc⟩ := h.cell k hlt
        have hck := hc k hlt
        clear hc
        generalize hx : xs.getD k 0 = x at hck
        have Hx := Lib.hid hx; clear hx
        rw [Hx.out] at hxm
        have e := take_snoc Hx.out hlt Hl.out
        have hrt2 := HG.out.take (k + 1)
        have he2 := endR_row hrt2
        rw [e] at he2
        have hsn := endR_snoc (l := xs.take k) (x := x) hrt.1 hxm.1
        rw [hsn] at he2
        obtain ⟨p, rfl⟩ : ∃ p : Nat, x = (p : Int) + 1 := ⟨(x - 1).toNat, by omega⟩
        have hp : ((p : Int) + 1).toNat = p + 1 := by omega
        rw [hp] at hsn he2
        have hev : endR (xs.take k) * 2 ^ (p + 1) = 2 * (endR (xs.take k) * 2 ^ p) := by rw [Nat.pow_succ]; rw [← Nat.mul_assoc, Nat.mul_comm]
        have hor := or_one (e := endR (xs.take k) * 2 ^ p) (by omega)
        rw [← hev] at hor
        have hnext : endR (xs.take (k + 1)) = endR (xs.take k) * 2 ^ (p + 1) + 1 := by rw [e]; exact hsn
        rw [← hnext] at hor
        have hmul : ((endR (xs.take k) * 2 ^ (p + 1) : Nat) : Int) = (endR (xs.take k) : Int) * 2 ^ (p + 1) := by rw [Int.natCast_mul, Int.natCast_pow]; rfl
        have hb1 : (0 : Int) ≤ (endR (xs.take k) : Int) * 2 ^ (p + 1) ∧ (endR (xs.take k) : Int) * 2 ^ (p + 1) ≤ 268435456 := by rw [← hmul]; omega
        rw [hmul] at hor
        have E := Lib.hid e; clear e
        have Hsn := Lib.hid hsn; clear hsn
        have He2 := Lib.hid he2; clear he2
        have Hev := Lib.hid hev; clear hev
        have Hnext := Lib.hid hnext; clear hnext
        have Hmul := Lib.hid hmul; clear hmul
        have Hrt := Lib.hid hrt; clear hrt
        go_wp2
        go_round
        case rel => exact ⟨k + 1, by omega, by go_num, by first | rfl | (rw [← hor])⟩
        case measure => simp [intOf]; omega
      · obtain rfl : n = k := by omega
        rw [take_all Hl.out] at he ⊢
        have hh := Hhalf.out
        have hfd : ((endR xs : Nat) : Int) / 2 = (rankR xs : Int) := by omega
        have Hh := Lib.hid hh; clear hh
        have Hfd := Lib.hid hfd; clear hfd
        go_wp2
        go_ret2
        rw [Hm.out]
        exact ⟨by rw [← Hfd.out]; rfl, Below.refl _ _⟩
end Go.Proofs.Ytmhlciphicojnaa
