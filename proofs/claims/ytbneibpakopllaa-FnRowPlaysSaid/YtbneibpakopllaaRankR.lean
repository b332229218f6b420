/- Chapter 5: RankRow by the model and by the program. No condition. -/
import Derived.Test.YtbneibpakopllaaRowB
import Derived.Test.YtbneibpakopllaaRankM
namespace Go.Proofs.Ytbneibpakopllaa
open Go.RowKit
set_option linter.unusedVariables false
set_option linter.unusedSimpArgs false
set_option maxRecDepth 20000

set_option maxHeartbeats 1600000 in
theorem impl_RankRow (ao : Option Addr) (n cap : Nat) (xs : List Int) (w : World) (h : IntsAt w ao n cap xs) :
    Calls Try.prog 76 #[.slice ao n cap] w fun e w' => e = .returned (.tuple #[.int .i64 (mRankRow xs).1, .bool (mRankRow xs).2]) ∧ Below w.heap.size w w' := by
  cases hg : rowB xs
  · have hm := mRank_noR hg
    have Hg := Lib.hid hg; clear hg
    have Hm := Lib.hid hm; clear hm
    go_enter Try.func76, Try.ntmps76
    go_wp2_with fail
    with_reducible refine (isRow_no _ _ _ _ _ h Hg.out).mono ?_
    rintro e w' ⟨rfl, rfl⟩
    go_wp2
    go_ret2
    rw [Hm.out]
    exact ⟨rfl, Below.refl _ _⟩
  · have hm := mRank_yesR hg
    have hG := row_iff.1 hg
    have hl := h.length
    have hn28 : (n : Int) ≤ 28 := by have := hG.len; omega
    have hhalf := (endR_half hG.1).1
    have hee := endR_row hG
    have Hg := Lib.hid hg; clear hg
    have Hm := Lib.hid hm; clear hm
    have HG := Lib.hid hG; clear hG
    have Hl := Lib.hid hl; clear hl
    have Hhalf := Lib.hid hhalf; clear hhalf
    go_enter Try.func76, Try.ntmps76
    go_wp2_with fail
    with_reducible refine (isRow_yes _ _ _ _ _ h HG.out).mono ?_
    rintro e w' ⟨rfl, rfl⟩
    go_wp2_with fail
    go_loop [4, 12] (fun ev iv => ∃ (k : Nat), k ≤ n ∧ iv = .int .i64 k ∧ ev = .int .i64 (endR (xs.take k) : Nat)) (fun _ i => n - (intOf i).toNat)
    case atStart => exact ⟨0, Nat.zero_le _, rfl, rfl⟩
    case round =>
      obtain ⟨k, hk, rfl, rfl⟩ := hrel
      have hrt := HG.out.take k
      have he := endR_row hrt
      by_cases hlt : k < n
      · have hxm := HG.out.mem (getD_mem rfl hlt Hl.out)
        obtain ⟨b, o, rfl, hb, hc⟩ := h.cell k hlt
        have hck := hc k hlt
        clear hc
        generalize hx : xs.getD k 0 = x at hck
        have Hx := Lib.hid hx; clear hx
        rw [Hx.out] at hxm
        have e := take_snoc Hx.out hlt Hl.out
        have hrt2 := HG.out.take (k + 1)
        have he2 := endR_row hrt2
        rw [e] at he2
        have hsn := endR_snoc (l := xs.take k) (x := x) hrt.1 hxm.1
        rw [hsn] at he2
        obtain ⟨p, rfl⟩ : ∃ p : Nat, x = (p : Int) + 1 := ⟨(x - 1).toNat, by omega⟩
        have hp : ((p : Int) + 1).toNat = p + 1 := by omega
        rw [hp] at hsn he2
        have hev : endR (xs.take k) * 2 ^ (p + 1) = 2 * (endR (xs.take k) * 2 ^ p) := by rw [Nat.pow_succ]; rw [← Nat.mul_assoc, Nat.mul_comm]
        have hor := or_one (e := endR (xs.take k) * 2 ^ p) (by omega)
        rw [← hev] at hor
        have hnext : endR (xs.take (k + 1)) = endR (xs.take k) * 2 ^ (p + 1) + 1 := by rw [e]; exact hsn
        rw [← hnext] at hor
        have hmul : ((endR (xs.take k) * 2 ^ (p + 1) : Nat) : Int) = (endR (xs.take k) : Int) * 2 ^ (p + 1) := by rw [Int.natCast_mul, Int.natCast_pow]; rfl
        have hb1 : (0 : Int) ≤ (endR (xs.take k) : Int) * 2 ^ (p + 1) ∧ (endR (xs.take k) : Int) * 2 ^ (p + 1) ≤ 268435456 := by rw [← hmul]; omega
        rw [hmul] at hor
        have E := Lib.hid e; clear e
        have Hsn := Lib.hid hsn; clear hsn
        have He2 := Lib.hid he2; clear he2
        have Hev := Lib.hid hev; clear hev
        have Hnext := Lib.hid hnext; clear hnext
        have Hmul := Lib.hid hmul; clear hmul
        have Hrt := Lib.hid hrt; clear hrt
        go_wp2
        go_round
        case rel => exact ⟨k + 1, by omega, by go_num, by first | rfl | (rw [← hor])⟩
        case measure => simp [intOf]; omega
      · obtain rfl : n = k := by omega
        rw [take_all Hl.out] at he ⊢
        have hh := Hhalf.out
        have hfd : ((endR xs : Nat) : Int) / 2 = (rankR xs : Int) := by omega
        have Hh := Lib.hid hh; clear hh
        have Hfd := Lib.hid hfd; clear hfd
        go_wp2
        go_ret2
        rw [Hm.out]
        exact ⟨by rw [← Hfd.out]; rfl, Below.refl _ _⟩
end Go.Proofs.Ytbneibpakopllaa
