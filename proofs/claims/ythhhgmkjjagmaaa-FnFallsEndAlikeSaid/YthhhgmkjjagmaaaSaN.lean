/- Chapter 6's laws: sums of small numbers; what settles, what a play leaves. No condition but bounds. -/
import Derived.Test.YthhhgmkjjagmaaaSaG
import Derived.Test.YthhhgmkjjagmaaaLawq
namespace Go.Proofs.Ythhhgmkjjagmaaa
open Go.RowKit
set_option linter.unusedVariables false
set_option linter.unusedSimpArgs false

set_option maxHeartbeats 400000 in
theorem pSumN_any (ao : Option Addr) (n cap : Nat) (xs : List Int) (w : World) (h : IntsAt w ao n cap xs) (hg : ∀ x ∈ xs, 0 ≤ x ∧ x ≤ 1000) (hn8 : n ≤ 1000) :
    Calls Try.prog 19 #[.slice ao n cap] w fun e w' => e = .returned (.int .i64 xs.sum) ∧ w = w' := by
  have hn := h.lenInt
  go_enter Try.func19, Try.ntmps19
  go_wp2
  go_loop [3, 8] (fun s i => ∃ k : Nat, ∃ t : Int, k ≤ n ∧ i = .int .i64 k ∧ s = .int .i64 t ∧ (xs.take k).sum = t ∧ 0 ≤ t ∧ t ≤ 1000 * k) (fun _ i => n - (intOf i).toNat)
  case atStart => exact ⟨0, 0, Nat.zero_le _, rfl, rfl, rfl, by omega, by omega⟩
  case round =>
    obtain ⟨k, t, hk, rfl, rfl, ht, ht0, ht1⟩ := hrel
    have Ht := Lib.hid ht; clear ht
    by_cases hlt : k < n
    · obtain ⟨b, o, rfl, hb, hc⟩ := h.cell k hlt
      have hck := hc k hlt
      clear hc
      generalize hx : xs.getD k 0 = x at hck
      have Hx := Lib.hid hx; clear hx
      have hm := hg _ (getD_mem Hx.out hlt h.length)
      have e := take_snoc Hx.out hlt h.length
      have e2 : (xs.take (k + 1)).sum = t + x := by rw [e, List.sum_append, Ht.out]; simp
      have E2 := Lib.hid e2; clear e2
      have Hg := Lib.hid hg; clear hg
      clear e h
      go_wp2
      go_round
      case rel => exact ⟨k + 1, t + x, by omega, by go_num, rfl, E2.out, by omega, by omega⟩
      case measure => simp [intOf]; omega
    · go_wp2
      go_ret
      obtain rfl : n = k := by omega
      have hh := Ht.out
      rw [take_all h.length] at hh
      exact ⟨by first | rfl | (rw [hh]; rfl), rfl⟩

theorem settle_law {xs : List Int} (h : sandB xs = true) : mSettleSand xs = ([], false) ∨ ∃ z, mSettleSand xs = (z, true) ∧ Sand z ∧ fallsL z = [] ∧ wt 0 z - wt 0 xs = (countsL xs).sum ∧ z.sum = xs.sum := by
  have hg := (sand_iff.1 h).grains
  rw [mSettle_yes h]
  obtain ⟨t, h1, h2⟩ := settle_to hg
  obtain ⟨_, c2, _⟩ := counts_at hg
  have h3 := (h1.grains hg).2.1
  generalize settleL xs = z at h1 h2 c2 h3 ⊢
  cases hz : sandB z
  · exact .inl (ifSand_no hz)
  · exact .inr ⟨z, ifSand_yes hz, sand_iff.1 hz, still_iff.1 h2, by rw [c2], h3⟩
theorem counts_bd {xs : List Int} (h : sandB xs = true) : (∀ x ∈ countsL xs, 0 ≤ x ∧ x ≤ 576) ∧ (countsL xs).length ≤ 24 := by
  have hg := (sand_iff.1 h).grains
  exact ⟨mem_bd (counts_at hg).2.2, (settle_good hg).2⟩
theorem counts_sum_bd {xs : List Int} (h : sandB xs = true) : 0 ≤ (countsL xs).sum ∧ (countsL xs).sum ≤ 576 := by
  have hg := (sand_iff.1 h).grains
  obtain ⟨t, h1, _⟩ := settle_to hg
  obtain ⟨_, c2, _⟩ := counts_at hg
  obtain ⟨g, _, e⟩ := h1.grains hg
  have w1 := g.wt
  have w2 := hg.wt
  generalize settleL xs = z at c2 e w1
  omega
theorem play_law (xs fs : List Int) : mPlayFalls xs fs = ([], false) ∨ ∃ ys, mPlayFalls xs fs = (ys, true) ∧ sandB xs = true ∧ sandB ys = true ∧ mSettleSand ys = mSettleSand xs ∧ (∀ i : Nat, (countsL xs).getD i 0 = ((fs.count (i : Int) : Nat) : Int) + (countsL ys).getD i 0) ∧ (countsL xs).sum = (countsL ys).sum + fs.length := by
  cases hs : sandB xs
  · exact .inl (mPlayF_no1 hs)
  · by_cases hl : fs.length ≤ 300
    · rw [mPlayF_yes hs hl]
      cases hp : playF xs fs with
      | none => exact .inl rfl
      | some ys =>
        cases hy : sandB ys
        · exact .inl (ifSand_no hy)
        · have hg := (sand_iff.1 hs).grains
          obtain ⟨e1, e2, e3⟩ := play_counts hg hp
          refine .inr ⟨ys, ifSand_yes hy, rfl, hy, ?_, e2, e3⟩
          rw [mSettle_yes hs, mSettle_yes hy, e1]
    · exact .inl (mPlayF_no2 hl)
end Go.Proofs.Ythhhgmkjjagmaaa
