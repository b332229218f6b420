/- Several texts in one: SaG, SaN, SaP. No condition. -/
import Derived.Test.YthhhgmkjjagmaaaGf
import Derived.Test.YthhhgmkjjagmaaaSaF
import Derived.Test.YthhhgmkjjagmaaaLawq
namespace Go.Proofs.Ythhhgmkjjagmaaa
section
set_option linter.unusedVariables false
set_option linter.unusedSimpArgs false

theorem grain_cases {xs : List Int} (hs : sandB xs = true) (i : Int) : mFallGrain xs i = ([], false) ∨ ∃ ys, mFallGrain xs i = (ys, true) ∧ Sand ys ∧ wt 0 ys = wt 0 xs + 1 ∧ ys.sum = xs.sum ∧ befB xs ys = true ∧ fallsL xs ≠ [] := by
  have e : mFallGrain xs i = ifSand (fall1 xs i) := mPlayF_yes hs (by simp)
  rw [e]
  cases hf : fall1 xs i with
  | none => exact .inl rfl
  | some ys =>
    obtain ⟨k, rfl, k1, k2, rfl⟩ := fall1_to hf
    cases hy : sandB (fallL xs k)
    · exact .inl (ifSand_no hy)
    · refine .inr ⟨_, ifSand_yes hy, sand_iff.1 hy, fall_wt k1 0, fall_sum k1, fall_before k1, fun h => ?_⟩
      have := mem_fallsL.2 ⟨k, rfl, k1, k2⟩
      rw [h] at this; cases this
theorem shape_zero : mSettledShape 0 = ([], true) := by
  have h := shape_of (n := 0) (by omega)
  rw [show (if 0 < restI 0 then stairs (hgt 0) ++ [restI 0] else stairs (hgt 0)) = [] by decide +kernel, sortD_nil] at h
  exact h
theorem shape_cases {n : Int} (h : 0 ≤ n ∧ n ≤ 24) : ∃ Z, mSettledShape n = (Z, true) ∧ mSettleSand (oneCol n) = (Z, true) := by
  obtain ⟨N, rfl⟩ := Int.eq_ofNat_of_zero_le h.1
  have h1 := shape_of (n := N) (by omega)
  have h2 := mShape_yes h
  exact ⟨_, h1, h2 ▸ h1⟩
theorem sand_wt {xs : List Int} (h : Sand xs) : 0 ≤ wt 0 xs ∧ wt 0 xs ≤ 576 := h.grains.wt
theorem sand_sum {xs : List Int} (h : Sand xs) : 0 ≤ xs.sum ∧ xs.sum ≤ 24 := ⟨by have := sum_nonneg h.good.1; omega, h.2.2⟩
end
end Go.Proofs.Ythhhgmkjjagmaaa
namespace Go.Proofs.Ythhhgmkjjagmaaa
section
open Go.RowKit
set_option linter.unusedVariables false
set_option linter.unusedSimpArgs false

set_option maxHeartbeats 400000 in
theorem pSumN_any (ao : Option Addr) (n cap : Nat) (xs : List Int) (w : World) (h : IntsAt w ao n cap xs) (hg : ∀ x ∈ xs, 0 ≤ x ∧ x ≤ 1000) (hn8 : n ≤ 1000) :
    Calls Try.prog 19 #[.slice ao n cap] w fun e w' => e = .returned (.int .i64 xs.sum) ∧ w = w' := by
  have hn := h.lenInt
  go_enter Try.func19, Try.ntmps19
  go_wp2
  go_loop [3, 8] (fun s i => ∃ k : Nat, ∃ t : Int, k ≤ n ∧ i = .int .i64 k ∧ s = .int .i64 t ∧ (xs.take k).sum = t ∧ 0 ≤ t ∧ t ≤ 1000 * k) (fun _ i => n - (intOf i).toNat)
  case atStart => exact ⟨0, 0, Nat.zero_le _, rfl, rfl, rfl, by omega, by omega⟩
  case round =>
    obtain ⟨k, t, hk, rfl, rfl, ht, ht0, ht1⟩ := hrel
    have Ht := Lib.hid ht; clear ht
    by_cases hlt : k < n
    · obtain ⟨b, o, rfl, hb, hc⟩ := h.cell k hlt
      have hck := hc k hlt
      clear hc
      generalize hx : xs.getD k 0 = x at hck
      have Hx := Lib.hid hx; clear hx
      have hm := hg _ (getD_mem Hx.out hlt h.length)
      have e := take_snoc Hx.out hlt h.length
      have e2 : (xs.take (k + 1)).sum = t + x := by rw [e, List.sum_append, Ht.out]; simp
      have E2 := Lib.hid e2; clear e2
      have Hg := Lib.hid hg; clear hg
      clear e h
      go_wp2
      go_round
      case rel => exact ⟨k + 1, t + x, by omega, by go_num, rfl, E2.out, by omega, by omega⟩
      case measure => simp [intOf]; omega
    · go_wp2
      go_ret
      obtain rfl : n = k := by omega
      have hh := Ht.out
      rw [take_all h.length] at hh
      exact ⟨by first | rfl | (rw [hh]; rfl), rfl⟩

theorem settle_law {xs : List Int} (h : sandB xs = true) : mSettleSand xs = ([], false) ∨ ∃ z, mSettleSand xs = (z, true) ∧ Sand z ∧ fallsL z = [] ∧ wt 0 z - wt 0 xs = (countsL xs).sum ∧ z.sum = xs.sum := by
  have hg := (sand_iff.1 h).grains
  rw [mSettle_yes h]
  obtain ⟨t, h1, h2⟩ := settle_to hg
  obtain ⟨_, c2, _⟩ := counts_at hg
  have h3 := (h1.grains hg).2.1
  generalize settleL xs = z at h1 h2 c2 h3 ⊢
  cases hz : sandB z
  · exact .inl (ifSand_no hz)
  · exact .inr ⟨z, ifSand_yes hz, sand_iff.1 hz, still_iff.1 h2, by rw [c2], h3⟩
theorem counts_bd {xs : List Int} (h : sandB xs = true) : (∀ x ∈ countsL xs, 0 ≤ x ∧ x ≤ 576) ∧ (countsL xs).length ≤ 24 := by
  have hg := (sand_iff.1 h).grains
  exact ⟨mem_bd (counts_at hg).2.2, (settle_good hg).2⟩
theorem counts_sum_bd {xs : List Int} (h : sandB xs = true) : 0 ≤ (countsL xs).sum ∧ (countsL xs).sum ≤ 576 := by
  have hg := (sand_iff.1 h).grains
  obtain ⟨t, h1, _⟩ := settle_to hg
  obtain ⟨_, c2, _⟩ := counts_at hg
  obtain ⟨g, _, e⟩ := h1.grains hg
  have w1 := g.wt
  have w2 := hg.wt
  generalize settleL xs = z at c2 e w1
  omega
theorem play_law (xs fs : List Int) : mPlayFalls xs fs = ([], false) ∨ ∃ ys, mPlayFalls xs fs = (ys, true) ∧ sandB xs = true ∧ sandB ys = true ∧ mSettleSand ys = mSettleSand xs ∧ (∀ i : Nat, (countsL xs).getD i 0 = ((fs.count (i : Int) : Nat) : Int) + (countsL ys).getD i 0) ∧ (countsL xs).sum = (countsL ys).sum + fs.length := by
  cases hs : sandB xs
  · exact .inl (mPlayF_no1 hs)
  · by_cases hl : fs.length ≤ 300
    · rw [mPlayF_yes hs hl]
      cases hp : playF xs fs with
      | none => exact .inl rfl
      | some ys =>
        cases hy : sandB ys
        · exact .inl (ifSand_no hy)
        · have hg := (sand_iff.1 hs).grains
          obtain ⟨e1, e2, e3⟩ := play_counts hg hp
          refine .inr ⟨ys, ifSand_yes hy, rfl, hy, ?_, e2, e3⟩
          rw [mSettle_yes hs, mSettle_yes hy, e1]
    · exact .inl (mPlayF_no2 hl)
end
end Go.Proofs.Ythhhgmkjjagmaaa
namespace Go.Proofs.Ythhhgmkjjagmaaa
section
set_option linter.unusedVariables false
set_option linter.unusedSimpArgs false

theorem rch_law {xs : List Int} (hs : sandB xs = true) (hok : okR xs) : (rchL xs).getD 0 [] = xs ∧ mSettleSand xs = ((rchL xs).getD ((rchL xs).length - 1) [], true) ∧ ordB (rchL xs) = true ∧ 0 < (rchL xs).length ∧ (rchL xs).length ≤ 400 ∧
    ∀ j, j < (rchL xs).length → mFallsOf ((rchL xs).getD j []) = (fallsL ((rchL xs).getD j []), true) ∧ (fallsL ((rchL xs).getD j [])).length ≤ 24 ∧ ∀ q, q < (fallsL ((rchL xs).getD j [])).length → ∃ k : Nat, (fallsL ((rchL xs).getD j [])).getD q 0 = (k : Int) ∧ k ≤ 24 ∧ ∃ y, mFallGrain ((rchL xs).getD j []) (k : Int) = (y, true) ∧ y ∈ rchL xs := by
  have hg := (sand_iff.1 hs).grains
  obtain ⟨h1, h2, h3, h4, h5⟩ := rch_facts hg hok
  have hlen := rchL_len xs
  refine ⟨h1, ?_, ordB_of h3, h4, hlen, fun j hj => ?_⟩
  · have hm : (rchL xs).getD ((rchL xs).length - 1) [] ∈ rchL xs := by
      rw [List.getD_eq_getElem?_getD, List.getElem?_eq_getElem (by omega)]; exact List.getElem_mem _
    have := (h5 _ hm).1
    rw [mSettle_yes hs, ← h2]
    exact ifSand_yes (sand_iff.2 this)
  · have hm : (rchL xs).getD j [] ∈ rchL xs := by
      rw [List.getD_eq_getElem?_getD, List.getElem?_eq_getElem hj]; exact List.getElem_mem _
    obtain ⟨s1, s2⟩ := h5 _ hm
    generalize (rchL xs).getD j [] = s at s1 s2
    have hl := fallsT_length s s.length
    have hsl := s1.grains.len
    refine ⟨mFallsOf_yes (sand_iff.2 s1), by show (fallsT s s.length).length ≤ 24; omega, fun q hq => ?_⟩
    have hmq := List.getElem_mem hq
    obtain ⟨k, e, k1, k2⟩ := mem_fallsL.1 hmq
    refine ⟨k, by rw [List.getD_eq_getElem?_getD, List.getElem?_eq_getElem hq]; exact e, by omega, fallL s k, ?_, s2 k k1 k2⟩
    have e2 : mFallGrain s (k : Int) = ifSand (fall1 s (k : Int)) := mPlayF_yes (sand_iff.2 s1) (by simp)
    have e3 : fall1 s (k : Int) = some (fallL s k) := by unfold fall1; rw [if_pos ⟨by omega, by omega, by simpa using k2⟩]; simp
    rw [e2, e3]
    exact ifSand_yes (sand_iff.2 (h5 _ (s2 k k1 k2)).1)
theorem can_law (xs ys : List Int) : (∃ t, mCanReach xs ys = (false, t)) ∨ ∃ t V, mCanReach xs ys = (true, t) ∧ sandB xs = true ∧ sandB ys = true ∧ mFallVector xs ys = (V, true) ∧ mFallsBetween xs ys = (V.sum, true) ∧ wt 0 ys - wt 0 xs = V.sum ∧ (∀ x ∈ V, 0 ≤ x ∧ x ≤ 24) ∧ V.length ≤ 24 := by
  unfold mCanReach
  by_cases h : sandB xs = true ∧ sandB ys = true
  · rw [if_pos h]
    cases hc : canB xs ys
    · exact .inl ⟨_, rfl⟩
    · have hx := sand_iff.1 h.1
      have hy := sand_iff.1 h.2
      obtain ⟨hok, hm⟩ := canB_iff.1 hc
      have hr : reaB xs ys = true := reaB_iff.2 ⟨hx, hy, hok, hm⟩
      obtain ⟨v1, v2, v3⟩ := vecL_facts hx.grains hm
      refine .inr ⟨_, vecL xs ys, rfl, h.1, h.2, mFV_yes hr, by rw [mFB_yes hr, v1], v1.symm, v2, ?_⟩
      have := hy.grains.len
      omega
  · rw [if_neg h]; exact .inl ⟨_, rfl⟩
theorem reach_cases (xs : List Int) : mReachSand xs = ([], false) ∨ (mReachSand xs = (rchL xs, true) ∧ sandB xs = true ∧ okR xs) := by
  unfold mReachSand
  split
  · next h => exact .inr ⟨rfl, h.1, h.2⟩
  · exact .inl rfl
end
end Go.Proofs.Ythhhgmkjjagmaaa
