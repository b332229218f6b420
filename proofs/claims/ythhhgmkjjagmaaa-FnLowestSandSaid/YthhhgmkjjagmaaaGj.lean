/- Several texts in one: SaG, SaN, SaP, SaO, SbA. No condition. -/
import Derived.Test.YthhhgmkjjagmaaaGf
import Derived.Test.YthhhgmkjjagmaaaSaF
import Derived.Test.YthhhgmkjjagmaaaLawq
namespace Go.Proofs.Ythhhgmkjjagmaaa
section
set_option linter.unusedVariables false
set_option linter.unusedSimpArgs false

theorem grain_cases {xs : List Int} (hs : sandB xs = true) (i : Int) : mFallGrain xs i = ([], false) ∨ ∃ ys, mFallGrain xs i = (ys, true) ∧ Sand ys ∧ wt 0 ys = wt 0 xs + 1 ∧ ys.sum = xs.sum ∧ befB xs ys = true ∧ fallsL xs ≠ [] := by
  have e : mFallGrain xs i = ifSand (fall1 xs i) := mPlayF_yes hs (by simp)
  rw [e]
  cases hf : fall1 xs i with
  | none => exact .inl rfl
  | some ys =>
    obtain ⟨k, rfl, k1, k2, rfl⟩ := fall1_to hf
    cases hy : sandB (fallL xs k)
    · exact .inl (ifSand_no hy)
    · refine .inr ⟨_, ifSand_yes hy, sand_iff.1 hy, fall_wt k1 0, fall_sum k1, fall_before k1, fun h => ?_⟩
      have := mem_fallsL.2 ⟨k, rfl, k1, k2⟩
      rw [h] at this; cases this
theorem shape_zero : mSettledShape 0 = ([], true) := by
  have h := shape_of (n := 0) (by omega)
  rw [show (if 0 < restI 0 then stairs (hgt 0) ++ [restI 0] else stairs (hgt 0)) = [] by decide +kernel, sortD_nil] at h
  exact h
theorem shape_cases {n : Int} (h : 0 ≤ n ∧ n ≤ 24) : ∃ Z, mSettledShape n = (Z, true) ∧ mSettleSand (oneCol n) = (Z, true) := by
  obtain ⟨N, rfl⟩ := Int.eq_ofNat_of_zero_le h.1
  have h1 := shape_of (n := N) (by omega)
  have h2 := mShape_yes h
  exact ⟨_, h1, h2 ▸ h1⟩
theorem sand_wt {xs : List Int} (h : Sand xs) : 0 ≤ wt 0 xs ∧ wt 0 xs ≤ 576 := h.grains.wt
theorem sand_sum {xs : List Int} (h : Sand xs) : 0 ≤ xs.sum ∧ xs.sum ≤ 24 := ⟨by have := sum_nonneg h.good.1; omega, h.2.2⟩
end
end Go.Proofs.Ythhhgmkjjagmaaa
namespace Go.Proofs.Ythhhgmkjjagmaaa
section
open Go.RowKit
set_option linter.unusedVariables false
set_option linter.unusedSimpArgs false

set_option maxHeartbeats 400000 in
theorem pSumN_any (ao : Option Addr) (n cap : Nat) (xs : List Int) (w : World) (h : IntsAt w ao n cap xs) (hg : ∀ x ∈ xs, 0 ≤ x ∧ x ≤ 1000) (hn8 : n ≤ 1000) :
    Calls Try.prog 19 #[.slice ao n cap] w fun e w' => e = .returned (.int .i64 xs.sum) ∧ w = w' := by
  have hn := h.lenInt
  go_enter Try.func19, Try.ntmps19
  go_wp2
  go_loop [3, 8] (fun s i => ∃ k : Nat, ∃ t : Int, k ≤ n ∧ i = .int .i64 k ∧ s = .int .i64 t ∧ (xs.take k).sum = t ∧ 0 ≤ t ∧ t ≤ 1000 * k) (fun _ i => n - (intOf i).toNat)
  case atStart => exact ⟨0, 0, Nat.zero_le _, rfl, rfl, rfl, by omega, by omega⟩
  case round =>
    obtain ⟨k, t, hk, rfl, rfl, ht, ht0, ht1⟩ := hrel
    have Ht := Lib.hid ht; clear ht
    by_cases hlt : k < n
    · obtain ⟨b, o, rfl, hb, hc⟩ := h.cell k hlt
      have hck := hc k hlt
      clear hc
      generalize hx : xs.getD k 0 = x at hck
      have Hx := Lib.hid hx; clear hx
      have hm := hg _ (getD_mem Hx.out hlt h.length)
      have e := take_snoc Hx.out hlt h.length
      have e2 : (xs.take (k + 1)).sum = t + x := by rw [e, List.sum_append, Ht.out]; simp
      have E2 := Lib.hid e2; clear e2
      have Hg := Lib.hid hg; clear hg
      clear e h
      go_wp2
      go_round
      case rel => exact ⟨k + 1, t + x, by omega, by go_num, rfl, E2.out, by omega, by omega⟩
      case measure => simp [intOf]; omega
    · go_wp2
      go_ret
      obtain rfl : n = k := by omega
      have hh := Ht.out
      rw [take_all h.length] at hh
      exact ⟨by first | rfl | (rw [hh]; rfl), rfl⟩

theorem settle_law {xs : List Int} (h : sandB xs = true) : mSettleSand xs = ([], false) ∨ ∃ z, mSettleSand xs = (z, true) ∧ Sand z ∧ fallsL z = [] ∧ wt 0 z - wt 0 xs = (countsL xs).sum ∧ z.sum = xs.sum := by
  have hg := (sand_iff.1 h).grains
  rw [mSettle_yes h]
  obtain ⟨t, h1, h2⟩ := settle_to hg
  obtain ⟨_, c2, _⟩ := counts_at hg
  have h3 := (h1.grains hg).2.1
  generalize settleL xs = z at h1 h2 c2 h3 ⊢
  cases hz : sandB z
  · exact .inl (ifSand_no hz)
  · exact .inr ⟨z, ifSand_yes hz, sand_iff.1 hz, still_iff.1 h2, by rw [c2], h3⟩
theorem counts_bd {xs : List Int} (h : sandB xs = true) : (∀ x ∈ countsL xs, 0 ≤ x ∧ x ≤ 576) ∧ (countsL xs).length ≤ 24 := by
  have hg := (sand_iff.1 h).grains
  exact ⟨mem_bd (counts_at hg).2.2, (settle_good hg).2⟩
theorem counts_sum_bd {xs : List Int} (h : sandB xs = true) : 0 ≤ (countsL xs).sum ∧ (countsL xs).sum ≤ 576 := by
  have hg := (sand_iff.1 h).grains
  obtain ⟨t, h1, _⟩ := settle_to hg
  obtain ⟨_, c2, _⟩ := counts_at hg
  obtain ⟨g, _, e⟩ := h1.grains hg
  have w1 := g.wt
  have w2 := hg.wt
  generalize settleL xs = z at c2 e w1
  omega
theorem play_law (xs fs : List Int) : mPlayFalls xs fs = ([], false) ∨ ∃ ys, mPlayFalls xs fs = (ys, true) ∧ sandB xs = true ∧ sandB ys = true ∧ mSettleSand ys = mSettleSand xs ∧ (∀ i : Nat, (countsL xs).getD i 0 = ((fs.count (i : Int) : Nat) : Int) + (countsL ys).getD i 0) ∧ (countsL xs).sum = (countsL ys).sum + fs.length := by
  cases hs : sandB xs
  · exact .inl (mPlayF_no1 hs)
  · by_cases hl : fs.length ≤ 300
    · rw [mPlayF_yes hs hl]
      cases hp : playF xs fs with
      | none => exact .inl rfl
      | some ys =>
        cases hy : sandB ys
        · exact .inl (ifSand_no hy)
        · have hg := (sand_iff.1 hs).grains
          obtain ⟨e1, e2, e3⟩ := play_counts hg hp
          refine .inr ⟨ys, ifSand_yes hy, rfl, hy, ?_, e2, e3⟩
          rw [mSettle_yes hs, mSettle_yes hy, e1]
    · exact .inl (mPlayF_no2 hl)
end
end Go.Proofs.Ythhhgmkjjagmaaa
namespace Go.Proofs.Ythhhgmkjjagmaaa
section
set_option linter.unusedVariables false
set_option linter.unusedSimpArgs false

theorem rch_law {xs : List Int} (hs : sandB xs = true) (hok : okR xs) : (rchL xs).getD 0 [] = xs ∧ mSettleSand xs = ((rchL xs).getD ((rchL xs).length - 1) [], true) ∧ ordB (rchL xs) = true ∧ 0 < (rchL xs).length ∧ (rchL xs).length ≤ 400 ∧
    ∀ j, j < (rchL xs).length → mFallsOf ((rchL xs).getD j []) = (fallsL ((rchL xs).getD j []), true) ∧ (fallsL ((rchL xs).getD j [])).length ≤ 24 ∧ ∀ q, q < (fallsL ((rchL xs).getD j [])).length → ∃ k : Nat, (fallsL ((rchL xs).getD j [])).getD q 0 = (k : Int) ∧ k ≤ 24 ∧ ∃ y, mFallGrain ((rchL xs).getD j []) (k : Int) = (y, true) ∧ y ∈ rchL xs := by
  have hg := (sand_iff.1 hs).grains
  obtain ⟨h1, h2, h3, h4, h5⟩ := rch_facts hg hok
  have hlen := rchL_len xs
  refine ⟨h1, ?_, ordB_of h3, h4, hlen, fun j hj => ?_⟩
  · have hm : (rchL xs).getD ((rchL xs).length - 1) [] ∈ rchL xs := by
      rw [List.getD_eq_getElem?_getD, List.getElem?_eq_getElem (by omega)]; exact List.getElem_mem _
    have := (h5 _ hm).1
    rw [mSettle_yes hs, ← h2]
    exact ifSand_yes (sand_iff.2 this)
  · have hm : (rchL xs).getD j [] ∈ rchL xs := by
      rw [List.getD_eq_getElem?_getD, List.getElem?_eq_getElem hj]; exact List.getElem_mem _
    obtain ⟨s1, s2⟩ := h5 _ hm
    generalize (rchL xs).getD j [] = s at s1 s2
    have hl := fallsT_length s s.length
    have hsl := s1.grains.len
    refine ⟨mFallsOf_yes (sand_iff.2 s1), by show (fallsT s s.length).length ≤ 24; omega, fun q hq => ?_⟩
    have hmq := List.getElem_mem hq
    obtain ⟨k, e, k1, k2⟩ := mem_fallsL.1 hmq
    refine ⟨k, by rw [List.getD_eq_getElem?_getD, List.getElem?_eq_getElem hq]; exact e, by omega, fallL s k, ?_, s2 k k1 k2⟩
    have e2 : mFallGrain s (k : Int) = ifSand (fall1 s (k : Int)) := mPlayF_yes (sand_iff.2 s1) (by simp)
    have e3 : fall1 s (k : Int) = some (fallL s k) := by unfold fall1; rw [if_pos ⟨by omega, by omega, by simpa using k2⟩]; simp
    rw [e2, e3]
    exact ifSand_yes (sand_iff.2 (h5 _ (s2 k k1 k2)).1)
theorem can_law (xs ys : List Int) : (∃ t, mCanReach xs ys = (false, t)) ∨ ∃ t V, mCanReach xs ys = (true, t) ∧ sandB xs = true ∧ sandB ys = true ∧ mFallVector xs ys = (V, true) ∧ mFallsBetween xs ys = (V.sum, true) ∧ wt 0 ys - wt 0 xs = V.sum ∧ (∀ x ∈ V, 0 ≤ x ∧ x ≤ 24) ∧ V.length ≤ 24 := by
  unfold mCanReach
  by_cases h : sandB xs = true ∧ sandB ys = true
  · rw [if_pos h]
    cases hc : canB xs ys
    · exact .inl ⟨_, rfl⟩
    · have hx := sand_iff.1 h.1
      have hy := sand_iff.1 h.2
      obtain ⟨hok, hm⟩ := canB_iff.1 hc
      have hr : reaB xs ys = true := reaB_iff.2 ⟨hx, hy, hok, hm⟩
      obtain ⟨v1, v2, v3⟩ := vecL_facts hx.grains hm
      refine .inr ⟨_, vecL xs ys, rfl, h.1, h.2, mFV_yes hr, by rw [mFB_yes hr, v1], v1.symm, v2, ?_⟩
      have := hy.grains.len
      omega
  · rw [if_neg h]; exact .inl ⟨_, rfl⟩
theorem reach_cases (xs : List Int) : mReachSand xs = ([], false) ∨ (mReachSand xs = (rchL xs, true) ∧ sandB xs = true ∧ okR xs) := by
  unfold mReachSand
  split
  · next h => exact .inr ⟨rfl, h.1, h.2⟩
  · exact .inl rfl
end
end Go.Proofs.Ythhhgmkjjagmaaa
namespace Go.Proofs.Ythhhgmkjjagmaaa
section
set_option linter.unusedVariables false
set_option linter.unusedSimpArgs false

theorem FallTo.down {n : Nat} {xs ys : List Int} (h : FallTo n xs ys) (k : Nat) : (ys.take k).sum ≤ (xs.take k).sum := by
  induction h with
  | refl xs => exact Int.le_refl _
  | step i h1 h2 _ ih => exact Int.le_trans ih (take_fall h1 k)
theorem FallTo.add {m n : Nat} {xs ys zs : List Int} (h : FallTo m xs ys) (k : FallTo n ys zs) : FallTo (m + n) xs zs := by
  induction h with
  | refl xs => rw [Nat.zero_add]; exact k
  | step i h1 h2 _ ih => rw [Nat.add_right_comm]; exact .step i h1 h2 (ih k)
/-- where y has had more falls than x, x can fall too -/
theorem exch : ∀ (m : Nat) {O x y : List Int}, FallTo m O y → (∀ k, (x.take k).sum ≤ (O.take k).sum) → ¬ (∀ k, (x.take k).sum ≤ (y.take k).sum) → ∃ k, k < x.length ∧ steepB x k = true ∧ (y.take (k + 1)).sum < (x.take (k + 1)).sum
  | 0, O, x, y, h, h1, h2 => by cases h; exact absurd h1 h2
  | m + 1, O, x, y, h, h1, h2 => by
    obtain ⟨y', j, h3, h4, h5, rfl⟩ := h.last
    by_cases hle : ∀ k, (x.take k).sum ≤ (y'.take k).sum
    · have he := take_fall_eq h4
      obtain ⟨k0, hk0⟩ : ∃ k0, ¬ (x.take k0).sum ≤ ((fallL y' j).take k0).sum := Classical.not_forall.1 h2
      have hk1 := he k0
      have hk2 := hle k0
      by_cases e : k0 = j + 1
      · subst e
        rw [if_pos rfl] at hk1
        have a0 := hle j
        have a2 := hle (j + 1 + 1)
        rw [take_grow (k := j + 1), take_grow (xs := y') (k := j + 1)] at a2
        have b1 : (x.take (j + 1)).sum = (x.take j).sum + x.getD j 0 := take_grow
        have b2 : (y'.take (j + 1)).sum = (y'.take j).sum + y'.getD j 0 := take_grow
        rw [steep_iff] at h5
        have hst : steepB x j = true := by rw [steep_iff]; omega
        have hlen : j < x.length := by
          apply Decidable.byContradiction
          intro hc
          have e1 : x.getD j 0 = 0 := getD_past (by omega)
          have e2 : x.getD (j + 1) 0 = 0 := getD_past (by omega)
          rw [steep_iff, e1, e2] at hst
          omega
        exact ⟨j, hlen, hst, by omega⟩
      · rw [if_neg e] at hk1; omega
    · obtain ⟨k, k1, k2, k3⟩ := exch m h3 h1 hle
      exact ⟨k, k1, k2, Int.lt_of_le_of_lt (take_fall h4 (k + 1)) k3⟩
theorem same_takes {x y : List Int} (hx : Good x) (hy : Good y) (h : ∀ k, (x.take k).sum = (y.take k).sum) : x = y := by
  have hd : ∀ j, x.getD j 0 = y.getD j 0 := fun j => by
    have a := h j
    have b := h (j + 1)
    rw [take_grow, take_grow (xs := y)] at b
    omega
  have hl : ∀ {u v : List Int}, Good u → (∀ j, u.getD j 0 = v.getD j 0) → u.length ≤ v.length := fun {u v} hu e => by
    apply Decidable.byContradiction
    intro hc
    have h1 := good_one hu (j := v.length) (by omega)
    rw [e, getD_past (Nat.le_refl _)] at h1
    omega
  exact ext_getDI (Nat.le_antisymm (hl hx hd) (hl hy fun j => (hd j).symm)) hd
theorem FallTo.few {n : Nat} {xs ys : List Int} (h : FallTo n xs ys) (hg : Grains xs) : n ≤ 576 := by
  obtain ⟨g, _, e⟩ := h.grains hg
  have := g.wt
  have := hg.wt
  omega
theorem reach_le : ∀ (f : Nat) {p m : Nat} {O x y : List Int}, Grains O → p + f = 600 → FallTo m O y → FallTo p O x → (∀ k, (y.take k).sum ≤ (x.take k).sum) → ∃ q, FallTo q x y
  | 0, p, m, O, x, y, hg, hf, hy, hx, h => by have := hx.few hg; omega
  | f + 1, p, m, O, x, y, hg, hf, hy, hx, h => by
    by_cases hle : ∀ k, (x.take k).sum ≤ (y.take k).sum
    · have : x = y := same_takes (hx.grains hg).1.good (hy.grains hg).1.good fun k => Int.le_antisymm (hle k) (h k)
      subst this
      exact ⟨0, .refl _⟩
    · obtain ⟨k, k1, k2, k3⟩ := exch m hy hx.down hle
      obtain ⟨q, hq⟩ := reach_le f hg (p := p + 1) (by omega) hy (hx.snoc k1 k2) (fun j => by
        rw [take_fall_eq k1]
        have := h j
        by_cases e : j = k + 1
        · subst e; rw [if_pos rfl]; omega
        · rw [if_neg e]; omega)
      exact ⟨q + 1, .step k k1 k2 hq⟩
theorem join_to : ∀ (f : Nat) {p m : Nat} {O x y : List Int}, Grains O → p + f = 600 → FallTo m O y → FallTo p O x → ∃ z q r, FallTo q x z ∧ FallTo r O z ∧ (∀ k, (z.take k).sum ≤ (y.take k).sum) ∧ ∀ (k : Nat) (b : Int), b ≤ (x.take k).sum → b ≤ (y.take k).sum → b ≤ (z.take k).sum
  | 0, p, m, O, x, y, hg, hf, hy, hx => by have := hx.few hg; omega
  | f + 1, p, m, O, x, y, hg, hf, hy, hx => by
    by_cases hle : ∀ k, (x.take k).sum ≤ (y.take k).sum
    · exact ⟨x, 0, p, .refl _, hx, hle, fun k b h1 _ => h1⟩
    · obtain ⟨k, k1, k2, k3⟩ := exch m hy hx.down hle
      obtain ⟨z, q, r, h1, h2, h3, h4⟩ := join_to f hg (p := p + 1) (by omega) hy (hx.snoc k1 k2)
      refine ⟨z, q + 1, r, .step k k1 k2 h1, h2, h3, fun j b hb1 hb2 => h4 j b ?_ hb2⟩
      rw [take_fall_eq k1]
      by_cases e : j = k + 1
      · subst e; rw [if_pos rfl]; omega
      · rw [if_neg e]; omega
/-- from two that lead to a and to b, a third is reached that leads there too -/
theorem meet_sand {O x y a b : List Int} {p m s t u v : Nat} (hg : Grains O) (hx : FallTo p O x) (hy : FallTo m O y) (xa : FallTo s x a) (ya : FallTo t y a) (xb : FallTo u x b) (yb : FallTo v y b) :
    ∃ z r q1 q2 q3 q4, FallTo r O z ∧ FallTo q1 x z ∧ FallTo q2 y z ∧ FallTo q3 z a ∧ FallTo q4 z b := by
  have px := hx.few hg
  obtain ⟨z, q, r, h1, h2, h3, h4⟩ := join_to (600 - p) hg (p := p) (by omega) hy hx
  have pz := h2.few hg
  have pm := hy.few hg
  obtain ⟨q2, e2⟩ := reach_le (600 - m) hg (p := m) (by omega) h2 hy h3
  obtain ⟨q3, e3⟩ := reach_le (600 - r) hg (p := r) (by omega) (hx.add xa) h2 (fun k => h4 k _ (xa.down k) (ya.down k))
  obtain ⟨q4, e4⟩ := reach_le (600 - r) hg (p := r) (by omega) (hx.add xb) h2 (fun k => h4 k _ (xb.down k) (yb.down k))
  exact ⟨z, r, q, q2, q3, q4, h2, h1, e2, e3, e4⟩
end
end Go.Proofs.Ythhhgmkjjagmaaa
namespace Go.Proofs.Ythhhgmkjjagmaaa
section
set_option linter.unusedVariables false
set_option linter.unusedSimpArgs false

theorem lastBy_ex {p : List Int → Bool} : ∀ {L : List (List Int)}, (∃ x ∈ L, p x = true) → ∃ i, i < L.length ∧ p (L.getD i []) = true ∧ ∀ x ∈ L.drop (i + 1), p x = false := by
  intro L
  induction L using snoc_ind with
  | h0 => rintro ⟨x, hx, _⟩; cases hx
  | h1 l c ih =>
    rintro ⟨x, hx, hp⟩
    by_cases hc : p c = true
    · refine ⟨l.length, by simp, by simpa using hc, fun y hy => ?_⟩
      rw [List.drop_of_length_le (by simp)] at hy; cases hy
    · rcases List.mem_append.1 hx with h | h
      · obtain ⟨i, h1, h2, h3⟩ := ih ⟨x, h, hp⟩
        refine ⟨i, by simp; omega, ?_, fun y hy => ?_⟩
        · rw [List.getD_eq_getElem?_getD, List.getElem?_append_left h1, ← List.getD_eq_getElem?_getD]; exact h2
        · rw [List.drop_append_of_le_length (by omega), List.mem_append] at hy
          rcases hy with h | h
          · exact h3 y h
          · rw [List.mem_singleton.1 h]; simpa using hc
      · rw [List.mem_singleton.1 h] at hp; exact absurd hp hc
theorem mem_dropL {L : List (List Int)} {k i : Nat} (h : i < k) (hk : k < L.length) : L[k] ∈ L.drop (i + 1) := by
  rw [List.mem_iff_getElem]
  exact ⟨k - (i + 1), by rw [List.length_drop]; omega, by simp only [List.getElem_drop]; congr 1; omega⟩
theorem low_law {xs ys : List Int} (h : lowOk xs ys) : ∃ (c : List Int) (L : List (List Int)) (dr : Bool), mLowestOf xs ys = (c, true) ∧ mCanReach c xs = (true, true) ∧ mCanReach c ys = (true, true) ∧ mReachSand [xs.sum] = (L, true) ∧ L.length ≤ 400 ∧ mCanReach xs ys = (dr, true) ∧ (dr = true → c = xs) ∧ Sand xs ∧
    ∀ j, j < L.length → ∃ u v t, mCanReach (L.getD j []) xs = (u, true) ∧ mCanReach (L.getD j []) ys = (v, true) ∧ mCanReach (L.getD j []) c = (t, true) ∧ (u = true → v = true → t = true) := by
  obtain ⟨hx, hy, hs, h15, hne, hb⟩ := h
  have hpos := sum_pos hx.good hne
  have hn := one_sand hpos h15
  have hg := hn.grains
  have hb' := hb
  unfold bothB at hb'
  rw [Bool.and_eq_true, canB_iff, canB_iff] at hb'
  obtain ⟨⟨hok, mx⟩, _, my⟩ := hb'
  have hL := rchL_yes hok
  obtain ⟨_, _, hst, _, _⟩ := rch_facts hg hok
  have hmem : ∀ d, d ∈ rchL [xs.sum] ↔ d ∈ rchS [xs.sum] := fun d => by rw [hL, srt_mem]
  have hsand : ∀ d, d ∈ rchS [xs.sum] → Sand d ∧ okR d := fun d hd => ⟨hok.2 d hd, ok_sub hg hok hd⟩
  obtain ⟨i, i1, i2, i3⟩ := lastBy_ex (p := bothB xs ys) (L := rchL [xs.sum]) ⟨_, both_self hb, hb⟩
  have hc : lowestL xs ys = (rchL [xs.sum]).getD i [] := lastBy_at i1 i2 i3
  have hcm : (rchL [xs.sum]).getD i [] ∈ rchL [xs.sum] := by
    rw [List.getD_eq_getElem?_getD, List.getElem?_eq_getElem i1]; exact List.getElem_mem _
  -- what is a common past of both comes not behind it
  have hlast : ∀ z, z ∈ rchL [xs.sum] → bothB xs ys z = true → ((rchL [xs.sum]).getD i [] = z ∨ befB ((rchL [xs.sum]).getD i []) z = true) → (rchL [xs.sum]).getD i [] = z := fun z hz hp ho => by
    rcases ho with e | e
    · exact e
    · exfalso
      obtain ⟨k, k1, k2⟩ := List.mem_iff_getElem.1 hz
      by_cases hki : k ≤ i
      · by_cases hke : k = i
        · subst hke
          rw [List.getD_eq_getElem?_getD, List.getElem?_eq_getElem k1, Option.getD_some, k2, befB_irrefl] at e
          cases e
        · have := List.pairwise_iff_getElem.1 hst k i k1 i1 (by omega)
          rw [k2] at this
          rw [List.getD_eq_getElem?_getD, List.getElem?_eq_getElem i1, Option.getD_some, befB_asymm this] at e
          cases e
      · have : z ∈ (rchL [xs.sum]).drop (i + 1) := by
          rw [← k2]; exact mem_dropL (by omega) k1
        rw [i3 z this] at hp
        cases hp
  generalize (rchL [xs.sum]).getD i [] = c at i2 hc hcm hlast
  have hcr := (hmem c).1 hcm
  obtain ⟨hcs, hcok⟩ := hsand c hcr
  have hp2 := i2
  unfold bothB at hp2
  rw [Bool.and_eq_true] at hp2
  obtain ⟨pc, pc1⟩ := (rch_to hg).1 hcr
  have can : ∀ {d e : List Int}, d ∈ rchS [xs.sum] → Sand e → mCanReach d e = (canB d e, true) := fun {d e} hd he => by
    obtain ⟨q1, q2⟩ := hsand d hd
    unfold mCanReach
    rw [if_pos ⟨sand_iff.2 q1, sand_iff.2 he⟩, decide_eq_true q2]
  refine ⟨c, rchL [xs.sum], canB xs ys, by rw [mLow_yes ⟨hx, hy, hs, h15, hne, hb⟩, hc], by rw [can hcr hx, hp2.1], by rw [can hcr hy, hp2.2], mReach_yes (sand_iff.2 hn) hok, rchL_len _, can mx hy, fun hd => ?_, hx, fun j hj => ?_⟩
  · obtain ⟨_, xok⟩ := hsand xs mx
    have hself : canB xs xs = true := canB_iff.2 ⟨xok, self_mem xs⟩
    have : bothB xs ys xs = true := by unfold bothB; rw [hself, hd]; rfl
    obtain ⟨_, cx⟩ := canB_iff.1 hp2.1
    obtain ⟨n1, t1⟩ := (rch_to hcs.grains).1 cx
    exact hlast xs ((hmem xs).2 mx) this t1.before
  · have hdm : (rchL [xs.sum]).getD j [] ∈ rchL [xs.sum] := by
      rw [List.getD_eq_getElem?_getD, List.getElem?_eq_getElem hj]; exact List.getElem_mem _
    generalize (rchL [xs.sum]).getD j [] = d at hdm
    have hdr := (hmem d).1 hdm
    obtain ⟨hds, hdok⟩ := hsand d hdr
    refine ⟨_, _, _, can hdr hx, can hdr hy, can hdr hcs, fun hu hv => ?_⟩
    obtain ⟨pd, pd1⟩ := (rch_to hg).1 hdr
    obtain ⟨a1, e1⟩ := (rch_to hcs.grains).1 (canB_iff.1 hp2.1).2
    obtain ⟨a2, e2⟩ := (rch_to hcs.grains).1 (canB_iff.1 hp2.2).2
    obtain ⟨a3, e3⟩ := (rch_to hds.grains).1 (canB_iff.1 hu).2
    obtain ⟨a4, e4⟩ := (rch_to hds.grains).1 (canB_iff.1 hv).2
    obtain ⟨z, r, q1, q2, q3, q4, z0, z1, z2, z3, z4⟩ := meet_sand hg pc1 pd1 e1 e3 e2 e4
    have hzr : z ∈ rchS [xs.sum] := (rch_to hg).2 ⟨r, z0⟩
    obtain ⟨hzs, hzok⟩ := hsand z hzr
    have hzp : bothB xs ys z = true := by
      unfold bothB
      rw [canB_iff.2 ⟨hzok, (rch_to hzs.grains).2 ⟨q3, z3⟩⟩, canB_iff.2 ⟨hzok, (rch_to hzs.grains).2 ⟨q4, z4⟩⟩]; rfl
    have := hlast z ((hmem z).2 hzr) hzp z1.before
    subst this
    exact canB_iff.2 ⟨hdok, (rch_to hds.grains).2 ⟨q2, z2⟩⟩
end
end Go.Proofs.Ythhhgmkjjagmaaa
