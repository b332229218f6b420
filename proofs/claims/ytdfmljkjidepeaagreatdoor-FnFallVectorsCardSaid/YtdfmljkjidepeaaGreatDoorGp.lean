/- Several texts in one: FpM, FpN. No condition. -/
import Derived.Test.YtdfmljkjidepeaaGreatDoorFpB
import Derived.Test.YtdfmljkjidepeaaGreatDoorFpC
import Derived.Test.YtdfmljkjidepeaaGreatDoorGf
namespace Go.Proofs.YtdfmljkjidepeaaGreatDoor
section
set_option linter.unusedVariables false
set_option linter.unusedSimpArgs false

theorem srcs_all {n : Nat} (h : n ≤ 24) : srcOk n = true := by
  by_cases h1 : n < 19
  · exact srcs_few ⟨n, h1⟩
  · have : n = 19 ∨ n = 20 ∨ n = 21 ∨ n = 22 ∨ n = 23 ∨ n = 24 := by omega
    rcases this with rfl | rfl | rfl | rfl | rfl | rfl
    · exact srcs_19
    · exact srcs_20
    · exact srcs_21
    · exact srcs_22
    · exact srcs_23
    · exact srcs_24
theorem src_small {a : List Int} (h : Sand a) (hs : sourceB a = true) : (rchS a).length ≤ 400 := by
  have hn := sum_nonneg h.good.1
  have h24 := h.2.2
  have := srcs_all (n := a.sum.toNat) (by omega)
  unfold srcOk at this
  have h2 := List.all_eq_true.1 this a (mem_allL h.good)
  rw [if_pos h.1, if_pos hs] at h2
  rw [rch_count]
  exact of_decide_eq_true h2
theorem sub_small {a y : List Int} (hg : Grains y) (ha : a ∈ rchS y) (h : (rchS y).length ≤ 400) : (rchS a).length ≤ 400 :=
  Nat.le_trans (nodup_len (rsS_nodup (rch_grains hg ha) 600) fun x hx => rch_trans hg ha hx) h
theorem rch_small : ∀ (k : Nat) {a : List Int}, Sand a → wt 0 a ≤ k → (rchS a).length ≤ 400
  | k, a, h, hk => by
    rcases source_or a with hs | ⟨y, i, h1, h2, h3, h4⟩
    · exact src_small h hs
    · have hsum : y.sum ≤ 24 := by rw [← fall_sum h2, h4]; exact h.2.2
      have hlen : y.length ≤ 12 := by
        have e := fallL_length h2
        rw [h4] at e
        have := h.1
        split at e <;> omega
      have hy : Sand y := ⟨hlen, h1, hsum⟩
      have hw := fall_wt h2 0
      rw [h4] at hw
      have h0 := hy.grains.wt
      have hmem : a ∈ rchS y := mem_rsS.2 ⟨1, by omega, mem_frS_succ.2 ⟨y, by simp [frS], mem_behL.2 ⟨i, h2, h3, h4.symm⟩⟩⟩
      cases k with
      | zero => omega
      | succ k => exact sub_small hy.grains hmem (rch_small k hy (by omega))
end
end Go.Proofs.YtdfmljkjidepeaaGreatDoor
namespace Go.Proofs.YtdfmljkjidepeaaGreatDoor
section
set_option linter.unusedVariables false
set_option linter.unusedSimpArgs false

theorem settle_in {xs : List Int} (hg : Grains xs) : settleL xs ∈ rchS xs := by
  obtain ⟨t, h, _⟩ := settle_to hg
  exact (rch_to hg).2 ⟨t, h⟩
theorem settle_snd {xs : List Int} (hs : Sand xs) : (mSettleSand xs).2 = sandB (settleL xs) := by
  rw [mSettle_yes (sand_iff.2 hs)]
  unfold ifSand
  cases h : sandB (settleL xs) <;> simp [h]
/-- all falls end in sand: so few lists are reached, and each is sand -/
theorem ok_settle {xs : List Int} (hs : Sand xs) : okR xs ↔ (mSettleSand xs).2 = true := by
  rw [settle_snd hs]
  constructor
  · intro h
    exact sand_iff.2 (h.2 _ (settle_in hs.grains))
  · intro h
    have h2 := sand_iff.1 h
    refine ⟨rch_small (wt 0 xs).toNat hs (by have := hs.grains.wt; omega), fun y hy => ?_⟩
    obtain ⟨n, hn⟩ := (rch_to hs.grains).1 hy
    obtain ⟨g, hsum, _⟩ := hn.grains hs.grains
    obtain ⟨m, hm, _⟩ := settle_to g
    rw [settle_same hn hs.grains] at hm
    exact ⟨Nat.le_trans hm.longer h2.1, g.good, g.2⟩
/-- so many orders, cut off -/
def wF : Nat → List Int → Nat
  | 0, _ => 0
  | f + 1, a => if behL a = [] then 1 else (behL a).foldl (fun c b => min (c + wF f b) 1000000001) 0
def wL (a : List Int) : Nat := wF 600 a
theorem foldl_same {β : Type} (f g : Nat → β → Nat) : ∀ (l : List β) (c : Nat), (∀ b ∈ l, ∀ c, f c b = g c b) → l.foldl f c = l.foldl g c
  | [], _, _ => rfl
  | b :: l, c, h => by
    rw [List.foldl_cons, List.foldl_cons, h b (by simp) c]
    exact foldl_same f g l _ (fun b hb c => h b (by simp [hb]) c)
theorem wF_same : ∀ (k : Nat) {a : List Int} {f g : Nat}, Grains a → 577 - wt 0 a ≤ k → k ≤ f → k ≤ g → wF f a = wF g a
  | 0, a, f, g, hg, h, _, _ => by have := hg.wt; omega
  | k + 1, a, f, g, hg, h, hf, hh => by
    obtain ⟨f', rfl⟩ : ∃ f', f = f' + 1 := ⟨f - 1, by omega⟩
    obtain ⟨g', rfl⟩ : ∃ g', g = g' + 1 := ⟨g - 1, by omega⟩
    show (if behL a = [] then 1 else _) = if behL a = [] then 1 else _
    by_cases hb : behL a = []
    · rw [if_pos hb, if_pos hb]
    · rw [if_neg hb, if_neg hb]
      refine foldl_same _ _ _ _ fun b hbm c => ?_
      obtain ⟨g1, g2⟩ := behL_grains hg hbm
      rw [wF_same k (f := f') (g := g') g1 (by omega) (by omega) (by omega)]
theorem wL_eq {a : List Int} (hg : Grains a) : wL a = if behL a = [] then 1 else (behL a).foldl (fun c b => min (c + wL b) 1000000001) 0 := by
  show (if behL a = [] then 1 else (behL a).foldl (fun c b => min (c + wF 599 b) 1000000001) 0) = _
  by_cases hb : behL a = []
  · rw [if_pos hb, if_pos hb]
  · rw [if_neg hb, if_neg hb]
    refine foldl_same _ _ _ _ fun b hbm c => ?_
    obtain ⟨g1, g2⟩ := behL_grains hg hbm
    have := g1.wt
    have := hg.wt
    show min (c + wF 599 b) _ = min (c + wF 600 b) _
    rw [wF_same 577 (f := 599) (g := 600) g1 (by omega) (by omega) (by omega)]
/-- over the first k -/
def wP (a : List Int) (k : Nat) : Nat := ((behL a).take k).foldl (fun c b => min (c + wL b) 1000000001) 0
theorem wP_zero (a : List Int) : wP a 0 = 0 := rfl
theorem wP_succ {a : List Int} {k : Nat} (h : k < (behL a).length) : wP a (k + 1) = min (wP a k + wL ((behL a).getD k [])) 1000000001 := by
  unfold wP
  rw [List.take_add_one, List.getElem?_eq_getElem h, List.foldl_append, List.getD_eq_getElem?_getD, List.getElem?_eq_getElem h]
  rfl
theorem wP_all (a : List Int) : wP a (behL a).length = (behL a).foldl (fun c b => min (c + wL b) 1000000001) 0 := by unfold wP; rw [List.take_length]
theorem wL_end {a : List Int} (hg : Grains a) (h : behL a = []) : wL a = 1 := by rw [wL_eq hg, if_pos h]
theorem wL_more {a : List Int} (hg : Grains a) (h : behL a ≠ []) : wL a = wP a (behL a).length := by rw [wL_eq hg, if_neg h, wP_all]
theorem fold_le {a : List (List Int)} : ∀ c, c ≤ 1000000001 → a.foldl (fun c b => min (c + wL b) 1000000001) c ≤ 1000000001 := by
  induction a with
  | nil => intro c h; exact h
  | cons b a ih => intro c h; exact ih _ (Nat.min_le_right _ _)
theorem wP_le (a : List Int) (k : Nat) : wP a k ≤ 1000000001 := fold_le 0 (by omega)
theorem wL_le {a : List Int} (hg : Grains a) : wL a ≤ 1000000001 := by
  by_cases h : behL a = []
  · rw [wL_end hg h]; omega
  · rw [wL_more hg h]; exact wP_le _ _
def mCountFallPlays (a : List Int) : Int × Bool := if sandB a = true ∧ (mSettleSand a).2 = true ∧ wL a ≤ 1000000000 then ((wL a : Nat), true) else (0, false)
theorem mPlays_no1 {a : List Int} (h : sandB a = false) : mCountFallPlays a = (0, false) := by unfold mCountFallPlays; rw [if_neg (by rw [h]; simp)]
theorem mPlays_no2 {a : List Int} (h : (mSettleSand a).2 = false) : mCountFallPlays a = (0, false) := by unfold mCountFallPlays; rw [if_neg (by rw [h]; simp)]
theorem mPlays_no3 {a : List Int} (h : ¬ wL a ≤ 1000000000) : mCountFallPlays a = (0, false) := by unfold mCountFallPlays; rw [if_neg (fun q => h q.2.2)]
theorem mPlays_yes {a : List Int} (h1 : sandB a = true) (h2 : (mSettleSand a).2 = true) (h3 : wL a ≤ 1000000000) : mCountFallPlays a = (((wL a : Nat) : Int), true) := by unfold mCountFallPlays; rw [if_pos ⟨h1, h2, h3⟩]
theorem mCountFallPlays_bound (a : List Int) : True := trivial
end
end Go.Proofs.YtdfmljkjidepeaaGreatDoor
