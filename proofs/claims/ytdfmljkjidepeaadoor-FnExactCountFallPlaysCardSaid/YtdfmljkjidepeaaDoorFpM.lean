/- What falls reach is never more than 400: a finite fact, by those lists that no fall makes. Plain mathematics; no condition. -/
import Derived.Test.YtdfmljkjidepeaaDoorFpB
import Derived.Test.YtdfmljkjidepeaaDoorFpC
namespace Go.Proofs.YtdfmljkjidepeaaDoor
set_option linter.unusedVariables false
set_option linter.unusedSimpArgs false

theorem srcs_all {n : Nat} (h : n ≤ 24) : srcOk n = true := by
  by_cases h1 : n < 19
  · exact srcs_few ⟨n, h1⟩
  · have : n = 19 ∨ n = 20 ∨ n = 21 ∨ n = 22 ∨ n = 23 ∨ n = 24 := by omega
    rcases this with rfl | rfl | rfl | rfl | rfl | rfl
    · exact srcs_19
    · exact srcs_20
    · exact srcs_21
    · exact srcs_22
    · exact srcs_23
    · exact srcs_24
theorem src_small {a : List Int} (h : Sand a) (hs : sourceB a = true) : (rchS a).length ≤ 400 := by
  have hn := sum_nonneg h.good.1
  have h24 := h.2.2
  have := srcs_all (n := a.sum.toNat) (by omega)
  unfold srcOk at this
  have h2 := List.all_eq_true.1 this a (mem_allL h.good)
  rw [if_pos h.1, if_pos hs] at h2
  rw [rch_count]
  exact of_decide_eq_true h2
theorem sub_small {a y : List Int} (hg : Grains y) (ha : a ∈ rchS y) (h : (rchS y).length ≤ 400) : (rchS a).length ≤ 400 :=
  Nat.le_trans (nodup_len (rsS_nodup (rch_grains hg ha) 600) fun x hx => rch_trans hg ha hx) h
theorem rch_small : ∀ (k : Nat) {a : List Int}, Sand a → wt 0 a ≤ k → (rchS a).length ≤ 400
  | k, a, h, hk => by
    rcases source_or a with hs | ⟨y, i, h1, h2, h3, h4⟩
    · exact src_small h hs
    · have hsum : y.sum ≤ 24 := by rw [← fall_sum h2, h4]; exact h.2.2
      have hlen : y.length ≤ 12 := by
        have e := fallL_length h2
        rw [h4] at e
        have := h.1
        split at e <;> omega
      have hy : Sand y := ⟨hlen, h1, hsum⟩
      have hw := fall_wt h2 0
      rw [h4] at hw
      have h0 := hy.grains.wt
      have hmem : a ∈ rchS y := mem_rsS.2 ⟨1, by omega, mem_frS_succ.2 ⟨y, by simp [frS], mem_behL.2 ⟨i, h2, h3, h4.symm⟩⟩⟩
      cases k with
      | zero => omega
      | succ k => exact sub_small hy.grains hmem (rch_small k hy (by omega))
end Go.Proofs.YtdfmljkjidepeaaDoor
