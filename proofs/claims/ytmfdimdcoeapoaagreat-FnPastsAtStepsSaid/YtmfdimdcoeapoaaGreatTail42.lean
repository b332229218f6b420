/- Chapter 2: no tail is longer than 42: counted out, tail by tail, one number of cards after the other. No condition. -/
import Derived.Test.YtmfdimdcoeapoaaGreatGa
namespace Go.Proofs.YtmfdimdcoeapoaaGreat
set_option linter.unusedVariables false
set_option linter.unusedSimpArgs false
def allCX (n : Nat) : List (List Int) := (choiceX (hgt n + 1) (n - tri (hgt n))).map fromB
set_option maxHeartbeats 8000000 in
private theorem lev_0 : levL (allCX 0) 43 = [] := by decide +kernel
set_option maxHeartbeats 8000000 in
private theorem lev_1 : levL (allCX 1) 43 = [] := by decide +kernel
set_option maxHeartbeats 8000000 in
private theorem lev_2 : levL (allCX 2) 43 = [] := by decide +kernel
set_option maxHeartbeats 8000000 in
private theorem lev_3 : levL (allCX 3) 43 = [] := by decide +kernel
set_option maxHeartbeats 8000000 in
private theorem lev_4 : levL (allCX 4) 43 = [] := by decide +kernel
set_option maxHeartbeats 8000000 in
private theorem lev_5 : levL (allCX 5) 43 = [] := by decide +kernel
set_option maxHeartbeats 8000000 in
private theorem lev_6 : levL (allCX 6) 43 = [] := by decide +kernel
set_option maxHeartbeats 8000000 in
private theorem lev_7 : levL (allCX 7) 43 = [] := by decide +kernel
set_option maxHeartbeats 8000000 in
private theorem lev_8 : levL (allCX 8) 43 = [] := by decide +kernel
set_option maxHeartbeats 8000000 in
private theorem lev_9 : levL (allCX 9) 43 = [] := by decide +kernel
set_option maxHeartbeats 8000000 in
private theorem lev_10 : levL (allCX 10) 43 = [] := by decide +kernel
set_option maxHeartbeats 8000000 in
private theorem lev_11 : levL (allCX 11) 43 = [] := by decide +kernel
set_option maxHeartbeats 8000000 in
private theorem lev_12 : levL (allCX 12) 43 = [] := by decide +kernel
set_option maxHeartbeats 8000000 in
private theorem lev_13 : levL (allCX 13) 43 = [] := by decide +kernel
set_option maxHeartbeats 8000000 in
private theorem lev_14 : levL (allCX 14) 43 = [] := by decide +kernel
set_option maxHeartbeats 8000000 in
private theorem lev_15 : levL (allCX 15) 43 = [] := by decide +kernel
set_option maxHeartbeats 8000000 in
private theorem lev_16 : levL (allCX 16) 43 = [] := by decide +kernel
set_option maxHeartbeats 8000000 in
private theorem lev_17 : levL (allCX 17) 43 = [] := by decide +kernel
set_option maxHeartbeats 8000000 in
private theorem lev_18 : levL (allCX 18) 43 = [] := by decide +kernel
set_option maxHeartbeats 8000000 in
private theorem lev_19 : levL (allCX 19) 43 = [] := by decide +kernel
set_option maxHeartbeats 8000000 in
private theorem lev_20 : levL (allCX 20) 43 = [] := by decide +kernel
set_option maxHeartbeats 8000000 in
private theorem lev_21 : levL (allCX 21) 43 = [] := by decide +kernel
set_option maxHeartbeats 8000000 in
private theorem lev_22 : levL (allCX 22) 43 = [] := by decide +kernel
set_option maxHeartbeats 8000000 in
private theorem lev_23 : levL (allCX 23) 43 = [] := by decide +kernel
set_option maxHeartbeats 8000000 in
private theorem lev_24 : levL (allCX 24) 43 = [] := by decide +kernel
set_option maxHeartbeats 8000000 in
private theorem lev_25 : levL (allCX 25) 43 = [] := by decide +kernel
set_option maxHeartbeats 8000000 in
private theorem lev_26 : levL (allCX 26) 43 = [] := by decide +kernel
set_option maxHeartbeats 8000000 in
private theorem lev_27 : levL (allCX 27) 43 = [] := by decide +kernel
set_option maxHeartbeats 8000000 in
private theorem lev_28 : levL (allCX 28) 43 = [] := by decide +kernel
theorem lev_end {n : Nat} (h : n < 29) : levL (allCX n) 43 = [] := by
  match n, h with
  | 0, _ => exact lev_0
  | 1, _ => exact lev_1
  | 2, _ => exact lev_2
  | 3, _ => exact lev_3
  | 4, _ => exact lev_4
  | 5, _ => exact lev_5
  | 6, _ => exact lev_6
  | 7, _ => exact lev_7
  | 8, _ => exact lev_8
  | 9, _ => exact lev_9
  | 10, _ => exact lev_10
  | 11, _ => exact lev_11
  | 12, _ => exact lev_12
  | 13, _ => exact lev_13
  | 14, _ => exact lev_14
  | 15, _ => exact lev_15
  | 16, _ => exact lev_16
  | 17, _ => exact lev_17
  | 18, _ => exact lev_18
  | 19, _ => exact lev_19
  | 20, _ => exact lev_20
  | 21, _ => exact lev_21
  | 22, _ => exact lev_22
  | 23, _ => exact lev_23
  | 24, _ => exact lev_24
  | 25, _ => exact lev_25
  | 26, _ => exact lev_26
  | 27, _ => exact lev_27
  | 28, _ => exact lev_28
  | k + 29, h => exact absurd h (by omega)
theorem isB_sumX {bs : List Int} (h : IsB bs) : 0 ≤ bs.sum := by
  induction bs with
  | nil => simp
  | cons b l ih =>
    have := ih (fun x hx => h x (by simp [hx]))
    have := h b (by simp)
    rw [List.sum_cons]; omega
theorem mem_choiceX (bs : List Int) : IsB bs → ∀ o : Nat, bs.sum = o → bs ∈ choiceX bs.length o := by
  induction bs with
  | nil =>
    intro _ o h
    simp at h
    obtain rfl : o = 0 := by omega
    simp [choiceX]
  | cons b l ih =>
    intro hB o h
    have hl : IsB l := fun x hx => hB x (by simp [hx])
    have h0 := isB_sumX hl
    rw [List.sum_cons] at h
    rw [List.length_cons]
    unfold choiceX
    rw [List.mem_append]
    rcases hB b (by simp) with rfl | rfl
    · exact .inr (List.mem_map.2 ⟨l, ih hl o (by omega), rfl⟩)
    · left
      rw [if_pos (by omega)]
      exact List.mem_map.2 ⟨l, ih hl (o - 1) (by omega), rfl⟩
theorem choiceX_row (n : Nat) : ∀ o, ∀ ys ∈ choiceX n o, IsB ys := by
  induction n with
  | zero =>
    intro o ys hy
    unfold choiceX at hy
    split at hy
    · rw [List.mem_singleton.1 hy]; exact fun b hb => by cases hb
    · cases hy
  | succ n ih =>
    intro o ys hy
    unfold choiceX at hy
    rw [List.mem_append] at hy
    rcases hy with hy | hy
    · split at hy
      · obtain ⟨l, hl, rfl⟩ := List.mem_map.1 hy
        intro b hb
        rcases List.mem_cons.1 hb with rfl | hb
        · exact .inr rfl
        · exact ih _ _ hl b hb
      · cases hy
    · obtain ⟨l, hl, rfl⟩ := List.mem_map.1 hy
      intro b hb
      rcases List.mem_cons.1 hb with rfl | hb
      · exact .inl rfl
      · exact ih _ _ hl b hb
theorem allCX_nodup : ∀ n, n < 29 → (allCX n).Nodup := by decide +kernel
theorem goodX : ∀ n, n < 29 → ∀ bs ∈ choiceX (hgt n + 1) (n - tri (hgt n)), Good (fromB bs) ∧ (fromB bs).sum = n ∧ 0 ∈ bs := by decide +kernel
theorem allCX_good {n : Nat} (h : n ≤ 28) {xs : List Int} (hx : xs ∈ allCX n) : Good xs ∧ xs.sum = n ∧ Cyc xs := by
  unfold allCX at hx
  obtain ⟨bs, hb, rfl⟩ := List.mem_map.1 hx
  obtain ⟨h1, h2, h3⟩ := goodX n (by omega) bs hb
  exact ⟨h1, h2, fromB_cyc (choiceX_row _ _ bs hb) h3 (by have := h1.2.2; omega)⟩
theorem allCX_all (n : Nat) (hn : n ≤ 28) : AllCyc (allCX n) n where
  small := hn
  good := fun x hx => (allCX_good hn hx).1
  cyc := fun x hx => (allCX_good hn hx).2.2
  sum := fun x hx => (allCX_good hn hx).2.1
  nodup := allCX_nodup n (by omega)
  all := fun x hg hc hs => by
    have hB := bitsL_isB hc
    have ht := fromB_total (bitsL x) hB
    rw [from_bits hg hc, bitsL_length, Nat.add_sub_cancel] at ht
    have hk : hL x = hgt n := by unfold hL; rw [hs]; simp
    have hb0 := isB_sumX hB
    unfold allCX
    refine List.mem_map.2 ⟨bitsL x, ?_, from_bits hg hc⟩
    have := mem_choiceX (bitsL x) hB (n - tri (hgt n)) (by rw [hk] at ht; omega)
    rw [bitsL_length, hk] at this
    exact this
theorem good_nonneg {x : List Int} (hg : Good x) : 0 ≤ x.sum := by
  have h : ∀ l : List Int, (∀ y ∈ l, (1 : Int) ≤ y) → 0 ≤ l.sum := by
    intro l
    induction l with
    | nil => intro _; simp
    | cons a l ih =>
      intro h
      have := ih fun y hy => h y (by simp [hy])
      have := h a (by simp)
      rw [List.sum_cons]; omega
  exact h x hg.1
/-- no tail is longer than 42 -/
theorem tail42 {x : List Int} (hg : Good x) : tailL x ≤ 42 := by
  have h0 : 0 ≤ x.sum := good_nonneg hg
  have h28 : x.sum ≤ 28 := hg.2.2
  have hc := allCX_all x.sum.toNat (by omega)
  have hs : x.sum = (x.sum.toNat : Int) := by omega
  have hm := (mem_lev hc.toCyclics (tailL x) x).2 ⟨hg, rfl, hc.all _ (endL_good hg) (endL_cyc hg) (by rw [end_sum hg]; exact hs)⟩
  by_cases h : 43 ≤ tailL x
  · exact absurd (lev_end (n := x.sum.toNat) (by omega)) (lev_down hc.toCyclics h (by intro e; rw [e] at hm; cases hm))
  · omega
/-- from the end of both tails on what differs goes on to differ; what meets does so by then -/
theorem meet_le {x y : List Int} (hx : Good x) (hy : Good y) {k : Nat} (h : meetL x y = some k) : k ≤ 42 ∧ stepsL k x = stepsL k y ∧ ∀ i, i < k → stepsL i x ≠ stepsL i y := by
  unfold meetL at h
  rw [List.find?_range_eq_some] at h
  obtain ⟨h1, h2, h3⟩ := h
  have hl : ∀ i, i < k → stepsL i x ≠ stepsL i y := fun i hi => by simpa using h3 i hi
  refine ⟨?_, by simpa using h1, hl⟩
  by_cases h42 : k ≤ 42
  · exact h42
  · exfalso
    have hcx : ∀ {z : List Int}, Good z → Cyc (stepsL 42 z) := fun {z} hz => by
      have h1 := (tailL_spec hz).2.1
      have h2 := cyc_steps (stepsL_good hz _) h1 (42 - tailL z)
      rwa [← stepsL_plus, show 42 - tailL z + tailL z = 42 by have := tail42 hz; omega] at h2
    exact never_from hx hy (hcx hx) (hcx hy) (fun i hi => hl i (by omega)) k (by simpa using h1)
theorem meet_never {x y : List Int} (hx : Good x) (hy : Good y) (h : meetL x y = none) (k : Nat) (hk : k ≤ 42) : stepsL k x ≠ stepsL k y := by
  unfold meetL at h
  rw [List.find?_eq_none] at h
  have := h k (List.mem_range.2 (by omega))
  simpa using this
end Go.Proofs.YtmfdimdcoeapoaaGreat
