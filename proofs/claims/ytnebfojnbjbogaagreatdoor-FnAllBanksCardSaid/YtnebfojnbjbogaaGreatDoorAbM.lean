/- All bank states of a height and a number of cards: how many; each cyclic one has one cyclic past: mathematics. No condition. -/
import Derived.Test.YtnebfojnbjbogaaGreatDoorGu
import Derived.Test.YtnebfojnbjbogaaGreatDoorBsP
import Derived.Test.YtnebfojnbjbogaaGreatDoorGe
namespace Go.Proofs.YtnebfojnbjbogaaGreatDoor
open Go.RowKit
set_option linter.unusedVariables false
set_option linter.unusedSimpArgs false

theorem baL_count {H N : Nat} (hH : H ≤ 10) (hN : N ≤ 14) : ∀ k, (baL H N k).length = cbkN H N k
  | 0 => rfl
  | k + 1 => by
    rw [baL_succ, List.length_append, baL_count hH hN k, cbkN_succ]
    unfold rowBk
    rw [List.length_map, allF_length (N - k) (N - k) H (Nat.le_refl _) (by omega) (by omega)]
theorem all_count {h n : Int} (q : (mAllBanks h n).2 = true) : mCountBanks h n = ((((mAllBanks h n).1.length : Nat) : Int), true) := by
  unfold mAllBanks at q ⊢
  split at q
  · next c =>
    rw [if_pos c]
    unfold mCountBanks
    rw [if_pos (by omega)]
    show _ = ((((baL _ _ _).length : Nat) : Int), true)
    rw [baL_count (by omega) (by omega)]
  · cases q
theorem imgs_stop {H N : Nat} (hH : 1 ≤ H ∧ H ≤ 10) (hN : N ≤ 14) : ∃ k, (imgB H N (k + 1)).length = (imgB H N k).length := by
  apply Classical.byContradiction
  intro h
  have hlt : ∀ k, (imgB H N (k + 1)).length < (imgB H N k).length := fun k => by
    have h1 := imgB_le hH hN k
    have h2 : (imgB H N (k + 1)).length ≠ (imgB H N k).length := fun e => h ⟨k, e⟩
    omega
  have hs : ∀ k, (imgB H N k).length + k ≤ (imgB H N 0).length := fun k => by
    induction k with
    | zero => exact Nat.le_refl _
    | succ k ih => have := hlt k; omega
  have := hs ((imgB H N 0).length + 1)
  omega
/-- a step leads the cyclic ones onto themselves -/
theorem cyc_onto {H N : Nat} (hH : 1 ≤ H ∧ H ≤ 10) (hN : N ≤ 14) : (∀ b, b ∈ cycBk H N ↔ ∃ a ∈ cycBk H N, stepB a = b) ∧ ∃ b, b ∈ cycBk H N := by
  obtain ⟨k, hk⟩ := imgs_stop hH hN
  have e1 := img_cyc hH hN hk
  have hback := mem_of_full (imgB_nodup H N (k + 1)) (fun b hb => imgB_sub hH hN hb) (by omega)
  rw [← e1]
  constructor
  · intro b
    constructor
    · intro hb
      obtain ⟨a, ha, e⟩ := (imgB_succ hH hN k).1 hb
      exact ⟨a, hback a ha, e⟩
    · rintro ⟨a, ha, e⟩
      exact (imgB_succ hH hN k).2 ⟨a, imgB_sub hH hN ha, e⟩
  · have hf := fill_ok (h := (H : Int)) (c := (N : Int)) (older := []) (by omega) (by omega) (fun x hx => by cases hx) List.Pairwise.nil (by simp; omega)
    have hin : InB H N (fillB (H : Int) (N : Int) []) := ⟨hf.1, rfl, by rw [hf.2.1]; simp⟩
    exact ⟨_, (imgB_mem hH hN (k + 1)).2 ⟨_, hin, rfl⟩⟩
theorem orb_found_in {H N : Nat} (hH : 1 ≤ H ∧ H ≤ 10) (hN : N ≤ 14) {b : Bk} (hb : InB H N b) : (mOrb b).2.2 = true := by
  cases hq : (mOrb b).2.2 with
  | true => rfl
  | false =>
    have hm := seekB_miss 1001 0 hq
    have hsm := allB_small hH hN
    have hnd : ((List.range ((allB H N).length + 1)).map fun i => stepsB i b).Nodup := by
      unfold List.Nodup
      rw [List.pairwise_map]
      refine List.Pairwise.imp_of_mem (R := fun a b => a < b) (fun {x y} hx hy hxy => ?_) List.pairwise_lt_range
      have := List.mem_range.1 hy
      exact hm y (by omega) (by omega) x hxy
    have := nodup_len hnd (m := allB H N) (fun x hx => by
      obtain ⟨i, _, rfl⟩ := List.mem_map.1 hx
      exact (allB_mem hH hN).2 (hb.steps i))
    rw [List.length_map, List.length_range] at this
    omega
theorem isCyc_in {H N : Nat} (hH : 1 ≤ H ∧ H ≤ 10) (hN : N ≤ 14) {b : Bk} (hb : InB H N b) : mIsCyclicBank b = (decide (b ∈ cycBk H N), true) := by
  have hf := orb_found_in hH hN hb
  have e : decide ((mOrb b).2.2 = true ∧ (mOrb b).1 = 0) = decide (b ∈ cycBk H N) := by
    refine decide_eq_decide.2 ⟨fun q => ?_, fun q => ?_⟩
    · exact List.mem_filter.2 ⟨(allB_mem hH hN).2 hb, decide_eq_true q⟩
    · exact of_decide_eq_true (List.mem_filter.1 q).2
  unfold mIsCyclicBank
  rw [mOrbit_yes hb.1, e, hf]
theorem cycB_inj {H N : Nat} (hH : 1 ≤ H ∧ H ≤ 10) (hN : N ≤ 14) : ∀ x ∈ cycBk H N, ∀ y ∈ cycBk H N, stepB x = stepB y → x = y := by
  have ho := (cyc_onto hH hN).1
  have hn : (cycBk H N).Nodup := (allB_nodup H N).sublist List.filter_sublist
  exact inj_of_nodup (nodup_of_onto hn (fun x hx => by
    obtain ⟨a, ha, e⟩ := (ho x).1 hx
    exact List.mem_map.2 ⟨a, ha, e⟩) (by rw [List.length_map]; exact Nat.le_refl _))
/-- a cyclic bank state: it comes back, and one of its pasts does -/
theorem cyc_elem {H N : Nat} (hH : 1 ≤ H ∧ H ≤ 10) (hN : N ≤ 14) {b : Bk} (hb : b ∈ cycBk H N) :
    mIsCyclicBank b = (true, true) ∧ (mBankPasts b).2 = true ∧ (∀ a ∈ (mBankPasts b).1, (mIsCyclicBank a).2 = true) ∧ (mBankPasts b).1.countP (fun a => (mIsCyclicBank a).1) = 1 := by
  have hin : InB H N b := (allB_mem hH hN).1 (List.mem_filter.1 hb).1
  have hp : mBankPasts b = ((allB H N).filter (fun a => decide (stepB a = b)), true) := by
    unfold mBankPasts
    obtain ⟨h1, h2, h3⟩ := hin
    rw [if_pos ⟨bank_iff.2 h1, by rw [h3]; omega⟩, h2, h3]
    rfl
  refine ⟨by rw [isCyc_in hH hN hin, decide_eq_true hb], by rw [hp], fun a ha => ?_, ?_⟩
  · rw [hp] at ha
    rw [isCyc_in hH hN ((allB_mem hH hN).1 (List.mem_filter.1 ha).1)]
  · rw [hp]
    show ((allB H N).filter (fun a => decide (stepB a = b))).countP (fun a => (mIsCyclicBank a).1) = 1
    obtain ⟨a0, ha0, e0⟩ := ((cyc_onto hH hN).1 b).1 hb
    rw [List.countP_filter, List.countP_eq_length_filter]
    have e : (allB H N).filter (fun a => (mIsCyclicBank a).1 && decide (stepB a = b)) = (allB H N).filter (fun a => decide (a = a0)) := by
      refine List.filter_congr fun a ha => ?_
      rw [isCyc_in hH hN ((allB_mem hH hN).1 ha)]
      show (decide (a ∈ cycBk H N) && decide (stepB a = b)) = decide (a = a0)
      by_cases q : a = a0
      · subst q
        rw [decide_eq_true ha0, decide_eq_true e0, decide_eq_true rfl]; rfl
      · rw [decide_eq_false q, Bool.and_eq_false_iff]
        by_cases q2 : a ∈ cycBk H N
        · exact .inr (decide_eq_false fun e => q (cycB_inj hH hN a q2 a0 ha0 (e.trans e0.symm)))
        · exact .inl (decide_eq_false q2)
    rw [e, filter_single (allB_nodup H N) (List.mem_filter.1 ha0).1]
    rfl
theorem cyc_cases {h n : Int} (q : (mCyclicBanks h n).2 = true) : ∃ H N : Nat, (1 ≤ H ∧ H ≤ 10) ∧ N ≤ 14 ∧ (mCyclicBanks h n).1 = cycBk H N := by
  unfold mCyclicBanks at q ⊢
  split at q
  · next c =>
    rw [if_pos c]
    exact ⟨h.toNat, n.toNat, by omega, by omega, rfl⟩
  · cases q
/-- what the law asks of a list of cyclic bank states -/
theorem cyc_list {h n : Int} (q : (mCyclicBanks h n).2 = true) : 0 < (mCyclicBanks h n).1.length ∧ ∀ i, i < (mCyclicBanks h n).1.length →
    mIsCyclicBank ((mCyclicBanks h n).1.getD i noBank) = (true, true) ∧ (mBankPasts ((mCyclicBanks h n).1.getD i noBank)).2 = true ∧ (∀ a ∈ (mBankPasts ((mCyclicBanks h n).1.getD i noBank)).1, (mIsCyclicBank a).2 = true) ∧ (mBankPasts ((mCyclicBanks h n).1.getD i noBank)).1.countP (fun a => (mIsCyclicBank a).1) = 1 := by
  obtain ⟨H, N, hH, hN, e⟩ := cyc_cases q
  rw [e]
  constructor
  · obtain ⟨b, hb⟩ := (cyc_onto hH hN).2
    exact List.length_pos_of_mem hb
  · intro i hi
    refine cyc_elem hH hN ?_
    rw [List.getD_eq_getElem?_getD, List.getElem?_eq_getElem hi]
    exact List.getElem_mem _
theorem idx_mod (a b m : Nat) (hm : 0 < m) : ∃ I : Nat, Int.tmod ((a : Int) + (b : Int)) (m : Int) = (I : Int) ∧ I < m :=
  ⟨(a + b) % m, by rw [Int.tmod_eq_emod_of_nonneg (by omega)]; push_cast; rfl, Nat.mod_lt _ hm⟩
theorem count_take {P : List Bk} {J : Nat} {c : Bk → Bool} (h : J < P.length) : (P.take (J + 1)).countP c = (P.take J).countP c + if c (P.getD J noBank) = true then 1 else 0 := by
  rw [take_rowK h, List.countP_append, List.countP_cons, List.countP_nil, Nat.zero_add]
end Go.Proofs.YtnebfojnbjbogaaGreatDoor
