/- All cyclic bank states: what a step makes of all of them, for as long as these become fewer: mathematics. No condition. -/
import Derived.Test.YtnebfojnbjbogaaDoorBrM
import Derived.Test.YtnebfojnbjbogaaDoorGf
namespace Go.Proofs.YtnebfojnbjbogaaDoor
set_option linter.unusedVariables false
set_option linter.unusedSimpArgs false

/-- all bank states of a height and a number of cards -/
def allB (H N : Nat) : List Bk := baL H N (min H (N + 1))
/-- the order of these -/
def befK (a b : Bk) : Bool := decide (a.l < b.l) || (decide (a.l = b.l) && befB a.p b.p)
theorem befK_irrefl (a : Bk) : befK a a = false := by unfold befK; simp [befB_irrefl]
theorem baL_up (H N : Nat) : ∀ k, k ≤ min H (N + 1) → (baL H N k).Pairwise (fun a b => befK a b = true)
  | 0, _ => by rw [baL_zero]; exact List.Pairwise.nil
  | k + 1, hk => by
    rw [baL_succ]
    refine List.pairwise_append.2 ⟨baL_up H N k (by omega), ?_, fun a ha b hb => ?_⟩
    · unfold rowBk
      rw [List.pairwise_map]
      refine (allF_up (N - k) (N - k) H).imp (fun {p q} h => ?_)
      show befK _ _ = true
      unfold befK
      simp [h]
    · obtain ⟨l, q, rfl, hl, _⟩ := baL_mem (by omega) ha
      unfold rowBk at hb
      obtain ⟨p, _, rfl⟩ := List.mem_map.1 hb
      have : decide (((l : Nat) : Int) < ((k : Nat) : Int)) = true := decide_eq_true (by omega)
      show (decide (((l : Nat) : Int) < ((k : Nat) : Int)) || _) = true
      rw [this]
      rfl
theorem allB_up (H N : Nat) : (allB H N).Pairwise (fun a b => befK a b = true) := baL_up H N _ (Nat.le_refl _)
theorem nodup_befK {l : List Bk} (h : l.Pairwise (fun a b => befK a b = true)) : l.Nodup :=
  h.imp (fun {a b} hab e => by subst e; rw [befK_irrefl] at hab; cases hab)
theorem allB_nodup (H N : Nat) : (allB H N).Nodup := nodup_befK (allB_up H N)
/-- a bank state with this height and so many cards -/
def InB (H N : Nat) (b : Bk) : Prop := BankOk b ∧ b.h = (H : Int) ∧ b.l + b.p.sum = (N : Int)
theorem allB_mem {H N : Nat} (hH : 1 ≤ H ∧ H ≤ 10) (hN : N ≤ 14) {b : Bk} : b ∈ allB H N ↔ InB H N b := by
  constructor
  · intro hb
    have hok := baL_ok hH hN hb
    obtain ⟨l, q, rfl, hl, s1, s2, s3, s4⟩ := baL_mem (Nat.le_refl _) hb
    exact ⟨hok, rfl, by show ((l : Nat) : Int) + q.sum = N; omega⟩
  · rintro ⟨hk, hh, hs⟩
    obtain ⟨h, l, p⟩ := b
    have h2 : 0 ≤ l ∧ l ≤ h - 1 := hk.2.1
    have h3 : 0 ≤ p.sum ∧ p.sum ≤ 28 ∧ (p.length : Int) ≤ p.sum := hk.sum
    have hG : Good p := hk.2.2.1
    have hle : ∀ x ∈ p, 1 ≤ x ∧ x ≤ h := fun x hx => hk.le (b := ⟨h, l, p⟩) hx
    simp only at hh hs
    subst hh
    obtain ⟨L, rfl⟩ := Int.eq_ofNat_of_zero_le h2.1
    unfold allB baL
    refine List.mem_flatMap.2 ⟨L, List.mem_range.2 (by omega), ?_⟩
    unfold rowBk
    exact List.mem_map.2 ⟨p, mem_allF (N - L) (N - L) H p (Nat.le_refl _) (fun x hx => (hle x hx).1) hG.2.1 (fun x hx => (hle x hx).2) (by omega), rfl⟩
theorem InB.step {H N : Nat} {b : Bk} (h : InB H N b) : InB H N (stepB b) := by
  have hs := step_ok h.1
  exact ⟨hs.1, h.2.1, by rw [hs.2.1]; exact h.2.2⟩
theorem InB.steps {H N : Nat} {b : Bk} (h : InB H N b) : ∀ k, InB H N (stepsB k b)
  | 0 => h
  | k + 1 => (InB.steps h k).step
/-- those to which k steps lead -/
def imgB (H N k : Nat) : List Bk := (allB H N).filter fun b => decide (b ∈ (allB H N).map (stepsB k))
theorem imgB_up (H N k : Nat) : (imgB H N k).Pairwise (fun a b => befK a b = true) := (allB_up H N).sublist List.filter_sublist
theorem imgB_nodup (H N k : Nat) : (imgB H N k).Nodup := nodup_befK (imgB_up H N k)
theorem imgB_zero (H N : Nat) : imgB H N 0 = allB H N := by
  unfold imgB
  refine List.filter_eq_self.2 fun b hb => decide_eq_true (List.mem_map.2 ⟨b, hb, rfl⟩)
theorem imgB_mem {H N : Nat} (hH : 1 ≤ H ∧ H ≤ 10) (hN : N ≤ 14) (k : Nat) {b : Bk} : b ∈ imgB H N k ↔ ∃ a, InB H N a ∧ stepsB k a = b := by
  unfold imgB
  constructor
  · intro h
    obtain ⟨a, ha, e⟩ := List.mem_map.1 (of_decide_eq_true (List.mem_filter.1 h).2)
    exact ⟨a, (allB_mem hH hN).1 ha, e⟩
  · rintro ⟨a, ha, rfl⟩
    exact List.mem_filter.2 ⟨(allB_mem hH hN).2 (ha.steps k), decide_eq_true (List.mem_map.2 ⟨a, (allB_mem hH hN).2 ha, rfl⟩)⟩
theorem imgB_in {H N : Nat} (hH : 1 ≤ H ∧ H ≤ 10) (hN : N ≤ 14) {k : Nat} {b : Bk} (h : b ∈ imgB H N k) : InB H N b := (allB_mem hH hN).1 (List.mem_filter.1 h).1
theorem imgB_succ {H N : Nat} (hH : 1 ≤ H ∧ H ≤ 10) (hN : N ≤ 14) (k : Nat) {b : Bk} : b ∈ imgB H N (k + 1) ↔ ∃ a ∈ imgB H N k, stepB a = b := by
  rw [imgB_mem hH hN]
  constructor
  · rintro ⟨a, ha, rfl⟩
    exact ⟨stepsB k a, (imgB_mem hH hN k).2 ⟨a, ha, rfl⟩, rfl⟩
  · rintro ⟨c, hc, rfl⟩
    obtain ⟨a, ha, rfl⟩ := (imgB_mem hH hN k).1 hc
    exact ⟨a, ha, rfl⟩
theorem imgB_sub {H N : Nat} (hH : 1 ≤ H ∧ H ≤ 10) (hN : N ≤ 14) {k : Nat} {b : Bk} (h : b ∈ imgB H N (k + 1)) : b ∈ imgB H N k := by
  obtain ⟨a, ha, rfl⟩ := (imgB_mem hH hN (k + 1)).1 h
  exact (imgB_mem hH hN k).2 ⟨stepB a, ha.step, by show stepsB k (stepsB 1 a) = _; rw [← stepsB_plus]⟩
theorem imgB_le {H N : Nat} (hH : 1 ≤ H ∧ H ≤ 10) (hN : N ≤ 14) (k : Nat) : (imgB H N (k + 1)).length ≤ (imgB H N k).length := nodup_len (imgB_nodup H N (k + 1)) fun b hb => imgB_sub hH hN hb
/-! ### When they become no fewer -/
theorem mem_of_full {α : Type} [DecidableEq α] {l m : List α} (hl : l.Nodup) (hs : ∀ x ∈ l, x ∈ m) (h : m.length ≤ l.length) : ∀ x ∈ m, x ∈ l := by
  intro x hx
  by_cases q : x ∈ l
  · exact q
  · have := nodup_len (l := x :: l) (m := m) (List.nodup_cons.2 ⟨q, hl⟩) (fun y hy => by
      rcases List.mem_cons.1 hy with rfl | hy
      · exact hx
      · exact hs y hy)
    simp only [List.length_cons] at this
    omega
theorem nodup_of_onto {α : Type} [DecidableEq α] : ∀ {m l : List α}, l.Nodup → (∀ x ∈ l, x ∈ m) → m.length ≤ l.length → m.Nodup
  | [], _, _, _, _ => List.nodup_nil
  | a :: m, l, hl, hs, h => by
    have hal : a ∈ l := mem_of_full hl hs h a (by simp)
    have hp := (List.perm_cons_erase hal).length_eq
    simp only [List.length_cons] at hp h
    have hn2 : (l.erase a).Nodup := hl.erase a
    have hs2 : ∀ x ∈ l.erase a, x ∈ m := fun x hx => by
      have h1 := (hl.mem_erase_iff).1 hx
      rcases List.mem_cons.1 (hs x h1.2) with e | e
      · exact absurd e h1.1
      · exact e
    have ih := nodup_of_onto hn2 hs2 (by omega)
    refine List.nodup_cons.2 ⟨fun ham => ?_, ih⟩
    have := mem_of_full hn2 hs2 (by omega) a ham
    exact (hl.mem_erase_iff.1 this).1 rfl
theorem inj_of_nodup {α β : Type} {f : α → β} : ∀ {l : List α}, (l.map f).Nodup → ∀ x ∈ l, ∀ y ∈ l, f x = f y → x = y
  | [], _, x, hx, _, _, _ => by cases hx
  | a :: l, h, x, hx, y, hy, e => by
    rw [List.map_cons] at h
    have hc := List.nodup_cons.1 h
    rcases List.mem_cons.1 hx with e1 | hx2
    · rcases List.mem_cons.1 hy with e2 | hy2
      · rw [e1, e2]
      · exact absurd (List.mem_map.2 ⟨y, hy2, by rw [← e, e1]⟩) hc.1
    · rcases List.mem_cons.1 hy with e2 | hy2
      · exact absurd (List.mem_map.2 ⟨x, hx2, by rw [e, e2]⟩) hc.1
      · exact inj_of_nodup hc.2 x hx2 y hy2 e
theorem rowLens : ∀ H, H < 11 → ∀ N, N < 15 → (allB H N).length ≤ 1000 := by decide +kernel
theorem allB_small {H N : Nat} (hH : 1 ≤ H ∧ H ≤ 10) (hN : N ≤ 14) : (allB H N).length ≤ 1000 := rowLens H (by omega) N (by omega)
theorem seekB_miss {b : Bk} : ∀ (f K : Nat), (orbF b f K).2.2 = false → ∀ q, K ≤ q → q < K + f → ∀ p, p < q → stepsB p b ≠ stepsB q b
  | 0, K, _, q, h1, h2, _, _ => by omega
  | f + 1, K, h, q, h1, h2, p, hp => by
    have e : orbF b (f + 1) K = match seekB b K K with | some i => ((i : Int), (K : Int) - i, true) | none => orbF b f (K + 1) := rfl
    cases hq : seekB b K K with
    | some i => rw [hq] at e; rw [e] at h; cases h
    | none =>
      rw [hq] at e
      rw [e] at h
      by_cases hqk : q = K
      · subst hqk; exact seekB_no hq p hp
      · exact seekB_miss f (K + 1) h q (by omega) (by omega) p hp
/-- in a set that a step leads onto itself, each bank state comes back -/
theorem onto_cyc {S : List Bk} (hn : S.Nodup) (h1 : S.length ≤ 1000) (hs : ∀ x ∈ S, stepB x ∈ S) (ho : ∀ x ∈ S, ∃ y ∈ S, stepB y = x) {b : Bk} (hb : b ∈ S) : (mOrb b).2.2 = true ∧ (mOrb b).1 = 0 := by
  have hin : ∀ k, stepsB k b ∈ S := fun k => by
    induction k with
    | zero => exact hb
    | succ k ih => exact hs _ ih
  have hnm : (S.map stepB).Nodup := nodup_of_onto hn (fun x hx => by
    obtain ⟨y, hy, e⟩ := ho x hx
    exact List.mem_map.2 ⟨y, hy, e⟩) (by rw [List.length_map]; exact Nat.le_refl _)
  have hinj := inj_of_nodup hnm
  have hfound : (mOrb b).2.2 = true := by
    cases hq : (mOrb b).2.2 with
    | true => rfl
    | false =>
      have hm := seekB_miss 1001 0 hq
      have hnd : ((List.range (S.length + 1)).map fun i => stepsB i b).Nodup := by
        unfold List.Nodup
        rw [List.pairwise_map]
        refine List.Pairwise.imp_of_mem (R := fun a b => a < b) (fun {x y} hx hy hxy => ?_) List.pairwise_lt_range
        have := List.mem_range.1 hy
        exact hm y (by omega) (by omega) x hxy
      have := nodup_len hnd (m := S) (fun x hx => by
        obtain ⟨i, _, rfl⟩ := List.mem_map.1 hx
        exact hin i)
      rw [List.length_map, List.length_range] at this
      omega
  obtain ⟨i, M, g1, g2, g3, g4, g5⟩ := orb_foundB hfound
  refine ⟨hfound, ?_⟩
  rw [g3]
  show ((i : Nat) : Int) = 0
  cases i with
  | zero => rfl
  | succ i =>
    obtain ⟨M', rfl⟩ : ∃ M', M = M' + 1 := ⟨M - 1, by omega⟩
    have := hinj (stepsB i b) (hin i) (stepsB M' b) (hin M') g4
    exact absurd this (g5 M' (by omega) i (by omega))
def cycBk (H N : Nat) : List Bk := (allB H N).filter fun b => decide ((mOrb b).2.2 = true ∧ (mOrb b).1 = 0)
theorem stepsB_again {b : Bk} {L : Nat} (h : stepsB L b = b) : ∀ m, stepsB (m * L) b = b
  | 0 => by rw [Nat.zero_mul]; rfl
  | m + 1 => by rw [Nat.succ_mul, stepsB_plus, h, stepsB_again h m]
theorem img_cyc {H N : Nat} (hH : 1 ≤ H ∧ H ≤ 10) (hN : N ≤ 14) {k : Nat} (h : (imgB H N (k + 1)).length = (imgB H N k).length) : imgB H N (k + 1) = cycBk H N := by
  have hback := mem_of_full (imgB_nodup H N (k + 1)) (fun b hb => imgB_sub hH hN hb) (by omega)
  have hlen : (imgB H N (k + 1)).length ≤ 1000 := Nat.le_trans (List.length_filter_le _ _) (allB_small hH hN)
  unfold cycBk
  conv => lhs; unfold imgB
  refine List.filter_congr fun b hb => ?_
  have hm : b ∈ (allB H N).map (stepsB (k + 1)) ↔ b ∈ imgB H N (k + 1) := by
    unfold imgB
    constructor
    · intro q; exact List.mem_filter.2 ⟨hb, decide_eq_true q⟩
    · intro q; exact of_decide_eq_true (List.mem_filter.1 q).2
  refine decide_eq_decide.2 (hm.trans ⟨fun q => ?_, fun q => ?_⟩)
  · refine onto_cyc (imgB_nodup H N (k + 1)) hlen (fun x hx => ?_) (fun x hx => ?_) q
    · exact (imgB_succ hH hN k).2 ⟨x, imgB_sub hH hN hx, rfl⟩
    · obtain ⟨y, hy, e⟩ := (imgB_succ hH hN k).1 hx
      exact ⟨y, hback y hy, e⟩
  · obtain ⟨i, M, g1, g2, g3, g4, g5⟩ := orb_foundB q.1
    have hi : i = 0 := by
      have := q.2
      rw [g3] at this
      have : ((i : Nat) : Int) = 0 := this
      omega
    subst hi
    have hM : stepsB M b = b := g4.symm
    have hag := stepsB_again hM (k + 1)
    have hle : k + 1 ≤ (k + 1) * M := Nat.le_mul_of_pos_right _ (by omega)
    refine (imgB_mem hH hN (k + 1)).2 ⟨stepsB ((k + 1) * M - (k + 1)) b, ((allB_mem hH hN).1 hb).steps _, ?_⟩
    rw [← stepsB_plus, show k + 1 + ((k + 1) * M - (k + 1)) = (k + 1) * M by omega]
    exact hag
end Go.Proofs.YtnebfojnbjbogaaDoor
