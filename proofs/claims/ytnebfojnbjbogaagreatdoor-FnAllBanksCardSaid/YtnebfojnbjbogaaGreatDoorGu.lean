/- Several texts in one: CyM, Cmp, CyA, CyB, CyC, CyI, CyS. No condition. -/
import Derived.Test.YtnebfojnbjbogaaGreatDoorGw
import Derived.Test.YtnebfojnbjbogaaGreatDoorGf
import Derived.Test.YtnebfojnbjbogaaGreatDoorGb
import Derived.Test.YtnebfojnbjbogaaGreatDoorGa
import Derived.Test.YtnebfojnbjbogaaGreatDoorShelfS
import Derived.Shelf.SlSortCmp.WholeK
import Derived.Test.YtnebfojnbjbogaaGreatDoorBoI
import Derived.Maps.RangeWalk
import Derived.Test.YtnebfojnbjbogaaGreatDoorBoP
import Derived.Test.YtnebfojnbjbogaaGreatDoorBbU
import Derived.Test.YtnebfojnbjbogaaGreatDoorBoS
import Derived.Test.YtnebfojnbjbogaaGreatDoorGi
namespace Go.Proofs.YtnebfojnbjbogaaGreatDoor
section
set_option linter.unusedVariables false
set_option linter.unusedSimpArgs false

/-- all bank states of a height and a number of cards -/
def allB (H N : Nat) : List Bk := baL H N (min H (N + 1))
/-- the order of these -/
def befK (a b : Bk) : Bool := decide (a.l < b.l) || (decide (a.l = b.l) && befB a.p b.p)
theorem befK_irrefl (a : Bk) : befK a a = false := by unfold befK; simp [befB_irrefl]
theorem baL_up (H N : Nat) : ∀ k, k ≤ min H (N + 1) → (baL H N k).Pairwise (fun a b => befK a b = true)
  | 0, _ => by rw [baL_zero]; exact List.Pairwise.nil
  | k + 1, hk => by
    rw [baL_succ]
    refine List.pairwise_append.2 ⟨baL_up H N k (by omega), ?_, fun a ha b hb => ?_⟩
    · unfold rowBk
      rw [List.pairwise_map]
      refine (allF_up (N - k) (N - k) H).imp (fun {p q} h => ?_)
      show befK _ _ = true
      unfold befK
      simp [h]
    · obtain ⟨l, q, rfl, hl, _⟩ := baL_mem (by omega) ha
      unfold rowBk at hb
      obtain ⟨p, _, rfl⟩ := List.mem_map.1 hb
      have : decide (((l : Nat) : Int) < ((k : Nat) : Int)) = true := decide_eq_true (by omega)
      show (decide (((l : Nat) : Int) < ((k : Nat) : Int)) || _) = true
      rw [this]
      rfl
theorem allB_up (H N : Nat) : (allB H N).Pairwise (fun a b => befK a b = true) := baL_up H N _ (Nat.le_refl _)
theorem nodup_befK {l : List Bk} (h : l.Pairwise (fun a b => befK a b = true)) : l.Nodup :=
  h.imp (fun {a b} hab e => by subst e; rw [befK_irrefl] at hab; cases hab)
theorem allB_nodup (H N : Nat) : (allB H N).Nodup := nodup_befK (allB_up H N)
/-- a bank state with this height and so many cards -/
def InB (H N : Nat) (b : Bk) : Prop := BankOk b ∧ b.h = (H : Int) ∧ b.l + b.p.sum = (N : Int)
theorem allB_mem {H N : Nat} (hH : 1 ≤ H ∧ H ≤ 10) (hN : N ≤ 14) {b : Bk} : b ∈ allB H N ↔ InB H N b := by
  constructor
  · intro hb
    have hok := baL_ok hH hN hb
    obtain ⟨l, q, rfl, hl, s1, s2, s3, s4⟩ := baL_mem (Nat.le_refl _) hb
    exact ⟨hok, rfl, by show ((l : Nat) : Int) + q.sum = N; omega⟩
  · rintro ⟨hk, hh, hs⟩
    obtain ⟨h, l, p⟩ := b
    have h2 : 0 ≤ l ∧ l ≤ h - 1 := hk.2.1
    have h3 : 0 ≤ p.sum ∧ p.sum ≤ 28 ∧ (p.length : Int) ≤ p.sum := hk.sum
    have hG : Good p := hk.2.2.1
    have hle : ∀ x ∈ p, 1 ≤ x ∧ x ≤ h := fun x hx => hk.le (b := ⟨h, l, p⟩) hx
    simp only at hh hs
    subst hh
    obtain ⟨L, rfl⟩ := Int.eq_ofNat_of_zero_le h2.1
    unfold allB baL
    refine List.mem_flatMap.2 ⟨L, List.mem_range.2 (by omega), ?_⟩
    unfold rowBk
    exact List.mem_map.2 ⟨p, mem_allF (N - L) (N - L) H p (Nat.le_refl _) (fun x hx => (hle x hx).1) hG.2.1 (fun x hx => (hle x hx).2) (by omega), rfl⟩
theorem InB.step {H N : Nat} {b : Bk} (h : InB H N b) : InB H N (stepB b) := by
  have hs := step_ok h.1
  exact ⟨hs.1, h.2.1, by rw [hs.2.1]; exact h.2.2⟩
theorem InB.steps {H N : Nat} {b : Bk} (h : InB H N b) : ∀ k, InB H N (stepsB k b)
  | 0 => h
  | k + 1 => (InB.steps h k).step
/-- those to which k steps lead -/
def imgB (H N k : Nat) : List Bk := (allB H N).filter fun b => decide (b ∈ (allB H N).map (stepsB k))
theorem imgB_up (H N k : Nat) : (imgB H N k).Pairwise (fun a b => befK a b = true) := (allB_up H N).sublist List.filter_sublist
theorem imgB_nodup (H N k : Nat) : (imgB H N k).Nodup := nodup_befK (imgB_up H N k)
theorem imgB_zero (H N : Nat) : imgB H N 0 = allB H N := by
  unfold imgB
  refine List.filter_eq_self.2 fun b hb => decide_eq_true (List.mem_map.2 ⟨b, hb, rfl⟩)
theorem imgB_mem {H N : Nat} (hH : 1 ≤ H ∧ H ≤ 10) (hN : N ≤ 14) (k : Nat) {b : Bk} : b ∈ imgB H N k ↔ ∃ a, InB H N a ∧ stepsB k a = b := by
  unfold imgB
  constructor
  · intro h
    obtain ⟨a, ha, e⟩ := List.mem_map.1 (of_decide_eq_true (List.mem_filter.1 h).2)
    exact ⟨a, (allB_mem hH hN).1 ha, e⟩
  · rintro ⟨a, ha, rfl⟩
    exact List.mem_filter.2 ⟨(allB_mem hH hN).2 (ha.steps k), decide_eq_true (List.mem_map.2 ⟨a, (allB_mem hH hN).2 ha, rfl⟩)⟩
theorem imgB_in {H N : Nat} (hH : 1 ≤ H ∧ H ≤ 10) (hN : N ≤ 14) {k : Nat} {b : Bk} (h : b ∈ imgB H N k) : InB H N b := (allB_mem hH hN).1 (List.mem_filter.1 h).1
theorem imgB_succ {H N : Nat} (hH : 1 ≤ H ∧ H ≤ 10) (hN : N ≤ 14) (k : Nat) {b : Bk} : b ∈ imgB H N (k + 1) ↔ ∃ a ∈ imgB H N k, stepB a = b := by
  rw [imgB_mem hH hN]
  constructor
  · rintro ⟨a, ha, rfl⟩
    exact ⟨stepsB k a, (imgB_mem hH hN k).2 ⟨a, ha, rfl⟩, rfl⟩
  · rintro ⟨c, hc, rfl⟩
    obtain ⟨a, ha, rfl⟩ := (imgB_mem hH hN k).1 hc
    exact ⟨a, ha, rfl⟩
theorem imgB_sub {H N : Nat} (hH : 1 ≤ H ∧ H ≤ 10) (hN : N ≤ 14) {k : Nat} {b : Bk} (h : b ∈ imgB H N (k + 1)) : b ∈ imgB H N k := by
  obtain ⟨a, ha, rfl⟩ := (imgB_mem hH hN (k + 1)).1 h
  exact (imgB_mem hH hN k).2 ⟨stepB a, ha.step, by show stepsB k (stepsB 1 a) = _; rw [← stepsB_plus]⟩
theorem imgB_le {H N : Nat} (hH : 1 ≤ H ∧ H ≤ 10) (hN : N ≤ 14) (k : Nat) : (imgB H N (k + 1)).length ≤ (imgB H N k).length := nodup_len (imgB_nodup H N (k + 1)) fun b hb => imgB_sub hH hN hb
/-! ### When they become no fewer -/
theorem mem_of_full {α : Type} [DecidableEq α] {l m : List α} (hl : l.Nodup) (hs : ∀ x ∈ l, x ∈ m) (h : m.length ≤ l.length) : ∀ x ∈ m, x ∈ l := by
  intro x hx
  by_cases q : x ∈ l
  · exact q
  · have := nodup_len (l := x :: l) (m := m) (List.nodup_cons.2 ⟨q, hl⟩) (fun y hy => by
      rcases List.mem_cons.1 hy with rfl | hy
      · exact hx
      · exact hs y hy)
    simp only [List.length_cons] at this
    omega
theorem nodup_of_onto {α : Type} [DecidableEq α] : ∀ {m l : List α}, l.Nodup → (∀ x ∈ l, x ∈ m) → m.length ≤ l.length → m.Nodup
  | [], _, _, _, _ => List.nodup_nil
  | a :: m, l, hl, hs, h => by
    have hal : a ∈ l := mem_of_full hl hs h a (by simp)
    have hp := (List.perm_cons_erase hal).length_eq
    simp only [List.length_cons] at hp h
    have hn2 : (l.erase a).Nodup := hl.erase a
    have hs2 : ∀ x ∈ l.erase a, x ∈ m := fun x hx => by
      have h1 := (hl.mem_erase_iff).1 hx
      rcases List.mem_cons.1 (hs x h1.2) with e | e
      · exact absurd e h1.1
      · exact e
    have ih := nodup_of_onto hn2 hs2 (by omega)
    refine List.nodup_cons.2 ⟨fun ham => ?_, ih⟩
    have := mem_of_full hn2 hs2 (by omega) a ham
    exact (hl.mem_erase_iff.1 this).1 rfl
theorem inj_of_nodup {α β : Type} {f : α → β} : ∀ {l : List α}, (l.map f).Nodup → ∀ x ∈ l, ∀ y ∈ l, f x = f y → x = y
  | [], _, x, hx, _, _, _ => by cases hx
  | a :: l, h, x, hx, y, hy, e => by
    rw [List.map_cons] at h
    have hc := List.nodup_cons.1 h
    rcases List.mem_cons.1 hx with e1 | hx2
    · rcases List.mem_cons.1 hy with e2 | hy2
      · rw [e1, e2]
      · exact absurd (List.mem_map.2 ⟨y, hy2, by rw [← e, e1]⟩) hc.1
    · rcases List.mem_cons.1 hy with e2 | hy2
      · exact absurd (List.mem_map.2 ⟨x, hx2, by rw [e, e2]⟩) hc.1
      · exact inj_of_nodup hc.2 x hx2 y hy2 e
theorem rowLens : ∀ H, H < 11 → ∀ N, N < 15 → (allB H N).length ≤ 1000 := by decide +kernel
theorem allB_small {H N : Nat} (hH : 1 ≤ H ∧ H ≤ 10) (hN : N ≤ 14) : (allB H N).length ≤ 1000 := rowLens H (by omega) N (by omega)
theorem seekB_miss {b : Bk} : ∀ (f K : Nat), (orbF b f K).2.2 = false → ∀ q, K ≤ q → q < K + f → ∀ p, p < q → stepsB p b ≠ stepsB q b
  | 0, K, _, q, h1, h2, _, _ => by omega
  | f + 1, K, h, q, h1, h2, p, hp => by
    have e : orbF b (f + 1) K = match seekB b K K with | some i => ((i : Int), (K : Int) - i, true) | none => orbF b f (K + 1) := rfl
    cases hq : seekB b K K with
    | some i => rw [hq] at e; rw [e] at h; cases h
    | none =>
      rw [hq] at e
      rw [e] at h
      by_cases hqk : q = K
      · subst hqk; exact seekB_no hq p hp
      · exact seekB_miss f (K + 1) h q (by omega) (by omega) p hp
/-- in a set that a step leads onto itself, each bank state comes back -/
theorem onto_cyc {S : List Bk} (hn : S.Nodup) (h1 : S.length ≤ 1000) (hs : ∀ x ∈ S, stepB x ∈ S) (ho : ∀ x ∈ S, ∃ y ∈ S, stepB y = x) {b : Bk} (hb : b ∈ S) : (mOrb b).2.2 = true ∧ (mOrb b).1 = 0 := by
  have hin : ∀ k, stepsB k b ∈ S := fun k => by
    induction k with
    | zero => exact hb
    | succ k ih => exact hs _ ih
  have hnm : (S.map stepB).Nodup := nodup_of_onto hn (fun x hx => by
    obtain ⟨y, hy, e⟩ := ho x hx
    exact List.mem_map.2 ⟨y, hy, e⟩) (by rw [List.length_map]; exact Nat.le_refl _)
  have hinj := inj_of_nodup hnm
  have hfound : (mOrb b).2.2 = true := by
    cases hq : (mOrb b).2.2 with
    | true => rfl
    | false =>
      have hm := seekB_miss 1001 0 hq
      have hnd : ((List.range (S.length + 1)).map fun i => stepsB i b).Nodup := by
        unfold List.Nodup
        rw [List.pairwise_map]
        refine List.Pairwise.imp_of_mem (R := fun a b => a < b) (fun {x y} hx hy hxy => ?_) List.pairwise_lt_range
        have := List.mem_range.1 hy
        exact hm y (by omega) (by omega) x hxy
      have := nodup_len hnd (m := S) (fun x hx => by
        obtain ⟨i, _, rfl⟩ := List.mem_map.1 hx
        exact hin i)
      rw [List.length_map, List.length_range] at this
      omega
  obtain ⟨i, M, g1, g2, g3, g4, g5⟩ := orb_foundB hfound
  refine ⟨hfound, ?_⟩
  rw [g3]
  show ((i : Nat) : Int) = 0
  cases i with
  | zero => rfl
  | succ i =>
    obtain ⟨M', rfl⟩ : ∃ M', M = M' + 1 := ⟨M - 1, by omega⟩
    have := hinj (stepsB i b) (hin i) (stepsB M' b) (hin M') g4
    exact absurd this (g5 M' (by omega) i (by omega))
def cycBk (H N : Nat) : List Bk := (allB H N).filter fun b => decide ((mOrb b).2.2 = true ∧ (mOrb b).1 = 0)
theorem stepsB_again {b : Bk} {L : Nat} (h : stepsB L b = b) : ∀ m, stepsB (m * L) b = b
  | 0 => by rw [Nat.zero_mul]; rfl
  | m + 1 => by rw [Nat.succ_mul, stepsB_plus, h, stepsB_again h m]
theorem img_cyc {H N : Nat} (hH : 1 ≤ H ∧ H ≤ 10) (hN : N ≤ 14) {k : Nat} (h : (imgB H N (k + 1)).length = (imgB H N k).length) : imgB H N (k + 1) = cycBk H N := by
  have hback := mem_of_full (imgB_nodup H N (k + 1)) (fun b hb => imgB_sub hH hN hb) (by omega)
  have hlen : (imgB H N (k + 1)).length ≤ 1000 := Nat.le_trans (List.length_filter_le _ _) (allB_small hH hN)
  unfold cycBk
  conv => lhs; unfold imgB
  refine List.filter_congr fun b hb => ?_
  have hm : b ∈ (allB H N).map (stepsB (k + 1)) ↔ b ∈ imgB H N (k + 1) := by
    unfold imgB
    constructor
    · intro q; exact List.mem_filter.2 ⟨hb, decide_eq_true q⟩
    · intro q; exact of_decide_eq_true (List.mem_filter.1 q).2
  refine decide_eq_decide.2 (hm.trans ⟨fun q => ?_, fun q => ?_⟩)
  · refine onto_cyc (imgB_nodup H N (k + 1)) hlen (fun x hx => ?_) (fun x hx => ?_) q
    · exact (imgB_succ hH hN k).2 ⟨x, imgB_sub hH hN hx, rfl⟩
    · obtain ⟨y, hy, e⟩ := (imgB_succ hH hN k).1 hx
      exact ⟨y, hback y hy, e⟩
  · obtain ⟨i, M, g1, g2, g3, g4, g5⟩ := orb_foundB q.1
    have hi : i = 0 := by
      have := q.2
      rw [g3] at this
      have : ((i : Nat) : Int) = 0 := this
      omega
    subst hi
    have hM : stepsB M b = b := g4.symm
    have hag := stepsB_again hM (k + 1)
    have hle : k + 1 ≤ (k + 1) * M := Nat.le_mul_of_pos_right _ (by omega)
    refine (imgB_mem hH hN (k + 1)).2 ⟨stepsB ((k + 1) * M - (k + 1)) b, ((allB_mem hH hN).1 hb).steps _, ?_⟩
    rw [← stepsB_plus, show k + 1 + ((k + 1) * M - (k + 1)) = (k + 1) * M by omega]
    exact hag
end
end Go.Proofs.YtnebfojnbjbogaaGreatDoor
namespace Go.Proofs.YtnebfojnbjbogaaGreatDoor
section
open Go.RowKit
set_option linter.unusedVariables false
set_option linter.unusedSimpArgs false
set_option maxRecDepth 20000

theorem isNaN_any (x : Int) (w : World) : Calls Tryz.prog 70 #[.int .i64 x] w fun e w' => e = .returned (.bool false) ∧ w = w' := by
  have hx : (x != x) = false := by simp
  go_enter Tryz.func70, Tryz.ntmps70
  go_wp2
  go_ret
  exact ⟨rfl, rfl⟩
theorem cmpInt_any (x y : Int) (w : World) : Calls Tryz.prog 59 #[.int .i64 x, .int .i64 y] w fun e w' => e = .returned (.int .i64 (if x = y then 0 else if x < y then -1 else 1)) ∧ w = w' := by
  have h1 := isNaN_any x w
  have h2 := isNaN_any y w
  by_cases hxy : x = y
  · rw [if_pos hxy]
    subst hxy
    have H1 := Lib.hid h1; clear h1
    have H2 := Lib.hid h2; clear h2
    go_enter Tryz.func59, Tryz.ntmps59
    go_wp2_with fail
    with_reducible refine (H1.out).mono ?_
    rintro e w' ⟨rfl, rfl⟩
    go_wp2_with fail
    with_reducible refine (H2.out).mono ?_
    rintro e w' ⟨rfl, rfl⟩
    go_wp2_with fail
    go_ret
    exact ⟨rfl, rfl⟩
  · rw [if_neg hxy]
    by_cases hlt : x < y
    · rw [if_pos hlt]
      have H1 := Lib.hid h1; clear h1
      have H2 := Lib.hid h2; clear h2
      have Hxy := Lib.hid hxy; clear hxy
      go_enter Tryz.func59, Tryz.ntmps59
      go_wp2_with fail
      with_reducible refine (H1.out).mono ?_
      rintro e w' ⟨rfl, rfl⟩
      go_wp2_with fail
      with_reducible refine (H2.out).mono ?_
      rintro e w' ⟨rfl, rfl⟩
      go_wp2_with fail
      go_ret
      exact ⟨rfl, rfl⟩
    · rw [if_neg hlt]
      have hgt : y < x := by omega
      have hle : ¬ x < y := hlt
      have H1 := Lib.hid h1; clear h1
      have H2 := Lib.hid h2; clear h2
      have Hxy := Lib.hid hxy; clear hxy
      go_enter Tryz.func59, Tryz.ntmps59
      go_wp2_with fail
      with_reducible refine (H1.out).mono ?_
      rintro e w' ⟨rfl, rfl⟩
      go_wp2_with fail
      with_reducible refine (H2.out).mono ?_
      rintro e w' ⟨rfl, rfl⟩
      go_wp2_with fail
      go_ret
      exact ⟨rfl, rfl⟩

theorem cmpL_eq (xs ys : List Int) (k : Nat) (h : xs.take k = ys.take k) (hx : k ≤ xs.length) (hy : k ≤ ys.length) : cmpL xs ys = cmpL (xs.drop k) (ys.drop k) := by
  induction k generalizing xs ys with
  | zero => rfl
  | succ k ih =>
    cases xs with
    | nil => simp at hx
    | cons a l => cases ys with
      | nil => simp at hy
      | cons b m =>
        simp only [List.take_succ_cons, List.cons.injEq] at h
        simp only [List.drop_succ_cons, cmpL, if_pos h.1]
        exact ih l m h.2 (by simpa using hx) (by simpa using hy)
theorem drop_cons {xs : List Int} {k n : Nat} {x : Int} (hx : xs.getD k 0 = x) (hk : k < n) (hl : xs.length = n) : xs.drop k = x :: xs.drop (k + 1) := by
  subst hx hl
  rw [List.drop_eq_getElem_cons hk, List.getD_eq_getElem?_getD, List.getElem?_eq_getElem hk]; rfl
set_option maxHeartbeats 800000 in
theorem compare_any (ao bo : Option Addr) (n m cap cap' : Nat) (xs ys : List Int) (w : World) (hx : IntsAt w ao n cap xs) (hy : IntsAt w bo m cap' ys) :
    Calls Tryz.prog 60 #[.slice ao n cap, .slice bo m cap'] w fun e w' => e = .returned (.int .i64 (cmpL xs ys)) ∧ w = w' := by
  have hn' := hx.lenInt
  have hm' := hy.lenInt
  have hl1 := hx.length
  have hl2 := hy.length
  have Hl1 := Lib.hid hl1; clear hl1
  have Hl2 := Lib.hid hl2; clear hl2
  go_enter Tryz.func60, Tryz.ntmps60
  go_wp2
  go_loop [11] (fun i => ∃ k : Nat, k ≤ n ∧ k ≤ m ∧ i = .int .i64 k ∧ xs.take k = ys.take k) (fun i => n - (intOf i).toNat)
  case atStart => exact ⟨0, Nat.zero_le _, Nat.zero_le _, rfl, rfl⟩
  case round =>
    obtain ⟨k, hk, hkm, rfl, heq⟩ := hrel
    have hcm := cmpL_eq xs ys k heq (by rw [Hl1.out]; exact hk) (by rw [Hl2.out]; exact hkm)
    have Heq := Lib.hid heq; clear heq
    by_cases hlt : k < n
    · by_cases hltm : k < m
      · obtain ⟨b1, o1, rfl, hb1, hc1⟩ := hx.cell k hlt
        have hck1 := hc1 k hlt
        clear hc1
        generalize hx1 : xs.getD k 0 = x at hck1
        have Hx1 := Lib.hid hx1; clear hx1
        obtain ⟨b2, o2, rfl, hb2, hc2⟩ := hy.cell k hltm
        have hck2 := hc2 k hltm
        clear hc2
        generalize hx2 : ys.getD k 0 = y at hck2
        have Hx2 := Lib.hid hx2; clear hx2
        rw [drop_cons Hx1.out hlt Hl1.out, drop_cons Hx2.out hltm Hl2.out] at hcm
        simp only [cmpL] at hcm
        have hcc := fun w => cmpInt_any x y w
        by_cases hxy : x = y
        · rw [if_pos hxy] at hcm
          simp only [if_pos hxy] at hcc
          have Hcc := Lib.hid hcc; clear hcc
          have Hcm := Lib.hid hcm; clear hcm
          have Hxy := Lib.hid hxy; clear hxy
          go_wp2_with fail
          with_reducible refine (Hcc.out _).mono ?_
          rintro e w' ⟨rfl, rfl⟩
          go_wp2_with fail
          go_round
          case rel => exact ⟨k + 1, by omega, by omega, by go_num, by rw [take_snoc Hx1.out hlt Hl1.out, take_snoc Hx2.out hltm Hl2.out, Heq.out, Hxy.out]⟩
          case measure => simp [intOf]; omega
        · rw [if_neg hxy] at hcm
          simp only [if_neg hxy] at hcc
          by_cases hl : x < y
          · rw [if_pos hl] at hcm
            simp only [if_pos hl] at hcc
            have Hcc := Lib.hid hcc; clear hcc
            have Hcm := Lib.hid hcm; clear hcm
            have Hxy := Lib.hid hxy; clear hxy
            have Hl := Lib.hid hl; clear hl
            go_wp2_with fail
            with_reducible refine (Hcc.out _).mono ?_
            rintro e w' ⟨rfl, rfl⟩
            go_wp2_with fail
            go_ret
            exact ⟨by rw [Hcm.out]; rfl, rfl⟩
          · rw [if_neg hl] at hcm
            simp only [if_neg hl] at hcc
            have Hcc := Lib.hid hcc; clear hcc
            have Hcm := Lib.hid hcm; clear hcm
            have Hxy := Lib.hid hxy; clear hxy
            have Hl := Lib.hid hl; clear hl
            go_wp2_with fail
            with_reducible refine (Hcc.out _).mono ?_
            rintro e w' ⟨rfl, rfl⟩
            go_wp2_with fail
            go_ret
            exact ⟨by rw [Hcm.out]; rfl, rfl⟩
      · obtain ⟨b, o, rfl, hb, hc⟩ := hx.cell k hlt
        have hck := hc k hlt
        clear hc
        have hr : cmpL (xs.drop k) (ys.drop k) = 1 := by
          rw [drop_cons rfl hlt Hl1.out, List.drop_of_length_le (show ys.length ≤ k by rw [Hl2.out]; omega)]; rfl
        rw [hr] at hcm
        have Hcm := Lib.hid hcm; clear hcm
        have Hr := Lib.hid hr; clear hr
        go_wp2_with fail
        go_ret
        exact ⟨by rw [Hcm.out]; rfl, rfl⟩
    · have hr1 : xs.drop k = [] := List.drop_of_length_le (by rw [Hl1.out]; omega)
      rw [hr1] at hcm
      by_cases hnm : n < m
      · have hr : cmpL [] (ys.drop k) = -1 := by rw [drop_cons rfl (show k < m by omega) Hl2.out]; rfl
        rw [hr] at hcm
        have Hcm := Lib.hid hcm; clear hcm
        have Hr := Lib.hid hr; clear hr
        have Hr1 := Lib.hid hr1; clear hr1
        go_wp2_with fail
        go_ret
        exact ⟨by rw [Hcm.out]; rfl, rfl⟩
      · have hr : cmpL [] (ys.drop k) = 0 := by rw [List.drop_of_length_le (show ys.length ≤ k by rw [Hl2.out]; omega)]; rfl
        rw [hr] at hcm
        have Hcm := Lib.hid hcm; clear hcm
        have Hr := Lib.hid hr; clear hr
        have Hr1 := Lib.hid hr1; clear hr1
        go_wp2_with fail
        go_ret
        exact ⟨by rw [Hcm.out]; rfl, rfl⟩
end
end Go.Proofs.YtnebfojnbjbogaaGreatDoor
namespace Go.Proofs.YtnebfojnbjbogaaGreatDoor
section
open Go.RowKit Go.Shelf Go.Lib Go.Sort
set_option linter.unusedVariables false
set_option linter.unusedSimpArgs false
set_option maxRecDepth 20000

/-! ### The order -/
def cmpI (x y : Int) : Int := if x = y then 0 else if x < y then -1 else 1
def cmpK (a b : Bk) : Int := if cmpI a.l b.l = 0 then cmpL b.p a.p else cmpI a.l b.l
theorem cmpL_negK (a b : List Int) : cmpL a b < 0 ↔ befB b a = true := by
  induction a generalizing b with
  | nil => cases b <;> simp [befB, cmpL]
  | cons x l ih =>
    cases b with
    | nil => simp [befB, cmpL]
    | cons y m =>
      show (if x = y then cmpL l m else if x < y then -1 else 1) < 0 ↔ (if y = x then befB m l else decide (x < y)) = true
      by_cases h : x = y
      · rw [if_pos h, if_pos h.symm]; exact ih m
      · have h' : ¬ y = x := fun e => h e.symm
        rw [if_neg h, if_neg h']
        by_cases h2 : x < y
        · rw [if_pos h2]; simp; omega
        · rw [if_neg h2]; simp; omega
theorem cmpK_neg (a b : Bk) : decide (cmpK a b < 0) = befK a b := by
  unfold cmpK cmpI befK
  by_cases h : a.l = b.l
  · rw [if_pos h, if_pos rfl]
    have h1 : decide (a.l < b.l) = false := decide_eq_false (by omega)
    have h2 := cmpL_negK b.p a.p
    rw [h1, decide_eq_true h]
    cases h3 : befB a.p b.p
    · simp [h2, h3]
    · simp [h2, h3]
  · rw [if_neg h]
    have h0 : decide (a.l = b.l) = false := decide_eq_false h
    by_cases h2 : a.l < b.l
    · rw [if_pos h2, if_neg (by decide), decide_eq_true h2]; rfl
    · rw [if_neg h2, if_neg (by decide), decide_eq_false h2, h0]; rfl
theorem befK_iff (a b : Bk) : befK a b = true ↔ a.l < b.l ∨ (a.l = b.l ∧ befB a.p b.p = true) := by unfold befK; simp
theorem befK_off (a b : Bk) : befK a b = false ↔ b.l < a.l ∨ (a.l = b.l ∧ befB a.p b.p = false) := by
  cases h : befK a b with
  | true =>
    have := (befK_iff a b).1 h
    constructor
    · intro q; cases q
    · rintro (q | ⟨q1, q2⟩)
      · rcases this with r | ⟨r1, r2⟩ <;> omega
      · rcases this with r | ⟨r1, r2⟩
        · omega
        · rw [q2] at r2; cases r2
  | false =>
    have : ¬ (a.l < b.l ∨ (a.l = b.l ∧ befB a.p b.p = true)) := fun q => by rw [(befK_iff a b).2 q] at h; cases h
    refine ⟨fun _ => ?_, fun _ => rfl⟩
    by_cases q : a.l = b.l
    · refine .inr ⟨q, ?_⟩
      cases h3 : befB a.p b.p
      · rfl
      · exact absurd (.inr ⟨q, h3⟩) this
    · left; have := fun r => this (.inl r); omega
/-- in order, where the same may come again -/
def srtK (l : List Bk) : Prop := l.Pairwise (fun a b => befK b a = false)
theorem srtK_of {l : List Bk} (h : l.Pairwise (fun a b => befK a b = true)) : srtK l := h.imp fun {a b} h => by
  rcases (befK_iff a b).1 h with q | ⟨q1, q2⟩
  · exact (befK_off b a).2 (.inl q)
  · exact (befK_off b a).2 (.inr ⟨q1.symm, befB_asymm q2⟩)
theorem srtK_unique {l m : List Bk} {H : Int} (hl : srtK l) (hm : srtK m) (hp : l.Perm m) (hh : ∀ b ∈ l, b.h = H) : l = m := by
  refine List.Perm.eq_of_pairwise (fun a b ha hb h h' => ?_) hl hm hp
  have e1 := hh a ha
  have e2 := hh b (hp.mem_iff.2 hb)
  have h3 := (befK_off _ _).1 h
  have h4 := (befK_off _ _).1 h'
  have hl : a.l = b.l := by
    rcases h3 with q | ⟨q, _⟩
    · rcases h4 with r | ⟨r, _⟩ <;> omega
    · exact q.symm
  have hpp : a.p = b.p := by
    rcases h3 with q | ⟨_, q⟩
    · omega
    · rcases h4 with r | ⟨_, r⟩
      · omega
      · exact befN_antisymm r q
  obtain ⟨h1, l1, p1⟩ := a
  obtain ⟨h2, l2, p2⟩ := b
  simp only at e1 e2 hl hpp
  subst hl hpp
  rw [e1, e2]
def cfK (bs : List Bk) (m : Nat) (i j : Fin (m + 1)) : Int := cmpK (bs.getD i.val noBank) (bs.getD j.val noBank)
theorem ltK (bs : List Bk) (m : Nat) (i j : Fin (m + 1)) : ltOf (cfK bs m) i j = befK (bs.getD i.val noBank) (bs.getD j.val noBank) := by
  unfold ltOf cfK
  exact cmpK_neg _ _
theorem swoK (bs : List Bk) (m : Nat) : SWO (ltOf (cfK bs m)) where
  irrefl x := by rw [ltK]; exact befK_irrefl _
  trans x y z h1 h2 := by
    rw [ltK] at *
    generalize bs.getD x.val noBank = a at *
    generalize bs.getD y.val noBank = b at *
    generalize bs.getD z.val noBank = c at *
    rcases (befK_iff a b).1 h1 with q | ⟨q1, q2⟩ <;> rcases (befK_iff b c).1 h2 with r | ⟨r1, r2⟩
    · exact (befK_iff a c).2 (.inl (by omega))
    · exact (befK_iff a c).2 (.inl (by omega))
    · exact (befK_iff a c).2 (.inl (by omega))
    · exact (befK_iff a c).2 (.inr ⟨by omega, bef_trans q2 r2⟩)
  ntrans x y z h1 h2 := by
    rw [ltK] at *
    generalize bs.getD x.val noBank = a at *
    generalize bs.getD y.val noBank = b at *
    generalize bs.getD z.val noBank = c at *
    rcases (befK_off a b).1 h1 with q | ⟨q1, q2⟩ <;> rcases (befK_off b c).1 h2 with r | ⟨r1, r2⟩
    · exact (befK_off a c).2 (.inl (by omega))
    · exact (befK_off a c).2 (.inl (by omega))
    · exact (befK_off a c).2 (.inl (by omega))
    · exact (befK_off a c).2 (.inr ⟨by omega, befN_trans r2 q2⟩)

/-! ### The cells of a slice of bank states, by the slices of their piles -/
def cellB (V : Bk → Value) (b : Bk) : List Value := [.int .i64 b.h, .int .i64 b.l, V b]
def cellsB (V : Bk → Value) (bs : List Bk) : List Value := bs.flatMap (cellB V)
theorem cellsB_length (V : Bk → Value) (bs : List Bk) : (cellsB V bs).length = bs.length * 3 := by
  induction bs with
  | nil => rfl
  | cons b bs ih => show (cellB V b ++ cellsB V bs).length = _; rw [List.length_append, ih, List.length_cons]; show 3 + _ = _; omega
theorem cellsB_snoc (V : Bk → Value) (bs : List Bk) (b : Bk) : cellsB V (bs ++ [b]) = cellsB V bs ++ [.int .i64 b.h, .int .i64 b.l, V b] := by
  unfold cellsB
  rw [List.flatMap_append]
  simp [cellB]
theorem cellsB_getD (V : Bk → Value) : ∀ (bs : List Bk) (i k : Nat), i < bs.length → k < 3 → (cellsB V bs).getD (i * 3 + k) undef = (cellB V (bs.getD i noBank)).getD k undef
  | [], i, k, h, _ => absurd h (Nat.not_lt_zero _)
  | b :: bs, 0, k, _, hk => by
    show (cellB V b ++ cellsB V bs).getD (0 * 3 + k) undef = _
    rw [Nat.zero_mul, Nat.zero_add, List.getD_eq_getElem?_getD, List.getElem?_append_left (by show k < 3; exact hk), ← List.getD_eq_getElem?_getD]
    rfl
  | b :: bs, i + 1, k, h, hk => by
    show (cellB V b ++ cellsB V bs).getD ((i + 1) * 3 + k) undef = _
    rw [List.getD_eq_getElem?_getD, List.getElem?_append_right (by show 3 ≤ _; omega)]
    have e : (i + 1) * 3 + k - (cellB V b).length = i * 3 + k := by show (i + 1) * 3 + k - 3 = _; omega
    rw [e, ← List.getD_eq_getElem?_getD, cellsB_getD V bs i k (by simpa using h) hk]
    rfl
theorem getD_div (bs : List Bk) (V : Bk → Value) (t : Nat) (h : t < bs.length * 3) : (cellsB V bs).getD t undef = (cellB V (bs.getD (t / 3) noBank)).getD (t % 3) undef := by
  have := cellsB_getD V bs (t / 3) (t % 3) (by omega) (by omega)
  rw [show t / 3 * 3 + t % 3 = t by omega] at this
  exact this

/-! ### The comparison -/
/-- draws and new blocks -/
def Grew (W w' : World) : Prop := ∃ q os', w' = grow (W.drewN q) os'
theorem Grew.refl (W : World) : Grew W W := ⟨0, #[], by rw [grow_empty]; rfl⟩
theorem Grew.alloc {W w' : World} (h : Grew W w') (o : Obj) : Grew W (w'.alloc o) := by
  obtain ⟨q, os, rfl⟩ := h
  exact ⟨q, os ++ #[o], by rw [alloc_eq_grow, grow_grow]⟩
theorem Grew.drew {W w' : World} (h : Grew W w') : Grew W w'.drew := by
  obtain ⟨q, os, rfl⟩ := h
  exact ⟨q + 1, os, rfl⟩
theorem Grew.drewN {W w' : World} (h : Grew W w') (n : Nat) : Grew W (w'.drewN n) := by
  obtain ⟨q, os, rfl⟩ := h
  exact ⟨q + n, os, by show World.drewN (grow _ _) n = _; unfold grow World.drewN; simp [Nat.add_assoc]⟩
theorem intsAt_two (w : World) (X Y : Int) : IntsAt (w.alloc (.cells #[.int .i64 X, .int .i64 Y] 3)) (some ⟨w.heap.size, 0, none⟩) 2 2 [X, Y] := by
  refine ⟨rfl, Nat.le_refl _, by unfold maxLen; omega, (fun e => by cases e), fun j hj => ⟨w.heap.size, 0, rfl, by simp, fun i hi => ?_⟩⟩
  rw [World.cell?_alloc_at _ _ _ _ rfl, Nat.zero_add]
  match i, hi with
  | 0, _ => rfl
  | 1, _ => rfl
def orI (x y : Int) : Int := if x = 0 then y else x
theorem cmpOr_any (X Y : Int) (a : Option Addr) (cap : Nat) (w : World) (h : IntsAt w a 2 cap [X, Y]) :
    Calls Tryz.prog 58 #[.slice a 2 cap] w fun e w' => e = .returned (.int .i64 (orI X Y)) ∧ w = w' := by
  obtain ⟨b, o, rfl, hbl, hc⟩ := h.cell 0 (by omega)
  have h0 : w.cell? ⟨b, o, none⟩ = some (.int .i64 X) := hc 0 (by omega)
  have h1 : w.cell? ⟨b, o + 1, none⟩ = some (.int .i64 Y) := hc 1 (by omega)
  clear hc h
  go_enter Tryz.func58, Tryz.ntmps58
  go_wp2
  go_loop [8] (fun i => (i = .int .i64 0) ∨ (i = .int .i64 1 ∧ X = 0) ∨ (i = .int .i64 2 ∧ X = 0 ∧ Y = 0)) (fun i => 2 - (intOf i).toNat)
  case atStart => exact .inl rfl
  case round =>
    rcases hrel with rfl | ⟨rfl, hX⟩ | ⟨rfl, hX, hY⟩
    · by_cases hX : X = 0
      · subst hX
        go_wp2
        go_round
        case rel => exact .inr (.inl (by simp))
        case measure => simp [intOf]
      · have hr : orI X Y = X := by unfold orI; rw [if_neg hX]
        have hX2 : (X != 0) = true := by simp [hX]
        have Hr := Lib.hid hr; clear hr
        go_wp2
        go_ret
        exact ⟨by rw [Hr.out]; rfl, rfl⟩
    · by_cases hY : Y = 0
      · subst hY
        go_wp2
        go_round
        case rel => exact .inr (.inr (by simp [hX]))
        case measure => simp [intOf]
      · have hr : orI X Y = Y := by unfold orI; rw [if_pos hX]
        have hY2 : (Y != 0) = true := by simp [hY]
        have Hr := Lib.hid hr; clear hr
        have HX := Lib.hid hX; clear hX
        go_wp2
        go_ret
        exact ⟨by rw [Hr.out]; rfl, rfl⟩
    · have hr : orI X Y = 0 := by unfold orI; rw [if_pos hX, hY]
      have Hr := Lib.hid hr; clear hr
      have HX := Lib.hid hX; clear hX
      have HY := Lib.hid hY; clear hY
      go_wp2
      go_ret
      exact ⟨by rw [Hr.out]; rfl, rfl⟩
set_option maxHeartbeats 1600000 in
theorem compareBanks_any (h l h' l' : Int) (a a' : Option Addr) (n n' c c' : Nat) (xs ys : List Int) (w : World) (hx : IntsAt w a n c xs) (hy : IntsAt w a' n' c' ys) :
    Calls Tryz.prog 41 #[.agg #[.int .i64 h, .int .i64 l, .slice a n c], .agg #[.int .i64 h', .int .i64 l', .slice a' n' c']] w fun e w' => e = .returned (.int .i64 (cmpK ⟨h, l, xs⟩ ⟨h', l', ys⟩)) ∧ Grew w w' := by
  have hb0 := belowAlloc w (.cells #[.int .i64 h, .int .i64 l, .slice a n c] 32)
  have hb1 := belowAlloc (w.alloc (.cells #[.int .i64 h, .int .i64 l, .slice a n c] 32)) (.cells #[.int .i64 h', .int .i64 l', .slice a' n' c'] 32)
  have k0 := (Blk.new w h l a n c 32).keep hb1
  have k1 := Blk.new (w.alloc (.cells #[.int .i64 h, .int .i64 l, .slice a n c] 32)) h' l' a' n' c' 32
  have hx2 := ((hx.keep hb0).keep hb1).drewB
  have hy2 := ((hy.keep hb0).keep hb1).drewB
  have hsz : (w.alloc (.cells #[.int .i64 h, .int .i64 l, .slice a n c] 32)).heap.size = w.heap.size + 1 := by simp
  rw [hsz] at k1
  have hG : Grew w ((w.alloc (.cells #[.int .i64 h, .int .i64 l, .slice a n c] 32)).alloc (.cells #[.int .i64 h', .int .i64 l', .slice a' n' c'] 32)) := ((Grew.refl w).alloc _).alloc _
  obtain ⟨W, hW⟩ : ∃ W, W = (w.alloc (.cells #[.int .i64 h, .int .i64 l, .slice a n c] 32)).alloc (.cells #[.int .i64 h', .int .i64 l', .slice a' n' c'] 32) := ⟨_, rfl⟩
  rw [← hW] at k0 k1 hx2 hy2 hG
  have hc1 : Calls Tryz.prog 59 #[.int .i64 l, .int .i64 l'] W.drew fun e w' => e = .returned (.int .i64 (cmpI l l')) ∧ W.drew = w' := cmpInt_any l l' W.drew
  have hc2 := compare_any a' a n' n c' c ys xs W.drew hy2 hx2
  have hv : cmpK ⟨h, l, xs⟩ ⟨h', l', ys⟩ = orI (cmpI l l') (cmpL ys xs) := rfl
  rw [hv]
  generalize cmpI l l' = X at *
  generalize cmpL ys xs = Y at *
  have hc3 := cmpOr_any X Y _ _ _ (intsAt_two W.drew X Y)
  have hc4 : Calls Tryz.prog 58 #[.slice (some ⟨W.heap.size, 0, none⟩) 2 2] ((W.alloc (.cells #[.int .i64 X, .int .i64 Y] 3)).drew) fun e w' => e = .returned (.int .i64 (orI X Y)) ∧ ((W.alloc (.cells #[.int .i64 X, .int .i64 Y] 3)).drew) = w' := hc3
  generalize orI X Y = Z at *
  clear hc3
  have hG2 : Grew w (W.drew.alloc (.cells #[.int .i64 X, .int .i64 Y] 3)) := hG.drew.alloc _
  obtain ⟨⟨x0, x1, x2⟩, y0, y1, y2⟩ := k0.cells
  obtain ⟨⟨z0, z1, z2⟩, q0, q1, q2⟩ := k1.cells
  clear hb0 hb1 k0 k1 hx hy hx2 hy2 hsz hG hv
  have Hc1 := Lib.hid hc1; clear hc1
  have Hc2 := Lib.hid hc2; clear hc2
  have Hc4 := Lib.hid hc4; clear hc4
  have HG2 := Lib.hid hG2; clear hG2
  have HW := Lib.hid hW; clear hW
  go_enter Tryz.func41, Tryz.ntmps41
  go_wp2_with fail
  rw [← HW.out]
  go_region_law (first | (go_simp; with_reducible refine (Hc1.out).mono ?_; rintro e w' ⟨rfl, rfl⟩) | (go_simp; with_reducible refine (Hc2.out).mono ?_; rintro e w' ⟨rfl, rfl⟩) | (go_simp; with_reducible refine (Hc4.out).mono ?_; rintro e w' ⟨rfl, rfl⟩))
  all_goals
    go_wp2
    go_ret
    exact ⟨rfl, HG2.out⟩

theorem extract_allK {α : Type} (d : Array α) (n : Nat) (h : d.size = n) : d.extract 0 n = d := by subst h; exact Array.extract_size
theorem ofFn_mapK {α : Type} (l : List α) (m : Nat) (d : α) (hl : l.length = m + 1) : (List.ofFn (fun i : Fin (m + 1) => i)).map (fun i => l.getD i.val d) = l := by
  apply List.ext_getElem
  · simp [hl]
  · intro i h1 h2
    rw [List.getElem_map, List.getElem_ofFn, List.getD_eq_getElem?_getD, List.getElem?_eq_getElem h2]; rfl
set_option maxHeartbeats 1600000 in
theorem sortBanks_any (B E C D g m cap : Nat) (V : Bk → Value) (bs : List Bk) (w : World) (h : Row3 B E w (some ⟨g, 0, none⟩) (m + 1) cap (cellsB V bs)) (hl : bs.length = m + 1) (hV : ∀ b ∈ bs, ∃ a k c, V b = .slice a k c ∧ Own C D w a k c b.p) (hm : m ≤ 1048576) :
    Calls Tryz.prog 57 #[.slice (some ⟨g, 0, none⟩) (m + 1) cap, .func (.func 41) #[] #[]] w fun e w' =>
      e = .returned (.tuple #[]) ∧ ∃ cs, cs.Perm bs ∧ srtK cs ∧ Row3 B E w' (some ⟨g, 0, none⟩) (m + 1) cap (cellsB V cs) ∧ Chg (fun k => k = g) w w' := by
  rcases h.1.2 with ⟨hv, _⟩ | ⟨g', cap', cur, hv, hg, hh, hnc, hcm, hcs, htake⟩
  · simp at hv
  simp only [Value.slice.injEq, Option.some.injEq, Addr.mk.injEq, and_true, true_and] at hv
  obtain ⟨rfl, rfl⟩ := hv
  have hgw : g < w.heap.size := (Array.getElem?_eq_some_iff.1 hh).1
  obtain ⟨d, hd⟩ : ∃ d : Array (Fin (m + 1)), d.toList = List.ofFn (fun i : Fin (m + 1) => i) := ⟨⟨List.ofFn fun i => i⟩, rfl⟩
  have hds : d.size = m + 1 := by rw [← Array.length_toList, hd]; simp
  have hdj : ∀ j, (hj : j < m + 1) → d[j]! = ⟨j, hj⟩ := fun j hj => by
    have h1 : d.toList[j]? = some ⟨j, hj⟩ := by rw [hd, List.getElem?_ofFn, dif_pos hj]
    rw [Array.getElem?_toList, Array.getElem?_eq_getElem (by omega)] at h1
    rw [getElem!_pos d j (by omega)]
    exact Option.some.inj h1
  obtain ⟨enc, henc⟩ : ∃ enc : Fin (m + 1) → List Value, enc = fun i => cellB V (bs.getD i.val noBank) := ⟨_, rfl⟩
  have hmem : ∀ i : Fin (m + 1), bs.getD i.val noBank ∈ bs := fun i => by
    rw [List.getD_eq_getElem?_getD, List.getElem?_eq_getElem (by omega)]
    exact List.getElem_mem _
  have hrow : ∀ i : Fin (m + 1), ∃ a k c, enc i = [.int .i64 (bs.getD i.val noBank).h, .int .i64 (bs.getD i.val noBank).l, .slice a k c] ∧ Own C D w a k c (bs.getD i.val noBank).p := fun i => by
    obtain ⟨a, k, c, e, ho⟩ := hV _ (hmem i)
    exact ⟨a, k, c, by rw [henc]; show [_, _, V _] = _; rw [e], ho⟩
  have hk3 : ∀ x, (enc x).length = 3 := fun x => by rw [henc]; rfl
  have hflat : ∀ (dk : Array (Fin (m + 1))) (t : Nat), dk.size = m + 1 → t < (m + 1) * 3 → (flatK enc 3 dk)[t]! = (cellsB V (dk.toList.map fun i => bs.getD i.val noBank)).getD t undef := fun dk t hs ht => by
    rw [get_flatK enc 3 dk t (by rw [hs]; exact ht), getD_div _ _ t (by rw [List.length_map, Array.length_toList, hs]; exact ht)]
    have e1 : (dk.toList.map fun i => bs.getD i.val noBank).getD (t / 3) noBank = bs.getD (dk[t / 3]!).val noBank := by
      rw [List.getD_eq_getElem?_getD, List.getElem?_map, List.getElem?_eq_getElem (by rw [Array.length_toList, hs]; omega), getElem!_pos dk (t / 3) (by omega)]
      rfl
    rw [e1, henc]
    show (cellB V _)[t % 3]! = _
    have h3 : t % 3 < 3 := by omega
    generalize t % 3 = r at *
    match r, h3 with
    | 0, _ => rfl
    | 1, _ => rfl
    | 2, _ => rfl
    | r + 3, h => omega
  have hdall : (d.toList.map fun i => bs.getD i.val noBank) = bs := by rw [hd]; exact ofFn_mapK bs m noBank hl
  have hH : HoldsK enc 3 w g 0 d := by
    intro j hj
    rw [size_flatK, hds] at hj
    refine ⟨?_, ?_⟩
    · simp only [Nat.zero_add]
      rw [h.cell j hj, hflat d j hds hj, hdall]
      rfl
    · simp only [Nat.zero_add]; exact World.ownsRow.frozenAt h.1 j
  have h1c : ∀ x, ∀ v ∈ enc x, v.oneCell' = true := fun x v hv => by
    obtain ⟨a, k, c, e, _⟩ := hrow x
    rw [e] at hv
    simp only [List.mem_cons, List.mem_nil_iff, or_false] at hv
    rcases hv with rfl | rfl | rfl <;> rfl
  have eg : ∀ args w, (callFunc 41 args).run Tryz.prog w = .ok (.enter 41 args) w := enters_of Tryz.func41 (by kernel_rfl) rfl
  have hchg : ∀ (q : Nat) (os : Array Obj) (dk : Array (Fin (m + 1))), Chg (fun k => k = g) w (sortWorldK enc 3 w g 0 q dk os) := fun q os dk => by
    unfold sortWorldK putRowK
    refine ⟨rfl, rfl, rfl, by simp [ahead], fun k hk hs => ?_⟩
    rw [heap_grow_old _ _ (by simp [ahead]; exact hk)]
    have : ¬ g = k := fun e => hs e.symm
    simp [putRow, mapBlock, ahead, Array.getElem?_modify, this]
  have hkeep : ∀ {w' : World} {a : Option Addr} {k c : Nat} {x : List Int}, Own C D w a k c x → Chg (fun k => k = g) w w' → Own C D w' a k c x := fun ho hc =>
    ho.chg hc (fun q h1 h2 h3 h4 => h.apartInt ho h3 (by simp [Value.ownBlock, h4]))
  have hcmp : CmpLays Tryz.prog 41 #[] enc 3 (cfK bs m) g 0 d.size w := fun q os dk _ x y => by
    obtain ⟨a, k, c, e, ho⟩ := hrow x
    obtain ⟨a', k', c', e', ho'⟩ := hrow y
    have hc := hchg q os dk
    rw [e, e']
    exact (compareBanks_any _ _ _ _ a a' k k' c c' _ _ _ (hkeep ho hc).at (hkeep ho' hc).at).mono fun _ _ ⟨h1, h2⟩ => ⟨h1, h2⟩
  have hS := AnyQ.slices_SortFunc Tryz.sortB 3 Tryz.isAgg32 Tryz.sizeOf32 enc hk3 h1c (cfK bs m) (swoK bs m) 41 #[] g 0 cap d w eg hcmp hH hgw (by rw [hds]; omega)
  change Calls Tryz.prog 57 _ _ _ at hS
  rw [hds] at hS
  refine hS.mono fun e w' ⟨he, d', q, os, hp, hs, hw⟩ => ⟨he, ?_⟩
  obtain ⟨hp1, _, hp3⟩ := hp
  rw [hds] at hp1
  have hperm : d'.toList.Perm (List.ofFn fun i : Fin (m + 1) => i) := by
    have e1 : d'.extract 0 (m + 1) = d' := extract_allK d' _ hp1
    have e2 : d.extract 0 (m + 1) = d := extract_allK d _ hds
    rw [e1, e2, hd] at hp3
    exact hp3
  have hpx : (d'.toList.map (fun i => bs.getD i.val noBank)).Perm bs := by
    have := hperm.map (fun i : Fin (m + 1) => bs.getD i.val noBank)
    rw [ofFn_mapK bs m noBank hl] at this; exact this
  have hsr : srtK (d'.toList.map (fun i => bs.getD i.val noBank)) := by
    unfold srtK
    rw [List.pairwise_map, List.pairwise_iff_getElem]
    intro i j hi hj hij
    have hi' : i < m + 1 := by rw [Array.length_toList, hp1] at hi; exact hi
    have hj' : j < m + 1 := by rw [Array.length_toList, hp1] at hj; exact hj
    have := hs i j (Nat.zero_le _) hij (by omega)
    rw [ltK, getElem!_pos d' j (by omega), getElem!_pos d' i (by omega)] at this
    simpa using this
  have hc := hchg q os d'
  rw [← hw] at hc
  refine ⟨_, hpx, hsr, ⟨⟨by rw [cellsB_length, List.length_map, Array.length_toList, hp1], .inr ⟨g, cap, putCells id 0 (flatK enc 3 d') cur, rfl, hg, ?_, hnc, hcm, by simp [putCells, hcs], ?_⟩⟩, h.2⟩, hc⟩
  · rw [hw]
    unfold sortWorldK putRowK
    rw [heap_grow_old _ _ (by simp [ahead]; exact hgw)]
    simp [putRow, mapBlock, ahead, Array.getElem?_modify, hh, onCells]
  · apply List.ext_getElem
    · simp [putCells, hp1, hcs, cellsB_length]
      omega
    · intro i h1 h2
      have hi : i < (m + 1) * 3 := by rw [cellsB_length, List.length_map, Array.length_toList, hp1] at h2; exact h2
      have e := hflat d' i hp1 hi
      rw [List.getD_eq_getElem?_getD, List.getElem?_eq_getElem h2] at e
      simp only [Option.getD_some] at e
      rw [← e]
      simp [putCells, hp1, hi]
end
end Go.Proofs.YtnebfojnbjbogaaGreatDoor
namespace Go.Proofs.YtnebfojnbjbogaaGreatDoor
section
open Go.RowKit Go.Maps
set_option linter.unusedVariables false
set_option linter.unusedSimpArgs false
set_option maxRecDepth 20000

/-- a map's element reads as itself -/
def Rv (v : Value) : Option (DataW Value × List MemPlace) := some (.held v, [])
def aggB (V : Bk → Value) (b : Bk) : Value := .agg #[.int .i64 b.h, .int .i64 b.l, V b]
/-- a map from the texts of some bank states to these, each with piles of its own -/
structure MapB (B E : Nat) (w : World) (g n : Nat) (D : DataW Value) (S : List Bk) (V : Bk → Value) : Prop where
  own : w.ownsMap Tryz.prog 9 Rv g n D
  yes : ∀ b ∈ S, Maps.has D (.string (bankL b)) = true ∧ ∀ zd, D.atKey (.string (bankL b)) zd = .held (aggB V b)
  no : ∀ kl, Maps.has D kl = true → ∃ b ∈ S, kl = .string (bankL b)
  ok : ∀ b ∈ S, BankOk b
  rows : ∀ b ∈ S, ∃ a m c, V b = .slice a m c ∧ Own B E w a m c b.p
  far : ∀ b ∈ S, ∀ c ∈ S, b ≠ c → apart (V b) (V c)
theorem MapB.made (B E : Nat) (w : World) (V : Bk → Value) : MapB B E (w.alloc (.map #[] 0)) w.heap.size 0 (.map []) [] V :=
  ⟨World.ownsMap_made _ _ _ _, fun b hb => (by cases hb), fun kl h => by (simp [Maps.has] at h), fun b hb => (by cases hb), fun b hb => (by cases hb), fun b hb => (by cases hb)⟩
theorem ownsMap_chg {S : Nat → Prop} {w w' : World} {R : Value → Option (DataW Value × List MemPlace)} {g n : Nat} {D : DataW Value} (h : w.ownsMap Tryz.prog 9 R g n D) (hc : Chg S w w') (hs : ¬ S g) : w'.ownsMap Tryz.prog 9 R g n D := by
  have hg := h.lt
  obtain ⟨es, clock, h1, h2⟩ := h
  exact ⟨es, clock, (hc.block g hg hs).trans h1, h2⟩
theorem ranges_chg {S : Nat → Prop} {w w' : World} {R : Value → Option (DataW Value × List MemPlace)} {g r n : Nat} {D : DataW Value} {left : Lit → Bool} {cnt : Nat} (h : w.ranges Tryz.prog 9 R g r n D left cnt) (hc : Chg S w w') (hs : ¬ S g) (hs2 : ¬ S r) : w'.ranges Tryz.prog 9 R g r n D left cnt := by
  have hg := h.owns.lt
  have hr := h.lt
  obtain ⟨es, clock, since, seen, c0, h1, h2, h3, h4, h5, h6⟩ := h
  exact ⟨es, clock, since, seen, c0, (hc.block g hg hs).trans h1, h2, h3, h4, (hc.block r hr hs2).trans h5, h6⟩
theorem MapB.chg {S : Nat → Prop} {B E w w' g n D T V} (h : MapB B E w g n D T V) (hc : Chg S w w') (hs : ¬ S g) (hs2 : ∀ k, B ≤ k → k < E → ¬ S k) : MapB B E w' g n D T V :=
  ⟨ownsMap_chg h.own hc hs, h.yes, h.no, h.ok, fun b hb => by
    obtain ⟨a, m, c, e, ho⟩ := h.rows b hb
    exact ⟨a, m, c, e, ho.chg hc (fun k h1 h2 _ => hs2 k h1 h2)⟩, h.far⟩
theorem MapB.keep {B E w w' g n D T V} (h : MapB B E w g n D T V) (hb : Below w.heap.size w w') : MapB B E w' g n D T V :=
  h.chg (S := fun _ => False) (Chg.ofBelow hb) (fun q => q) (fun _ _ _ q => q)
theorem MapB.mono {B E E' w g n n' D T V} (h : MapB B E w g n D T V) (hE : E ≤ E') (hn : n ≤ n') : MapB B E' w g n' D T V :=
  ⟨h.own.mono hn, h.yes, h.no, h.ok, fun b hb => by
    obtain ⟨a, m, c, e, ho⟩ := h.rows b hb
    exact ⟨a, m, c, e, ho.mono (Nat.le_refl _) hE⟩, h.far⟩
theorem apart_regions {B E C F : Nat} {w w' : World} {a a' : Option Addr} {m m' c c' : Nat} {xs ys : List Int} (h1 : Own B E w a m c xs) (h2 : Own C F w' a' m' c' ys) (hE : E ≤ C) :
    apart (.slice a m c) (.slice a' m' c') ∧ apart (.slice a' m' c') (.slice a m c) := by
  unfold apart
  rcases h1.cases with ⟨rfl, -⟩ | ⟨k, rfl, k1, k2, -⟩
  · refine ⟨.inl rfl, ?_⟩
    rcases h2.cases with ⟨rfl, -⟩ | ⟨k', rfl, -⟩
    · exact .inl rfl
    · exact .inr (by simp [Value.ownBlock])
  · rcases h2.cases with ⟨rfl, -⟩ | ⟨k', rfl, k1', k2', -⟩
    · exact ⟨.inr (by simp [Value.ownBlock]), .inl rfl⟩
    · exact ⟨.inr (by simp [Value.ownBlock]; omega), .inr (by simp [Value.ownBlock]; omega)⟩
/-- one more, whose piles were made behind all others -/
theorem MapB.put {B E E' w g n D T V} {w' : World} (h : MapB B E w g n D T V) {b : Bk} (hk : BankOk b) {a : Option Addr} {m c : Nat} (ho : Own E E' w' a m c b.p) (hE : E ≤ E') (hB : B ≤ E)
    (hown : w'.ownsMap Tryz.prog 9 Rv g (n + 1) (D.put (.string (bankL b)) (.held (.agg #[.int .i64 b.h, .int .i64 b.l, .slice a m c]))))
    (hrow : ∀ x ∈ T, ∃ a m c, V x = .slice a m c ∧ Own B E w' a m c x.p) :
    MapB B E' w' g (n + 1) (D.put (.string (bankL b)) (.held (.agg #[.int .i64 b.h, .int .i64 b.l, .slice a m c]))) (T ++ [b]) (fun x => if x = b then .slice a m c else V x) := by
  have hkl : WideAt.IsKeyLit (.string (bankL b)) := trivial
  have hm := h.own.isMap
  have hne : ∀ x ∈ T, x ≠ b → (Lit.string (bankL x)) ≠ .string (bankL b) := fun x hx hxb e => by
    injection e with e
    exact hxb (bankL_inj (h.ok x hx) hk e)
  refine ⟨hown, fun x hx => ?_, fun kl hkl2 => ?_, fun x hx => ?_, fun x hx => ?_, fun x hx y hy hxy => ?_⟩
  · by_cases e : x = b
    · subst e
      refine ⟨Maps.has_put_same hm hkl _, fun zd => ?_⟩
      rw [Maps.atKey_put_same hm hkl]
      simp [aggB]
    · have hxT : x ∈ T := by
        rcases List.mem_append.1 hx with q | q
        · exact q
        · exact absurd (List.mem_singleton.1 q) e
      obtain ⟨h1, h2⟩ := h.yes x hxT
      refine ⟨by rw [Maps.has_put_other (hne x hxT e)]; exact h1, fun zd => ?_⟩
      rw [Maps.atKey_put_other (hne x hxT e), h2 zd]
      simp [aggB, e]
  · by_cases e : kl = .string (bankL b)
    · exact ⟨b, by simp, e⟩
    · rw [Maps.has_put_other e] at hkl2
      obtain ⟨x, hx, e2⟩ := h.no kl hkl2
      exact ⟨x, by simp [hx], e2⟩
  · rcases List.mem_append.1 hx with q | q
    · exact h.ok x q
    · rw [List.mem_singleton.1 q]; exact hk
  · by_cases e : x = b
    · subst e
      exact ⟨a, m, c, if_pos rfl, ho.mono hB (Nat.le_refl _)⟩
    · have hxT : x ∈ T := by
        rcases List.mem_append.1 hx with q | q
        · exact q
        · exact absurd (List.mem_singleton.1 q) e
      obtain ⟨a', m', c', e1, e2⟩ := hrow x hxT
      exact ⟨a', m', c', by rw [← e1]; exact if_neg e, e2.mono (Nat.le_refl _) hE⟩
  · have hT : ∀ z, z ∈ T ++ [b] → z ≠ b → z ∈ T := fun z hz e => by
      rcases List.mem_append.1 hz with q | q
      · exact q
      · exact absurd (List.mem_singleton.1 q) e
    have hfar : ∀ z ∈ T, apart (V z) (.slice a m c) ∧ apart (.slice a m c) (V z) := fun z hz => by
      obtain ⟨a', m', c', e1, e2⟩ := hrow z hz
      rw [e1]
      exact apart_regions e2 ho (Nat.le_refl _)
    by_cases e : x = b
    · have e2 : y ≠ b := fun q => hxy (e.trans q.symm)
      show apart (if x = b then _ else V x) (if y = b then _ else V y)
      rw [if_pos e, if_neg e2]
      exact (hfar y (hT y hy e2)).2
    · show apart (if x = b then _ else V x) (if y = b then _ else V y)
      rw [if_neg e]
      by_cases e2 : y = b
      · rw [if_pos e2]; exact (hfar x (hT x hx e)).1
      · rw [if_neg e2]; exact h.far x (hT x hx e) y (hT y hy e2) hxy
/-- cells and rows make a slice of bank states -/
theorem bks_of_cells {B E F B2 E2 : Nat} {w : World} {ao : Option Addr} {p cap : Nat} {V : Bk → Value} {cs : List Bk} (h : Row3 B2 E2 w ao p cap (cellsB V cs)) (hl : cs.length = p) (hB : B ≤ B2) (hE : E ≤ F) (hE2 : E2 ≤ F)
    (hV : ∀ b ∈ cs, ∃ a m c, V b = .slice a m c ∧ Own B E w a m c b.p) (hap : ∀ b ∈ cs, ∀ c ∈ cs, b ≠ c → apart (V b) (V c)) (hn : cs.Nodup) : BksOwn B F w ao p cap cs := by
  have hmem : ∀ i, i < p → cs.getD i noBank ∈ cs := fun i hi => by
    rw [List.getD_eq_getElem?_getD, List.getElem?_eq_getElem (by omega)]
    exact List.getElem_mem _
  refine ⟨cellsB V cs, h.mono hB hE2, hl, fun i hi => ?_, fun i j hij hj => ?_⟩
  · obtain ⟨a, m, c, e, ho⟩ := hV _ (hmem i hi)
    refine ⟨a, m, c, ?_, ?_, ?_, ho.mono (Nat.le_refl _) hE⟩
    · have := cellsB_getD V cs i 0 (by omega) (by omega)
      rw [Nat.add_zero] at this
      rw [this]; rfl
    · rw [cellsB_getD V cs i 1 (by omega) (by omega)]; rfl
    · rw [cellsB_getD V cs i 2 (by omega) (by omega)]; exact e
  · rw [cellsB_getD V cs i 2 (by omega) (by omega), cellsB_getD V cs j 2 (by omega) (by omega)]
    refine hap _ (hmem i (by omega)) _ (hmem j hj) fun e => ?_
    rw [List.getD_eq_getElem?_getD, List.getD_eq_getElem?_getD, List.getElem?_eq_getElem (by omega), List.getElem?_eq_getElem (by omega)] at e
    have := (List.pairwise_iff_getElem.1 hn) i j (by omega) (by omega) hij
    exact this e
/-- which of them have come -/
structure DoneIs (left : Lit → Bool) (S done : List Bk) : Prop where
  nodup : done.Nodup
  sub : ∀ b ∈ done, b ∈ S
  came : ∀ b ∈ S, (left (.string (bankL b)) = true ↔ b ∉ done)
  keys : ∀ kl, left kl = true → ∃ b ∈ S, kl = .string (bankL b)
theorem DoneIs.step {left : Lit → Bool} {S done : List Bk} (h : DoneIs left S done) (hok : ∀ b ∈ S, BankOk b) {b : Bk} (hb : b ∈ S) (hl : left (.string (bankL b)) = true) :
    DoneIs (fun z => left z && !z.sameKey (.string (bankL b))) S (done ++ [b]) := by
  have hnb : b ∉ done := (h.came b hb).1 hl
  have hsame : ∀ x, (Lit.string (bankL x)).sameKey (.string (bankL b)) = decide (bankL x = bankL b) := fun x => by
    by_cases e : bankL x = bankL b
    · rw [e, decide_eq_true rfl]; exact WideAt.sameKey_self trivial
    · rw [decide_eq_false e]
      exact sameKey_ne (fun q => e (by injection q))
  refine ⟨?_, fun x hx => ?_, fun x hx => ?_, fun kl hk => ?_⟩
  · exact List.nodup_append.2 ⟨h.nodup, by simp, fun x hx y hy e => by
      rw [List.mem_singleton] at hy
      subst hy
      subst e
      exact hnb hx⟩
  · rcases List.mem_append.1 hx with q | q
    · exact h.sub x q
    · rw [List.mem_singleton.1 q]; exact hb
  · show (left (.string (bankL x)) && !(Lit.string (bankL x)).sameKey (.string (bankL b))) = true ↔ _
    rw [hsame, Bool.and_eq_true, h.came x hx]
    by_cases e : x = b
    · subst e
      simp
    · have : bankL x ≠ bankL b := fun q => e (bankL_inj (hok x hx) (hok b hb) q)
      simp [this, e]
  · exact h.keys kl (by
      have : (left kl && !kl.sameKey (.string (bankL b))) = true := hk
      rw [Bool.and_eq_true] at this
      exact this.1)
theorem DoneIs.all {left : Lit → Bool} {S done : List Bk} (h : DoneIs left S done) (hl : ∀ kl, left kl = false) : ∀ b, b ∈ done ↔ b ∈ S := fun b => by
  refine ⟨h.sub b, fun hb => ?_⟩
  by_cases q : b ∈ done
  · exact q
  · have := (h.came b hb).2 q
    rw [hl] at this
    cases this
end
end Go.Proofs.YtnebfojnbjbogaaGreatDoor
namespace Go.Proofs.YtnebfojnbjbogaaGreatDoor
section
open Go.RowKit Go.Maps Go.Sort
set_option linter.unusedVariables false
set_option linter.unusedSimpArgs false
set_option maxRecDepth 20000

theorem sortNone_any (p : Option Addr) (cap : Nat) (w : World) :
    Calls Tryz.prog 57 #[.slice p 0 cap, .func (.func 41) #[] #[]] w fun e w' => e = .returned (.tuple #[]) ∧ w = w' := by
  have hcon := AnyF.slices_SortFunc_none (P := Tryz.prog) (ρ := Tryz.sortB_ren) Tryz.sortB p cap (.func (.func 41) #[] #[]) w
  change Calls Tryz.prog 57 _ _ _ at hcon
  exact hcon.mono fun e w' ⟨h1, h2⟩ => ⟨h1, h2.symm⟩
/-- sorted, at any length -/
theorem sortAny_any (B E C D : Nat) (ao : Option Addr) (p cap : Nat) (V : Bk → Value) (bs : List Bk) (w : World) (h : Row3 B E w ao p cap (cellsB V bs)) (hl : bs.length = p) (hV : ∀ b ∈ bs, ∃ a k c, V b = .slice a k c ∧ Own C D w a k c b.p) (hm : p ≤ 1048576) :
    Calls Tryz.prog 57 #[.slice ao p cap, .func (.func 41) #[] #[]] w fun e w' =>
      e = .returned (.tuple #[]) ∧ ∃ cs, cs.Perm bs ∧ srtK cs ∧ Row3 B E w' ao p cap (cellsB V cs) ∧ Chg (fun k => (Value.slice ao p cap).ownBlock = some k) w w' := by
  cases p with
  | zero =>
    have hb : bs = [] := List.eq_nil_of_length_eq_zero hl
    subst hb
    exact (sortNone_any ao cap w).mono fun e w' ⟨h1, h2⟩ => ⟨h1, [], List.Perm.refl _, List.Pairwise.nil, by rw [← h2]; exact h, by rw [← h2]; exact ⟨rfl, rfl, rfl, Nat.le_refl _, fun _ _ _ => rfl⟩⟩
  | succ m =>
    rcases h.cases with ⟨_, h0, _⟩ | ⟨g, rfl, _⟩
    · omega
    · exact (sortBanks_any B E C D g m cap V bs w h hl hV (by omega)).mono fun e w' ⟨h1, cs, h2, h3, h4, h5⟩ => ⟨h1, cs, h2, h3, h4, h5.mono fun k hk => by subst hk; rfl⟩
set_option maxHeartbeats 3200000 in
set_option maxRecDepth 100000 in
theorem valuesInOrder_any (B E g n : Nat) (D : DataW Value) (S : List Bk) (V : Bk → Value) (w : World) (h : MapB B E w g n D S V) (hn : n ≤ 4000) (hB : B ≤ w.heap.size) (hE : E ≤ w.heap.size) :
    Calls Tryz.prog 40 #[.map (some g), .func (.func 41) #[] #[]] w fun e w' => ∃ ao m cap cs, e = .returned (.slice ao m cap) ∧ srtK cs ∧ cs.Nodup ∧ (∀ b, b ∈ cs ↔ b ∈ S) ∧ BksOwn B w'.heap.size w' ao m cap cs ∧ Below w.heap.size w w' := by
  have hgl := h.own.lt
  have hown := h.own
  have hsz := hown.size_le
  have hyes := h.yes
  have hno := h.no
  have hok := h.ok
  have hrows := h.rows
  have hfar := h.far
  clear h
  have Hyes := Lib.hid hyes; clear hyes
  have Hno := Lib.hid hno; clear hno
  have Hok := Lib.hid hok; clear hok
  have Hrows := Lib.hid hrows; clear hrows
  have Hfar := Lib.hid hfar; clear hfar
  go_enter Tryz.func40, Tryz.ntmps40
  go_wp2_with (first | (at_range; refine wpList_range_own _ rfl _ 59 rfl 9 32 mapKS Tryz.underlying59 Rv g n D rfl hown ?_; intro w0 hrg0 hg0 hs0) | go_in)
  go_frame
  have hc0 := Chg.ofGrown hg0
  have hb0 : Below w.heap.size w w0 := hc0.below (Nat.le_refl _) (fun k e => by cases e)
  have hV0 : ∀ b ∈ S, ∃ a m c, V b = .slice a m c ∧ Own B E w0 a m c b.p := fun b hb => by
    obtain ⟨a, m, c, e, ho⟩ := Hrows.out b hb
    exact ⟨a, m, c, e, ho.keep hb0⟩
  have hd0 : DoneIs (Maps.has D) S [] := ⟨List.nodup_nil, fun b hb => (by cases hb), fun b hb => ⟨fun _ q => (by cases q), fun _ => (Hyes.out b hb).1⟩, Hno.out⟩
  clear hg0 hc0 hown
  have Hrg0 := Lib.hid hrg0; clear hrg0
  have Hb0 := Lib.hid hb0; clear hb0
  have HV0 := Lib.hid hV0; clear hV0
  have Hd0 := Lib.hid hd0; clear hd0
  go_loopw [5] (fun v wr => ∃ (left : Lit → Bool) (cnt : Nat) (ao : Option Addr) (p cap : Nat) (done : List Bk), v = .slice ao p cap ∧ p + cnt ≤ n ∧ done.length = p ∧ Hid (wr.ranges Tryz.prog 9 Rv g w.heap.size n D left cnt) ∧ Hid (Row3 (w.heap.size + 1) wr.heap.size wr ao p cap (cellsB V done)) ∧ Hid (DoneIs left S done) ∧ Hid (∀ b ∈ S, ∃ a m c, V b = .slice a m c ∧ Own B E wr a m c b.p) ∧ Hid (Below w.heap.size w wr) ∧ w.heap.size + 1 ≤ wr.heap.size) (fun _ wr => wr.rangeLeft g w.heap.size)
  case atStart => exact ⟨_, _, none, 0, 0, [], rfl, by omega, rfl, Hrg0, Lib.hid (Row3.nil _ _ _), Hd0, HV0, Hb0, by omega⟩
  case round =>
    obtain ⟨left, cnt, ao, p, cap, done, rfl, hpc, hdl, Hrg, Hrow, Hd, HV, Hbr, hsr⟩ := hrel
    clear Hrg0 Hb0 HV0 Hd0 hs0
    go_wp2_with (first | (at_next; refine wpList_next_ranges _ rfl _ rfl 9 mapKS Rv id id (fun key kl _ => ⟨key, rfl⟩) (fun v y _ => ⟨v, rfl⟩) g w.heap.size n D left cnt rfl Hrg.out ?_ ?_) | go_in)
    · intro hc0 hl0
      have hall := Hd.out.all hl0
      have hnd := Hd.out.nodup
      have hcon := sortAny_any _ _ B E ao p cap V done wr Hrow.out hdl (fun b hb => HV.out b ((hall b).1 hb)) (by omega)
      have hbse : ∀ cs w', Row3 (w.heap.size + 1) wr.heap.size w' ao p cap (cellsB V cs) → cs.Perm done → Chg (fun k => (Value.slice ao p cap).ownBlock = some k) wr w' → BksOwn B w'.heap.size w' ao p cap cs ∧ Below w.heap.size w w' ∧ cs.Nodup ∧ ∀ b, b ∈ cs ↔ b ∈ S := fun cs w' hr hp hc => by
        have hmem : ∀ b, b ∈ cs ↔ b ∈ S := fun b => hp.mem_iff.trans (hall b)
        have hge : ∀ k, (Value.slice ao p cap).ownBlock = some k → w.heap.size + 1 ≤ k := fun k e => (Hrow.out.1.lt k e).1
        refine ⟨bks_of_cells (E := E) hr (by rw [hp.length_eq]; exact hdl) (by omega) (by have := hc.size; omega) hc.size (fun b hb => ?_) (fun b hb c hc' => Hfar.out b ((hmem b).1 hb) c ((hmem c).1 hc')) (hp.nodup_iff.2 hnd), Hbr.out.trans (hc.below (by omega) (fun k e => by have := hge k e; omega)), hp.nodup_iff.2 hnd, hmem⟩
        obtain ⟨a, m, c, e, ho⟩ := HV.out b ((hmem b).1 hb)
        exact ⟨a, m, c, e, ho.chg hc (fun k h1 h2 _ q => by have := hge k q; omega)⟩
      clear hall hnd hl0 Hrg Hrow Hd HV
      have Hcon := Lib.hid hcon; clear hcon
      have Hbse := Lib.hid hbse; clear hbse
      go_wp2_with fail
      with_reducible refine (Hcon.out).mono ?_
      rintro e w' ⟨rfl, cs, hp, hs, hr, hc⟩
      obtain ⟨f1, f2, f3, f4⟩ := Hbse.out cs w' hr hp hc
      clear hp hr hc Hcon Hbse
      have F1 := Lib.hid f1; clear f1
      have F2 := Lib.hid f2; clear f2
      have F3 := Lib.hid f3; clear f3
      have F4 := Lib.hid f4; clear f4
      have Hs := Lib.hid hs; clear hs
      go_wp2
      first
        | go_ret
        | go_ret2
        | go_ret3
      exact ⟨_, _, _, cs, rfl, Hs.out, F3.out, F4.out, F1.out, F2.out⟩
    · intro x c kl yd yp w2 cnt2 hkey hlk hv hat hrg2 hlt hg2 hs2 hen
      try simp only [id] at hen
      try simp only [id] at hv
      obtain ⟨b, hbS, rfl⟩ := Hd.out.keys kl hlk
      obtain ⟨pa, pm, pc, hVb, hob⟩ := HV.out b hbS
      have hcv : c = .agg #[.int .i64 b.h, .int .i64 b.l, .slice pa pm pc] := by
        have e1 := hat .nil
        rw [(Hyes.out b hbS).2] at e1
        have e2 : yd = .held c := by
          unfold Rv at hv
          simp at hv
          exact hv.1.symm
        rw [e2] at e1
        injection e1 with e1
        rw [← e1]
        unfold aggB
        rw [hVb]
      subst hcv
      have hc2 := Chg.ofGrown hg2
      have hrow2 := Hrow.out.chg hc2 (fun k h1 _ _ e => by simp only [Option.some.injEq] at e; omega)
      have hV2 : ∀ b ∈ S, ∃ a m c, V b = .slice a m c ∧ Own B E w2 a m c b.p := fun b hb => by
        obtain ⟨a, m, c, e, ho⟩ := HV.out b hb
        exact ⟨a, m, c, e, ho.chg hc2 (fun k h1 h2 _ q => by simp only [Option.some.injEq] at q; omega)⟩
      have hb2 : Below w.heap.size w w2 := Hbr.out.trans (hc2.below (by omega) (fun k e => by simp only [Option.some.injEq] at e; omega))
      have hds := Hd.out.step Hok.out hbS hlk
      have hsz2 : wr.heap.size ≤ w2.heap.size := by omega
      have hba := belowAlloc w2 (.cells #[.int .i64 b.h, .int .i64 b.l, .slice pa pm pc] 32)
      have hrow3 := (hrow2.chg (S := fun _ => False) (Chg.ofBelow hba) (fun _ _ _ _ q => q)).mono (Nat.le_refl _) (show wr.heap.size ≤ (w2.alloc (.cells #[.int .i64 b.h, .int .i64 b.l, .slice pa pm pc] 32)).heap.size by have := hba.size; omega)
      have hb3 := belowTrans hb2 hba (Nat.le_refl _)
      have hrg3 := hrg2.alloc (.cells #[.int .i64 b.h, .int .i64 b.l, .slice pa pm pc] 32)
      have hV3 : ∀ b' ∈ S, ∃ a m c, V b' = .slice a m c ∧ Own B E (w2.alloc (.cells #[.int .i64 b.h, .int .i64 b.l, .slice pa pm pc] 32)) a m c b'.p := fun b' hb' => by
        obtain ⟨a, m, c, e, ho⟩ := hV2 b' hb'
        exact ⟨a, m, c, e, ho.keep hba⟩
      have hszX : w.heap.size + 1 ≤ (w2.alloc (.cells #[.int .i64 b.h, .int .i64 b.l, .slice pa pm pc] 32)).heap.size := by have := hba.size; omega
      have hp8 : p ≤ 1048576 := by omega
      have hcl := hrg2.left_eq
      clear hat hv hkey hlk hrg2 hg2 hs2 hc2 hrow2 hV2 hb2 hob Hrow Hd HV Hbr hba
      obtain ⟨bh, hbh⟩ : ∃ x, x = b.h := ⟨_, rfl⟩
      obtain ⟨bl, hbl2⟩ : ∃ x, x = b.l := ⟨_, rfl⟩
      rw [← hbh, ← hbl2] at hen hrow3 hb3 hrg3 hV3 hszX
      have hsX2 : (w2.alloc (.cells #[.int .i64 bh, .int .i64 bl, .slice pa pm pc] 32)).heap.size = w2.heap.size + 1 := by simp
      have Hrow3 := Lib.hid hrow3; clear hrow3
      have Hb3 := Lib.hid hb3; clear hb3
      have Hrg3 := Lib.hid hrg3; clear hrg3
      have HV3 := Lib.hid hV3; clear hV3
      have Hds := Lib.hid hds; clear hds
      have HVb := Lib.hid hVb; clear hVb
      have HszX := Lib.hid hszX; clear hszX
      have Hbh := Lib.hid hbh; clear hbh
      have Hbl2 := Lib.hid hbl2; clear hbl2
      have HbS := Lib.hid hbS; clear hbS
      have HsX2 := Lib.hid hsX2; clear hsX2
      go_wp2_with (at_builtin; refine wpList_pushB (w2.alloc (.cells #[.int .i64 bh, .int .i64 bl, .slice pa pm pc] 32)) rfl _ _ rfl (w.heap.size + 1) _ ao p cap _ rfl Hrow3.out bh bl pa pm pc (by rw [HsX2.out]; rfl) hp8 HszX.out ?_; intro ao' cap' w4 hrow4 hch4)
      have hge : ∀ k, (Value.slice ao p cap).ownBlock = some k → w.heap.size + 1 ≤ k := fun k e => (Hrow3.out.1.lt k e).1
      have hrg4 := ranges_chg Hrg3.out hch4 (fun e => by have := hge _ e; omega) (fun e => by have := hge _ e; omega)
      have hb4 : Below w.heap.size w w4 := Hb3.out.trans (hch4.below (by have := HszX.out; omega) (fun k e => by have := hge _ e; omega))
      have hV4 : ∀ b' ∈ S, ∃ a m c, V b' = .slice a m c ∧ Own B E w4 a m c b'.p := fun b' hb' => by
        obtain ⟨a, m, c, e, ho⟩ := HV3.out b' hb'
        exact ⟨a, m, c, e, ho.chg hch4 (fun k h1 h2 _ q => by have := hge _ q; omega)⟩
      have hs4 : w.heap.size + 1 ≤ w4.heap.size := by have := hch4.size; have := HszX.out; omega
      have hle := hrg4.left_eq
      have hrl := Hrg.out.left_eq
      have Hrg4 := Lib.hid hrg4; clear hrg4
      have Hb4 := Lib.hid hb4; clear hb4
      have HV4 := Lib.hid hV4; clear hV4
      have Hrow4 := Lib.hid hrow4; clear hrow4
      have Hle := Lib.hid hle; clear hle
      have Hrl := Lib.hid hrl; clear hrl
      clear hch4 hge
      go_roundw
      case rel => exact ⟨_, cnt2, ao', p + 1, cap', done ++ [b], rfl, by omega, by simp [hdl], Hrg4, Lib.hid (by rw [cellsB_snoc, HVb.out, ← Hbh.out, ← Hbl2.out]; exact Hrow4.out), Hds, HV4, Hb4, hs4⟩
      case measure => rw [Hle.out, Hrl.out]; exact hlt
end
end Go.Proofs.YtnebfojnbjbogaaGreatDoor
namespace Go.Proofs.YtnebfojnbjbogaaGreatDoor
section
open Go.RowKit Go.Maps
set_option linter.unusedVariables false
set_option linter.unusedSimpArgs false
set_option maxRecDepth 20000

theorem step_mapUpdateB {ops : Array Oper} {o : Oper} {a : Act} {K : Act → World → Prop} {Q : Exit → Act → World → Prop} {E0 : Prop} (w : World) (hgd : o.guard = none) (m x v : Operand) (t : TypeId) (hop : o.op = Op.mapUpdate t m x v)
    (k e : TypeId) (Kd : Keyed Tryz.prog k) (ht : Tryz.prog.underlying t = some (.map k e)) (R : Value → Option (DataW Value × List MemPlace)) (b n : Nat) (D : DataW Value)
    (hm : a.eval m = .map (some b)) (hown : w.ownsMap Tryz.prog k R b n D) (hn : n < maxLen) (key val : Value) (kl : Lit) (hx : a.eval x = key) (hv : a.eval v = val) (hkey : keyOf Tryz.prog k key = some kl)
    (d : DataW Value) (ps : List MemPlace) (hval : R val = some (d, ps))
    (hK : ∀ w', w'.ownsMap Tryz.prog k R b (n + 1) (D.put kl d) → w.grownBy w' (some b) → K (a.put o.dst undef) w') :
    if Region.wanted o (yielded ops a.tmps) = true then Oper.wp Tryz.prog o a w K Q else E0 := by
  have hw : Region.wanted o (yielded ops a.tmps) = true := by simp [Region.wanted, hgd]
  rw [if_pos hw]
  obtain ⟨w', hrun, r1, r2⟩ := hown.update Kd ht hn hkey hval
  unfold Oper.wp
  simp [execOp, hop, hm, hx, hv, hrun, Result.andThen]
  exact hK _ r1 r2
theorem take_rowK {bs : List Bk} {j : Nat} (hj : j < bs.length) : bs.take (j + 1) = bs.take j ++ [bs.getD j noBank] := by
  rw [List.take_add_one, List.getElem?_eq_getElem hj, List.getD_eq_getElem?_getD, List.getElem?_eq_getElem hj]
  rfl
set_option maxHeartbeats 3200000 in
set_option maxRecDepth 100000 in
theorem allBehind_any (ao : Option Addr) (n cap : Nat) (bs : List Bk) (w : World) (hA : BanksAt w ao n cap bs) (hok : ∀ b ∈ bs, BankOk b) (hn : n ≤ 4000) :
    Calls Tryz.prog 17 #[.slice ao n cap] w fun e w' => ∃ a m c cs, e = .returned (.slice a m c) ∧ srtK cs ∧ cs.Nodup ∧ (∀ b, b ∈ cs ↔ ∃ x ∈ bs, stepB x = b) ∧ BksOwn w.heap.size w'.heap.size w' a m c cs ∧ Below w.heap.size w w' := by
  have hlen := hA.length
  have hni := hA.lenInt
  have Hok := Lib.hid hok; clear hok
  have Hlen := Lib.hid hlen; clear hlen
  have hmm := @run_makeMap Tryz.prog
  go_enter Tryz.func17, Tryz.ntmps17
  go_wp2_with fail
  clear hmm
  go_loopw [11] (fun i wr => ∃ (k : Nat) (D : DataW Value) (V : Bk → Value), k ≤ n ∧ i = .int .i64 k ∧ Hid (MapB (w.heap.size + 1) wr.heap.size wr w.heap.size k D ((bs.take k).map stepB) V) ∧ Hid (Below w.heap.size w wr) ∧ w.heap.size + 1 ≤ wr.heap.size) (fun i _ => n - (intOf i).toNat)
  case atStart => exact ⟨0, .map [], fun _ => .slice none 0 0, Nat.zero_le _, rfl, Lib.hid (MapB.made _ _ _ _), Lib.hid (belowAlloc w _), by simp⟩
  case round =>
    obtain ⟨k, D, V, hk, rfl, Hm, Hbr, hsr⟩ := hrel
    by_cases hlt : k < n
    · have hlti : (k : Int) < (n : Int) := by omega
      obtain ⟨b0, o0, rfl, hbl0, hc0⟩ := (hA.keep Hbr.out).cell (by omega)
      obtain ⟨a3, m3, d3, x0, x1, x2, hI⟩ := hc0 k hlt
      clear hc0
      have hjb : k < bs.length := by rw [Hlen.out]; exact hlt
      have hbk := Hok.out (bs.getD k noBank) (by rw [List.getD_eq_getElem?_getD, List.getElem?_eq_getElem hjb]; exact List.getElem_mem _)
      have htk : (bs.take (k + 1)).map stepB = (bs.take k).map stepB ++ [stepB (bs.getD k noBank)] := by rw [take_rowK hjb, List.map_append]; rfl
      generalize bs.getD k noBank = A at *
      obtain ⟨h3, l3, p3⟩ := A
      simp only at x0 x1 x2 hI
      have hba := belowAlloc wr (.cells #[.int .i64 h3, .int .i64 l3, .slice a3 m3 d3] 32)
      have kb := Blk.new wr h3 l3 a3 m3 d3 32
      obtain ⟨X, hX⟩ : ∃ X, X = wr.alloc (.cells #[.int .i64 h3, .int .i64 l3, .slice a3 m3 d3] 32) := ⟨_, rfl⟩
      rw [← hX] at hba kb
      have hsX : X.heap.size = wr.heap.size + 1 := by rw [hX]; simp
      have hst := stepOfBank_any h3 l3 a3 m3 d3 p3 X (hI.keep hba) hbk
      have hok5 := (step_ok hbk).1
      have hm1 := Hm.out.keep hba
      have hb1 := belowTrans Hbr.out hba (Nat.le_refl _)
      generalize hnx : stepB ⟨h3, l3, p3⟩ = nx at *
      obtain ⟨h5, l5, p5⟩ := nx
      simp only at hst
      obtain ⟨⟨u0, u1, u2⟩, v0, v1, v2⟩ := kb.cells
      clear hI kb hba Hm Hbr
      have Htk := Lib.hid htk; clear htk
      have HX := Lib.hid hX; clear hX
      have HsX := Lib.hid hsX; clear hsX
      have Hst := Lib.hid hst; clear hst
      have Hok5 := Lib.hid hok5; clear hok5
      have Hm1 := Lib.hid hm1; clear hm1
      have Hb1 := Lib.hid hb1; clear hb1
      have Hnx := Lib.hid hnx; clear hnx
      have Hbk := Lib.hid hbk; clear hbk
      have Hjb := Lib.hid hjb; clear hjb
      go_wp2_with fail
      rw [← HX.out]
      with_reducible refine (Hst.out).mono ?_
      rintro e w5 ⟨a5, m5, c5, rfl, ho5, hb5⟩
      clear u0 u1 u2 v0 v1 v2 x0 x1 x2
      have hs5 : wr.heap.size + 1 ≤ w5.heap.size := by have := hb5.size; rw [HsX.out] at this; exact this
      have hbc := belowAlloc w5 (.cells #[.int .i64 h5, .int .i64 l5, .slice a5 m5 c5] 32)
      have kc := Blk.new w5 h5 l5 a5 m5 c5 32
      obtain ⟨Y, hY⟩ : ∃ Y, Y = w5.alloc (.cells #[.int .i64 h5, .int .i64 l5, .slice a5 m5 c5] 32) := ⟨_, rfl⟩
      rw [← hY] at hbc kc
      have hm5 := (Hm1.out.keep hb5).keep hbc
      have hb6 := belowTrans (belowTrans Hb1.out hb5 (Nat.le_refl _)) hbc (Nat.le_refl _)
      have ho6 := (ho5.keep hbc).mono (show wr.heap.size ≤ X.heap.size by rw [HsX.out]; omega) hbc.size
      have htx := textOfBank_any h5 l5 a5 m5 c5 p5 Y.drew ho6.at.drewB Hok5.out
      have hkey := textKey Hok5.out
      have hsY : w5.heap.size ≤ Y.heap.size := hbc.size
      generalize hT : bankL (⟨h5, l5, p5⟩ : Bk) = T at *
      obtain ⟨⟨u0, u1, u2⟩, v0, v1, v2⟩ := kc.cells
      clear ho5 hb5 hbc Hst Hm1 Hb1
      have HY := Lib.hid hY; clear hY
      have Hm5 := Lib.hid hm5; clear hm5
      have Hb6 := Lib.hid hb6; clear hb6
      have Ho6 := Lib.hid ho6; clear ho6
      have Htx := Lib.hid htx; clear htx
      have Hkey := Lib.hid hkey; clear hkey
      have HT := Lib.hid hT; clear hT
      have Kc := Lib.hid kc; clear kc
      go_wp2_with fail
      rw [← HY.out]
      refine' cutP3 (fun key => ?main) ?pf
      case main =>
        go_region_law (first | (go_simp; with_reducible refine (Htx.out).mono ?_; rintro e w6 ⟨rfl, hb7⟩; have hy6 := belowTrans (Below.refl Y.heap.size Y).drew hb7 (Nat.le_refl _); have Hm6 := Lib.hid (Hm5.out.keep hy6); have Hb7 := Lib.hid (belowTrans Hb6.out hy6 (Nat.le_refl _)); have Ho7 := Lib.hid ((Ho6.out.keep hy6).mono (Nat.le_refl _) hy6.size); have hs6 := hy6.size; obtain ⟨⟨u0, u1, u2⟩, v0, v1, v2⟩ := (Kc.out.keep hy6).cells; obtain ⟨w7, hrun7, hown7, hg7⟩ := Hm6.out.own.update mapKS Tryz.underlying59 (by unfold maxLen; omega) Hkey.out (val := .agg #[.int .i64 h5, .int .i64 l5, .slice a5 m5 c5]) rfl; have Hown7 := Lib.hid hown7; have Hg7 := Lib.hid hg7; clear hb7 hy6 hown7 hg7))
        all_goals
          clear hrun7 u0 u1 u2 v0 v1 v2
          revert w6 w7
          exact key.out
      case pf =>
        intro w6 Hm6 Hb7 Ho7 hs6 w7 Hown7 Hg7
        clear u0 u1 u2 v0 v1 v2
        have hc7 := Chg.ofGrown Hg7.out
        have hs7 := hc7.size
        have hown8 := Hown7.out
        rw [← HT.out] at hown8
        have hk5 : BankOk ⟨h5, l5, p5⟩ := Hok5.out
        have hm8 := Hm6.out.put hk5 (a := a5) (m := m5) (c := c5) (w' := w7) (E' := w7.heap.size) ((Ho7.out.chg hc7 (fun q h1 _ _ e => by simp only [Option.some.injEq] at e; omega)).mono (Nat.le_refl _) hs7) (by omega) hsr hown8 (fun x hx => by
          obtain ⟨a, m, c, e, ho⟩ := Hm6.out.rows x hx
          exact ⟨a, m, c, e, ho.chg hc7 (fun q h1 _ _ e => by simp only [Option.some.injEq] at e; omega)⟩)
        have hb8 : Below w.heap.size w w7 := Hb7.out.trans (hc7.below (by omega) (fun q e => by simp only [Option.some.injEq] at e; omega))
        clear hc7 hown8 hk5
        have Hm8 := Lib.hid hm8; clear hm8
        have Hb8 := Lib.hid hb8; clear hb8
        go_wp2
        go_roundw
        case rel => exact ⟨k + 1, _, _, by omega, by go_num, Lib.hid (by rw [Htk.out]; exact Hm8.out), Hb8, by omega⟩
        case measure => simp [intOf] <;> omega
    · obtain rfl : n = k := by omega
      have hall : bs.take n = bs := List.take_of_length_le (by rw [Hlen.out]; exact Nat.le_refl _)
      have hm9 := Hm.out
      rw [hall] at hm9
      have hcon := valuesInOrder_any _ _ _ _ D (bs.map stepB) V wr hm9 hn hsr (Nat.le_refl _)
      have hb9 := Hbr.out
      clear hm9 hall Hm Hbr
      have Hcon := Lib.hid hcon; clear hcon
      have Hb9 := Lib.hid hb9; clear hb9
      go_wp2_with fail
      with_reducible refine (Hcon.out).mono ?_
      rintro e w9 ⟨a, m, c, cs, rfl, f1, f2, f3, f4, f5⟩
      have f6 := f4.mono (show w.heap.size ≤ w.heap.size + 1 by omega) (Nat.le_refl _)
      have f7 := belowTrans Hb9.out f5 (Nat.le_refl _)
      have f8 : ∀ b, b ∈ cs ↔ ∃ x ∈ bs, stepB x = b := fun b => (f3 b).trans List.mem_map
      clear f3 f4 f5 Hcon Hb9
      have F1 := Lib.hid f1; clear f1
      have F2 := Lib.hid f2; clear f2
      have F6 := Lib.hid f6; clear f6
      have F7 := Lib.hid f7; clear f7
      have F8 := Lib.hid f8; clear f8
      go_wp2
      first
        | go_ret
        | go_ret2
        | go_ret3
      exact ⟨_, _, _, cs, rfl, F1.out, F2.out, F8.out, F6.out, F7.out⟩
def mCyclicBanks (h n : Int) : List Bk × Bool := if (1 ≤ h ∧ h ≤ 10) ∧ 0 ≤ n ∧ n ≤ 14 then (cycBk h.toNat n.toNat, true) else ([], false)
theorem mCyc_yes (H N : Nat) (h : (1 ≤ (H : Int) ∧ (H : Int) ≤ 10) ∧ 0 ≤ (N : Int) ∧ (N : Int) ≤ 14) : mCyclicBanks H N = (cycBk H N, true) := by unfold mCyclicBanks; rw [if_pos h]; rfl
theorem mCyc_no {h n : Int} (q : ¬ ((1 ≤ h ∧ h ≤ 10) ∧ 0 ≤ n ∧ n ≤ 14)) : mCyclicBanks h n = ([], false) := by unfold mCyclicBanks; rw [if_neg q]
def lenV : Value → Nat
  | .slice _ m _ => m
  | _ => 0
theorem img_is {H N : Nat} (hH : 1 ≤ H ∧ H ≤ 10) (hN : N ≤ 14) {k : Nat} {cs : List Bk} (hs : srtK cs) (hn : cs.Nodup) (hm : ∀ b, b ∈ cs ↔ ∃ x ∈ imgB H N k, stepB x = b) : cs = imgB H N (k + 1) := by
  have hmem : ∀ b, b ∈ cs ↔ b ∈ imgB H N (k + 1) := fun b => (hm b).trans (imgB_succ hH hN k).symm
  have hp : cs.Perm (imgB H N (k + 1)) := (List.perm_ext_iff_of_nodup hn (imgB_nodup H N (k + 1))).2 hmem
  exact srtK_unique hs (srtK_of (imgB_up H N (k + 1))) hp (H := (H : Int)) (fun b hb => (imgB_in hH hN ((hmem b).1 hb)).2.1)
set_option maxHeartbeats 3200000 in
set_option maxRecDepth 100000 in
theorem impl_CyclicBanks (h n : Int) (w : World) :
    Calls Tryz.prog 6 #[.int .i64 h, .int .i64 n] w fun e w' => ∃ ao m cap, e = .returned (.tuple #[.slice ao m cap, .bool (mCyclicBanks h n).2]) ∧ BksOwn w.heap.size w'.heap.size w' ao m cap (mCyclicBanks h n).1 ∧ Below w.heap.size w w' := by
  have hcon := impl_AllBanks h n w
  by_cases q : (1 ≤ h ∧ h ≤ 10) ∧ 0 ≤ n ∧ n ≤ 14
  · obtain ⟨H, rfl⟩ := Int.eq_ofNat_of_zero_le (show 0 ≤ h by omega)
    obtain ⟨N, rfl⟩ := Int.eq_ofNat_of_zero_le q.2.1
    rw [mAllBanks_yes H N q] at hcon
    rw [mCyc_yes H N q]
    have hH : 1 ≤ H ∧ H ≤ 10 := by omega
    have hN : N ≤ 14 := by omega
    have h0 := imgB_zero H N
    have hsm := fun k => Nat.le_trans (List.length_filter_le (fun b => decide (b ∈ (allB H N).map (stepsB k))) (allB H N)) (allB_small hH hN)
    have hsm2 : ∀ k, (imgB H N k).length ≤ 1000 := hsm
    have hle := fun k => imgB_le hH hN k
    have hcy := fun k => img_cyc hH hN (k := k)
    have his := fun k cs => img_is hH hN (k := k) (cs := cs)
    have hin := fun k b (hb : b ∈ imgB H N k) => (imgB_in hH hN hb).1
    change Calls Tryz.prog 12 _ w (fun e w' => ∃ ao m cap, e = .returned (.tuple #[.slice ao m cap, .bool true]) ∧ BksOwn w.heap.size w'.heap.size w' ao m cap (allB H N) ∧ Below w.heap.size w w') at hcon
    rw [← h0] at hcon
    clear hsm h0 q
    have Hcon := Lib.hid hcon; clear hcon
    have Hsm2 := Lib.hid hsm2; clear hsm2
    have Hle := Lib.hid hle; clear hle
    have Hcy := Lib.hid hcy; clear hcy
    have His := Lib.hid his; clear his
    have Hin := Lib.hid hin; clear hin
    have HH := Lib.hid hH; clear hH
    have HN := Lib.hid hN; clear hN
    go_enter Tryz.func6, Tryz.ntmps6
    go_wp2_with fail
    with_reducible refine (Hcon.out).mono ?_
    rintro e w1 ⟨a1, m1, c1, rfl, ho1, hb1⟩
    clear Hcon
    have Ho1 := Lib.hid ho1; clear ho1
    have Hb1 := Lib.hid hb1; clear hb1
    go_wp2_with fail
    go_loopw [6] (fun v wr => ∃ (k : Nat) (a : Option Addr) (m c : Nat), v = .slice a m c ∧ Hid (BksOwn w.heap.size wr.heap.size wr a m c (imgB H N k)) ∧ Hid (Below w.heap.size w wr)) (fun v _ => lenV v)
    case atStart => exact ⟨0, a1, m1, c1, rfl, Ho1, Hb1⟩
    case round =>
      obtain ⟨k, a, m, c, rfl, Ho, Hbr⟩ := hrel
      clear Ho1 Hb1
      have hlen := Ho.out.length
      have hsml := Hsm2.out k
      have hbe := allBehind_any a m c (imgB H N k) wr Ho.out.at (Hin.out k) (by omega)
      have hszr := Hbr.out.size
      have Hbe := Lib.hid hbe; clear hbe
      go_wp2_with fail
      with_reducible refine (Hbe.out).mono ?_
      rintro e w2 ⟨a2, m2, c2, cs, rfl, f1, f2, f3, f4, f5⟩
      have hcs := His.out k cs f1 f2 f3
      subst hcs
      have hlen2 := f4.length
      have hle2 := Hle.out k
      have f6 := f4.mono hszr (Nat.le_refl _)
      have f7 := belowTrans Hbr.out f5 (Nat.le_refl _)
      clear f1 f2 f3 f4 f5 Hbe Ho Hbr
      by_cases hq : m2 = m
      · subst hq
        have hfin := Hcy.out k (by omega)
        rw [hfin] at f6
        clear hlen hlen2 hfin hle2 hsml
        have F6 := Lib.hid f6; clear f6
        have F7 := Lib.hid f7; clear f7
        go_wp2
        first
          | go_ret
          | go_ret2
          | go_ret3
        exact ⟨_, _, _, rfl, F6.out, F7.out⟩
      · have hqi : ¬ (m2 : Int) = (m : Int) := by omega
        have hms : m2 < m := by omega
        clear hlen hlen2 hle2 hsml
        have F6 := Lib.hid f6; clear f6
        have F7 := Lib.hid f7; clear f7
        have Hms := Lib.hid hms; clear hms
        go_wp2
        go_roundw
        case rel => exact ⟨k + 1, a2, m2, c2, rfl, F6, F7⟩
        case measure => exact Hms.out
  · rw [mAllBanks_no h n q] at hcon
    rw [mCyc_no q]
    clear q
    have Hcon := Lib.hid hcon; clear hcon
    go_enter Tryz.func6, Tryz.ntmps6
    go_wp2_with fail
    with_reducible refine (Hcon.out).mono ?_
    rintro e w1 ⟨a1, m1, c1, rfl, ho1, hb1⟩
    clear ho1
    have Hb1 := Lib.hid hb1; clear hb1
    go_wp2
    first
      | go_ret2
      | go_ret3
    exact ⟨none, 0, 0, rfl, BksOwn.nil _ _ _, Hb1.out⟩
end
end Go.Proofs.YtnebfojnbjbogaaGreatDoor
namespace Go.Proofs.YtnebfojnbjbogaaGreatDoor
section
open Go.RowKit
set_option linter.unusedVariables false
set_option linter.unusedSimpArgs false
set_option maxRecDepth 20000

def cycP (a : Bk) : Bool := decide ((mOrb a).2.2 = true ∧ (mOrb a).1 = 0)
def filtC (bs : List Bk) (j : Nat) : List Bk := (bs.take j).filter cycP
theorem filtC_zero (bs : List Bk) : filtC bs 0 = [] := rfl
theorem filtC_yes {a : Bk} {bs : List Bk} {j : Nat} (hj : j < bs.length) (hy : bs.getD j noBank = a) (h : (mOrb a).2.2 = true ∧ (mOrb a).1 = 0) : filtC bs (j + 1) = filtC bs j ++ [a] := by
  unfold filtC
  rw [take_rowK hj, hy, List.filter_append, List.filter_cons_of_pos (by exact decide_eq_true h)]
  rfl
theorem filtC_no {a : Bk} {bs : List Bk} {j : Nat} (hj : j < bs.length) (hy : bs.getD j noBank = a) (h : ¬ ((mOrb a).2.2 = true ∧ (mOrb a).1 = 0)) : filtC bs (j + 1) = filtC bs j := by
  unfold filtC
  rw [take_rowK hj, hy, List.filter_append, List.filter_cons_of_neg (by show ¬ (decide _ = true); rw [decide_eq_false h]; decide)]
  simp
theorem filtC_all (bs : List Bk) : filtC bs bs.length = bs.filter (fun a => decide ((mOrb a).2.2 = true ∧ (mOrb a).1 = 0)) := by
  unfold filtC; rw [List.take_length]; rfl

set_option maxHeartbeats 3200000 in
set_option maxRecDepth 100000 in
theorem spec_CyclicBanks (h n : Int) (w : World) :
    Calls Tryz.prog 7 #[.int .i64 h, .int .i64 n] w fun e w' => ∃ ao m cap, e = .returned (.tuple #[.slice ao m cap, .bool (mCyclicBanks h n).2]) ∧ BksOwn w.heap.size w'.heap.size w' ao m cap (mCyclicBanks h n).1 ∧ Below w.heap.size w w' := by
  by_cases qq : (1 ≤ h ∧ h ≤ 10) ∧ 0 ≤ n ∧ n ≤ 14
  · obtain ⟨H, rfl⟩ := Int.eq_ofNat_of_zero_le (show 0 ≤ h by omega)
    obtain ⟨N, rfl⟩ := Int.eq_ofNat_of_zero_le qq.2.1
    have h1 := fun W => baFew_yes (H : Int) N W qq
    have hall := fun W => baAll_any H N W (by omega) (by omega)
    rw [mCyc_yes H N qq]
    have hm : cycBk H N = (baL H N (min H (N + 1))).filter (fun a => decide ((mOrb a).2.2 = true ∧ (mOrb a).1 = 0)) := rfl
    have hbl := baL_length (H := H) (N := N) (by omega) (by omega) (min H (N + 1))
    have hok : ∀ b ∈ baL H N (min H (N + 1)), BankOk b := fun b hb => baL_ok (by omega) (by omega) hb
    have hbn : 3718 * min H (N + 1) ≤ 37180 := by omega
    rw [hm]
    generalize baL H N (min H (N + 1)) = bs at *
    clear hm qq
    have H1 := Lib.hid h1; clear h1
    have Hall := Lib.hid hall; clear hall
    have Hbl := Lib.hid hbl; clear hbl
    have Hok := Lib.hid hok; clear hok
    go_enter Tryz.func7, Tryz.ntmps7
    go_wp2_with fail
    with_reducible refine (H1.out _).mono ?_
    rintro e w' ⟨rfl, rfl⟩
    go_wp2_with fail
    with_reducible refine (Hall.out _).mono ?_
    rintro e w3 ⟨a1, n1, c1, rfl, ho3, hb3⟩
    clear H1 Hall
    have hl1 := ho3.length
    have hn8 : n1 ≤ 37180 := by have := Hbl.out; omega
    obtain ⟨vs, hvs⟩ := ho3.named
    have hsz2 : w.heap.size ≤ w3.heap.size := hb3.size
    have hvs' : BksN w.heap.size w3.heap.size w3 a1 n1 c1 vs bs := hvs
    have hst : BksR w3.heap.size w.heap.size w3.heap.size w3 none 0 0 (filtC bs 0) (insB n1 vs) 0 n1 := BksR.nil _ _ _ _ _ _
    clear hvs ho3
    have Hl1 := Lib.hid hl1; clear hl1
    have Hvs' := Lib.hid hvs'; clear hvs'
    have Hst := Lib.hid hst; clear hst
    have Hb3 := Lib.hid hb3; clear hb3
    obtain ⟨wo, hwo⟩ : ∃ wo : World, wo = w3 := ⟨_, rfl⟩
    subst hwo
    go_wp2_with fail
    go_loopw [6, 20] (fun v i wr => ∃ (j : Nat) (a : Option Addr) (q c : Nat), j ≤ n1 ∧ i = .int .i64 j ∧ v = .slice a q c ∧ q ≤ j ∧ Hid (BksR wo.heap.size w.heap.size wr.heap.size wr a q c (filtC bs j) (insB n1 vs) j n1) ∧ Hid (Below w.heap.size w wr) ∧ Hid (BksN w.heap.size wo.heap.size wr a1 n1 c1 vs bs) ∧ wo.heap.size ≤ wr.heap.size) (fun _ i _ => n1 - (intOf i).toNat)
    case atStart => exact ⟨0, none, 0, 0, Nat.zero_le _, rfl, rfl, Nat.le_refl _, Hst, Hb3, Hvs', Nat.le_refl _⟩
    case round =>
      obtain ⟨j, a, q, c, hj, rfl, rfl, hq, Hr, Hbr, Hv, hsr⟩ := hrel
      clear Hst Hb3 Hvs'
      have hwr := Hbr.out.size
      have hq8 : q ≤ 37180 := by omega
      by_cases hlt : j < n1
      · have hjb : j < bs.length := by have := Hl1.out; omega
        have hlti : (j : Int) < (n1 : Int) := by omega
        obtain ⟨b, a3, m3, c3, rfl, hb3, ⟨z0, z1, z2⟩, hus, hi⟩ := Hv.out.cell j hlt
        have hbk := Hok.out (bs.getD j noBank) (by rw [List.getD_eq_getElem?_getD, List.getElem?_eq_getElem hjb]; exact List.getElem_mem _)
        have hyes := fun e => filtC_yes hjb rfl e
        have hno := fun e => filtC_no hjb rfl e
        generalize bs.getD j noBank = A at *
        obtain ⟨h3, l3, p3⟩ := A
        simp only at z0 z1 z2 hi
        have hba := belowAlloc wr (.cells #[.int .i64 h3, .int .i64 l3, .slice a3 m3 c3] 32)
        have kb := Blk.new wr h3 l3 a3 m3 c3 32
        obtain ⟨X, hX⟩ : ∃ X, X = wr.alloc (.cells #[.int .i64 h3, .int .i64 l3, .slice a3 m3 c3] 32) := ⟨_, rfl⟩
        rw [← hX] at hba kb
        have hsX : X.heap.size = wr.heap.size + 1 := by rw [hX]; simp
        have hi1 := hi.keep hba
        have hst := baOrbit_any h3 l3 a3 m3 c3 p3 X hi1.at hbk
        have hr1 := Hr.out.keep hba
        have hv1 := Hv.out.keep hba
        have hb1 := belowTrans Hbr.out hba (Nat.le_refl _)
        obtain ⟨⟨x0, x1, x2⟩, y0, y1, y2⟩ := kb.cells
        generalize (mOrb ⟨h3, l3, p3⟩).1 = T at *
        generalize (mOrb ⟨h3, l3, p3⟩).2.1 = L at *
        generalize (mOrb ⟨h3, l3, p3⟩).2.2 = ok at *
        clear Hr Hv Hbr hi hbk
        have Hjb := Lib.hid hjb; clear hjb
        have Hus := Lib.hid hus; clear hus
        have Hyes := Lib.hid hyes; clear hyes
        have Hno := Lib.hid hno; clear hno
        have Hba := Lib.hid hba; clear hba
        have Kb := Lib.hid kb; clear kb
        have HX := Lib.hid hX; clear hX
        have HsX := Lib.hid hsX; clear hsX
        have Hi1 := Lib.hid hi1; clear hi1
        have Hst := Lib.hid hst; clear hst
        have Hr1 := Lib.hid hr1; clear hr1
        have Hv1 := Lib.hid hv1; clear hv1
        have Hb1 := Lib.hid hb1; clear hb1
        go_wp2_with fail
        rw [← HX.out]
        with_reducible refine (Hst.out).mono ?_
        rintro e w9 ⟨rfl, hb9⟩
        clear x0 x1 x2 y0 y1 y2 z0 z1 z2
        have hs9 : wr.heap.size + 1 ≤ w9.heap.size := by have := hb9.size; rw [HsX.out] at this; exact this
        have hr9 := Hr1.out.keep hb9
        have hv9 := Hv1.out.keep hb9
        have kb9 := Kb.out.keep hb9
        have hi9 := Hi1.out.keep hb9
        have hbb9 := belowTrans Hb1.out hb9 (Nat.le_refl _)
        clear Hr1 Hv1 Kb Hi1 Hb1 hb9 Hst
        by_cases hq2 : ok = true ∧ T = 0
        · have hk := Hyes.out hq2
          obtain ⟨rfl, rfl⟩ := hq2
          obtain ⟨⟨x0, x1, x2⟩, y0, y1, y2⟩ := kb9.cells
          have hap := hv9.apart
          clear Hyes Hno
          have Hk := Lib.hid hk; clear hk
          have Hbb9 := Lib.hid hbb9; clear hbb9
          have Hv9 := Lib.hid hv9; clear hv9
          have Kb9 := Lib.hid kb9; clear kb9
          go_wp2_with (at_builtin; refine wpList_pushBR w9 rfl _ _ rfl wo.heap.size w.heap.size w.heap.size wr.heap.size wo.heap.size a q c _ (insB n1 vs) n1 j rfl hr9 hap hlt h3 l3 a3 m3 c3 p3 Hus.out hi9 (Nat.le_refl _) hsr (by omega) hsr rfl (by omega) ?_)
          intro a6 c6 w6 ho6 hc6
          have hout := hr9.outer
          have hbo := hr9.chgBelow hc6 (by omega)
          have hbb6 : Below w.heap.size w w6 := Hbb9.out.trans (hbo.mono (by omega))
          have hv6 := Hv9.out.off hc6 (fun g hg => (hout g hg).1)
          have hs6 : wo.heap.size ≤ w6.heap.size := by have := hc6.size; omega
          clear hr9 hap hi9 hc6 hout hbo x0 x1 x2 y0 y1 y2
          have Ho6 := Lib.hid ho6; clear ho6
          have Hbb6 := Lib.hid hbb6; clear hbb6
          have Hv6 := Lib.hid hv6; clear hv6
          go_wp2
          go_roundw
          case rel => exact ⟨j + 1, a6, q + 1, c6, by omega, by go_num, rfl, by omega, Lib.hid (by rw [Hk.out]; exact Ho6.out), Hbb6, Hv6, hs6⟩
          case measure => simp [intOf] <;> omega
        · have hk := Hno.out hq2
          have hr8 := (hr9.skip).mono (E' := w9.heap.size) (by omega)
          clear Hyes Hno hr9 kb9 hi9
          cases ok
          · have Hk := Lib.hid hk; clear hk
            have Hbb9 := Lib.hid hbb9; clear hbb9
            have Hv9 := Lib.hid hv9; clear hv9
            have Hr8 := Lib.hid hr8; clear hr8
            clear hq2
            go_wp2
            go_roundw
            case rel => exact ⟨j + 1, a, q, c, by omega, by go_num, rfl, by omega, Lib.hid (by rw [Hk.out]; exact Hr8.out), Hbb9, Hv9, by omega⟩
            case measure => simp [intOf] <;> omega
          · have hT : ¬ T = 0 := fun e => hq2 ⟨rfl, e⟩
            have hT2 : decide (T = 0) = false := decide_eq_false hT
            have hT3 : (T == 0) = false := by simpa using hT
            have Hk := Lib.hid hk; clear hk
            have Hbb9 := Lib.hid hbb9; clear hbb9
            have Hv9 := Lib.hid hv9; clear hv9
            have Hr8 := Lib.hid hr8; clear hr8
            clear hq2
            go_wp2
            go_roundw
            case rel => exact ⟨j + 1, a, q, c, by omega, by go_num, rfl, by omega, Lib.hid (by rw [Hk.out]; exact Hr8.out), Hbb9, Hv9, by omega⟩
            case measure => simp [intOf] <;> omega
      · obtain rfl : n1 = j := by omega
        have hfin := Hr.out.own hsz2
        rw [show filtC bs n1 = bs.filter (fun a => decide ((mOrb a).2.2 = true ∧ (mOrb a).1 = 0)) by rw [← Hl1.out]; exact filtC_all _] at hfin
        clear Hr Hv
        have Hfin := Lib.hid hfin; clear hfin
        go_wp2
        first
          | go_ret2
          | go_ret
        exact ⟨_, _, _, rfl, Hfin.out, Hbr.out⟩
  · have h1 := fun W => baFew_no h n W qq
    rw [mCyc_no qq]
    clear qq
    have H1 := Lib.hid h1; clear h1
    go_enter Tryz.func7, Tryz.ntmps7
    go_wp2_with fail
    with_reducible refine (H1.out _).mono ?_
    rintro e w' ⟨rfl, rfl⟩
    go_wp2
    first
      | go_ret
      | go_ret2
    exact ⟨none, 0, 0, rfl, BksOwn.nil _ _ _, Below.refl _ _⟩
theorem mCyc_bound (h n : Int) : (mCyclicBanks h n).1.length ≤ 1048576 ∧ (plus2 (lensB (mCyclicBanks h n).1)).sum ≤ 1048576 := by
  unfold mCyclicBanks
  split
  · next q =>
    have h1 := Nat.le_trans (List.length_filter_le (fun b => decide ((mOrb b).2.2 = true ∧ (mOrb b).1 = 0)) (allB h.toNat n.toNat)) (allB_small (H := h.toNat) (N := n.toNat) (by omega) (by omega))
    have h1' : (cycBk h.toNat n.toNat).length ≤ 1000 := h1
    have h2 := plus2_le (cycBk h.toNat n.toNat) 14 (fun b hb => baL_piles (H := h.toNat) (N := n.toNat) (by omega) _ b (List.mem_filter.1 hb).1)
    exact ⟨by show (cycBk _ _).length ≤ _; omega, by show (plus2 (lensB (cycBk _ _))).sum ≤ _; omega⟩
  · simp [plus2, lensB]
end
end Go.Proofs.YtnebfojnbjbogaaGreatDoor
