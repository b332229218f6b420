/- The pasts of a bank state: mathematics. No condition. -/
import Derived.Test.YtbkihnejgcebpaaBbT
import Derived.Test.YtbkihnejgcebpaaBaT
import Derived.Test.YtbkihnejgcebpaaGa
namespace Go.Proofs.Ytbkihnejgcebpaa
open Go.RowKit
set_option linter.unusedVariables false
set_option linter.unusedSimpArgs false

/-- the piles that are not new -/
def oldP (h : Int) (p : List Int) : List Int := p.filter fun x => decide (x ≠ h)
/-- the piles of a past: one card more on each, and so many of one card -/
def befP (old : List Int) (t : Nat) : List Int := old.map (· + 1) ++ List.replicate (t - old.length) 1
def pastB (H l : Nat) (old : List Int) (inB : Nat) : Bk := ⟨(H : Int), (l : Int), befP old (inB - l)⟩

theorem oldP_length (h : Int) (p : List Int) : (oldP h p).length ≤ p.length := List.length_filter_le _ _
theorem oldP_sum (h : Int) (p : List Int) : p.sum = (oldP h p).sum + ((p.length - (oldP h p).length : Nat) : Int) * h := by
  induction p with
  | nil => simp [oldP]
  | cons a l ih =>
    have hl := oldP_length h l
    by_cases e : a = h
    · subst e
      have e1 : oldP a (a :: l) = oldP a l := by unfold oldP; rw [List.filter_cons_of_neg (by simp)]
      rw [e1, List.sum_cons, ih, List.length_cons, show l.length + 1 - (oldP a l).length = (l.length - (oldP a l).length) + 1 by omega]
      push_cast
      rw [Int.add_mul]
      omega
    · have e1 : oldP h (a :: l) = a :: oldP h l := by unfold oldP; rw [List.filter_cons_of_pos (by simpa using e)]
      rw [e1, List.sum_cons, List.sum_cons, ih, List.length_cons, List.length_cons, show l.length + 1 - ((oldP h l).length + 1) = l.length - (oldP h l).length by omega]
      omega
theorem oldP_all {h : Int} {l : List Int} (q : ∀ x ∈ l, x ≠ h) : oldP h l = l := by
  unfold oldP
  exact List.filter_eq_self.2 fun x hx => by simpa using q x hx
theorem oldP_split {h : Int} {p : List Int} (hs : p.Pairwise (· ≥ ·)) (hle : ∀ x ∈ p, x ≤ h) : p = List.replicate (p.length - (oldP h p).length) h ++ oldP h p := by
  induction p with
  | nil => rfl
  | cons a l ih =>
    have hl := oldP_length h l
    have hc := List.pairwise_cons.1 hs
    by_cases e : a = h
    · subst e
      have e1 : oldP a (a :: l) = oldP a l := by unfold oldP; rw [List.filter_cons_of_neg (by simp)]
      rw [e1, List.length_cons, show l.length + 1 - (oldP a l).length = (l.length - (oldP a l).length) + 1 by omega, List.replicate_succ, List.cons_append, ← ih hc.2 (fun x hx => hle x (by simp [hx]))]
    · have ha := hle a (by simp)
      have hn : ∀ x ∈ a :: l, x ≠ h := fun x hx => by
        rcases List.mem_cons.1 hx with rfl | hm
        · exact e
        · have := hc.1 x hm; omega
      rw [oldP_all hn]
      simp
theorem oldP_mem {h x : Int} {p : List Int} (hx : x ∈ oldP h p) : x ∈ p ∧ x ≠ h := by
  unfold oldP at hx
  have := List.mem_filter.1 hx
  exact ⟨this.1, by simpa using this.2⟩
theorem lowL_append (a b : List Int) : lowL (a ++ b) = lowL a ++ lowL b := by unfold lowL; rw [List.filter_append, List.map_append]
theorem lowL_up {l : List Int} (h : ∀ x ∈ l, 1 ≤ x) : lowL (l.map (· + 1)) = l := by
  induction l with
  | nil => rfl
  | cons a l ih =>
    have ha := h a (by simp)
    rw [List.map_cons, lowL_cons_hi _ (by omega), ih (fun x hx => h x (by simp [hx]))]
    congr 1
    omega
theorem lowL_bef {old : List Int} (t : Nat) (h : ∀ x ∈ old, 1 ≤ x) : lowL (befP old t) = old := by
  unfold befP
  rw [lowL_append, lowL_up h, lowL_ones (fun x hx => by rw [List.eq_of_mem_replicate hx]; exact Int.le_refl _), List.append_nil]
theorem befP_length {old : List Int} {t : Nat} (h : old.length ≤ t) : (befP old t).length = t := by
  unfold befP
  rw [List.length_append, List.length_map, List.length_replicate]
  omega
theorem sum_up (l : List Int) : (l.map (· + 1)).sum = l.sum + l.length := by
  induction l with
  | nil => rfl
  | cons a l ih => rw [List.map_cons, List.sum_cons, List.sum_cons, List.length_cons, ih]; push_cast; omega
theorem befP_sum {old : List Int} {t : Nat} (h : old.length ≤ t) : (befP old t).sum = old.sum + t := by
  unfold befP
  rw [List.sum_append, sum_up, sum_replicate]
  omega
theorem filter_single {α : Type} [DecidableEq α] {l : List α} (hn : l.Nodup) {x : α} (hx : x ∈ l) : l.filter (fun y => decide (y = x)) = [x] := by
  induction l with
  | nil => cases hx
  | cons a l ih =>
    have hc := List.nodup_cons.1 hn
    by_cases e : a = x
    · subst e
      rw [List.filter_cons_of_pos (by simp), filter_none l _ (fun y hy => by
        rw [decide_eq_false]
        intro e
        subst e
        exact hc.1 hy)]
    · rw [List.filter_cons_of_neg (by simpa using e)]
      rcases List.mem_cons.1 hx with h | h
      · exact absurd h.symm e
      · exact ih hc.2 h
theorem nodup_map {α β : Type} {f : α → β} (hf : ∀ a b, f a = f b → a = b) {l : List α} (h : l.Nodup) : (l.map f).Nodup := by
  induction l with
  | nil => simp
  | cons a l ih =>
    have hc := List.nodup_cons.1 h
    rw [List.map_cons]
    refine List.nodup_cons.2 ⟨fun hm => ?_, ih hc.2⟩
    obtain ⟨b, hb, e⟩ := List.mem_map.1 hm
    rw [hf _ _ e] at hb
    exact hc.1 hb
theorem rowBk_nodup (H N l : Nat) : (rowBk H N l).Nodup := by
  unfold rowBk
  exact nodup_map (fun a b e => by injection e) (nodup_of_bef (allF_up _ _ _))

/-- how many cards were in the bank before piles were made of them -/
def inBk (b : Bk) : Nat := (b.p.length - (oldP b.h b.p).length) * b.h.toNat + b.l.toNat

theorem past_row {H L l : Nat} {p : List Int} (hk : BankOk ⟨(H : Int), (L : Int), p⟩) {N : Nat} (hN : (L : Int) + p.sum = N) (hlH : l < H) (hlN : l ≤ N) :
    (rowBk H N l).filter (fun a => decide (stepB a = ⟨(H : Int), (L : Int), p⟩)) =
      if l + (oldP (H : Int) p).length ≤ (p.length - (oldP (H : Int) p).length) * H + L then [pastB H l (oldP (H : Int) p) ((p.length - (oldP (H : Int) p).length) * H + L)] else [] := by
  have hH : 1 ≤ (H : Int) ∧ (H : Int) ≤ 10 := hk.1
  have hL : 0 ≤ (L : Int) ∧ (L : Int) ≤ H - 1 := hk.2.1
  have hg : Good p := hk.2.2.1
  have hle : ∀ x ∈ p, 1 ≤ x ∧ x ≤ (H : Int) := fun x hx => hk.le (b := ⟨(H : Int), (L : Int), p⟩) hx
  have hsum := oldP_sum (H : Int) p
  have hsp := oldP_split hg.2.1 (fun x hx => (hle x hx).2)
  have hol := oldP_length (H : Int) p
  have hmo : ∀ x ∈ oldP (H : Int) p, 1 ≤ x ∧ x + 1 ≤ (H : Int) := fun x hx => by
    have := oldP_mem hx
    have := hle x this.1
    omega
  have hso : (oldP (H : Int) p).Pairwise (· ≥ ·) := by unfold oldP; exact hg.2.1.sublist List.filter_sublist
  generalize hO : oldP (H : Int) p = O at *
  generalize hm : p.length - O.length = m at *
  have hkey : ∀ a ∈ rowBk H N l, stepB a = ⟨(H : Int), (L : Int), p⟩ → l + O.length ≤ m * H + L ∧ a = pastB H l O (m * H + L) := by
    intro a ha hs
    unfold rowBk at ha
    obtain ⟨q, hq, rfl⟩ := List.mem_map.1 ha
    obtain ⟨s1, s2, s3, s4⟩ := allF_sound (N - l) (N - l) H q (Nat.le_refl _) hq
    rw [(step_nat H l q.length q rfl).1] at hs
    injection hs with _ e2 e3
    have e2' : (l + q.length) % H = L := Int.ofNat.inj e2
    have hlow : oldP (H : Int) p = lowL q := by
      rw [← e3]
      unfold oldP
      rw [List.filter_append, filter_none _ _ (fun x hx => by rw [List.eq_of_mem_replicate hx]; simp), List.nil_append]
      exact List.filter_eq_self.2 fun x hx => by
        obtain ⟨y, hy, h1, rfl⟩ := lowL_mem hx
        have := s3 y hy
        have : ¬ (y - 1 = (H : Int)) := by omega
        simpa using this
    rw [hO] at hlow
    have hmd : m = (l + q.length) / H := by
      have := congrArg List.length e3
      rw [List.length_append, List.length_replicate, ← hlow] at this
      omega
    have hin : m * H + L = l + q.length := by
      rw [hmd, ← e2', Nat.mul_comm]
      exact Nat.div_add_mod _ _
    have hll := lowL_length q
    rw [← hlow] at hll
    refine ⟨by omega, ?_⟩
    unfold pastB befP
    rw [hin, show l + q.length - l = q.length by omega, hlow, up_low s1 s2]
  by_cases hc : l + O.length ≤ m * H + L
  · rw [if_pos hc]
    have hbl := befP_length (old := O) (t := m * H + L - l) (by omega)
    have hbs := befP_sum (old := O) (t := m * H + L - l) (by omega)
    have hmH : ((m * H : Nat) : Int) = (m : Int) * H := by push_cast; rfl
    have hmem : pastB H l O (m * H + L) ∈ rowBk H N l := by
      unfold rowBk pastB
      refine List.mem_map.2 ⟨_, mem_allF (N - l) (N - l) H _ (Nat.le_refl _) ?_ ?_ ?_ ?_, rfl⟩
      · intro x hx
        rcases List.mem_append.1 hx with h | h
        · obtain ⟨y, hy, rfl⟩ := List.mem_map.1 h
          have := hmo y hy; omega
        · rw [List.eq_of_mem_replicate h]; omega
      · unfold befP
        rw [List.pairwise_append]
        refine ⟨?_, List.pairwise_replicate.2 (.inr (Int.le_refl _)), fun x hx y hy => ?_⟩
        · rw [List.pairwise_map]
          exact hso.imp fun {a b} h => by show a + 1 ≥ b + 1; have : a ≥ b := h; omega
        · obtain ⟨z, hz, rfl⟩ := List.mem_map.1 hx
          rw [List.eq_of_mem_replicate hy]
          have := hmo z hz
          show z + 1 ≥ 1
          omega
      · intro x hx
        rcases List.mem_append.1 hx with h | h
        · obtain ⟨y, hy, rfl⟩ := List.mem_map.1 h
          exact (hmo y hy).2
        · rw [List.eq_of_mem_replicate h]; exact hH.1
      · rw [hbs]
        omega
    have hstep : stepB (pastB H l O (m * H + L)) = ⟨(H : Int), (L : Int), p⟩ := by
      unfold pastB
      rw [(step_nat H l (m * H + L - l) _ hbl).1, lowL_bef _ (fun x hx => (hmo x hx).1), show l + (m * H + L - l) = m * H + L by omega]
      have e1 : (m * H + L) % H = L := by rw [Nat.mul_comm, Nat.mul_add_mod]; exact Nat.mod_eq_of_lt (by omega)
      have e2 : (m * H + L) / H = m := by rw [Nat.mul_comm, Nat.mul_add_div (by omega), Nat.div_eq_of_lt (by omega)]; rfl
      rw [e1, e2, ← hsp]
    rw [← filter_single (rowBk_nodup H N l) hmem]
    apply List.filter_congr
    intro a ha
    apply decide_eq_decide.2
    exact ⟨fun h => (hkey a ha h).2, fun h => by rw [h]; exact hstep⟩
  · rw [if_neg hc]
    exact filter_none _ _ fun a ha => decide_eq_false fun h => hc (hkey a ha h).1
theorem flat_if {α : Type} (f : Nat → α) (T : Nat) (F : Nat → List α) : ∀ M, (∀ l, l < M → F l = if l < T then [f l] else []) → (List.range M).flatMap F = (List.range (min M T)).map f := by
  intro M
  induction M with
  | zero => intro _; simp
  | succ M ih =>
    intro h
    rw [List.range_succ, List.flatMap_append, ih (fun l hl => h l (by omega))]
    have := h M (by omega)
    simp only [List.flatMap_cons, List.flatMap_nil, List.append_nil]
    rw [this]
    by_cases q : M < T
    · rw [if_pos q, show min (M + 1) T = M + 1 by omega, show min M T = M by omega, List.range_succ, List.map_append]; rfl
    · rw [if_neg q, show min (M + 1) T = min M T by omega, List.append_nil]
/-- all pasts, in order -/
theorem pasts_all {H L : Nat} {p : List Int} (hk : BankOk ⟨(H : Int), (L : Int), p⟩) {N : Nat} (hN : (L : Int) + p.sum = N) :
    (baL H N (min H (N + 1))).filter (fun a => decide (stepB a = ⟨(H : Int), (L : Int), p⟩)) =
      (List.range (min H ((p.length - (oldP (H : Int) p).length) * H + L + 1 - (oldP (H : Int) p).length))).map fun l => pastB H l (oldP (H : Int) p) ((p.length - (oldP (H : Int) p).length) * H + L) := by
  unfold baL
  rw [List.filter_flatMap]
  have hsum := oldP_sum (H : Int) p
  have hg : Good p := hk.2.2.1
  have h0 := sum_nonneg (fun x hx => hg.1 x (oldP_mem hx).1 : ∀ x ∈ oldP (H : Int) p, 1 ≤ x)
  have hmH : (((p.length - (oldP (H : Int) p).length) * H : Nat) : Int) = ((p.length - (oldP (H : Int) p).length : Nat) : Int) * H := by push_cast; rfl
  rw [flat_if (fun l => pastB H l (oldP (H : Int) p) ((p.length - (oldP (H : Int) p).length) * H + L)) ((p.length - (oldP (H : Int) p).length) * H + L + 1 - (oldP (H : Int) p).length) _ (min H (N + 1))]
  · congr 2
    omega
  · intro l hl
    rw [past_row hk hN (by omega) (by omega)]
    congr 1
    apply propext
    omega
end Go.Proofs.Ytbkihnejgcebpaa
