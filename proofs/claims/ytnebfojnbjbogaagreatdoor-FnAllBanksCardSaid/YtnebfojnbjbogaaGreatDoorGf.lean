/- Several texts in one: BcM, BbP, BbV, SmA, BsA, BcP. No condition. -/
import Derived.Test.YtnebfojnbjbogaaGreatDoorGc
import Derived.Test.YtnebfojnbjbogaaGreatDoorGe
import Derived.Test.YtnebfojnbjbogaaGreatDoorGa
import Derived.Test.YtnebfojnbjbogaaGreatDoorGb
namespace Go.Proofs.YtnebfojnbjbogaaGreatDoor
section
open Go.RowKit
set_option linter.unusedVariables false
set_option linter.unusedSimpArgs false

/-- the piles that are not new -/
def oldP (h : Int) (p : List Int) : List Int := p.filter fun x => decide (x ≠ h)
/-- the piles of a past: one card more on each, and so many of one card -/
def befP (old : List Int) (t : Nat) : List Int := old.map (· + 1) ++ List.replicate (t - old.length) 1
def pastB (H l : Nat) (old : List Int) (inB : Nat) : Bk := ⟨(H : Int), (l : Int), befP old (inB - l)⟩

theorem oldP_length (h : Int) (p : List Int) : (oldP h p).length ≤ p.length := List.length_filter_le _ _
theorem oldP_sum (h : Int) (p : List Int) : p.sum = (oldP h p).sum + ((p.length - (oldP h p).length : Nat) : Int) * h := by
  induction p with
  | nil => simp [oldP]
  | cons a l ih =>
    have hl := oldP_length h l
    by_cases e : a = h
    · subst e
      have e1 : oldP a (a :: l) = oldP a l := by unfold oldP; rw [List.filter_cons_of_neg (by simp)]
      rw [e1, List.sum_cons, ih, List.length_cons, show l.length + 1 - (oldP a l).length = (l.length - (oldP a l).length) + 1 by omega]
      push_cast
      rw [Int.add_mul]
      omega
    · have e1 : oldP h (a :: l) = a :: oldP h l := by unfold oldP; rw [List.filter_cons_of_pos (by simpa using e)]
      rw [e1, List.sum_cons, List.sum_cons, ih, List.length_cons, List.length_cons, show l.length + 1 - ((oldP h l).length + 1) = l.length - (oldP h l).length by omega]
      omega
theorem oldP_all {h : Int} {l : List Int} (q : ∀ x ∈ l, x ≠ h) : oldP h l = l := by
  unfold oldP
  exact List.filter_eq_self.2 fun x hx => by simpa using q x hx
theorem oldP_split {h : Int} {p : List Int} (hs : p.Pairwise (· ≥ ·)) (hle : ∀ x ∈ p, x ≤ h) : p = List.replicate (p.length - (oldP h p).length) h ++ oldP h p := by
  induction p with
  | nil => rfl
  | cons a l ih =>
    have hl := oldP_length h l
    have hc := List.pairwise_cons.1 hs
    by_cases e : a = h
    · subst e
      have e1 : oldP a (a :: l) = oldP a l := by unfold oldP; rw [List.filter_cons_of_neg (by simp)]
      rw [e1, List.length_cons, show l.length + 1 - (oldP a l).length = (l.length - (oldP a l).length) + 1 by omega, List.replicate_succ, List.cons_append, ← ih hc.2 (fun x hx => hle x (by simp [hx]))]
    · have ha := hle a (by simp)
      have hn : ∀ x ∈ a :: l, x ≠ h := fun x hx => by
        rcases List.mem_cons.1 hx with rfl | hm
        · exact e
        · have := hc.1 x hm; omega
      rw [oldP_all hn]
      simp
theorem oldP_mem {h x : Int} {p : List Int} (hx : x ∈ oldP h p) : x ∈ p ∧ x ≠ h := by
  unfold oldP at hx
  have := List.mem_filter.1 hx
  exact ⟨this.1, by simpa using this.2⟩
theorem lowL_append (a b : List Int) : lowL (a ++ b) = lowL a ++ lowL b := by unfold lowL; rw [List.filter_append, List.map_append]
theorem lowL_up {l : List Int} (h : ∀ x ∈ l, 1 ≤ x) : lowL (l.map (· + 1)) = l := by
  induction l with
  | nil => rfl
  | cons a l ih =>
    have ha := h a (by simp)
    rw [List.map_cons, lowL_cons_hi _ (by omega), ih (fun x hx => h x (by simp [hx]))]
    congr 1
    omega
theorem lowL_bef {old : List Int} (t : Nat) (h : ∀ x ∈ old, 1 ≤ x) : lowL (befP old t) = old := by
  unfold befP
  rw [lowL_append, lowL_up h, lowL_ones (fun x hx => by rw [List.eq_of_mem_replicate hx]; exact Int.le_refl _), List.append_nil]
theorem befP_length {old : List Int} {t : Nat} (h : old.length ≤ t) : (befP old t).length = t := by
  unfold befP
  rw [List.length_append, List.length_map, List.length_replicate]
  omega
theorem sum_up (l : List Int) : (l.map (· + 1)).sum = l.sum + l.length := by
  induction l with
  | nil => rfl
  | cons a l ih => rw [List.map_cons, List.sum_cons, List.sum_cons, List.length_cons, ih]; push_cast; omega
theorem befP_sum {old : List Int} {t : Nat} (h : old.length ≤ t) : (befP old t).sum = old.sum + t := by
  unfold befP
  rw [List.sum_append, sum_up, sum_replicate]
  omega
theorem filter_single {α : Type} [DecidableEq α] {l : List α} (hn : l.Nodup) {x : α} (hx : x ∈ l) : l.filter (fun y => decide (y = x)) = [x] := by
  induction l with
  | nil => cases hx
  | cons a l ih =>
    have hc := List.nodup_cons.1 hn
    by_cases e : a = x
    · subst e
      rw [List.filter_cons_of_pos (by simp), filter_none l _ (fun y hy => by
        rw [decide_eq_false]
        intro e
        subst e
        exact hc.1 hy)]
    · rw [List.filter_cons_of_neg (by simpa using e)]
      rcases List.mem_cons.1 hx with h | h
      · exact absurd h.symm e
      · exact ih hc.2 h
theorem nodup_map {α β : Type} {f : α → β} (hf : ∀ a b, f a = f b → a = b) {l : List α} (h : l.Nodup) : (l.map f).Nodup := by
  induction l with
  | nil => simp
  | cons a l ih =>
    have hc := List.nodup_cons.1 h
    rw [List.map_cons]
    refine List.nodup_cons.2 ⟨fun hm => ?_, ih hc.2⟩
    obtain ⟨b, hb, e⟩ := List.mem_map.1 hm
    rw [hf _ _ e] at hb
    exact hc.1 hb
theorem rowBk_nodup (H N l : Nat) : (rowBk H N l).Nodup := by
  unfold rowBk
  exact nodup_map (fun a b e => by injection e) (nodup_of_bef (allF_up _ _ _))

/-- how many cards were in the bank before piles were made of them -/
def inBk (b : Bk) : Nat := (b.p.length - (oldP b.h b.p).length) * b.h.toNat + b.l.toNat

theorem past_row {H L l : Nat} {p : List Int} (hk : BankOk ⟨(H : Int), (L : Int), p⟩) {N : Nat} (hN : (L : Int) + p.sum = N) (hlH : l < H) (hlN : l ≤ N) :
    (rowBk H N l).filter (fun a => decide (stepB a = ⟨(H : Int), (L : Int), p⟩)) =
      if l + (oldP (H : Int) p).length ≤ (p.length - (oldP (H : Int) p).length) * H + L then [pastB H l (oldP (H : Int) p) ((p.length - (oldP (H : Int) p).length) * H + L)] else [] := by
  have hH : 1 ≤ (H : Int) ∧ (H : Int) ≤ 10 := hk.1
  have hL : 0 ≤ (L : Int) ∧ (L : Int) ≤ H - 1 := hk.2.1
  have hg : Good p := hk.2.2.1
  have hle : ∀ x ∈ p, 1 ≤ x ∧ x ≤ (H : Int) := fun x hx => hk.le (b := ⟨(H : Int), (L : Int), p⟩) hx
  have hsum := oldP_sum (H : Int) p
  have hsp := oldP_split hg.2.1 (fun x hx => (hle x hx).2)
  have hol := oldP_length (H : Int) p
  have hmo : ∀ x ∈ oldP (H : Int) p, 1 ≤ x ∧ x + 1 ≤ (H : Int) := fun x hx => by
    have := oldP_mem hx
    have := hle x this.1
    omega
  have hso : (oldP (H : Int) p).Pairwise (· ≥ ·) := by unfold oldP; exact hg.2.1.sublist List.filter_sublist
  generalize hO : oldP (H : Int) p = O at *
  generalize hm : p.length - O.length = m at *
  have hkey : ∀ a ∈ rowBk H N l, stepB a = ⟨(H : Int), (L : Int), p⟩ → l + O.length ≤ m * H + L ∧ a = pastB H l O (m * H + L) := by
    intro a ha hs
    unfold rowBk at ha
    obtain ⟨q, hq, rfl⟩ := List.mem_map.1 ha
    obtain ⟨s1, s2, s3, s4⟩ := allF_sound (N - l) (N - l) H q (Nat.le_refl _) hq
    rw [(step_nat H l q.length q rfl).1] at hs
    injection hs with _ e2 e3
    have e2' : (l + q.length) % H = L := Int.ofNat.inj e2
    have hlow : oldP (H : Int) p = lowL q := by
      rw [← e3]
      unfold oldP
      rw [List.filter_append, filter_none _ _ (fun x hx => by rw [List.eq_of_mem_replicate hx]; simp), List.nil_append]
      exact List.filter_eq_self.2 fun x hx => by
        obtain ⟨y, hy, h1, rfl⟩ := lowL_mem hx
        have := s3 y hy
        have : ¬ (y - 1 = (H : Int)) := by omega
        simpa using this
    rw [hO] at hlow
    have hmd : m = (l + q.length) / H := by
      have := congrArg List.length e3
      rw [List.length_append, List.length_replicate, ← hlow] at this
      omega
    have hin : m * H + L = l + q.length := by
      rw [hmd, ← e2', Nat.mul_comm]
      exact Nat.div_add_mod _ _
    have hll := lowL_length q
    rw [← hlow] at hll
    refine ⟨by omega, ?_⟩
    unfold pastB befP
    rw [hin, show l + q.length - l = q.length by omega, hlow, up_low s1 s2]
  by_cases hc : l + O.length ≤ m * H + L
  · rw [if_pos hc]
    have hbl := befP_length (old := O) (t := m * H + L - l) (by omega)
    have hbs := befP_sum (old := O) (t := m * H + L - l) (by omega)
    have hmH : ((m * H : Nat) : Int) = (m : Int) * H := by push_cast; rfl
    have hmem : pastB H l O (m * H + L) ∈ rowBk H N l := by
      unfold rowBk pastB
      refine List.mem_map.2 ⟨_, mem_allF (N - l) (N - l) H _ (Nat.le_refl _) ?_ ?_ ?_ ?_, rfl⟩
      · intro x hx
        rcases List.mem_append.1 hx with h | h
        · obtain ⟨y, hy, rfl⟩ := List.mem_map.1 h
          have := hmo y hy; omega
        · rw [List.eq_of_mem_replicate h]; omega
      · unfold befP
        rw [List.pairwise_append]
        refine ⟨?_, List.pairwise_replicate.2 (.inr (Int.le_refl _)), fun x hx y hy => ?_⟩
        · rw [List.pairwise_map]
          exact hso.imp fun {a b} h => by show a + 1 ≥ b + 1; have : a ≥ b := h; omega
        · obtain ⟨z, hz, rfl⟩ := List.mem_map.1 hx
          rw [List.eq_of_mem_replicate hy]
          have := hmo z hz
          show z + 1 ≥ 1
          omega
      · intro x hx
        rcases List.mem_append.1 hx with h | h
        · obtain ⟨y, hy, rfl⟩ := List.mem_map.1 h
          exact (hmo y hy).2
        · rw [List.eq_of_mem_replicate h]; exact hH.1
      · rw [hbs]
        omega
    have hstep : stepB (pastB H l O (m * H + L)) = ⟨(H : Int), (L : Int), p⟩ := by
      unfold pastB
      rw [(step_nat H l (m * H + L - l) _ hbl).1, lowL_bef _ (fun x hx => (hmo x hx).1), show l + (m * H + L - l) = m * H + L by omega]
      have e1 : (m * H + L) % H = L := by rw [Nat.mul_comm, Nat.mul_add_mod]; exact Nat.mod_eq_of_lt (by omega)
      have e2 : (m * H + L) / H = m := by rw [Nat.mul_comm, Nat.mul_add_div (by omega), Nat.div_eq_of_lt (by omega)]; rfl
      rw [e1, e2, ← hsp]
    rw [← filter_single (rowBk_nodup H N l) hmem]
    apply List.filter_congr
    intro a ha
    apply decide_eq_decide.2
    exact ⟨fun h => (hkey a ha h).2, fun h => by rw [h]; exact hstep⟩
  · rw [if_neg hc]
    exact filter_none _ _ fun a ha => decide_eq_false fun h => hc (hkey a ha h).1
theorem flat_if {α : Type} (f : Nat → α) (T : Nat) (F : Nat → List α) : ∀ M, (∀ l, l < M → F l = if l < T then [f l] else []) → (List.range M).flatMap F = (List.range (min M T)).map f := by
  intro M
  induction M with
  | zero => intro _; simp
  | succ M ih =>
    intro h
    rw [List.range_succ, List.flatMap_append, ih (fun l hl => h l (by omega))]
    have := h M (by omega)
    simp only [List.flatMap_cons, List.flatMap_nil, List.append_nil]
    rw [this]
    by_cases q : M < T
    · rw [if_pos q, show min (M + 1) T = M + 1 by omega, show min M T = M by omega, List.range_succ, List.map_append]; rfl
    · rw [if_neg q, show min (M + 1) T = min M T by omega, List.append_nil]
/-- all pasts, in order -/
theorem pasts_all {H L : Nat} {p : List Int} (hk : BankOk ⟨(H : Int), (L : Int), p⟩) {N : Nat} (hN : (L : Int) + p.sum = N) :
    (baL H N (min H (N + 1))).filter (fun a => decide (stepB a = ⟨(H : Int), (L : Int), p⟩)) =
      (List.range (min H ((p.length - (oldP (H : Int) p).length) * H + L + 1 - (oldP (H : Int) p).length))).map fun l => pastB H l (oldP (H : Int) p) ((p.length - (oldP (H : Int) p).length) * H + L) := by
  unfold baL
  rw [List.filter_flatMap]
  have hsum := oldP_sum (H : Int) p
  have hg : Good p := hk.2.2.1
  have h0 := sum_nonneg (fun x hx => hg.1 x (oldP_mem hx).1 : ∀ x ∈ oldP (H : Int) p, 1 ≤ x)
  have hmH : (((p.length - (oldP (H : Int) p).length) * H : Nat) : Int) = ((p.length - (oldP (H : Int) p).length : Nat) : Int) * H := by push_cast; rfl
  rw [flat_if (fun l => pastB H l (oldP (H : Int) p) ((p.length - (oldP (H : Int) p).length) * H + L)) ((p.length - (oldP (H : Int) p).length) * H + L + 1 - (oldP (H : Int) p).length) _ (min H (N + 1))]
  · congr 2
    omega
  · intro l hl
    rw [past_row hk hN (by omega) (by omega)]
    congr 1
    apply propext
    omega
end
end Go.Proofs.YtnebfojnbjbogaaGreatDoor
namespace Go.Proofs.YtnebfojnbjbogaaGreatDoor
section
open Go.RowKit
set_option linter.unusedVariables false
set_option linter.unusedSimpArgs false
set_option maxRecDepth 20000

theorem Tryz.infoBank : (Tryz.prog.info? 32).map (fun i => (i.zero, i.size, i.bytes)) = some (some (.agg #[.int .i64 0, .int .i64 0, .slice none 0 0]), 3, 40) := by kernel_rfl
theorem wpList_pushB {ops : Array Oper} {rest : List Oper} {o : Oper} {a : Act} {Q : Exit → Act → World → Prop} (w : World) (hgd : o.guard = none) (s x : Operand)
    (ho : o.op = .call { callee := .builtin .append, args := #[s, x], argTypes := #[26, 26] })
    (B E : Nat) (ao : Option Addr) (n cap : Nat) (vs : List Value) (hs : a.eval s = .slice ao n cap) (hown : Row3 B E w ao n cap vs) (u0 u1 : Int) (pa : Option Addr) (pm pc : Nat)
    (hx : a.eval x = .slice (some ⟨w.heap.size, 0, none⟩) 1 1) (hn : n ≤ 1048576) (hB : B ≤ w.heap.size)
    (h : ∀ ao' cap' w', Row3 B w'.heap.size w' ao' (n + 1) cap' (vs ++ [.int .i64 u0, .int .i64 u1, .slice pa pm pc]) → Chg (fun k => (Value.slice ao n cap).ownBlock = some k) w w' → wpList Tryz.prog ops Q rest (a.put o.dst (.slice ao' (n + 1) cap')) w') :
    wpList Tryz.prog ops Q (o :: rest) a (w.alloc (.cells #[.int .i64 u0, .int .i64 u1, .slice pa pm pc] 32)) := by
  obtain ⟨i0, hi, hz0, hz1, hz2⟩ := info_parts Tryz.infoBank
  refine wpList_append_own _ hgd s x 26 ho B 32 i0 _ 3 40 Tryz.underlying26 hi hz0 hz1 hz2 rfl (by decide) _ n vs hs (hown.1.alloc _) ⟨w.heap.size, 0, none⟩ 1 1 [.int .i64 u0, .int .i64 u1, .slice pa pm pc] hx rfl ?_ ?_ ?_ ?_ (by simp; omega) ?_
  · intro j u hu
    match j, hu with
    | 0, hu => simp at hu; subst hu; rw [Addr.add_lit, World.cell?_alloc_at _ _ _ _ rfl]; rfl
    | 1, hu => simp at hu; subst hu; rw [Addr.add_lit, World.cell?_alloc_at _ _ _ _ rfl]; rfl
    | 2, hu => simp at hu; subst hu; rw [Addr.add_lit, World.cell?_alloc_at _ _ _ _ rfl]; rfl
    | j + 3, hu => simp at hu
  · intro u hu
    simp at hu
    rcases hu with rfl | rfl | rfl <;> rfl
  · unfold maxLen; omega
  · omega
  · intro v' w1 hown' hgrow hnil
    have hv : ∃ ao' cap', v' = .slice ao' (n + 1) cap' := by
      rcases hown'.2 with ⟨e, hz⟩ | ⟨g, c, cur, e, _⟩
      · omega
      · exact ⟨_, _, e⟩
    obtain ⟨ao', cap', rfl⟩ := hv
    refine h ao' cap' w1 ⟨hown', fun g hg => (hown'.lt g hg).2⟩ ?_
    have hc := Chg.ofGrown hgrow
    refine ⟨hc.os, hc.tape, hc.output, Nat.le_trans (by simp) hc.size, fun k hk hs' => ?_⟩
    rw [hc.block k (by simp; omega) (fun e => hs' e.symm), Below.heap_alloc w _ k hk]

theorem getD_appL {α : Type} (l r : List α) (d : α) (i : Nat) (h : i < l.length) : (l ++ r).getD i d = l.getD i d := by
  rw [List.getD_eq_getElem?_getD, List.getElem?_append_left h, List.getD_eq_getElem?_getD]
theorem getD_appR {α : Type} (l r : List α) (d : α) (i k : Nat) (h : i = l.length + k) : (l ++ r).getD i d = r.getD k d := by
  subst h
  rw [List.getD_eq_getElem?_getD, List.getElem?_append_right (by omega), List.getD_eq_getElem?_getD]
  congr 2
  omega
theorem Row3.apartInt {B E w ao n cap vs B' E' a m c xs g} (h : Row3 B E w ao n cap vs) (hp : Own B' E' w a m c xs) (h1 : (Value.slice a m c).ownBlock = some g) (h2 : (Value.slice ao n cap).ownBlock = some g) : False := by
  obtain ⟨cur, f1⟩ := h.typed h2
  obtain ⟨cur', f2⟩ := OwnRow.typed hp h1
  rw [f1] at f2
  simp at f2
/-- what was there, one bank state more whose piles lie in a row of their own -/
theorem BksOwn.push {B E E' w w' ao n cap vs bs ao' cap' pa pm pc p} {u0 u1 : Int} (h1 : Row3 B E w ao n cap vs) (h2 : bs.length = n)
    (h3 : ∀ i, i < n → ∃ a m c, vs.getD (i * 3) undef = .int .i64 (bs.getD i noBank).h ∧ vs.getD (i * 3 + 1) undef = .int .i64 (bs.getD i noBank).l ∧ vs.getD (i * 3 + 2) undef = .slice a m c ∧ Own B E w a m c (bs.getD i noBank).p)
    (h4 : ∀ i j, i < j → j < n → apart (vs.getD (i * 3 + 2) undef) (vs.getD (j * 3 + 2) undef))
    (r : Row3 B E' w' ao' (n + 1) cap' (vs ++ [.int .i64 u0, .int .i64 u1, .slice pa pm pc])) (hc : Chg (fun k => (Value.slice ao n cap).ownBlock = some k) w w') (hE : E ≤ E') (hp : Own B E w pa pm pc p)
    (hap : ∀ i, i < n → apart (vs.getD (i * 3 + 2) undef) (.slice pa pm pc)) : BksOwn B E' w' ao' (n + 1) cap' (bs ++ [⟨u0, u1, p⟩]) := by
  have hl := h1.length
  refine ⟨_, r, by simp [h2], fun i hi => ?_, fun i j hij hj => ?_⟩
  · by_cases hlt : i < n
    · obtain ⟨a, m, c, e0, e1, e2, ho⟩ := h3 i hlt
      rw [getD_appL _ _ _ _ (by omega), getD_appL _ _ _ _ (by omega), getD_appL _ _ _ _ (by omega), getD_appL _ _ _ _ (by omega)]
      exact ⟨a, m, c, e0, e1, e2, (ho.chg hc fun g _ _ hg hs => h1.apartInt ho hg hs).mono (Nat.le_refl _) hE⟩
    · obtain rfl : i = n := by omega
      rw [getD_appR vs _ _ _ 0 (by omega), getD_appR vs _ _ _ 1 (by omega), getD_appR vs _ _ _ 2 (by omega), getD_appR bs _ _ _ 0 (by omega)]
      exact ⟨pa, pm, pc, rfl, rfl, rfl, (hp.chg hc fun g _ _ hg hs => h1.apartInt hp hg hs).mono (Nat.le_refl _) hE⟩
  · rw [getD_appL _ _ _ _ (by omega)]
    by_cases hlt : j < n
    · rw [getD_appL _ _ _ _ (by omega)]
      exact h4 i j hij hlt
    · obtain rfl : j = n := by omega
      rw [getD_appR vs _ _ _ 2 (by omega)]
      exact hap i hij
/-- append of a bank state whose piles were made behind all that lie in the slice -/
theorem wpList_pushBk {ops : Array Oper} {rest : List Oper} {o : Oper} {a : Act} {Q : Exit → Act → World → Prop} (w : World) (hgd : o.guard = none) (s x : Operand)
    (ho : o.op = .call { callee := .builtin .append, args := #[s, x], argTypes := #[26, 26] })
    (B C E : Nat) (ao : Option Addr) (n cap : Nat) (bs : List Bk) (hs : a.eval s = .slice ao n cap) (hown : BksOwn B C w ao n cap bs) (u0 u1 : Int) (pa : Option Addr) (pm pc : Nat) (p : List Int)
    (hp : Own C E w pa pm pc p) (hBC : B ≤ C) (hCE : C ≤ E) (hE : E ≤ w.heap.size)
    (hx : a.eval x = .slice (some ⟨w.heap.size, 0, none⟩) 1 1) (hn : n ≤ 1048576)
    (h : ∀ ao' cap' w', BksOwn B w'.heap.size w' ao' (n + 1) cap' (bs ++ [⟨u0, u1, p⟩]) → Chg (fun k => (Value.slice ao n cap).ownBlock = some k) w w' → wpList Tryz.prog ops Q rest (a.put o.dst (.slice ao' (n + 1) cap')) w') :
    wpList Tryz.prog ops Q (o :: rest) a (w.alloc (.cells #[.int .i64 u0, .int .i64 u1, .slice pa pm pc] 32)) := by
  obtain ⟨vs, h1, h2, h3, h4⟩ := hown
  refine wpList_pushB w hgd s x ho B C ao n cap vs hs h1 u0 u1 pa pm pc hx hn (by omega) fun ao' cap' w' r hc => h ao' cap' w' ?_ hc
  have h3' : ∀ i, i < n → ∃ a m c, vs.getD (i * 3) undef = .int .i64 (bs.getD i noBank).h ∧ vs.getD (i * 3 + 1) undef = .int .i64 (bs.getD i noBank).l ∧ vs.getD (i * 3 + 2) undef = .slice a m c ∧ Own B E w a m c (bs.getD i noBank).p := fun i hi => by
    obtain ⟨a, m, c, e0, e1, e2, ho⟩ := h3 i hi
    exact ⟨a, m, c, e0, e1, e2, ho.mono (Nat.le_refl _) hCE⟩
  refine BksOwn.push (h1.mono (Nat.le_refl _) hCE) h2 h3' h4 r hc (Nat.le_trans hE hc.size) (hp.mono hBC (Nat.le_refl _)) fun i hi => ?_
  obtain ⟨a, m, c, -, -, e2, ho⟩ := h3 i hi
  rw [e2]
  rcases ho.cases with ⟨rfl, -⟩ | ⟨g, rfl, -, g2, -⟩
  · exact .inl rfl
  · refine .inr fun e => ?_
    rcases hp.cases with ⟨rfl, -⟩ | ⟨g', rfl, g1, -, -⟩
    · cases e
    · simp [Value.ownBlock] at e
      omega

theorem BksOwn.chgBelow {B E w w' ao n cap bs} (h : BksOwn B E w ao n cap bs) (hc : Chg (fun k => (Value.slice ao n cap).ownBlock = some k) w w') (hB : B ≤ w.heap.size) : Below B w w' := by
  obtain ⟨vs, h1, -⟩ := h
  exact hc.below hB (fun k hk => (h1.1.lt k hk).1)
theorem BksOwn.chgRg {B E w w' ao n cap bs} (h : BksOwn B E w ao n cap bs) (hc : Chg (fun k => (Value.slice ao n cap).ownBlock = some k) w w') : Chg (Rg B E) w w' := by
  obtain ⟨vs, h1, -⟩ := h
  exact hc.mono fun k hk => ⟨(h1.1.lt k hk).1, h1.2 k hk⟩
/-- lists of lists stay where the outer row of bank states alone is written -/
theorem OwnRows.chgBks {B E w w' ao n cap xss B' E' a' n' c' bs} (h : OwnRows B E w ao n cap xss) (k : BksOwn B' E' w a' n' c' bs) (hc : Chg (fun q => (Value.slice a' n' c').ownBlock = some q) w w') : OwnRows B E w' ao n cap xss := by
  obtain ⟨us, k1, -⟩ := k
  obtain ⟨vs, h1, h2, h3, h4⟩ := h
  refine ⟨vs, h1.chg hc fun g _ _ hg hs => ?_, h2, fun i hi => ?_, h4⟩
  · obtain ⟨cur, f1⟩ := k1.typed hs
    obtain ⟨cur', f2⟩ := OwnRow.typed h1 hg
    rw [f1] at f2
    simp at f2
  · obtain ⟨a, m, c, e, ho⟩ := h3 i hi
    exact ⟨a, m, c, e, ho.chg hc fun g _ _ hg hs => k1.apartInt ho hg hs⟩
end
end Go.Proofs.YtnebfojnbjbogaaGreatDoor
namespace Go.Proofs.YtnebfojnbjbogaaGreatDoor
section
open Go.RowKit
set_option linter.unusedVariables false
set_option linter.unusedSimpArgs false
set_option maxRecDepth 20000

/-- lists of lists that the call made, the rows by name -/
def RowsN (B E : Nat) (w : World) (ao : Option Addr) (n cap : Nat) (us : List Value) (xss : List (List Int)) : Prop :=
  OwnRow B E w 30 ao n cap us ∧ xss.length = n ∧
    (∀ i, i < n → ∃ a m c, us.getD i undef = .slice a m c ∧ Own B E w a m c (xss.getD i [])) ∧ (∀ i j, i < j → j < n → apart (us.getD i undef) (us.getD j undef))
theorem OwnRows.named {B E w ao n cap xss} (h : OwnRows B E w ao n cap xss) : ∃ us, RowsN B E w ao n cap us xss := h
theorem RowsN.keep {B E w w' ao n cap us xss} (h : RowsN B E w ao n cap us xss) (hb : Below w.heap.size w w') : RowsN B E w' ao n cap us xss := by
  obtain ⟨h1, h2, h3, h4⟩ := h
  refine ⟨h1.keep hb, h2, fun i hi => ?_, h4⟩
  obtain ⟨a, m, c, e, ho⟩ := h3 i hi
  exact ⟨a, m, c, e, ho.keep hb⟩
theorem RowsN.chg3 {B E w w' ao n cap us xss B' E' a' n' c' vs} (h : RowsN B E w ao n cap us xss) (k1 : Row3 B' E' w a' n' c' vs) (hc : Chg (fun q => (Value.slice a' n' c').ownBlock = some q) w w') : RowsN B E w' ao n cap us xss := by
  obtain ⟨h1, h2, h3, h4⟩ := h
  refine ⟨h1.chg hc fun g _ _ hg hs => ?_, h2, fun i hi => ?_, h4⟩
  · obtain ⟨cur, f1⟩ := k1.typed hs
    obtain ⟨cur', f2⟩ := OwnRow.typed h1 hg
    rw [f1] at f2
    simp at f2
  · obtain ⟨a, m, c, e, ho⟩ := h3 i hi
    exact ⟨a, m, c, e, ho.chg hc fun g _ _ hg hs => k1.apartInt ho hg hs⟩
/-- where a row lies -/
theorem RowsN.cell {B E w ao n cap us xss} (h : RowsN B E w ao n cap us xss) (i : Nat) (hi : i < n) :
    ∃ b a m c, ao = some ⟨b, 0, none⟩ ∧ b < w.heap.size ∧ us.getD i undef = .slice a m c ∧ w.cell? ⟨b, i, none⟩ = some (.slice a m c) ∧ Own B E w a m c (xss.getD i []) := by
  obtain ⟨h1, h2, h3, h4⟩ := h
  obtain ⟨a, m, c, e, ho⟩ := h3 i hi
  rcases h1.cases with ⟨_, rfl, _⟩ | ⟨b, rfl, _, _, hb⟩
  · omega
  have hl := h1.length
  refine ⟨b, a, m, c, rfl, hb, e, ?_, ho⟩
  have := World.ownsRow.cellAt h1.1 i (by omega)
  rw [this, ← e, List.getElem?_eq_getElem (by omega), List.getD_eq_getElem?_getD, List.getElem?_eq_getElem (by omega)]
  rfl

/-- bank states in a row of this call's, their piles in rows from B on, apart from the rows j, j + 1, .., m - 1 -/
def BksR (Bo B E : Nat) (w : World) (ao : Option Addr) (n cap : Nat) (bs : List Bk) (us : List Value) (j m : Nat) : Prop :=
  ∃ vs : List Value, Row3 Bo E w ao n cap vs ∧ bs.length = n ∧
    (∀ i, i < n → ∃ a m c, vs.getD (i * 3) undef = .int .i64 (bs.getD i noBank).h ∧ vs.getD (i * 3 + 1) undef = .int .i64 (bs.getD i noBank).l ∧ vs.getD (i * 3 + 2) undef = .slice a m c ∧ Own B E w a m c (bs.getD i noBank).p) ∧
    (∀ i j, i < j → j < n → apart (vs.getD (i * 3 + 2) undef) (vs.getD (j * 3 + 2) undef)) ∧
    ∀ t i, t < n → j ≤ i → i < m → apart (vs.getD (t * 3 + 2) undef) (us.getD i undef)
theorem BksR.own {Bo B E w ao n cap bs us j m} (h : BksR Bo B E w ao n cap bs us j m) (hB : B ≤ Bo) : BksOwn B E w ao n cap bs := by
  obtain ⟨vs, h1, h2, h3, h4, _⟩ := h
  exact ⟨vs, h1.mono hB (Nat.le_refl _), h2, h3, h4⟩
theorem BksR.length {Bo B E w ao n cap bs us j m} (h : BksR Bo B E w ao n cap bs us j m) : bs.length = n := by obtain ⟨_, _, h, _⟩ := h; exact h
theorem BksR.row3 {Bo B E w ao n cap bs us j m} (h : BksR Bo B E w ao n cap bs us j m) : ∃ vs, Row3 Bo E w ao n cap vs := by
  obtain ⟨vs, h1, _⟩ := h
  exact ⟨vs, h1⟩
theorem BksR.outer {Bo B E w ao n cap bs us j m} (h : BksR Bo B E w ao n cap bs us j m) (k : Nat) (hk : (Value.slice ao n cap).ownBlock = some k) : Bo ≤ k ∧ k < E := by
  obtain ⟨vs, h1, _⟩ := h
  exact ⟨(h1.1.lt k hk).1, h1.2 k hk⟩
theorem BksR.nil (Bo B E : Nat) (w : World) (us : List Value) (m : Nat) : BksR Bo B E w none 0 0 [] us 0 m :=
  ⟨[], Row3.nil Bo E w, rfl, fun i hi => absurd hi (Nat.not_lt_zero _), fun i j _ hj => absurd hj (Nat.not_lt_zero _), fun t i ht => absurd ht (Nat.not_lt_zero _)⟩
theorem BksR.skip {Bo B E w ao n cap bs us j m} (h : BksR Bo B E w ao n cap bs us j m) : BksR Bo B E w ao n cap bs us (j + 1) m := by
  obtain ⟨vs, h1, h2, h3, h4, h5⟩ := h
  exact ⟨vs, h1, h2, h3, h4, fun t i ht hi hm => h5 t i ht (by omega) hm⟩
theorem BksR.keep {Bo B E w w' ao n cap bs us j m} (h : BksR Bo B E w ao n cap bs us j m) (hb : Below w.heap.size w w') : BksR Bo B E w' ao n cap bs us j m := by
  obtain ⟨vs, h1, h2, h3, h4, h5⟩ := h
  have hc := Chg.ofBelow (S := fun _ => False) hb
  refine ⟨vs, h1.chg hc (fun g _ _ _ h => h), h2, fun i hi => ?_, h4, h5⟩
  obtain ⟨a, m, c, e0, e1, e2, ho⟩ := h3 i hi
  exact ⟨a, m, c, e0, e1, e2, ho.keep hb⟩
theorem BksR.mono {Bo B E E' : Nat} {w ao n cap bs us j m} (h : BksR Bo B E w ao n cap bs us j m) (hE : E ≤ E') : BksR Bo B E' w ao n cap bs us j m := by
  obtain ⟨vs, h1, h2, h3, h4, h5⟩ := h
  refine ⟨vs, h1.mono (Nat.le_refl _) hE, h2, fun i hi => ?_, h4, h5⟩
  obtain ⟨a, m, c, e0, e1, e2, ho⟩ := h3 i hi
  exact ⟨a, m, c, e0, e1, e2, ho.mono (Nat.le_refl _) hE⟩
theorem BksR.first {B C E w ao n cap bs us R a1 m c1} (h : BksOwn B C w ao n cap bs) (r : RowsN C E w a1 m c1 us R) (hE : C ≤ E) : BksR B B E w ao n cap bs us 0 m := by
  obtain ⟨vs, h1, h2, h3, h4⟩ := h
  refine ⟨vs, h1.mono (Nat.le_refl _) hE, h2, fun i hi => ?_, h4, fun t i ht _ hi => ?_⟩
  · obtain ⟨a, m, c, e0, e1, e2, ho⟩ := h3 i hi
    exact ⟨a, m, c, e0, e1, e2, ho.mono (Nat.le_refl _) hE⟩
  · obtain ⟨a, m', c, -, -, e2, ho⟩ := h3 t ht
    obtain ⟨a', m'', c', e, hr⟩ := r.2.2.1 i hi
    rw [e2, e]
    rcases ho.cases with ⟨rfl, -⟩ | ⟨g, rfl, -, g2, -⟩
    · exact .inl rfl
    · refine .inr fun e => ?_
      rcases hr.cases with ⟨rfl, -⟩ | ⟨g', rfl, g1, -, -⟩
      · cases e
      · simp [Value.ownBlock] at e
        omega
theorem RowsN.apart {B E w ao n cap us xss} (h : RowsN B E w ao n cap us xss) : ∀ i k, i < k → k < n → apart (us.getD i undef) (us.getD k undef) := h.2.2.2
/-- append of a bank state whose piles are the row j -/
theorem wpList_pushBR {ops : Array Oper} {rest : List Oper} {o : Oper} {a : Act} {Q : Exit → Act → World → Prop} (w : World) (hgd : o.guard = none) (s x : Operand)
    (ho : o.op = .call { callee := .builtin .append, args := #[s, x], argTypes := #[26, 26] })
    (Bo B C E E0 : Nat) (ao : Option Addr) (n cap : Nat) (bs : List Bk) (us : List Value) (m j : Nat) (hs : a.eval s = .slice ao n cap)
    (hown : BksR Bo B E w ao n cap bs us j m) (hap : ∀ i k, i < k → k < m → apart (us.getD i undef) (us.getD k undef)) (hj : j < m) (u0 u1 : Int) (pa : Option Addr) (pm pc : Nat) (p : List Int)
    (he : us.getD j undef = .slice pa pm pc) (hp : Own C E0 w pa pm pc p) (hBC : B ≤ C) (hCE : E0 ≤ E) (hE : E ≤ w.heap.size) (hBE : Bo ≤ E)
    (hx : a.eval x = .slice (some ⟨w.heap.size, 0, none⟩) 1 1) (hn : n ≤ 1048576)
    (h : ∀ ao' cap' w', BksR Bo B w'.heap.size w' ao' (n + 1) cap' (bs ++ [⟨u0, u1, p⟩]) us (j + 1) m → Chg (fun k => (Value.slice ao n cap).ownBlock = some k) w w' → wpList Tryz.prog ops Q rest (a.put o.dst (.slice ao' (n + 1) cap')) w') :
    wpList Tryz.prog ops Q (o :: rest) a (w.alloc (.cells #[.int .i64 u0, .int .i64 u1, .slice pa pm pc] 32)) := by
  obtain ⟨vs, h1, h2, h3, h4, h5⟩ := hown
  refine wpList_pushB w hgd s x ho Bo E ao n cap vs hs h1 u0 u1 pa pm pc hx hn (by omega) fun ao' cap' w' r hc => h ao' cap' w' ?_ hc
  have hl := h1.length
  have hp' := (hp.mono hBC hCE)
  have hEE : E ≤ w'.heap.size := Nat.le_trans hE hc.size
  refine ⟨_, r, by simp [h2], fun i hi => ?_, fun i k hik hk => ?_, fun t i ht hi hm => ?_⟩
  · by_cases hlt : i < n
    · obtain ⟨a, m, c, e0, e1, e2, ho⟩ := h3 i hlt
      rw [getD_appL _ _ _ _ (by omega), getD_appL _ _ _ _ (by omega), getD_appL _ _ _ _ (by omega), getD_appL _ _ _ _ (by omega)]
      exact ⟨a, m, c, e0, e1, e2, (ho.chg hc fun g _ _ hg hs => h1.apartInt ho hg hs).mono (Nat.le_refl _) hEE⟩
    · obtain rfl : i = n := by omega
      rw [getD_appR vs _ _ _ 0 (by omega), getD_appR vs _ _ _ 1 (by omega), getD_appR vs _ _ _ 2 (by omega), getD_appR bs _ _ _ 0 (by omega)]
      exact ⟨pa, pm, pc, rfl, rfl, rfl, (hp'.chg hc fun g _ _ hg hs => h1.apartInt hp' hg hs).mono (Nat.le_refl _) hEE⟩
  · rw [getD_appL _ _ _ _ (by omega)]
    by_cases hlt : k < n
    · rw [getD_appL _ _ _ _ (by omega)]
      exact h4 i k hik hlt
    · obtain rfl : k = n := by omega
      rw [getD_appR vs _ _ _ 2 (by omega)]
      have := h5 i j hik (Nat.le_refl _) hj
      rw [he] at this
      exact this
  · by_cases hlt : t < n
    · rw [getD_appL _ _ _ _ (by omega)]
      exact h5 t i hlt (by omega) hm
    · obtain rfl : t = n := by omega
      rw [getD_appR vs _ _ _ 2 (by omega)]
      have := hap j i (by omega) hm
      rw [he] at this
      exact this
theorem BksR.chgBelow {Bo B E w w' ao n cap bs us j m} (h : BksR Bo B E w ao n cap bs us j m) (hc : Chg (fun k => (Value.slice ao n cap).ownBlock = some k) w w') (hB : Bo ≤ w.heap.size) : Below Bo w w' :=
  hc.below hB (fun k hk => (h.outer k hk).1)
end
end Go.Proofs.YtnebfojnbjbogaaGreatDoor
namespace Go.Proofs.YtnebfojnbjbogaaGreatDoor
section
open Go.RowKit
set_option linter.unusedVariables false
set_option linter.unusedSimpArgs false
set_option maxRecDepth 20000

set_option maxHeartbeats 400000 in
theorem l1Same_any (ao bo : Option Addr) (n m cap cap' : Nat) (xs ys : List Int) (w : World) (hx : IntsAt w ao n cap xs) (hy : IntsAt w bo m cap' ys) :
    Calls Tryz.prog 62 #[.slice ao n cap, .slice bo m cap'] w fun e w' => e = .returned (.bool (decide (xs = ys))) ∧ ∃ q, w' = w.drewN q := by
  have hn' := hx.lenInt
  have hm' := hy.lenInt
  by_cases hnm : n = m
  · subst hnm
    go_enter Tryz.func62, Tryz.ntmps62
    go_wp2
    go_loopw [13] (fun i wr => ∃ k : Nat, k ≤ n ∧ i = .int .i64 k ∧ xs.take k = ys.take k ∧ ∃ q, wr = w.drewN q)
      (fun i _ => n - (intOf i).toNat)
    case atStart => exact ⟨0, Nat.zero_le _, rfl, rfl, 0, rfl⟩
    case round =>
      obtain ⟨k, hk, rfl, heq, q, rfl⟩ := hrel
      have Heq := Lib.hid heq; clear heq
      by_cases hlt : k < n
      · have hl1 := Lib.hid hx.length
        have hl2 := Lib.hid hy.length
        obtain ⟨b1, o1, rfl, hb1, hc1⟩ := hx.cell k hlt
        have hck1 := hc1 k hlt
        clear hc1
        generalize hx1 : xs.getD k 0 = x at hck1
        have Hx1 := Lib.hid hx1; clear hx1
        obtain ⟨b2, o2, rfl, hb2, hc2⟩ := hy.cell k hlt
        have hck2 := hc2 k hlt
        clear hc2
        generalize hx2 : ys.getD k 0 = y at hck2
        have Hx2 := Lib.hid hx2; clear hx2
        go_wp2
        go_quiet (fail)
        go_wp2
        · go_ret
          have hne : xs ≠ ys := fun e => by
            have h3 := Hx1.out; have h4 := Hx2.out
            rw [e, h4] at h3; subst h3; simp at *
          exact ⟨by simp [hne], _, World.drewN_drewN _ _ _⟩
        · have hxy : x = y := by rename_i hh; simpa using hh
          go_roundw
          case rel => exact ⟨k + 1, by omega, by go_num, by rw [take_snoc Hx1.out hlt hl1.out, take_snoc Hx2.out hlt hl2.out, Heq.out, hxy], _, rfl⟩
          case measure => simp [intOf]; omega
      · go_wp2
        go_ret
        obtain rfl : n = k := by omega
        have e := Heq.out
        rw [take_all hx.length, take_all hy.length] at e
        exact ⟨by simp [e], _, rfl⟩
  · have hne : ((n : Int) != (m : Int)) = true := by simp; omega
    have hxy : xs ≠ ys := fun e => hnm (by rw [← hx.length, ← hy.length, e])
    go_enter Tryz.func62, Tryz.ntmps62
    go_wp2
    go_ret
    exact ⟨by simp [hxy], 0, rfl⟩
end
end Go.Proofs.YtnebfojnbjbogaaGreatDoor
namespace Go.Proofs.YtnebfojnbjbogaaGreatDoor
section
open Go.RowKit
set_option linter.unusedVariables false
set_option linter.unusedSimpArgs false
set_option maxRecDepth 20000

theorem baSame_any (h l h' l' : Int) (a a' : Option Addr) (n n' c c' : Nat) (xs ys : List Int) (w : World) (hA : IntsAt w a n c xs) (hB : IntsAt w a' n' c' ys) :
    Calls Tryz.prog 46 #[.agg #[.int .i64 h, .int .i64 l, .slice a n c], .agg #[.int .i64 h', .int .i64 l', .slice a' n' c']] w fun e w' => e = .returned (.bool (decide ((⟨h, l, xs⟩ : Bk) = ⟨h', l', ys⟩))) ∧ Below w.heap.size w w' := by
  have hb0 := belowAlloc w (.cells #[.int .i64 h, .int .i64 l, .slice a n c] 32)
  have hb := belowTrans hb0 (belowAlloc _ (.cells #[.int .i64 h', .int .i64 l', .slice a' n' c'] 32)) (Nat.le_refl _)
  have hcon := l1Same_any a a' n n' c c' xs ys _ (hA.keep hb) (hB.keep hb)
  clear hb0
  have Hcon := Lib.hid hcon; clear hcon
  have Hb := Lib.hid hb; clear hb
  by_cases e1 : h = h'
  · by_cases e2 : l = l'
    · subst e1 e2
      go_enter Tryz.func46, Tryz.ntmps46
      go_wp2_with fail
      with_reducible refine (Hcon.out).mono ?_
      rintro e w1 ⟨rfl, q, rfl⟩
      go_wp2
      go_ret
      exact ⟨by simp, belowDrewN Hb.out _⟩
    · subst e1
      have hd : decide (l = l') = false := decide_eq_false e2
      go_enter Tryz.func46, Tryz.ntmps46
      go_wp2
      go_ret
      exact ⟨by simp [e2], Hb.out⟩
  · have hd : decide (h = h') = false := decide_eq_false e1
    go_enter Tryz.func46, Tryz.ntmps46
    go_wp2
    go_ret
    exact ⟨by simp [e1], Hb.out⟩
end
end Go.Proofs.YtnebfojnbjbogaaGreatDoor
namespace Go.Proofs.YtnebfojnbjbogaaGreatDoor
section
open Go.RowKit
set_option linter.unusedVariables false
set_option linter.unusedSimpArgs false
set_option maxRecDepth 20000

/-! ### The model -/
def mBankPasts (b : Bk) : List Bk × Bool :=
  if bankB b = true ∧ b.l + b.p.sum ≤ 14 then ((baL b.h.toNat (b.l + b.p.sum).toNat (min b.h.toNat ((b.l + b.p.sum).toNat + 1))).filter (fun a => decide (stepB a = b)), true) else ([], false)
theorem mBankPasts_yes {H L N : Nat} {p : List Int} (hk : BankOk ⟨(H : Int), (L : Int), p⟩) (hN : (L : Int) + p.sum = N) (h14 : N ≤ 14) :
    mBankPasts ⟨(H : Int), (L : Int), p⟩ = ((baL H N (min H (N + 1))).filter (fun a => decide (stepB a = ⟨(H : Int), (L : Int), p⟩)), true) := by
  unfold mBankPasts
  have h1 : (⟨(H : Int), (L : Int), p⟩ : Bk).l + (⟨(H : Int), (L : Int), p⟩ : Bk).p.sum = N := hN
  rw [h1, if_pos ⟨bank_iff.2 hk, by omega⟩]
  rfl
theorem mBankPasts_no {b : Bk} (h : ¬ (BankOk b ∧ b.l + b.p.sum ≤ 14)) : mBankPasts b = ([], false) := by
  unfold mBankPasts
  rw [if_neg (fun q => h ⟨bank_iff.1 q.1, q.2⟩)]
theorem baL_mem {H N k : Nat} (hk : k ≤ min H (N + 1)) {b : Bk} (hb : b ∈ baL H N k) : ∃ l q, b = ⟨(H : Int), ((l : Nat) : Int), q⟩ ∧ l < k ∧ (∀ x ∈ q, 1 ≤ x) ∧ q.Pairwise (· ≥ ·) ∧ (∀ x ∈ q, x ≤ (H : Int)) ∧ q.sum = ((N - l : Nat) : Int) := by
  unfold baL at hb
  obtain ⟨l, hl, hb⟩ := List.mem_flatMap.1 hb
  unfold rowBk at hb
  obtain ⟨q, hq, rfl⟩ := List.mem_map.1 hb
  obtain ⟨s1, s2, s3, s4⟩ := allF_sound (N - l) (N - l) H q (Nat.le_refl _) hq
  exact ⟨l, q, rfl, by simpa using hl, s1, s2, s3, s4⟩
theorem baL_ok {H N : Nat} (hH : 1 ≤ H ∧ H ≤ 10) (hN : N ≤ 14) {b : Bk} (hb : b ∈ baL H N (min H (N + 1))) : BankOk b := by
  obtain ⟨l, q, rfl, hl, s1, s2, s3, s4⟩ := baL_mem (Nat.le_refl _) hb
  refine ⟨⟨by show (1 : Int) ≤ H; omega, by show (H : Int) ≤ 10; omega⟩, ⟨by show (0 : Int) ≤ l; omega, by show (l : Int) ≤ H - 1; omega⟩, ⟨s1, s2, by show q.sum ≤ 28; omega⟩, ?_, by show (l : Int) + q.sum ≤ 28; omega⟩
  show q.getD 0 0 ≤ (H : Int)
  cases q with
  | nil => simp
  | cons x q => exact s3 x (by simp)
theorem mBankPasts_bound (b : Bk) : (mBankPasts b).1.length ≤ 1048576 ∧ (plus2 (lensB (mBankPasts b).1)).sum ≤ 1048576 := by
  unfold mBankPasts
  split
  · next q =>
    have hk := bank_iff.1 q.1
    have h1 : 1 ≤ b.h ∧ b.h ≤ 10 := hk.1
    have h2 := hk.sum
    have h3 : 0 ≤ b.l := hk.2.1.1
    have hb1 := baL_length (H := b.h.toNat) (N := (b.l + b.p.sum).toNat) (by omega) (by omega) (min b.h.toNat ((b.l + b.p.sum).toNat + 1))
    have hb2 := List.length_filter_le (fun a => decide (stepB a = b)) (baL b.h.toNat (b.l + b.p.sum).toNat (min b.h.toNat ((b.l + b.p.sum).toNat + 1)))
    have hb3 := plus2_le ((baL b.h.toNat (b.l + b.p.sum).toNat (min b.h.toNat ((b.l + b.p.sum).toNat + 1))).filter (fun a => decide (stepB a = b))) 14 (fun x hx => baL_piles (by omega) _ x (List.mem_filter.1 hx).1)
    have hb4 : 3718 * min b.h.toNat ((b.l + b.p.sum).toNat + 1) ≤ 37180 := by omega
    exact ⟨by show (List.filter _ _).length ≤ _; omega, by show (plus2 (lensB (List.filter _ _))).sum ≤ _; omega⟩
  · simp [plus2, lensB]

/-! ### A slice of bank states, cell by cell -/
def BksN (B E : Nat) (w : World) (ao : Option Addr) (n cap : Nat) (vs : List Value) (bs : List Bk) : Prop :=
  Row3 B E w ao n cap vs ∧ bs.length = n ∧
    (∀ i, i < n → ∃ a m c, vs.getD (i * 3) undef = .int .i64 (bs.getD i noBank).h ∧ vs.getD (i * 3 + 1) undef = .int .i64 (bs.getD i noBank).l ∧ vs.getD (i * 3 + 2) undef = .slice a m c ∧ Own B E w a m c (bs.getD i noBank).p) ∧
    (∀ i j, i < j → j < n → apart (vs.getD (i * 3 + 2) undef) (vs.getD (j * 3 + 2) undef))
theorem BksOwn.named {B E w ao n cap bs} (h : BksOwn B E w ao n cap bs) : ∃ vs, BksN B E w ao n cap vs bs := h
theorem BksN.keep {B E w w' ao n cap vs bs} (h : BksN B E w ao n cap vs bs) (hb : Below w.heap.size w w') : BksN B E w' ao n cap vs bs := by
  obtain ⟨h1, h2, h3, h4⟩ := h
  refine ⟨h1.chg (S := fun _ => False) (Chg.ofBelow hb) (fun g _ _ _ h => h), h2, fun i hi => ?_, h4⟩
  obtain ⟨a, m, c, e0, e1, e2, ho⟩ := h3 i hi
  exact ⟨a, m, c, e0, e1, e2, ho.keep hb⟩
theorem BksN.off {S : Nat → Prop} {B E w w' ao n cap vs bs} (h : BksN B E w ao n cap vs bs) (hc : Chg S w w') (hs : ∀ g, S g → E ≤ g) : BksN B E w' ao n cap vs bs := by
  obtain ⟨h1, h2, h3, h4⟩ := h
  refine ⟨h1.chg hc (fun g _ hg _ q => by have := hs g q; omega), h2, fun i hi => ?_, h4⟩
  obtain ⟨a, m, c, e0, e1, e2, ho⟩ := h3 i hi
  exact ⟨a, m, c, e0, e1, e2, ho.chg hc (fun g _ hg _ q => by have := hs g q; omega)⟩
def insB (n : Nat) (vs : List Value) : List Value := (List.range n).map fun i => vs.getD (i * 3 + 2) undef
theorem insB_getD {n i : Nat} (vs : List Value) (h : i < n) : (insB n vs).getD i undef = vs.getD (i * 3 + 2) undef := by
  unfold insB
  rw [List.getD_eq_getElem?_getD, List.getElem?_map, List.getElem?_range h]; rfl
theorem BksN.apart {B E w ao n cap vs bs} (h : BksN B E w ao n cap vs bs) : ∀ i k, i < k → k < n → apart ((insB n vs).getD i undef) ((insB n vs).getD k undef) := fun i k h1 h2 => by
  rw [insB_getD vs (by omega), insB_getD vs h2]; exact h.2.2.2 i k h1 h2
theorem BksN.cell {B E w ao n cap vs bs} (h : BksN B E w ao n cap vs bs) (i : Nat) (hi : i < n) :
    ∃ b a m c, ao = some ⟨b, 0, none⟩ ∧ b < w.heap.size ∧ (w.cell? ⟨b, i * 3, none⟩ = some (.int .i64 (bs.getD i noBank).h) ∧ w.cell? ⟨b, i * 3 + 1, none⟩ = some (.int .i64 (bs.getD i noBank).l) ∧ w.cell? ⟨b, i * 3 + 2, none⟩ = some (.slice a m c)) ∧ (insB n vs).getD i undef = .slice a m c ∧ Own B E w a m c (bs.getD i noBank).p := by
  obtain ⟨h1, h2, h3, h4⟩ := h
  obtain ⟨a, m, c, e0, e1, e2, ho⟩ := h3 i hi
  rcases h1.cases with ⟨_, rfl, _⟩ | ⟨b, rfl, hb1, hb2, hb3⟩
  · omega
  have hl := h1.length
  exact ⟨b, a, m, c, rfl, hb3, ⟨by rw [h1.cell _ (by omega), e0], by rw [h1.cell _ (by omega), e1], by rw [h1.cell _ (by omega), e2]⟩, by rw [insB_getD vs hi, e2], ho⟩

/-! ### Append in a drawn region -/
theorem step_pushB {ops : Array Oper} {o : Oper} {a : Act} {K : Act → World → Prop} {Q : Exit → Act → World → Prop} {E0 : Prop} (w : World) (hgd : o.guard = none) (s x : Operand)
    (ho : o.op = .call { callee := .builtin .append, args := #[s, x], argTypes := #[26, 26] })
    (B E : Nat) (ao : Option Addr) (n cap : Nat) (vs : List Value) (hs : a.eval s = .slice ao n cap) (hown : Row3 B E w ao n cap vs) (u0 u1 : Int) (pa : Option Addr) (pm pc : Nat)
    (hx : a.eval x = .slice (some ⟨w.heap.size, 0, none⟩) 1 1) (hn : n ≤ 1048576) (hB : B ≤ w.heap.size)
    (h : ∀ ao' cap' w', Row3 B w'.heap.size w' ao' (n + 1) cap' (vs ++ [.int .i64 u0, .int .i64 u1, .slice pa pm pc]) → Chg (fun k => (Value.slice ao n cap).ownBlock = some k) w w' → K (a.put o.dst (.slice ao' (n + 1) cap')) w') :
    if Region.wanted o (yielded ops a.tmps) = true then Oper.wp Tryz.prog o a (w.alloc (.cells #[.int .i64 u0, .int .i64 u1, .slice pa pm pc] 32)) K Q else E0 := by
  have hw : Region.wanted o (yielded ops a.tmps) = true := by simp [Region.wanted, hgd]
  rw [if_pos hw]
  obtain ⟨i0, hi, hz0, hz1, hz2⟩ := info_parts Tryz.infoBank
  refine wp_append_own _ s x _ ho B 32 i0 _ 3 40 Tryz.underlying26 hi hz0 hz1 hz2 rfl (by decide) _ n vs hs (hown.1.alloc _) ⟨w.heap.size, 0, none⟩ 1 1 [.int .i64 u0, .int .i64 u1, .slice pa pm pc] hx rfl ?_ ?_ ?_ ?_ (by simp; omega) ?_
  · intro j u hu
    match j, hu with
    | 0, hu => simp at hu; subst hu; rw [Addr.add_lit, World.cell?_alloc_at _ _ _ _ rfl]; rfl
    | 1, hu => simp at hu; subst hu; rw [Addr.add_lit, World.cell?_alloc_at _ _ _ _ rfl]; rfl
    | 2, hu => simp at hu; subst hu; rw [Addr.add_lit, World.cell?_alloc_at _ _ _ _ rfl]; rfl
    | j + 3, hu => simp at hu
  · intro u hu
    simp at hu
    rcases hu with rfl | rfl | rfl <;> rfl
  · unfold maxLen; omega
  · omega
  · intro v' w1 hown' hgrow hnil
    have hv : ∃ ao' cap', v' = .slice ao' (n + 1) cap' := by
      rcases hown'.2 with ⟨e, hz⟩ | ⟨g, c, cur, e, _⟩
      · omega
      · exact ⟨_, _, e⟩
    obtain ⟨ao', cap', rfl⟩ := hv
    refine h ao' cap' w1 ⟨hown', fun g hg => (hown'.lt g hg).2⟩ ?_
    have hc := Chg.ofGrown hgrow
    refine ⟨hc.os, hc.tape, hc.output, Nat.le_trans (by simp) hc.size, fun k hk hs' => ?_⟩
    rw [hc.block k (by simp; omega) (fun e => hs' e.symm), Below.heap_alloc w _ k hk]
theorem step_pushBk {ops : Array Oper} {o : Oper} {a : Act} {K : Act → World → Prop} {Q : Exit → Act → World → Prop} {E0 : Prop} (w : World) (hgd : o.guard = none) (s x : Operand)
    (ho : o.op = .call { callee := .builtin .append, args := #[s, x], argTypes := #[26, 26] })
    (B C E : Nat) (ao : Option Addr) (n cap : Nat) (bs : List Bk) (hs : a.eval s = .slice ao n cap) (hown : BksOwn B C w ao n cap bs) (u0 u1 : Int) (pa : Option Addr) (pm pc : Nat) (p : List Int)
    (hp : Own C E w pa pm pc p) (hBC : B ≤ C) (hCE : C ≤ E) (hE : E ≤ w.heap.size)
    (hx : a.eval x = .slice (some ⟨w.heap.size, 0, none⟩) 1 1) (hn : n ≤ 1048576)
    (h : ∀ ao' cap' w', BksOwn B w'.heap.size w' ao' (n + 1) cap' (bs ++ [⟨u0, u1, p⟩]) → Chg (fun k => (Value.slice ao n cap).ownBlock = some k) w w' → K (a.put o.dst (.slice ao' (n + 1) cap')) w') :
    if Region.wanted o (yielded ops a.tmps) = true then Oper.wp Tryz.prog o a (w.alloc (.cells #[.int .i64 u0, .int .i64 u1, .slice pa pm pc] 32)) K Q else E0 := by
  obtain ⟨vs, h1, h2, h3, h4⟩ := hown
  refine step_pushB w hgd s x ho B C ao n cap vs hs h1 u0 u1 pa pm pc hx hn (by omega) fun ao' cap' w' r hc => h ao' cap' w' ?_ hc
  have h3' : ∀ i, i < n → ∃ a m c, vs.getD (i * 3) undef = .int .i64 (bs.getD i noBank).h ∧ vs.getD (i * 3 + 1) undef = .int .i64 (bs.getD i noBank).l ∧ vs.getD (i * 3 + 2) undef = .slice a m c ∧ Own B E w a m c (bs.getD i noBank).p := fun i hi => by
    obtain ⟨a, m, c, e0, e1, e2, ho⟩ := h3 i hi
    exact ⟨a, m, c, e0, e1, e2, ho.mono (Nat.le_refl _) hCE⟩
  refine BksOwn.push (h1.mono (Nat.le_refl _) hCE) h2 h3' h4 r hc (Nat.le_trans hE hc.size) (hp.mono hBC (Nat.le_refl _)) fun i hi => ?_
  obtain ⟨a, m, c, -, -, e2, ho⟩ := h3 i hi
  rw [e2]
  rcases ho.cases with ⟨rfl, -⟩ | ⟨g, rfl, -, g2, -⟩
  · exact .inl rfl
  · refine .inr fun e => ?_
    rcases hp.cases with ⟨rfl, -⟩ | ⟨g', rfl, g1, -, -⟩
    · cases e
    · simp [Value.ownBlock] at e
      omega
end
end Go.Proofs.YtnebfojnbjbogaaGreatDoor
