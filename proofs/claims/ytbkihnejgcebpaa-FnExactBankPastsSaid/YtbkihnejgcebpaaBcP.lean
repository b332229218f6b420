/- Pasts of bank states: the model, a bank state appended in a drawn region, a slice of bank states by cells. No condition. -/
import Derived.Test.YtbkihnejgcebpaaBcM
import Derived.Test.YtbkihnejgcebpaaBbV
import Derived.Test.YtbkihnejgcebpaaBbQ
import Derived.Test.YtbkihnejgcebpaaGu
namespace Go.Proofs.Ytbkihnejgcebpaa
open Go.RowKit
set_option linter.unusedVariables false
set_option linter.unusedSimpArgs false
set_option maxRecDepth 20000

/-! ### The model -/
def mBankPasts (b : Bk) : List Bk × Bool :=
  if bankB b = true ∧ b.l + b.p.sum ≤ 14 then ((baL b.h.toNat (b.l + b.p.sum).toNat (min b.h.toNat ((b.l + b.p.sum).toNat + 1))).filter (fun a => decide (stepB a = b)), true) else ([], false)
theorem mBankPasts_yes {H L N : Nat} {p : List Int} (hk : BankOk ⟨(H : Int), (L : Int), p⟩) (hN : (L : Int) + p.sum = N) (h14 : N ≤ 14) :
    mBankPasts ⟨(H : Int), (L : Int), p⟩ = ((baL H N (min H (N + 1))).filter (fun a => decide (stepB a = ⟨(H : Int), (L : Int), p⟩)), true) := by
  unfold mBankPasts
  have h1 : (⟨(H : Int), (L : Int), p⟩ : Bk).l + (⟨(H : Int), (L : Int), p⟩ : Bk).p.sum = N := hN
  rw [h1, if_pos ⟨bank_iff.2 hk, by omega⟩]
  rfl
theorem mBankPasts_no {b : Bk} (h : ¬ (BankOk b ∧ b.l + b.p.sum ≤ 14)) : mBankPasts b = ([], false) := by
  unfold mBankPasts
  rw [if_neg (fun q => h ⟨bank_iff.1 q.1, q.2⟩)]
theorem baL_mem {H N k : Nat} (hk : k ≤ min H (N + 1)) {b : Bk} (hb : b ∈ baL H N k) : ∃ l q, b = ⟨(H : Int), ((l : Nat) : Int), q⟩ ∧ l < k ∧ (∀ x ∈ q, 1 ≤ x) ∧ q.Pairwise (· ≥ ·) ∧ (∀ x ∈ q, x ≤ (H : Int)) ∧ q.sum = ((N - l : Nat) : Int) := by
  unfold baL at hb
  obtain ⟨l, hl, hb⟩ := List.mem_flatMap.1 hb
  unfold rowBk at hb
  obtain ⟨q, hq, rfl⟩ := List.mem_map.1 hb
  obtain ⟨s1, s2, s3, s4⟩ := allF_sound (N - l) (N - l) H q (Nat.le_refl _) hq
  exact ⟨l, q, rfl, by simpa using hl, s1, s2, s3, s4⟩
theorem baL_ok {H N : Nat} (hH : 1 ≤ H ∧ H ≤ 10) (hN : N ≤ 14) {b : Bk} (hb : b ∈ baL H N (min H (N + 1))) : BankOk b := by
  obtain ⟨l, q, rfl, hl, s1, s2, s3, s4⟩ := baL_mem (Nat.le_refl _) hb
  refine ⟨⟨by show (1 : Int) ≤ H; omega, by show (H : Int) ≤ 10; omega⟩, ⟨by show (0 : Int) ≤ l; omega, by show (l : Int) ≤ H - 1; omega⟩, ⟨s1, s2, by show q.sum ≤ 28; omega⟩, ?_, by show (l : Int) + q.sum ≤ 28; omega⟩
  show q.getD 0 0 ≤ (H : Int)
  cases q with
  | nil => simp
  | cons x q => exact s3 x (by simp)
theorem mBankPasts_bound (b : Bk) : (mBankPasts b).1.length ≤ 1048576 ∧ (plus2 (lensB (mBankPasts b).1)).sum ≤ 1048576 := by
  unfold mBankPasts
  split
  · next q =>
    have hk := bank_iff.1 q.1
    have h1 : 1 ≤ b.h ∧ b.h ≤ 10 := hk.1
    have h2 := hk.sum
    have h3 : 0 ≤ b.l := hk.2.1.1
    have hb1 := baL_length (H := b.h.toNat) (N := (b.l + b.p.sum).toNat) (by omega) (by omega) (min b.h.toNat ((b.l + b.p.sum).toNat + 1))
    have hb2 := List.length_filter_le (fun a => decide (stepB a = b)) (baL b.h.toNat (b.l + b.p.sum).toNat (min b.h.toNat ((b.l + b.p.sum).toNat + 1)))
    have hb3 := plus2_le ((baL b.h.toNat (b.l + b.p.sum).toNat (min b.h.toNat ((b.l + b.p.sum).toNat + 1))).filter (fun a => decide (stepB a = b))) 14 (fun x hx => baL_piles (by omega) _ x (List.mem_filter.1 hx).1)
    have hb4 : 3718 * min b.h.toNat ((b.l + b.p.sum).toNat + 1) ≤ 37180 := by omega
    exact ⟨by show (List.filter _ _).length ≤ _; omega, by show (plus2 (lensB (List.filter _ _))).sum ≤ _; omega⟩
  · simp [plus2, lensB]

/-! ### Two bank states alike -/
theorem baSame_any (h l h' l' : Int) (a a' : Option Addr) (n n' c c' : Nat) (xs ys : List Int) (w : World) (hA : IntsAt w a n c xs) (hB : IntsAt w a' n' c' ys) :
    Calls Try.prog 43 #[.agg #[.int .i64 h, .int .i64 l, .slice a n c], .agg #[.int .i64 h', .int .i64 l', .slice a' n' c']] w fun e w' => e = .returned (.bool (decide ((⟨h, l, xs⟩ : Bk) = ⟨h', l', ys⟩))) ∧ Below w.heap.size w w' := by
  have hb0 := belowAlloc w (.cells #[.int .i64 h, .int .i64 l, .slice a n c] 33)
  have hb := belowTrans hb0 (belowAlloc _ (.cells #[.int .i64 h', .int .i64 l', .slice a' n' c'] 33)) (Nat.le_refl _)
  have hcon := l1Same_any a a' n n' c c' xs ys _ (hA.keep hb) (hB.keep hb)
  clear hb0
  have Hcon := Lib.hid hcon; clear hcon
  have Hb := Lib.hid hb; clear hb
  by_cases e1 : h = h'
  · by_cases e2 : l = l'
    · subst e1 e2
      go_enter Try.func43, Try.ntmps43
      go_wp2_with fail
      with_reducible refine (Hcon.out).mono ?_
      rintro e w1 ⟨rfl, q, rfl⟩
      go_wp2
      go_ret
      exact ⟨by simp, belowDrewN Hb.out _⟩
    · subst e1
      have hd : decide (l = l') = false := decide_eq_false e2
      go_enter Try.func43, Try.ntmps43
      go_wp2
      go_ret
      exact ⟨by simp [e2], Hb.out⟩
  · have hd : decide (h = h') = false := decide_eq_false e1
    go_enter Try.func43, Try.ntmps43
    go_wp2
    go_ret
    exact ⟨by simp [e1], Hb.out⟩

/-! ### A slice of bank states, cell by cell -/
def BksN (B E : Nat) (w : World) (ao : Option Addr) (n cap : Nat) (vs : List Value) (bs : List Bk) : Prop :=
  Row3 B E w ao n cap vs ∧ bs.length = n ∧
    (∀ i, i < n → ∃ a m c, vs.getD (i * 3) undef = .int .i64 (bs.getD i noBank).h ∧ vs.getD (i * 3 + 1) undef = .int .i64 (bs.getD i noBank).l ∧ vs.getD (i * 3 + 2) undef = .slice a m c ∧ Own B E w a m c (bs.getD i noBank).p) ∧
    (∀ i j, i < j → j < n → apart (vs.getD (i * 3 + 2) undef) (vs.getD (j * 3 + 2) undef))
theorem BksOwn.named {B E w ao n cap bs} (h : BksOwn B E w ao n cap bs) : ∃ vs, BksN B E w ao n cap vs bs := h
theorem BksN.keep {B E w w' ao n cap vs bs} (h : BksN B E w ao n cap vs bs) (hb : Below w.heap.size w w') : BksN B E w' ao n cap vs bs := by
  obtain ⟨h1, h2, h3, h4⟩ := h
  refine ⟨h1.chg (S := fun _ => False) (Chg.ofBelow hb) (fun g _ _ _ h => h), h2, fun i hi => ?_, h4⟩
  obtain ⟨a, m, c, e0, e1, e2, ho⟩ := h3 i hi
  exact ⟨a, m, c, e0, e1, e2, ho.keep hb⟩
theorem BksN.off {S : Nat → Prop} {B E w w' ao n cap vs bs} (h : BksN B E w ao n cap vs bs) (hc : Chg S w w') (hs : ∀ g, S g → E ≤ g) : BksN B E w' ao n cap vs bs := by
  obtain ⟨h1, h2, h3, h4⟩ := h
  refine ⟨h1.chg hc (fun g _ hg _ q => by have := hs g q; omega), h2, fun i hi => ?_, h4⟩
  obtain ⟨a, m, c, e0, e1, e2, ho⟩ := h3 i hi
  exact ⟨a, m, c, e0, e1, e2, ho.chg hc (fun g _ hg _ q => by have := hs g q; omega)⟩
def insB (n : Nat) (vs : List Value) : List Value := (List.range n).map fun i => vs.getD (i * 3 + 2) undef
theorem insB_getD {n i : Nat} (vs : List Value) (h : i < n) : (insB n vs).getD i undef = vs.getD (i * 3 + 2) undef := by
  unfold insB
  rw [List.getD_eq_getElem?_getD, List.getElem?_map, List.getElem?_range h]; rfl
theorem BksN.apart {B E w ao n cap vs bs} (h : BksN B E w ao n cap vs bs) : ∀ i k, i < k → k < n → apart ((insB n vs).getD i undef) ((insB n vs).getD k undef) := fun i k h1 h2 => by
  rw [insB_getD vs (by omega), insB_getD vs h2]; exact h.2.2.2 i k h1 h2
theorem BksN.cell {B E w ao n cap vs bs} (h : BksN B E w ao n cap vs bs) (i : Nat) (hi : i < n) :
    ∃ b a m c, ao = some ⟨b, 0, none⟩ ∧ b < w.heap.size ∧ (w.cell? ⟨b, i * 3, none⟩ = some (.int .i64 (bs.getD i noBank).h) ∧ w.cell? ⟨b, i * 3 + 1, none⟩ = some (.int .i64 (bs.getD i noBank).l) ∧ w.cell? ⟨b, i * 3 + 2, none⟩ = some (.slice a m c)) ∧ (insB n vs).getD i undef = .slice a m c ∧ Own B E w a m c (bs.getD i noBank).p := by
  obtain ⟨h1, h2, h3, h4⟩ := h
  obtain ⟨a, m, c, e0, e1, e2, ho⟩ := h3 i hi
  rcases h1.cases with ⟨_, rfl, _⟩ | ⟨b, rfl, hb1, hb2, hb3⟩
  · omega
  have hl := h1.length
  exact ⟨b, a, m, c, rfl, hb3, ⟨by rw [h1.cell _ (by omega), e0], by rw [h1.cell _ (by omega), e1], by rw [h1.cell _ (by omega), e2]⟩, by rw [insB_getD vs hi, e2], ho⟩

/-! ### Append in a drawn region -/
theorem step_pushB {ops : Array Oper} {o : Oper} {a : Act} {K : Act → World → Prop} {Q : Exit → Act → World → Prop} {E0 : Prop} (w : World) (hgd : o.guard = none) (s x : Operand)
    (ho : o.op = .call { callee := .builtin .append, args := #[s, x], argTypes := #[22, 22] })
    (B E : Nat) (ao : Option Addr) (n cap : Nat) (vs : List Value) (hs : a.eval s = .slice ao n cap) (hown : Row3 B E w ao n cap vs) (u0 u1 : Int) (pa : Option Addr) (pm pc : Nat)
    (hx : a.eval x = .slice (some ⟨w.heap.size, 0, none⟩) 1 1) (hn : n ≤ 1048576) (hB : B ≤ w.heap.size)
    (h : ∀ ao' cap' w', Row3 B w'.heap.size w' ao' (n + 1) cap' (vs ++ [.int .i64 u0, .int .i64 u1, .slice pa pm pc]) → Chg (fun k => (Value.slice ao n cap).ownBlock = some k) w w' → K (a.put o.dst (.slice ao' (n + 1) cap')) w') :
    if Region.wanted o (yielded ops a.tmps) = true then Oper.wp Try.prog o a (w.alloc (.cells #[.int .i64 u0, .int .i64 u1, .slice pa pm pc] 33)) K Q else E0 := by
  have hw : Region.wanted o (yielded ops a.tmps) = true := by simp [Region.wanted, hgd]
  rw [if_pos hw]
  obtain ⟨i0, hi, hz0, hz1, hz2⟩ := info_parts Try.infoBank
  refine wp_append_own _ s x _ ho B 33 i0 _ 3 40 Try.underlying22 hi hz0 hz1 hz2 rfl (by decide) _ n vs hs (hown.1.alloc _) ⟨w.heap.size, 0, none⟩ 1 1 [.int .i64 u0, .int .i64 u1, .slice pa pm pc] hx rfl ?_ ?_ ?_ ?_ (by simp; omega) ?_
  · intro j u hu
    match j, hu with
    | 0, hu => simp at hu; subst hu; rw [Addr.add_lit, World.cell?_alloc_at _ _ _ _ rfl]; rfl
    | 1, hu => simp at hu; subst hu; rw [Addr.add_lit, World.cell?_alloc_at _ _ _ _ rfl]; rfl
    | 2, hu => simp at hu; subst hu; rw [Addr.add_lit, World.cell?_alloc_at _ _ _ _ rfl]; rfl
    | j + 3, hu => simp at hu
  · intro u hu
    simp at hu
    rcases hu with rfl | rfl | rfl <;> rfl
  · unfold maxLen; omega
  · omega
  · intro v' w1 hown' hgrow hnil
    have hv : ∃ ao' cap', v' = .slice ao' (n + 1) cap' := by
      rcases hown'.2 with ⟨e, hz⟩ | ⟨g, c, cur, e, _⟩
      · omega
      · exact ⟨_, _, e⟩
    obtain ⟨ao', cap', rfl⟩ := hv
    refine h ao' cap' w1 ⟨hown', fun g hg => (hown'.lt g hg).2⟩ ?_
    have hc := Chg.ofGrown hgrow
    refine ⟨hc.os, hc.tape, hc.output, Nat.le_trans (by simp) hc.size, fun k hk hs' => ?_⟩
    rw [hc.block k (by simp; omega) (fun e => hs' e.symm), Below.heap_alloc w _ k hk]
theorem step_pushBk {ops : Array Oper} {o : Oper} {a : Act} {K : Act → World → Prop} {Q : Exit → Act → World → Prop} {E0 : Prop} (w : World) (hgd : o.guard = none) (s x : Operand)
    (ho : o.op = .call { callee := .builtin .append, args := #[s, x], argTypes := #[22, 22] })
    (B C E : Nat) (ao : Option Addr) (n cap : Nat) (bs : List Bk) (hs : a.eval s = .slice ao n cap) (hown : BksOwn B C w ao n cap bs) (u0 u1 : Int) (pa : Option Addr) (pm pc : Nat) (p : List Int)
    (hp : Own C E w pa pm pc p) (hBC : B ≤ C) (hCE : C ≤ E) (hE : E ≤ w.heap.size)
    (hx : a.eval x = .slice (some ⟨w.heap.size, 0, none⟩) 1 1) (hn : n ≤ 1048576)
    (h : ∀ ao' cap' w', BksOwn B w'.heap.size w' ao' (n + 1) cap' (bs ++ [⟨u0, u1, p⟩]) → Chg (fun k => (Value.slice ao n cap).ownBlock = some k) w w' → K (a.put o.dst (.slice ao' (n + 1) cap')) w') :
    if Region.wanted o (yielded ops a.tmps) = true then Oper.wp Try.prog o a (w.alloc (.cells #[.int .i64 u0, .int .i64 u1, .slice pa pm pc] 33)) K Q else E0 := by
  obtain ⟨vs, h1, h2, h3, h4⟩ := hown
  refine step_pushB w hgd s x ho B C ao n cap vs hs h1 u0 u1 pa pm pc hx hn (by omega) fun ao' cap' w' r hc => h ao' cap' w' ?_ hc
  have h3' : ∀ i, i < n → ∃ a m c, vs.getD (i * 3) undef = .int .i64 (bs.getD i noBank).h ∧ vs.getD (i * 3 + 1) undef = .int .i64 (bs.getD i noBank).l ∧ vs.getD (i * 3 + 2) undef = .slice a m c ∧ Own B E w a m c (bs.getD i noBank).p := fun i hi => by
    obtain ⟨a, m, c, e0, e1, e2, ho⟩ := h3 i hi
    exact ⟨a, m, c, e0, e1, e2, ho.mono (Nat.le_refl _) hCE⟩
  refine BksOwn.push (h1.mono (Nat.le_refl _) hCE) h2 h3' h4 r hc (Nat.le_trans hE hc.size) (hp.mono hBC (Nat.le_refl _)) fun i hi => ?_
  obtain ⟨a, m, c, -, -, e2, ho⟩ := h3 i hi
  rw [e2]
  rcases ho.cases with ⟨rfl, -⟩ | ⟨g, rfl, -, g2, -⟩
  · exact .inl rfl
  · refine .inr fun e => ?_
    rcases hp.cases with ⟨rfl, -⟩ | ⟨g', rfl, g1, -, -⟩
    · cases e
    · simp [Value.ownBlock] at e
      omega
end Go.Proofs.Ytbkihnejgcebpaa
