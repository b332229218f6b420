/- Bank states by their texts: mathematics. No condition. -/
import Derived.Test.YtnebfojnbjbogaaDoorBtA
import Derived.Test.YtnebfojnbjbogaaDoorDdM
namespace Go.Proofs.YtnebfojnbjbogaaDoor
open Go.RowKit
set_option linter.unusedVariables false
set_option linter.unusedSimpArgs false

theorem dd_no58 {x : Int} (h : x ≤ 28) : (58 : UInt8) ∉ dd x := by
  have key : ∀ d, d < 10 → (58 : UInt8) ≠ UInt8.ofNat (48 + d) := by decide +kernel
  unfold dd
  by_cases h1 : x.toNat < 10
  · rw [Lib.decDigits_one h1]; simpa using key _ h1
  · rw [Lib.decDigits_two h1 (by omega)]
    simp only [List.mem_cons, List.mem_nil_iff, or_false, not_or]
    exact ⟨key _ (by omega), key _ (by omega)⟩
theorem join_no58 (ws : List (List UInt8)) (h : ∀ w ∈ ws, (58 : UInt8) ∉ w) : (58 : UInt8) ∉ Lib.join ws [43] := by
  have ht : ∀ l : List (List UInt8), (∀ x ∈ l, (58 : UInt8) ∉ x) → (58 : UInt8) ∉ Lib.joinTail [43] l := by
    intro l
    induction l with
    | nil => intro _; simp [Lib.joinTail]
    | cons y l ih =>
      intro hh
      have h1 := hh y (by simp)
      have h2 := ih (fun x hx => hh x (by simp [hx]))
      have e : Lib.joinTail [43] (y :: l) = [43] ++ y ++ Lib.joinTail [43] l := by simp [Lib.joinTail]
      rw [e]
      simp only [List.mem_append, not_or]
      exact ⟨⟨by decide, h1⟩, h2⟩
  cases ws with
  | nil => simp [Lib.join_nil]
  | cons w ws =>
    rw [Lib.join_cons]
    have h1 := h w (by simp)
    have h2 := ht ws (fun x hx => h x (by simp [hx]))
    simp [h1, h2]
theorem textL_no58 {p : List Int} (h : Good p) : (58 : UInt8) ∉ textL p := by
  unfold textL
  by_cases hp : p = []
  · rw [if_pos hp]; simp
  · rw [if_neg hp]
    unfold joinL
    refine join_no58 _ fun w hw => ?_
    obtain ⟨x, hx, rfl⟩ := List.mem_map.1 hw
    exact dd_no58 (h.mem hx).2
theorem splitL_last (b : UInt8) (pre post : List UInt8) (h : b ∉ post) : splitL b (pre ++ b :: post) = splitL b pre ++ [post] := by
  induction pre with
  | nil => rw [List.nil_append]; simp only [splitL, if_pos rfl, splitL_none b post h]; rfl
  | cons c pre ih =>
    rw [List.cons_append]
    by_cases hc : c = b
    · simp only [splitL, if_pos hc, ih]; rfl
    · simp only [splitL, if_neg hc, ih]
      cases hs : splitL b pre with
      | nil => exact absurd hs (splitL_ne b pre)
      | cons x t => rfl
theorem bank_split {b : Bk} (h : BankOk b) : splitL 58 (bankL b) = [dd b.h, dd b.l, textL b.p] := by
  obtain ⟨hh, hl, hG, -, -⟩ := h
  unfold bankL
  rw [List.append_assoc, List.append_assoc, List.append_assoc, List.singleton_append, splitL_app 58 _ _ (dd_no58 (by omega)), List.singleton_append, splitL_app 58 _ _ (dd_no58 (by omega)), splitL_none 58 _ (textL_no58 hG)]

/-- what the words of a text come to -/
theorem dd_inj {x y : Int} (h0 : 0 ≤ x) (h1 : x ≤ 28) (k0 : 0 ≤ y) (k1 : y ≤ 28) (e : dd x = dd y) : x = y := by
  rw [← read_ddI h0 h1, e, read_ddI k0 k1]
theorem map_dd_inj {p q : List Int} (hp : ∀ x ∈ p, 1 ≤ x ∧ x ≤ 28) (hq : ∀ x ∈ q, 1 ≤ x ∧ x ≤ 28) (e : p.map dd = q.map dd) : p = q := by
  induction p generalizing q with
  | nil => cases q with
    | nil => rfl
    | cons y q => simp at e
  | cons x p ih =>
    cases q with
    | nil => simp at e
    | cons y q =>
      simp only [List.map_cons, List.cons.injEq] at e
      have h1 := hp x (by simp)
      have h2 := hq y (by simp)
      rw [dd_inj (by omega) h1.2 (by omega) h2.2 e.1, ih (fun z hz => hp z (by simp [hz])) (fun z hz => hq z (by simp [hz])) e.2]
theorem textL_one {p : List Int} (h : Good p) (e : textL p = [48]) : p = [] := by
  by_cases hp : p = []
  · exact hp
  · exfalso
    have hm := fun x hx => h.mem (x := x) hx
    have hsp : splitL 43 (textL p) = p.map dd := by unfold textL; rw [if_neg hp]; exact split_join hp hm
    rw [e] at hsp
    have h48 : splitL 43 [48] = [[48]] := by decide
    rw [h48] at hsp
    have hl1 : p.length = 1 := by have := congrArg List.length hsp; simpa using this.symm
    obtain ⟨x, rfl⟩ := List.length_eq_one_iff.1 hl1
    simp at hsp
    have hx := hm x (by simp)
    have := read_ddI (x := x) (by omega) hx.2
    rw [← hsp] at this
    have h0 : readL [48] = 0 := by decide +kernel
    omega
theorem textL_inj {p q : List Int} (hp : Good p) (hq : Good q) (e : textL p = textL q) : p = q := by
  by_cases h1 : p = []
  · subst h1; exact (textL_one hq e.symm).symm
  · by_cases h2 : q = []
    · subst h2; exact textL_one hp e
    · have hm := fun x hx => hp.mem (x := x) hx
      have km := fun x hx => hq.mem (x := x) hx
      have e1 : splitL 43 (textL p) = p.map dd := by unfold textL; rw [if_neg h1]; exact split_join h1 hm
      have e2 : splitL 43 (textL q) = q.map dd := by unfold textL; rw [if_neg h2]; exact split_join h2 km
      refine map_dd_inj hm km ?_
      rw [← e1, e, e2]
/-- bank states with one text are one -/
theorem bankL_inj {a b : Bk} (ha : BankOk a) (hb : BankOk b) (e : bankL a = bankL b) : a = b := by
  have h1 := bank_split ha
  rw [e, bank_split hb] at h1
  simp only [List.cons.injEq, and_true] at h1
  obtain ⟨e1, e2, e3⟩ := h1
  have a1 : 1 ≤ a.h ∧ a.h ≤ 10 := ha.1
  have a2 : 0 ≤ a.l ∧ a.l ≤ a.h - 1 := ha.2.1
  have b1 : 1 ≤ b.h ∧ b.h ≤ 10 := hb.1
  have b2 : 0 ≤ b.l ∧ b.l ≤ b.h - 1 := hb.2.1
  have x1 := dd_inj (by omega) (by omega) (by omega) (by omega) e1
  have x2 := dd_inj (by omega) (by omega) (by omega) (by omega) e2
  have x3 := textL_inj hb.2.2.1 ha.2.2.1 e3
  obtain ⟨h, l, p⟩ := a
  obtain ⟨h', l', p'⟩ := b
  simp only at x1 x2 x3
  rw [x1, x2, x3]
end Go.Proofs.YtnebfojnbjbogaaDoor
