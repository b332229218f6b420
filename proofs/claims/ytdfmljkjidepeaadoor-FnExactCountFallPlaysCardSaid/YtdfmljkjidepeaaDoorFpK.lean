/- Piles with one text are one: mathematics. No condition. -/
import Derived.Test.YtdfmljkjidepeaaDoorDdM
namespace Go.Proofs.YtdfmljkjidepeaaDoor
set_option linter.unusedVariables false
set_option linter.unusedSimpArgs false

theorem dd_inj {x y : Int} (h0 : 0 ≤ x) (h1 : x ≤ 28) (k0 : 0 ≤ y) (k1 : y ≤ 28) (e : dd x = dd y) : x = y := by
  rw [← read_ddI h0 h1, e, read_ddI k0 k1]
theorem map_dd_inj {p q : List Int} (hp : ∀ x ∈ p, 1 ≤ x ∧ x ≤ 28) (hq : ∀ x ∈ q, 1 ≤ x ∧ x ≤ 28) (e : p.map dd = q.map dd) : p = q := by
  induction p generalizing q with
  | nil => cases q with
    | nil => rfl
    | cons y q => simp at e
  | cons x p ih =>
    cases q with
    | nil => simp at e
    | cons y q =>
      simp only [List.map_cons, List.cons.injEq] at e
      have h1 := hp x (by simp)
      have h2 := hq y (by simp)
      rw [dd_inj (by omega) h1.2 (by omega) h2.2 e.1, ih (fun z hz => hp z (by simp [hz])) (fun z hz => hq z (by simp [hz])) e.2]
theorem textL_one {p : List Int} (h : Good p) (e : textL p = [48]) : p = [] := by
  by_cases hp : p = []
  · exact hp
  · exfalso
    have hm := fun x hx => h.mem (x := x) hx
    have hsp : splitL 43 (textL p) = p.map dd := by unfold textL; rw [if_neg hp]; exact split_join hp hm
    rw [e] at hsp
    have h48 : splitL 43 [48] = [[48]] := by decide
    rw [h48] at hsp
    have hl1 : p.length = 1 := by have := congrArg List.length hsp; simpa using this.symm
    obtain ⟨x, rfl⟩ := List.length_eq_one_iff.1 hl1
    simp at hsp
    have hx := hm x (by simp)
    have := read_ddI (x := x) (by omega) hx.2
    rw [← hsp] at this
    have h0 : readL [48] = 0 := by decide +kernel
    omega
theorem textL_inj {p q : List Int} (hp : Good p) (hq : Good q) (e : textL p = textL q) : p = q := by
  by_cases h1 : p = []
  · subst h1; exact (textL_one hq e.symm).symm
  · by_cases h2 : q = []
    · subst h2; exact textL_one hp e
    · have hm := fun x hx => hp.mem (x := x) hx
      have km := fun x hx => hq.mem (x := x) hx
      have e1 : splitL 43 (textL p) = p.map dd := by unfold textL; rw [if_neg h1]; exact split_join h1 hm
      have e2 : splitL 43 (textL q) = q.map dd := by unfold textL; rw [if_neg h2]; exact split_join h2 km
      refine map_dd_inj hm km ?_
      rw [← e1, e, e2]
theorem textL_length {xs : List Int} (h : Good xs) : (textL xs).length ≤ 85 := by
  unfold textL
  by_cases hx : xs = []
  · rw [if_pos hx]; simp
  · rw [if_neg hx]
    have := joinL_length (fun x hx => (h.mem hx).2) xs.length
    rw [List.take_length] at this
    have := h.len
    omega
end Go.Proofs.YtdfmljkjidepeaaDoor
