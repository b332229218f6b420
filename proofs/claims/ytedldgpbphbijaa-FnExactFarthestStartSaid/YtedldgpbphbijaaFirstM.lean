/- Chapter 2: the first piles of each cycle, by bits: plain mathematics. No condition. -/
import Derived.Test.YtedldgpbphbijaaOrbN
namespace Go.Proofs.Ytedldgpbphbijaa
set_option linter.unusedVariables false
set_option linter.unusedSimpArgs false

/-- order of lists: less than 0, 0, more than 0 -/
def cmpL : List Int → List Int → Int
  | [], [] => 0
  | [], _ :: _ => -1
  | _ :: _, [] => 1
  | a :: l, b :: m => if a = b then cmpL l m else if a < b then -1 else 1
def isFirstB (bs : List Int) : Bool := (List.range bs.length).all fun k => decide (cmpL (rotN k bs) bs ≤ 0)
/-- how many turns bring bits back -/
def perB (bs : List Int) : Nat := (((List.range 8).find? fun p => decide (rotN (p + 1) bs = bs)).getD 7) + 1
def ringB (bs : List Int) : List (List Int) := (List.range (perB bs)).map fun i => rotN i bs
def stepF (s : List (List Int) × List (List Int)) (bs : List Int) : List (List Int) × List (List Int) := if bs ∈ s.2 then s else (s.1 ++ [bs], s.2 ++ ringB bs)
def foldF (l : List (List Int)) : List (List Int) × List (List Int) := l.foldl stepF ([], [])
theorem foldF_snoc (l : List (List Int)) (bs : List Int) : foldF (l ++ [bs]) = stepF (foldF l) bs := by unfold foldF; rw [List.foldl_append]; rfl

/-! ### Bits and piles go together -/
structure GB (bs : List Int) : Prop where
  isB : IsB bs
  zero : 0 ∈ bs
  sum : (fromB bs).sum ≤ 28
theorem GB.rot {bs : List Int} (h : GB bs) (k : Nat) : GB (rotN k bs) := by
  refine ⟨rotN_isB h.isB k, ?_, ?_⟩
  · induction k with
    | zero => exact h.zero
    | succ k ih => exact rotL_mem.2 ih
  · rw [← steps_rot h.isB k]
    have hg : ∀ x ∈ fromB bs, 1 ≤ x := fun x hx => (fromB_le h.isB x hx).1
    have hG : Good (fromB bs) := ⟨hg, fromB_sorted h.isB, h.sum⟩
    rw [stepsL_sum hG]; exact h.sum
theorem GB.good {bs : List Int} (h : GB bs) : Good (fromB bs) := ⟨fun x hx => (fromB_le h.isB x hx).1, fromB_sorted h.isB, h.sum⟩
theorem GB.cyc {bs : List Int} (h : GB bs) : Cyc (fromB bs) := fromB_cyc h.isB h.zero h.sum
theorem fromB_inj {as bs : List Int} (ha : GB as) (hb : GB bs) : fromB as = fromB bs ↔ as = bs := by
  constructor
  · intro e
    rw [← bits_from ha.isB ha.zero ha.sum, ← bits_from hb.isB hb.zero hb.sum, e]
  · intro e; rw [e]
theorem per_bits {bs : List Int} (h : GB bs) : perL (fromB bs) = perB bs := by
  unfold perL perB
  congr 2
  congr 1
  funext p
  rw [steps_rot h.isB, decide_eq_decide]
  exact fromB_inj (h.rot _) h
theorem cycle_bits {bs : List Int} (h : GB bs) : cycL (fromB bs) = (ringB bs).map fromB := by
  have ht : tailL (fromB bs) = 0 := (tail_cyc h.good).2 h.cyc
  have he : endL (fromB bs) = fromB bs := by unfold endL; rw [ht]; rfl
  unfold cycL runL ringB
  rw [he, per_bits h, List.map_map]
  apply List.map_congr_left
  intro i _
  exact steps_rot h.isB i
theorem ringB_GB {bs : List Int} (h : GB bs) : ∀ x ∈ ringB bs, GB x := by
  intro x hx
  obtain ⟨i, _, rfl⟩ := List.mem_map.1 hx
  exact h.rot i
theorem mem_bits {bs : List Int} {l : List (List Int)} (h : GB bs) (hl : ∀ x ∈ l, GB x) : fromB bs ∈ l.map fromB ↔ bs ∈ l := by
  constructor
  · intro hm
    obtain ⟨x, hx, e⟩ := List.mem_map.1 hm
    rw [← (fromB_inj (hl x hx) h).1 e]; exact hx
  · intro hm; exact List.mem_map.2 ⟨bs, hm, rfl⟩
theorem foldF_GB {l : List (List Int)} (hl : ∀ x ∈ l, GB x) : (∀ x ∈ (foldF l).1, GB x) ∧ (∀ x ∈ (foldF l).2, GB x) := by
  have key : ∀ (l : List (List Int)) (s : List (List Int) × List (List Int)), (∀ x ∈ l, GB x) → (∀ x ∈ s.1, GB x) → (∀ x ∈ s.2, GB x) → (∀ x ∈ (l.foldl stepF s).1, GB x) ∧ (∀ x ∈ (l.foldl stepF s).2, GB x) := by
    intro l
    induction l with
    | nil => intro s _ h1 h2; exact ⟨h1, h2⟩
    | cons b l ih =>
      intro s h h1 h2
      have hb := h b (by simp)
      apply ih (stepF s b) (fun x hx => h x (by simp [hx]))
      · intro x hx
        unfold stepF at hx
        split at hx
        · exact h1 x hx
        · rcases List.mem_append.1 hx with hx | hx
          · exact h1 x hx
          · rw [List.mem_singleton.1 hx]; exact hb
      · intro x hx
        unfold stepF at hx
        split at hx
        · exact h2 x hx
        · rcases List.mem_append.1 hx with hx | hx
          · exact h2 x hx
          · exact ringB_GB hb x hx
  exact key l ([], []) hl (by simp) (by simp)
end Go.Proofs.Ytedldgpbphbijaa
