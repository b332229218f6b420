/- The laws' own helpers: marks and what they held; lists of lists. No condition but a bound on lengths. -/
import Derived.Test.YtimmjimeldejjaaGreatDoorHelpA
namespace Go.Proofs.YtimmjimeldejjaaGreatDoor
open Go.RowKit
set_option linter.unusedVariables false
set_option linter.unusedSimpArgs false

/-- k, k + 1, .. -/
def marks (k : Int) : Nat → List Int
  | 0 => []
  | n + 1 => k :: marks (k + 1) n
theorem marks_length (k : Int) (n : Nat) : (marks k n).length = n := by
  induction n generalizing k with
  | zero => rfl
  | succ n ih => simp [marks, ih]
theorem marks_getD (k : Int) (n i : Nat) (h : i < n) : (marks k n).getD i 0 = k + i := by
  induction n generalizing k i with
  | zero => omega
  | succ n ih =>
    cases i with
    | zero => simp [marks]
    | succ i =>
      have := ih (k + 1) i (by omega)
      simp only [marks, List.getD_cons_succ, this]
      omega
theorem set_marks (k : Int) (xs : List Int) (j n : Nat) (hj : j < n) (hl : xs.length = n) (q : Int) (hq : q = k + j) :
    (((marks k n).take j ++ xs.drop j).map (Value.int .i64)).set j (Value.int .i64 q) = ((marks k n).take (j + 1) ++ xs.drop (j + 1)).map (Value.int .i64) := by
  subst hq
  have hm := marks_length k n
  apply List.ext_getElem
  · simp; omega
  · intro i h1 h2
    simp at h1
    rw [List.getElem_set]
    split
    · next h =>
      subst h
      have := marks_getD k n j hj
      rw [List.getD_eq_getElem?_getD, List.getElem?_eq_getElem (by omega)] at this
      simp [List.getElem_append, List.getElem_take, show j < min (j+1) (marks k n).length by omega]
      simpa using this.symm
    · next h =>
      simp only [List.getElem_map, List.getElem_append, List.length_take, List.getElem_take, List.getElem_drop]
      by_cases hi : i < j
      · simp [show i < min j (marks k n).length by omega, show i < min (j+1) (marks k n).length by omega]
      · simp only [show ¬ i < min j (marks k n).length by omega, show ¬ i < min (j+1) (marks k n).length by omega, dite_false]
        congr 2
        omega

set_option maxHeartbeats 400000 in
theorem markIntS_any (B E : Nat) (ao : Option Addr) (n cap : Nat) (xs : List Int) (k : Int) (w : World) (h : Own B E w ao n cap xs) (hn : n ≤ 1048576) (hk0 : 0 ≤ k) (hk1 : k ≤ 1073741824) :
    Calls Tryz.prog 26 #[.slice ao n cap, .int .i64 k] w fun e w' => e = .returned (.int .i64 (k + n)) ∧ Own B E w' ao n cap (marks k n) ∧ Chg (Rg B E) w w' := by
  have hn' : (n : Int) ≤ 1048576 := by omega
  go_enter Tryz.func26, Tryz.ntmps26
  go_wp2
  go_loopw [1, 5] (fun q i wr => ∃ j : Nat, j ≤ n ∧ i = .int .i64 j ∧ q = .int .i64 (k + j) ∧ Own B E wr ao n cap ((marks k n).take j ++ xs.drop j) ∧ Chg (Rg B E) w wr)
    (fun _ i _ => n - (intOf i).toNat)
  case atStart => exact ⟨0, Nat.zero_le _, rfl, by simp, by simpa using h, Chg.refl _ _⟩
  case round =>
    obtain ⟨j, hj, rfl, rfl, hown, hc⟩ := hrel
    by_cases hlt : j < n
    · rcases hown.cases with ⟨_, hz, _⟩ | ⟨g, rfl, hg, hgE, hgs⟩
      · omega
      · have hfz := World.ownsRow.frozenAt hown.1 j
        have hcell := World.ownsRow.cellAt hown.1 j (by omega)
        have hst := World.ownsRow.stored hown.1 j (Value.int .i64 (k + j))
        have hbb := hown.2
        have Hst := Lib.hid hst; clear hst
        rw [List.getElem?_map, List.getElem?_eq_getElem (by have := h.length; have := marks_length k n; simp; omega)] at hcell
        generalize ((marks k n).take j ++ xs.drop j)[j]'(by have := h.length; have := marks_length k n; simp; omega) = y at hcell
        simp only [Option.map_some] at hcell
        have Hown := Lib.hid hown; clear hown
        have Hl := Lib.hid h.length; clear h
        have Hbb := Lib.hid hbb; clear hbb
        go_wp2
        go_roundw
        case rel =>
          refine ⟨j + 1, by omega, by go_num, by go_num, ?_, hc.trans ((Chg.ofGrown Hst.out.2).mono (fun q hq => by cases hq; exact ⟨hg, hgE⟩))⟩
          have := (Hst.out).1
          rw [set_marks k xs j n hlt Hl.out _ rfl] at this
          exact ⟨this, Hbb.out⟩
        case measure => simp [intOf]; omega
    · go_wp2
      go_ret
      obtain rfl : n = j := by omega
      refine ⟨rfl, ?_, hc⟩
      have e : (marks k n).take n ++ xs.drop n = marks k n := by
        rw [List.take_of_length_le (Nat.le_of_eq (marks_length k n)), List.drop_of_length_le (Nat.le_of_eq h.length)]; simp
      rw [e] at hown
      exact hown

set_option maxHeartbeats 400000 in
/-- what was marked is held -/
theorem heldIntS_any (ao : Option Addr) (n cap : Nat) (k : Int) (w : World) (h : IntsAt w ao n cap (marks k n)) (hn : n ≤ 1048576) (hk0 : 0 ≤ k) (hk1 : k ≤ 1073741824) :
    Calls Tryz.prog 27 #[.slice ao n cap, .int .i64 k] w fun e w' => e = .returned (.int .i64 (k + n)) ∧ w = w' := by
  have hn' : (n : Int) ≤ 1048576 := by omega
  go_enter Tryz.func27, Tryz.ntmps27
  go_wp2
  go_loop [1, 5] (fun q i => ∃ j : Nat, j ≤ n ∧ i = .int .i64 j ∧ q = .int .i64 (k + j))
    (fun _ i => n - (intOf i).toNat)
  case atStart => exact ⟨0, Nat.zero_le _, rfl, by simp⟩
  case round =>
    obtain ⟨j, hj, rfl, rfl⟩ := hrel
    by_cases hlt : j < n
    · obtain ⟨b, o, rfl, hb', hc⟩ := h.cell j hlt
      have hck := hc j hlt
      rw [marks_getD k n j hlt] at hck
      clear hc
      have hq : ((k + j : Int) != k + j) = false := by simp
      go_wp2
      go_round
      case rel => exact ⟨j + 1, by omega, by go_num, by go_num⟩
      case measure => simp [intOf]; omega
    · go_wp2
      go_ret
      obtain rfl : n = j := by omega
      exact ⟨rfl, rfl⟩

/-! ### Lists of lists -/
theorem take_snocR {xs : List (List Int)} {k n : Nat} {x : List Int} (hx : xs.getD k [] = x) (hk : k < n) (hl : xs.length = n) : xs.take (k + 1) = xs.take k ++ [x] := by
  subst hx hl
  rw [List.take_add_one, List.getElem?_eq_getElem hk, List.getD_eq_getElem?_getD, List.getElem?_eq_getElem hk]
  rfl
theorem take_allR {xs : List (List Int)} {n : Nat} (hl : xs.length = n) : xs.take n = xs := List.take_of_length_le (Nat.le_of_eq hl)
theorem RowsAt.drewN {w ao n cap xs} (h : RowsAt w ao n cap xs) (q : Nat) : RowsAt (w.drewN q) ao n cap xs :=
  ⟨h.length, h.le, h.max, h.isNil, fun j hj => by
    obtain ⟨b, o, e, hb, hc⟩ := h.cell j hj
    exact ⟨b, o, e, hb, fun i hi => by obtain ⟨a, m, c, h1, h2⟩ := hc i hi; exact ⟨a, m, c, h1, h2.drewN q⟩⟩⟩

theorem Own.narrow {B E w g n cap xs} (h : Own B E w (some ⟨g, 0, none⟩) n cap xs) : Own g (g + 1) w (some ⟨g, 0, none⟩) n cap xs := by
  refine ⟨⟨h.1.1, ?_⟩, fun q hq => by simp [Value.ownBlock] at hq; omega⟩
  rcases h.1.2 with ⟨hv, hn⟩ | ⟨g', c, cur, hv, hg, rest⟩
  · simp at hv
  · refine .inr ⟨g', c, cur, hv, ?_, rest⟩
    simp at hv
    omega
theorem Own.wide {B E w g n cap xs} (h : Own g (g + 1) w (some ⟨g, 0, none⟩) n cap xs) (hB : B ≤ g) (hE : g < E) : Own B E w (some ⟨g, 0, none⟩) n cap xs := h.mono hB hE

theorem markIntS_blk (B E : Nat) (ao : Option Addr) (n cap : Nat) (xs : List Int) (k : Int) (w : World) (h : Own B E w ao n cap xs) (hn : n ≤ 1048576) (hk0 : 0 ≤ k) (hk1 : k ≤ 1073741824) :
    Calls Tryz.prog 26 #[.slice ao n cap, .int .i64 k] w fun e w' => e = .returned (.int .i64 (k + n)) ∧ Own B E w' ao n cap (marks k n) ∧ Chg (fun b => (Value.slice ao n cap).ownBlock = some b) w w' := by
  rcases h.cases with ⟨rfl, rfl, rfl, rfl⟩ | ⟨g, rfl, h1, h2, _⟩
  · refine (markIntS_any 0 0 none 0 0 [] k w (Own.nil 0 0 w) hn hk0 hk1).mono fun e w' ⟨a, b, c⟩ => ⟨a, Own.nil B E w', c.mono fun q hq => ?_⟩
    exact absurd hq.2 (Nat.not_lt_zero _)
  · refine (markIntS_any g (g + 1) _ n cap xs k w h.narrow hn hk0 hk1).mono fun e w' ⟨a, b, c⟩ => ⟨a, b.wide h1 h2, c.mono fun q hq => ?_⟩
    have h3 := hq.1; have h4 := hq.2
    have : g = q := by omega
    rw [this]; rfl

theorem getD_set_eq {α : Type} (l : List α) (i : Nat) (x d : α) (h : i < l.length) : (l.set i x).getD i d = x := by
  rw [List.getD_eq_getElem?_getD, List.getElem?_set_self h]; rfl
theorem getD_set_ne {α : Type} (l : List α) (i j : Nat) (x d : α) (h : i ≠ j) : (l.set i x).getD j d = l.getD j d := by
  rw [List.getD_eq_getElem?_getD, List.getElem?_set_ne h, List.getD_eq_getElem?_getD]

theorem OwnRow.typed {B E w ty ao n cap vs g} (h : OwnRow B E w ty ao n cap vs) (hg : (Value.slice ao n cap).ownBlock = some g) : ∃ cur, w.heap[g]? = some (.cells cur ty (0, 0)) := by
  rcases h.1.2 with ⟨hv, _⟩ | ⟨g', c, cur, hv, hg', hh, _⟩
  · rw [hv] at hg; simp [Value.ownBlock] at hg
  · rw [hv] at hg; simp [Value.ownBlock] at hg; subst hg; exact ⟨cur, hh⟩

/-- one list of those that the call made: where it lies, and what becomes of all if it alone is written -/
theorem OwnRows.inner {B E w ao n cap xss} (h : OwnRows B E w ao n cap xss) (i : Nat) (hi : i < n) :
    ∃ b a m c, ao = some ⟨b, 0, none⟩ ∧ w.cell? ⟨b, i, none⟩ = some (.slice a m c) ∧ Own B E w a m c (xss.getD i []) ∧
      ∀ w' ys, Chg (fun k => (Value.slice a m c).ownBlock = some k) w w' → Own B E w' a m c ys → OwnRows B E w' ao n cap (xss.set i ys) := by
  obtain ⟨vs, h1, h2, h3, h4⟩ := h
  rcases h1.cases with ⟨_, rfl, _⟩ | ⟨b, rfl, hb1, hb2, hb3⟩
  · omega
  obtain ⟨a, m, c, e, ho⟩ := h3 i hi
  refine ⟨b, a, m, c, rfl, ?_, ho, fun w' ys hc hy => ⟨vs, h1.chg hc fun g _ _ hg hs => ?_, by simpa using h2, fun j hj => ?_, h4⟩⟩
  · have hl := h1.length
    have := World.ownsRow.cellAt h1.1 i (by omega)
    rw [this, ← e, List.getElem?_eq_getElem (by omega), List.getD_eq_getElem?_getD, List.getElem?_eq_getElem (by omega)]
    rfl
  · obtain ⟨cur, e1⟩ := h1.typed hg
    obtain ⟨cur', e2⟩ := OwnRow.typed ho hs
    rw [e1] at e2
    simp at e2
  · by_cases hji : i = j
    · subst hji
      exact ⟨a, m, c, e, by rw [getD_set_eq _ _ _ _ (by omega)]; exact hy⟩
    · obtain ⟨a', m', c', e', ho'⟩ := h3 j hj
      refine ⟨a', m', c', e', ?_⟩
      rw [getD_set_ne _ _ _ _ _ hji]
      refine ho'.chg hc fun g _ _ hg hs => ?_
      have hap : apart (.slice a m c) (.slice a' m' c') ∨ apart (.slice a' m' c') (.slice a m c) := by
        rw [← e, ← e']
        rcases Nat.lt_or_gt_of_ne hji with hlt | hlt
        · exact .inl (h4 i j hlt hj)
        · exact .inr (h4 j i hlt hi)
      unfold apart at hap
      rw [hg, hs] at hap
      simp at hap

/-- marks over lists of these lengths -/
def marksR (k : Int) : List Nat → List (List Int)
  | [] => []
  | l :: ls => marks k l :: marksR (k + l) ls
theorem marksR_length (k : Int) (ls : List Nat) : (marksR k ls).length = ls.length := by
  induction ls generalizing k with
  | nil => rfl
  | cons l ls ih => simp [marksR, ih]
theorem marksR_getD (k : Int) (ls : List Nat) (i : Nat) (h : i < ls.length) : (marksR k ls).getD i [] = marks (k + ((ls.take i).sum : Nat)) (ls.getD i 0) := by
  induction ls generalizing k i with
  | nil => simp at h
  | cons l ls ih =>
    cases i with
    | zero => simp [marksR]
    | succ i =>
      have := ih (k + l) i (by simpa using h)
      simp only [marksR, List.getD_cons_succ, this, List.take_succ_cons, List.sum_cons]
      congr 1
      omega
theorem sum_take_succ (ls : List Nat) (i : Nat) (h : i < ls.length) : (ls.take (i + 1)).sum = (ls.take i).sum + ls.getD i 0 := by
  rw [List.take_add_one, List.getElem?_eq_getElem h, List.sum_append, List.getD_eq_getElem?_getD, List.getElem?_eq_getElem h]
  simp
theorem sum_take_le (ls : List Nat) (i : Nat) : (ls.take i).sum ≤ ls.sum := by
  have := congrArg List.sum (List.take_append_drop i ls)
  rw [List.sum_append] at this
  omega
theorem set_marksR (k : Int) (xss : List (List Int)) (i n : Nat) (hi : i < n) (hl : xss.length = n) :
    ((marksR k (xss.map List.length)).take i ++ xss.drop i).set i (marks (k + (((xss.map List.length).take i).sum : Nat)) (xss.getD i []).length) = (marksR k (xss.map List.length)).take (i + 1) ++ xss.drop (i + 1) := by
  have hm := marksR_length k (xss.map List.length)
  simp only [List.length_map] at hm
  have hgd := marksR_getD k (xss.map List.length) i (by simp; omega)
  have e1 : (xss.map List.length).getD i 0 = (xss.getD i []).length := by
    rw [List.getD_eq_getElem?_getD, List.getD_eq_getElem?_getD, List.getElem?_map, List.getElem?_eq_getElem (by omega)]; rfl
  rw [e1] at hgd
  rw [← hgd]
  apply List.ext_getElem
  · simp; omega
  · intro j h1 h2
    simp at h1
    rw [List.getElem_set]
    split
    · next h =>
      subst h
      rw [List.getD_eq_getElem?_getD, List.getElem?_eq_getElem (by omega)]
      simp [List.getElem_append, List.getElem_take, show i < min (i+1) (marksR k (xss.map List.length)).length by omega]
    · next h =>
      simp only [List.getElem_append, List.length_take, List.getElem_take, List.getElem_drop]
      by_cases hj : j < i
      · simp [show j < min i (marksR k (xss.map List.length)).length by omega, show j < min (i+1) (marksR k (xss.map List.length)).length by omega]
      · simp only [show ¬ j < min i (marksR k (xss.map List.length)).length by omega, show ¬ j < min (i+1) (marksR k (xss.map List.length)).length by omega, dite_false]
        congr 1
        omega

def total (xss : List (List Int)) : Nat := (xss.map List.length).sum

end Go.Proofs.YtimmjimeldejjaaGreatDoor
