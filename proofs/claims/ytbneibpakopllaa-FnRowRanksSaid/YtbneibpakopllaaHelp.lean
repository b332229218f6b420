/- The laws' own helpers: marks and what they held; lists of lists. No condition but a bound on lengths. -/
import Derived.Test.YtbneibpakopllaaHelpA
namespace Go.Proofs.Ytbneibpakopllaa
open Go.RowKit
set_option linter.unusedVariables false
set_option linter.unusedSimpArgs false

/-- k, k + 1, .. -/
def marks (k : Int) : Nat → List Int
  | 0 => []
  | n + 1 => k :: marks (k + 1) n
theorem marks_length (k : Int) (n : Nat) : (marks k n).length = n := by
  induction n generalizing k with
  | zero => rfl
  | succ n ih => simp [marks, ih]
theorem marks_getD (k : Int) (n i : Nat) (h : i < n) : (marks k n).getD i 0 = k + i := by
  induction n generalizing k i with
  | zero => omega
  | succ n ih =>
    cases i with
    | zero => simp [marks]
    | succ i =>
      have := ih (k + 1) i (by omega)
      simp only [marks, List.getD_cons_succ, this]
      omega
theorem set_marks (k : Int) (xs : List Int) (j n : Nat) (hj : j < n) (hl : xs.length = n) (q : Int) (hq : q = k + j) :
    (((marks k n).take j ++ xs.drop j).map (Value.int .i64)).set j (Value.int .i64 q) = ((marks k n).take (j + 1) ++ xs.drop (j + 1)).map (Value.int .i64) := by
  subst hq
  have hm := marks_length k n
  apply List.ext_getElem
  · simp; omega
  · intro i h1 h2
    simp at h1
    rw [List.getElem_set]
    split
    · next h =>
      subst h
      have := marks_getD k n j hj
      rw [List.getD_eq_getElem?_getD, List.getElem?_eq_getElem (by omega)] at this
      simp [List.getElem_append, List.getElem_take, show j < min (j+1) (marks k n).length by omega]
      simpa using this.symm
    · next h =>
      simp only [List.getElem_map, List.getElem_append, List.length_take, List.getElem_take, List.getElem_drop]
      by_cases hi : i < j
      · simp [show i < min j (marks k n).length by omega, show i < min (j+1) (marks k n).length by omega]
      · simp only [show ¬ i < min j (marks k n).length by omega, show ¬ i < min (j+1) (marks k n).length by omega, dite_false]
        congr 2
        omega

set_option maxHeartbeats 400000 in
theorem markIntS_any (B E : Nat) (ao : Option Addr) (n cap : Nat) (xs : List Int) (k : Int) (w : World) (h : Own B E w ao n cap xs) (hn : n ≤ 1048576) (hk0 : 0 ≤ k) (hk1 : k ≤ 1073741824) :
    Calls Try.prog 17 #[.slice ao n cap, .int .i64 k] w fun e w' => e = .returned (.int .i64 (k + n)) ∧ Own B E w' ao n cap (marks k n) ∧ Chg (Rg B E) w w' := by
  have hn' : (n : Int) ≤ 1048576 := by omega
  go_enter Try.func17, Try.ntmps17
  go_wp2
  go_loopw [1, 5] (fun q i wr => ∃ j : Nat, j ≤ n ∧ i = .int .i64 j ∧ q = .int .i64 (k + j) ∧ Own B E wr ao n cap ((marks k n).take j ++ xs.drop j) ∧ Chg (Rg B E) w wr)
    (fun _ i _ => n - (intOf i).toNat)
  case atStart => exact ⟨0, Nat.zero_le _, rfl, by simp, by simpa using h, Chg.refl _ _⟩
  case round =>
    obtain ⟨j, hj, rfl, rfl, hown, hc⟩ := hrel
    by_cases hlt : j < n
    · rcases hown.cases with ⟨_, hz, _⟩ | ⟨g, rfl, hg, hgE, hgs⟩
      · omega
      · have hfz := World.ownsRow.frozenAt hown.1 j
        have hcell := World.ownsRow.cellAt hown.1 j (by omega)
        have hst := World.ownsRow.stored hown.1 j (Value.int .i64 (k + j))
        have hbb := hown.2
        have Hst := Lib.hid hst; clear hst
        rw [List.getElem?_map, List.getElem?_eq_getElem (by have := h.length; have := marks_length k n; simp; omega)] at hcell
        generalize ((marks k n).take j ++ xs.drop j)[j]'(by have := h.length; have := marks_length k n; simp; omega) = y at hcell
        simp only [Option.map_some] at hcell
        have Hown := Lib.hid hown; clear hown
        have Hl := Lib.hid h.length; clear h
        have Hbb := Lib.hid hbb; clear hbb
        go_wp2
        go_roundw
        case rel =>
          refine ⟨j + 1, by omega, by go_num, by go_num, ?_, hc.trans ((Chg.ofGrown Hst.out.2).mono (fun q hq => by cases hq; exact ⟨hg, hgE⟩))⟩
          have := (Hst.out).1
          rw [set_marks k xs j n hlt Hl.out _ rfl] at this
          exact ⟨this, Hbb.out⟩
        case measure => simp [intOf]; omega
    · go_wp2
      go_ret
      obtain rfl : n = j := by omega
      refine ⟨rfl, ?_, hc⟩
      have e : (marks k n).take n ++ xs.drop n = marks k n := by
        rw [List.take_of_length_le (Nat.le_of_eq (marks_length k n)), List.drop_of_length_le (Nat.le_of_eq h.length)]; simp
      rw [e] at hown
      exact hown

set_option maxHeartbeats 400000 in
/-- what was marked is held -/
theorem heldIntS_any (ao : Option Addr) (n cap : Nat) (k : Int) (w : World) (h : IntsAt w ao n cap (marks k n)) (hn : n ≤ 1048576) (hk0 : 0 ≤ k) (hk1 : k ≤ 1073741824) :
    Calls Try.prog 90 #[.slice ao n cap, .int .i64 k] w fun e w' => e = .returned (.int .i64 (k + n)) ∧ w = w' := by
  have hn' : (n : Int) ≤ 1048576 := by omega
  go_enter Try.func90, Try.ntmps90
  go_wp2
  go_loop [1, 5] (fun q i => ∃ j : Nat, j ≤ n ∧ i = .int .i64 j ∧ q = .int .i64 (k + j))
    (fun _ i => n - (intOf i).toNat)
  case atStart => exact ⟨0, Nat.zero_le _, rfl, by simp⟩
  case round =>
    obtain ⟨j, hj, rfl, rfl⟩ := hrel
    by_cases hlt : j < n
    · obtain ⟨b, o, rfl, hb', hc⟩ := h.cell j hlt
      have hck := hc j hlt
      rw [marks_getD k n j hlt] at hck
      clear hc
      have hq : ((k + j : Int) != k + j) = false := by simp
      go_wp2
      go_round
      case rel => exact ⟨j + 1, by omega, by go_num, by go_num⟩
      case measure => simp [intOf]; omega
    · go_wp2
      go_ret
      obtain rfl : n = j := by omega
      exact ⟨rfl, rfl⟩

/-! ### Lists of lists -/
theorem take_snocR {xs : List (List Int)} {k n : Nat} {x : List Int} (hx : xs.getD k [] = x) (hk : k < n) (hl : xs.length = n) : xs.take (k + 1) = xs.take k ++ [x] := by
  subst hx hl
  rw [List.take_add_one, List.getElem?_eq_getElem hk, List.getD_eq_getElem?_getD, List.getElem?_eq_getElem hk]
  rfl
theorem take_allR {xs : List (List Int)} {n : Nat} (hl : xs.length = n) : xs.take n = xs := List.take_of_length_le (Nat.le_of_eq hl)
theorem RowsAt.drewN {w ao n cap xs} (h : RowsAt w ao n cap xs) (q : Nat) : RowsAt (w.drewN q) ao n cap xs :=
  ⟨h.length, h.le, h.max, h.isNil, fun j hj => by
    obtain ⟨b, o, e, hb, hc⟩ := h.cell j hj
    exact ⟨b, o, e, hb, fun i hi => by obtain ⟨a, m, c, h1, h2⟩ := hc i hi; exact ⟨a, m, c, h1, h2.drewN q⟩⟩⟩

set_option maxHeartbeats 800000 in
theorem eqIntSS_any (ao bo : Option Addr) (n m cap cap' : Nat) (xs ys : List (List Int)) (w : World) (hx : RowsAt w ao n cap xs) (hy : RowsAt w bo m cap' ys) :
    Calls Try.prog 44 #[.slice ao n cap, .slice bo m cap'] w fun e w' => e = .returned (.bool (decide (xs = ys))) ∧ Below w.heap.size w w' := by
  have hn' := hx.lenInt
  have hm' := hy.lenInt
  by_cases hnm : n = m
  · subst hnm
    go_enter Try.func44, Try.ntmps44
    go_wp2
    go_loopw [5] (fun i wr => ∃ k : Nat, k ≤ n ∧ i = .int .i64 k ∧ xs.take k = ys.take k ∧ ∃ q, wr = w.drewN q)
      (fun i _ => n - (intOf i).toNat)
    case atStart => exact ⟨0, Nat.zero_le _, rfl, rfl, 0, rfl⟩
    case round =>
      obtain ⟨k, hk, rfl, heq, hq⟩ := hrel
      have hx' : RowsAt wr ao n cap xs := by obtain ⟨q, rfl⟩ := hq; exact hx.drewN q
      have hy' : RowsAt wr bo n cap' ys := by obtain ⟨q, rfl⟩ := hq; exact hy.drewN q
      have Heq := Lib.hid heq; clear heq
      have Hq := Lib.hid hq; clear hq
      by_cases hlt : k < n
      · have hl1 := Lib.hid hx.length
        have hl2 := Lib.hid hy.length
        obtain ⟨b1, o1, rfl, hb1, hc1⟩ := hx'.cell k hlt
        obtain ⟨a1, m1, c1, hck1, hi1⟩ := hc1 k hlt
        obtain ⟨b2, o2, rfl, hb2, hc2⟩ := hy'.cell k hlt
        obtain ⟨a2, m2, c2, hck2, hi2⟩ := hc2 k hlt
        clear hc1 hc2
        generalize hx1 : xs.getD k [] = x at hi1
        generalize hx2 : ys.getD k [] = y at hi2
        have Hx1 := Lib.hid hx1; clear hx1
        have Hx2 := Lib.hid hx2; clear hx2
        have hcon := fun nq => eqIntS_quiet a1 a2 m1 m2 c1 c2 x y (wr.drewN nq) (hi1.drewN nq) (hi2.drewN nq)
        have Hcon := Lib.hid hcon; clear hcon
        cases hd : decide (x = y)
        · go_wp2
          go_quiet ((go_at_call 16; exact Calls.quiet_of (Hcon.out _)))
          go_wp2
          go_ret
          have hne : xs ≠ ys := fun e => by
            have h3 := Hx1.out; have h4 := Hx2.out
            rw [e, h4] at h3; subst h3; simp at *
          obtain ⟨q, rfl⟩ := Hq.out
          exact ⟨by simp [hne], belowDrewN (belowDrewN (Below.refl _ _) _) _⟩
        · have hxy := Lib.hid (of_decide_eq_true hd)
          go_wp2
          go_quiet ((go_at_call 16; exact Calls.quiet_of (Hcon.out _)))
          go_wp2
          go_roundw
          case rel => exact ⟨k + 1, by omega, by go_num, by rw [take_snocR Hx1.out hlt hl1.out, take_snocR Hx2.out hlt hl2.out, Heq.out, hxy.out], by obtain ⟨q, rfl⟩ := Hq.out; exact ⟨_, World.drewN_drewN _ _ _⟩⟩
          case measure => simp [intOf]; omega
      · go_wp2
        go_ret
        obtain rfl : n = k := by omega
        have e := Heq.out
        rw [take_allR hx.length, take_allR hy.length] at e
        obtain ⟨q, rfl⟩ := Hq.out
        exact ⟨by simp [e], belowDrewN (Below.refl _ _) _⟩
  · have hne : ((n : Int) != (m : Int)) = true := by simp; omega
    have hxy : xs ≠ ys := fun e => hnm (by rw [← hx.length, ← hy.length, e])
    go_enter Try.func44, Try.ntmps44
    go_wp2
    go_ret
    exact ⟨by simp [hxy], Below.refl _ _⟩

theorem Own.narrow {B E w g n cap xs} (h : Own B E w (some ⟨g, 0, none⟩) n cap xs) : Own g (g + 1) w (some ⟨g, 0, none⟩) n cap xs := by
  refine ⟨⟨h.1.1, ?_⟩, fun q hq => by simp [Value.ownBlock] at hq; omega⟩
  rcases h.1.2 with ⟨hv, hn⟩ | ⟨g', c, cur, hv, hg, rest⟩
  · simp at hv
  · refine .inr ⟨g', c, cur, hv, ?_, rest⟩
    simp at hv
    omega
theorem Own.wide {B E w g n cap xs} (h : Own g (g + 1) w (some ⟨g, 0, none⟩) n cap xs) (hB : B ≤ g) (hE : g < E) : Own B E w (some ⟨g, 0, none⟩) n cap xs := h.mono hB hE

theorem markIntS_blk (B E : Nat) (ao : Option Addr) (n cap : Nat) (xs : List Int) (k : Int) (w : World) (h : Own B E w ao n cap xs) (hn : n ≤ 1048576) (hk0 : 0 ≤ k) (hk1 : k ≤ 1073741824) :
    Calls Try.prog 17 #[.slice ao n cap, .int .i64 k] w fun e w' => e = .returned (.int .i64 (k + n)) ∧ Own B E w' ao n cap (marks k n) ∧ Chg (fun b => (Value.slice ao n cap).ownBlock = some b) w w' := by
  rcases h.cases with ⟨rfl, rfl, rfl, rfl⟩ | ⟨g, rfl, h1, h2, _⟩
  · refine (markIntS_any 0 0 none 0 0 [] k w (Own.nil 0 0 w) hn hk0 hk1).mono fun e w' ⟨a, b, c⟩ => ⟨a, Own.nil B E w', c.mono fun q hq => ?_⟩
    exact absurd hq.2 (Nat.not_lt_zero _)
  · refine (markIntS_any g (g + 1) _ n cap xs k w h.narrow hn hk0 hk1).mono fun e w' ⟨a, b, c⟩ => ⟨a, b.wide h1 h2, c.mono fun q hq => ?_⟩
    have h3 := hq.1; have h4 := hq.2
    have : g = q := by omega
    rw [this]; rfl

theorem getD_set_eq {α : Type} (l : List α) (i : Nat) (x d : α) (h : i < l.length) : (l.set i x).getD i d = x := by
  rw [List.getD_eq_getElem?_getD, List.getElem?_set_self h]; rfl
theorem getD_set_ne {α : Type} (l : List α) (i j : Nat) (x d : α) (h : i ≠ j) : (l.set i x).getD j d = l.getD j d := by
  rw [List.getD_eq_getElem?_getD, List.getElem?_set_ne h, List.getD_eq_getElem?_getD]

theorem OwnRow.typed {B E w ty ao n cap vs g} (h : OwnRow B E w ty ao n cap vs) (hg : (Value.slice ao n cap).ownBlock = some g) : ∃ cur, w.heap[g]? = some (.cells cur ty (0, 0)) := by
  rcases h.1.2 with ⟨hv, _⟩ | ⟨g', c, cur, hv, hg', hh, _⟩
  · rw [hv] at hg; simp [Value.ownBlock] at hg
  · rw [hv] at hg; simp [Value.ownBlock] at hg; subst hg; exact ⟨cur, hh⟩

/-- one list of those that the call made: where it lies, and what becomes of all if it alone is written -/
theorem OwnRows.inner {B E w ao n cap xss} (h : OwnRows B E w ao n cap xss) (i : Nat) (hi : i < n) :
    ∃ b a m c, ao = some ⟨b, 0, none⟩ ∧ w.cell? ⟨b, i, none⟩ = some (.slice a m c) ∧ Own B E w a m c (xss.getD i []) ∧
      ∀ w' ys, Chg (fun k => (Value.slice a m c).ownBlock = some k) w w' → Own B E w' a m c ys → OwnRows B E w' ao n cap (xss.set i ys) := by
  obtain ⟨vs, h1, h2, h3, h4⟩ := h
  rcases h1.cases with ⟨_, rfl, _⟩ | ⟨b, rfl, hb1, hb2, hb3⟩
  · omega
  obtain ⟨a, m, c, e, ho⟩ := h3 i hi
  refine ⟨b, a, m, c, rfl, ?_, ho, fun w' ys hc hy => ⟨vs, h1.chg hc fun g _ _ hg hs => ?_, by simpa using h2, fun j hj => ?_, h4⟩⟩
  · have hl := h1.length
    have := World.ownsRow.cellAt h1.1 i (by omega)
    rw [this, ← e, List.getElem?_eq_getElem (by omega), List.getD_eq_getElem?_getD, List.getElem?_eq_getElem (by omega)]
    rfl
  · obtain ⟨cur, e1⟩ := h1.typed hg
    obtain ⟨cur', e2⟩ := OwnRow.typed ho hs
    rw [e1] at e2
    simp at e2
  · by_cases hji : i = j
    · subst hji
      exact ⟨a, m, c, e, by rw [getD_set_eq _ _ _ _ (by omega)]; exact hy⟩
    · obtain ⟨a', m', c', e', ho'⟩ := h3 j hj
      refine ⟨a', m', c', e', ?_⟩
      rw [getD_set_ne _ _ _ _ _ hji]
      refine ho'.chg hc fun g _ _ hg hs => ?_
      have hap : apart (.slice a m c) (.slice a' m' c') ∨ apart (.slice a' m' c') (.slice a m c) := by
        rw [← e, ← e']
        rcases Nat.lt_or_gt_of_ne hji with hlt | hlt
        · exact .inl (h4 i j hlt hj)
        · exact .inr (h4 j i hlt hi)
      unfold apart at hap
      rw [hg, hs] at hap
      simp at hap

/-- marks over lists of these lengths -/
def marksR (k : Int) : List Nat → List (List Int)
  | [] => []
  | l :: ls => marks k l :: marksR (k + l) ls
theorem marksR_length (k : Int) (ls : List Nat) : (marksR k ls).length = ls.length := by
  induction ls generalizing k with
  | nil => rfl
  | cons l ls ih => simp [marksR, ih]
theorem marksR_getD (k : Int) (ls : List Nat) (i : Nat) (h : i < ls.length) : (marksR k ls).getD i [] = marks (k + ((ls.take i).sum : Nat)) (ls.getD i 0) := by
  induction ls generalizing k i with
  | nil => simp at h
  | cons l ls ih =>
    cases i with
    | zero => simp [marksR]
    | succ i =>
      have := ih (k + l) i (by simpa using h)
      simp only [marksR, List.getD_cons_succ, this, List.take_succ_cons, List.sum_cons]
      congr 1
      omega
theorem sum_take_succ (ls : List Nat) (i : Nat) (h : i < ls.length) : (ls.take (i + 1)).sum = (ls.take i).sum + ls.getD i 0 := by
  rw [List.take_add_one, List.getElem?_eq_getElem h, List.sum_append, List.getD_eq_getElem?_getD, List.getElem?_eq_getElem h]
  simp
theorem sum_take_le (ls : List Nat) (i : Nat) : (ls.take i).sum ≤ ls.sum := by
  have := congrArg List.sum (List.take_append_drop i ls)
  rw [List.sum_append] at this
  omega
theorem set_marksR (k : Int) (xss : List (List Int)) (i n : Nat) (hi : i < n) (hl : xss.length = n) :
    ((marksR k (xss.map List.length)).take i ++ xss.drop i).set i (marks (k + (((xss.map List.length).take i).sum : Nat)) (xss.getD i []).length) = (marksR k (xss.map List.length)).take (i + 1) ++ xss.drop (i + 1) := by
  have hm := marksR_length k (xss.map List.length)
  simp only [List.length_map] at hm
  have hgd := marksR_getD k (xss.map List.length) i (by simp; omega)
  have e1 : (xss.map List.length).getD i 0 = (xss.getD i []).length := by
    rw [List.getD_eq_getElem?_getD, List.getD_eq_getElem?_getD, List.getElem?_map, List.getElem?_eq_getElem (by omega)]; rfl
  rw [e1] at hgd
  rw [← hgd]
  apply List.ext_getElem
  · simp; omega
  · intro j h1 h2
    simp at h1
    rw [List.getElem_set]
    split
    · next h =>
      subst h
      rw [List.getD_eq_getElem?_getD, List.getElem?_eq_getElem (by omega)]
      simp [List.getElem_append, List.getElem_take, show i < min (i+1) (marksR k (xss.map List.length)).length by omega]
    · next h =>
      simp only [List.getElem_append, List.length_take, List.getElem_take, List.getElem_drop]
      by_cases hj : j < i
      · simp [show j < min i (marksR k (xss.map List.length)).length by omega, show j < min (i+1) (marksR k (xss.map List.length)).length by omega]
      · simp only [show ¬ j < min i (marksR k (xss.map List.length)).length by omega, show ¬ j < min (i+1) (marksR k (xss.map List.length)).length by omega, dite_false]
        congr 1
        omega

def total (xss : List (List Int)) : Nat := (xss.map List.length).sum

set_option maxHeartbeats 800000 in
theorem markIntSS_any (B E : Nat) (ao : Option Addr) (n cap : Nat) (xss : List (List Int)) (k : Int) (w : World) (h : OwnRows B E w ao n cap xss) (hn : n ≤ 1048576) (ht : total xss ≤ 1048576) (hk0 : 0 ≤ k) (hk1 : k ≤ 1048576) :
    Calls Try.prog 45 #[.slice ao n cap, .int .i64 k] w fun e w' => e = .returned (.int .i64 (k + total xss)) ∧ OwnRows B E w' ao n cap (marksR k (xss.map List.length)) ∧ Chg (Rg B E) w w' := by
  have hn' : (n : Int) ≤ 1048576 := by omega
  go_enter Try.func45, Try.ntmps45
  go_wp2
  go_loopw [1, 5] (fun q i wr => ∃ j : Nat, j ≤ n ∧ i = .int .i64 j ∧ q = .int .i64 (k + (((xss.map List.length).take j).sum : Nat)) ∧ OwnRows B E wr ao n cap ((marksR k (xss.map List.length)).take j ++ xss.drop j) ∧ Chg (Rg B E) w wr)
    (fun _ i _ => n - (intOf i).toNat)
  case atStart => exact ⟨0, Nat.zero_le _, rfl, by simp, by simpa using h, Chg.refl _ _⟩
  case round =>
    obtain ⟨j, hj, rfl, rfl, hown, hc⟩ := hrel
    by_cases hlt : j < n
    · obtain ⟨b, a, m, c, rfl, hcell, ho, hset⟩ := hown.inner j hlt
      have hl := h.length
      have hsum := sum_take_le (xss.map List.length) j
      have hsum1 := sum_take_le (xss.map List.length) (j + 1)
      have hstep := sum_take_succ (xss.map List.length) j (by simp; omega)
      have hget : ((marksR k (xss.map List.length)).take j ++ xss.drop j).getD j [] = xss.getD j [] := by
        have hm := marksR_length k (xss.map List.length)
        simp only [List.length_map] at hm
        rw [List.getD_eq_getElem?_getD, List.getElem?_append_right (by simp; omega), List.getElem?_drop, List.getD_eq_getElem?_getD]
        congr 2
        simp; omega
      have e1 : (xss.map List.length).getD j 0 = (xss.getD j []).length := by
        rw [List.getD_eq_getElem?_getD, List.getD_eq_getElem?_getD, List.getElem?_map, List.getElem?_eq_getElem (by omega)]; rfl
      have hm : (xss.getD j []).length = m := by rw [← hget]; exact ho.length
      have hsm := set_marksR k xss j n hlt hl
      rw [hm] at hsm e1
      rw [e1] at hstep
      unfold total at ht
      generalize hS : ((xss.map List.length).take j).sum = S at *
      generalize hS1 : ((xss.map List.length).take (j + 1)).sum = S1 at *
      have hcon := markIntS_blk B E a m c _ (k + (S : Int)) wr ho (by omega) (by omega) (by omega)
      have Hcon := Lib.hid hcon; clear hcon
      have Hset := Lib.hid hset; clear hset
      have Hsm := Lib.hid hsm; clear hsm
      have Hget := Lib.hid hget; clear hget
      have Hstep := Lib.hid hstep; clear hstep
      have HS := Lib.hid hS; clear hS
      have HS1 := Lib.hid hS1; clear hS1
      have Hl := Lib.hid hl; clear hl
      have Hown := Lib.hid hown; clear hown
      have Ho := Lib.hid ho; clear ho
      have E1 := Lib.hid e1; clear e1
      have Hm := Lib.hid hm; clear hm
      clear hsum1 h
      go_wp2_with (go_at_call 17; refine (Hcon.out).mono ?_; rintro e w1 ⟨rfl, ho1, hc1⟩)
      have e2 := Hstep.out
      go_roundw
      case rel =>
        refine ⟨j + 1, by omega, by go_num, ?_, ?_, hc.trans (hc1.mono fun q hq => ?_)⟩
        · rw [HS1.out, e2]; go_num
        · rw [← Hsm.out]; exact Hset.out w1 _ hc1 ho1
        · rcases Own.cases Ho.out with ⟨ea, _⟩ | ⟨g, ea, g1, g2, _⟩
          · rw [ea] at hq; simp [Value.ownBlock] at hq
          · rw [ea] at hq; simp [Value.ownBlock] at hq; subst hq; exact ⟨g1, g2⟩
      case measure => simp [intOf]; omega
    · go_wp2
      go_ret
      obtain rfl : n = j := by omega
      have hl := h.length
      have hm := marksR_length k (xss.map List.length)
      simp only [List.length_map] at hm
      refine ⟨?_, ?_, hc⟩
      · unfold total
        rw [List.take_of_length_le (by simp; omega)] <;> rfl
      have e : (marksR k (xss.map List.length)).take n ++ xss.drop n = marksR k (xss.map List.length) := by
        rw [List.take_of_length_le (by omega), List.drop_of_length_le (by omega)]; simp
      rw [e] at hown
      exact hown

set_option maxHeartbeats 800000 in
/-- what was marked is held -/
theorem heldIntSS_any (ao : Option Addr) (n cap : Nat) (ls : List Nat) (k : Int) (w : World) (h : RowsAt w ao n cap (marksR k ls)) (hn : n ≤ 1048576) (ht : ls.sum ≤ 1048576) (hk0 : 0 ≤ k) (hk1 : k ≤ 1048576) :
    Calls Try.prog 46 #[.slice ao n cap, .int .i64 k] w fun e w' => e = .returned (.int .i64 (k + (ls.sum : Nat))) ∧ w = w' := by
  have hn' : (n : Int) ≤ 1048576 := by omega
  have hl := h.length
  rw [marksR_length] at hl
  have Hl := Lib.hid hl; clear hl
  go_enter Try.func46, Try.ntmps46
  go_wp2
  go_loop [1, 5] (fun q i => ∃ j : Nat, j ≤ n ∧ i = .int .i64 j ∧ q = .int .i64 (k + ((ls.take j).sum : Nat)))
    (fun _ i => n - (intOf i).toNat)
  case atStart => exact ⟨0, Nat.zero_le _, rfl, by simp⟩
  case round =>
    obtain ⟨j, hj, rfl, rfl⟩ := hrel
    by_cases hlt : j < n
    · obtain ⟨b, o, rfl, hb', hc⟩ := h.cell j hlt
      obtain ⟨a, m, c, hck, hi⟩ := hc j hlt
      rw [marksR_getD k ls j (by rw [Hl.out]; exact hlt)] at hi
      have hsum := sum_take_le ls j
      have hstep := sum_take_succ ls j (by rw [Hl.out]; exact hlt)
      have hm : ls.getD j 0 = m := by have := hi.length; rwa [marks_length] at this
      have hsum1 := sum_take_le ls (j + 1)
      rw [hm] at hi hstep
      generalize hS : (ls.take j).sum = S at *
      generalize hS1 : (ls.take (j + 1)).sum = S1 at *
      have hcon := heldIntS_any a m c (k + (S : Int)) w hi (by omega) (by omega) (by omega)
      have hge : ¬ (k + (S : Int) + m < 0) := by omega
      have Hcon := Lib.hid hcon; clear hcon
      have Hstep := Lib.hid hstep; clear hstep
      have HS := Lib.hid hS; clear hS
      have HS1 := Lib.hid hS1; clear hS1
      have Hm := Lib.hid hm; clear hm
      have Hi := Lib.hid hi; clear hi
      clear hc hsum1 h
      go_wp2_with (go_at_call 90; refine (Hcon.out).mono ?_; rintro e w1 ⟨rfl, rfl⟩)
      have e2 := Hstep.out
      go_round
      case rel =>
        refine ⟨j + 1, by omega, by go_num, ?_⟩
        rw [HS1.out, e2]; go_num
      case measure => simp [intOf]; omega
    · go_wp2
      go_ret
      obtain rfl : n = j := by omega
      refine ⟨?_, rfl⟩
      rw [List.take_of_length_le (by rw [Hl.out]; exact Nat.le_refl _)] <;> rfl
end Go.Proofs.Ytbneibpakopllaa
