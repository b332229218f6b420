/- Several texts in one: NuM, AnM, DkM, DkA. No condition. -/
import Derived.Test.YtimmjimeldejjaaGreatDoorGj
import Derived.Lib.AtoiTie
import Derived.Test.YtimmjimeldejjaaGreatDoorCo1
import Derived.Test.YtimmjimeldejjaaGreatDoorGb
namespace Go.Proofs.YtimmjimeldejjaaGreatDoor
section
set_option linter.unusedVariables false
set_option linter.unusedSimpArgs false

theorem numV_app (u : List UInt8) (c : UInt8) : numV (u ++ [c]) = 10 * numV u + (c.toNat - 48) := numV_snoc u c
theorem numV_pos : ∀ (n : Nat) (w : List UInt8), w.length = n + 1 → w.getD 0 0 ≠ 48 → (∀ c ∈ w, isDig c) → 1 ≤ numV w := by
  intro n
  induction n with
  | zero =>
    intro w hl h0 hd
    match w, hl with
    | [c], _ =>
      have hc := hd c (by simp)
      have hv : numV [c] = c.toNat - 48 := by simp [numV]
      have : c.toNat ≠ 48 := fun e => h0 (UInt8.toNat_inj.1 (by simpa using e))
      unfold isDig at hc
      omega
  | succ n ih =>
    intro w hl h0 hd
    have hne : w ≠ [] := fun e => by rw [e] at hl; simp at hl
    have hw := List.dropLast_concat_getLast hne
    have hdl : w.dropLast.length = n + 1 := by rw [List.length_dropLast]; omega
    have h00 : w.dropLast.getD 0 0 = w.getD 0 0 := by
      conv => rhs; rw [← hw]
      rw [List.getD_eq_getElem?_getD, List.getD_eq_getElem?_getD, List.getElem?_append_left (by omega)]
    have := ih w.dropLast hdl (by rw [h00]; exact h0) (fun c hc => hd c (by have : c ∈ w.dropLast ++ [w.getLast hne] := List.mem_append_left _ hc; rwa [hw] at this))
    rw [← hw, numV_app]
    omega
/-- what has no needless zero is the numeral of its number -/
theorem dd_numV : ∀ (n : Nat) (w : List UInt8), w.length = n + 1 → ¬ (w.getD 0 0 = 48 ∧ 1 < w.length) → (∀ c ∈ w, isDig c) → Lib.decDigits (numV w) = w := by
  intro n
  induction n with
  | zero =>
    intro w hl h0 hd
    match w, hl with
    | [c], _ =>
      have hc := hd c (by simp)
      have hv : numV [c] = c.toNat - 48 := by simp [numV]
      have hc' := hc
      unfold isDig at hc'
      rw [hv, Lib.decDigits_one (by omega), ← dig_eq c hc]
  | succ n ih =>
    intro w hl h0 hd
    have hne : w ≠ [] := fun e => by rw [e] at hl; simp at hl
    have hw := List.dropLast_concat_getLast hne
    have hdl : w.dropLast.length = n + 1 := by rw [List.length_dropLast]; omega
    have h00 : w.dropLast.getD 0 0 = w.getD 0 0 := by
      conv => rhs; rw [← hw]
      rw [List.getD_eq_getElem?_getD, List.getD_eq_getElem?_getD, List.getElem?_append_left (by omega)]
    have hn48 : w.getD 0 0 ≠ 48 := fun e => h0 ⟨e, by omega⟩
    have hdd : ∀ c ∈ w.dropLast, isDig c := fun c hc => hd c (by have : c ∈ w.dropLast ++ [w.getLast hne] := List.mem_append_left _ hc; rwa [hw] at this)
    have hp := numV_pos n w.dropLast hdl (by rw [h00]; exact hn48) hdd
    have e := ih w.dropLast hdl (by rw [h00]; exact fun q => hn48 q.1) hdd
    have hc := hd _ (List.getLast_mem hne)
    have hc' := hc
    unfold isDig at hc'
    generalize w.getLast hne = c at hw hc hc'
    rw [← hw, numV_app, Lib.decDigits, dif_neg (by omega), show (10 * numV w.dropLast + (c.toNat - 48)) / 10 = numV w.dropLast by omega, show (10 * numV w.dropLast + (c.toNat - 48)) % 10 = c.toNat - 48 by omega, e, ← dig_eq c hc]
theorem read_written {w : List UInt8} (h : ReadOk w) : Lib.decDigits (numV w) = w :=
  dd_numV (w.length - 1) w (by have := h.1; omega) h.2.2.1 h.2.2.2
theorem digs_dd : ∀ (N v : Nat), v ≤ N → (∀ c ∈ Lib.decDigits v, isDig c) ∧ numV (Lib.decDigits v) = v ∧ (1 ≤ v → (Lib.decDigits v).getD 0 0 ≠ 48) ∧ 1 ≤ (Lib.decDigits v).length := by
  intro N
  have one : ∀ v, v < 10 → (∀ c ∈ Lib.decDigits v, isDig c) ∧ numV (Lib.decDigits v) = v ∧ (1 ≤ v → (Lib.decDigits v).getD 0 0 ≠ 48) ∧ 1 ≤ (Lib.decDigits v).length := by
    intro v hv
    rw [Lib.decDigits_one hv]
    have key : ∀ v, v < 10 → isDig (UInt8.ofNat (48 + v)) ∧ numV [UInt8.ofNat (48 + v)] = v ∧ (1 ≤ v → UInt8.ofNat (48 + v) ≠ 48) := by decide +kernel
    obtain ⟨k1, k2, k3⟩ := key v hv
    exact ⟨fun c hc => by rw [List.mem_singleton.1 hc]; exact k1, k2, k3, by simp⟩
  induction N with
  | zero => intro v hv; exact one v (by omega)
  | succ N ih =>
    intro v hv
    by_cases h : v < 10
    · exact one v h
    · obtain ⟨i1, i2, i3, i4⟩ := ih (v / 10) (by omega)
      have key : ∀ q, q < 10 → isDig (UInt8.ofNat (48 + q)) ∧ (UInt8.ofNat (48 + q)).toNat = 48 + q := by decide +kernel
      obtain ⟨k1, k2⟩ := key (v % 10) (by omega)
      rw [Lib.decDigits, dif_neg h]
      refine ⟨fun c hc => ?_, ?_, fun _ => ?_, by rw [List.length_append]; omega⟩
      · rcases List.mem_append.1 hc with h' | h'
        · exact i1 c h'
        · rw [List.mem_singleton.1 h']; exact k1
      · rw [numV_app, i2, k2]; omega
      · rw [List.getD_eq_getElem?_getD, List.getElem?_append_left (by omega), ← List.getD_eq_getElem?_getD]
        exact i3 (by omega)
theorem nDigits_six (k : Nat) : ∀ n, n < 10 ^ (k + 1) → Lib.nDigits n ≤ k + 1 := by
  induction k with
  | zero =>
    intro n h
    rw [Lib.nDigits]
    split
    · omega
    · omega
  | succ k ih =>
    intro n h
    rw [Lib.nDigits]
    split
    · omega
    · have := ih (n / 10) (by rw [Nat.pow_succ] at h; omega)
      omega
theorem written_read {v : Nat} (h : v ≤ 999999) : ReadOk (Lib.decDigits v) ∧ readL (Lib.decDigits v) = v := by
  obtain ⟨h1, h2, h3, h4⟩ := digs_dd v v (Nat.le_refl _)
  have h6 : (Lib.decDigits v).length ≤ 6 := by rw [Lib.decDigits_length]; exact nDigits_six 5 v (by omega)
  have hr : ReadOk (Lib.decDigits v) := by
    refine ⟨h4, h6, fun q => ?_, h1⟩
    by_cases hv : 1 ≤ v
    · exact h3 hv q.1
    · obtain rfl : v = 0 := by omega
      rw [Lib.decDigits_one (by omega)] at q
      simp at q
  refine ⟨hr, ?_⟩
  unfold readL
  rw [if_pos hr, h2]
theorem decFrom_digs : ∀ (l : List UInt8) (acc : Nat), (∀ c ∈ l, isDig c) → Lib.decFrom acc l = some (l.foldl (fun n c => 10 * n + (c.toNat - 48)) acc)
  | [], acc, _ => rfl
  | c :: l, acc, h => by
    have hc := h c (by simp)
    unfold isDig at hc
    have hv : Lib.digitVal c = some (c.toNat - 48) := by unfold Lib.digitVal; rw [if_pos hc]
    simp only [Lib.decFrom, hv, List.foldl_cons]
    rw [Nat.mul_comm acc 10]
    exact decFrom_digs l _ (fun x hx => h x (by simp [hx]))
theorem read_atoi {w : List UInt8} (h : ReadOk w) : Lib.atoiAll w = .ok (numV w : Int) := by
  obtain ⟨h1, h6, _, hd⟩ := h
  rw [Lib.atoiAll_short w (by omega)]
  match w, h1, hd with
  | c :: r, _, hd =>
    have hc := hd c (by simp)
    unfold isDig at hc
    have e1 : (c == 45) = false := by
      rw [beq_eq_false_iff_ne]; intro e; rw [e] at hc; exact absurd hc (by decide)
    have e2 : (c == 43) = false := by
      rw [beq_eq_false_iff_ne]; intro e; rw [e] at hc; exact absurd hc (by decide)
    have e3 : Lib.decNat (c :: r) = some (numV (c :: r)) := by
      unfold Lib.decNat
      rw [if_neg (by simp), decFrom_digs _ _ hd]
      rfl
    simp only [Lib.atoi, e1, e2, e3, Option.map, Lib.NumEnd.ofOption, if_false, Bool.false_eq_true]
/-- how the program reads a number -/
theorem read_cases (w : List UInt8) : (0 ≤ readL w ∧ Lib.atoiAll w = .ok (readL w) ∧ readL w ≤ 999999 ∧ Lib.decDigits (readL w).toNat = w) ∨
    (¬ 0 ≤ readL w ∧ ∀ v : Int, 0 ≤ v → v ≤ 999999 → Lib.decDigits v.toNat ≠ w) := by
  by_cases h : ReadOk w
  · have hr : readL w = (numV w : Int) := by unfold readL; rw [if_pos h]
    have hb := readL_bounds w
    refine .inl ⟨by rw [hr]; omega, by rw [hr]; exact read_atoi h, hb.2, ?_⟩
    rw [hr, Int.toNat_natCast]
    exact read_written h
  · have hr : readL w = -1 := by unfold readL; rw [if_neg h]
    refine .inr ⟨by rw [hr]; omega, fun v h0 h1 e => h ?_⟩
    rw [← e]
    exact (written_read (v := v.toNat) (by omega)).1
end
end Go.Proofs.YtimmjimeldejjaaGreatDoor
namespace Go.Proofs.YtimmjimeldejjaaGreatDoor
section
set_option linter.unusedVariables false
set_option linter.unusedSimpArgs false
set_option maxRecDepth 20000

/-! ### Texts that are neither no nor what -/
def FineT (t : List UInt8) : Prop := ∃ c r, t = c :: r ∧ c.toNat < 60
theorem dd_fine (x : Int) : FineT (dd x) := by
  unfold dd
  obtain ⟨h1, _, _, h4⟩ := digs_dd x.toNat x.toNat (Nat.le_refl _)
  cases h : Lib.decDigits x.toNat with
  | nil => rw [h] at h4; simp at h4
  | cons c r =>
    have := h1 c (by rw [h]; simp)
    unfold isDig at this
    exact ⟨c, r, rfl, by omega⟩
theorem FineT.app {t : List UInt8} (h : FineT t) (u : List UInt8) : FineT (t ++ u) := by
  obtain ⟨c, r, rfl, hc⟩ := h
  exact ⟨c, r ++ u, rfl, hc⟩
theorem join_fine (xs : List Int) (sep : List UInt8) (h : xs ≠ []) : FineT (Lib.join (xs.map dd) sep) := by
  cases xs with
  | nil => exact absurd rfl h
  | cons x r =>
    rw [List.map_cons, Lib.join_cons]
    exact (dd_fine x).app _
theorem textL_fine (xs : List Int) : FineT (textL xs) := by
  unfold textL
  split
  · exact ⟨48, [], rfl, by decide⟩
  · next h => exact join_fine xs _ h
theorem textW_fine (xs : List Int) : FineT (textW xs) := by
  unfold textW
  split
  · exact ⟨45, [], rfl, by decide⟩
  · next h => exact join_fine xs _ h
theorem bankL_fine (b : Bk) : FineT (bankL b) := by
  unfold bankL
  exact ((((dd_fine b.h).app _).app _).app _).app _
theorem give_fine {a : List Int} {x : List Int × Bool} {t : List UInt8} (h : (giveA a x).2 = .ok t) : FineT t := by
  unfold giveA at h
  split at h
  · cases h; exact textL_fine _
  · cases h
theorem num_fine {a : List Int} {x : Int × Bool} {t : List UInt8} (h : (numA a x).2 = .ok t) : FineT t := by
  unfold numA at h
  split at h
  · cases h; exact dd_fine _
  · cases h
theorem run_fine {a : List Int} {l : Ln} {o : Ord} {t : List UInt8} (h : (runO a l o).2 = .ok t) : FineT t := by
  cases o with
  | take => exact give_fine h
  | step => exact give_fine h
  | steps => exact give_fine h
  | side => exact give_fine h
  | past => exact give_fine h
  | stairs => exact give_fine h
  | sort => exact give_fine h
  | shown => cases h; exact textL_fine _
  | cards => exact num_fine h
  | pasts => exact num_fine h
  | tail => exact num_fine h
  | length => exact num_fine h
  | row => cases h; exact textW_fine _
  | bank => cases h; exact bankL_fine _
  | orbit =>
    simp only [runO] at h
    split at h
    · cases h; exact ((dd_fine _).app _).app _
    · cases h
  | start =>
    simp only [runO] at h
    split at h
    · cases h; exact bankL_fine _
    · cases h
theorem words_fine {a : List Int} {ws : List (List UInt8)} {t : List UInt8} (h : (wordsA a ws).2 = .ok t) : FineT t := by
  cases ws with
  | nil => cases h
  | cons w r =>
    unfold wordsA at h
    cases ho : ordOf w with
    | none => simp only [ho] at h; cases h
    | some o =>
      cases hr : readK (kdO o) r with
      | none => simp only [ho, hr] at h; cases h
      | some l => simp only [ho, hr] at h; exact run_fine h
theorem line_fine {a : List Int} {s t : List UInt8} (h : (lineA a s).2 = .ok t) : FineT t := words_fine h
theorem line_good {a : List Int} (ha : Good a) (s : List UInt8) : Good (lineA a s).1 := words_good ha _
/-- is this the reply to a line that was not executed? -/
def isBad (t : List UInt8) : Bool := decide (t = [110, 111]) || decide (t = [119, 104, 97, 116])
def badA : Ans → Bool
  | .ok _ => false
  | _ => true
def FineA (x : Ans) : Prop := ∀ t, x = .ok t → FineT t
theorem bad_rep {x : Ans} (hx : FineA x) : isBad (repA x) = badA x := by
  cases x with
  | ok t =>
    obtain ⟨c, r, rfl, hc⟩ := hx t rfl
    show isBad (c :: r) = false
    unfold isBad
    rw [Bool.or_eq_false_iff, decide_eq_false_iff_not, decide_eq_false_iff_not]
    constructor
    · intro e
      simp only [List.cons.injEq] at e
      rw [e.1] at hc; exact absurd hc (by decide)
    · intro e
      simp only [List.cons.injEq] at e
      rw [e.1] at hc; exact absurd hc (by decide)
  | no => rfl
  | what => rfl
/-- a line that is not executed changes no piles -/
theorem run_badKeep {a : List Int} {l : Ln} {o : Ord} (h : badA (runO a l o).2 = true) : (runO a l o).1 = a := by
  have gv : ∀ x, badA (giveA a x).2 = true → (giveA a x).1 = a := fun x h => give_keep fun t e => by rw [e] at h; cases h
  have nm : ∀ x : Int × Bool, (numA a x).1 = a := fun x => by unfold numA; split <;> rfl
  cases o with
  | take => exact gv _ h
  | step => exact gv _ h
  | steps => exact gv _ h
  | side => exact gv _ h
  | past => exact gv _ h
  | stairs => exact gv _ h
  | sort => exact gv _ h
  | shown => rfl
  | cards => exact nm _
  | pasts => exact nm _
  | tail => exact nm _
  | length => exact nm _
  | row => rfl
  | bank => rfl
  | orbit => simp only [runO]; split <;> rfl
  | start => simp only [runO]; split <;> rfl
theorem words_badKeep {a : List Int} {ws : List (List UInt8)} (h : badA (wordsA a ws).2 = true) : (wordsA a ws).1 = a := by
  cases ws with
  | nil => rfl
  | cons w r =>
    unfold wordsA at h ⊢
    cases ho : ordOf w with
    | none => simp only [ho]
    | some o =>
      cases hr : readK (kdO o) r with
      | none => simp only [ho, hr]
      | some l => simp only [ho, hr] at h ⊢; exact run_badKeep h
theorem line_badKeep {a : List Int} {s : List UInt8} (h : badA (lineA a s).2 = true) : (lineA a s).1 = a := words_badKeep h

theorem mStart_ok (m k : Int) (h : (mStartBank m k).2 = true) : BankOk (mStartBank m k).1 := by
  unfold mStartBank at h ⊢
  split at h
  · next q =>
    rw [if_pos q]
    exact (fill_ok (h := m) (c := k) (older := []) q.1 q.2.1 (fun x hx => by cases hx) List.Pairwise.nil (by simp; omega)).1
  · cases h
theorem orb_nat (xs : List Int) : (∃ T L : Nat, T ≤ 1000 ∧ L ≤ 1001 ∧ mRowOrbit xs = ((T : Int), (L : Int), true)) ∨ mRowOrbit xs = (0, 0, false) := by
  unfold mRowOrbit
  split
  · unfold orbR
    cases h : againR xs with
    | none => exact .inr rfl
    | some j =>
      have hj : j ∈ List.range 1001 := List.mem_of_find?_eq_some h
      have hj2 := List.mem_range.1 hj
      refine .inl ⟨(metR xs j).getD 0, j - (metR xs j).getD 0, ?_, by omega, rfl⟩
      cases hm : metR xs j with
      | none => exact Nat.zero_le _
      | some i =>
        have hi : i ∈ List.range j := List.mem_of_find?_eq_some hm
        have := List.mem_range.1 hi
        show i ≤ 1000
        omega
  · exact .inr rfl
theorem good_sumN {a : List Int} (ha : Good a) : ∃ n : Nat, n ≤ 28 ∧ a.sum = (n : Int) := by
  have h1 := sum_nonneg ha.1
  have h2 := ha.2.2
  exact ⟨a.sum.toNat, by omega, by omega⟩
/-! ### Scripts -/
def scrL (ls : List (List UInt8)) : List Int × List Ans := ls.foldl (fun st l => ((lineA st.1 l).1, st.2 ++ [(lineA st.1 l).2])) ([3, 2, 1], [])
theorem scr_nil : scrL [] = ([3, 2, 1], []) := rfl
theorem scr_snoc (ls : List (List UInt8)) (l : List UInt8) : scrL (ls ++ [l]) = ((lineA (scrL ls).1 l).1, (scrL ls).2 ++ [(lineA (scrL ls).1 l).2]) := by
  unfold scrL; rw [List.foldl_append]; rfl
theorem scr_all (n : Nat) : ∀ ls : List (List UInt8), ls.length = n → Good (scrL ls).1 ∧ (scrL ls).2.length = n ∧ ∀ x ∈ (scrL ls).2, FineA x := by
  induction n with
  | zero =>
    intro ls h
    have : ls = [] := List.length_eq_zero_iff.1 h
    subst this
    exact ⟨by show Good [3, 2, 1]; decide, rfl, fun x hx => by cases hx⟩
  | succ n ih =>
    intro ls h
    have hne : ls ≠ [] := fun e => by rw [e] at h; simp at h
    have hw := List.dropLast_concat_getLast hne
    obtain ⟨i1, i2, i3⟩ := ih ls.dropLast (by rw [List.length_dropLast]; omega)
    rw [← hw, scr_snoc]
    refine ⟨line_good i1 _, by rw [List.length_append, i2]; rfl, fun x hx => ?_⟩
    rcases List.mem_append.1 hx with h' | h'
    · exact i3 x h'
    · rw [List.mem_singleton.1 h']; exact fun t e => line_fine e
theorem scr_good (ls : List (List UInt8)) : Good (scrL ls).1 := (scr_all _ ls rfl).1
theorem scr_length (ls : List (List UInt8)) : (scrL ls).2.length = ls.length := (scr_all _ ls rfl).2.1
theorem scr_fine (ls : List (List UInt8)) : ∀ x ∈ (scrL ls).2, FineA x := (scr_all _ ls rfl).2.2
/-- the numbers of the lines that were not executed -/
def failF : Nat → List Ans → List Int
  | _, [] => []
  | k, x :: r => (if badA x = true then [((k + 1 : Nat) : Int)] else []) ++ failF (k + 1) r
theorem failF_snoc (l : List Ans) (x : Ans) : ∀ k, failF k (l ++ [x]) = failF k l ++ if badA x = true then [((k + l.length + 1 : Nat) : Int)] else [] := by
  induction l with
  | nil => intro k; simp [failF]
  | cons y l ih =>
    intro k
    show (if badA y = true then _ else _) ++ failF (k + 1) (l ++ [x]) = _
    rw [ih (k + 1), ← List.append_assoc, show k + 1 + l.length + 1 = k + (y :: l).length + 1 by simp; omega]
    rfl
theorem failF_length (l : List Ans) : ∀ k, (failF k l).length ≤ l.length := by
  induction l with
  | nil => intro k; simp [failF]
  | cons y l ih =>
    intro k
    show ((if badA y = true then _ else _) ++ failF (k + 1) l).length ≤ _
    have := ih (k + 1)
    rw [List.length_append, List.length_cons]
    split
    · simp; omega
    · simp; omega
/-- the lines of a script -/
def linesS (s : List UInt8) : Option (List (List UInt8)) :=
  if s.length ≤ 3000 ∧ (splitL 10 s).getD ((splitL 10 s).length - 1) [] = [] ∧ (splitL 10 s).length - 1 ≤ 50 then some ((splitL 10 s).take ((splitL 10 s).length - 1)) else none
def mRunScript (s : List UInt8) : List (List UInt8) × Bool := match linesS s with
  | none => ([], false)
  | some ls => ((scrL ls).2.map repA, true)
def mDeskAfter (s : List UInt8) : List Int × Bool := match linesS s with
  | none => ([], false)
  | some ls => ((scrL ls).1, true)
def mFailedLines (s : List UInt8) : List Int × Bool := match linesS s with
  | none => ([], false)
  | some ls => (failF 0 (scrL ls).2, true)
theorem lines_len {s : List UInt8} {ls : List (List UInt8)} (h : linesS s = some ls) : ls.length ≤ 50 := by
  unfold linesS at h
  split at h
  · next q =>
    cases h
    rw [List.length_take]
    omega
  · cases h
def mDeskLine (a : List Int) (s : List UInt8) : List Int × List UInt8 × Bool :=
  if goodB a = true ∧ s.length ≤ 3000 ∧ (10 : UInt8) ∉ s then ((lineA a s).1, repA (lineA a s).2, true) else ([], [], false)
end
end Go.Proofs.YtimmjimeldejjaaGreatDoor
namespace Go.Proofs.YtimmjimeldejjaaGreatDoor
section
open Go.RowKit
set_option linter.unusedVariables false
set_option linter.unusedSimpArgs false

def errV (p : Addr) : Value := .iface 261 (.pointer (some p))
/-- what the world must hold: the library's variables, and the console's two errors -/
structure DkOk (w : World) (pn pw : Addr) : Prop where
  lib : LibOk w
  no : w.cell? ⟨2, 0, none⟩ = some (errV pn)
  what : w.cell? ⟨1, 0, none⟩ = some (errV pw)
  ne : pn ≠ pw
  noB : ∃ c t, w.heap[pn.block]? = some (.cells c t (0, 0))
  whatB : ∃ c t, w.heap[pw.block]? = some (.cells c t (0, 0))
  low : 2 < w.heap.size ∧ 1 < w.heap.size
theorem keepB {w w' : World} {k : Nat} {o : Obj} (h : w.heap[k]? = some o) (hb : Below w.heap.size w w') : w'.heap[k]? = some o :=
  ((Chg.ofBelow (S := fun _ => False) hb).block k (Array.getElem?_eq_some_iff.1 h).1 id).trans h
theorem DkOk.keep {w w' : World} {pn pw : Addr} (h : DkOk w pn pw) (hb : Below w.heap.size w w') : DkOk w' pn pw :=
  ⟨h.lib.keep hb, by rw [hb.cell h.low.1]; exact h.no, by rw [hb.cell h.low.2]; exact h.what, h.ne,
    by obtain ⟨c, t, e⟩ := h.noB; exact ⟨c, t, keepB e hb⟩, by obtain ⟨c, t, e⟩ := h.whatB; exact ⟨c, t, keepB e hb⟩,
    by have := hb.size; have := h.low; omega⟩
/-- what a call comes to: a value, no, what -/
inductive Got (α : Type)
  | got (x : α)
  | no
  | what
def errG {α : Type} (pn pw : Addr) : Got α → Value
  | .got _ => .nilIface
  | .no => errV pn
  | .what => errV pw
def errB (pn : Addr) : Bool → Value
  | true => .nilIface
  | false => errV pn
def gotB {α : Type} (x : α) : Bool → Got α
  | true => .got x
  | false => .no
theorem errB_got {α : Type} (pn pw : Addr) (x : α) (b : Bool) : errB pn b = errG pn pw (gotB x b) := by cases b <;> rfl
/-- of no word, of one word -/
def noW {α : Type} (n : Nat) (x : α × Bool) : Got α := if n = 0 then gotB x.1 x.2 else .what
def LsPost (pn pw : Addr) (r : Got (List Int)) (w : World) (e : Ending) (w' : World) : Prop :=
  ∃ a n c, e = .returned (.tuple #[.slice a n c, errG pn pw r]) ∧ (∀ x, r = .got x → Own w.heap.size w'.heap.size w' a n c x) ∧ Below w.heap.size w w'
def TxPost (pn pw : Addr) (r : Got (List UInt8)) (w : World) (e : Ending) (w' : World) : Prop :=
  ∃ s : ByteArray, e = .returned (.tuple #[.string s, errG pn pw r]) ∧ (∀ t, r = .got t → s = ⟨t.toArray⟩) ∧ Below w.heap.size w w'
def NmPost (pn pw : Addr) (r : Got Int) (w : World) (e : Ending) (w' : World) : Prop :=
  ∃ x : Int, e = .returned (.tuple #[.int .i64 x, errG pn pw r]) ∧ (∀ y, r = .got y → x = y) ∧ Below w.heap.size w w'
/-- of the only word -/
def oneW {α β : Type} (r : List (List UInt8)) (parse : List UInt8 → α × Bool) (call : α → β × Bool) : Got β := match r with
  | [t] => if (parse t).2 = true then gotB (call (parse t).1).1 (call (parse t).1).2 else .what
  | _ => .what
theorem oneW_len {α β : Type} {r : List (List UInt8)} {parse : List UInt8 → α × Bool} {call : α → β × Bool} (h : r.length ≠ 1) : oneW r parse call = .what := by
  rcases r with _ | ⟨t, _ | ⟨u, r⟩⟩
  · rfl
  · exact absurd rfl h
  · rfl
theorem oneW_no {α β : Type} {t : List UInt8} {parse : List UInt8 → α × Bool} {call : α → β × Bool} (h : (parse t).2 = false) : oneW [t] parse call = .what := by
  simp only [oneW]; rw [if_neg (by rw [h]; simp)]
theorem oneW_yes {α β : Type} {t : List UInt8} {parse : List UInt8 → α × Bool} {call : α → β × Bool} (h : (parse t).2 = true) : oneW [t] parse call = gotB (call (parse t).1).1 (call (parse t).1).2 := by
  simp only [oneW]; rw [if_pos h]
/-- how a number is read: the number, whether it is one -/
def mNum (t : List UInt8) : Int × Bool := (readL t, decide (0 ≤ readL t))
/-- an answer of piles, of a text -/
def gAnsL (a : List Int) : Got (List Int) → List Int × Ans
  | .got x => (x, .ok (textL x))
  | .no => (a, .no)
  | .what => (a, .what)
def gAnsT (a : List Int) : Got (List UInt8) → List Int × Ans
  | .got t => (a, .ok t)
  | .no => (a, .no)
  | .what => (a, .what)
def dgG : Got Int → Got (List UInt8)
  | .got x => .got (Lib.itoa x)
  | .no => .no
  | .what => .what
theorem errG_dg (pn pw : Addr) (r : Got Int) : errG pn pw (dgG r) = errG pn pw r := by cases r <;> rfl
theorem gAns_give (a : List Int) (x : List Int × Bool) : gAnsL a (gotB x.1 x.2) = giveA a x := by
  obtain ⟨y, b⟩ := x
  cases b <;> rfl
end
end Go.Proofs.YtimmjimeldejjaaGreatDoor
namespace Go.Proofs.YtimmjimeldejjaaGreatDoor
section
open Go.RowKit
set_option linter.unusedVariables false
set_option linter.unusedSimpArgs false
set_option maxRecDepth 20000

theorem resStr_any (pn pw : Addr) (v : Value) (b : Bool) (w : World) (hd : DkOk w pn pw) :
    Calls Tryz.prog 157 #[v, .bool b] w fun e w' => e = .returned (.tuple #[v, errB pn b]) ∧ Below w.heap.size w w' := by
  have h1 := hd.no
  have hb0 := Below.refl w.heap.size w
  clear hd
  cases b
  · go_enter Tryz.func157, Tryz.ntmps157
    go_wp2
    go_quiet (fail)
    go_wp2
    go_ret2
    exact ⟨rfl, belowDrewN hb0 _⟩
  · go_enter Tryz.func157, Tryz.ntmps157
    go_wp2
    go_ret2
    exact ⟨rfl, hb0⟩
theorem resList_any (pn pw : Addr) (v : Value) (b : Bool) (w : World) (hd : DkOk w pn pw) :
    Calls Tryz.prog 158 #[v, .bool b] w fun e w' => e = .returned (.tuple #[v, errB pn b]) ∧ Below w.heap.size w w' := by
  have h1 := hd.no
  have hb0 := Below.refl w.heap.size w
  clear hd
  cases b
  · go_enter Tryz.func158, Tryz.ntmps158
    go_wp2
    go_quiet (fail)
    go_wp2
    go_ret2
    exact ⟨rfl, belowDrewN hb0 _⟩
  · go_enter Tryz.func158, Tryz.ntmps158
    go_wp2
    go_ret2
    exact ⟨rfl, hb0⟩
theorem resInt_any (pn pw : Addr) (v : Value) (b : Bool) (w : World) (hd : DkOk w pn pw) :
    Calls Tryz.prog 163 #[v, .bool b] w fun e w' => e = .returned (.tuple #[v, errB pn b]) ∧ Below w.heap.size w w' := by
  have h1 := hd.no
  have hb0 := Below.refl w.heap.size w
  clear hd
  cases b
  · go_enter Tryz.func163, Tryz.ntmps163
    go_wp2
    go_quiet (fail)
    go_wp2
    go_ret2
    exact ⟨rfl, belowDrewN hb0 _⟩
  · go_enter Tryz.func163, Tryz.ntmps163
    go_wp2
    go_ret2
    exact ⟨rfl, hb0⟩
theorem wordB_nat {x : Int} (h : 0 ≤ x) : wordB x = ⟨(Lib.decDigits x.toNat).toArray⟩ := by
  unfold wordB; rw [itoa_dd h]; rfl
theorem bytes_same {s : ByteArray} {l : List UInt8} (h : l = s.data.toList) : (⟨l.toArray⟩ : ByteArray) = s := by
  subst h; rfl
/-- the walk's equality of two texts -/
theorem str_eqT (s t : ByteArray) (h : s = t) : (s.toList == t.toList) = true := by subst h; simp
theorem str_eqF (s t : ByteArray) (h : s ≠ t) : (s.toList == t.toList) = false := by
  rw [beq_eq_false_iff_ne, ByteArray.toList_eq, ByteArray.toList_eq]
  exact fun e => h (ByteArray.ext (Array.toList_inj.1 e))
set_option maxHeartbeats 1600000 in
theorem parseNumber_any (s : ByteArray) (w : World) (hs : s.size ≤ 1048576) (hL : LibOk w) :
    Calls Tryz.prog 98 #[.string s] w fun e w' => ∃ x, e = .returned (.tuple #[.int .i64 x, .bool (mNum s.data.toList).2]) ∧ ((mNum s.data.toList).2 = true → x = (mNum s.data.toList).1) ∧ Below w.heap.size w w' := by
  have hcon := atoi_any s w hs hL
  unfold mNum
  simp only
  rcases read_cases s.data.toList with ⟨h0, hA, h9, hD⟩ | ⟨hno, hD⟩
  · rw [decide_eq_true h0]
    have hcon2 := hcon.mono (R' := fun e w1 => e = .returned (.tuple #[.int .i64 (readL s.data.toList), .nilIface]) ∧ Below w.heap.size w w1) (fun e w1 ⟨h, hb⟩ => by
      rcases h with ⟨v, e1, e2⟩ | ⟨e1, _⟩
      · rw [hA] at e1
        cases e1
        exact ⟨e2, hb⟩
      · exact absurd hA (e1 _))
    generalize hx : readL s.data.toList = x at *
    have hin := fun W => inRange_yes x 999999 W ⟨h0, h9⟩
    have hw : wordB x = s := by rw [wordB_nat h0]; exact bytes_same hD
    have hit := fun W (hb : Below w.heap.size w W) => itoa_ok w x (by omega) (by omega) hL W hb
    rw [hw] at hit
    have heq := str_eqT s s rfl
    clear hcon hA hD hw
    have Hcon2 := Lib.hid hcon2; clear hcon2
    have Hin := Lib.hid hin; clear hin
    have Hit := Lib.hid hit; clear hit
    have Hx := Lib.hid hx; clear hx
    have H0 := Lib.hid h0; clear h0
    have H9 := Lib.hid h9; clear h9
    go_enter Tryz.func98, Tryz.ntmps98
    go_wp2_with fail
    with_reducible refine (Hcon2.out).mono ?_
    rintro e w1 ⟨rfl, hb1⟩
    go_wp2_with fail
    with_reducible refine (Hin.out _).mono ?_
    rintro e w2 ⟨rfl, rfl⟩
    go_wp2_with fail
    with_reducible refine (Hit.out _ hb1).mono ?_
    rintro e w3 ⟨rfl, hb3⟩
    have hb := belowTrans hb1 hb3 (Nat.le_refl _)
    go_wp2
    go_ret2
    exact ⟨_, rfl, fun _ => rfl, hb⟩
  · rw [decide_eq_false hno]
    have hb0 := Below.refl w.heap.size w
    have HD := Lib.hid hD; clear hD
    have Hcon := Lib.hid hcon; clear hcon
    go_enter Tryz.func98, Tryz.ntmps98
    go_wp2_with fail
    with_reducible refine (Hcon.out).mono ?_
    rintro e w1 ⟨⟨v, hv, rfl⟩ | ⟨_, x, t, q, rfl⟩, hb1⟩
    · have hbd := Lib.atoiAll_bounds hv
      by_cases hr : 0 ≤ v ∧ v ≤ 999999
      · have hin := fun W => inRange_yes v 999999 W hr
        have hit := itoa_ok w v hbd.1 hbd.2 hL w1 hb1
        have hne : wordB v ≠ s := fun e => HD.out v hr.1 hr.2 (by rw [← e, wordB_nat hr.1])
        generalize wordB v = u at hit hne
        have heq := str_eqF u s hne
        clear hbd hv
        have Hin := Lib.hid hin; clear hin
        have Hit := Lib.hid hit; clear hit
        have Hne := Lib.hid hne; clear hne
        have Hr := Lib.hid hr; clear hr
        go_wp2_with fail
        with_reducible refine (Hin.out _).mono ?_
        rintro e w2 ⟨rfl, rfl⟩
        go_wp2_with fail
        with_reducible refine (Hit.out).mono ?_
        rintro e w3 ⟨rfl, hb3⟩
        have hb := belowTrans hb1 hb3 (Nat.le_refl _)
        go_wp2
        go_ret2
        exact ⟨_, rfl, fun h => (by cases h), hb⟩
      · have hin := fun W => inRange_no v 999999 W hr
        clear hbd hv
        have Hin := Lib.hid hin; clear hin
        have Hr := Lib.hid hr; clear hr
        go_wp2_with fail
        with_reducible refine (Hin.out _).mono ?_
        rintro e w2 ⟨rfl, rfl⟩
        go_wp2
        go_ret2
        exact ⟨_, rfl, fun h => (by cases h), hb1⟩
    · go_wp2
      go_ret2
      exact ⟨_, rfl, fun h => (by cases h), hb1⟩
theorem onlyPiles_any (v : Value) (w : World) :
    Calls Tryz.prog 95 #[v] w fun e w' => e = .returned (.tuple #[v, .bool true]) ∧ w = w' := by
  go_enter Tryz.func95, Tryz.ntmps95
  go_wp2
  go_ret2
  exact ⟨rfl, rfl⟩
theorem inDecimal_any (pn pw : Addr) (x : Int) (r : Got Int) (w : World) (hb : ∀ y, r = .got y → -9223372036854775808 ≤ y ∧ y ≤ 9223372036854775807) (hx : ∀ y, r = .got y → x = y) (hL : LibOk w) :
    Calls Tryz.prog 107 #[.int .i64 x, errG pn pw r] w fun e w' => TxPost pn pw (dgG r) w e w' := by
  cases r with
  | got y =>
    obtain rfl := hx y rfl
    have hit := itoa_ok w x (hb x rfl).1 (hb x rfl).2 hL w (Below.refl _ _)
    simp only [errG]
    have Hit := Lib.hid hit; clear hit
    go_enter Tryz.func107, Tryz.ntmps107
    go_wp2_with fail
    with_reducible refine (Hit.out).mono ?_
    rintro e w1 ⟨rfl, hb1⟩
    go_wp2
    go_ret2
    exact ⟨_, rfl, fun t ht => (by cases ht; rfl), hb1⟩
  | no =>
    have hb0 := Below.refl w.heap.size w
    simp only [errG, errV]
    go_enter Tryz.func107, Tryz.ntmps107
    go_wp2
    go_ret2
    exact ⟨_, rfl, fun t ht => (by cases ht), hb0⟩
  | what =>
    have hb0 := Below.refl w.heap.size w
    simp only [errG, errV]
    go_enter Tryz.func107, Tryz.ntmps107
    go_wp2
    go_ret2
    exact ⟨_, rfl, fun t ht => (by cases ht), hb0⟩
end
end Go.Proofs.YtimmjimeldejjaaGreatDoor
