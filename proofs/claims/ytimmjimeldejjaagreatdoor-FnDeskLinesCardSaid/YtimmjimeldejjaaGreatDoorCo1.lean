/- Several texts in one: CoM, CoA, CoB. No condition. -/
import Derived.Test.YtimmjimeldejjaaGreatDoorGh
import Derived.Test.YtimmjimeldejjaaGreatDoorGb
import Derived.Test.YtimmjimeldejjaaGreatDoorGi
import Derived.Test.YtimmjimeldejjaaGreatDoorGo
import Derived.Test.YtimmjimeldejjaaGreatDoorGm
import Derived.Test.YtimmjimeldejjaaGreatDoorGt
import Derived.Test.YtimmjimeldejjaaGreatDoorGu
import Derived.Test.YtimmjimeldejjaaGreatDoorGe
import Derived.Test.YtimmjimeldejjaaGreatDoorExA
import Derived.Test.YtimmjimeldejjaaGreatDoorText
import Derived.Test.YtimmjimeldejjaaGreatDoorGk
import Derived.Test.YtimmjimeldejjaaGreatDoorGj
namespace Go.Proofs.YtimmjimeldejjaaGreatDoor
section
set_option linter.unusedVariables false
set_option linter.unusedSimpArgs false

/-- how a line ends: with a text, with no, with what -/
inductive Ans
  | ok (t : List UInt8)
  | no
  | what
def repA : Ans → List UInt8
  | .ok t => t
  | .no => [110, 111]
  | .what => [119, 104, 97, 116]
/-- what the words behind a first word are -/
inductive Kd
  | z | n | nn | p | r | b | q
def kdL : Kd → List UInt8
  | .z => []
  | .n => [110]
  | .nn => [110, 110]
  | .p => [112]
  | .r => [114]
  | .b => [98]
  | .q => [63]
inductive Ord
  | step | side | shown | cards | pasts | tail | length | steps | past | stairs | start | take | sort | row | orbit | bank
  deriving DecidableEq
def wordO : Ord → List UInt8
  | .step => [115, 116, 101, 112]
  | .side => [115, 105, 100, 101]
  | .shown => [115, 104, 111, 119]
  | .cards => [99, 97, 114, 100, 115]
  | .pasts => [112, 97, 115, 116, 115]
  | .tail => [116, 97, 105, 108]
  | .length => [108, 101, 110, 103, 116, 104]
  | .steps => [115, 116, 101, 112, 115]
  | .past => [112, 97, 115, 116]
  | .stairs => [115, 116, 97, 105, 114, 115]
  | .start => [115, 116, 97, 114, 116]
  | .take => [116, 97, 107, 101]
  | .sort => [115, 111, 114, 116]
  | .row => [114, 111, 119]
  | .orbit => [111, 114, 98, 105, 116]
  | .bank => [98, 97, 110, 107]
def allO : List Ord := [.step, .side, .shown, .cards, .pasts, .tail, .length, .steps, .past, .stairs, .start, .take, .sort, .row, .orbit, .bank]
def kdO : Ord → Kd
  | .step => .z
  | .side => .z
  | .shown => .z
  | .cards => .z
  | .pasts => .z
  | .tail => .z
  | .length => .z
  | .steps => .n
  | .past => .n
  | .stairs => .n
  | .start => .nn
  | .take => .p
  | .sort => .r
  | .row => .r
  | .orbit => .r
  | .bank => .b
def ordOf (w : List UInt8) : Option Ord := allO.find? fun o => decide (wordO o = w)
theorem ordOf_word (o : Ord) : ordOf (wordO o) = some o := by cases o <;> decide
theorem ord_cases (w : List UInt8) : (∃ o, w = wordO o ∧ ordOf w = some o) ∨ ((∀ o, w ≠ wordO o) ∧ ordOf w = none) := by
  by_cases h : ∃ o, w = wordO o
  · obtain ⟨o, rfl⟩ := h
    exact .inl ⟨o, rfl, ordOf_word o⟩
  · refine .inr ⟨fun o e => h ⟨o, e⟩, ?_⟩
    unfold ordOf
    rw [List.find?_eq_none]
    intro o _
    simp only [decide_eq_true_eq]
    exact fun e => h ⟨o, e.symm⟩
def kdW (w : List UInt8) : Kd := match ordOf w with
  | none => .q
  | some o => kdO o
theorem kdW_word (o : Ord) : kdW (wordO o) = kdO o := by unfold kdW; rw [ordOf_word]
/-- what has been read -/
structure Ln where
  list : List Int
  bank : Bk
  n : List Int
def readK : Kd → List (List UInt8) → Option Ln
  | .z, [] => some ⟨[], noBk, []⟩
  | .n, [t] => if 0 ≤ readL t then some ⟨[], noBk, [readL t]⟩ else none
  | .nn, [t, u] => if 0 ≤ readL t ∧ 0 ≤ readL u then some ⟨[], noBk, [readL t, readL u]⟩ else none
  | .p, [t] => if (mParsePiles ⟨t.toArray⟩).2 = true then some ⟨(mParsePiles ⟨t.toArray⟩).1, noBk, []⟩ else none
  | .r, [t] => if (mParseRow ⟨t.toArray⟩).2 = true then some ⟨(mParseRow ⟨t.toArray⟩).1, noBk, []⟩ else none
  | .b, [t] => if (mParseBank ⟨t.toArray⟩).2 = true then some ⟨[], (mParseBank ⟨t.toArray⟩).1, []⟩ else none
  | _, _ => none
/-- piles that are put in the place of others -/
def giveA (a : List Int) (x : List Int × Bool) : List Int × Ans := if x.2 = true then (x.1, .ok (textL x.1)) else (a, .no)
def numA (a : List Int) (x : Int × Bool) : List Int × Ans := if x.2 = true then (a, .ok (dd x.1)) else (a, .no)
def movesO : Ord → Bool
  | .take => true
  | .step => true
  | .steps => true
  | .side => true
  | .past => true
  | .stairs => true
  | .sort => true
  | _ => false
def runO (a : List Int) (l : Ln) : Ord → List Int × Ans
  | .take => giveA a (l.list, true)
  | .step => giveA a (mStepPiles a)
  | .steps => giveA a (mStepsFrom a (l.n.getD 0 0))
  | .side => giveA a (mSideOf a)
  | .past => giveA a (mPastBy a (l.n.getD 0 0))
  | .stairs => giveA a (mStaircase (l.n.getD 0 0))
  | .sort => giveA a (mSortRow l.list)
  | .shown => (a, .ok (textL a))
  | .cards => numA a (mCardsOf a)
  | .pasts => numA a (mPastCount a)
  | .tail => numA a (mTailOf a)
  | .length => numA a (mCycleLength a)
  | .row => (a, .ok (textW (rowStepL l.list)))
  | .orbit => if (mRowOrbit l.list).2.2 = true then (a, .ok (dd (mRowOrbit l.list).1 ++ [32] ++ dd (mRowOrbit l.list).2.1)) else (a, .no)
  | .bank => (a, .ok (bankL (stepB l.bank)))
  | .start => if (mStartBank (l.n.getD 0 0) (l.n.getD 1 0)).2 = true then (a, .ok (bankL (mStartBank (l.n.getD 0 0) (l.n.getD 1 0)).1)) else (a, .no)
/-- a line's words -/
def wordsA (a : List Int) : List (List UInt8) → List Int × Ans
  | [] => (a, .what)
  | w :: r => match ordOf w with
    | none => (a, .what)
    | some o => match readK (kdO o) r with
      | none => (a, .what)
      | some l => runO a l o
def lineA (a : List Int) (s : List UInt8) : List Int × Ans := wordsA a (splitL 32 s)
/-! ### What is kept -/
def LnOk (l : Ln) : Prop := l.list.length ≤ 28 ∧ l.bank.p.length ≤ 28 ∧ l.n.length ≤ 2
theorem sort_goodC {xs : List Int} (h : RowOk xs) : Good (sortD xs) :=
  ⟨fun x hx => h.1 x ((sortD_perm xs).mem_iff.1 hx), sortD_sorted xs, by
    have : (sortD xs).sum = xs.sum := perm_sum (sortD_perm xs)
    rw [this]; exact h.2⟩
theorem parseP_good {s : ByteArray} (h : (mParsePiles s).2 = true) : Good (mParsePiles s).1 := by
  unfold mParsePiles at h ⊢
  split at h
  · next e => rw [if_pos e]; exact good_nil
  · next e =>
    rw [if_neg e]
    split at h
    · next g => rw [if_pos g]; exact good_iff.1 g
    · cases h
theorem parseR_ok {s : ByteArray} (h : (mParseRow s).2 = true) : RowOk (mParseRow s).1 := by
  unfold mParseRow at h ⊢
  split at h
  · next e => rw [if_pos e]; exact row_nil
  · next e =>
    rw [if_neg e]
    split at h
    · next g => rw [if_pos g]; exact row_iff.1 g
    · cases h
theorem parseB_ok {s : ByteArray} (h : (mParseBank s).2 = true) : BankOk (mParseBank s).1 := by
  by_cases q : ∃ b, BankOk b ∧ bankL b = s.data.toList
  · obtain ⟨b, h1, h2⟩ := q
    rw [mPB_yes h1 h2]; exact h1
  · rw [mPB_no (fun b h1 h2 => q ⟨b, h1, h2⟩)] at h
    cases h
theorem stairs_goodC {k : Int} (h : (mStaircase k).2 = true) : Good (mStaircase k).1 := by
  unfold mStaircase at h ⊢
  split at h
  · next e =>
    rw [if_pos e]
    have : k.toNat < 8 := by omega
    have hall : ∀ i : Fin 8, Good (stairs i.val) := by decide +kernel
    exact hall ⟨k.toNat, this⟩
  · cases h
theorem give_good {a : List Int} {x : List Int × Bool} (ha : Good a) (h : x.2 = true → Good x.1) : Good (giveA a x).1 := by
  unfold giveA
  split
  · next e => exact h e
  · exact ha
/-- what a kind's words must be -/
def KdOk : Kd → Ln → Prop
  | .n, l => ∃ x, 0 ≤ x ∧ l.n = [x]
  | .nn, l => ∃ x y, 0 ≤ x ∧ 0 ≤ y ∧ l.n = [x, y]
  | .p, l => Good l.list
  | .r, l => RowOk l.list
  | .b, l => BankOk l.bank
  | _, _ => True
theorem read_ok {k : Kd} {r : List (List UInt8)} {l : Ln} (h : readK k r = some l) : KdOk k l := by
  cases k with
  | z => trivial
  | n =>
    match r, h with
    | [t], h =>
      simp only [readK] at h
      split at h
      · next e => cases h; exact ⟨_, e, rfl⟩
      · cases h
  | nn =>
    match r, h with
    | [t, u], h =>
      simp only [readK] at h
      split at h
      · next e => cases h; exact ⟨_, _, e.1, e.2, rfl⟩
      · cases h
  | q => trivial
  | p =>
    match r, h with
    | [t], h =>
      simp only [readK] at h
      split at h
      · next e => cases h; exact parseP_good e
      · cases h
  | r =>
    match r, h with
    | [t], h =>
      simp only [readK] at h
      split at h
      · next e => cases h; exact parseR_ok e
      · cases h
  | b =>
    match r, h with
    | [t], h =>
      simp only [readK] at h
      split at h
      · next e => cases h; exact parseB_ok e
      · cases h
theorem run_good {a : List Int} {o : Ord} {l : Ln} (ha : Good a) (hl : KdOk (kdO o) l) : Good (runO a l o).1 := by
  have hgb := good_iff.2 ha
  cases o with
  | take => exact give_good ha fun _ => hl
  | step => exact give_good ha fun _ => by unfold mStepPiles; rw [hgb]; exact stepL_good ha
  | steps =>
    exact give_good ha fun h => by
      unfold mStepsFrom at h ⊢
      split at h
      · next e => rw [if_pos e]; exact stepsL_good ha _
      · cases h
  | side => exact give_good ha fun _ => by unfold mSideOf; rw [hgb]; exact side_good ha
  | past =>
    exact give_good ha fun h => by
      rw [mPastBy_yes hgb] at h ⊢
      unfold mPast at h ⊢
      split at h
      · next e => rw [if_pos e]; exact past_good ha _ e.1 e.2
      · cases h
  | stairs => exact give_good ha fun h => stairs_goodC h
  | sort =>
    exact give_good ha fun _ => by
      rw [mSortR_yes (row_iff.2 hl)]; exact sort_goodC hl
  | orbit => simp only [runO]; split <;> exact ha
  | start => simp only [runO]; split <;> exact ha
  | cards => show Good (numA _ _).1; unfold numA; split <;> exact ha
  | pasts => show Good (numA _ _).1; unfold numA; split <;> exact ha
  | tail => show Good (numA _ _).1; unfold numA; split <;> exact ha
  | length => show Good (numA _ _).1; unfold numA; split <;> exact ha
  | shown => exact ha
  | row => exact ha
  | bank => exact ha
theorem words_good {a : List Int} (ha : Good a) (ws : List (List UInt8)) : Good (wordsA a ws).1 := by
  cases ws with
  | nil => exact ha
  | cons w r =>
    show Good (match ordOf w with | none => (a, Ans.what) | some o => match readK (kdO o) r with | none => (a, Ans.what) | some l => runO a l o).1
    cases ordOf w with
    | none => exact ha
    | some o =>
      cases h : readK (kdO o) r with
      | none => simp only [h]; exact ha
      | some l => simp only [h]; exact run_good ha (read_ok h)
/-- what a line that is not executed does not change -/
theorem give_keep {a : List Int} {x : List Int × Bool} (h : ∀ t, (giveA a x).2 ≠ .ok t) : (giveA a x).1 = a := by
  unfold giveA at h ⊢
  split
  · next e => rw [if_pos e] at h; exact absurd rfl (h _)
  · rfl
end
end Go.Proofs.YtimmjimeldejjaaGreatDoor
namespace Go.Proofs.YtimmjimeldejjaaGreatDoor
section
open Go.RowKit
set_option linter.unusedVariables false
set_option linter.unusedSimpArgs false

set_option maxHeartbeats 1600000 in
theorem coShape_ord (o : Ord) (w : World) :
    Calls Tryz.prog 121 #[.string ⟨(wordO o).toArray⟩] w fun e w' => e = .returned (.string ⟨(kdL (kdO o)).toArray⟩) ∧ w = w' := by
  cases o
  all_goals
    go_enter Tryz.func121, Tryz.ntmps121
    go_wp2
    go_ret
    exact ⟨rfl, rfl⟩
set_option maxHeartbeats 1600000 in
theorem coShape_none (v : List UInt8) (h : ∀ o, v ≠ wordO o) (w : World) :
    Calls Tryz.prog 121 #[.string ⟨v.toArray⟩] w fun e w' => e = .returned (.string ⟨#[63]⟩) ∧ w = w' := by
  have h1 := bytes_ne (s := ⟨v.toArray⟩) (h .step)
  have h2 := bytes_ne (s := ⟨v.toArray⟩) (h .side)
  have h3 := bytes_ne (s := ⟨v.toArray⟩) (h .shown)
  have h4 := bytes_ne (s := ⟨v.toArray⟩) (h .cards)
  have h5 := bytes_ne (s := ⟨v.toArray⟩) (h .pasts)
  have h6 := bytes_ne (s := ⟨v.toArray⟩) (h .tail)
  have h7 := bytes_ne (s := ⟨v.toArray⟩) (h .length)
  have h8 := bytes_ne (s := ⟨v.toArray⟩) (h .steps)
  have h9 := bytes_ne (s := ⟨v.toArray⟩) (h .past)
  have h10 := bytes_ne (s := ⟨v.toArray⟩) (h .stairs)
  have h11 := bytes_ne (s := ⟨v.toArray⟩) (h .start)
  have h12 := bytes_ne (s := ⟨v.toArray⟩) (h .take)
  have h13 := bytes_ne (s := ⟨v.toArray⟩) (h .sort)
  have h14 := bytes_ne (s := ⟨v.toArray⟩) (h .row)
  have h15 := bytes_ne (s := ⟨v.toArray⟩) (h .orbit)
  have h16 := bytes_ne (s := ⟨v.toArray⟩) (h .bank)
  simp only [wordO] at h1 h2 h3 h4 h5 h6 h7 h8 h9 h10 h11 h12 h13 h14 h15 h16
  generalize (⟨v.toArray⟩ : ByteArray) = s at *
  clear h
  go_enter Tryz.func121, Tryz.ntmps121
  go_wp2
  go_ret
  exact ⟨rfl, rfl⟩
theorem coShape_any (v : List UInt8) (w : World) :
    Calls Tryz.prog 121 #[.string ⟨v.toArray⟩] w fun e w' => e = .returned (.string ⟨(kdL (kdW v)).toArray⟩) ∧ w = w' := by
  rcases ord_cases v with ⟨o, rfl, ho⟩ | ⟨h, ho⟩
  · rw [kdW_word]; exact coShape_ord o w
  · have e : kdW v = .q := by unfold kdW; rw [ho]
    rw [e]; exact coShape_none v h w
theorem coNumber_no (n : Int) (w : World) :
    Calls Tryz.prog 133 #[.int .i64 n, .bool false] w fun e w' => e = .returned (.string ⟨#[110, 111]⟩) ∧ Below w.heap.size w w' := by
  go_enter Tryz.func133, Tryz.ntmps133
  go_wp2
  go_ret
  exact ⟨rfl, Below.refl _ _⟩
theorem coNumber_yes (n : Nat) (w : World) (hn : n ≤ 999999999) :
    Calls Tryz.prog 133 #[.int .i64 n, .bool true] w fun e w' => e = .returned (.string ⟨(Lib.decDigits n).toArray⟩) ∧ Below w.heap.size w w' := by
  have hcon := l1Num_any n n w (Nat.le_refl _) hn
  have Hcon := Lib.hid hcon; clear hcon
  go_enter Tryz.func133, Tryz.ntmps133
  go_wp2_with fail
  with_reducible refine (Hcon.out).mono ?_
  rintro e w' ⟨rfl, hb⟩
  go_wp2
  go_ret
  exact ⟨rfl, hb⟩
end
end Go.Proofs.YtimmjimeldejjaaGreatDoor
namespace Go.Proofs.YtimmjimeldejjaaGreatDoor
section
open Go.RowKit
set_option linter.unusedVariables false
set_option linter.unusedSimpArgs false
set_option maxRecDepth 20000

theorem sizeStrW (w : World) : (sizeOf (Tryz.prog.elem 38)).run Tryz.prog w = .ok 1 w := by kernel_rfl
theorem slFromW {ao n cap} (w0 : World) (vs : List Value) (h : ValsAt w0 ao n cap vs) (lo : Nat) (hlo : lo ≤ n) (k : IntKind) : ∃ a2, (∀ w : World, (Instr.sliceAt 38 (.slice ao n cap) (some (.int k (lo : Int))) none none).run Tryz.prog w = .ok (.slice a2 (n - lo) (cap - lo)) w) ∧ ValsAt w0 a2 (n - lo) (cap - lo) (vs.drop lo) := by
  refine ⟨if cap = lo then ao else ao.map (·.add (lo * 1)), fun w => ?_, h.drop lo hlo⟩
  have hrun := run_slice_l (P := Tryz.prog) (w := w) 38 ao n cap Tryz.underlying38 k (lo : Int) (by omega) (by omega)
  rw [sizeStrW] at hrun
  rw [run_sliceAt_slice _ _ _ _ _ _ Tryz.underlying38, hrun]
  simp [Result.andThen, sliced]
/-- a word of a list of words -/
theorem wordAt {w ao n cap O} (h : ValsAt w ao n cap (strVs O)) {k : Nat} (hk : k < n) : ∃ b o, ao = some ⟨b, o, none⟩ ∧ w.cell? ⟨b, o + k, none⟩ = some (.string ⟨(O.getD k []).toArray⟩) := by
  obtain ⟨b, o, e, _, hc⟩ := h.cell k hk
  have hl := h.length
  simp only [strVs, List.length_map] at hl
  refine ⟨b, o, e, ?_⟩
  rw [hc k hk, List.getD_eq_getElem?_getD, List.getD_eq_getElem?_getD, strVs, List.getElem?_map, List.getElem?_eq_getElem (by omega)]
  rfl
/-- a line's block, cell by cell -/
def LnB (w : World) (g : Nat) (pa : Option Addr) (pn pc : Nat) (la : Option Addr) (ln lc : Nat) (bh bl : Int) (ba : Option Addr) (bn bc : Nat) (na : Option Addr) (nn nc : Nat) (ty : TypeId) : Prop :=
  w.heap[g]? = some (.cells #[.slice pa pn pc, .slice la ln lc, .int .i64 bh, .int .i64 bl, .slice ba bn bc, .slice na nn nc] ty (0, 0))
section
variable {w w' : World} {g : Nat} {pa : Option Addr} {pn pc : Nat} {la : Option Addr} {ln lc : Nat} {bh bl : Int} {ba : Option Addr} {bn bc : Nat} {na : Option Addr} {nn nc : Nat} {ty : TypeId}
theorem LnB.cells (hh : LnB w g pa pn pc la ln lc bh bl ba bn bc na nn nc ty) :
    (w.cell? ⟨g, 0, none⟩ = some (.slice pa pn pc) ∧ w.cell? ⟨g, 1, none⟩ = some (.slice la ln lc) ∧ w.cell? ⟨g, 2, none⟩ = some (.int .i64 bh) ∧ w.cell? ⟨g, 3, none⟩ = some (.int .i64 bl) ∧ w.cell? ⟨g, 4, none⟩ = some (.slice ba bn bc) ∧ w.cell? ⟨g, 5, none⟩ = some (.slice na nn nc)) ∧
    w.frozen? ⟨g, 0, none⟩ = false ∧ w.frozen? ⟨g, 1, none⟩ = false ∧ w.frozen? ⟨g, 2, none⟩ = false ∧ w.frozen? ⟨g, 3, none⟩ = false ∧ w.frozen? ⟨g, 4, none⟩ = false ∧ w.frozen? ⟨g, 5, none⟩ = false := by
  unfold LnB at hh
  exact ⟨⟨(cellOfB hh 0 _ rfl).1, (cellOfB hh 1 _ rfl).1, (cellOfB hh 2 _ rfl).1, (cellOfB hh 3 _ rfl).1, (cellOfB hh 4 _ rfl).1, (cellOfB hh 5 _ rfl).1⟩, (cellOfB hh 0 _ rfl).2, (cellOfB hh 1 _ rfl).2, (cellOfB hh 2 _ rfl).2, (cellOfB hh 3 _ rfl).2, (cellOfB hh 4 _ rfl).2, (cellOfB hh 5 _ rfl).2⟩
theorem LnB.size (hh : LnB w g pa pn pc la ln lc bh bl ba bn bc na nn nc ty) : g < w.heap.size := (Array.getElem?_eq_some_iff.1 hh).1
theorem LnB.keep (hh : LnB w g pa pn pc la ln lc bh bl ba bn bc na nn nc ty) (hb : Below w.heap.size w w') : LnB w' g pa pn pc la ln lc bh bl ba bn bc na nn nc ty := (keepAt hb hh.size).trans hh
theorem LnB.chg {S : Nat → Prop} (hh : LnB w g pa pn pc la ln lc bh bl ba bn bc na nn nc ty) (hc : Chg S w w') (hs : ¬ S g) : LnB w' g pa pn pc la ln lc bh bl ba bn bc na nn nc ty := (hc.block g hh.size hs).trans hh
theorem LnB.drew (hh : LnB w g pa pn pc la ln lc bh bl ba bn bc na nn nc ty) : LnB w.drew g pa pn pc la ln lc bh bl ba bn bc na nn nc ty := hh
theorem LnB.setP (hh : LnB w g pa pn pc la ln lc bh bl ba bn bc na nn nc ty) (a : Option Addr) (n c : Nat) : LnB (w.setCell ⟨g, 0, none⟩ (.slice a n c)) g a n c la ln lc bh bl ba bn bc na nn nc ty := by
  have := heap_setCell_same w g 0 _ _ (.slice a n c) hh
  unfold LnB
  rw [this]; rfl
theorem LnB.setL (hh : LnB w g pa pn pc la ln lc bh bl ba bn bc na nn nc ty) (a : Option Addr) (n c : Nat) : LnB (w.setCell ⟨g, 1, none⟩ (.slice a n c)) g pa pn pc a n c bh bl ba bn bc na nn nc ty := by
  have := heap_setCell_same w g 1 _ _ (.slice a n c) hh
  unfold LnB
  rw [this]; rfl
theorem LnB.setN (hh : LnB w g pa pn pc la ln lc bh bl ba bn bc na nn nc ty) (a : Option Addr) (n c : Nat) : LnB (w.setCell ⟨g, 5, none⟩ (.slice a n c)) g pa pn pc la ln lc bh bl ba bn bc a n c ty := by
  have := heap_setCell_same w g 5 _ _ (.slice a n c) hh
  unfold LnB
  rw [this]; rfl
theorem LnB.setB (hh : LnB w g pa pn pc la ln lc bh bl ba bn bc na nn nc ty) (h l : Int) (a : Option Addr) (n c : Nat) : LnB (((w.setCell ⟨g, 2, none⟩ (.int .i64 h)).setCell ⟨g, 3, none⟩ (.int .i64 l)).setCell ⟨g, 4, none⟩ (.slice a n c)) g pa pn pc la ln lc h l a n c na nn nc ty := by
  have e1 := heap_setCell_same w g 2 _ _ (.int .i64 h) hh
  have e2 := heap_setCell_same _ g 3 _ _ (.int .i64 l) e1
  have e3 := heap_setCell_same _ g 4 _ _ (.slice a n c) e2
  unfold LnB
  rw [e3]; rfl
end
theorem LnB.new (w : World) (pa : Option Addr) (pn pc : Nat) (la : Option Addr) (ln lc : Nat) (bh bl : Int) (ba : Option Addr) (bn bc : Nat) (na : Option Addr) (nn nc : Nat) (ty : TypeId) :
    LnB (w.alloc (.cells #[.slice pa pn pc, .slice la ln lc, .int .i64 bh, .int .i64 bl, .slice ba bn bc, .slice na nn nc] ty)) w.heap.size pa pn pc la ln lc bh bl ba bn bc na nn nc ty := allocNew w _
/-- the block of a result and the block of a line -/
theorem twoLn (w : World) (pa : Option Addr) (pn pc : Nat) :
    Below w.heap.size w ((w.alloc (.cells #[.slice none 0 0, .slice none 0 0, .int .i64 0, .int .i64 0, .slice none 0 0, .slice none 0 0] 96)).alloc (.cells #[.slice pa pn pc, .slice none 0 0, .int .i64 0, .int .i64 0, .slice none 0 0, .slice none 0 0] 96)) ∧
    LnB ((w.alloc (.cells #[.slice none 0 0, .slice none 0 0, .int .i64 0, .int .i64 0, .slice none 0 0, .slice none 0 0] 96)).alloc (.cells #[.slice pa pn pc, .slice none 0 0, .int .i64 0, .int .i64 0, .slice none 0 0, .slice none 0 0] 96)) w.heap.size none 0 0 none 0 0 0 0 none 0 0 none 0 0 96 ∧
    LnB ((w.alloc (.cells #[.slice none 0 0, .slice none 0 0, .int .i64 0, .int .i64 0, .slice none 0 0, .slice none 0 0] 96)).alloc (.cells #[.slice pa pn pc, .slice none 0 0, .int .i64 0, .int .i64 0, .slice none 0 0, .slice none 0 0] 96)) (w.heap.size + 1) pa pn pc none 0 0 0 0 none 0 0 none 0 0 96 := by
  have hb1 := belowAlloc w (.cells #[.slice none 0 0, .slice none 0 0, .int .i64 0, .int .i64 0, .slice none 0 0, .slice none 0 0] 96)
  have hbn := belowAlloc (w.alloc (.cells #[.slice none 0 0, .slice none 0 0, .int .i64 0, .int .i64 0, .slice none 0 0, .slice none 0 0] 96)) (.cells #[.slice pa pn pc, .slice none 0 0, .int .i64 0, .int .i64 0, .slice none 0 0, .slice none 0 0] 96)
  have m1 := LnB.new (w.alloc (.cells #[.slice none 0 0, .slice none 0 0, .int .i64 0, .int .i64 0, .slice none 0 0, .slice none 0 0] 96)) pa pn pc none 0 0 0 0 none 0 0 none 0 0 96
  rw [show (w.alloc (.cells #[.slice none 0 0, .slice none 0 0, .int .i64 0, .int .i64 0, .slice none 0 0, .slice none 0 0] 96)).heap.size = w.heap.size + 1 by simp] at m1
  exact ⟨belowTrans hb1 hbn (Nat.le_refl _), (LnB.new w none 0 0 none 0 0 0 0 none 0 0 none 0 0 96).keep hbn, m1⟩
/-- what has been read behind k words -/
def stK (K : Kd) (r : List (List UInt8)) : Nat → Option Ln
  | 0 => some ⟨[], noBk, []⟩
  | k + 1 => match K, k with
    | .nn, 0 => if 0 ≤ readL (r.getD 0 []) then some ⟨[], noBk, [readL (r.getD 0 [])]⟩ else none
    | K, _ => readK K r
end
end Go.Proofs.YtimmjimeldejjaaGreatDoor
