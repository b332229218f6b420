/- Several texts in one: DkB, DkN, DkY. No condition. -/
import Derived.Test.YtimmjimeldejjaaGreatDoorDk0
import Derived.Test.YtimmjimeldejjaaGreatDoorGr
import Derived.Test.YtimmjimeldejjaaGreatDoorGt
import Derived.Test.YtimmjimeldejjaaGreatDoorGu
import Derived.Test.YtimmjimeldejjaaGreatDoorGe
import Derived.Test.YtimmjimeldejjaaGreatDoorCo1
namespace Go.Proofs.YtimmjimeldejjaaGreatDoor
section
open Go.RowKit
set_option linter.unusedVariables false
set_option linter.unusedSimpArgs false
set_option maxRecDepth 20000

/-- what is asked of rows, bank states, numbers -/
def cRow (xs : List Int) : List UInt8 × Bool := (textW (rowStepL xs), true)
def cOrb (xs : List Int) : List UInt8 × Bool := (dd (mRowOrbit xs).1 ++ [32] ++ dd (mRowOrbit xs).2.1, (mRowOrbit xs).2.2)
def cBnk (b : Bk) : List UInt8 × Bool := (bankL (stepB b), true)
def cStart (x y : Int) : List UInt8 × Bool := (bankL (mStartBank x y).1, (mStartBank x y).2)
theorem rowBehind_any (ao : Option Addr) (n cap : Nat) (xs : List Int) (w : World) (h : IntsAt w ao n cap xs) (hr : RowOk xs) :
    Calls Tryz.prog 113 #[.slice ao n cap] w fun e w' => e = .returned (.tuple #[.string ⟨(cRow xs).1.toArray⟩, .bool (cRow xs).2]) ∧ Below w.heap.size w w' := by
  have hcon := impl_StepRow ao n cap xs w h
  have e1 : mStepRow xs = (rowStepL xs, true) := mStepRow_yes (row_iff.2 hr)
  rw [e1] at hcon
  have hr2 := rowStepL_row hr
  have htx := fun a n c W q => impl_RowText a n c (rowStepL xs) W q
  have e2 : mRowText (rowStepL xs) = (textW (rowStepL xs), true) := mRText_yes (row_iff.2 hr2)
  rw [e2] at htx
  unfold cRow
  clear e1 e2 hr hr2
  have Hcon := Lib.hid hcon; clear hcon
  have Htx := Lib.hid htx; clear htx
  go_enter Tryz.func113, Tryz.ntmps113
  go_wp2_with fail
  with_reducible refine (Hcon.out).mono ?_
  rintro e w1 ⟨a1, n1, c1, rfl, ho1, hb1⟩
  go_wp2_with fail
  with_reducible refine (Htx.out _ _ _ _ ho1.at).mono ?_
  rintro e w2 ⟨rfl, hb2⟩
  have hb := belowTrans hb1 hb2 (Nat.le_refl _)
  go_wp2
  go_ret2
  exact ⟨rfl, hb⟩
theorem jn_orb {T L : Nat} : jnL 32 [] [(T : Int), (L : Int)] = dd (T : Int) ++ [32] ++ dd (L : Int) := by
  rw [jnL_cons (by simp)]
  simp [Lib.join, Lib.joinTail, itoa_dd (Int.natCast_nonneg T), itoa_dd (Int.natCast_nonneg L)]
theorem orbitText_any (ao : Option Addr) (n cap : Nat) (xs : List Int) (w : World) (h : IntsAt w ao n cap xs) (hL : LibOk w) :
    Calls Tryz.prog 114 #[.slice ao n cap] w fun e w' => ∃ s : ByteArray, e = .returned (.tuple #[.string s, .bool (cOrb xs).2]) ∧ ((cOrb xs).2 = true → s = ⟨(cOrb xs).1.toArray⟩) ∧ Below w.heap.size w w' := by
  have hcon := impl_RowOrbit ao n cap xs w h
  unfold cOrb
  rcases orb_nat xs with ⟨T, L, hT, hL2, hx⟩ | hx
  · rw [hx] at hcon ⊢
    simp only at hcon ⊢
    rw [← jn_orb]
    have hmem : ∀ x ∈ [(T : Int), (L : Int)], -9223372036854775808 ≤ x ∧ x ≤ 9223372036854775807 := fun x hx => by
      simp only [List.mem_cons, List.mem_nil_iff, or_false] at hx
      rcases hx with rfl | rfl <;> omega
    have hj := fun a c W (q : IntsAt W a 2 c [(T : Int), (L : Int)]) (k : LibOk W) => joinNumbers_any a 2 c [(T : Int), (L : Int)] 32 [] W q (by omega) (fun x hx => itoa_ok W x (hmem x hx).1 (hmem x hx).2 k) (fun x hx => Lib.itoa_length_le x (hmem x hx).1 (hmem x hx).2)
    change ∀ a c W, IntsAt W a 2 c [(T : Int), (L : Int)] → LibOk W → Calls Tryz.prog 45 #[.slice a 2 c, .string ⟨#[32]⟩, .string ⟨#[]⟩] W _ at hj
    generalize jnL 32 [] [(T : Int), (L : Int)] = J at *
    clear hx hT hL2 hmem
    have Hcon := Lib.hid hcon; clear hcon
    have Hj := Lib.hid hj; clear hj
    go_enter Tryz.func114, Tryz.ntmps114
    go_wp2_with fail
    with_reducible refine (Hcon.out).mono ?_
    rintro e w1 ⟨rfl, hb1⟩
    have hbB := belowAlloc w1 (.cells #[.int .i64 (T : Int), .int .i64 (L : Int)] 3)
    have ho : Own w1.heap.size (w1.alloc (.cells #[.int .i64 (T : Int), .int .i64 (L : Int)] 3)).heap.size (w1.alloc (.cells #[.int .i64 (T : Int), .int .i64 (L : Int)] 3)) (some ⟨w1.heap.size, 0, none⟩) 2 2 [(T : Int), (L : Int)] :=
      Own.of (World.ownsRow_lit w1 #[.int .i64 (T : Int), .int .i64 (L : Int)] 2 (Nat.le_refl _) (by unfold maxLen; omega) rfl)
    have hb2 := belowTrans hb1 hbB (Nat.le_refl _)
    have hj2 := Hj.out _ _ _ ho.at (hL.keep hb2)
    clear ho hbB hb1
    have Hj2 := Lib.hid hj2; clear hj2
    have Hb2 := Lib.hid hb2; clear hb2
    go_wp2_with fail
    with_reducible refine (Hj2.out).mono ?_
    rintro e w2 ⟨rfl, hb3⟩
    have hb := belowTrans Hb2.out hb3 (Nat.le_refl _)
    clear hb3
    have Hb := Lib.hid hb; clear hb
    go_wp2
    go_ret2
    exact ⟨_, rfl, fun _ => rfl, Hb.out⟩
  · rw [hx] at hcon ⊢
    simp only at hcon ⊢
    clear hx
    have Hcon := Lib.hid hcon; clear hcon
    go_enter Tryz.func114, Tryz.ntmps114
    go_wp2_with fail
    with_reducible refine (Hcon.out).mono ?_
    rintro e w1 ⟨rfl, hb1⟩
    go_wp2
    go_ret2
    exact ⟨_, rfl, fun h => (by cases h), hb1⟩
theorem mStep_yesC {b : Bk} (h : BankOk b) : mStepBank b = (stepB b, madeB b, true) := by unfold mStepBank; rw [if_pos (bank_iff.2 h)]
set_option maxHeartbeats 1600000 in
theorem bankBehind_any (h l : Int) (ao : Option Addr) (n cap : Nat) (xs : List Int) (w : World) (hA : IntsAt w ao n cap xs) (hk : BankOk ⟨h, l, xs⟩) :
    Calls Tryz.prog 117 #[.agg #[.int .i64 h, .int .i64 l, .slice ao n cap]] w fun e w' => e = .returned (.tuple #[.string ⟨(cBnk ⟨h, l, xs⟩).1.toArray⟩, .bool (cBnk ⟨h, l, xs⟩).2]) ∧ Below w.heap.size w w' := by
  have hbA := belowAlloc w (.cells #[.int .i64 h, .int .i64 l, .slice ao n cap] 84)
  have bA := Blk.new w h l ao n cap 84
  have hcon := impl_StepBank h l ao n cap xs _ (hA.keep hbA)
  rw [mStep_yesC hk] at hcon
  have hk2 := (step_ok hk).1
  have htx := fun a m c W (q : IntsAt W a m c (stepB ⟨h, l, xs⟩).p) => impl_BankText (stepB ⟨h, l, xs⟩).h (stepB ⟨h, l, xs⟩).l a m c (stepB ⟨h, l, xs⟩).p W q
  have hm : mBankText (stepB ⟨h, l, xs⟩) = (bankL (stepB ⟨h, l, xs⟩), true) := mBText_yes (bank_iff.2 hk2)
  unfold cBnk
  generalize stepB ⟨h, l, xs⟩ = q at *
  obtain ⟨qh, ql, qp⟩ := q
  simp only at hcon htx ⊢
  rw [hm] at htx
  generalize madeB ⟨h, l, xs⟩ = md at *
  obtain ⟨⟨x0, x1, x2⟩, y0, y1, y2⟩ := bA.cells
  clear bA hm hk2 hA
  have Hcon := Lib.hid hcon; clear hcon
  have Htx := Lib.hid htx; clear htx
  have HbA := Lib.hid hbA; clear hbA
  go_enter Tryz.func117, Tryz.ntmps117
  go_wp2_with fail
  with_reducible refine (Hcon.out).mono ?_
  rintro e w1 ⟨a1, n1, c1, rfl, ho1, hb1⟩
  have hbw := belowTrans HbA.out hb1 (Nat.le_refl _)
  have hba := belowAlloc w1 (.cells #[.int .i64 qh, .int .i64 ql, .slice a1 n1 c1] 84)
  obtain ⟨⟨p0, p1, p2⟩, q0, q1, q2⟩ := (Blk.new w1 qh ql a1 n1 c1 84).cells
  have hc2 := Htx.out _ _ _ _ (ho1.at.keep hba)
  have hbv := belowTrans hbw hba (Nat.le_refl _)
  clear ho1 hb1 hbw hba x0 x1 x2 y0 y1 y2
  have Hc2 := Lib.hid hc2; clear hc2
  have Hbv := Lib.hid hbv; clear hbv
  go_wp2_with fail
  with_reducible refine (Hc2.out).mono ?_
  rintro e w2 ⟨rfl, hb2⟩
  have hb := belowTrans Hbv.out hb2 (Nat.le_refl _)
  clear hb2
  have Hb := Lib.hid hb; clear hb
  go_wp2
  go_ret2
  exact ⟨rfl, Hb.out⟩
set_option maxHeartbeats 1600000 in
theorem startText_any (x y : Int) (w : World) :
    Calls Tryz.prog 119 #[.int .i64 x, .int .i64 y] w fun e w' => ∃ s : ByteArray, e = .returned (.tuple #[.string s, .bool (cStart x y).2]) ∧ ((cStart x y).2 = true → s = ⟨(cStart x y).1.toArray⟩) ∧ Below w.heap.size w w' := by
  have hcon := impl_StartBank x y w
  have hk := mStart_ok x y
  unfold cStart
  generalize mStartBank x y = S at *
  obtain ⟨⟨qh, ql, qp⟩, sb⟩ := S
  simp only at hcon hk ⊢
  cases sb
  · clear hk
    have Hcon := Lib.hid hcon; clear hcon
    go_enter Tryz.func119, Tryz.ntmps119
    go_wp2_with fail
    with_reducible refine (Hcon.out).mono ?_
    rintro e w1 ⟨a1, n1, c1, rfl, ho1, hb1⟩
    have hba := belowTrans hb1 (belowAlloc w1 (.cells #[.int .i64 qh, .int .i64 ql, .slice a1 n1 c1] 84)) (Nat.le_refl _)
    clear ho1 hb1
    have Hba := Lib.hid hba; clear hba
    go_wp2
    go_ret2
    exact ⟨_, rfl, fun h => (by cases h), Hba.out⟩
  · have htx := fun a m c W (q : IntsAt W a m c qp) => impl_BankText qh ql a m c qp W q
    rw [mBText_yes (bank_iff.2 (hk rfl))] at htx
    clear hk
    have Hcon := Lib.hid hcon; clear hcon
    have Htx := Lib.hid htx; clear htx
    go_enter Tryz.func119, Tryz.ntmps119
    go_wp2_with fail
    with_reducible refine (Hcon.out).mono ?_
    rintro e w1 ⟨a1, n1, c1, rfl, ho1, hb1⟩
    have hba := belowAlloc w1 (.cells #[.int .i64 qh, .int .i64 ql, .slice a1 n1 c1] 84)
    obtain ⟨⟨p0, p1, p2⟩, q0, q1, q2⟩ := (Blk.new w1 qh ql a1 n1 c1 84).cells
    have hc2 := Htx.out _ _ _ _ (ho1.at.keep hba)
    have hbv := belowTrans hb1 hba (Nat.le_refl _)
    clear ho1 hb1 hba
    have Hc2 := Lib.hid hc2; clear hc2
    have Hbv := Lib.hid hbv; clear hbv
    go_wp2_with fail
    with_reducible refine (Hc2.out).mono ?_
    rintro e w2 ⟨rfl, hb2⟩
    have hb := belowTrans Hbv.out hb2 (Nat.le_refl _)
    clear hb2
    have Hb := Lib.hid hb; clear hb
    go_wp2
    go_ret2
    exact ⟨_, rfl, fun _ => rfl, Hb.out⟩
end
end Go.Proofs.YtimmjimeldejjaaGreatDoor
namespace Go.Proofs.YtimmjimeldejjaaGreatDoor
section
set_option linter.unusedVariables false
set_option linter.unusedSimpArgs false

theorem words_one (a : List Int) (o : Ord) (r : List (List UInt8)) : wordsA a (wordO o :: r) = match readK (kdO o) r with
    | none => (a, .what)
    | some l => runO a l o := by
  unfold wordsA; simp only [ordOf_word]
  cases readK (kdO o) r <;> rfl
theorem words_none (a : List Int) {v : List UInt8} (h : ordOf v = none) (r : List (List UInt8)) : wordsA a (v :: r) = (a, .what) := by
  unfold wordsA; simp only [h]
/-! ### Lines without more words -/
theorem w_z {a : List Int} {o : Ord} (hk : kdO o = .z) {x : List Int × Bool} (hx : runO a ⟨[], noBk, []⟩ o = giveA a x) (r : List (List UInt8)) : gAnsL a (noW r.length x) = wordsA a (wordO o :: r) := by
  rw [words_one, hk]
  cases r with
  | nil => show gAnsL a (noW 0 x) = runO a ⟨[], noBk, []⟩ o; rw [hx]; unfold noW; rw [if_pos rfl]; exact gAns_give a x
  | cons t r => unfold noW; rw [if_neg (by simp)]; rfl
theorem gAns_num (a : List Int) (x : Int × Bool) (h : 0 ≤ x.1) : gAnsT a (dgG (gotB x.1 x.2)) = numA a x := by
  obtain ⟨y, b⟩ := x
  cases b
  · rfl
  · show (a, Ans.ok (Lib.itoa y)) = (a, Ans.ok (dd y)); rw [itoa_dd h]
theorem w_num {a : List Int} {o : Ord} (hk : kdO o = .z) {x : Int × Bool} (h : 0 ≤ x.1) (hx : runO a ⟨[], noBk, []⟩ o = numA a x) (r : List (List UInt8)) : gAnsT a (dgG (noW r.length x)) = wordsA a (wordO o :: r) := by
  rw [words_one, hk]
  cases r with
  | nil => show gAnsT a (dgG (noW 0 x)) = runO a ⟨[], noBk, []⟩ o; rw [hx]; unfold noW; rw [if_pos rfl]; exact gAns_num a x h
  | cons t r => unfold noW; rw [if_neg (by simp)]; rfl
theorem w_show {a : List Int} (ha : goodB a = true) (r : List (List UInt8)) : gAnsT a (noW r.length (mPilesText a)) = wordsA a (wordO .shown :: r) := by
  rw [words_one, mText_yes ha]
  cases r with
  | nil => rfl
  | cons t r => unfold noW; rw [if_neg (by simp)]; rfl
/-! ### Lines with one word -/
theorem w_list {a : List Int} {o : Ord} {α : Type} {parse : List UInt8 → α × Bool} {call : α → List Int × Bool} {L : List UInt8 → Ln} (r : List (List UInt8))
    (hr : ∀ r, readK (kdO o) r = match r with | [t] => if (parse t).2 = true then some (L t) else none | _ => none) (hx : ∀ t, runO a (L t) o = giveA a (call (parse t).1)) :
    gAnsL a (oneW r parse call) = wordsA a (wordO o :: r) := by
  rw [words_one, hr]
  rcases r with _ | ⟨t, _ | ⟨u, r⟩⟩
  · rfl
  · by_cases h : (parse t).2 = true
    · rw [oneW_yes h, gAns_give]
      simp only [h, if_true]
      exact (hx t).symm
    · rw [oneW_no (by simpa using h)]
      simp only [h, if_false]
      rfl
  · rfl
theorem w_text {a : List Int} {o : Ord} {α : Type} {parse : List UInt8 → α × Bool} {call : α → List UInt8 × Bool} {L : List UInt8 → Ln} (r : List (List UInt8))
    (hr : ∀ r, readK (kdO o) r = match r with | [t] => if (parse t).2 = true then some (L t) else none | _ => none) (hx : ∀ t, runO a (L t) o = gAnsT a (gotB (call (parse t).1).1 (call (parse t).1).2)) :
    gAnsT a (oneW r parse call) = wordsA a (wordO o :: r) := by
  rw [words_one, hr]
  rcases r with _ | ⟨t, _ | ⟨u, r⟩⟩
  · rfl
  · by_cases h : (parse t).2 = true
    · rw [oneW_yes h]
      simp only [h, if_true]
      exact (hx t).symm
    · rw [oneW_no (by simpa using h)]
      simp only [h, if_false]
      rfl
  · rfl
theorem read_n (r : List (List UInt8)) : readK .n r = match r with | [t] => if (mNum t).2 = true then some ⟨[], noBk, [readL t]⟩ else none | _ => none := by
  rcases r with _ | ⟨t, _ | ⟨u, r⟩⟩
  · rfl
  · simp only [readK, mNum, decide_eq_true_eq]
  · rfl
theorem read_p (r : List (List UInt8)) : readK .p r = match r with | [t] => if ((fun t => mParsePiles ⟨t.toArray⟩) t).2 = true then some ⟨(mParsePiles ⟨t.toArray⟩).1, noBk, []⟩ else none | _ => none := by
  rcases r with _ | ⟨t, _ | ⟨u, r⟩⟩ <;> rfl
theorem read_r (r : List (List UInt8)) : readK .r r = match r with | [t] => if ((fun t => mParseRow ⟨t.toArray⟩) t).2 = true then some ⟨(mParseRow ⟨t.toArray⟩).1, noBk, []⟩ else none | _ => none := by
  rcases r with _ | ⟨t, _ | ⟨u, r⟩⟩ <;> rfl
theorem read_b (r : List (List UInt8)) : readK .b r = match r with | [t] => if ((fun t => mParseBank ⟨t.toArray⟩) t).2 = true then some ⟨[], (mParseBank ⟨t.toArray⟩).1, []⟩ else none | _ => none := by
  rcases r with _ | ⟨t, _ | ⟨u, r⟩⟩ <;> rfl
theorem w_take (a : List Int) (r : List (List UInt8)) : gAnsL a (oneW r (fun t => mParsePiles ⟨t.toArray⟩) (fun x => (x, true))) = wordsA a (wordO .take :: r) :=
  w_list (L := fun t => ⟨(mParsePiles ⟨t.toArray⟩).1, noBk, []⟩) r read_p fun t => rfl
theorem w_steps (a : List Int) (r : List (List UInt8)) : gAnsL a (oneW r mNum (mStepsFrom a)) = wordsA a (wordO .steps :: r) :=
  w_list (L := fun t => ⟨[], noBk, [readL t]⟩) r read_n fun t => rfl
theorem w_past (a : List Int) (r : List (List UInt8)) : gAnsL a (oneW r mNum (mPastBy a)) = wordsA a (wordO .past :: r) :=
  w_list (L := fun t => ⟨[], noBk, [readL t]⟩) r read_n fun t => rfl
theorem w_stairs (a : List Int) (r : List (List UInt8)) : gAnsL a (oneW r mNum mStaircase) = wordsA a (wordO .stairs :: r) :=
  w_list (L := fun t => ⟨[], noBk, [readL t]⟩) r read_n fun t => rfl
theorem w_sort (a : List Int) (r : List (List UInt8)) : gAnsL a (oneW r (fun t => mParseRow ⟨t.toArray⟩) mSortRow) = wordsA a (wordO .sort :: r) :=
  w_list (L := fun t => ⟨(mParseRow ⟨t.toArray⟩).1, noBk, []⟩) r read_r fun t => rfl
theorem w_row (a : List Int) (r : List (List UInt8)) : gAnsT a (oneW r (fun t => mParseRow ⟨t.toArray⟩) cRow) = wordsA a (wordO .row :: r) :=
  w_text (L := fun t => ⟨(mParseRow ⟨t.toArray⟩).1, noBk, []⟩) r read_r fun t => rfl
theorem w_orbit (a : List Int) (r : List (List UInt8)) : gAnsT a (oneW r (fun t => mParseRow ⟨t.toArray⟩) cOrb) = wordsA a (wordO .orbit :: r) :=
  w_text (L := fun t => ⟨(mParseRow ⟨t.toArray⟩).1, noBk, []⟩) r read_r fun t => by
    simp only [runO, cOrb]
    cases (mRowOrbit (mParseRow ⟨t.toArray⟩).1).2.2 <;> rfl
theorem w_bank (a : List Int) (r : List (List UInt8)) : gAnsT a (oneW r (fun t => mParseBank ⟨t.toArray⟩) cBnk) = wordsA a (wordO .bank :: r) :=
  w_text (L := fun t => ⟨[], (mParseBank ⟨t.toArray⟩).1, []⟩) r read_b fun t => rfl
/-- of the only two words -/
def twoW (r : List (List UInt8)) : Got (List UInt8) := match r with
  | [t, u] => if 0 ≤ readL t ∧ 0 ≤ readL u then gotB (cStart (readL t) (readL u)).1 (cStart (readL t) (readL u)).2 else .what
  | _ => .what
theorem twoW_len {r : List (List UInt8)} (h : r.length ≠ 2) : twoW r = .what := by
  rcases r with _ | ⟨t, _ | ⟨u, _ | ⟨v, r⟩⟩⟩
  · rfl
  · rfl
  · exact absurd rfl h
  · rfl
theorem w_start (a : List Int) (r : List (List UInt8)) : gAnsT a (twoW r) = wordsA a (wordO .start :: r) := by
  rw [words_one]
  rcases r with _ | ⟨t, _ | ⟨u, _ | ⟨v, r⟩⟩⟩
  · rfl
  · rfl
  · simp only [kdO, readK, twoW]
    by_cases h : 0 ≤ readL t ∧ 0 ≤ readL u
    · rw [if_pos h, if_pos h]
      simp only [runO, cStart, List.getD_cons_zero, List.getD_cons_succ]
      cases (mStartBank (readL t) (readL u)).2 <;> rfl
    · rw [if_neg h, if_neg h]; rfl
  · rfl
/-- what changes the piles is good -/
theorem gAnsL_good {a : List Int} {r : Got (List Int)} {X : List Int × Ans} (h : gAnsL a r = X) (hX : Good X.1) (x : List Int) (hr : r = .got x) : Good x := by
  subst h; subst hr; exact hX
def errA (pn pw : Addr) : Ans → Value
  | .ok _ => .nilIface
  | .no => errV pn
  | .what => errV pw
theorem errL (pn pw : Addr) (a : List Int) (r : Got (List Int)) : errG pn pw r = errA pn pw (gAnsL a r).2 := by cases r <;> rfl
theorem errT (pn pw : Addr) (a : List Int) (r : Got (List UInt8)) : errG pn pw r = errA pn pw (gAnsT a r).2 := by cases r <;> rfl
end
end Go.Proofs.YtimmjimeldejjaaGreatDoor
namespace Go.Proofs.YtimmjimeldejjaaGreatDoor
section
open Go.RowKit
set_option linter.unusedVariables false
set_option linter.unusedSimpArgs false
set_option maxRecDepth 20000

set_option maxHeartbeats 3200000 in
theorem ofTwo_any (pn pw : Addr) (wa : Option Addr) (wn wc : Nat) (r : List (List UInt8)) (w : World) (hd : DkOk w pn pw) (hW : ValsAt w wa wn wc (strVs r)) (hw : wn ≤ 4000) (hr : ∀ t ∈ r, t.length ≤ 1048576) :
    Calls Tryz.prog 118 #[.slice wa wn wc, .func (.func 119) #[] #[]] w fun e w' => TxPost pn pw (twoW r) w e w' := by
  have hrl : r.length = wn := by have := hW.length; simpa [strVs] using this
  have hdw := hd.what
  have hb0 := Below.refl w.heap.size w
  by_cases h2 : wn = 2
  · subst h2
    obtain ⟨t, u, rfl⟩ : ∃ t u, r = [t, u] := by
      match r, hrl with
      | [t, u], _ => exact ⟨t, u, rfl⟩
    obtain ⟨b, o, rfl, hw0⟩ := wordAt hW (k := 0) (by omega)
    rw [List.getD_cons_zero, Nat.add_zero] at hw0
    have hts : ∀ t : List UInt8, (⟨t.toArray⟩ : ByteArray).size = t.length := fun t => by show t.toArray.size = _; simp
    have c1 := parseNumber_any ⟨t.toArray⟩ w (by rw [hts]; exact hr t (by simp)) hd.lib
    have c2 := fun W (h : DkOk W pn pw) => parseNumber_any ⟨u.toArray⟩ W (by rw [hts]; exact hr u (by simp)) h.lib
    have hd1 := fun W (h : Below w.heap.size w W) => hd.keep h
    have hW1 := fun W (h : Below w.heap.size w W) => hW.keep h
    have e1 : (mNum t) = (readL t, decide (0 ≤ readL t)) := rfl
    have e2 : (mNum u) = (readL u, decide (0 ≤ readL u)) := rfl
    simp only at c1 c2
    rw [e1] at c1
    rw [e2] at c2
    simp only [twoW]
    clear e1 e2 hW hr
    generalize readL t = x at c1 ⊢
    generalize readL u = y at c2 ⊢
    by_cases hxy : 0 ≤ x ∧ 0 ≤ y
    · rw [if_pos hxy]
      obtain ⟨hx, hy⟩ := hxy
      rw [decide_eq_true hx] at c1
      rw [decide_eq_true hy] at c2
      have cs := fun W => startText_any x y W
      generalize cStart x y = Z at cs ⊢
      obtain ⟨zs, zb⟩ := Z
      have hE := errB_got pn pw zs zb
      have hres := fun (v : Value) (w3 : World) (hb : Below w.heap.size w w3) => resStr_any pn pw v zb w3 (hd.keep hb)
      clear hd hdw hts
      have C1 := Lib.hid c1; clear c1
      have C2 := Lib.hid c2; clear c2
      have Cs := Lib.hid cs; clear cs
      have HE := Lib.hid hE; clear hE
      have Hres := Lib.hid hres; clear hres
      have Hd1 := Lib.hid hd1; clear hd1
      have HW1 := Lib.hid hW1; clear hW1
      have Hx := Lib.hid hx; clear hx
      have Hy := Lib.hid hy; clear hy
      go_enter Tryz.func118, Tryz.ntmps118
      go_wp2_with fail
      with_reducible refine (C1.out).mono ?_
      rintro e w1 ⟨x1, rfl, hx1, hb1⟩
      obtain rfl := hx1 (by trivial)
      obtain ⟨b', o', e', hw1⟩ := wordAt (HW1.out w1 hb1) (k := 1) (by omega)
      cases e'
      rw [List.getD_cons_succ, List.getD_cons_zero] at hw1
      have hc2 := C2.out w1 (Hd1.out w1 hb1)
      have Hc2 := Lib.hid hc2; clear hc2
      have Hb1 := Lib.hid hb1; clear hb1
      go_wp2_with fail
      with_reducible refine (Hc2.out).mono ?_
      rintro e w2 ⟨y1, rfl, hy1, hb2⟩
      obtain rfl := hy1 (by trivial)
      have hb12 := belowTrans Hb1.out hb2 (Nat.le_refl _)
      clear hb2
      have Hb12 := Lib.hid hb12; clear hb12
      go_wp2_with fail
      with_reducible refine (Cs.out _).mono ?_
      rintro e w3 ⟨s3, rfl, hs3, hb3⟩
      have hb13 := belowTrans Hb12.out hb3 (Nat.le_refl _)
      clear hb3
      have Hb13 := Lib.hid hb13; clear hb13
      go_wp2_with fail
      with_reducible refine (Hres.out _ _ Hb13.out).mono ?_
      rintro e w4 ⟨rfl, hb4⟩
      have hb := belowTrans Hb13.out hb4 (Nat.le_refl _)
      clear hb4
      have Hb := Lib.hid hb; clear hb
      go_wp2
      go_ret2
      refine ⟨_, by rw [HE.out]; rfl, fun t ht => ?_, Hb.out⟩
      cases zb
      · cases ht
      · cases ht; exact hs3 (by trivial)
    · rw [if_neg hxy]
      have hdk := fun (w1 : World) (hb : Below w.heap.size w w1) => (hd.keep hb).what
      clear hd hdw hts
      have C1 := Lib.hid c1; clear c1
      have C2 := Lib.hid c2; clear c2
      have Hd1 := Lib.hid hd1; clear hd1
      have HW1 := Lib.hid hW1; clear hW1
      have hbool : (decide (0 ≤ x) = false ∨ (decide (0 ≤ x) = true ∧ decide (0 ≤ y) = false)) := by
        by_cases hx : 0 ≤ x
        · right; exact ⟨decide_eq_true hx, decide_eq_false (fun hy => hxy ⟨hx, hy⟩)⟩
        · left; exact decide_eq_false hx
      generalize decide (0 ≤ x) = bx at *
      generalize decide (0 ≤ y) = bY at *
      clear hxy
      go_enter Tryz.func118, Tryz.ntmps118
      go_wp2_with fail
      with_reducible refine (C1.out).mono ?_
      rintro e w1 ⟨x1, rfl, hx1, hb1⟩
      clear hx1
      obtain ⟨b', o', e', hw1⟩ := wordAt (HW1.out w1 hb1) (k := 1) (by omega)
      cases e'
      rw [List.getD_cons_succ, List.getD_cons_zero] at hw1
      have hc2 := C2.out w1 (Hd1.out w1 hb1)
      have Hc2 := Lib.hid hc2; clear hc2
      have Hb1 := Lib.hid hb1; clear hb1
      go_wp2_with fail
      with_reducible refine (Hc2.out).mono ?_
      rintro e w2 ⟨y1, rfl, hy1, hb2⟩
      clear hy1
      have hb12 := belowTrans Hb1.out hb2 (Nat.le_refl _)
      have hdw := hdk _ hb12
      clear hb2 hdk
      have Hb12 := Lib.hid hb12; clear hb12
      rcases hbool with rfl | ⟨rfl, rfl⟩
      · go_wp2
        go_quiet (fail)
        go_wp2
        go_ret2
        exact ⟨_, rfl, fun x hx => (by cases hx), belowDrewN Hb12.out _⟩
      · go_wp2
        go_quiet (fail)
        go_wp2
        go_ret2
        exact ⟨_, rfl, fun x hx => (by cases hx), belowDrewN Hb12.out _⟩
  · have hne : ((wn : Int) != 2) = true := by simp; omega
    rw [twoW_len (by omega)]
    clear hd hW hr
    have H2 := Lib.hid h2; clear h2
    have Hrl := Lib.hid hrl; clear hrl
    go_enter Tryz.func118, Tryz.ntmps118
    go_wp2
    go_quiet (fail)
    go_wp2
    go_ret2
    exact ⟨_, rfl, fun x hx => (by cases hx), belowDrewN hb0 _⟩
end
end Go.Proofs.YtimmjimeldejjaaGreatDoor
