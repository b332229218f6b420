/- Several texts in one: RtM, RtG, RtA. No condition. -/
import Derived.Test.YtimmjimeldejjaaGreatDoorGj
import Derived.Test.YtimmjimeldejjaaGreatDoorGm
namespace Go.Proofs.YtimmjimeldejjaaGreatDoor
section
open Go.RowKit
set_option linter.unusedVariables false
set_option linter.unusedSimpArgs false

theorem dd_no44 (v : Nat) (h : v ≤ 28) : (44 : UInt8) ∉ Lib.decDigits v := by
  have key : ∀ d, d < 10 → (44 : UInt8) ≠ UInt8.ofNat (48 + d) := by decide +kernel
  by_cases h1 : v < 10
  · rw [Lib.decDigits_one h1]; simpa using key v h1
  · rw [Lib.decDigits_two h1 (by omega)]
    simp only [List.mem_cons, List.mem_nil_iff, or_false, not_or]
    exact ⟨key _ (by omega), key _ (by omega)⟩
def joinW (xs : List Int) : List UInt8 := Lib.join (xs.map dd) [44]
theorem joinW_snoc (xs : List Int) (x : Int) : joinW (xs ++ [x]) = if xs = [] then dd x else joinW xs ++ [44] ++ dd x := by
  unfold joinW
  rw [List.map_append]
  by_cases h : xs = []
  · subst h; rw [if_pos rfl]; simp [Lib.join_one]
  · rw [if_neg h]; exact join_snoc _ _ _ (by simpa using h)
theorem joinW_length {xs : List Int} (h : ∀ x ∈ xs, x ≤ 28) (k : Nat) : (joinW (xs.take k)).length ≤ 3 * k := by
  induction k with
  | zero => simp [joinW, Lib.join_nil]
  | succ k ih =>
    by_cases hk : k < xs.length
    · have e : xs.take (k + 1) = xs.take k ++ [xs[k]] := by rw [List.take_add_one, List.getElem?_eq_getElem hk]; rfl
      have hd := dd_length xs[k] (h _ (List.getElem_mem hk))
      rw [e, joinW_snoc]
      split
      · omega
      · simp only [List.length_append, List.length_singleton]; omega
    · rw [List.take_of_length_le (by omega)]
      rw [List.take_of_length_le (by omega)] at ih
      omega
def textW (xs : List Int) : List UInt8 := if xs = [] then [45] else joinW xs
theorem jnL_textW {xs : List Int} (h : ∀ x ∈ xs, 0 ≤ x) : jnL 44 [45] xs = textW xs := by
  unfold jnL textW joinW
  have : xs.map Lib.itoa = xs.map dd := List.map_congr_left fun x hx => itoa_dd (h x hx)
  rw [this]
def mRowText (xs : List Int) : List UInt8 × Bool := (if rowB xs then textW xs else [], rowB xs)
theorem mRText_yes {xs : List Int} (h : rowB xs = true) : mRowText xs = (textW xs, true) := by unfold mRowText; rw [h]; rfl
theorem mRText_no {xs : List Int} (h : rowB xs = false) : mRowText xs = ([], false) := by unfold mRowText; rw [h]; rfl
theorem split_joinW {xs : List Int} (h0 : xs ≠ []) (h : ∀ x ∈ xs, 1 ≤ x ∧ x ≤ 28) : splitL 44 (joinW xs) = xs.map dd := by
  unfold joinW
  induction xs with
  | nil => exact absurd rfl h0
  | cons x r ih =>
    have hx := h x (by simp)
    have hno : (44 : UInt8) ∉ dd x := dd_no44 x.toNat (by omega)
    cases r with
    | nil => simp only [List.map_cons, List.map_nil, Lib.join_one]; exact splitL_none _ _ hno
    | cons y r =>
      have := ih (by simp) (fun z hz => h z (by simp [hz]))
      have e : Lib.join ((x :: y :: r).map dd) [44] = dd x ++ 44 :: Lib.join ((y :: r).map dd) [44] := by
        simp only [List.map_cons]
        rw [Lib.join_cons, Lib.join_cons]
        simp [Lib.joinTail]
      rw [e, splitL_app _ _ _ hno, this]
      rfl
def outW (l : List UInt8) : List Int := (splitL 44 l).map readL
def mParseRow (s : ByteArray) : List Int × Bool := if s.data.toList = [45] then ([], true) else if rowB (outW s.data.toList) then (outW s.data.toList, true) else ([], false)
theorem outW_mem {l w : List UInt8} (hg : rowB (outW l) = true) (hw : w ∈ splitL 44 l) : 1 ≤ readL w ∧ readL w ≤ 28 := (row_iff.1 hg).mem (List.mem_map_of_mem hw)
theorem outW_text {l : List UInt8} (hg : rowB (outW l) = true) : textW (outW l) = l := by
  have hne : outW l ≠ [] := fun e => splitL_ne 44 l (by simpa [outW] using e)
  unfold textW
  rw [if_neg hne]
  unfold joinW
  have : (outW l).map dd = splitL 44 l := by
    unfold outW
    rw [List.map_map]
    conv => rhs; rw [← List.map_id (splitL 44 l)]
    apply List.map_congr_left
    intro w hw
    have := outW_mem hg hw
    exact (readL_small w this.1 this.2).symm
  rw [this]
  exact join_split 44 l
theorem vals_outW {l : List UInt8} {vals : List Int} (hlen : vals.length = (splitL 44 l).length) (hv : ∀ i, i < vals.length → Lib.atoiAll ((splitL 44 l).getD i []) = .ok (vals.getD i 0)) :
    (rowB vals = true ∧ textW vals = l) ↔ (rowB (outW l) = true ∧ vals = outW l) := by
  have hne : vals ≠ [] := fun e => splitL_ne 44 l (by rw [e] at hlen; exact List.eq_nil_of_length_eq_zero hlen.symm)
  constructor
  · rintro ⟨hg, ht⟩
    have hm := fun x hx => (row_iff.1 hg).mem (x := x) hx
    have : outW l = vals := by
      unfold textW at ht
      rw [if_neg hne] at ht
      unfold outW
      rw [← ht, split_joinW hne hm, List.map_map]
      conv => rhs; rw [← List.map_id vals]
      apply List.map_congr_left
      intro x hx
      have := hm x hx
      show readL (Lib.decDigits x.toNat) = x
      rw [read_dd _ (by omega)]
      omega
    exact ⟨by rw [this]; exact hg, this.symm⟩
  · rintro ⟨hg, rfl⟩
    exact ⟨hg, outW_text hg⟩
theorem vals_eqW {l : List UInt8} {vals : List Int} (hlen : vals.length = (splitL 44 l).length) (hv : ∀ i, i < vals.length → Lib.atoiAll ((splitL 44 l).getD i []) = .ok (vals.getD i 0)) (hg : rowB (outW l) = true) : vals = outW l := by
  apply List.ext_getElem
  · rw [hlen]; simp [outW]
  · intro i h1 h2
    have := hv i h1
    have hi : i < (splitL 44 l).length := by omega
    rw [List.getD_eq_getElem?_getD, List.getElem?_eq_getElem hi, List.getD_eq_getElem?_getD, List.getElem?_eq_getElem h1] at this
    simp only [Option.getD_some] at this
    have hw := outW_mem hg (List.getElem_mem hi)
    rw [atoi_word hw.1 hw.2] at this
    simp only [outW, List.getElem_map]
    injection this with h
    exact h.symm
theorem mPRow_zero {s : ByteArray} (h : s.data.toList = [45]) : mParseRow s = ([], true) := by unfold mParseRow; rw [if_pos h]
theorem mPRow_yes {s : ByteArray} (h : s.data.toList ≠ [45]) (hg : rowB (outW s.data.toList) = true) : mParseRow s = (outW s.data.toList, true) := by unfold mParseRow; rw [if_neg h, if_pos hg]
theorem mPRow_no {s : ByteArray} (h : s.data.toList ≠ [45]) (hg : rowB (outW s.data.toList) = false) : mParseRow s = ([], false) := by unfold mParseRow; rw [if_neg h, if_neg (by rw [hg]; simp)]
theorem mPRow_bad {s : ByteArray} {k : Nat} (hz : s.data.toList ≠ [45]) (hk : k < (splitL 44 s.data.toList).length) (h : ∀ v, Lib.atoiAll ((splitL 44 s.data.toList).getD k []) ≠ .ok v) : mParseRow s = ([], false) := by
  refine mPRow_no hz ?_
  cases hg : rowB (outW s.data.toList)
  · rfl
  · have hw := outW_mem hg (List.getElem_mem hk)
    exact absurd (atoi_word hw.1 hw.2) (by rw [List.getD_eq_getElem?_getD, List.getElem?_eq_getElem hk] at h; exact h _)
theorem mPRow_vals {s : ByteArray} {vals : List Int} (hz : s.data.toList ≠ [45]) (hlen : vals.length = (splitL 44 s.data.toList).length) (hv : ∀ i, i < vals.length → Lib.atoiAll ((splitL 44 s.data.toList).getD i []) = .ok (vals.getD i 0)) :
    (rowB vals = false → mParseRow s = ([], false)) ∧ (rowB vals = true → textW vals ≠ s.data.toList → mParseRow s = ([], false)) ∧ (rowB vals = true → textW vals = s.data.toList → mParseRow s = (vals, true)) := by
  refine ⟨fun hg => mPRow_no hz ?_, fun hg ht => mPRow_no hz ?_, fun hg ht => ?_⟩
  · cases ho : rowB (outW s.data.toList)
    · rfl
    · rw [vals_eqW hlen hv ho, ho] at hg; cases hg
  · cases ho : rowB (outW s.data.toList)
    · rfl
    · exact absurd (by rw [vals_eqW hlen hv ho]; exact outW_text ho) ht
  · obtain ⟨h1, h2⟩ := (vals_outW hlen hv).1 ⟨hg, ht⟩
    rw [h2]; exact mPRow_yes hz h1
theorem row_of_split {s : ByteArray} {vals : List Int} {b : Bool} (h : SplitIs 44 [45] s.data.toList vals b) :
    (b = false → mParseRow s = ([], false)) ∧ (b = true → rowB vals = false → mParseRow s = ([], false)) ∧ (b = true → rowB vals = true → mParseRow s = (vals, true)) := by
  rcases h with ⟨h1, rfl, rfl⟩ | ⟨hz, ⟨rfl, rfl, k, hk, hno⟩ | ⟨hlen, hok, rfl⟩⟩
  · exact ⟨fun h => (by cases h), fun _ h => absurd (row_iff.2 row_nil) (by rw [h]; simp), fun _ _ => mPRow_zero h1⟩
  · exact ⟨fun _ => mPRow_bad hz hk hno, fun h => (by cases h), fun h => (by cases h)⟩
  · obtain ⟨h1, h2, h3⟩ := mPRow_vals hz hlen hok
    refine ⟨fun h => ?_, fun _ hg => h1 hg, fun h hg => ?_⟩
    · cases hg : rowB vals
      · exact h1 hg
      · rw [decide_eq_false_iff_not, jnL_textW (fun x hx => by have := (row_iff.1 hg).mem hx; omega)] at h
        exact h2 hg h
    · rw [decide_eq_true_iff, jnL_textW (fun x hx => by have := (row_iff.1 hg).mem hx; omega)] at h
      exact h3 hg h
end
end Go.Proofs.YtimmjimeldejjaaGreatDoor
namespace Go.Proofs.YtimmjimeldejjaaGreatDoor
section
open Go.RowKit
set_option linter.unusedVariables false
set_option linter.unusedSimpArgs false

end
end Go.Proofs.YtimmjimeldejjaaGreatDoor
namespace Go.Proofs.YtimmjimeldejjaaGreatDoor
section
open Go.RowKit
set_option linter.unusedVariables false
set_option linter.unusedSimpArgs false

theorem isRowT_yes (ao : Option Addr) (n cap : Nat) (xs : List Int) (w : World) (h : IntsAt w ao n cap xs) (hg : RowOk xs) :
    Calls Tryz.prog 43 #[.slice ao n cap] w fun e w' => e = .returned (.bool true) ∧ w = w' := by
  have := isRow_any ao n cap xs w h; rw [row_iff.2 hg] at this; exact this
theorem isRowT_no (ao : Option Addr) (n cap : Nat) (xs : List Int) (w : World) (h : IntsAt w ao n cap xs) (hg : rowB xs = false) :
    Calls Tryz.prog 43 #[.slice ao n cap] w fun e w' => e = .returned (.bool false) ∧ w = w' := by
  have := isRow_any ao n cap xs w h; rw [hg] at this; exact this
theorem dd_pos (X : Int) (h0 : 0 ≤ X) (h1 : X ≤ 28) : dd X ≠ [] := by
  unfold dd
  by_cases h : X.toNat < 10
  · rw [Lib.decDigits_one h]; simp
  · rw [Lib.decDigits_two h (by omega)]; simp
theorem joinW_ne {xs : List Int} (h : ∀ x ∈ xs, 1 ≤ x ∧ x ≤ 28) (hne : xs ≠ []) : joinW xs ≠ [] := by
  cases xs with
  | nil => exact absurd rfl hne
  | cons x l =>
    intro e
    have hx := h x (by simp)
    have := dd_pos x (by omega) (by omega)
    unfold joinW at e
    rw [List.map_cons, Lib.join_cons] at e
    exact this (List.append_eq_nil_iff.1 e).1
set_option maxHeartbeats 1600000 in
set_option maxRecDepth 100000 in
theorem roText_any (ao : Option Addr) (n cap : Nat) (xs : List Int) (w : World) (h : IntsAt w ao n cap xs) (hg : RowOk xs) :
    Calls Tryz.prog 60 #[.slice ao n cap] w fun e w' => e = .returned (.string ⟨(textW xs).toArray⟩) ∧ Below w.heap.size w w' := by
  have hl := h.length
  have hlen := hg.len
  have hn28 : (n : Int) ≤ 28 := by omega
  have hjl := fun k => joinW_length (fun x hx => (hg.mem hx).2) k
  have hjn : xs ≠ [] → joinW xs ≠ [] := joinW_ne fun x hx => hg.mem hx
  have Hl := Lib.hid hl; clear hl
  have Hg := Lib.hid hg; clear hg
  have Hjl := Lib.hid hjl; clear hjl
  have Hjn := Lib.hid hjn; clear hjn
  go_enter Tryz.func60, Tryz.ntmps60
  go_wp2
  go_loopw [3, 8] (fun s i wr => ∃ k : Nat, k ≤ n ∧ i = .int .i64 k ∧ s = .string ⟨(joinW (xs.take k)).toArray⟩ ∧ Below w.heap.size w wr) (fun _ i _ => n - (intOf i).toNat)
  case atStart => exact ⟨0, Nat.zero_le _, rfl, rfl, Below.refl _ _⟩
  case round =>
    obtain ⟨k, hk, rfl, rfl, hb⟩ := hrel
    by_cases hlt : k < n
    · have h1 := h.keep hb
      obtain ⟨b, oo, rfl, hbl, hc⟩ := h1.cell k hlt
      have hck := hc k hlt
      clear hc h1
      generalize hx : xs.getD k 0 = x at hck
      have hxm := Hg.out.mem (getD_mem hx hlt Hl.out)
      have e := joinW_snoc (xs.take k) x
      rw [← take_snoc hx hlt Hl.out] at e
      have hd := dd_length x hxm.2
      obtain ⟨X, rfl⟩ := Int.eq_ofNat_of_zero_le (show 0 ≤ x by omega)
      have hcon := fun W => l1Num_any X X W (Nat.le_refl _) (by omega)
      have hdd : dd (X : Int) = Lib.decDigits X := by simp [dd]
      rw [← hdd] at hcon
      have hj := Hjl.out k
      by_cases hk0 : k = 0
      · subst hk0
        rw [List.take_zero, if_pos rfl] at e
        have hemp : joinW (List.take 0 xs) = [] := rfl
        generalize dd (X : Int) = D at *
        have hno : ¬ (9223372036854775807 < D.length) := by omega
        simp only [Nat.add_zero] at hck
        have Hcon := Lib.hid hcon; clear hcon
        have Hx := Lib.hid hx; clear hx
        have E := Lib.hid e; clear e
        have Hdd := Lib.hid hdd; clear hdd
        clear hj
        rw [hemp]
        go_wp2_with fail
        with_reducible refine (Hcon.out _).mono ?_
        rintro e w1 ⟨rfl, hb1⟩
        go_wp2
        go_roundw
        case rel => exact ⟨1, by omega, rfl, by rw [E.out]; exact congrArg Value.string (by have := ByteArray.mk_append_mk [] D; simpa using this), belowTrans hb hb1 (Nat.le_refl _)⟩
        case measure => simp [intOf] <;> omega
      · have hne0 : xs.take k ≠ [] := fun hh => by
          have := congrArg List.length hh
          rw [List.length_take, List.length_nil] at this
          have := Hl.out
          omega
        rw [if_neg hne0] at e
        generalize dd (X : Int) = D at *
        generalize joinW (xs.take k) = J at *
        have hno1 : ¬ (9223372036854775807 < J.length + 1) := by omega
        have hno : ¬ (9223372036854775807 < J.length + 1 + D.length) := by omega
        have Hcon := Lib.hid hcon; clear hcon
        have Hx := Lib.hid hx; clear hx
        have E := Lib.hid e; clear e
        have Hdd := Lib.hid hdd; clear hdd
        have Hne0 := Lib.hid hne0; clear hne0
        clear hj
        go_wp2_with fail
        with_reducible refine (Hcon.out _).mono ?_
        rintro e w1 ⟨rfl, hb1⟩
        go_wp2
        go_roundw
        case rel => exact ⟨k + 1, by omega, by go_num, by rw [E.out, ← ByteArray.mk_append_mk, ← ByteArray.mk_append_mk], belowTrans hb hb1 (Nat.le_refl _)⟩
        case measure => simp [intOf] <;> omega
    · obtain rfl : n = k := by omega
      rw [take_all Hl.out]
      by_cases hxs : xs = []
      · subst hxs
        rw [show joinW [] = [] from rfl]
        go_wp2
        go_ret
        exact ⟨rfl, hb⟩
      · have hjne := Hjn.out hxs
        have ht : textW xs = joinW xs := by unfold textW; rw [if_neg hxs]
        rw [← ht] at hjne ⊢
        generalize hJ : textW xs = J at hjne ⊢
        have hbn : ((⟨J.toArray⟩ : ByteArray).toList == ([] : List UInt8)) = false := bytes_ne (s := ⟨J.toArray⟩) (by simpa using hjne)
        have hbn2 : (J == ([] : List UInt8)) = false := by simpa using hjne
        have Ht := Lib.hid ht; clear ht
        have HJ := Lib.hid hJ; clear hJ
        go_wp2
        go_ret
        exact ⟨by rw [HJ.out]; rfl, hb⟩
theorem impl_RowText (ao : Option Addr) (n cap : Nat) (xs : List Int) (w : World) (h : IntsAt w ao n cap xs) :
    Calls Tryz.prog 168 #[.slice ao n cap] w fun e w' => e = .returned (.tuple #[.string ⟨(mRowText xs).1.toArray⟩, .bool (mRowText xs).2]) ∧ Below w.heap.size w w' := by
  cases hg : rowB xs
  · have hm := mRText_no hg
    have Hg := Lib.hid hg; clear hg
    have Hm := Lib.hid hm; clear hm
    go_enter Tryz.func168, Tryz.ntmps168
    go_wp2_with fail
    with_reducible refine (isRowT_no _ _ _ _ _ h Hg.out).mono ?_
    rintro e w' ⟨rfl, rfl⟩
    go_wp2
    go_ret2
    rw [Hm.out]
    exact ⟨rfl, Below.refl _ _⟩
  · have hm := mRText_yes hg
    have hG := row_iff.1 hg
    have hl := h.length
    have hlen := hG.len
    have hcon := joinNumbers_any ao n cap xs 44 [45] w h (by omega) (fun x hx => itoa_small w x (by have := hG.mem hx; omega) (by have := hG.mem hx; omega)) (fun x hx => itoa_len_small (by have := hG.mem hx; omega) (hG.mem hx).2)
    rw [jnL_textW (fun x hx => by have := hG.mem hx; omega)] at hcon
    change Calls Tryz.prog 45 #[.slice ao n cap, .string ⟨#[44]⟩, .string ⟨#[45]⟩] _ _ at hcon
    have Hcon := Lib.hid hcon; clear hcon
    have Hm := Lib.hid hm; clear hm
    have HG := Lib.hid hG; clear hG
    have Hl := Lib.hid hl; clear hl
    go_enter Tryz.func168, Tryz.ntmps168
    go_wp2_with fail
    with_reducible refine (isRowT_yes _ _ _ _ _ h HG.out).mono ?_
    rintro e w' ⟨rfl, rfl⟩
    go_wp2_with fail
    with_reducible refine (Hcon.out).mono ?_
    rintro e w1 ⟨rfl, hb1⟩
    go_wp2
    go_ret2
    rw [Hm.out]
    exact ⟨rfl, hb1⟩

/-! ### Read -/
theorem str_data (s : ByteArray) : (⟨(s.data.toList).toArray⟩ : ByteArray) = s := by apply ByteArray.ext; simp
set_option maxHeartbeats 3200000 in
set_option maxRecDepth 100000 in
theorem spec_ParseRow (s : ByteArray) (w : World) (hs : s.size ≤ 1048576) :
    Calls Tryz.prog 124 #[.string s] w fun e w' => ∃ ao' n' cap', e = .returned (.tuple #[.slice ao' n' cap', .bool (mParseRow s).2]) ∧ Own w.heap.size w'.heap.size w' ao' n' cap' (mParseRow s).1 ∧ Below w.heap.size w w' := by
  by_cases hz : s.data.toList = [45]
  · have hm := mPRow_zero hz
    have e := bytes_eq hz
    subst e
    have Hm := Lib.hid hm; clear hm
    have Hz := Lib.hid hz; clear hz
    go_enter Tryz.func124, Tryz.ntmps124
    go_wp2
    go_ret2
    rw [Hm.out]
    exact ⟨none, 0, 0, rfl, Own.nil _ _ _, Below.refl _ _⟩
  · have hne := bytes_ne hz
    have hsp := l1Split_any s 44 w hs
    rw [show (((44 : UInt8).toNat : Nat) : Int) = 44 from rfl] at hsp
    have hwl := splitL_word_le 44 s.data.toList
    have hcl := splitL_le 44 s.data.toList
    have hsz : s.data.toList.length = s.size := rfl
    have hout : outW s.data.toList = (splitL 44 s.data.toList).map readL := rfl
    have hyes := fun h => mPRow_yes (s := s) hz h
    have hnot := fun h => mPRow_no (s := s) hz h
    have htext := fun h => outW_text (l := s.data.toList) h
    generalize splitL 44 s.data.toList = O at *
    generalize outW s.data.toList = R at *
    have Hz := Lib.hid hz; clear hz
    have Hsp := Lib.hid hsp; clear hsp
    have Hwl := Lib.hid hwl; clear hwl
    have Hout := Lib.hid hout; clear hout
    have Hyes := Lib.hid hyes; clear hyes
    have Hnot := Lib.hid hnot; clear hnot
    have Htext := Lib.hid htext; clear htext
    go_enter Tryz.func124, Tryz.ntmps124
    go_wp2_with fail
    with_reducible refine (Hsp.out).mono ?_
    rintro e w1 ⟨a1, n1, c1, rfl, ho1, hb1⟩
    have hn1 := ho1.length
    simp only [strVs, List.length_map] at hn1
    have Hn1 := Lib.hid hn1; clear hn1
    have hn8 : (n1 : Int) ≤ 1048577 := by have := Hn1.out; omega
    obtain ⟨wo, hwo⟩ : ∃ wo : World, wo = w1 := ⟨_, rfl⟩
    subst hwo
    go_wp2_with fail
    go_loopw [4, 12] (fun v i wr => ∃ (k : Nat) (a : Option Addr) (p c : Nat), k ≤ n1 ∧ p = k ∧ k ≤ 28 ∧ i = .int .i64 k ∧ v = .slice a p c ∧ Own wo.heap.size wr.heap.size wr a p c ((O.map readL).take k) ∧ Below wo.heap.size wo wr) (fun _ i _ => n1 - (intOf i).toNat)
    case atStart => exact ⟨0, none, 0, 0, Nat.zero_le _, rfl, Nat.zero_le _, rfl, rfl, Own.nil _ _ _, Below.refl _ _⟩
    case round =>
      obtain ⟨k, a, p, c, hk, rfl, hp28, rfl, rfl, hown, hb⟩ := hrel
      by_cases hlt : p < n1
      · obtain ⟨g, rfl, hg, hcell⟩ := (ho1.keep hb).strAt hlt
        by_cases hfull : p = 28
        · subst hfull
          have hrl : R.length = n1 := by rw [Hout.out, List.length_map]; exact Hn1.out
          have hgd : rowB R = false := by
            cases h : rowB R
            · rfl
            · have := (row_iff.1 h).len; omega
          have hm := Hnot.out hgd
          have hbb := hb1.trans (hb.mono hb1.size)
          clear hrl
          have Hm := Lib.hid hm; clear hm
          have Hgd := Lib.hid hgd; clear hgd
          go_wp2
          go_ret2
          rw [Hm.out]
          exact ⟨none, 0, 0, rfl, Own.nil _ _ _, hbb⟩
        · have hot := outL_take (O := O) (k := p) (by have := Hn1.out; omega)
          have hwd := getD_word (k := p) Hwl.out
          have hcon := l1Read_any ⟨(O.getD p []).toArray⟩ wr (by show (O.getD p []).toArray.size ≤ _; rw [List.size_toArray]; omega)
          simp only [List.toList_toArray] at hcon
          generalize O.getD p [] = W at *
          have hrb := readL_bounds W
          generalize readL W = r at *
          have hp28' : ¬ (p : Int) = 28 := by omega
          have hp28b : ((p : Int) == 28) = false := by simp; omega
          have hp28d : decide ((p : Int) = 28) = false := decide_eq_false hp28'
          have Hot := Lib.hid hot; clear hot
          have Hcon := Lib.hid hcon; clear hcon
          have Hwd := Lib.hid hwd; clear hwd
          have Hfull := Lib.hid hfull; clear hfull
          clear ho1
          go_wp2_with fail
          with_reducible refine (Hcon.out).mono ?_
          rintro e w2 ⟨rfl, rfl⟩
          go_wp2_with (at_builtin; refine wpList_push wr rfl _ _ rfl wo.heap.size wr.heap.size a p c _ rfl hown _ rfl (by omega) hb.size ?_)
          intro a3 c3 w3 ho3 hc3
          have hb3 := hb.trans (hown.chgBelow hc3 hb.size)
          clear hown hc3
          go_wp2
          go_roundw
          case rel => exact ⟨p + 1, a3, p + 1, c3, by omega, rfl, by omega, by go_num, rfl, by rw [Hot.out]; exact ho3, hb3⟩
          case measure => simp [intOf] <;> omega
      · obtain rfl : n1 = p := by omega
        rw [List.take_of_length_le (by rw [List.length_map]; have := Hn1.out; omega), ← Hout.out] at hown
        have hbb := hb1.trans (hb.mono hb1.size)
        cases hgd : rowB R
        · have hcon := roGood_no _ _ _ _ wr hown.at hgd
          have hm := Hnot.out hgd
          have Hcon := Lib.hid hcon; clear hcon
          have Hm := Lib.hid hm; clear hm
          have Hgd := Lib.hid hgd; clear hgd
          go_wp2_with fail
          with_reducible refine (Hcon.out).mono ?_
          rintro e w2 ⟨rfl, rfl⟩
          go_wp2
          go_ret2
          rw [Hm.out]
          exact ⟨none, 0, 0, rfl, Own.nil _ _ _, hbb⟩
        · have hcon := roGood_yes _ _ _ _ wr hown.at (row_iff.1 hgd)
          have hm := Hyes.out hgd
          have htx := roText_any _ _ _ _ wr hown.at (row_iff.1 hgd)
          rw [Htext.out hgd, str_data s] at htx
          have Hcon := Lib.hid hcon; clear hcon
          have Hm := Lib.hid hm; clear hm
          have Hgd := Lib.hid hgd; clear hgd
          have Htx := Lib.hid htx; clear htx
          go_wp2_with fail
          with_reducible refine (Hcon.out).mono ?_
          rintro e w2 ⟨rfl, rfl⟩
          go_wp2_with fail
          with_reducible refine (Htx.out).mono ?_
          rintro e w3 ⟨rfl, hb3⟩
          have hown3 := (hown.keep hb3).mono hb1.size hb3.size
          have hbb3 := hbb.trans (hb3.mono hbb.size)
          clear hown hbb hb3
          have Hown3 := Lib.hid hown3; clear hown3
          have Hbb3 := Lib.hid hbb3; clear hbb3
          go_wp2
          go_ret2
          rw [Hm.out]
          exact ⟨_, _, _, rfl, Hown3.out, Hbb3.out⟩
theorem impl_ParseRow (s : ByteArray) (w : World) (hs : s.size ≤ 1048576) (hL : LibOk w) :
    Calls Tryz.prog 104 #[.string s] w fun e w' => ∃ ao' n' cap', e = .returned (.tuple #[.slice ao' n' cap', .bool (mParseRow s).2]) ∧ Own w.heap.size w'.heap.size w' ao' n' cap' (mParseRow s).1 ∧ Below w.heap.size w w' := by
  have hcon := splitNumbers_any s 44 [45] w hs hL
  change Calls Tryz.prog 159 #[.string s, .string ⟨#[44]⟩, .string ⟨#[45]⟩] _ _ at hcon
  have Hcon := Lib.hid hcon; clear hcon
  go_enter Tryz.func104, Tryz.ntmps104
  go_wp2_with fail
  with_reducible refine (Hcon.out).mono ?_
  rintro e w1 ⟨a1, n1, c1, vals, b, rfl, ho1, hsp, hb1⟩
  have hp := row_of_split hsp
  cases b
  · have hq := hp.1 rfl
    have Hp := Lib.hid hp; clear hp
    have Hsp := Lib.hid hsp; clear hsp
    have Hq := Lib.hid hq; clear hq
    go_wp2
    go_ret2
    rw [Hq.out]
    exact ⟨none, 0, 0, rfl, Own.nil _ _ _, hb1⟩
  · cases hg : rowB vals
    · have hq := hp.2.1 rfl hg
      have Hp := Lib.hid hp; clear hp
      have Hsp := Lib.hid hsp; clear hsp
      have Hg := Lib.hid hg; clear hg
      have Hq := Lib.hid hq; clear hq
      go_wp2_with fail
      with_reducible refine (isRowT_no _ _ _ _ _ ho1.at Hg.out).mono ?_
      rintro e w' ⟨rfl, rfl⟩
      go_wp2
      go_ret2
      rw [Hq.out]
      exact ⟨none, 0, 0, rfl, Own.nil _ _ _, hb1⟩
    · have hq := hp.2.2 rfl hg
      have Hp := Lib.hid hp; clear hp
      have Hsp := Lib.hid hsp; clear hsp
      have Hg := Lib.hid hg; clear hg
      have Hq := Lib.hid hq; clear hq
      go_wp2_with fail
      with_reducible refine (isRowT_yes _ _ _ _ _ ho1.at (row_iff.1 Hg.out)).mono ?_
      rintro e w' ⟨rfl, rfl⟩
      go_wp2
      go_ret2
      rw [Hq.out]
      exact ⟨_, _, _, rfl, ho1, hb1⟩
end
end Go.Proofs.YtimmjimeldejjaaGreatDoor
