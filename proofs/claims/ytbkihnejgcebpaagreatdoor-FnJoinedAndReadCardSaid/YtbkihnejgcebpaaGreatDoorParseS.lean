/- ParsePiles by the model. No condition but sizes. -/
import Derived.Test.YtbkihnejgcebpaaGreatDoorSplit
namespace Go.Proofs.YtbkihnejgcebpaaGreatDoor
open Go.RowKit
set_option linter.unusedVariables false
set_option linter.unusedSimpArgs false

theorem bytes_eq {s : ByteArray} {l : List UInt8} (h : s.data.toList = l) : s = ⟨l.toArray⟩ := by
  apply ByteArray.ext; subst h; simp
theorem bytes_ne {s : ByteArray} {l : List UInt8} (h : s.data.toList ≠ l) : (s.toList == l) = false := by
  rw [beq_eq_false_iff_ne, ByteArray.toList_eq]; exact h
theorem bytes_is {s : ByteArray} {l : List UInt8} (h : s.data.toList = l) : (s.toList == l) = true := by
  rw [beq_iff_eq, ByteArray.toList_eq]; exact h
theorem mParse_zero {s : ByteArray} (h : s.data.toList = [48]) : mParsePiles s = ([], true) := by unfold mParsePiles; rw [if_pos h]
theorem mParse_yes {s : ByteArray} (h : s.data.toList ≠ [48]) (hg : goodB (outL s.data.toList) = true) : mParsePiles s = (outL s.data.toList, true) := by unfold mParsePiles; rw [if_neg h, if_pos hg]
theorem mParse_no {s : ByteArray} (h : s.data.toList ≠ [48]) (hg : goodB (outL s.data.toList) = false) : mParsePiles s = ([], false) := by unfold mParsePiles; rw [if_neg h, if_neg (by rw [hg]; simp)]
theorem splitL_le (b : UInt8) (l : List UInt8) : (splitL b l).length ≤ l.length + 1 := by rw [splitL_length]; have := List.count_le_length (a := b) (l := l); omega
/-- a word of those that were split -/
theorem strVs_getD {O : List (List UInt8)} {k : Nat} (h : k < O.length) : (strVs O).getD k undef = .string ⟨(O.getD k []).toArray⟩ := by
  unfold strVs
  rw [List.getD_eq_getElem?_getD, List.getElem?_map, List.getElem?_eq_getElem h, List.getD_eq_getElem?_getD, List.getElem?_eq_getElem h]; rfl
theorem splitL_word_le (b : UInt8) (l : List UInt8) : ∀ w ∈ splitL b l, w.length ≤ l.length := by
  induction l with
  | nil => intro w hw; simp [splitL] at hw; subst hw; simp
  | cons c l ih =>
    intro w hw
    unfold splitL at hw
    split at hw
    · rcases List.mem_cons.1 hw with rfl | h
      · simp
      · have := ih w h; simp only [List.length_cons]; omega
    · cases hs : splitL b l with
      | nil => exact absurd hs (splitL_ne b l)
      | cons h t =>
        rw [hs] at hw ih
        rcases List.mem_cons.1 hw with rfl | h'
        · have := ih h (by simp); simp only [List.length_cons]; omega
        · have := ih w (by simp [h']); simp only [List.length_cons]; omega
theorem getD_word {O : List (List UInt8)} {k b : Nat} (h : ∀ w ∈ O, w.length ≤ b) : (O.getD k []).length ≤ b := by
  by_cases hk : k < O.length
  · rw [List.getD_eq_getElem?_getD, List.getElem?_eq_getElem hk]; exact h _ (List.getElem_mem hk)
  · rw [List.getD_eq_getElem?_getD, List.getElem?_eq_none (by omega)]; simp
theorem outL_take {O : List (List UInt8)} {k : Nat} (h : k < O.length) : (O.map readL).take (k + 1) = (O.map readL).take k ++ [readL (O.getD k [])] := by
  rw [List.take_add_one, List.getElem?_map, List.getElem?_eq_getElem h, List.getD_eq_getElem?_getD, List.getElem?_eq_getElem h]; rfl

/-- a string of a row that the call made -/
theorem OwnRow.strAt {B E w ao n cap O} (h : OwnRow B E w 9 ao n cap (strVs O)) {k : Nat} (hk : k < n) : ∃ g, ao = some ⟨g, 0, none⟩ ∧ g < w.heap.size ∧ w.cell? ⟨g, k, none⟩ = some (.string ⟨(O.getD k []).toArray⟩) := by
  have hl := h.length
  rcases h.cases with ⟨_, rfl, _⟩ | ⟨g, rfl, _, _, hg⟩
  · omega
  refine ⟨g, rfl, hg, ?_⟩
  have h1 := World.ownsRow.cellAt h.1 k (by omega)
  have hO : k < O.length := by simp [strVs] at hl; omega
  rw [h1, ← strVs_getD hO, List.getD_eq_getElem?_getD, List.getElem?_eq_getElem (by simp [strVs]; exact hO)]
  rfl

set_option maxHeartbeats 1600000 in
set_option maxRecDepth 100000 in
theorem spec_ParsePiles (s : ByteArray) (w : World) (hs : s.size ≤ 1048576) :
    Calls Tryz.prog 14 #[.string s] w fun e w' => ∃ ao' n' cap', e = .returned (.tuple #[.slice ao' n' cap', .bool (mParsePiles s).2]) ∧ Own w.heap.size w'.heap.size w' ao' n' cap' (mParsePiles s).1 ∧ Below w.heap.size w w' := by
  by_cases hz : s.data.toList = [48]
  · have hm := mParse_zero hz
    have e := bytes_eq hz
    subst e
    have Hm := Lib.hid hm; clear hm
    have Hz := Lib.hid hz; clear hz
    go_enter Tryz.func14, Tryz.ntmps14
    go_wp2
    go_ret2
    rw [Hm.out]
    exact ⟨none, 0, 0, rfl, Own.nil _ _ _, Below.refl _ _⟩
  · have hne := bytes_ne hz
    have hsp := l1Split_any s 43 w hs
    rw [show (((43 : UInt8).toNat : Nat) : Int) = 43 from rfl] at hsp
    have hwl := splitL_word_le 43 s.data.toList
    have hcl := splitL_le 43 s.data.toList
    have hsz : s.data.toList.length = s.size := rfl
    have hout : outL s.data.toList = (splitL 43 s.data.toList).map readL := rfl
    have hyes := fun h => mParse_yes (s := s) hz h
    have hnot := fun h => mParse_no (s := s) hz h
    generalize splitL 43 s.data.toList = O at *
    generalize outL s.data.toList = R at *
    have Hz := Lib.hid hz; clear hz
    have Hsp := Lib.hid hsp; clear hsp
    have Hwl := Lib.hid hwl; clear hwl
    have Hout := Lib.hid hout; clear hout
    have Hyes := Lib.hid hyes; clear hyes
    have Hnot := Lib.hid hnot; clear hnot
    go_enter Tryz.func14, Tryz.ntmps14
    go_wp2_with fail
    with_reducible refine (Hsp.out).mono ?_
    rintro e w1 ⟨a1, n1, c1, rfl, ho1, hb1⟩
    have hn1 := ho1.length
    simp only [strVs, List.length_map] at hn1
    have Hn1 := Lib.hid hn1; clear hn1
    have hn8 : (n1 : Int) ≤ 1048577 := by have := Hn1.out; omega
    obtain ⟨wo, hwo⟩ : ∃ wo : World, wo = w1 := ⟨_, rfl⟩
    subst hwo
    go_wp2_with fail
    go_loopw [4, 12] (fun v i wr => ∃ (k : Nat) (a : Option Addr) (p c : Nat), k ≤ n1 ∧ p = k ∧ i = .int .i64 k ∧ v = .slice a p c ∧ Own wo.heap.size wr.heap.size wr a p c ((O.map readL).take k) ∧ Below wo.heap.size wo wr) (fun _ i _ => n1 - (intOf i).toNat)
    case atStart => exact ⟨0, none, 0, 0, Nat.zero_le _, rfl, rfl, rfl, Own.nil _ _ _, Below.refl _ _⟩
    case round =>
      obtain ⟨k, a, p, c, hk, rfl, rfl, rfl, hown, hb⟩ := hrel
      by_cases hlt : p < n1
      · obtain ⟨g, rfl, hg, hcell⟩ := (ho1.keep hb).strAt hlt
        have hot := outL_take (O := O) (k := p) (by have := Hn1.out; omega)
        have hwd := getD_word (k := p) Hwl.out
        have hcon := l1Read_any ⟨(O.getD p []).toArray⟩ wr (by show (O.getD p []).toArray.size ≤ _; rw [List.size_toArray]; omega)
        simp only [List.toList_toArray] at hcon
        generalize O.getD p [] = W at *
        have hrb := readL_bounds W
        generalize readL W = r at *
        have Hot := Lib.hid hot; clear hot
        have Hcon := Lib.hid hcon; clear hcon
        have Hwd := Lib.hid hwd; clear hwd
        clear ho1
        go_wp2_with fail
        with_reducible refine (Hcon.out).mono ?_
        rintro e w2 ⟨rfl, rfl⟩
        go_wp2_with (at_builtin; refine wpList_push wr rfl _ _ rfl wo.heap.size wr.heap.size a p c _ rfl hown _ rfl (by omega) hb.size ?_)
        intro a3 c3 w3 ho3 hc3
        have hb3 := hb.trans (hown.chgBelow hc3 hb.size)
        clear hown hc3
        go_wp2
        go_roundw
        case rel => exact ⟨p + 1, a3, p + 1, c3, by omega, rfl, by go_num, rfl, by rw [Hot.out]; exact ho3, hb3⟩
        case measure => simp [intOf] <;> omega
      · obtain rfl : n1 = p := by omega
        rw [List.take_of_length_le (by rw [List.length_map]; have := Hn1.out; omega), ← Hout.out] at hown
        have hbb := hb1.trans (hb.mono hb1.size)
        cases hgd : goodB R
        · have hcon := piGoodT_no _ _ _ _ wr hown.at hgd
          have hm := Hnot.out hgd
          have Hcon := Lib.hid hcon; clear hcon
          have Hm := Lib.hid hm; clear hm
          have Hgd := Lib.hid hgd; clear hgd
          go_wp2_with fail
          with_reducible refine (Hcon.out).mono ?_
          rintro e w2 ⟨rfl, rfl⟩
          go_wp2
          go_ret2
          rw [Hm.out]
          exact ⟨none, 0, 0, rfl, Own.nil _ _ _, hbb⟩
        · have hcon := piGoodT_yes _ _ _ _ wr hown.at (good_iff.1 hgd)
          have hm := Hyes.out hgd
          have Hcon := Lib.hid hcon; clear hcon
          have Hm := Lib.hid hm; clear hm
          have Hgd := Lib.hid hgd; clear hgd
          go_wp2_with fail
          with_reducible refine (Hcon.out).mono ?_
          rintro e w2 ⟨rfl, rfl⟩
          go_wp2
          go_ret2
          rw [Hm.out]
          exact ⟨_, _, _, rfl, hown.mono hb1.size (Nat.le_refl _), hbb⟩
end Go.Proofs.YtbkihnejgcebpaaGreatDoor
