/- Several texts in one: DeD, DlA, DlB. No condition. -/
import Derived.Test.YtimmjimeldejjaaGreatDoorGx
import Derived.Test.YtimmjimeldejjaaGreatDoorGy
import Derived.Test.YtimmjimeldejjaaGreatDoorGt
import Derived.Test.YtimmjimeldejjaaGreatDoorGu
import Derived.Test.YtimmjimeldejjaaGreatDoorDk0
import Derived.Test.YtimmjimeldejjaaGreatDoorGj
import Derived.Test.YtimmjimeldejjaaGreatDoorGk
import Derived.Test.YtimmjimeldejjaaGreatDoorCo1
import Derived.Test.YtimmjimeldejjaaGreatDoorSL
namespace Go.Proofs.YtimmjimeldejjaaGreatDoor
section
open Go.RowKit
set_option linter.unusedVariables false
set_option linter.unusedSimpArgs false
set_option maxRecDepth 20000

/-- a row of texts that was just laid -/
theorem strsAt_new (w : World) (O : List (List UInt8)) (hm : O.length ≤ maxLen) : ValsAt (w.alloc (.cells (strVs O).toArray 9)) (some ⟨w.heap.size, 0, none⟩) O.length O.length (strVs O) := by
  refine ⟨by simp [strVs], Nat.le_refl _, hm, (fun e => by cases e), fun j hj => ⟨w.heap.size, 0, rfl, by simp, fun i hi => ?_⟩⟩
  have hi' : i < (strVs O).length := by simpa [strVs] using hi
  rw [World.cell?_alloc_at _ _ _ _ rfl, Nat.zero_add, List.getElem?_toArray, List.getElem?_eq_getElem hi', List.getD_eq_getElem?_getD, List.getElem?_eq_getElem hi']
  rfl
theorem of_any (n cap : Nat) (ao : Option Addr) (O : List (List UInt8)) (w : World) (g A : Nat) (hx : ValsAt w ao n cap (strVs O)) (hO : ∀ t ∈ O, t.length ≤ 16) (hag : ∀ b o, ao = some ⟨b, o, none⟩ → b ≠ g ∧ b < w.heap.size) (h : Cur w g A) (hA : A ≤ 900000000) (hn : 1 ≤ n) (hn2 : n ≤ 1048576) :
    Calls Tryz.prog 57 #[.pointer (some ⟨g, 0, none⟩), .slice ao n cap] w fun e w' => ∃ s : ByteArray, e = .returned (.string s) ∧ s.size ≤ 16 ∧ Cur w' g (A + 2) ∧ Chg (fun k => k = g) w w' := by
  have hcon := pick_any n w g A h hA hn hn2
  have hn8 : (n : Int) ≤ 1048576 := by omega
  have hOl : O.length = n := by have := hx.length; simpa [strVs] using this
  have Hcon := Lib.hid hcon; clear hcon
  have HO := Lib.hid hO; clear hO
  have HOl := Lib.hid hOl; clear hOl
  go_enter Tryz.func57, Tryz.ntmps57
  go_wp2_with fail
  with_reducible refine (Hcon.out).mono ?_
  rintro e w1 ⟨i, hi, rfl, hc1, hg1⟩
  obtain ⟨b, o, rfl, hw0⟩ := wordAt hx hi
  obtain ⟨hbg, hbl⟩ := hag b o rfl
  have hci : w1.cell? ⟨b, o + i, none⟩ = some (.string ⟨(O.getD i []).toArray⟩) := by
    have := World.cell?_of_block (a := ⟨b, o + i, none⟩) (hg1.block b hbl hbg)
    rw [this]; exact hw0
  have hsz : (⟨(O.getD i []).toArray⟩ : ByteArray).size ≤ 16 := by
    show (O.getD i []).toArray.size ≤ 16
    rw [List.size_toArray]
    refine HO.out _ ?_
    rw [List.getD_eq_getElem?_getD, List.getElem?_eq_getElem (by rw [HOl.out]; exact hi)]
    exact List.getElem_mem _
  generalize (⟨(O.getD i []).toArray⟩ : ByteArray) = s at *
  clear hw0
  have Hc1 := Lib.hid hc1; clear hc1
  have Hg1 := Lib.hid hg1; clear hg1
  go_wp2
  go_ret
  exact ⟨s, rfl, hsz, Hc1.out, Hg1.out⟩
theorem d8L_small {xs : List Int} (hl : xs.length ≤ 28) (h : ∀ x ∈ xs, x ≤ 28) : (textL xs).length ≤ 100 := by
  unfold textL
  split
  · simp
  · have := joinL_length h xs.length
    rw [List.take_length] at this
    omega
theorem d8W_small {xs : List Int} (h : RowOk xs) : (textW xs).length ≤ 100 := by
  have hl := h.len
  unfold textW
  split
  · simp
  · have := joinW_length (fun x hx => (h.mem hx).2) xs.length
    rw [List.take_length] at this
    omega
def L8Post (g A : Nat) (w : World) (e : Ending) (w' : World) : Prop := ∃ s : ByteArray, e = .returned (.string s) ∧ s.size ≤ 1200 ∧ Cur w' g A ∧ Chg (fun k => k = g) w w'
theorem num_of11 {i : Nat} (hi : i < 11) : ∃ n : Nat, n ≤ 1001 ∧ ([0, 1, 2, 3, 4, 6, 7, 10, 28, 1000, 1001] : List Int).getD i 0 = (n : Int) := by
  have hall : ∀ i : Fin 11, ∃ n : Fin 1002, ([0, 1, 2, 3, 4, 6, 7, 10, 28, 1000, 1001] : List Int).getD i.val 0 = ((n.val : Nat) : Int) := by
    intro i
    match i with
    | ⟨0, _⟩ => exact ⟨⟨0, by omega⟩, rfl⟩
    | ⟨1, _⟩ => exact ⟨⟨1, by omega⟩, rfl⟩
    | ⟨2, _⟩ => exact ⟨⟨2, by omega⟩, rfl⟩
    | ⟨3, _⟩ => exact ⟨⟨3, by omega⟩, rfl⟩
    | ⟨4, _⟩ => exact ⟨⟨4, by omega⟩, rfl⟩
    | ⟨5, _⟩ => exact ⟨⟨6, by omega⟩, rfl⟩
    | ⟨6, _⟩ => exact ⟨⟨7, by omega⟩, rfl⟩
    | ⟨7, _⟩ => exact ⟨⟨10, by omega⟩, rfl⟩
    | ⟨8, _⟩ => exact ⟨⟨28, by omega⟩, rfl⟩
    | ⟨9, _⟩ => exact ⟨⟨1000, by omega⟩, rfl⟩
    | ⟨10, _⟩ => exact ⟨⟨1001, by omega⟩, rfl⟩
  obtain ⟨n, hn⟩ := hall ⟨i, hi⟩
  exact ⟨n.val, by have := n.isLt; omega, hn⟩
theorem bsz (a : Array UInt8) : (⟨a⟩ : ByteArray).size = a.size := rfl
theorem num_size {n : Nat} (h : n ≤ 1001) : (⟨(Lib.decDigits n).toArray⟩ : ByteArray).size ≤ 4 := by
  show (Lib.decDigits n).toArray.size ≤ 4
  rw [List.size_toArray, Lib.decDigits_length]
  exact nDigits_six 3 n (by omega)
set_option maxHeartbeats 6400000 in
theorem line8_any (w : World) (g A : Nat) (h : Cur w g A) (hA : A ≤ 600000000) :
    Calls Tryz.prog 35 #[.pointer (some ⟨g, 0, none⟩)] w fun e w' => L8Post g (A + 800) w e w' := by
  have hgl := h.lt
  have hbA := belowAlloc w (.cells (([0, 1, 2, 3, 4, 6, 7, 10, 28, 1000, 1001] : List Int).map (Value.int .i64)).toArray 3)
  have hcon := among_any 11 11 (some ⟨w.heap.size, 0, none⟩) [0, 1, 2, 3, 4, 6, 7, 10, 28, 1000, 1001] _ g A (intsAt_new w _ (by unfold maxLen; decide)) (fun b o e => by cases e; omega) (h.keep hbA) (by omega) (by omega) (by omega)
  have hcon2 : Calls Tryz.prog 54 #[.pointer (some ⟨g, 0, none⟩), .slice (some ⟨w.heap.size, 0, none⟩) 11 11] (w.alloc (.cells #[.int .i64 0, .int .i64 1, .int .i64 2, .int .i64 3, .int .i64 4, .int .i64 6, .int .i64 7, .int .i64 10, .int .i64 28, .int .i64 1000, .int .i64 1001] 3)) (fun e w1 => ∃ n : Nat, n ≤ 1001 ∧ e = .returned (.int .i64 (n : Int)) ∧ Cur w1 g (A + 2) ∧ Chg (fun k => k = g) w w1) := hcon.mono (fun e w1 ⟨i, hi, e1, e2, e3⟩ => by
    obtain ⟨n, h1, h2⟩ := num_of11 hi
    exact ⟨n, h1, by rw [e1, h2], e2, e3.allocFirst⟩)
  clear hcon hbA h
  have Hcon2 := Lib.hid hcon2; clear hcon2
  go_enter Tryz.func35, Tryz.ntmps35
  go_wp2_with fail
  with_reducible refine (Hcon2.out).mono ?_
  rintro e w1 ⟨n, hn, rfl, hc1, hg1⟩
  have hnum := l1Num_any n n w1 (Nat.le_refl _) (by omega)
  have hns := num_size hn
  generalize (⟨(Lib.decDigits n).toArray⟩ : ByteArray) = N at *
  have Hnum := Lib.hid hnum; clear hnum
  go_wp2_with fail
  with_reducible refine (Hnum.out).mono ?_
  rintro e w2 ⟨rfl, hb2⟩
  have hc2 := hc1.keep hb2
  have hg2 := hg1.trans (Chg.ofBelow hb2)
  clear hc1 hg1 hb2 Hcon2 hn
  have hpk := pick_any 12 w2 g (A + 2) hc2 (by omega) (by omega) (by omega)
  rw [show ((12 : Nat) : Int) = 12 from rfl] at hpk
  have Hpk := Lib.hid hpk; clear hpk
  go_wp2_with fail
  with_reducible refine (Hpk.out).mono ?_
  rintro e w3 ⟨p, hp, rfl, hc3, hg3⟩
  have hg4 := hg2.trans hg3
  have hgl3 := hc3.lt
  clear hc2 hg2 hg3 Hpk Hnum
  have hcase : p = 0 ∨ p = 1 ∨ p = 2 ∨ p = 3 ∨ p = 4 ∨ p = 5 ∨ p = 6 ∨ p = 7 ∨ p = 8 ∨ p = 9 ∨ p = 10 ∨ p = 11 := by omega
  rcases hcase with rfl | rfl | rfl | rfl | rfl | rfl | rfl | rfl | rfl | rfl | rfl | rfl
  · have hpl := drawPiles_any 12 w3 g (A + 2 + 2) hc3 (by omega) (by omega)
    rw [show ((12 : Nat) : Int) = 12 from rfl] at hpl
    have Hpl := Lib.hid hpl; clear hpl
    go_wp2_with fail
    with_reducible refine (Hpl.out).mono ?_
    rintro e w5 ⟨a, m, c, xs, rfl, ho, hm, hpos, hc5, hg5⟩
    have hl := ho.length
    have htx := piTextP_any a m c xs w5 ho.at (by omega) hpos
    have hsm := d8L_small (xs := xs) (by omega) (fun x hx => (hpos x hx).2)
    have hsz : (⟨(textL xs).toArray⟩ : ByteArray).size ≤ 1000 := by show (textL xs).toArray.size ≤ _; rw [List.size_toArray]; omega
    generalize (⟨(textL xs).toArray⟩ : ByteArray) = T at *
    have hg6 := hg4.trans hg5
    have hno : ¬ (9223372036854775807 < 5 + T.size) := by omega
    clear ho hpos hsm hg5 hg4 hc3
    have Htx := Lib.hid htx; clear htx
    go_wp2_with fail
    with_reducible refine (Htx.out).mono ?_
    rintro e w6 ⟨rfl, hb6⟩
    have hcf := hc5.keep hb6
    have hgf := hg6.trans (Chg.ofBelow hb6)
    clear hc5 hg6 hb6
    have Hcf := Lib.hid hcf; clear hcf
    have Hgf := Lib.hid hgf; clear hgf
    go_wp2
    go_ret
    exact ⟨_, rfl, by simp only [ByteArray.size_append, bsz, List.size_toArray, List.length_cons, List.length_nil]; omega, (Hcf.out).le (by omega), Hgf.out⟩
  · have hpl := drawPiles_any 12 w3 g (A + 2 + 2) hc3 (by omega) (by omega)
    rw [show ((12 : Nat) : Int) = 12 from rfl] at hpl
    have Hpl := Lib.hid hpl; clear hpl
    go_wp2_with fail
    with_reducible refine (Hpl.out).mono ?_
    rintro e w5 ⟨a, m, c, xs, rfl, ho, hm, hpos, hc5, hg5⟩
    have hl := ho.length
    have htx := piTextP_any a m c xs w5 ho.at (by omega) hpos
    have hsm := d8L_small (xs := xs) (by omega) (fun x hx => (hpos x hx).2)
    have hsz : (⟨(textL xs).toArray⟩ : ByteArray).size ≤ 1000 := by show (textL xs).toArray.size ≤ _; rw [List.size_toArray]; omega
    generalize (⟨(textL xs).toArray⟩ : ByteArray) = T at *
    have hg6 := hg4.trans hg5
    have hno : ¬ (9223372036854775807 < 5 + T.size) := by omega
    clear ho hpos hsm hg5 hg4 hc3
    have Htx := Lib.hid htx; clear htx
    go_wp2_with fail
    with_reducible refine (Htx.out).mono ?_
    rintro e w6 ⟨rfl, hb6⟩
    have hcf := hc5.keep hb6
    have hgf := hg6.trans (Chg.ofBelow hb6)
    clear hc5 hg6 hb6
    have Hcf := Lib.hid hcf; clear hcf
    have Hgf := Lib.hid hgf; clear hgf
    go_wp2
    go_ret
    exact ⟨_, rfl, by simp only [ByteArray.size_append, bsz, List.size_toArray, List.length_cons, List.length_nil]; omega, (Hcf.out).le (by omega), Hgf.out⟩
  · have hbB := belowAlloc w3 (.cells (strVs [[115, 116, 101, 112], [115, 116, 101, 112], [115, 105, 100, 101], [115, 104, 111, 119]]).toArray 9)
    have hof := of_any 4 4 (some ⟨w3.heap.size, 0, none⟩) [[115, 116, 101, 112], [115, 116, 101, 112], [115, 105, 100, 101], [115, 104, 111, 119]] _ g (A + 2 + 2) (strsAt_new w3 _ (by unfold maxLen; decide)) (by decide) (fun b o e => by cases e; exact ⟨by omega, by simp⟩) (hc3.keep hbB) (by omega) (by omega) (by omega)
    have hof2 : Calls Tryz.prog 57 #[.pointer (some ⟨g, 0, none⟩), .slice (some ⟨w3.heap.size, 0, none⟩) 4 4] (w3.alloc (.cells #[.string ⟨#[115, 116, 101, 112]⟩, .string ⟨#[115, 116, 101, 112]⟩, .string ⟨#[115, 105, 100, 101]⟩, .string ⟨#[115, 104, 111, 119]⟩] 9)) fun e w' => ∃ s : ByteArray, e = .returned (.string s) ∧ s.size ≤ 16 ∧ Cur w' g (A + 2 + 2 + 2) ∧ Chg (fun k => k = g) w w' := hof.mono (fun e w' ⟨s, e1, e2, e3, e4⟩ => ⟨s, e1, e2, e3, hg4.trans e4.allocFirst⟩)
    clear hof hbB hc3 hg4
    have Hof2 := Lib.hid hof2; clear hof2
    go_wp2_with fail
    with_reducible refine (Hof2.out).mono ?_
    rintro e w5 ⟨T, rfl, hT, hc5, hg5⟩
    have hcf := hc5
    have hgf := hg5
    clear hc5 hg5
    have Hcf := Lib.hid hcf; clear hcf
    have Hgf := Lib.hid hgf; clear hgf
    go_wp2
    go_ret
    exact ⟨_, rfl, by omega, (Hcf.out).le (by omega), Hgf.out⟩
  · have hbB := belowAlloc w3 (.cells (strVs [[115, 116, 101, 112], [115, 116, 101, 112], [115, 105, 100, 101], [115, 104, 111, 119]]).toArray 9)
    have hof := of_any 4 4 (some ⟨w3.heap.size, 0, none⟩) [[115, 116, 101, 112], [115, 116, 101, 112], [115, 105, 100, 101], [115, 104, 111, 119]] _ g (A + 2 + 2) (strsAt_new w3 _ (by unfold maxLen; decide)) (by decide) (fun b o e => by cases e; exact ⟨by omega, by simp⟩) (hc3.keep hbB) (by omega) (by omega) (by omega)
    have hof2 : Calls Tryz.prog 57 #[.pointer (some ⟨g, 0, none⟩), .slice (some ⟨w3.heap.size, 0, none⟩) 4 4] (w3.alloc (.cells #[.string ⟨#[115, 116, 101, 112]⟩, .string ⟨#[115, 116, 101, 112]⟩, .string ⟨#[115, 105, 100, 101]⟩, .string ⟨#[115, 104, 111, 119]⟩] 9)) fun e w' => ∃ s : ByteArray, e = .returned (.string s) ∧ s.size ≤ 16 ∧ Cur w' g (A + 2 + 2 + 2) ∧ Chg (fun k => k = g) w w' := hof.mono (fun e w' ⟨s, e1, e2, e3, e4⟩ => ⟨s, e1, e2, e3, hg4.trans e4.allocFirst⟩)
    clear hof hbB hc3 hg4
    have Hof2 := Lib.hid hof2; clear hof2
    go_wp2_with fail
    with_reducible refine (Hof2.out).mono ?_
    rintro e w5 ⟨T, rfl, hT, hc5, hg5⟩
    have hcf := hc5
    have hgf := hg5
    clear hc5 hg5
    have Hcf := Lib.hid hcf; clear hcf
    have Hgf := Lib.hid hgf; clear hgf
    go_wp2
    go_ret
    exact ⟨_, rfl, by omega, (Hcf.out).le (by omega), Hgf.out⟩
  · have hbB := belowAlloc w3 (.cells (strVs [[115, 116, 101, 112, 115, 32], [112, 97, 115, 116, 32], [115, 116, 97, 105, 114, 115, 32], [112, 97, 115, 116, 32]]).toArray 9)
    have hof := of_any 4 4 (some ⟨w3.heap.size, 0, none⟩) [[115, 116, 101, 112, 115, 32], [112, 97, 115, 116, 32], [115, 116, 97, 105, 114, 115, 32], [112, 97, 115, 116, 32]] _ g (A + 2 + 2) (strsAt_new w3 _ (by unfold maxLen; decide)) (by decide) (fun b o e => by cases e; exact ⟨by omega, by simp⟩) (hc3.keep hbB) (by omega) (by omega) (by omega)
    have hof2 : Calls Tryz.prog 57 #[.pointer (some ⟨g, 0, none⟩), .slice (some ⟨w3.heap.size, 0, none⟩) 4 4] (w3.alloc (.cells #[.string ⟨#[115, 116, 101, 112, 115, 32]⟩, .string ⟨#[112, 97, 115, 116, 32]⟩, .string ⟨#[115, 116, 97, 105, 114, 115, 32]⟩, .string ⟨#[112, 97, 115, 116, 32]⟩] 9)) fun e w' => ∃ s : ByteArray, e = .returned (.string s) ∧ s.size ≤ 16 ∧ Cur w' g (A + 2 + 2 + 2) ∧ Chg (fun k => k = g) w w' := hof.mono (fun e w' ⟨s, e1, e2, e3, e4⟩ => ⟨s, e1, e2, e3, hg4.trans e4.allocFirst⟩)
    clear hof hbB hc3 hg4
    have Hof2 := Lib.hid hof2; clear hof2
    go_wp2_with fail
    with_reducible refine (Hof2.out).mono ?_
    rintro e w5 ⟨T, rfl, hT, hc5, hg5⟩
    have hno : ¬ (9223372036854775807 < T.size + N.size) := by omega
    have hcf := hc5
    have hgf := hg5
    clear hc5 hg5
    have Hcf := Lib.hid hcf; clear hcf
    have Hgf := Lib.hid hgf; clear hgf
    go_wp2
    go_ret
    exact ⟨_, rfl, by simp only [ByteArray.size_append, bsz, List.size_toArray, List.length_cons, List.length_nil]; omega, (Hcf.out).le (by omega), Hgf.out⟩
  · have hrw := row_any 10 w3 g (A + 2 + 2) hc3 (by omega) (by omega)
    rw [show ((10 : Nat) : Int) = 10 from rfl] at hrw
    have Hrw := Lib.hid hrw; clear hrw
    go_wp2_with fail
    with_reducible refine (Hrw.out).mono ?_
    rintro e w4 ⟨a, m, c, xs, rfl, ho, hm, hc4, hg5⟩
    have hgd := roGood_any a m c xs w4 ho.at
    have hg6 := hg4.trans hg5
    have hgl4 := hc4.lt
    have hgr : g < w3.heap.size := hgl3
    clear hg5 hg4 hc3 hgl3
    by_cases hk : RowOk xs
    · rw [row_iff.2 hk] at hgd
      have hsm := d8W_small hk
      have hsz : (⟨(textW xs).toArray⟩ : ByteArray).size ≤ 1000 := by show (textW xs).toArray.size ≤ _; rw [List.size_toArray]; omega
      have htx := fun W (q : IntsAt W a m c xs) => roText_any a m c xs W q hk
      have hbB := belowAlloc w4 (.cells (strVs [[115, 111, 114, 116, 32], [114, 111, 119, 32], [111, 114, 98, 105, 116, 32]]).toArray 9)
      have hof := of_any 3 3 (some ⟨w4.heap.size, 0, none⟩) [[115, 111, 114, 116, 32], [114, 111, 119, 32], [111, 114, 98, 105, 116, 32]] _ g (A + 2 + 2 + 400) (strsAt_new w4 _ (by unfold maxLen; decide)) (by decide) (fun b o e => by cases e; exact ⟨by omega, by simp⟩) (hc4.keep hbB) (by omega) (by omega) (by omega)
      have hof2 : Calls Tryz.prog 57 #[.pointer (some ⟨g, 0, none⟩), .slice (some ⟨w4.heap.size, 0, none⟩) 3 3] (w4.alloc (.cells #[.string ⟨#[115, 111, 114, 116, 32]⟩, .string ⟨#[114, 111, 119, 32]⟩, .string ⟨#[111, 114, 98, 105, 116, 32]⟩] 9)) fun e w' => ∃ s : ByteArray, e = .returned (.string s) ∧ s.size ≤ 16 ∧ Cur w' g (A + 2 + 2 + 400 + 2) ∧ Chg (fun k => k = g) w w' ∧ IntsAt w' a m c xs := hof.mono (fun e w' ⟨s, e1, e2, e3, e4⟩ => ⟨s, e1, e2, e3, hg6.trans e4.allocFirst, ((ho.keep hbB).chg e4 (fun q h1 h2 _ e => by have := hgr; omega)).at⟩)
      generalize (⟨(textW xs).toArray⟩ : ByteArray) = T2 at *
      clear hof hbB hc4 hg6 ho hsm hk
      have Hof2 := Lib.hid hof2; clear hof2
      have Hgd := Lib.hid hgd; clear hgd
      have Htx := Lib.hid htx; clear htx
      go_wp2_with fail
      with_reducible refine (Hgd.out).mono ?_
      rintro e w' ⟨rfl, rfl⟩
      go_wp2_with fail
      with_reducible refine (Hof2.out).mono ?_
      rintro e w5 ⟨T, rfl, hT, hc5, hg5, hI5⟩
      have ht2 := Htx.out w5 hI5
      clear hI5
      have Ht2 := Lib.hid ht2; clear ht2
      go_wp2_with fail
      with_reducible refine (Ht2.out).mono ?_
      rintro e w6 ⟨rfl, hb6⟩
      have hno : ¬ (9223372036854775807 < T.size + T2.size) := by omega
      have hcf := hc5.keep hb6
      have hgf := hg5.trans (Chg.ofBelow hb6)
      clear hc5 hg5 hb6
      have Hcf := Lib.hid hcf; clear hcf
      have Hgf := Lib.hid hgf; clear hgf
      go_wp2
      go_ret
      exact ⟨_, rfl, by simp only [ByteArray.size_append, bsz, List.size_toArray, List.length_cons, List.length_nil]; omega, (Hcf.out).le (by omega), Hgf.out⟩
    · have hkb : rowB xs = false := by cases hq : rowB xs; rfl; exact absurd (row_iff.1 hq) hk
      rw [hkb] at hgd
      have hcf := hc4
      have hgf := hg6
      clear ho hc4 hg6 hk hkb
      have Hgd := Lib.hid hgd; clear hgd
      have Hcf := Lib.hid hcf; clear hcf
      have Hgf := Lib.hid hgf; clear hgf
      go_wp2_with fail
      with_reducible refine (Hgd.out).mono ?_
      rintro e w' ⟨rfl, rfl⟩
      go_wp2
      go_ret
      exact ⟨_, rfl, by decide, (Hcf.out).le (by omega), Hgf.out⟩
  · have hrw := row_any 10 w3 g (A + 2 + 2) hc3 (by omega) (by omega)
    rw [show ((10 : Nat) : Int) = 10 from rfl] at hrw
    have Hrw := Lib.hid hrw; clear hrw
    go_wp2_with fail
    with_reducible refine (Hrw.out).mono ?_
    rintro e w4 ⟨a, m, c, xs, rfl, ho, hm, hc4, hg5⟩
    have hgd := roGood_any a m c xs w4 ho.at
    have hg6 := hg4.trans hg5
    have hgl4 := hc4.lt
    have hgr : g < w3.heap.size := hgl3
    clear hg5 hg4 hc3 hgl3
    by_cases hk : RowOk xs
    · rw [row_iff.2 hk] at hgd
      have hsm := d8W_small hk
      have hsz : (⟨(textW xs).toArray⟩ : ByteArray).size ≤ 1000 := by show (textW xs).toArray.size ≤ _; rw [List.size_toArray]; omega
      have htx := fun W (q : IntsAt W a m c xs) => roText_any a m c xs W q hk
      have hbB := belowAlloc w4 (.cells (strVs [[115, 111, 114, 116, 32], [114, 111, 119, 32], [111, 114, 98, 105, 116, 32]]).toArray 9)
      have hof := of_any 3 3 (some ⟨w4.heap.size, 0, none⟩) [[115, 111, 114, 116, 32], [114, 111, 119, 32], [111, 114, 98, 105, 116, 32]] _ g (A + 2 + 2 + 400) (strsAt_new w4 _ (by unfold maxLen; decide)) (by decide) (fun b o e => by cases e; exact ⟨by omega, by simp⟩) (hc4.keep hbB) (by omega) (by omega) (by omega)
      have hof2 : Calls Tryz.prog 57 #[.pointer (some ⟨g, 0, none⟩), .slice (some ⟨w4.heap.size, 0, none⟩) 3 3] (w4.alloc (.cells #[.string ⟨#[115, 111, 114, 116, 32]⟩, .string ⟨#[114, 111, 119, 32]⟩, .string ⟨#[111, 114, 98, 105, 116, 32]⟩] 9)) fun e w' => ∃ s : ByteArray, e = .returned (.string s) ∧ s.size ≤ 16 ∧ Cur w' g (A + 2 + 2 + 400 + 2) ∧ Chg (fun k => k = g) w w' ∧ IntsAt w' a m c xs := hof.mono (fun e w' ⟨s, e1, e2, e3, e4⟩ => ⟨s, e1, e2, e3, hg6.trans e4.allocFirst, ((ho.keep hbB).chg e4 (fun q h1 h2 _ e => by have := hgr; omega)).at⟩)
      generalize (⟨(textW xs).toArray⟩ : ByteArray) = T2 at *
      clear hof hbB hc4 hg6 ho hsm hk
      have Hof2 := Lib.hid hof2; clear hof2
      have Hgd := Lib.hid hgd; clear hgd
      have Htx := Lib.hid htx; clear htx
      go_wp2_with fail
      with_reducible refine (Hgd.out).mono ?_
      rintro e w' ⟨rfl, rfl⟩
      go_wp2_with fail
      with_reducible refine (Hof2.out).mono ?_
      rintro e w5 ⟨T, rfl, hT, hc5, hg5, hI5⟩
      have ht2 := Htx.out w5 hI5
      clear hI5
      have Ht2 := Lib.hid ht2; clear ht2
      go_wp2_with fail
      with_reducible refine (Ht2.out).mono ?_
      rintro e w6 ⟨rfl, hb6⟩
      have hno : ¬ (9223372036854775807 < T.size + T2.size) := by omega
      have hcf := hc5.keep hb6
      have hgf := hg5.trans (Chg.ofBelow hb6)
      clear hc5 hg5 hb6
      have Hcf := Lib.hid hcf; clear hcf
      have Hgf := Lib.hid hgf; clear hgf
      go_wp2
      go_ret
      exact ⟨_, rfl, by simp only [ByteArray.size_append, bsz, List.size_toArray, List.length_cons, List.length_nil]; omega, (Hcf.out).le (by omega), Hgf.out⟩
    · have hkb : rowB xs = false := by cases hq : rowB xs; rfl; exact absurd (row_iff.1 hq) hk
      rw [hkb] at hgd
      have hcf := hc4
      have hgf := hg6
      clear ho hc4 hg6 hk hkb
      have Hgd := Lib.hid hgd; clear hgd
      have Hcf := Lib.hid hcf; clear hcf
      have Hgf := Lib.hid hgf; clear hgf
      go_wp2_with fail
      with_reducible refine (Hgd.out).mono ?_
      rintro e w' ⟨rfl, rfl⟩
      go_wp2
      go_ret
      exact ⟨_, rfl, by decide, (Hcf.out).le (by omega), Hgf.out⟩
  · have hbk := bank_any 12 w3 g (A + 2 + 2) hc3 (by omega) (by omega)
    rw [show ((12 : Nat) : Int) = 12 from rfl] at hbk
    have Hbk := Lib.hid hbk; clear hbk
    go_wp2_with fail
    with_reducible refine (Hbk.out).mono ?_
    rintro e w4 ⟨bh, bl, a, m, c, xs, rfl, ho, hm, hc4, hg5⟩
    have hbB := belowAlloc w4 (.cells #[.int .i64 bh, .int .i64 bl, .slice a m c] 84)
    obtain ⟨⟨x0, x1, x2⟩, y0, y1, y2⟩ := (Blk.new w4 bh bl a m c 84).cells
    have hI := (ho.keep hbB).at
    have hgd := baGood_any bh bl a m c xs _ hI
    unfold bankV at hgd
    have hg6 := (hg4.trans hg5).trans (Chg.ofBelow hbB)
    have hc6 := hc4.keep hbB
    have hkp := fun W (q : Below (w4.alloc (.cells #[.int .i64 bh, .int .i64 bl, .slice a m c] 84)).heap.size (w4.alloc (.cells #[.int .i64 bh, .int .i64 bl, .slice a m c] 84)) W) => (⟨hI.keep q, (Blk.new w4 bh bl a m c 84).keep q, hc6.keep q, hg6.trans (Chg.ofBelow q)⟩ : IntsAt W a m c xs ∧ Blk W w4.heap.size bh bl a m c 84 ∧ Cur W g (A + 2 + 2 + 300) ∧ Chg (fun k => k = g) w W)
    clear hg5 hg4 hc3 hc4 hbB ho hI hg6 hc6
    by_cases hk : BankOk ⟨bh, bl, xs⟩
    · rw [bank_iff.2 hk] at hgd
      have htx := fun W (q : IntsAt W a m c xs) => baText_any bh bl a m c xs W q hk
      have hsz : (⟨(bankL ⟨bh, bl, xs⟩).toArray⟩ : ByteArray).size ≤ 1000 := by
        show (bankL ⟨bh, bl, xs⟩).toArray.size ≤ _
        rw [List.size_toArray]
        have h1 := textL_length hk.2.2.1
        have h2 := dd_length bh (by have := hk.1; simp only at this; omega)
        have h3 := dd_length bl (by have := hk.1; have := hk.2.1; simp only at *; omega)
        show (dd bh ++ [58] ++ dd bl ++ [58] ++ textL xs).length ≤ 1000
        have h1' : (textL xs).length ≤ 85 := h1
        simp only [List.length_append, List.length_cons, List.length_nil]
        omega
      generalize (⟨(bankL ⟨bh, bl, xs⟩).toArray⟩ : ByteArray) = T at *
      clear hk
      have Hgd := Lib.hid hgd; clear hgd
      have Htx := Lib.hid htx; clear htx
      have Hkp := Lib.hid hkp; clear hkp
      go_wp2_with fail
      with_reducible refine (Hgd.out).mono ?_
      rintro e w5 ⟨rfl, hb5⟩
      obtain ⟨hI5, k5, hc5, hg5⟩ := Hkp.out w5 hb5
      clear x0 x1 x2 y0 y1 y2 hb5
      obtain ⟨⟨x0, x1, x2⟩, y0, y1, y2⟩ := k5.cells
      have ht2 := Htx.out w5 hI5
      clear hI5 k5
      have Ht2 := Lib.hid ht2; clear ht2
      go_wp2_with fail
      with_reducible refine (Ht2.out).mono ?_
      rintro e w6 ⟨rfl, hb6⟩
      have hno : ¬ (9223372036854775807 < 5 + T.size) := by omega
      have hcf := hc5.keep hb6
      have hgf := hg5.trans (Chg.ofBelow hb6)
      clear hc5 hg5 hb6
      have Hcf := Lib.hid hcf; clear hcf
      have Hgf := Lib.hid hgf; clear hgf
      go_wp2
      go_ret
      exact ⟨_, rfl, by simp only [ByteArray.size_append, bsz, List.size_toArray, List.length_cons, List.length_nil]; omega, (Hcf.out).le (by omega), Hgf.out⟩
    · rw [bank_no.2 hk] at hgd
      clear hk
      have Hgd := Lib.hid hgd; clear hgd
      have Hkp := Lib.hid hkp; clear hkp
      go_wp2_with fail
      with_reducible refine (Hgd.out).mono ?_
      rintro e w5 ⟨rfl, hb5⟩
      obtain ⟨-, -, hcf, hgf⟩ := Hkp.out w5 hb5
      clear hb5
      have Hcf := Lib.hid hcf; clear hcf
      have Hgf := Lib.hid hgf; clear hgf
      go_wp2
      go_ret
      exact ⟨_, rfl, by decide, (Hcf.out).le (by omega), Hgf.out⟩
  · have hp2 := pick_any 12 w3 g (A + 2 + 2) hc3 (by omega) (by omega) (by omega)
    rw [show ((12 : Nat) : Int) = 12 from rfl] at hp2
    have Hp2 := Lib.hid hp2; clear hp2
    go_wp2_with fail
    with_reducible refine (Hp2.out).mono ?_
    rintro e w4 ⟨q, hq, rfl, hc4, hg5⟩
    have hg6 := hg4.trans hg5
    have hnum := l1Num_any q q w4 (Nat.le_refl _) (by omega)
    have hqs := num_size (n := q) (by omega)
    generalize (⟨(Lib.decDigits q).toArray⟩ : ByteArray) = T at *
    clear hg5 hg4 hc3
    have Hnum := Lib.hid hnum; clear hnum
    go_wp2_with fail
    with_reducible refine (Hnum.out).mono ?_
    rintro e w5 ⟨rfl, hb5⟩
    have hno : ¬ (9223372036854775807 < 6 + T.size) := by omega
    have hno2 : ¬ (9223372036854775807 < 6 + T.size + 1) := by omega
    have hno3 : ¬ (9223372036854775807 < 6 + T.size + 1 + N.size) := by omega
    have hcf := hc4.keep hb5
    have hgf := hg6.trans (Chg.ofBelow hb5)
    clear hc4 hg6 hb5
    have Hcf := Lib.hid hcf; clear hcf
    have Hgf := Lib.hid hgf; clear hgf
    go_wp2
    go_ret
    exact ⟨_, rfl, by simp only [ByteArray.size_append, bsz, List.size_toArray, List.length_cons, List.length_nil]; omega, (Hcf.out).le (by omega), Hgf.out⟩
  · have hbB := belowAlloc w3 (.cells (strVs [[99, 97, 114, 100, 115], [112, 97, 115, 116, 115], [116, 97, 105, 108], [108, 101, 110, 103, 116, 104], [115, 104, 111, 119]]).toArray 9)
    have hof := of_any 5 5 (some ⟨w3.heap.size, 0, none⟩) [[99, 97, 114, 100, 115], [112, 97, 115, 116, 115], [116, 97, 105, 108], [108, 101, 110, 103, 116, 104], [115, 104, 111, 119]] _ g (A + 2 + 2) (strsAt_new w3 _ (by unfold maxLen; decide)) (by decide) (fun b o e => by cases e; exact ⟨by omega, by simp⟩) (hc3.keep hbB) (by omega) (by omega) (by omega)
    have hof2 : Calls Tryz.prog 57 #[.pointer (some ⟨g, 0, none⟩), .slice (some ⟨w3.heap.size, 0, none⟩) 5 5] (w3.alloc (.cells #[.string ⟨#[99, 97, 114, 100, 115]⟩, .string ⟨#[112, 97, 115, 116, 115]⟩, .string ⟨#[116, 97, 105, 108]⟩, .string ⟨#[108, 101, 110, 103, 116, 104]⟩, .string ⟨#[115, 104, 111, 119]⟩] 9)) fun e w' => ∃ s : ByteArray, e = .returned (.string s) ∧ s.size ≤ 16 ∧ Cur w' g (A + 2 + 2 + 2) ∧ Chg (fun k => k = g) w w' := hof.mono (fun e w' ⟨s, e1, e2, e3, e4⟩ => ⟨s, e1, e2, e3, hg4.trans e4.allocFirst⟩)
    clear hof hbB hc3 hg4
    have Hof2 := Lib.hid hof2; clear hof2
    go_wp2_with fail
    with_reducible refine (Hof2.out).mono ?_
    rintro e w5 ⟨T, rfl, hT, hc5, hg5⟩
    have hcf := hc5
    have hgf := hg5
    clear hc5 hg5
    have Hcf := Lib.hid hcf; clear hcf
    have Hgf := Lib.hid hgf; clear hgf
    go_wp2
    go_ret
    exact ⟨_, rfl, by omega, (Hcf.out).le (by omega), Hgf.out⟩
  · have hbB := belowAlloc w3 (.cells (strVs [[99, 97, 114, 100, 115], [112, 97, 115, 116, 115], [116, 97, 105, 108], [108, 101, 110, 103, 116, 104], [115, 104, 111, 119]]).toArray 9)
    have hof := of_any 5 5 (some ⟨w3.heap.size, 0, none⟩) [[99, 97, 114, 100, 115], [112, 97, 115, 116, 115], [116, 97, 105, 108], [108, 101, 110, 103, 116, 104], [115, 104, 111, 119]] _ g (A + 2 + 2) (strsAt_new w3 _ (by unfold maxLen; decide)) (by decide) (fun b o e => by cases e; exact ⟨by omega, by simp⟩) (hc3.keep hbB) (by omega) (by omega) (by omega)
    have hof2 : Calls Tryz.prog 57 #[.pointer (some ⟨g, 0, none⟩), .slice (some ⟨w3.heap.size, 0, none⟩) 5 5] (w3.alloc (.cells #[.string ⟨#[99, 97, 114, 100, 115]⟩, .string ⟨#[112, 97, 115, 116, 115]⟩, .string ⟨#[116, 97, 105, 108]⟩, .string ⟨#[108, 101, 110, 103, 116, 104]⟩, .string ⟨#[115, 104, 111, 119]⟩] 9)) fun e w' => ∃ s : ByteArray, e = .returned (.string s) ∧ s.size ≤ 16 ∧ Cur w' g (A + 2 + 2 + 2) ∧ Chg (fun k => k = g) w w' := hof.mono (fun e w' ⟨s, e1, e2, e3, e4⟩ => ⟨s, e1, e2, e3, hg4.trans e4.allocFirst⟩)
    clear hof hbB hc3 hg4
    have Hof2 := Lib.hid hof2; clear hof2
    go_wp2_with fail
    with_reducible refine (Hof2.out).mono ?_
    rintro e w5 ⟨T, rfl, hT, hc5, hg5⟩
    have hcf := hc5
    have hgf := hg5
    clear hc5 hg5
    have Hcf := Lib.hid hcf; clear hcf
    have Hgf := Lib.hid hgf; clear hgf
    go_wp2
    go_ret
    exact ⟨_, rfl, by omega, (Hcf.out).le (by omega), Hgf.out⟩
  · have hbB := belowAlloc w3 (.cells (strVs [[102, 108, 121], [], [115, 104, 111, 119, 32], [116, 97, 107, 101, 32], [116, 97, 107, 101, 32, 48], [116, 97, 107, 101, 32, 49, 43, 50], [115, 111, 114, 116, 32, 45], [115, 111, 114, 116, 32, 48], [112, 97, 115, 116, 32, 49], [98, 97, 110, 107, 32, 51, 58, 51, 58, 49], [115, 116, 101, 112, 115, 32, 48, 50], [115, 116, 97, 114, 116, 32, 48, 32, 51], [115, 116, 97, 114, 116, 32, 51], [114, 111, 119, 32, 49, 44, 44, 50], [98, 97, 110, 107, 32, 51, 58, 49]]).toArray 9)
    have hof := of_any 15 15 (some ⟨w3.heap.size, 0, none⟩) [[102, 108, 121], [], [115, 104, 111, 119, 32], [116, 97, 107, 101, 32], [116, 97, 107, 101, 32, 48], [116, 97, 107, 101, 32, 49, 43, 50], [115, 111, 114, 116, 32, 45], [115, 111, 114, 116, 32, 48], [112, 97, 115, 116, 32, 49], [98, 97, 110, 107, 32, 51, 58, 51, 58, 49], [115, 116, 101, 112, 115, 32, 48, 50], [115, 116, 97, 114, 116, 32, 48, 32, 51], [115, 116, 97, 114, 116, 32, 51], [114, 111, 119, 32, 49, 44, 44, 50], [98, 97, 110, 107, 32, 51, 58, 49]] _ g (A + 2 + 2) (strsAt_new w3 _ (by unfold maxLen; decide)) (by decide) (fun b o e => by cases e; exact ⟨by omega, by simp⟩) (hc3.keep hbB) (by omega) (by omega) (by omega)
    have hof2 : Calls Tryz.prog 57 #[.pointer (some ⟨g, 0, none⟩), .slice (some ⟨w3.heap.size, 0, none⟩) 15 15] (w3.alloc (.cells #[.string ⟨#[102, 108, 121]⟩, .string ⟨#[]⟩, .string ⟨#[115, 104, 111, 119, 32]⟩, .string ⟨#[116, 97, 107, 101, 32]⟩, .string ⟨#[116, 97, 107, 101, 32, 48]⟩, .string ⟨#[116, 97, 107, 101, 32, 49, 43, 50]⟩, .string ⟨#[115, 111, 114, 116, 32, 45]⟩, .string ⟨#[115, 111, 114, 116, 32, 48]⟩, .string ⟨#[112, 97, 115, 116, 32, 49]⟩, .string ⟨#[98, 97, 110, 107, 32, 51, 58, 51, 58, 49]⟩, .string ⟨#[115, 116, 101, 112, 115, 32, 48, 50]⟩, .string ⟨#[115, 116, 97, 114, 116, 32, 48, 32, 51]⟩, .string ⟨#[115, 116, 97, 114, 116, 32, 51]⟩, .string ⟨#[114, 111, 119, 32, 49, 44, 44, 50]⟩, .string ⟨#[98, 97, 110, 107, 32, 51, 58, 49]⟩] 9)) fun e w' => ∃ s : ByteArray, e = .returned (.string s) ∧ s.size ≤ 16 ∧ Cur w' g (A + 2 + 2 + 2) ∧ Chg (fun k => k = g) w w' := hof.mono (fun e w' ⟨s, e1, e2, e3, e4⟩ => ⟨s, e1, e2, e3, hg4.trans e4.allocFirst⟩)
    clear hof hbB hc3 hg4
    have Hof2 := Lib.hid hof2; clear hof2
    go_wp2_with fail
    with_reducible refine (Hof2.out).mono ?_
    rintro e w5 ⟨T, rfl, hT, hc5, hg5⟩
    have hcf := hc5
    have hgf := hg5
    clear hc5 hg5
    have Hcf := Lib.hid hcf; clear hcf
    have Hgf := Lib.hid hgf; clear hgf
    go_wp2
    go_ret
    exact ⟨_, rfl, by omega, (Hcf.out).le (by omega), Hgf.out⟩
end
end Go.Proofs.YtimmjimeldejjaaGreatDoor
namespace Go.Proofs.YtimmjimeldejjaaGreatDoor
section
open Go.RowKit
set_option linter.unusedVariables false
set_option linter.unusedSimpArgs false
set_option maxRecDepth 20000

theorem bad_beq (t : List UInt8) : isBad t = ((t == [110, 111]) || (t == [119, 104, 97, 116])) := by
  have e : ∀ u : List UInt8, (t == u) = decide (t = u) := fun u => by
    by_cases h : t = u
    · subst h; simp
    · rw [decide_eq_false h]; exact beq_eq_false_iff_ne.2 h
  rw [e, e]; rfl
end
end Go.Proofs.YtimmjimeldejjaaGreatDoor
namespace Go.Proofs.YtimmjimeldejjaaGreatDoor
section
open Go.RowKit
set_option linter.unusedVariables false
set_option linter.unusedSimpArgs false
set_option maxRecDepth 100000

end
end Go.Proofs.YtimmjimeldejjaaGreatDoor
