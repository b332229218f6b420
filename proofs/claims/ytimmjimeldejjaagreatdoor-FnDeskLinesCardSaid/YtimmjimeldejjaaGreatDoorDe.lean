/- Several texts in one: DeD, DlA, DlB. No condition. -/
import Derived.Test.YtimmjimeldejjaaGreatDoorGx
import Derived.Test.YtimmjimeldejjaaGreatDoorGy
import Derived.Test.YtimmjimeldejjaaGreatDoorGt
import Derived.Test.YtimmjimeldejjaaGreatDoorGu
import Derived.Test.YtimmjimeldejjaaGreatDoorDk0
import Derived.Test.YtimmjimeldejjaaGreatDoorGj
import Derived.Test.YtimmjimeldejjaaGreatDoorGk
import Derived.Test.YtimmjimeldejjaaGreatDoorCo1
import Derived.Test.YtimmjimeldejjaaGreatDoorDk3
import Derived.Test.YtimmjimeldejjaaGreatDoorLawp
import Derived.Test.YtimmjimeldejjaaGreatDoorGn
import Derived.Test.YtimmjimeldejjaaGreatDoorCo3
namespace Go.Proofs.YtimmjimeldejjaaGreatDoor
section
open Go.RowKit
set_option linter.unusedVariables false
set_option linter.unusedSimpArgs false
set_option maxRecDepth 20000

/-- a row of texts that was just laid -/
theorem strsAt_new (w : World) (O : List (List UInt8)) (hm : O.length ≤ maxLen) : ValsAt (w.alloc (.cells (strVs O).toArray 9)) (some ⟨w.heap.size, 0, none⟩) O.length O.length (strVs O) := by
  refine ⟨by simp [strVs], Nat.le_refl _, hm, (fun e => by cases e), fun j hj => ⟨w.heap.size, 0, rfl, by simp, fun i hi => ?_⟩⟩
  have hi' : i < (strVs O).length := by simpa [strVs] using hi
  rw [World.cell?_alloc_at _ _ _ _ rfl, Nat.zero_add, List.getElem?_toArray, List.getElem?_eq_getElem hi', List.getD_eq_getElem?_getD, List.getElem?_eq_getElem hi']
  rfl
theorem of_any (n cap : Nat) (ao : Option Addr) (O : List (List UInt8)) (w : World) (g A : Nat) (hx : ValsAt w ao n cap (strVs O)) (hO : ∀ t ∈ O, t.length ≤ 16) (hag : ∀ b o, ao = some ⟨b, o, none⟩ → b ≠ g ∧ b < w.heap.size) (h : Cur w g A) (hA : A ≤ 900000000) (hn : 1 ≤ n) (hn2 : n ≤ 1048576) :
    Calls Tryz.prog 57 #[.pointer (some ⟨g, 0, none⟩), .slice ao n cap] w fun e w' => ∃ s : ByteArray, e = .returned (.string s) ∧ s.size ≤ 16 ∧ Cur w' g (A + 2) ∧ Chg (fun k => k = g) w w' := by
  have hcon := pick_any n w g A h hA hn hn2
  have hn8 : (n : Int) ≤ 1048576 := by omega
  have hOl : O.length = n := by have := hx.length; simpa [strVs] using this
  have Hcon := Lib.hid hcon; clear hcon
  have HO := Lib.hid hO; clear hO
  have HOl := Lib.hid hOl; clear hOl
  go_enter Tryz.func57, Tryz.ntmps57
  go_wp2_with fail
  with_reducible refine (Hcon.out).mono ?_
  rintro e w1 ⟨i, hi, rfl, hc1, hg1⟩
  obtain ⟨b, o, rfl, hw0⟩ := wordAt hx hi
  obtain ⟨hbg, hbl⟩ := hag b o rfl
  have hci : w1.cell? ⟨b, o + i, none⟩ = some (.string ⟨(O.getD i []).toArray⟩) := by
    have := World.cell?_of_block (a := ⟨b, o + i, none⟩) (hg1.block b hbl hbg)
    rw [this]; exact hw0
  have hsz : (⟨(O.getD i []).toArray⟩ : ByteArray).size ≤ 16 := by
    show (O.getD i []).toArray.size ≤ 16
    rw [List.size_toArray]
    refine HO.out _ ?_
    rw [List.getD_eq_getElem?_getD, List.getElem?_eq_getElem (by rw [HOl.out]; exact hi)]
    exact List.getElem_mem _
  generalize (⟨(O.getD i []).toArray⟩ : ByteArray) = s at *
  clear hw0
  have Hc1 := Lib.hid hc1; clear hc1
  have Hg1 := Lib.hid hg1; clear hg1
  go_wp2
  go_ret
  exact ⟨s, rfl, hsz, Hc1.out, Hg1.out⟩
theorem d8L_small {xs : List Int} (hl : xs.length ≤ 28) (h : ∀ x ∈ xs, x ≤ 28) : (textL xs).length ≤ 100 := by
  unfold textL
  split
  · simp
  · have := joinL_length h xs.length
    rw [List.take_length] at this
    omega
theorem d8W_small {xs : List Int} (h : RowOk xs) : (textW xs).length ≤ 100 := by
  have hl := h.len
  unfold textW
  split
  · simp
  · have := joinW_length (fun x hx => (h.mem hx).2) xs.length
    rw [List.take_length] at this
    omega
def L8Post (g A : Nat) (w : World) (e : Ending) (w' : World) : Prop := ∃ s : ByteArray, e = .returned (.string s) ∧ s.size ≤ 1200 ∧ Cur w' g A ∧ Chg (fun k => k = g) w w'
theorem num_of11 {i : Nat} (hi : i < 11) : ∃ n : Nat, n ≤ 1001 ∧ ([0, 1, 2, 3, 4, 6, 7, 10, 28, 1000, 1001] : List Int).getD i 0 = (n : Int) := by
  have hall : ∀ i : Fin 11, ∃ n : Fin 1002, ([0, 1, 2, 3, 4, 6, 7, 10, 28, 1000, 1001] : List Int).getD i.val 0 = ((n.val : Nat) : Int) := by
    intro i
    match i with
    | ⟨0, _⟩ => exact ⟨⟨0, by omega⟩, rfl⟩
    | ⟨1, _⟩ => exact ⟨⟨1, by omega⟩, rfl⟩
    | ⟨2, _⟩ => exact ⟨⟨2, by omega⟩, rfl⟩
    | ⟨3, _⟩ => exact ⟨⟨3, by omega⟩, rfl⟩
    | ⟨4, _⟩ => exact ⟨⟨4, by omega⟩, rfl⟩
    | ⟨5, _⟩ => exact ⟨⟨6, by omega⟩, rfl⟩
    | ⟨6, _⟩ => exact ⟨⟨7, by omega⟩, rfl⟩
    | ⟨7, _⟩ => exact ⟨⟨10, by omega⟩, rfl⟩
    | ⟨8, _⟩ => exact ⟨⟨28, by omega⟩, rfl⟩
    | ⟨9, _⟩ => exact ⟨⟨1000, by omega⟩, rfl⟩
    | ⟨10, _⟩ => exact ⟨⟨1001, by omega⟩, rfl⟩
  obtain ⟨n, hn⟩ := hall ⟨i, hi⟩
  exact ⟨n.val, by have := n.isLt; omega, hn⟩
theorem bsz (a : Array UInt8) : (⟨a⟩ : ByteArray).size = a.size := rfl
theorem num_size {n : Nat} (h : n ≤ 1001) : (⟨(Lib.decDigits n).toArray⟩ : ByteArray).size ≤ 4 := by
  show (Lib.decDigits n).toArray.size ≤ 4
  rw [List.size_toArray, Lib.decDigits_length]
  exact nDigits_six 3 n (by omega)
set_option maxHeartbeats 6400000 in
theorem line8_any (w : World) (g A : Nat) (h : Cur w g A) (hA : A ≤ 600000000) :
    Calls Tryz.prog 35 #[.pointer (some ⟨g, 0, none⟩)] w fun e w' => L8Post g (A + 800) w e w' := by
  have hgl := h.lt
  have hbA := belowAlloc w (.cells (([0, 1, 2, 3, 4, 6, 7, 10, 28, 1000, 1001] : List Int).map (Value.int .i64)).toArray 3)
  have hcon := among_any 11 11 (some ⟨w.heap.size, 0, none⟩) [0, 1, 2, 3, 4, 6, 7, 10, 28, 1000, 1001] _ g A (intsAt_new w _ (by unfold maxLen; decide)) (fun b o e => by cases e; omega) (h.keep hbA) (by omega) (by omega) (by omega)
  have hcon2 : Calls Tryz.prog 54 #[.pointer (some ⟨g, 0, none⟩), .slice (some ⟨w.heap.size, 0, none⟩) 11 11] (w.alloc (.cells #[.int .i64 0, .int .i64 1, .int .i64 2, .int .i64 3, .int .i64 4, .int .i64 6, .int .i64 7, .int .i64 10, .int .i64 28, .int .i64 1000, .int .i64 1001] 3)) (fun e w1 => ∃ n : Nat, n ≤ 1001 ∧ e = .returned (.int .i64 (n : Int)) ∧ Cur w1 g (A + 2) ∧ Chg (fun k => k = g) w w1) := hcon.mono (fun e w1 ⟨i, hi, e1, e2, e3⟩ => by
    obtain ⟨n, h1, h2⟩ := num_of11 hi
    exact ⟨n, h1, by rw [e1, h2], e2, e3.allocFirst⟩)
  clear hcon hbA h
  have Hcon2 := Lib.hid hcon2; clear hcon2
  go_enter Tryz.func35, Tryz.ntmps35
  go_wp2_with fail
  with_reducible refine (Hcon2.out).mono ?_
  rintro e w1 ⟨n, hn, rfl, hc1, hg1⟩
  have hnum := l1Num_any n n w1 (Nat.le_refl _) (by omega)
  have hns := num_size hn
  generalize (⟨(Lib.decDigits n).toArray⟩ : ByteArray) = N at *
  have Hnum := Lib.hid hnum; clear hnum
  go_wp2_with fail
  with_reducible refine (Hnum.out).mono ?_
  rintro e w2 ⟨rfl, hb2⟩
  have hc2 := hc1.keep hb2
  have hg2 := hg1.trans (Chg.ofBelow hb2)
  clear hc1 hg1 hb2 Hcon2 hn
  have hpk := pick_any 12 w2 g (A + 2) hc2 (by omega) (by omega) (by omega)
  rw [show ((12 : Nat) : Int) = 12 from rfl] at hpk
  have Hpk := Lib.hid hpk; clear hpk
  go_wp2_with fail
  with_reducible refine (Hpk.out).mono ?_
  rintro e w3 ⟨p, hp, rfl, hc3, hg3⟩
  have hg4 := hg2.trans hg3
  have hgl3 := hc3.lt
  clear hc2 hg2 hg3 Hpk Hnum
  have hcase : p = 0 ∨ p = 1 ∨ p = 2 ∨ p = 3 ∨ p = 4 ∨ p = 5 ∨ p = 6 ∨ p = 7 ∨ p = 8 ∨ p = 9 ∨ p = 10 ∨ p = 11 := by omega
  rcases hcase with rfl | rfl | rfl | rfl | rfl | rfl | rfl | rfl | rfl | rfl | rfl | rfl
  · have hpl := drawPiles_any 12 w3 g (A + 2 + 2) hc3 (by omega) (by omega)
    rw [show ((12 : Nat) : Int) = 12 from rfl] at hpl
    have Hpl := Lib.hid hpl; clear hpl
    go_wp2_with fail
    with_reducible refine (Hpl.out).mono ?_
    rintro e w5 ⟨a, m, c, xs, rfl, ho, hm, hpos, hc5, hg5⟩
    have hl := ho.length
    have htx := piTextP_any a m c xs w5 ho.at (by omega) hpos
    have hsm := d8L_small (xs := xs) (by omega) (fun x hx => (hpos x hx).2)
    have hsz : (⟨(textL xs).toArray⟩ : ByteArray).size ≤ 1000 := by show (textL xs).toArray.size ≤ _; rw [List.size_toArray]; omega
    generalize (⟨(textL xs).toArray⟩ : ByteArray) = T at *
    have hg6 := hg4.trans hg5
    have hno : ¬ (9223372036854775807 < 5 + T.size) := by omega
    clear ho hpos hsm hg5 hg4 hc3
    have Htx := Lib.hid htx; clear htx
    go_wp2_with fail
    with_reducible refine (Htx.out).mono ?_
    rintro e w6 ⟨rfl, hb6⟩
    have hcf := hc5.keep hb6
    have hgf := hg6.trans (Chg.ofBelow hb6)
    clear hc5 hg6 hb6
    have Hcf := Lib.hid hcf; clear hcf
    have Hgf := Lib.hid hgf; clear hgf
    go_wp2
    go_ret
    exact ⟨_, rfl, by simp only [ByteArray.size_append, bsz, List.size_toArray, List.length_cons, List.length_nil]; omega, (Hcf.out).le (by omega), Hgf.out⟩
  · have hpl := drawPiles_any 12 w3 g (A + 2 + 2) hc3 (by omega) (by omega)
    rw [show ((12 : Nat) : Int) = 12 from rfl] at hpl
    have Hpl := Lib.hid hpl; clear hpl
    go_wp2_with fail
    with_reducible refine (Hpl.out).mono ?_
    rintro e w5 ⟨a, m, c, xs, rfl, ho, hm, hpos, hc5, hg5⟩
    have hl := ho.length
    have htx := piTextP_any a m c xs w5 ho.at (by omega) hpos
    have hsm := d8L_small (xs := xs) (by omega) (fun x hx => (hpos x hx).2)
    have hsz : (⟨(textL xs).toArray⟩ : ByteArray).size ≤ 1000 := by show (textL xs).toArray.size ≤ _; rw [List.size_toArray]; omega
    generalize (⟨(textL xs).toArray⟩ : ByteArray) = T at *
    have hg6 := hg4.trans hg5
    have hno : ¬ (9223372036854775807 < 5 + T.size) := by omega
    clear ho hpos hsm hg5 hg4 hc3
    have Htx := Lib.hid htx; clear htx
    go_wp2_with fail
    with_reducible refine (Htx.out).mono ?_
    rintro e w6 ⟨rfl, hb6⟩
    have hcf := hc5.keep hb6
    have hgf := hg6.trans (Chg.ofBelow hb6)
    clear hc5 hg6 hb6
    have Hcf := Lib.hid hcf; clear hcf
    have Hgf := Lib.hid hgf; clear hgf
    go_wp2
    go_ret
    exact ⟨_, rfl, by simp only [ByteArray.size_append, bsz, List.size_toArray, List.length_cons, List.length_nil]; omega, (Hcf.out).le (by omega), Hgf.out⟩
  · have hbB := belowAlloc w3 (.cells (strVs [[115, 116, 101, 112], [115, 116, 101, 112], [115, 105, 100, 101], [115, 104, 111, 119]]).toArray 9)
    have hof := of_any 4 4 (some ⟨w3.heap.size, 0, none⟩) [[115, 116, 101, 112], [115, 116, 101, 112], [115, 105, 100, 101], [115, 104, 111, 119]] _ g (A + 2 + 2) (strsAt_new w3 _ (by unfold maxLen; decide)) (by decide) (fun b o e => by cases e; exact ⟨by omega, by simp⟩) (hc3.keep hbB) (by omega) (by omega) (by omega)
    have hof2 : Calls Tryz.prog 57 #[.pointer (some ⟨g, 0, none⟩), .slice (some ⟨w3.heap.size, 0, none⟩) 4 4] (w3.alloc (.cells #[.string ⟨#[115, 116, 101, 112]⟩, .string ⟨#[115, 116, 101, 112]⟩, .string ⟨#[115, 105, 100, 101]⟩, .string ⟨#[115, 104, 111, 119]⟩] 9)) fun e w' => ∃ s : ByteArray, e = .returned (.string s) ∧ s.size ≤ 16 ∧ Cur w' g (A + 2 + 2 + 2) ∧ Chg (fun k => k = g) w w' := hof.mono (fun e w' ⟨s, e1, e2, e3, e4⟩ => ⟨s, e1, e2, e3, hg4.trans e4.allocFirst⟩)
    clear hof hbB hc3 hg4
    have Hof2 := Lib.hid hof2; clear hof2
    go_wp2_with fail
    with_reducible refine (Hof2.out).mono ?_
    rintro e w5 ⟨T, rfl, hT, hc5, hg5⟩
    have hcf := hc5
    have hgf := hg5
    clear hc5 hg5
    have Hcf := Lib.hid hcf; clear hcf
    have Hgf := Lib.hid hgf; clear hgf
    go_wp2
    go_ret
    exact ⟨_, rfl, by omega, (Hcf.out).le (by omega), Hgf.out⟩
  · have hbB := belowAlloc w3 (.cells (strVs [[115, 116, 101, 112], [115, 116, 101, 112], [115, 105, 100, 101], [115, 104, 111, 119]]).toArray 9)
    have hof := of_any 4 4 (some ⟨w3.heap.size, 0, none⟩) [[115, 116, 101, 112], [115, 116, 101, 112], [115, 105, 100, 101], [115, 104, 111, 119]] _ g (A + 2 + 2) (strsAt_new w3 _ (by unfold maxLen; decide)) (by decide) (fun b o e => by cases e; exact ⟨by omega, by simp⟩) (hc3.keep hbB) (by omega) (by omega) (by omega)
    have hof2 : Calls Tryz.prog 57 #[.pointer (some ⟨g, 0, none⟩), .slice (some ⟨w3.heap.size, 0, none⟩) 4 4] (w3.alloc (.cells #[.string ⟨#[115, 116, 101, 112]⟩, .string ⟨#[115, 116, 101, 112]⟩, .string ⟨#[115, 105, 100, 101]⟩, .string ⟨#[115, 104, 111, 119]⟩] 9)) fun e w' => ∃ s : ByteArray, e = .returned (.string s) ∧ s.size ≤ 16 ∧ Cur w' g (A + 2 + 2 + 2) ∧ Chg (fun k => k = g) w w' := hof.mono (fun e w' ⟨s, e1, e2, e3, e4⟩ => ⟨s, e1, e2, e3, hg4.trans e4.allocFirst⟩)
    clear hof hbB hc3 hg4
    have Hof2 := Lib.hid hof2; clear hof2
    go_wp2_with fail
    with_reducible refine (Hof2.out).mono ?_
    rintro e w5 ⟨T, rfl, hT, hc5, hg5⟩
    have hcf := hc5
    have hgf := hg5
    clear hc5 hg5
    have Hcf := Lib.hid hcf; clear hcf
    have Hgf := Lib.hid hgf; clear hgf
    go_wp2
    go_ret
    exact ⟨_, rfl, by omega, (Hcf.out).le (by omega), Hgf.out⟩
  · have hbB := belowAlloc w3 (.cells (strVs [[115, 116, 101, 112, 115, 32], [112, 97, 115, 116, 32], [115, 116, 97, 105, 114, 115, 32], [112, 97, 115, 116, 32]]).toArray 9)
    have hof := of_any 4 4 (some ⟨w3.heap.size, 0, none⟩) [[115, 116, 101, 112, 115, 32], [112, 97, 115, 116, 32], [115, 116, 97, 105, 114, 115, 32], [112, 97, 115, 116, 32]] _ g (A + 2 + 2) (strsAt_new w3 _ (by unfold maxLen; decide)) (by decide) (fun b o e => by cases e; exact ⟨by omega, by simp⟩) (hc3.keep hbB) (by omega) (by omega) (by omega)
    have hof2 : Calls Tryz.prog 57 #[.pointer (some ⟨g, 0, none⟩), .slice (some ⟨w3.heap.size, 0, none⟩) 4 4] (w3.alloc (.cells #[.string ⟨#[115, 116, 101, 112, 115, 32]⟩, .string ⟨#[112, 97, 115, 116, 32]⟩, .string ⟨#[115, 116, 97, 105, 114, 115, 32]⟩, .string ⟨#[112, 97, 115, 116, 32]⟩] 9)) fun e w' => ∃ s : ByteArray, e = .returned (.string s) ∧ s.size ≤ 16 ∧ Cur w' g (A + 2 + 2 + 2) ∧ Chg (fun k => k = g) w w' := hof.mono (fun e w' ⟨s, e1, e2, e3, e4⟩ => ⟨s, e1, e2, e3, hg4.trans e4.allocFirst⟩)
    clear hof hbB hc3 hg4
    have Hof2 := Lib.hid hof2; clear hof2
    go_wp2_with fail
    with_reducible refine (Hof2.out).mono ?_
    rintro e w5 ⟨T, rfl, hT, hc5, hg5⟩
    have hno : ¬ (9223372036854775807 < T.size + N.size) := by omega
    have hcf := hc5
    have hgf := hg5
    clear hc5 hg5
    have Hcf := Lib.hid hcf; clear hcf
    have Hgf := Lib.hid hgf; clear hgf
    go_wp2
    go_ret
    exact ⟨_, rfl, by simp only [ByteArray.size_append, bsz, List.size_toArray, List.length_cons, List.length_nil]; omega, (Hcf.out).le (by omega), Hgf.out⟩
  · have hrw := row_any 10 w3 g (A + 2 + 2) hc3 (by omega) (by omega)
    rw [show ((10 : Nat) : Int) = 10 from rfl] at hrw
    have Hrw := Lib.hid hrw; clear hrw
    go_wp2_with fail
    with_reducible refine (Hrw.out).mono ?_
    rintro e w4 ⟨a, m, c, xs, rfl, ho, hm, hc4, hg5⟩
    have hgd := roGood_any a m c xs w4 ho.at
    have hg6 := hg4.trans hg5
    have hgl4 := hc4.lt
    have hgr : g < w3.heap.size := hgl3
    clear hg5 hg4 hc3 hgl3
    by_cases hk : RowOk xs
    · rw [row_iff.2 hk] at hgd
      have hsm := d8W_small hk
      have hsz : (⟨(textW xs).toArray⟩ : ByteArray).size ≤ 1000 := by show (textW xs).toArray.size ≤ _; rw [List.size_toArray]; omega
      have htx := fun W (q : IntsAt W a m c xs) => roText_any a m c xs W q hk
      have hbB := belowAlloc w4 (.cells (strVs [[115, 111, 114, 116, 32], [114, 111, 119, 32], [111, 114, 98, 105, 116, 32]]).toArray 9)
      have hof := of_any 3 3 (some ⟨w4.heap.size, 0, none⟩) [[115, 111, 114, 116, 32], [114, 111, 119, 32], [111, 114, 98, 105, 116, 32]] _ g (A + 2 + 2 + 400) (strsAt_new w4 _ (by unfold maxLen; decide)) (by decide) (fun b o e => by cases e; exact ⟨by omega, by simp⟩) (hc4.keep hbB) (by omega) (by omega) (by omega)
      have hof2 : Calls Tryz.prog 57 #[.pointer (some ⟨g, 0, none⟩), .slice (some ⟨w4.heap.size, 0, none⟩) 3 3] (w4.alloc (.cells #[.string ⟨#[115, 111, 114, 116, 32]⟩, .string ⟨#[114, 111, 119, 32]⟩, .string ⟨#[111, 114, 98, 105, 116, 32]⟩] 9)) fun e w' => ∃ s : ByteArray, e = .returned (.string s) ∧ s.size ≤ 16 ∧ Cur w' g (A + 2 + 2 + 400 + 2) ∧ Chg (fun k => k = g) w w' ∧ IntsAt w' a m c xs := hof.mono (fun e w' ⟨s, e1, e2, e3, e4⟩ => ⟨s, e1, e2, e3, hg6.trans e4.allocFirst, ((ho.keep hbB).chg e4 (fun q h1 h2 _ e => by have := hgr; omega)).at⟩)
      generalize (⟨(textW xs).toArray⟩ : ByteArray) = T2 at *
      clear hof hbB hc4 hg6 ho hsm hk
      have Hof2 := Lib.hid hof2; clear hof2
      have Hgd := Lib.hid hgd; clear hgd
      have Htx := Lib.hid htx; clear htx
      go_wp2_with fail
      with_reducible refine (Hgd.out).mono ?_
      rintro e w' ⟨rfl, rfl⟩
      go_wp2_with fail
      with_reducible refine (Hof2.out).mono ?_
      rintro e w5 ⟨T, rfl, hT, hc5, hg5, hI5⟩
      have ht2 := Htx.out w5 hI5
      clear hI5
      have Ht2 := Lib.hid ht2; clear ht2
      go_wp2_with fail
      with_reducible refine (Ht2.out).mono ?_
      rintro e w6 ⟨rfl, hb6⟩
      have hno : ¬ (9223372036854775807 < T.size + T2.size) := by omega
      have hcf := hc5.keep hb6
      have hgf := hg5.trans (Chg.ofBelow hb6)
      clear hc5 hg5 hb6
      have Hcf := Lib.hid hcf; clear hcf
      have Hgf := Lib.hid hgf; clear hgf
      go_wp2
      go_ret
      exact ⟨_, rfl, by simp only [ByteArray.size_append, bsz, List.size_toArray, List.length_cons, List.length_nil]; omega, (Hcf.out).le (by omega), Hgf.out⟩
    · have hkb : rowB xs = false := by cases hq : rowB xs; rfl; exact absurd (row_iff.1 hq) hk
      rw [hkb] at hgd
      have hcf := hc4
      have hgf := hg6
      clear ho hc4 hg6 hk hkb
      have Hgd := Lib.hid hgd; clear hgd
      have Hcf := Lib.hid hcf; clear hcf
      have Hgf := Lib.hid hgf; clear hgf
      go_wp2_with fail
      with_reducible refine (Hgd.out).mono ?_
      rintro e w' ⟨rfl, rfl⟩
      go_wp2
      go_ret
      exact ⟨_, rfl, by decide, (Hcf.out).le (by omega), Hgf.out⟩
  · have hrw := row_any 10 w3 g (A + 2 + 2) hc3 (by omega) (by omega)
    rw [show ((10 : Nat) : Int) = 10 from rfl] at hrw
    have Hrw := Lib.hid hrw; clear hrw
    go_wp2_with fail
    with_reducible refine (Hrw.out).mono ?_
    rintro e w4 ⟨a, m, c, xs, rfl, ho, hm, hc4, hg5⟩
    have hgd := roGood_any a m c xs w4 ho.at
    have hg6 := hg4.trans hg5
    have hgl4 := hc4.lt
    have hgr : g < w3.heap.size := hgl3
    clear hg5 hg4 hc3 hgl3
    by_cases hk : RowOk xs
    · rw [row_iff.2 hk] at hgd
      have hsm := d8W_small hk
      have hsz : (⟨(textW xs).toArray⟩ : ByteArray).size ≤ 1000 := by show (textW xs).toArray.size ≤ _; rw [List.size_toArray]; omega
      have htx := fun W (q : IntsAt W a m c xs) => roText_any a m c xs W q hk
      have hbB := belowAlloc w4 (.cells (strVs [[115, 111, 114, 116, 32], [114, 111, 119, 32], [111, 114, 98, 105, 116, 32]]).toArray 9)
      have hof := of_any 3 3 (some ⟨w4.heap.size, 0, none⟩) [[115, 111, 114, 116, 32], [114, 111, 119, 32], [111, 114, 98, 105, 116, 32]] _ g (A + 2 + 2 + 400) (strsAt_new w4 _ (by unfold maxLen; decide)) (by decide) (fun b o e => by cases e; exact ⟨by omega, by simp⟩) (hc4.keep hbB) (by omega) (by omega) (by omega)
      have hof2 : Calls Tryz.prog 57 #[.pointer (some ⟨g, 0, none⟩), .slice (some ⟨w4.heap.size, 0, none⟩) 3 3] (w4.alloc (.cells #[.string ⟨#[115, 111, 114, 116, 32]⟩, .string ⟨#[114, 111, 119, 32]⟩, .string ⟨#[111, 114, 98, 105, 116, 32]⟩] 9)) fun e w' => ∃ s : ByteArray, e = .returned (.string s) ∧ s.size ≤ 16 ∧ Cur w' g (A + 2 + 2 + 400 + 2) ∧ Chg (fun k => k = g) w w' ∧ IntsAt w' a m c xs := hof.mono (fun e w' ⟨s, e1, e2, e3, e4⟩ => ⟨s, e1, e2, e3, hg6.trans e4.allocFirst, ((ho.keep hbB).chg e4 (fun q h1 h2 _ e => by have := hgr; omega)).at⟩)
      generalize (⟨(textW xs).toArray⟩ : ByteArray) = T2 at *
      clear hof hbB hc4 hg6 ho hsm hk
      have Hof2 := Lib.hid hof2; clear hof2
      have Hgd := Lib.hid hgd; clear hgd
      have Htx := Lib.hid htx; clear htx
      go_wp2_with fail
      with_reducible refine (Hgd.out).mono ?_
      rintro e w' ⟨rfl, rfl⟩
      go_wp2_with fail
      with_reducible refine (Hof2.out).mono ?_
      rintro e w5 ⟨T, rfl, hT, hc5, hg5, hI5⟩
      have ht2 := Htx.out w5 hI5
      clear hI5
      have Ht2 := Lib.hid ht2; clear ht2
      go_wp2_with fail
      with_reducible refine (Ht2.out).mono ?_
      rintro e w6 ⟨rfl, hb6⟩
      have hno : ¬ (9223372036854775807 < T.size + T2.size) := by omega
      have hcf := hc5.keep hb6
      have hgf := hg5.trans (Chg.ofBelow hb6)
      clear hc5 hg5 hb6
      have Hcf := Lib.hid hcf; clear hcf
      have Hgf := Lib.hid hgf; clear hgf
      go_wp2
      go_ret
      exact ⟨_, rfl, by simp only [ByteArray.size_append, bsz, List.size_toArray, List.length_cons, List.length_nil]; omega, (Hcf.out).le (by omega), Hgf.out⟩
    · have hkb : rowB xs = false := by cases hq : rowB xs; rfl; exact absurd (row_iff.1 hq) hk
      rw [hkb] at hgd
      have hcf := hc4
      have hgf := hg6
      clear ho hc4 hg6 hk hkb
      have Hgd := Lib.hid hgd; clear hgd
      have Hcf := Lib.hid hcf; clear hcf
      have Hgf := Lib.hid hgf; clear hgf
      go_wp2_with fail
      with_reducible refine (Hgd.out).mono ?_
      rintro e w' ⟨rfl, rfl⟩
      go_wp2
      go_ret
      exact ⟨_, rfl, by decide, (Hcf.out).le (by omega), Hgf.out⟩
  · have hbk := bank_any 12 w3 g (A + 2 + 2) hc3 (by omega) (by omega)
    rw [show ((12 : Nat) : Int) = 12 from rfl] at hbk
    have Hbk := Lib.hid hbk; clear hbk
    go_wp2_with fail
    with_reducible refine (Hbk.out).mono ?_
    rintro e w4 ⟨bh, bl, a, m, c, xs, rfl, ho, hm, hc4, hg5⟩
    have hbB := belowAlloc w4 (.cells #[.int .i64 bh, .int .i64 bl, .slice a m c] 84)
    obtain ⟨⟨x0, x1, x2⟩, y0, y1, y2⟩ := (Blk.new w4 bh bl a m c 84).cells
    have hI := (ho.keep hbB).at
    have hgd := baGood_any bh bl a m c xs _ hI
    unfold bankV at hgd
    have hg6 := (hg4.trans hg5).trans (Chg.ofBelow hbB)
    have hc6 := hc4.keep hbB
    have hkp := fun W (q : Below (w4.alloc (.cells #[.int .i64 bh, .int .i64 bl, .slice a m c] 84)).heap.size (w4.alloc (.cells #[.int .i64 bh, .int .i64 bl, .slice a m c] 84)) W) => (⟨hI.keep q, (Blk.new w4 bh bl a m c 84).keep q, hc6.keep q, hg6.trans (Chg.ofBelow q)⟩ : IntsAt W a m c xs ∧ Blk W w4.heap.size bh bl a m c 84 ∧ Cur W g (A + 2 + 2 + 300) ∧ Chg (fun k => k = g) w W)
    clear hg5 hg4 hc3 hc4 hbB ho hI hg6 hc6
    by_cases hk : BankOk ⟨bh, bl, xs⟩
    · rw [bank_iff.2 hk] at hgd
      have htx := fun W (q : IntsAt W a m c xs) => baText_any bh bl a m c xs W q hk
      have hsz : (⟨(bankL ⟨bh, bl, xs⟩).toArray⟩ : ByteArray).size ≤ 1000 := by
        show (bankL ⟨bh, bl, xs⟩).toArray.size ≤ _
        rw [List.size_toArray]
        have h1 := textL_length hk.2.2.1
        have h2 := dd_length bh (by have := hk.1; simp only at this; omega)
        have h3 := dd_length bl (by have := hk.1; have := hk.2.1; simp only at *; omega)
        show (dd bh ++ [58] ++ dd bl ++ [58] ++ textL xs).length ≤ 1000
        have h1' : (textL xs).length ≤ 85 := h1
        simp only [List.length_append, List.length_cons, List.length_nil]
        omega
      generalize (⟨(bankL ⟨bh, bl, xs⟩).toArray⟩ : ByteArray) = T at *
      clear hk
      have Hgd := Lib.hid hgd; clear hgd
      have Htx := Lib.hid htx; clear htx
      have Hkp := Lib.hid hkp; clear hkp
      go_wp2_with fail
      with_reducible refine (Hgd.out).mono ?_
      rintro e w5 ⟨rfl, hb5⟩
      obtain ⟨hI5, k5, hc5, hg5⟩ := Hkp.out w5 hb5
      clear x0 x1 x2 y0 y1 y2 hb5
      obtain ⟨⟨x0, x1, x2⟩, y0, y1, y2⟩ := k5.cells
      have ht2 := Htx.out w5 hI5
      clear hI5 k5
      have Ht2 := Lib.hid ht2; clear ht2
      go_wp2_with fail
      with_reducible refine (Ht2.out).mono ?_
      rintro e w6 ⟨rfl, hb6⟩
      have hno : ¬ (9223372036854775807 < 5 + T.size) := by omega
      have hcf := hc5.keep hb6
      have hgf := hg5.trans (Chg.ofBelow hb6)
      clear hc5 hg5 hb6
      have Hcf := Lib.hid hcf; clear hcf
      have Hgf := Lib.hid hgf; clear hgf
      go_wp2
      go_ret
      exact ⟨_, rfl, by simp only [ByteArray.size_append, bsz, List.size_toArray, List.length_cons, List.length_nil]; omega, (Hcf.out).le (by omega), Hgf.out⟩
    · rw [bank_no.2 hk] at hgd
      clear hk
      have Hgd := Lib.hid hgd; clear hgd
      have Hkp := Lib.hid hkp; clear hkp
      go_wp2_with fail
      with_reducible refine (Hgd.out).mono ?_
      rintro e w5 ⟨rfl, hb5⟩
      obtain ⟨-, -, hcf, hgf⟩ := Hkp.out w5 hb5
      clear hb5
      have Hcf := Lib.hid hcf; clear hcf
      have Hgf := Lib.hid hgf; clear hgf
      go_wp2
      go_ret
      exact ⟨_, rfl, by decide, (Hcf.out).le (by omega), Hgf.out⟩
  · have hp2 := pick_any 12 w3 g (A + 2 + 2) hc3 (by omega) (by omega) (by omega)
    rw [show ((12 : Nat) : Int) = 12 from rfl] at hp2
    have Hp2 := Lib.hid hp2; clear hp2
    go_wp2_with fail
    with_reducible refine (Hp2.out).mono ?_
    rintro e w4 ⟨q, hq, rfl, hc4, hg5⟩
    have hg6 := hg4.trans hg5
    have hnum := l1Num_any q q w4 (Nat.le_refl _) (by omega)
    have hqs := num_size (n := q) (by omega)
    generalize (⟨(Lib.decDigits q).toArray⟩ : ByteArray) = T at *
    clear hg5 hg4 hc3
    have Hnum := Lib.hid hnum; clear hnum
    go_wp2_with fail
    with_reducible refine (Hnum.out).mono ?_
    rintro e w5 ⟨rfl, hb5⟩
    have hno : ¬ (9223372036854775807 < 6 + T.size) := by omega
    have hno2 : ¬ (9223372036854775807 < 6 + T.size + 1) := by omega
    have hno3 : ¬ (9223372036854775807 < 6 + T.size + 1 + N.size) := by omega
    have hcf := hc4.keep hb5
    have hgf := hg6.trans (Chg.ofBelow hb5)
    clear hc4 hg6 hb5
    have Hcf := Lib.hid hcf; clear hcf
    have Hgf := Lib.hid hgf; clear hgf
    go_wp2
    go_ret
    exact ⟨_, rfl, by simp only [ByteArray.size_append, bsz, List.size_toArray, List.length_cons, List.length_nil]; omega, (Hcf.out).le (by omega), Hgf.out⟩
  · have hbB := belowAlloc w3 (.cells (strVs [[99, 97, 114, 100, 115], [112, 97, 115, 116, 115], [116, 97, 105, 108], [108, 101, 110, 103, 116, 104], [115, 104, 111, 119]]).toArray 9)
    have hof := of_any 5 5 (some ⟨w3.heap.size, 0, none⟩) [[99, 97, 114, 100, 115], [112, 97, 115, 116, 115], [116, 97, 105, 108], [108, 101, 110, 103, 116, 104], [115, 104, 111, 119]] _ g (A + 2 + 2) (strsAt_new w3 _ (by unfold maxLen; decide)) (by decide) (fun b o e => by cases e; exact ⟨by omega, by simp⟩) (hc3.keep hbB) (by omega) (by omega) (by omega)
    have hof2 : Calls Tryz.prog 57 #[.pointer (some ⟨g, 0, none⟩), .slice (some ⟨w3.heap.size, 0, none⟩) 5 5] (w3.alloc (.cells #[.string ⟨#[99, 97, 114, 100, 115]⟩, .string ⟨#[112, 97, 115, 116, 115]⟩, .string ⟨#[116, 97, 105, 108]⟩, .string ⟨#[108, 101, 110, 103, 116, 104]⟩, .string ⟨#[115, 104, 111, 119]⟩] 9)) fun e w' => ∃ s : ByteArray, e = .returned (.string s) ∧ s.size ≤ 16 ∧ Cur w' g (A + 2 + 2 + 2) ∧ Chg (fun k => k = g) w w' := hof.mono (fun e w' ⟨s, e1, e2, e3, e4⟩ => ⟨s, e1, e2, e3, hg4.trans e4.allocFirst⟩)
    clear hof hbB hc3 hg4
    have Hof2 := Lib.hid hof2; clear hof2
    go_wp2_with fail
    with_reducible refine (Hof2.out).mono ?_
    rintro e w5 ⟨T, rfl, hT, hc5, hg5⟩
    have hcf := hc5
    have hgf := hg5
    clear hc5 hg5
    have Hcf := Lib.hid hcf; clear hcf
    have Hgf := Lib.hid hgf; clear hgf
    go_wp2
    go_ret
    exact ⟨_, rfl, by omega, (Hcf.out).le (by omega), Hgf.out⟩
  · have hbB := belowAlloc w3 (.cells (strVs [[99, 97, 114, 100, 115], [112, 97, 115, 116, 115], [116, 97, 105, 108], [108, 101, 110, 103, 116, 104], [115, 104, 111, 119]]).toArray 9)
    have hof := of_any 5 5 (some ⟨w3.heap.size, 0, none⟩) [[99, 97, 114, 100, 115], [112, 97, 115, 116, 115], [116, 97, 105, 108], [108, 101, 110, 103, 116, 104], [115, 104, 111, 119]] _ g (A + 2 + 2) (strsAt_new w3 _ (by unfold maxLen; decide)) (by decide) (fun b o e => by cases e; exact ⟨by omega, by simp⟩) (hc3.keep hbB) (by omega) (by omega) (by omega)
    have hof2 : Calls Tryz.prog 57 #[.pointer (some ⟨g, 0, none⟩), .slice (some ⟨w3.heap.size, 0, none⟩) 5 5] (w3.alloc (.cells #[.string ⟨#[99, 97, 114, 100, 115]⟩, .string ⟨#[112, 97, 115, 116, 115]⟩, .string ⟨#[116, 97, 105, 108]⟩, .string ⟨#[108, 101, 110, 103, 116, 104]⟩, .string ⟨#[115, 104, 111, 119]⟩] 9)) fun e w' => ∃ s : ByteArray, e = .returned (.string s) ∧ s.size ≤ 16 ∧ Cur w' g (A + 2 + 2 + 2) ∧ Chg (fun k => k = g) w w' := hof.mono (fun e w' ⟨s, e1, e2, e3, e4⟩ => ⟨s, e1, e2, e3, hg4.trans e4.allocFirst⟩)
    clear hof hbB hc3 hg4
    have Hof2 := Lib.hid hof2; clear hof2
    go_wp2_with fail
    with_reducible refine (Hof2.out).mono ?_
    rintro e w5 ⟨T, rfl, hT, hc5, hg5⟩
    have hcf := hc5
    have hgf := hg5
    clear hc5 hg5
    have Hcf := Lib.hid hcf; clear hcf
    have Hgf := Lib.hid hgf; clear hgf
    go_wp2
    go_ret
    exact ⟨_, rfl, by omega, (Hcf.out).le (by omega), Hgf.out⟩
  · have hbB := belowAlloc w3 (.cells (strVs [[102, 108, 121], [], [115, 104, 111, 119, 32], [116, 97, 107, 101, 32], [116, 97, 107, 101, 32, 48], [116, 97, 107, 101, 32, 49, 43, 50], [115, 111, 114, 116, 32, 45], [115, 111, 114, 116, 32, 48], [112, 97, 115, 116, 32, 49], [98, 97, 110, 107, 32, 51, 58, 51, 58, 49], [115, 116, 101, 112, 115, 32, 48, 50], [115, 116, 97, 114, 116, 32, 48, 32, 51], [115, 116, 97, 114, 116, 32, 51], [114, 111, 119, 32, 49, 44, 44, 50], [98, 97, 110, 107, 32, 51, 58, 49]]).toArray 9)
    have hof := of_any 15 15 (some ⟨w3.heap.size, 0, none⟩) [[102, 108, 121], [], [115, 104, 111, 119, 32], [116, 97, 107, 101, 32], [116, 97, 107, 101, 32, 48], [116, 97, 107, 101, 32, 49, 43, 50], [115, 111, 114, 116, 32, 45], [115, 111, 114, 116, 32, 48], [112, 97, 115, 116, 32, 49], [98, 97, 110, 107, 32, 51, 58, 51, 58, 49], [115, 116, 101, 112, 115, 32, 48, 50], [115, 116, 97, 114, 116, 32, 48, 32, 51], [115, 116, 97, 114, 116, 32, 51], [114, 111, 119, 32, 49, 44, 44, 50], [98, 97, 110, 107, 32, 51, 58, 49]] _ g (A + 2 + 2) (strsAt_new w3 _ (by unfold maxLen; decide)) (by decide) (fun b o e => by cases e; exact ⟨by omega, by simp⟩) (hc3.keep hbB) (by omega) (by omega) (by omega)
    have hof2 : Calls Tryz.prog 57 #[.pointer (some ⟨g, 0, none⟩), .slice (some ⟨w3.heap.size, 0, none⟩) 15 15] (w3.alloc (.cells #[.string ⟨#[102, 108, 121]⟩, .string ⟨#[]⟩, .string ⟨#[115, 104, 111, 119, 32]⟩, .string ⟨#[116, 97, 107, 101, 32]⟩, .string ⟨#[116, 97, 107, 101, 32, 48]⟩, .string ⟨#[116, 97, 107, 101, 32, 49, 43, 50]⟩, .string ⟨#[115, 111, 114, 116, 32, 45]⟩, .string ⟨#[115, 111, 114, 116, 32, 48]⟩, .string ⟨#[112, 97, 115, 116, 32, 49]⟩, .string ⟨#[98, 97, 110, 107, 32, 51, 58, 51, 58, 49]⟩, .string ⟨#[115, 116, 101, 112, 115, 32, 48, 50]⟩, .string ⟨#[115, 116, 97, 114, 116, 32, 48, 32, 51]⟩, .string ⟨#[115, 116, 97, 114, 116, 32, 51]⟩, .string ⟨#[114, 111, 119, 32, 49, 44, 44, 50]⟩, .string ⟨#[98, 97, 110, 107, 32, 51, 58, 49]⟩] 9)) fun e w' => ∃ s : ByteArray, e = .returned (.string s) ∧ s.size ≤ 16 ∧ Cur w' g (A + 2 + 2 + 2) ∧ Chg (fun k => k = g) w w' := hof.mono (fun e w' ⟨s, e1, e2, e3, e4⟩ => ⟨s, e1, e2, e3, hg4.trans e4.allocFirst⟩)
    clear hof hbB hc3 hg4
    have Hof2 := Lib.hid hof2; clear hof2
    go_wp2_with fail
    with_reducible refine (Hof2.out).mono ?_
    rintro e w5 ⟨T, rfl, hT, hc5, hg5⟩
    have hcf := hc5
    have hgf := hg5
    clear hc5 hg5
    have Hcf := Lib.hid hcf; clear hcf
    have Hgf := Lib.hid hgf; clear hgf
    go_wp2
    go_ret
    exact ⟨_, rfl, by omega, (Hcf.out).le (by omega), Hgf.out⟩
end
end Go.Proofs.YtimmjimeldejjaaGreatDoor
namespace Go.Proofs.YtimmjimeldejjaaGreatDoor
section
open Go.RowKit
set_option linter.unusedVariables false
set_option linter.unusedSimpArgs false
set_option maxRecDepth 20000

theorem line_step (a : List Int) : lineA a [115, 116, 101, 112] = giveA a (mStepPiles a) := by
  unfold lineA
  rw [show splitL 32 [115, 116, 101, 112] = [wordO .step] by decide]
  unfold wordsA
  simp only [ordOf_word]
  rfl
theorem line_tail (a : List Int) : lineA a [116, 97, 105, 108] = numA a (mTailOf a) := by
  unfold lineA
  rw [show splitL 32 [116, 97, 105, 108] = [wordO .tail] by decide]
  unfold wordsA
  simp only [ordOf_word]
  rfl
theorem dl_step {a : List Int} (h : goodB a = true) : mDeskLine a [115, 116, 101, 112] = (stepL a, textL (stepL a), true) := by
  rw [mDL_yes ⟨h, by decide, by decide⟩, line_step, mStep_yes h]
  rfl
theorem dl_tail {a : List Int} (h : goodB a = true) : mDeskLine a [116, 97, 105, 108] = (a, dd (tailL a : Int), true) := by
  rw [mDL_yes ⟨h, by decide, by decide⟩, line_tail, mTail_yes h]
  rfl
theorem dl_on {a : List Int} {s : List UInt8} (h : (mDeskLine a s).2.2 = true) : goodB a = true ∧ s.length ≤ 3000 ∧ (10 : UInt8) ∉ s := by
  by_cases q : goodB a = true ∧ s.length ≤ 3000 ∧ (10 : UInt8) ∉ s
  · exact q
  · rw [mDL_no q] at h; cases h
theorem dl_good {a : List Int} {s : List UInt8} (h : (mDeskLine a s).2.2 = true) : goodB (mDeskLine a s).1 = true := by
  have q := dl_on h
  rw [mDL_yes q]
  exact good_iff.2 (line_good (good_iff.1 q.1) s)
theorem dl_keep {a : List Int} {s : List UInt8} (h : (mDeskLine a s).2.2 = true) (hb : isBad (mDeskLine a s).2.1 = true) : (mDeskLine a s).1 = a := by
  have q := dl_on h
  rw [mDL_yes q] at hb ⊢
  refine line_badKeep ?_
  rw [← bad_rep (fun t ht => line_fine ht)]
  exact hb
theorem dd_no (x : Int) : (dd x == [110, 111]) = false := by
  obtain ⟨c, r, e, hc⟩ := dd_fine x
  rw [e, beq_eq_false_iff_ne]
  intro q
  injection q with q4 _
  subst q4
  simp at hc
theorem bad_beq (t : List UInt8) : isBad t = ((t == [110, 111]) || (t == [119, 104, 97, 116])) := by
  have e : ∀ u : List UInt8, (t == u) = decide (t = u) := fun u => by
    by_cases h : t = u
    · subst h; simp
    · rw [decide_eq_false h]; exact beq_eq_false_iff_ne.2 h
  rw [e, e]; rfl
theorem curSizeD (w : World) (o : Obj) : w.heap.size ≤ (w.alloc o).heap.size := by simp

set_option maxHeartbeats 1600000 in
theorem DrawDeskLine_any (ac : Option Addr) (nc cc : Nat) (w : World) (hnc : nc ≤ 1048576) (hby : ByteIn w w.heap.size ac nc) :
    Calls Tryz.prog 10 #[.slice ac nc cc] w fun e w' => ∃ ao n cap xs, ∃ s : ByteArray, e = .returned (.tuple #[.slice ao n cap, .string s]) ∧ Own w.heap.size w'.heap.size w' ao n cap xs ∧ s.size ≤ 1201 ∧ Below w.heap.size w w' := by
  have hcon := anyPiles_any 12 _ _ 0 (cur_new w ac nc cc hnc hby) (by omega) (by omega)
  rw [show ((12 : Nat) : Int) = 12 from rfl] at hcon
  have hone := fun W hW => one_any 20 W w.heap.size 500 hW (by omega) (by omega) (by omega)
  rw [show ((20 : Nat) : Int) = 20 from rfl] at hone
  have hln := fun W hW => line8_any W w.heap.size 502 hW (by omega)
  have Hcon := Lib.hid hcon; clear hcon
  have Hby := Lib.hid hby; clear hby
  have Hone := Lib.hid hone; clear hone
  have Hln := Lib.hid hln; clear hln
  go_enter Tryz.func10, Tryz.ntmps10
  go_wp2_with fail
  with_reducible refine (Hcon.out).mono ?_
  rintro e w1 ⟨a, n, c, xs, rfl, ho, hn, hc, hg⟩
  have hlt := hc.lt
  have hs1 := hg.size
  clear Hcon hn
  go_wp2_with fail
  with_reducible refine (Hone.out w1 (hc.le (by omega))).mono ?_
  rintro e w2 ⟨t, rfl, hc2, hg2⟩
  have ho2 := (ho.chg hg2 (fun j h1 _ _ e => by rw [e] at h1; simp at h1; omega)).mono (Nat.le_refl _) hg2.size
  have hs2 := hg2.size
  clear ho Hone hc
  cases t
  · go_wp2_with fail
    with_reducible refine (Hln.out w2 hc2).mono ?_
    rintro e w3 ⟨s, rfl, hss, hc3, hg3⟩
    have ho3 := (ho2.chg hg3 (fun j h1 _ _ e => by rw [e] at h1; simp at h1; omega)).mono (curSizeD _ _) hg3.size
    have hbb := ((hg.trans hg2).trans hg3).drawn
    clear ho2 hg hg2 hg3 hc3 hc2 Hln
    have Ho3 := Lib.hid ho3; clear ho3
    have Hbb := Lib.hid hbb; clear hbb
    go_wp2
    go_ret2
    exact ⟨_, _, _, _, s, rfl, Ho3.out, by omega, Hbb.out⟩
  · go_wp2_with fail
    with_reducible refine (Hln.out w2 hc2).mono ?_
    rintro e w3 ⟨s, rfl, hss, hc3, hg3⟩
    have ho3 := (ho2.chg hg3 (fun j h1 _ _ e => by rw [e] at h1; simp at h1; omega)).mono (curSizeD _ _) hg3.size
    have hbb := ((hg.trans hg2).trans hg3).drawn
    have hno : ¬ (9223372036854775807 < s.size + 1) := by omega
    clear ho2 hg hg2 hg3 hc3 hc2 Hln
    have Ho3 := Lib.hid ho3; clear ho3
    have Hbb := Lib.hid hbb; clear hbb
    go_wp2
    go_ret2
    exact ⟨_, _, _, _, s ++ ⟨#[10]⟩, rfl, Ho3.out, by rw [ByteArray.size_append]; show s.size + 1 ≤ 1201; omega, Hbb.out⟩
end
end Go.Proofs.YtimmjimeldejjaaGreatDoor
namespace Go.Proofs.YtimmjimeldejjaaGreatDoor
section
open Go.RowKit
set_option linter.unusedVariables false
set_option linter.unusedSimpArgs false
set_option maxRecDepth 100000

set_option maxHeartbeats 4000000 in
theorem deskLines_any (pn pw : Addr) (a0 a1 : Option Addr) (len0 cap0 len1 cap1 : Nat) (w : World) (by0 : ByteIn w w.heap.size a0 len0) (hl0 : len0 ≤ maxLen) (hd : DkOk w pn pw) :
    Calls Tryz.prog 3 #[.slice a0 len0 cap0, .slice a1 len1 cap1] w fun e w' => e = .returned (.bool true) ∧ Below w.heap.size w w' := by
  by_cases hbig : 1048576 < len0 ∨ (1048576 : Int) - len0 < len1
  · have hb := big_yes a0 a1 len0 len1 cap0 cap1 w hbig hl0
    have Hb := Lib.hid hb; clear hb
    go_enter Tryz.func3, Tryz.ntmps3
    go_wp2_with fail
    with_reducible refine (Hb.out).mono ?_
    rintro e w' ⟨rfl, rfl⟩
    go_wp2
    go_ret
    exact ⟨rfl, Below.refl _ _⟩
  have hb := big_no a0 a1 len0 len1 cap0 cap1 w (by omega) (by omega)
  have hdr := DrawDeskLine_any a0 len0 cap0 w (by omega) by0
  clear by0 hl0 hbig
  have Hb := Lib.hid hb; clear hb
  have Hdr := Lib.hid hdr; clear hdr
  have acc : Below w.heap.size w w := Below.refl _ _
  go_enter Tryz.func3, Tryz.ntmps3
  go_wp2_with fail
  with_reducible refine (Hb.out).mono ?_
  rintro e w' ⟨rfl, rfl⟩
  clear Hb
  go_wp2_with fail
  with_reducible refine (Hdr.out).mono ?_
  rintro e v1 ⟨p1, n1, c1, xs, s, rfl, ho1, hs1, hb1⟩
  replace acc := belowTrans acc hb1 (Nat.le_refl _)
  clear hb1 Hdr
  have hi := fun W h q => impl_DeskLine pn pw p1 n1 c1 xs s W h (by omega) q
  have hsp := fun W h => spec_DeskLine p1 n1 c1 xs s W h (by omega)
  have hgd := @dl_good xs s.data.toList
  have hkp := @dl_keep xs s.data.toList
  generalize mDeskLine xs s.data.toList = R at hi hsp hgd hkp
  obtain ⟨r0, r1, r2⟩ := R
  simp only at hi hsp hgd hkp
  clear hs1
  cases r2
  · clear hgd hkp
    have Hi := Lib.hid hi; clear hi
    have Hsp := Lib.hid hsp; clear hsp
    go_wp2_with fail
    with_reducible refine (Hi.out _ (Own.at ho1) (DkOk.keep hd acc)).mono ?_
    rintro e v2 ⟨p2, n2, c2, rfl, ho2, hb2⟩
    replace ho1 := Own.keep ho1 hb2
    replace acc := belowTrans acc hb2 (Nat.le_refl _)
    clear hb2
    go_wp2_with fail
    with_reducible refine (Hsp.out _ (Own.at ho1)).mono ?_
    rintro e v3 ⟨p3, n3, c3, rfl, ho3, hb3⟩
    replace ho1 := Own.keep ho1 hb3
    replace ho2 := Own.keep ho2 hb3
    replace acc := belowTrans acc hb3 (Nat.le_refl _)
    clear hb3
    have hc4 := xSame_any _ _ _ _ _ _ _ _ _ (Own.at ho2) (Own.at ho3)
    rw [decide_eq_true rfl] at hc4
    have Hc4 := Lib.hid hc4; clear hc4
    go_wp2_with fail
    with_reducible refine (Hc4.out).mono ?_
    rintro e v4 ⟨rfl, hb4⟩
    replace ho1 := Own.keep ho1 hb4
    replace ho2 := Own.keep ho2 hb4
    replace ho3 := Own.keep ho3 hb4
    replace acc := belowTrans acc hb4 (Nat.le_refl _)
    clear hb4
    clear Hc4
    go_wp2
    go_ret
    exact ⟨rfl, acc⟩
  · have gX := hgd rfl
    have hk := hkp rfl
    clear hgd hkp
    rw [bad_beq] at hk
    have hpil := fun a m c W h => impl_IsPiles a m c r0 W h
    have hip : mIsPiles r0 = true := gX
    simp only [hip] at hpil
    have hst := fun a m c W h q => impl_DeskLine pn pw a m c r0 ⟨#[115, 116, 101, 112]⟩ W h (by decide) q
    have est : mDeskLine r0 (⟨#[115, 116, 101, 112]⟩ : ByteArray).data.toList = (stepL r0, textL (stepL r0), true) := dl_step gX
    simp only [est] at hst
    have hta := fun a m c W h q => impl_DeskLine pn pw a m c r0 ⟨#[116, 97, 105, 108]⟩ W h (by decide) q
    have eta : mDeskLine r0 (⟨#[116, 97, 105, 108]⟩ : ByteArray).data.toList = (r0, dd (tailL r0 : Int), true) := dl_tail gX
    simp only [eta] at hta
    have hsp2 := fun a m c W h => impl_StepPiles a m c r0 W h
    simp only [mStep_yes gX] at hsp2
    have htx := fun a m c W h => impl_PilesText a m c (stepL r0) W h
    simp only [mText_yes (good_iff.2 (stepL_good (good_iff.1 gX)))] at htx
    have htl := fun a m c W h => impl_TailOf a m c r0 W h
    simp only [mTail_yes gX] at htl
    have hdd := dd_no (tailL r0 : Int)
    clear hip est eta gX
    generalize textL (stepL r0) = tx at *
    generalize stepL r0 = st at *
    generalize dd (tailL r0 : Int) = dt at *
    generalize (tailL r0 : Int) = tl at *
    have Hi := Lib.hid hi; clear hi
    have Hsp := Lib.hid hsp; clear hsp
    have Hpil := Lib.hid hpil; clear hpil
    have Hst := Lib.hid hst; clear hst
    have Hta := Lib.hid hta; clear hta
    have Hsp2 := Lib.hid hsp2; clear hsp2
    have Htx := Lib.hid htx; clear htx
    have Htl := Lib.hid htl; clear htl
    have Hk := Lib.hid hk; clear hk
    go_wp2_with fail
    with_reducible refine (Hi.out _ (Own.at ho1) (DkOk.keep hd acc)).mono ?_
    rintro e v5 ⟨p5, n5, c5, rfl, ho5, hb5⟩
    replace ho1 := Own.keep ho1 hb5
    replace acc := belowTrans acc hb5 (Nat.le_refl _)
    clear hb5
    go_wp2_with fail
    with_reducible refine (Hsp.out _ (Own.at ho1)).mono ?_
    rintro e v6 ⟨p6, n6, c6, rfl, ho6, hb6⟩
    replace ho1 := Own.keep ho1 hb6
    replace ho5 := Own.keep ho5 hb6
    replace acc := belowTrans acc hb6 (Nat.le_refl _)
    clear hb6
    have hc7 := xSame_any _ _ _ _ _ _ _ _ _ (Own.at ho5) (Own.at ho6)
    rw [decide_eq_true rfl] at hc7
    have Hc7 := Lib.hid hc7; clear hc7
    go_wp2_with fail
    with_reducible refine (Hc7.out).mono ?_
    rintro e v7 ⟨rfl, hb7⟩
    replace ho1 := Own.keep ho1 hb7
    replace ho5 := Own.keep ho5 hb7
    replace ho6 := Own.keep ho6 hb7
    replace acc := belowTrans acc hb7 (Nat.le_refl _)
    clear hb7
    clear Hc7
    clear ho6 Hi Hsp
    cases hb1 : (r1 == [110, 111])
    · cases hb2 : (r1 == [119, 104, 97, 116])
      · clear Hk
        go_wp2_with fail
        with_reducible refine (Hpil.out _ _ _ _ (Own.at ho5)).mono ?_
        rintro e v8 ⟨rfl, hb8⟩
        replace ho1 := Own.keep ho1 hb8
        replace ho5 := Own.keep ho5 hb8
        replace acc := belowTrans acc hb8 (Nat.le_refl _)
        clear hb8
        go_wp2_with fail
        with_reducible refine (Hst.out _ _ _ _ (Own.at ho5) (DkOk.keep hd acc)).mono ?_
        rintro e v9 ⟨p9, n9, c9, rfl, ho9, hb9⟩
        replace ho1 := Own.keep ho1 hb9
        replace ho5 := Own.keep ho5 hb9
        replace acc := belowTrans acc hb9 (Nat.le_refl _)
        clear hb9
        go_wp2_with fail
        with_reducible refine (Hsp2.out _ _ _ _ (Own.at ho5)).mono ?_
        rintro e v10 ⟨p10, n10, c10, rfl, ho10, hb10⟩
        replace ho1 := Own.keep ho1 hb10
        replace ho5 := Own.keep ho5 hb10
        replace ho9 := Own.keep ho9 hb10
        replace acc := belowTrans acc hb10 (Nat.le_refl _)
        clear hb10
        go_wp2_with fail
        with_reducible refine (Htx.out _ _ _ _ (Own.at ho10)).mono ?_
        rintro e v11 ⟨rfl, hb11⟩
        replace ho1 := Own.keep ho1 hb11
        replace ho5 := Own.keep ho5 hb11
        replace ho9 := Own.keep ho9 hb11
        replace ho10 := Own.keep ho10 hb11
        replace acc := belowTrans acc hb11 (Nat.le_refl _)
        clear hb11
        go_wp2_with fail
        with_reducible refine (Hta.out _ _ _ _ (Own.at ho5) (DkOk.keep hd acc)).mono ?_
        rintro e v12 ⟨p12, n12, c12, rfl, ho12, hb12⟩
        replace ho1 := Own.keep ho1 hb12
        replace ho5 := Own.keep ho5 hb12
        replace ho9 := Own.keep ho9 hb12
        replace ho10 := Own.keep ho10 hb12
        replace acc := belowTrans acc hb12 (Nat.le_refl _)
        clear hb12
        go_wp2_with fail
        with_reducible refine (Htl.out _ _ _ _ (Own.at ho5)).mono ?_
        rintro e v13 ⟨rfl, hb13⟩
        replace ho1 := Own.keep ho1 hb13
        replace ho5 := Own.keep ho5 hb13
        replace ho9 := Own.keep ho9 hb13
        replace ho10 := Own.keep ho10 hb13
        replace ho12 := Own.keep ho12 hb13
        replace acc := belowTrans acc hb13 (Nat.le_refl _)
        clear hb13
        have hc14 := xSame_any _ _ _ _ _ _ _ _ _ (Own.at ho9) (Own.at ho10)
        rw [decide_eq_true rfl] at hc14
        have Hc14 := Lib.hid hc14; clear hc14
        go_wp2_with fail
        with_reducible refine (Hc14.out).mono ?_
        rintro e v14 ⟨rfl, hb14⟩
        replace ho1 := Own.keep ho1 hb14
        replace ho5 := Own.keep ho5 hb14
        replace ho9 := Own.keep ho9 hb14
        replace ho10 := Own.keep ho10 hb14
        replace ho12 := Own.keep ho12 hb14
        replace acc := belowTrans acc hb14 (Nat.le_refl _)
        clear hb14
        clear Hc14
        have hc15 := xSame_any _ _ _ _ _ _ _ _ _ (Own.at ho12) (Own.at ho5)
        rw [decide_eq_true rfl] at hc15
        have Hc15 := Lib.hid hc15; clear hc15
        go_wp2_with fail
        with_reducible refine (Hc15.out).mono ?_
        rintro e v15 ⟨rfl, hb15⟩
        replace ho1 := Own.keep ho1 hb15
        replace ho5 := Own.keep ho5 hb15
        replace ho9 := Own.keep ho9 hb15
        replace ho10 := Own.keep ho10 hb15
        replace ho12 := Own.keep ho12 hb15
        replace acc := belowTrans acc hb15 (Nat.le_refl _)
        clear hb15
        clear Hc15
        go_wp2
        go_ret
        exact ⟨rfl, acc⟩
      · have hkk : r0 = xs := Hk.out (by rw [hb1, hb2]; rfl)
        clear Hk
        have hc8 := xSame_any _ _ _ _ _ _ _ _ _ (Own.at ho5) (Own.at ho1)
        rw [decide_eq_true hkk] at hc8
        have Hc8 := Lib.hid hc8; clear hc8
        go_wp2_with fail
        with_reducible refine (Hc8.out).mono ?_
        rintro e v8 ⟨rfl, hb8⟩
        replace ho1 := Own.keep ho1 hb8
        replace ho5 := Own.keep ho5 hb8
        replace acc := belowTrans acc hb8 (Nat.le_refl _)
        clear hb8
        clear Hc8
        go_wp2_with fail
        with_reducible refine (Hpil.out _ _ _ _ (Own.at ho5)).mono ?_
        rintro e v9 ⟨rfl, hb9⟩
        replace ho1 := Own.keep ho1 hb9
        replace ho5 := Own.keep ho5 hb9
        replace acc := belowTrans acc hb9 (Nat.le_refl _)
        clear hb9
        go_wp2_with fail
        with_reducible refine (Hst.out _ _ _ _ (Own.at ho5) (DkOk.keep hd acc)).mono ?_
        rintro e v10 ⟨p10, n10, c10, rfl, ho10, hb10⟩
        replace ho1 := Own.keep ho1 hb10
        replace ho5 := Own.keep ho5 hb10
        replace acc := belowTrans acc hb10 (Nat.le_refl _)
        clear hb10
        go_wp2_with fail
        with_reducible refine (Hsp2.out _ _ _ _ (Own.at ho5)).mono ?_
        rintro e v11 ⟨p11, n11, c11, rfl, ho11, hb11⟩
        replace ho1 := Own.keep ho1 hb11
        replace ho5 := Own.keep ho5 hb11
        replace ho10 := Own.keep ho10 hb11
        replace acc := belowTrans acc hb11 (Nat.le_refl _)
        clear hb11
        go_wp2_with fail
        with_reducible refine (Htx.out _ _ _ _ (Own.at ho11)).mono ?_
        rintro e v12 ⟨rfl, hb12⟩
        replace ho1 := Own.keep ho1 hb12
        replace ho5 := Own.keep ho5 hb12
        replace ho10 := Own.keep ho10 hb12
        replace ho11 := Own.keep ho11 hb12
        replace acc := belowTrans acc hb12 (Nat.le_refl _)
        clear hb12
        go_wp2_with fail
        with_reducible refine (Hta.out _ _ _ _ (Own.at ho5) (DkOk.keep hd acc)).mono ?_
        rintro e v13 ⟨p13, n13, c13, rfl, ho13, hb13⟩
        replace ho1 := Own.keep ho1 hb13
        replace ho5 := Own.keep ho5 hb13
        replace ho10 := Own.keep ho10 hb13
        replace ho11 := Own.keep ho11 hb13
        replace acc := belowTrans acc hb13 (Nat.le_refl _)
        clear hb13
        go_wp2_with fail
        with_reducible refine (Htl.out _ _ _ _ (Own.at ho5)).mono ?_
        rintro e v14 ⟨rfl, hb14⟩
        replace ho1 := Own.keep ho1 hb14
        replace ho5 := Own.keep ho5 hb14
        replace ho10 := Own.keep ho10 hb14
        replace ho11 := Own.keep ho11 hb14
        replace ho13 := Own.keep ho13 hb14
        replace acc := belowTrans acc hb14 (Nat.le_refl _)
        clear hb14
        have hc15 := xSame_any _ _ _ _ _ _ _ _ _ (Own.at ho10) (Own.at ho11)
        rw [decide_eq_true rfl] at hc15
        have Hc15 := Lib.hid hc15; clear hc15
        go_wp2_with fail
        with_reducible refine (Hc15.out).mono ?_
        rintro e v15 ⟨rfl, hb15⟩
        replace ho1 := Own.keep ho1 hb15
        replace ho5 := Own.keep ho5 hb15
        replace ho10 := Own.keep ho10 hb15
        replace ho11 := Own.keep ho11 hb15
        replace ho13 := Own.keep ho13 hb15
        replace acc := belowTrans acc hb15 (Nat.le_refl _)
        clear hb15
        clear Hc15
        have hc16 := xSame_any _ _ _ _ _ _ _ _ _ (Own.at ho13) (Own.at ho5)
        rw [decide_eq_true rfl] at hc16
        have Hc16 := Lib.hid hc16; clear hc16
        go_wp2_with fail
        with_reducible refine (Hc16.out).mono ?_
        rintro e v16 ⟨rfl, hb16⟩
        replace ho1 := Own.keep ho1 hb16
        replace ho5 := Own.keep ho5 hb16
        replace ho10 := Own.keep ho10 hb16
        replace ho11 := Own.keep ho11 hb16
        replace ho13 := Own.keep ho13 hb16
        replace acc := belowTrans acc hb16 (Nat.le_refl _)
        clear hb16
        clear Hc16
        go_wp2
        go_ret
        exact ⟨rfl, acc⟩
    · have hkk : r0 = xs := Hk.out (by rw [hb1]; rfl)
      clear Hk
      have hc8 := xSame_any _ _ _ _ _ _ _ _ _ (Own.at ho5) (Own.at ho1)
      rw [decide_eq_true hkk] at hc8
      have Hc8 := Lib.hid hc8; clear hc8
      go_wp2_with fail
      with_reducible refine (Hc8.out).mono ?_
      rintro e v8 ⟨rfl, hb8⟩
      replace ho1 := Own.keep ho1 hb8
      replace ho5 := Own.keep ho5 hb8
      replace acc := belowTrans acc hb8 (Nat.le_refl _)
      clear hb8
      clear Hc8
      go_wp2_with fail
      with_reducible refine (Hpil.out _ _ _ _ (Own.at ho5)).mono ?_
      rintro e v9 ⟨rfl, hb9⟩
      replace ho1 := Own.keep ho1 hb9
      replace ho5 := Own.keep ho5 hb9
      replace acc := belowTrans acc hb9 (Nat.le_refl _)
      clear hb9
      go_wp2_with fail
      with_reducible refine (Hst.out _ _ _ _ (Own.at ho5) (DkOk.keep hd acc)).mono ?_
      rintro e v10 ⟨p10, n10, c10, rfl, ho10, hb10⟩
      replace ho1 := Own.keep ho1 hb10
      replace ho5 := Own.keep ho5 hb10
      replace acc := belowTrans acc hb10 (Nat.le_refl _)
      clear hb10
      go_wp2_with fail
      with_reducible refine (Hsp2.out _ _ _ _ (Own.at ho5)).mono ?_
      rintro e v11 ⟨p11, n11, c11, rfl, ho11, hb11⟩
      replace ho1 := Own.keep ho1 hb11
      replace ho5 := Own.keep ho5 hb11
      replace ho10 := Own.keep ho10 hb11
      replace acc := belowTrans acc hb11 (Nat.le_refl _)
      clear hb11
      go_wp2_with fail
      with_reducible refine (Htx.out _ _ _ _ (Own.at ho11)).mono ?_
      rintro e v12 ⟨rfl, hb12⟩
      replace ho1 := Own.keep ho1 hb12
      replace ho5 := Own.keep ho5 hb12
      replace ho10 := Own.keep ho10 hb12
      replace ho11 := Own.keep ho11 hb12
      replace acc := belowTrans acc hb12 (Nat.le_refl _)
      clear hb12
      go_wp2_with fail
      with_reducible refine (Hta.out _ _ _ _ (Own.at ho5) (DkOk.keep hd acc)).mono ?_
      rintro e v13 ⟨p13, n13, c13, rfl, ho13, hb13⟩
      replace ho1 := Own.keep ho1 hb13
      replace ho5 := Own.keep ho5 hb13
      replace ho10 := Own.keep ho10 hb13
      replace ho11 := Own.keep ho11 hb13
      replace acc := belowTrans acc hb13 (Nat.le_refl _)
      clear hb13
      go_wp2_with fail
      with_reducible refine (Htl.out _ _ _ _ (Own.at ho5)).mono ?_
      rintro e v14 ⟨rfl, hb14⟩
      replace ho1 := Own.keep ho1 hb14
      replace ho5 := Own.keep ho5 hb14
      replace ho10 := Own.keep ho10 hb14
      replace ho11 := Own.keep ho11 hb14
      replace ho13 := Own.keep ho13 hb14
      replace acc := belowTrans acc hb14 (Nat.le_refl _)
      clear hb14
      have hc15 := xSame_any _ _ _ _ _ _ _ _ _ (Own.at ho10) (Own.at ho11)
      rw [decide_eq_true rfl] at hc15
      have Hc15 := Lib.hid hc15; clear hc15
      go_wp2_with fail
      with_reducible refine (Hc15.out).mono ?_
      rintro e v15 ⟨rfl, hb15⟩
      replace ho1 := Own.keep ho1 hb15
      replace ho5 := Own.keep ho5 hb15
      replace ho10 := Own.keep ho10 hb15
      replace ho11 := Own.keep ho11 hb15
      replace ho13 := Own.keep ho13 hb15
      replace acc := belowTrans acc hb15 (Nat.le_refl _)
      clear hb15
      clear Hc15
      have hc16 := xSame_any _ _ _ _ _ _ _ _ _ (Own.at ho13) (Own.at ho5)
      rw [decide_eq_true rfl] at hc16
      have Hc16 := Lib.hid hc16; clear hc16
      go_wp2_with fail
      with_reducible refine (Hc16.out).mono ?_
      rintro e v16 ⟨rfl, hb16⟩
      replace ho1 := Own.keep ho1 hb16
      replace ho5 := Own.keep ho5 hb16
      replace ho10 := Own.keep ho10 hb16
      replace ho11 := Own.keep ho11 hb16
      replace ho13 := Own.keep ho13 hb16
      replace acc := belowTrans acc hb16 (Nat.le_refl _)
      clear hb16
      clear Hc16
      go_wp2
      go_ret
      exact ⟨rfl, acc⟩
end
end Go.Proofs.YtimmjimeldejjaaGreatDoor
