/- ParsePiles by the program. Its condition: what the library's own variables hold, as the row lists it. -/
import Derived.Test.YtbkihnejgcebpaaGreatDoorParseS
import Derived.Test.YtbkihnejgcebpaaGreatDoorShelfB
import Derived.Lib.AtoiErrMem
import Derived.Lib.AtoiAllCases
import Derived.Lib.ItoaLen
import Derived.Lib.LaidTab
import Derived.Lib.AppendIntMem
import Derived.ChangeAgain
namespace Go.Proofs.YtbkihnejgcebpaaGreatDoor
open Go.RowKit
set_option linter.unusedVariables false
set_option linter.unusedSimpArgs false

theorem var_keep {n : String} {w w' : World} {x : Array Value} (h : w.var? Tryz.prog n = some x) (hb : Below w.heap.size w w') : w'.var? Tryz.prog n = some x := by
  unfold World.var? at h ⊢
  cases hg : Tryz.prog.globalNamed n with
  | none => rw [hg] at h; simp at h
  | some g =>
    rw [hg] at h
    simp only [Option.bind_some] at h ⊢
    have hlt : g < w.heap.size := by
      cases ho : w.heap[g]? with
      | none => rw [ho] at h; simp at h
      | some o => exact (Array.getElem?_eq_some_iff.1 ho).1
    rw [(Chg.ofBelow (S := fun _ => False) hb).block g hlt id]
    exact h
/-- what the library's contracts ask of the world -/
structure LibOk (w : World) : Prop where
  shape : w.ShapedOpen Tryz.prog
  syn : ∃ tp p, w.var? Tryz.prog "strconv.ErrSyntax" = some #[.iface tp p]
  rng : ∃ tp p, w.var? Tryz.prog "strconv.ErrRange" = some #[.iface tp p]
  tab : Lib.TabIs Tryz.prog w "internal/strconv.uint64pow10" .u64 Lib.pow10Tab
theorem LibOk.keep {w w' : World} (h : LibOk w) (hb : Below w.heap.size w w') : LibOk w' :=
  ⟨h.shape.keptBut (hb.frame (fun _ => False)) (fun _ hf => hf.elim), by obtain ⟨tp, p, e⟩ := h.syn; exact ⟨tp, p, var_keep e hb⟩, by obtain ⟨tp, p, e⟩ := h.rng; exact ⟨tp, p, var_keep e hb⟩, var_keep h.tab hb⟩

/-- strconv.Atoi, however it ends -/
theorem atoi_any (s : ByteArray) (w : World) (hs : s.size ≤ 1048576) (hL : LibOk w) :
    Calls Tryz.prog 122 #[.string s] w fun e w' => ((∃ v, Lib.atoiAll s.data.toList = .ok v ∧ e = .returned (.tuple #[.int .i64 v, .nilIface])) ∨ ((∀ v, Lib.atoiAll s.data.toList ≠ .ok v) ∧ ∃ x t q, e = .returned (.tuple #[.int .i64 x, .iface t q]))) ∧ Below w.heap.size w w' := by
  obtain ⟨tp, p, e1⟩ := hL.syn
  obtain ⟨tq, q, e2⟩ := hL.rng
  rcases hA : Lib.atoiAll s.data.toList with v | _ | _
  · refine (Tryz.strconv_Atoi_ok s (by omega) v hA w).mono fun e w' ⟨he, hw⟩ => ⟨.inl ⟨v, rfl, he⟩, ?_⟩
    rcases hw with rfl | ⟨t, rfl⟩
    · exact Below.refl _ _
    · exact Lib.bytesWorld_below _ _ _
  · refine (Any.strconv_Atoi_syntax_var Tryz.laysC172 s (by omega) hA tp p w e1).mono fun e w' ⟨N, he, _, _, hb⟩ => ⟨.inr ⟨fun v hv => (by cases hv), _, _, _, he⟩, hb⟩
  · refine (Tryz.strconv_Atoi_range_var s (by omega) hA tq q w e2).mono fun e w' ⟨N, he, _, _, hb⟩ => ⟨.inr ⟨fun v hv => (by cases hv), _, _, _, he⟩, hb⟩

theorem OwnRow.typedI {B E w ty ao n cap vs g} (h : OwnRow B E w ty ao n cap vs) (hg : (Value.slice ao n cap).ownBlock = some g) : ∃ cur, w.heap[g]? = some (.cells cur ty (0, 0)) := by
  rcases h.1.2 with ⟨hv, _⟩ | ⟨g', c, cur, hv, hg', hh, _⟩
  · rw [hv] at hg; simp [Value.ownBlock] at hg
  · rw [hv] at hg; simp [Value.ownBlock] at hg; subst hg; exact ⟨cur, hh⟩
theorem strInt {B E w ao n cap vs B' E' ao' n' cap' xs} (h : OwnRow B E w 9 ao n cap vs) (k : Own B' E' w ao' n' cap' xs) {g : Nat} (h1 : (Value.slice ao n cap).ownBlock = some g) (h2 : (Value.slice ao' n' cap').ownBlock = some g) : False := by
  obtain ⟨cur, e1⟩ := h.typedI h1
  obtain ⟨cur', e2⟩ := OwnRow.typedI k h2
  rw [e1] at e2
  simp at e2
theorem strs_row {bs : List ByteArray} {O : List (List UInt8)} (h : bs.map (·.data.toList) = O) : bs.map Value.string = strVs O := by
  subst h
  unfold strVs
  rw [List.map_map]
  apply List.map_congr_left
  intro b _
  simp
theorem split_any (s : ByteArray) (sep : UInt8) (w : World) (hs : s.size ≤ 1048576) (hL : LibOk w) :
    Calls Tryz.prog 121 #[.string s, .string ⟨#[sep]⟩] w fun e w' => ∃ ao n cap, e = .returned (.slice ao n cap) ∧ OwnRow w.heap.size w'.heap.size w' 9 ao n cap (strVs (splitL sep s.data.toList)) ∧ Below w.heap.size w w' := by
  have hc : Lib.countB s ⟨#[sep]⟩ = s.data.toList.count sep := Lib.count_one sep _
  have hd := Lib.splitB_data ⟨#[sep]⟩ 0 (Lib.countB s ⟨#[sep]⟩) s
  have hk : Lib.splitK [sep] 0 (Lib.countB s ⟨#[sep]⟩) s.data.toList = splitL sep s.data.toList := splitK_eq sep _ _ (by rw [hc]; exact Nat.le_refl _)
  have hd' : (Lib.splitB ⟨#[sep]⟩ 0 (Lib.countB s ⟨#[sep]⟩) s).map (·.data.toList) = splitL sep s.data.toList := hd.trans hk
  have hn : Lib.countB s ⟨#[sep]⟩ + 1 = (splitL sep s.data.toList).length := by rw [hc, splitL_length]
  have hle := splitL_le sep s.data.toList
  have hsz : s.data.toList.length = s.size := rfl
  have hrow := strs_row hd'
  have hlen : ((Lib.splitB ⟨#[sep]⟩ 0 (Lib.countB s ⟨#[sep]⟩) s).map Value.string).length = Lib.countB s ⟨#[sep]⟩ + 1 := by rw [hrow, hn]; simp [strVs]
  refine (Tryz.strings_Split_shaped s ⟨#[sep]⟩ w hL.shape (by omega) (by show 0 < [sep].length; simp)).mono fun e w' ⟨he, hw⟩ => ?_
  subst hw
  refine ⟨_, _, _, he, OwnRow.of ⟨by rw [← hrow, hlen]; omega, .inr ⟨_, _, _, rfl, Nat.le_refl _, heap_alloc_new w _, Nat.le_refl _, by unfold maxLen; omega, by rw [List.size_toArray, hlen]; omega, ?_⟩⟩, (Below.refl _ _).alloc (Nat.le_refl _) _⟩
  rw [Nat.mul_one, ← hlen, List.take_length, hrow]
theorem mParse_bad {s : ByteArray} {k : Nat} (hz : s.data.toList ≠ [48]) (hk : k < (splitL 43 s.data.toList).length) (h : ∀ v, Lib.atoiAll ((splitL 43 s.data.toList).getD k []) ≠ .ok v) : mParsePiles s = ([], false) := by
  refine mParse_no hz ?_
  cases hg : goodB (outL s.data.toList)
  · rfl
  · have hw := outL_mem hg (List.getElem_mem hk)
    exact absurd (atoi_word hw.1 hw.2) (by rw [List.getD_eq_getElem?_getD, List.getElem?_eq_getElem hk] at h; exact h _)
theorem mParse_vals {s : ByteArray} {vals : List Int} (hz : s.data.toList ≠ [48]) (hlen : vals.length = (splitL 43 s.data.toList).length) (hv : ∀ i, i < vals.length → Lib.atoiAll ((splitL 43 s.data.toList).getD i []) = .ok (vals.getD i 0)) :
    (goodB vals = false → mParsePiles s = ([], false)) ∧ (goodB vals = true → textL vals ≠ s.data.toList → mParsePiles s = ([], false)) ∧ (goodB vals = true → textL vals = s.data.toList → mParsePiles s = (vals, true)) := by
  refine ⟨fun hg => mParse_no hz ?_, fun hg ht => mParse_no hz ?_, fun hg ht => ?_⟩
  · cases ho : goodB (outL s.data.toList)
    · rfl
    · rw [vals_eq hlen hv ho, ho] at hg; cases hg
  · cases ho : goodB (outL s.data.toList)
    · rfl
    · exact absurd (by rw [vals_eq hlen hv ho]; exact outL_text ho) ht
  · obtain ⟨h1, h2⟩ := (vals_out hlen hv).1 ⟨hg, ht⟩
    rw [h2]; exact mParse_yes hz h1
theorem okAll_snoc {O : List (List UInt8)} {vals : List Int} {x : Int} (h : ∀ i, i < vals.length → Lib.atoiAll (O.getD i []) = .ok (vals.getD i 0)) (hx : Lib.atoiAll (O.getD vals.length []) = .ok x) : ∀ i, i < (vals ++ [x]).length → Lib.atoiAll (O.getD i []) = .ok ((vals ++ [x]).getD i 0) := by
  intro i hi
  rw [List.length_append, List.length_singleton] at hi
  by_cases hlt : i < vals.length
  · rw [h i hlt, List.getD_eq_getElem?_getD, List.getD_eq_getElem?_getD, List.getElem?_append_left hlt]
  · obtain rfl : i = vals.length := by omega
    rw [hx, List.getD_eq_getElem?_getD, List.getElem?_append_right (Nat.le_refl _)]; simp

/-- what splitNumbers comes to -/
def SplitIs (sep : UInt8) (nl l : List UInt8) (vals : List Int) (b : Bool) : Prop :=
  (l = nl ∧ vals = [] ∧ b = true) ∨ (l ≠ nl ∧ ((vals = [] ∧ b = false ∧ ∃ k, k < (splitL sep l).length ∧ ∀ v, Lib.atoiAll ((splitL sep l).getD k []) ≠ .ok v) ∨
    (vals.length = (splitL sep l).length ∧ (∀ j, j < vals.length → Lib.atoiAll ((splitL sep l).getD j []) = .ok (vals.getD j 0)) ∧ b = decide (jnL sep nl vals = l))))
/-- how it ends (a definition, so that no rule opens it) -/
def SplitPost (sep : UInt8) (nl : List UInt8) (s : ByteArray) (w : World) (e : Ending) (w' : World) : Prop :=
  ∃ ao n cap vals b, e = .returned (.tuple #[.slice ao n cap, .bool b]) ∧ Own w.heap.size w'.heap.size w' ao n cap vals ∧ SplitIs sep nl s.data.toList vals b ∧ Below w.heap.size w w'
theorem itoa_ok (w : World) (x : Int) (h0 : -9223372036854775808 ≤ x) (h1 : x ≤ 9223372036854775807) (hL : LibOk w) : ItoaOk w x := by
  intro W hb
  have hcon := Tryz.strconv_Itoa x h0 h1 W (hL.keep hb).tab
  change Calls Tryz.prog 124 _ _ _ at hcon
  refine hcon.mono fun e w' ⟨he, k, os, hw⟩ => ⟨he, ?_⟩
  rw [hw]
  exact Lib.below_grow _ _ (Nat.le_refl _) k os

theorem vals_ok {O : List (List UInt8)} {vals : List Int} (h : ∀ i, i < vals.length → Lib.atoiAll (O.getD i []) = .ok (vals.getD i 0)) (x : Int) (hx : x ∈ vals) : ∃ l : List UInt8, Lib.atoiAll l = .ok x := by
  obtain ⟨i, hi, rfl⟩ := List.getElem_of_mem hx
  have := h i hi
  rw [List.getD_eq_getElem?_getD (l := vals), List.getElem?_eq_getElem hi] at this
  exact ⟨_, this⟩
theorem parse_of_split {s : ByteArray} {vals : List Int} {b : Bool} (h : SplitIs 43 [48] s.data.toList vals b) :
    (b = false → mParsePiles s = ([], false)) ∧ (b = true → goodB vals = false → mParsePiles s = ([], false)) ∧ (b = true → goodB vals = true → mParsePiles s = (vals, true)) := by
  rcases h with ⟨h1, rfl, rfl⟩ | ⟨hz, ⟨rfl, rfl, k, hk, hno⟩ | ⟨hlen, hok, rfl⟩⟩
  · exact ⟨fun h => (by cases h), fun _ h => absurd (good_iff.2 good_nil) (by rw [h]; simp), fun _ _ => mParse_zero h1⟩
  · exact ⟨fun _ => mParse_bad hz hk hno, fun h => (by cases h), fun h => (by cases h)⟩
  · obtain ⟨h1, h2, h3⟩ := mParse_vals hz hlen hok
    refine ⟨fun h => ?_, fun _ hg => h1 hg, fun h hg => ?_⟩
    · cases hg : goodB vals
      · exact h1 hg
      · rw [decide_eq_false_iff_not, jnL_text (fun x hx => by have := (good_iff.1 hg).mem hx; omega)] at h
        exact h2 hg h
    · rw [decide_eq_true_iff, jnL_text (fun x hx => by have := (good_iff.1 hg).mem hx; omega)] at h
      exact h3 hg h

set_option maxHeartbeats 1600000 in
set_option maxRecDepth 100000 in
theorem splitNumbers_any (s : ByteArray) (sep : UInt8) (nl : List UInt8) (w : World) (hs : s.size ≤ 1048576) (hL : LibOk w) :
    Calls Tryz.prog 68 #[.string s, .string ⟨#[sep]⟩, .string ⟨nl.toArray⟩] w fun e w' => SplitPost sep nl s w e w' := by
  have hemp := Own.empty w
  have hb0 : Below w.heap.size w (w.alloc (.cells #[] 3)) := (Below.refl _ _).alloc (Nat.le_refl _) _
  by_cases hz : s.data.toList = nl
  · have e := bytes_eq hz
    subst e
    have Hz := Lib.hid hz; clear hz
    go_enter Tryz.func68, Tryz.ntmps68
    go_wp2
    go_ret2
    refine ⟨_, _, _, _, _, ?_, hemp, .inl ⟨by simp, rfl, rfl⟩, hb0⟩
    rfl
  · have hne := bytes_ne hz
    have hsp := split_any s sep (w.alloc (.cells #[] 3)) hs (hL.keep hb0)
    have hsz : s.data.toList.length = s.size := rfl
    have hwl := splitL_word_le sep s.data.toList
    have hcl := splitL_le sep s.data.toList
    have hpo := splitL_ne sep s.data.toList
    have hfin : ∀ vals b, SplitIs sep nl s.data.toList vals b ↔ ((vals = [] ∧ b = false ∧ ∃ k, k < (splitL sep s.data.toList).length ∧ ∀ v, Lib.atoiAll ((splitL sep s.data.toList).getD k []) ≠ .ok v) ∨
      (vals.length = (splitL sep s.data.toList).length ∧ (∀ j, j < vals.length → Lib.atoiAll ((splitL sep s.data.toList).getD j []) = .ok (vals.getD j 0)) ∧ b = decide (jnL sep nl vals = s.data.toList))) :=
      fun vals b => ⟨fun h => h.elim (fun h => absurd h.1 hz) (fun h => h.2), fun h => .inr ⟨hz, h⟩⟩
    generalize splitL sep s.data.toList = O at *
    have Hz := Lib.hid hz; clear hz
    have Hsp := Lib.hid hsp; clear hsp
    have Hwl := Lib.hid hwl; clear hwl
    have Hfin := Lib.hid hfin; clear hfin
    have Hpo := Lib.hid hpo; clear hpo
    go_enter Tryz.func68, Tryz.ntmps68
    go_wp2_with fail
    with_reducible refine (Hsp.out).mono ?_
    rintro e w1 ⟨a1, n, c1, rfl, ho1, hb1⟩
    have hbw := hb0.trans (hb1.mono hb0.size)
    have hemp1 := (hemp.keep hb1).mono (Nat.le_refl _) hb1.size
    replace ho1 := ho1.mono hb0.size (Nat.le_refl _)
    clear hemp hb0 hb1
    have hn := ho1.length
    simp only [strVs, List.length_map] at hn
    have hn8 : (n : Int) ≤ 1048577 := by omega
    have Hn := Lib.hid hn; clear hn
    obtain ⟨wo, hwo⟩ : ∃ wo : World, wo = w1 := ⟨_, rfl⟩
    subst hwo
    generalize hX : wo.heap.size = X at *
    have HX := Lib.hid hX; clear hX
    go_wp2_with fail
    go_loopw [8, 22] (fun v i wr => ∃ (k : Nat) (a : Option Addr) (p c : Nat) (vals : List Int), k ≤ n ∧ p = k ∧ i = .int .i64 k ∧ v = .slice a p c ∧ Own w.heap.size wr.heap.size wr a p c vals ∧ (∀ j, j < vals.length → Lib.atoiAll (O.getD j []) = .ok (vals.getD j 0)) ∧ Below w.heap.size w wr ∧ OwnRow w.heap.size X wr 9 a1 n c1 (strVs O)) (fun _ i _ => n - (intOf i).toNat)
    case atStart => exact ⟨0, _, 0, _, [], Nat.zero_le _, rfl, rfl, rfl, HX.out ▸ hemp1, fun j hj => absurd hj (by simp), hbw, ho1⟩
    case round =>
      obtain ⟨k, a, p, c, vals, hk, rfl, rfl, rfl, hown, hok, hb, hstr⟩ := hrel
      have hvl := hown.length
      by_cases hlt : p < n
      · obtain ⟨g, rfl, hg, hcell⟩ := hstr.strAt hlt
        have hwd := getD_word (k := p) Hwl.out
        have hcon := fun W hW => atoi_any ⟨(O.getD p []).toArray⟩ W (by show (O.getD p []).toArray.size ≤ _; rw [List.size_toArray]; omega) hW
        simp only [List.toList_toArray] at hcon
        have hcn := hcon wr (hL.keep hb)
        clear hcon
        have hsn := fun x hx => okAll_snoc (x := x) hok (by rw [hvl]; exact hx)
        have hbd : (∀ v, Lib.atoiAll (O.getD p []) ≠ .ok v) → SplitIs sep nl s.data.toList [] false := fun hno => (Hfin.out _ _).2 (.inl ⟨rfl, rfl, p, by have := Hn.out; omega, hno⟩)
        generalize hW : O.getD p [] = W at *
        have Hcn := Lib.hid hcn; clear hcn
        have Hwd := Lib.hid hwd; clear hwd
        have HW := Lib.hid hW; clear hW
        have Hsn := Lib.hid hsn; clear hsn
        have Hbd := Lib.hid hbd; clear hbd
        have Hok := Lib.hid hok; clear hok
        have Hvl := Lib.hid hvl; clear hvl
        clear ho1 hemp1 hbw
        go_wp2_with fail
        with_reducible refine (Hcn.out).mono ?_
        rintro e w2 ⟨⟨x, hx, rfl⟩ | ⟨hno, x, t, q, rfl⟩, hb2⟩
        · have hbw2 := hb.trans (hb2.mono hb.size)
          have hown2 := (hown.keep hb2).mono (Nat.le_refl _) hb2.size
          have hstr2 := hstr.keep hb2
          have hs1 := Hsn.out x hx
          clear hown hstr hb hb2 hcell
          have Hx := Lib.hid hx; clear hx
          have Hs1 := Lib.hid hs1; clear hs1
          go_wp2_with (at_builtin; refine wpList_push w2 rfl _ _ rfl w.heap.size w2.heap.size a p c _ rfl hown2 _ rfl (by omega) hbw2.size ?_)
          intro a3 c3 w3 ho3 hc3
          have hb3 := hbw2.trans (hown2.chgBelow hc3 hbw2.size)
          have hstr3 := hstr2.chg hc3 (fun g' _ _ hg' hs' => strInt hstr2 hown2 hg' hs')
          clear hown2 hc3 hstr2 hbw2
          go_wp2
          go_roundw
          case rel => exact ⟨p + 1, a3, p + 1, c3, _, by omega, rfl, by go_num, rfl, ho3, Hs1.out, hb3, hstr3⟩
          case measure => simp [intOf] <;> omega
        · have hm := Hbd.out hno
          have hbw2 := hb.trans (hb2.mono hb.size)
          have Hm := Lib.hid hm; clear hm
          have Hno := Lib.hid hno; clear hno
          clear hown hstr hb hb2 hcell
          go_wp2
          go_ret2
          exact ⟨none, 0, 0, _, _, rfl, Own.nil _ _ _, Hm.out, hbw2⟩
      · obtain rfl : n = p := by omega
        have hbd : ∀ x ∈ vals, -9223372036854775808 ≤ x ∧ x ≤ 9223372036854775807 := fun x hx => by obtain ⟨l, hl⟩ := vals_ok hok x hx; exact Lib.atoiAll_bounds hl
        have hcon := joinNumbers_any _ _ _ vals sep nl wr hown.at (by omega) (fun x hx => itoa_ok wr x (hbd x hx).1 (hbd x hx).2 (hL.keep hb)) (fun x hx => Lib.itoa_length_le x (hbd x hx).1 (hbd x hx).2)
        have hs2 : SplitIs sep nl s.data.toList vals (decide (jnL sep nl vals = s.data.toList)) := (Hfin.out _ _).2 (.inr ⟨by rw [hvl]; exact Hn.out.symm, hok, rfl⟩)
        clear ho1 hemp1 hbw hstr
        generalize hJ : jnL sep nl vals = J at *
        by_cases ht : J = s.data.toList
        · have hbeq : (J == s.toList) = true := by rw [beq_iff_eq, ByteArray.toList_eq]; exact ht
          rw [decide_eq_true ht] at hs2
          have Hcon := Lib.hid hcon; clear hcon
          have Hok := Lib.hid hok; clear hok
          have Hvl := Lib.hid hvl; clear hvl
          have Ht := Lib.hid ht; clear ht
          have Hs2 := Lib.hid hs2; clear hs2
          have HJ := Lib.hid hJ; clear hJ
          have Hbd := Lib.hid hbd; clear hbd
          go_wp2_with fail
          with_reducible refine (Hcon.out).mono ?_
          rintro e w2 ⟨rfl, hb2⟩
          have hown2 := (hown.keep hb2).mono (Nat.le_refl _) hb2.size
          go_wp2
          go_ret2
          exact ⟨_, _, _, _, _, rfl, hown2, Hs2.out, hb.trans (hb2.mono hb.size)⟩
        · have hbne : (J == s.toList) = false := by rw [beq_eq_false_iff_ne, ByteArray.toList_eq]; exact ht
          rw [decide_eq_false ht] at hs2
          have Hcon := Lib.hid hcon; clear hcon
          have Hok := Lib.hid hok; clear hok
          have Hvl := Lib.hid hvl; clear hvl
          have Ht := Lib.hid ht; clear ht
          have Hs2 := Lib.hid hs2; clear hs2
          have HJ := Lib.hid hJ; clear hJ
          have Hbd := Lib.hid hbd; clear hbd
          go_wp2_with fail
          with_reducible refine (Hcon.out).mono ?_
          rintro e w2 ⟨rfl, hb2⟩
          have hown2 := (hown.keep hb2).mono (Nat.le_refl _) hb2.size
          go_wp2
          go_ret2
          exact ⟨_, _, _, _, _, rfl, hown2, Hs2.out, hb.trans (hb2.mono hb.size)⟩

theorem impl_ParsePiles (s : ByteArray) (w : World) (hs : s.size ≤ 1048576) (hL : LibOk w) :
    Calls Tryz.prog 13 #[.string s] w fun e w' => ∃ ao' n' cap', e = .returned (.tuple #[.slice ao' n' cap', .bool (mParsePiles s).2]) ∧ Own w.heap.size w'.heap.size w' ao' n' cap' (mParsePiles s).1 ∧ Below w.heap.size w w' := by
  have hcon := splitNumbers_any s 43 [48] w hs hL
  change Calls Tryz.prog 68 #[.string s, .string ⟨#[43]⟩, .string ⟨#[48]⟩] _ _ at hcon
  have Hcon := Lib.hid hcon; clear hcon
  go_enter Tryz.func13, Tryz.ntmps13
  go_wp2_with fail
  with_reducible refine (Hcon.out).mono ?_
  rintro e w1 ⟨a1, n1, c1, vals, b, rfl, ho1, hsp, hb1⟩
  have hp := parse_of_split hsp
  cases b
  · have hq := hp.1 rfl
    have Hp := Lib.hid hp; clear hp
    have Hsp := Lib.hid hsp; clear hsp
    have Hq := Lib.hid hq; clear hq
    go_wp2
    go_ret2
    rw [Hq.out]
    exact ⟨none, 0, 0, rfl, Own.nil _ _ _, hb1⟩
  · cases hg : goodB vals
    · have hq := hp.2.1 rfl hg
      have Hp := Lib.hid hp; clear hp
      have Hsp := Lib.hid hsp; clear hsp
      have Hg := Lib.hid hg; clear hg
      have Hq := Lib.hid hq; clear hq
      go_wp2_with fail
      with_reducible refine (isPilesT_no _ _ _ _ _ ho1.at Hg.out).mono ?_
      rintro e w' ⟨rfl, rfl⟩
      go_wp2
      go_ret2
      rw [Hq.out]
      exact ⟨none, 0, 0, rfl, Own.nil _ _ _, hb1⟩
    · have hq := hp.2.2 rfl hg
      have Hp := Lib.hid hp; clear hp
      have Hsp := Lib.hid hsp; clear hsp
      have Hg := Lib.hid hg; clear hg
      have Hq := Lib.hid hq; clear hq
      go_wp2_with fail
      with_reducible refine (isPilesT_yes _ _ _ _ _ ho1.at (good_iff.1 Hg.out)).mono ?_
      rintro e w' ⟨rfl, rfl⟩
      go_wp2
      go_ret2
      rw [Hq.out]
      exact ⟨_, _, _, rfl, ho1, hb1⟩
end Go.Proofs.YtbkihnejgcebpaaGreatDoor
