/- Bank states read from texts: mathematics. No condition. -/
import Derived.Test.YthmaggmhcfcojaaDoorBtA
import Derived.Test.YthmaggmhcfcojaaDoorBtL
import Derived.Test.YthmaggmhcfcojaaDoorParseI
namespace Go.Proofs.YthmaggmhcfcojaaDoor
open Go.RowKit
set_option linter.unusedVariables false
set_option linter.unusedSimpArgs false

theorem mPP_cases (s : ByteArray) : (mParsePiles s).2 = true → textL (mParsePiles s).1 = s.data.toList ∧ goodB (mParsePiles s).1 = true := by
  intro h
  by_cases hz : s.data.toList = [48]
  · rw [mParse_zero hz, hz]; exact ⟨rfl, good_iff.2 good_nil⟩
  · cases hg : goodB (outL s.data.toList)
    · rw [mParse_no hz hg] at h; cases h
    · rw [mParse_yes hz hg]; exact ⟨outL_text hg, hg⟩
theorem mPP_no (s : ByteArray) (h : (mParsePiles s).2 = false) : mParsePiles s = ([], false) := by
  by_cases hz : s.data.toList = [48]
  · rw [mParse_zero hz] at h; cases h
  · cases hg : goodB (outL s.data.toList)
    · exact mParse_no hz hg
    · rw [mParse_yes hz hg] at h; cases h
theorem read_ddI {x : Int} (h0 : 0 ≤ x) (h1 : x ≤ 28) : readL (dd x) = x := by
  unfold dd
  rw [read_dd _ (by omega)]
  omega
theorem atoi_ddI {x : Int} (h0 : 0 ≤ x) (h1 : x ≤ 28) : Lib.atoiAll (dd x) = .ok x := by
  unfold dd
  rw [atoi_dd _ (by omega)]
  congr 1
  omega
theorem mPP_of {p : List Int} (h : Good p) {s : ByteArray} (hs : s.data.toList = textL p) : mParsePiles s = (p, true) := by
  by_cases hp : p = []
  · subst hp
    exact mParse_zero hs
  · have hm := fun x hx => h.mem (x := x) hx
    have hsp : splitL 43 (textL p) = p.map dd := by unfold textL; rw [if_neg hp]; exact split_join hp hm
    have hv : ∀ i, i < p.length → Lib.atoiAll ((splitL 43 (textL p)).getD i []) = .ok (p.getD i 0) := by
      intro i hi
      rw [hsp, List.getD_eq_getElem?_getD, List.getD_eq_getElem?_getD, List.getElem?_map, List.getElem?_eq_getElem hi]
      have := hm _ (List.getElem_mem hi)
      exact atoi_ddI (by omega) this.2
    obtain ⟨h1, h2⟩ := (vals_out (l := textL p) (vals := p) (by rw [hsp, List.length_map]) hv).1 ⟨good_iff.2 h, rfl⟩
    have hz : s.data.toList ≠ [48] := by
      rw [hs]
      intro e
      rw [e] at hsp
      have h48 : splitL 43 [48] = [[48]] := by decide
      rw [h48] at hsp
      have hl1 : p.length = 1 := by have := congrArg List.length hsp; simpa using this.symm
      obtain ⟨x, rfl⟩ := List.length_eq_one_iff.1 hl1
      simp at hsp
      have hx := hm x (by simp)
      have := read_ddI (x := x) (by omega) hx.2
      rw [← hsp] at this
      have h0 : readL [48] = 0 := by decide +kernel
      omega
    rw [← hs] at h1 h2
    rw [mParse_yes hz h1, ← h2]
theorem dd_no58 {x : Int} (h : x ≤ 28) : (58 : UInt8) ∉ dd x := by
  have key : ∀ d, d < 10 → (58 : UInt8) ≠ UInt8.ofNat (48 + d) := by decide +kernel
  unfold dd
  by_cases h1 : x.toNat < 10
  · rw [Lib.decDigits_one h1]; simpa using key _ h1
  · rw [Lib.decDigits_two h1 (by omega)]
    simp only [List.mem_cons, List.mem_nil_iff, or_false, not_or]
    exact ⟨key _ (by omega), key _ (by omega)⟩
theorem join_no58 (ws : List (List UInt8)) (h : ∀ w ∈ ws, (58 : UInt8) ∉ w) : (58 : UInt8) ∉ Lib.join ws [43] := by
  have ht : ∀ l : List (List UInt8), (∀ x ∈ l, (58 : UInt8) ∉ x) → (58 : UInt8) ∉ Lib.joinTail [43] l := by
    intro l
    induction l with
    | nil => intro _; simp [Lib.joinTail]
    | cons y l ih =>
      intro hh
      have h1 := hh y (by simp)
      have h2 := ih (fun x hx => hh x (by simp [hx]))
      have e : Lib.joinTail [43] (y :: l) = [43] ++ y ++ Lib.joinTail [43] l := by simp [Lib.joinTail]
      rw [e]
      simp only [List.mem_append, not_or]
      exact ⟨⟨by decide, h1⟩, h2⟩
  cases ws with
  | nil => simp [Lib.join_nil]
  | cons w ws =>
    rw [Lib.join_cons]
    have h1 := h w (by simp)
    have h2 := ht ws (fun x hx => h x (by simp [hx]))
    simp [h1, h2]
theorem textL_no58 {p : List Int} (h : Good p) : (58 : UInt8) ∉ textL p := by
  unfold textL
  by_cases hp : p = []
  · rw [if_pos hp]; simp
  · rw [if_neg hp]
    unfold joinL
    refine join_no58 _ fun w hw => ?_
    obtain ⟨x, hx, rfl⟩ := List.mem_map.1 hw
    exact dd_no58 (h.mem hx).2
theorem splitL_last (b : UInt8) (pre post : List UInt8) (h : b ∉ post) : splitL b (pre ++ b :: post) = splitL b pre ++ [post] := by
  induction pre with
  | nil => rw [List.nil_append]; simp only [splitL, if_pos rfl, splitL_none b post h]; rfl
  | cons c pre ih =>
    rw [List.cons_append]
    by_cases hc : c = b
    · simp only [splitL, if_pos hc, ih]; rfl
    · simp only [splitL, if_neg hc, ih]
      cases hs : splitL b pre with
      | nil => exact absurd hs (splitL_ne b pre)
      | cons x t => rfl
theorem bank_split {b : Bk} (h : BankOk b) : splitL 58 (bankL b) = [dd b.h, dd b.l, textL b.p] := by
  obtain ⟨hh, hl, hG, -, -⟩ := h
  unfold bankL
  rw [List.append_assoc, List.append_assoc, List.append_assoc, List.singleton_append, splitL_app 58 _ _ (dd_no58 (by omega)), List.singleton_append, splitL_app 58 _ _ (dd_no58 (by omega)), splitL_none 58 _ (textL_no58 hG)]

/-- what the words of a text come to -/
def bkO (l : List UInt8) : Bk := ⟨readL ((splitL 58 l).getD 0 []), readL ((splitL 58 l).getD 1 []), (mParsePiles ⟨((splitL 58 l).getD 2 []).toArray⟩).1⟩
def mParseBank (s : ByteArray) : Bk × Bool :=
  if (splitL 58 s.data.toList).length = 3 ∧ (mParsePiles ⟨((splitL 58 s.data.toList).getD 2 []).toArray⟩).2 = true ∧ bankB (bkO s.data.toList) = true ∧ bankL (bkO s.data.toList) = s.data.toList then (bkO s.data.toList, true) else (⟨0, 0, []⟩, false)
theorem mPB_yes {s : ByteArray} {b : Bk} (h : BankOk b) (e : bankL b = s.data.toList) : mParseBank s = (b, true) := by
  have hs := bank_split h
  rw [e] at hs
  have hp : mParsePiles ⟨(textL b.p).toArray⟩ = (b.p, true) := mPP_of h.2.2.1 (by simp)
  obtain ⟨hh, hl, hG, -, -⟩ := id h
  have hb : bkO s.data.toList = b := by
    unfold bkO
    rw [hs]
    show Bk.mk (readL (dd b.h)) (readL (dd b.l)) (mParsePiles ⟨(textL b.p).toArray⟩).1 = b
    rw [hp, read_ddI (by omega) (by omega), read_ddI (by omega) (by omega)]
  unfold mParseBank
  rw [hb, if_pos ⟨by rw [hs]; rfl, by rw [hs]; show (mParsePiles ⟨(textL b.p).toArray⟩).2 = true; rw [hp], bankYes h, e⟩]
theorem mPB_no {s : ByteArray} (h : ∀ b, BankOk b → bankL b ≠ s.data.toList) : mParseBank s = (⟨0, 0, []⟩, false) := by
  unfold mParseBank
  rw [if_neg]
  rintro ⟨-, -, h1, h2⟩
  exact h _ (bank_iff.1 h1) h2
theorem mPB_bound (s : ByteArray) : (mParseBank s).1.p.length ≤ 1048576 := by
  unfold mParseBank
  split
  · exact mParsePiles_bound _
  · simp

/-! ### What the program finds -/
theorem last_split {b : UInt8} {l : List UInt8} {k : Nat} (h : l[k]? = some b) : l = l.take k ++ b :: l.drop (k + 1) := by
  rw [← drop_cons' h, List.take_append_drop]
theorem bank_has {b : Bk} : (58 : UInt8) ∈ bankL b := by unfold bankL; simp
theorem bank_of_split {bk : Bk} (h : BankOk bk) {pre post : List UInt8} (e : bankL bk = pre ++ 58 :: post) (hno : (58 : UInt8) ∉ post) {vals : List Int} {b : Bool} (hsp : SplitIs 58 [] pre vals b) :
    vals = [bk.h, bk.l] ∧ b = true ∧ post = textL bk.p := by
  have hs := bank_split h
  rw [e, splitL_last 58 pre post hno] at hs
  have hlen : (splitL 58 pre).length = 2 := by have := congrArg List.length hs; simpa using this
  obtain ⟨hh, hl, hG, -, -⟩ := h
  match hw : splitL 58 pre, hlen with
  | [W0, W1], _ =>
    rw [hw] at hs
    simp at hs
    obtain ⟨rfl, rfl, hpost⟩ := hs
    have hpre : dd bk.h ++ [58] ++ dd bk.l = pre := by
      have := join_split 58 pre
      rw [hw] at this
      rw [← this]
      simp [Lib.join, Lib.joinTail]
    have a0 := atoi_ddI (x := bk.h) (by omega) (by omega)
    have a1 := atoi_ddI (x := bk.l) (by omega) (by omega)
    rcases hsp with ⟨hnl, -, -⟩ | ⟨-, ⟨-, -, k, hk, hbad⟩ | ⟨hvl, hv, hb⟩⟩
    · rw [hnl] at hw
      simp [splitL] at hw
    · rw [hw] at hk hbad
      match k, hk with
      | 0, _ => exact absurd a0 (hbad _)
      | 1, _ => exact absurd a1 (hbad _)
    · rw [hw] at hvl hv
      match vals, hvl with
      | [v0, v1], _ =>
        have e0 := hv 0 (by simp)
        have e1 := hv 1 (by simp)
        change Lib.atoiAll (dd bk.h) = .ok v0 at e0
        change Lib.atoiAll (dd bk.l) = .ok v1 at e1
        rw [a0] at e0
        rw [a1] at e1
        injection e0 with e0
        injection e1 with e1
        subst e0 e1
        refine ⟨rfl, ?_, hpost⟩
        rw [hb, jn_two (by omega) (by omega), hpre]
        simp
/-- what the program does with a text that has the byte: every way it can end -/
theorem bank_ways {s : ByteArray} {pre post : List UInt8} (e : s.data.toList = pre ++ 58 :: post) (hno : (58 : UInt8) ∉ post) {vals : List Int} {b : Bool} (hsp : SplitIs 58 [] pre vals b) :
    (b = false → mParseBank s = (⟨0, 0, []⟩, false)) ∧ (vals.length ≠ 2 → mParseBank s = (⟨0, 0, []⟩, false)) ∧
    ∀ v0 v1, vals = [v0, v1] → b = true →
      ((mParsePiles ⟨post.toArray⟩).2 = false → mParseBank s = (⟨0, 0, []⟩, false)) ∧
      ((mParsePiles ⟨post.toArray⟩).2 = true → bankB ⟨v0, v1, (mParsePiles ⟨post.toArray⟩).1⟩ = false → mParseBank s = (⟨0, 0, []⟩, false)) ∧
      ((mParsePiles ⟨post.toArray⟩).2 = true → bankB ⟨v0, v1, (mParsePiles ⟨post.toArray⟩).1⟩ = true → mParseBank s = (⟨v0, v1, (mParsePiles ⟨post.toArray⟩).1⟩, true)) := by
  have key := fun bk (h : BankOk bk) (he : bankL bk = s.data.toList) => bank_of_split h (he.trans e) hno hsp
  refine ⟨fun hb => mPB_no fun bk h he => ?_, fun hl => mPB_no fun bk h he => ?_, fun v0 v1 hv hb => ⟨fun hp => mPB_no fun bk h he => ?_, fun hp hk => mPB_no fun bk h he => ?_, fun hp hk => ?_⟩⟩
  · have := (key bk h he).2.1
    rw [hb] at this; cases this
  · rw [(key bk h he).1] at hl; exact hl rfl
  · have := mPP_of h.2.2.1 (s := ⟨post.toArray⟩) (by simpa using (key bk h he).2.2)
    rw [this] at hp; cases hp
  · have h1 := mPP_of h.2.2.1 (s := ⟨post.toArray⟩) (by simpa using (key bk h he).2.2)
    have h2 := (key bk h he).1
    rw [hv] at h2
    injection h2 with h2 h3
    injection h3 with h3 _
    subst h2 h3
    rw [h1] at hk
    rw [bankYes h] at hk
    cases hk
  · refine mPB_yes (bank_iff.1 hk) ?_
    subst hv hb
    have hk' := bank_iff.1 hk
    obtain ⟨hh, hl, -, -, -⟩ := hk'
    simp only at hh hl
    rcases hsp with ⟨-, h1, -⟩ | ⟨-, ⟨h1, -, -⟩ | ⟨-, -, h1⟩⟩
    · cases h1
    · cases h1
    · have h2 := of_decide_eq_true h1.symm
      rw [jn_two (by omega) (by omega)] at h2
      have h3 := (mPP_cases _ hp).1
      rw [e, ← h2]
      show dd v0 ++ [58] ++ dd v1 ++ [58] ++ textL (mParsePiles ⟨post.toArray⟩).1 = _
      rw [h3]
      simp
end Go.Proofs.YthmaggmhcfcojaaDoor
