/- Bank states read from texts: mathematics. No condition. -/
import Derived.Test.YtjaodhjiibdbdaaGreatDoorGj
import Derived.Test.YtjaodhjiibdbdaaGreatDoorBtL
namespace Go.Proofs.YtjaodhjiibdbdaaGreatDoor
open Go.RowKit
set_option linter.unusedVariables false
set_option linter.unusedSimpArgs false

def bkO (l : List UInt8) : Bk := ⟨readL ((splitL 58 l).getD 0 []), readL ((splitL 58 l).getD 1 []), (mParsePiles ⟨((splitL 58 l).getD 2 []).toArray⟩).1⟩
def mParseBank (s : ByteArray) : Bk × Bool :=
  if (splitL 58 s.data.toList).length = 3 ∧ (mParsePiles ⟨((splitL 58 s.data.toList).getD 2 []).toArray⟩).2 = true ∧ bankB (bkO s.data.toList) = true ∧ bankL (bkO s.data.toList) = s.data.toList then (bkO s.data.toList, true) else (⟨0, 0, []⟩, false)
theorem mPB_yes {s : ByteArray} {b : Bk} (h : BankOk b) (e : bankL b = s.data.toList) : mParseBank s = (b, true) := by
  have hs := bank_split h
  rw [e] at hs
  have hp : mParsePiles ⟨(textL b.p).toArray⟩ = (b.p, true) := mPP_of h.2.2.1 (by simp)
  obtain ⟨hh, hl, hG, -, -⟩ := id h
  have hb : bkO s.data.toList = b := by
    unfold bkO
    rw [hs]
    show Bk.mk (readL (dd b.h)) (readL (dd b.l)) (mParsePiles ⟨(textL b.p).toArray⟩).1 = b
    rw [hp, read_ddI (by omega) (by omega), read_ddI (by omega) (by omega)]
  unfold mParseBank
  rw [hb, if_pos ⟨by rw [hs]; rfl, by rw [hs]; show (mParsePiles ⟨(textL b.p).toArray⟩).2 = true; rw [hp], bankYes h, e⟩]
theorem mPB_no {s : ByteArray} (h : ∀ b, BankOk b → bankL b ≠ s.data.toList) : mParseBank s = (⟨0, 0, []⟩, false) := by
  unfold mParseBank
  rw [if_neg]
  rintro ⟨-, -, h1, h2⟩
  exact h _ (bank_iff.1 h1) h2
theorem mPB_bound (s : ByteArray) : (mParseBank s).1.p.length ≤ 1048576 := by
  unfold mParseBank
  split
  · exact mParsePiles_bound _
  · simp

/-! ### What the program finds -/
theorem last_split {b : UInt8} {l : List UInt8} {k : Nat} (h : l[k]? = some b) : l = l.take k ++ b :: l.drop (k + 1) := by
  rw [← drop_cons' h, List.take_append_drop]
theorem bank_has {b : Bk} : (58 : UInt8) ∈ bankL b := by unfold bankL; simp
theorem bank_of_split {bk : Bk} (h : BankOk bk) {pre post : List UInt8} (e : bankL bk = pre ++ 58 :: post) (hno : (58 : UInt8) ∉ post) {vals : List Int} {b : Bool} (hsp : SplitIs 58 [] pre vals b) :
    vals = [bk.h, bk.l] ∧ b = true ∧ post = textL bk.p := by
  have hs := bank_split h
  rw [e, splitL_last 58 pre post hno] at hs
  have hlen : (splitL 58 pre).length = 2 := by have := congrArg List.length hs; simpa using this
  obtain ⟨hh, hl, hG, -, -⟩ := h
  match hw : splitL 58 pre, hlen with
  | [W0, W1], _ =>
    rw [hw] at hs
    simp at hs
    obtain ⟨rfl, rfl, hpost⟩ := hs
    have hpre : dd bk.h ++ [58] ++ dd bk.l = pre := by
      have := join_split 58 pre
      rw [hw] at this
      rw [← this]
      simp [Lib.join, Lib.joinTail]
    have a0 := atoi_ddI (x := bk.h) (by omega) (by omega)
    have a1 := atoi_ddI (x := bk.l) (by omega) (by omega)
    rcases hsp with ⟨hnl, -, -⟩ | ⟨-, ⟨-, -, k, hk, hbad⟩ | ⟨hvl, hv, hb⟩⟩
    · rw [hnl] at hw
      simp [splitL] at hw
    · rw [hw] at hk hbad
      match k, hk with
      | 0, _ => exact absurd a0 (hbad _)
      | 1, _ => exact absurd a1 (hbad _)
    · rw [hw] at hvl hv
      match vals, hvl with
      | [v0, v1], _ =>
        have e0 := hv 0 (by simp)
        have e1 := hv 1 (by simp)
        change Lib.atoiAll (dd bk.h) = .ok v0 at e0
        change Lib.atoiAll (dd bk.l) = .ok v1 at e1
        rw [a0] at e0
        rw [a1] at e1
        injection e0 with e0
        injection e1 with e1
        subst e0 e1
        refine ⟨rfl, ?_, hpost⟩
        rw [hb, jn_two (by omega) (by omega), hpre]
        simp
/-- what the program does with a text that has the byte: every way it can end -/
theorem bank_ways {s : ByteArray} {pre post : List UInt8} (e : s.data.toList = pre ++ 58 :: post) (hno : (58 : UInt8) ∉ post) {vals : List Int} {b : Bool} (hsp : SplitIs 58 [] pre vals b) :
    (b = false → mParseBank s = (⟨0, 0, []⟩, false)) ∧ (vals.length ≠ 2 → mParseBank s = (⟨0, 0, []⟩, false)) ∧
    ∀ v0 v1, vals = [v0, v1] → b = true →
      ((mParsePiles ⟨post.toArray⟩).2 = false → mParseBank s = (⟨0, 0, []⟩, false)) ∧
      ((mParsePiles ⟨post.toArray⟩).2 = true → bankB ⟨v0, v1, (mParsePiles ⟨post.toArray⟩).1⟩ = false → mParseBank s = (⟨0, 0, []⟩, false)) ∧
      ((mParsePiles ⟨post.toArray⟩).2 = true → bankB ⟨v0, v1, (mParsePiles ⟨post.toArray⟩).1⟩ = true → mParseBank s = (⟨v0, v1, (mParsePiles ⟨post.toArray⟩).1⟩, true)) := by
  have key := fun bk (h : BankOk bk) (he : bankL bk = s.data.toList) => bank_of_split h (he.trans e) hno hsp
  refine ⟨fun hb => mPB_no fun bk h he => ?_, fun hl => mPB_no fun bk h he => ?_, fun v0 v1 hv hb => ⟨fun hp => mPB_no fun bk h he => ?_, fun hp hk => mPB_no fun bk h he => ?_, fun hp hk => ?_⟩⟩
  · have := (key bk h he).2.1
    rw [hb] at this; cases this
  · rw [(key bk h he).1] at hl; exact hl rfl
  · have := mPP_of h.2.2.1 (s := ⟨post.toArray⟩) (by simpa using (key bk h he).2.2)
    rw [this] at hp; cases hp
  · have h1 := mPP_of h.2.2.1 (s := ⟨post.toArray⟩) (by simpa using (key bk h he).2.2)
    have h2 := (key bk h he).1
    rw [hv] at h2
    injection h2 with h2 h3
    injection h3 with h3 _
    subst h2 h3
    rw [h1] at hk
    rw [bankYes h] at hk
    cases hk
  · refine mPB_yes (bank_iff.1 hk) ?_
    subst hv hb
    have hk' := bank_iff.1 hk
    obtain ⟨hh, hl, -, -, -⟩ := hk'
    simp only at hh hl
    rcases hsp with ⟨-, h1, -⟩ | ⟨-, ⟨h1, -, -⟩ | ⟨-, -, h1⟩⟩
    · cases h1
    · cases h1
    · have h2 := of_decide_eq_true h1.symm
      rw [jn_two (by omega) (by omega)] at h2
      have h3 := (mPP_cases _ hp).1
      rw [e, ← h2]
      show dd v0 ++ [58] ++ dd v1 ++ [58] ++ textL (mParsePiles ⟨post.toArray⟩).1 = _
      rw [h3]
      simp
end Go.Proofs.YtjaodhjiibdbdaaGreatDoor
