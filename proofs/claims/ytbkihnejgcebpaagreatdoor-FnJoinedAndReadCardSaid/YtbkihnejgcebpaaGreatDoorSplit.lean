/- Texts that are split at a byte, by the model. No condition but sizes. -/
import Derived.Test.YtbkihnejgcebpaaGreatDoorParse
import Derived.Test.YtbkihnejgcebpaaGreatDoorPush
namespace Go.Proofs.YtbkihnejgcebpaaGreatDoor
open Go.RowKit
set_option linter.unusedVariables false
set_option linter.unusedSimpArgs false

def strVs (O : List (List UInt8)) : List Value := O.map fun x => Value.string ⟨x.toArray⟩
theorem ext_str (s : ByteArray) (a b : Nat) : Value.string (s.extract a b) = .string ⟨((s.data.toList.take b).drop a).toArray⟩ := by
  have h := Lib.extract_data s a b
  rw [List.drop_take, ← h]
theorem drop_step {l : List UInt8} {f i : Nat} {c : UInt8} (hc : l[i]? = some c) (hf : f ≤ i) : l.drop f = (l.take i).drop f ++ c :: l.drop (i + 1) := by
  have hi : i < l.length := (List.getElem?_eq_some_iff.1 hc).1
  have h1 : l = l.take i ++ l.drop i := (List.take_append_drop i l).symm
  have h2 : l.drop i = c :: l.drop (i + 1) := by
    rw [List.drop_eq_getElem_cons hi]
    rw [List.getElem?_eq_getElem hi] at hc
    simp only [Option.some.injEq] at hc
    rw [hc]
  conv => lhs; rw [h1]
  rw [List.drop_append_of_le_length (by rw [List.length_take]; omega), h2]

set_option maxHeartbeats 1600000 in
set_option maxRecDepth 100000 in
theorem l1Split_any (s : ByteArray) (b : UInt8) (w : World) (hs : s.size ≤ 1048576) :
    Calls Tryz.prog 69 #[.string s, .int .u8 (b.toNat : Int)] w fun e w' => ∃ ao n cap, e = .returned (.slice ao n cap) ∧ OwnRow w.heap.size w'.heap.size w' 9 ao n cap (strVs (splitL b s.data.toList)) ∧ Below w.heap.size w w' := by
  have hsz : s.data.toList.length = s.size := rfl
  go_enter Tryz.func69, Tryz.ntmps69
  go_wp2
  go_loopw [5, 6, 7] (fun v f i wr => ∃ (k q : Nat) (a : Option Addr) (p c : Nat) (O : List (List UInt8)), k ≤ s.size ∧ q ≤ k ∧ p ≤ k ∧ i = .int .i64 k ∧ f = .int .i64 q ∧ v = .slice a p c ∧ OwnRow w.heap.size wr.heap.size wr 9 a p c (strVs O) ∧ splitL b s.data.toList = O ++ splitL b (s.data.toList.drop q) ∧ b ∉ (s.data.toList.take k).drop q ∧ Below w.heap.size w wr) (fun _ _ i _ => s.size - (intOf i).toNat)
  case atStart => exact ⟨0, 0, none, 0, 0, [], Nat.zero_le _, Nat.le_refl _, Nat.le_refl _, rfl, rfl, rfl, OwnRow.nil _ _ _ _, by simp, by simp, Below.refl _ _⟩
  case round =>
    obtain ⟨k, q, a, p, c, O, hk, hqk, hpk, rfl, rfl, rfl, hown, hO, hno, hb⟩ := hrel
    have HO := Lib.hid hO; clear hO
    have Hno := Lib.hid hno; clear hno
    by_cases hlt : k < s.size
    · have hget := data_get s k hlt
      have hds := drop_step hget hqk
      have htk := take_data s k hlt
      have hdt : (s.data.toList.take (k + 1)).drop q = (s.data.toList.take k).drop q ++ [s[k]] := by
        rw [htk, List.drop_append_of_le_length (by rw [List.length_take]; omega)]
      by_cases hbk : s[k] = b
      · have heq : ((s[k].toNat : Int) == (b.toNat : Int)) = true := by rw [hbk]; simp
        have hO2 : splitL b s.data.toList = (O ++ [(s.data.toList.take k).drop q]) ++ splitL b (s.data.toList.drop (k + 1)) := by
          rw [HO.out, hds, hbk, splitL_app _ _ _ Hno.out]; simp
        have hstr := ext_str s q k
        have Hget := Lib.hid hget; clear hget
        have Hds := Lib.hid hds; clear hds
        have Htk := Lib.hid htk; clear htk
        have Hdt := Lib.hid hdt; clear hdt
        have Hbk := Lib.hid hbk; clear hbk
        have HO2 := Lib.hid hO2; clear hO2
        have Hstr := Lib.hid hstr; clear hstr
        go_wp2_with (at_builtin; refine wpList_pushV wr rfl _ _ 71 rfl 9 _ 16 Tryz.underlying71 Tryz.infoStr rfl (by decide) w.heap.size wr.heap.size a p c _ rfl hown _ rfl rfl (by omega) hb.size ?_)
        intro a2 c2 w2 ho2 hc2
        have hb2 := hb.trans (hown.chgBelow hc2 hb.size)
        clear hown hc2
        go_wp2
        go_roundw
        case rel => exact ⟨k + 1, k + 1, a2, p + 1, c2, _, by omega, Nat.le_refl _, by omega, by go_num, by go_num, rfl, by unfold strVs at ho2 ⊢; rw [List.map_append]; simp only [List.map_cons, List.map_nil]; rw [← Hstr.out]; exact ho2, HO2.out, by rw [List.drop_of_length_le (by rw [List.length_take]; omega)]; simp, hb2⟩
        case measure => simp [intOf] <;> omega
      · have heq : ((s[k].toNat : Int) == (b.toNat : Int)) = false := by
          have : ¬ s[k].toNat = b.toNat := fun e => hbk (UInt8.toNat_inj.1 e)
          simp; omega
        have hno2 : b ∉ (s.data.toList.take (k + 1)).drop q := by
          rw [hdt]
          intro hm
          rcases List.mem_append.1 hm with h' | h'
          · exact Hno.out h'
          · exact hbk (List.mem_singleton.1 h').symm
        have Hget := Lib.hid hget; clear hget
        have Hds := Lib.hid hds; clear hds
        have Htk := Lib.hid htk; clear htk
        have Hdt := Lib.hid hdt; clear hdt
        have Hbk := Lib.hid hbk; clear hbk
        have Hno2 := Lib.hid hno2; clear hno2
        go_wp2
        go_roundw
        case rel => exact ⟨k + 1, q, a, p, c, O, by omega, by omega, by omega, by go_num, rfl, rfl, hown, HO.out, Hno2.out, hb⟩
        case measure => simp [intOf] <;> omega
    · have hkk : k = s.size := by omega
      have hfull : (s.data.toList.take k).drop q = s.data.toList.drop q := by rw [List.take_of_length_le (by omega)]
      have hend : splitL b s.data.toList = O ++ [s.data.toList.drop q] := by
        have := Hno.out
        rw [hfull] at this
        rw [HO.out, splitL_none _ _ this]
      have hstr := ext_str s q s.size
      rw [List.take_of_length_le (by omega)] at hstr
      have Hkk := Lib.hid hkk; clear hkk
      have Hfull := Lib.hid hfull; clear hfull
      have Hend := Lib.hid hend; clear hend
      have Hstr := Lib.hid hstr; clear hstr
      go_wp2_with (at_builtin; refine wpList_pushV wr rfl _ _ 71 rfl 9 _ 16 Tryz.underlying71 Tryz.infoStr rfl (by decide) w.heap.size wr.heap.size a p c _ rfl hown _ rfl rfl (by omega) hb.size ?_)
      intro a2 c2 w2 ho2 hc2
      have hb2 := hb.trans (hown.chgBelow hc2 hb.size)
      clear hown hc2
      go_wp2
      go_ret
      refine ⟨_, _, _, rfl, ?_, hb2⟩
      rw [Hend.out]
      unfold strVs at ho2 ⊢
      rw [List.map_append]
      simp only [List.map_cons, List.map_nil]
      rw [← Hstr.out]
      exact ho2
end Go.Proofs.YtbkihnejgcebpaaGreatDoor
