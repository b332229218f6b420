/- The last place of a byte in a text: strings.LastIndex at a separator of one byte. No condition but a bound on the length. -/
import Derived.Test.YtjaodhjiibdbdaaGreatDoorGj
namespace Go.Proofs.YtjaodhjiibdbdaaGreatDoor
open Go.RowKit
set_option linter.unusedVariables false
set_option linter.unusedSimpArgs false
set_option maxRecDepth 20000

/-- r is the last place of b in l, or -1 if there is none -/
def LastIs (b : UInt8) (l : List UInt8) (r : Int) : Prop := (r = -1 ∧ b ∉ l) ∨ ∃ k : Nat, k < l.length ∧ r = k ∧ l[k]? = some b ∧ b ∉ l.drop (k + 1)
theorem drop_cons' {l : List UInt8} {k : Nat} {c : UInt8} (h : l[k]? = some c) : l.drop k = c :: l.drop (k + 1) := by
  obtain ⟨hk, rfl⟩ := List.getElem?_eq_some_iff.1 h
  exact List.drop_eq_getElem_cons hk

set_option maxHeartbeats 1600000 in
set_option maxRecDepth 100000 in
theorem lastIndexByte_any (s : ByteArray) (b : UInt8) (w : World) (hs : s.size ≤ 1048576) :
    Calls Tryz.prog 91 #[.string s, .int .u8 (b.toNat : Int)] w fun e w' => (∃ r : Int, e = .returned (.int .i64 r) ∧ LastIs b s.data.toList r) ∧ w = w' := by
  have hsz : s.data.toList.length = s.size := rfl
  go_enter Tryz.func91, Tryz.ntmps91
  go_wp2
  go_loop [5] (fun i => ∃ k : Nat, k ≤ s.size ∧ i = .int .i64 ((k : Int) - 1) ∧ b ∉ s.data.toList.drop k) (fun i => (intOf i + 1).toNat)
  case atStart => exact ⟨s.size, Nat.le_refl _, rfl, by rw [List.drop_of_length_le (by omega)]; simp⟩
  case round =>
    obtain ⟨k, hk, rfl, hno⟩ := hrel
    have Hno := Lib.hid hno; clear hno
    cases k with
    | zero =>
      go_wp2
      go_ret
      exact ⟨⟨-1, rfl, .inl ⟨rfl, by simpa using Hno.out⟩⟩, rfl⟩
    | succ k =>
      have hlt : k < s.size := by omega
      have hget := data_get s k hlt
      have hdc := drop_cons' hget
      rw [show (((k + 1 : Nat) : Int) - 1) = (k : Int) by omega]
      by_cases hbk : s[k] = b
      · have heq : ((s[k].toNat : Int) == (b.toNat : Int)) = true := by rw [hbk]; simp
        have Hget := Lib.hid hget; clear hget
        have Hbk := Lib.hid hbk; clear hbk
        have Hdc := Lib.hid hdc; clear hdc
        go_wp2
        go_ret
        exact ⟨⟨k, rfl, .inr ⟨k, by omega, rfl, by rw [Hget.out, Hbk.out], Hno.out⟩⟩, rfl⟩
      · have heq : ((s[k].toNat : Int) == (b.toNat : Int)) = false := by
          have : ¬ s[k].toNat = b.toNat := fun e => hbk (UInt8.toNat_inj.1 e)
          simp; omega
        have hno2 : b ∉ s.data.toList.drop k := by
          rw [hdc]
          intro hm
          rcases List.mem_cons.1 hm with h' | h'
          · exact hbk h'.symm
          · exact Hno.out h'
        have Hget := Lib.hid hget; clear hget
        have Hbk := Lib.hid hbk; clear hbk
        have Hdc := Lib.hid hdc; clear hdc
        have Hno2 := Lib.hid hno2; clear hno2
        go_wp2
        go_round
        case rel => exact ⟨k, by omega, rfl, Hno2.out⟩
        case measure => simp [intOf] <;> omega

theorem lastIndex_any (s : ByteArray) (w : World) (hs : s.size ≤ 1048576) :
    Calls Tryz.prog 65 #[.string s, .string ⟨#[58]⟩] w fun e w' => (∃ r : Int, e = .returned (.int .i64 r) ∧ LastIs 58 s.data.toList r) ∧ w = w' := by
  have hcon := lastIndexByte_any s 58 w hs
  generalize LastIs 58 s.data.toList = R at hcon
  have Hcon := Lib.hid hcon; clear hcon
  go_enter Tryz.func65, Tryz.ntmps65
  go_wp2_with fail
  refine (Hcon.out).mono ?_
  rintro e w' ⟨⟨r, rfl, hr⟩, rfl⟩
  have Hr := Lib.hid hr; clear hr
  go_wp2
  go_ret
  exact ⟨⟨r, rfl, Hr.out⟩, rfl⟩
end Go.Proofs.YtjaodhjiibdbdaaGreatDoor
