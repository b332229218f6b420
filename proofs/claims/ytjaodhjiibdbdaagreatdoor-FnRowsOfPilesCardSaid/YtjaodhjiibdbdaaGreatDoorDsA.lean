/- Spoilt texts: what the draws of texts make. No condition but sizes. -/
import Derived.Test.YtjaodhjiibdbdaaGreatDoorGd
import Derived.Test.YtjaodhjiibdbdaaGreatDoorText
namespace Go.Proofs.YtjaodhjiibdbdaaGreatDoor
open Go.RowKit
set_option linter.unusedVariables false
set_option linter.unusedSimpArgs false
set_option maxRecDepth 20000

theorem byte_back (w : World) (b : UInt8) : (convert 22 9 (.slice (some ⟨w.heap.size, 0, none⟩) 1 1)).run Tryz.prog (w.alloc (.cells #[.int .u8 (b.toNat : Int)] 5)) = .ok (.string ⟨#[b]⟩) (w.alloc (.cells #[.int .u8 (b.toNat : Int)] 5)) := by
  have := run_convert_bytes_back (P := Tryz.prog) (w.alloc (.cells #[.int .u8 (b.toNat : Int)] 5)) 22 9 5 ⟨w.heap.size, 0, none⟩ 1 [b] Tryz.underlying22 Tryz.underlying5 Tryz.underlying9 (fun j hj => by
    obtain rfl : j = 0 := by simp at hj; omega
    rw [Addr.add_lit, World.cell?_alloc_at _ _ _ _ rfl]
    simp)
  exact this
theorem Chg.drewN {S : Nat → Prop} {w w' : World} (h : Chg S w w') (n : Nat) : Chg S w (w'.drewN n) := ⟨h.os, h.tape, h.output, h.size, h.block⟩
theorem cutP4 {P Q : Prop} (f : Hid P → Q) (p : P) : Q := f (Lib.hid p)
set_option maxHeartbeats 3200000 in
set_option maxRecDepth 100000 in
theorem spoilt_any (t v : ByteArray) (w : World) (g A : Nat) (h : Cur w g A) (hA : A ≤ 800000000) (ht : t.size ≤ 1000) (hv1 : 1 ≤ v.size) (hv : v.size ≤ 100) :
    Calls Tryz.prog 45 #[.pointer (some ⟨g, 0, none⟩), .string t, .string v] w fun e w' => ∃ s : ByteArray, e = .returned (.string s) ∧ s.size ≤ 1004 ∧ Cur w' g (A + 40) ∧ Chg (fun k => k = g) w w' := by
  have hcon := pick_any 2 w g A h (by omega) (by omega) (by omega)
  rw [show ((2 : Nat) : Int) = 2 from rfl] at hcon
  have hg := h.lt
  have Hcon := Lib.hid hcon; clear hcon
  go_enter Tryz.func45, Tryz.ntmps45
  go_wp2_with fail
  with_reducible refine (Hcon.out).mono ?_
  rintro e w1 ⟨N, hN, rfl, hc1, hg1⟩
  have hN8 : (N : Int) ≤ 1 := by omega
  clear Hcon
  go_wp2_with fail
  go_loopw [1, 7] (fun u i wr => ∃ (s : ByteArray) (m : Nat), u = .string s ∧ i = .int .i64 m ∧ m ≤ 2 ∧ s.size + m ≤ 1003 ∧ Cur wr g (A + 40 - 8 * m) ∧ Chg (fun k => k = g) w wr) (fun _ i _ => (intOf i).toNat)
  case atStart => exact ⟨t, 1 + N, rfl, by go_num, by omega, by omega, hc1.le (by omega), hg1⟩
  case round =>
    obtain ⟨s, m, rfl, rfl, hm2, hsm, hc, hgw⟩ := hrel
    clear hc1 hg1
    by_cases hm : 0 < m
    · obtain ⟨M, rfl⟩ : ∃ M, m = M + 1 := ⟨m - 1, by omega⟩
      have hmi : (0 : Int) < (M : Int) + 1 := by omega
      by_cases hs0 : 0 < s.size
      · have hs0i : (0 : Int) < (s.size : Int) := by omega
        have hs8 : (s.size : Int) ≤ 1003 := by omega
        have hp1 := fun W q => pick_any s.size W g (A + 40 - 8 * (M + 1)) q (by omega) (by omega) (by omega)
        have hp2 := fun W q => pick_any v.size W g (A + 40 - 8 * (M + 1) + 2) q (by omega) (by omega) (by omega)
        have hp3 := fun W q => pick_any 3 W g (A + 40 - 8 * (M + 1) + 4) q (by omega) (by omega) (by omega)
        rw [show ((3 : Nat) : Int) = 3 from rfl] at hp3
        have hv8 : (v.size : Int) ≤ 100 := by omega
        have Hp1 := Lib.hid hp1; clear hp1
        have Hp2 := Lib.hid hp2; clear hp2
        have Hp3 := Lib.hid hp3; clear hp3
        go_wp2_with fail
        with_reducible refine (Hp1.out _ hc).mono ?_
        rintro e w2 ⟨i, hi, rfl, hc2, hg2⟩
        have hgw2 := hgw.trans hg2
        clear hc hgw hg2
        go_wp2_with fail
        with_reducible refine (Hp2.out _ hc2).mono ?_
        rintro e w3 ⟨j, hj, rfl, hc3, hg3⟩
        have hgw3 := hgw2.trans hg3
        have hji : (j : Int) < (v.size : Int) := by omega
        have hbk := byte_back w3 v[j]
        clear hc2 hgw2 hg3
        go_wp2_with fail
        with_reducible refine (Hp3.out _ (hc3.keep (belAlloc w3 _))).mono ?_
        rintro e w4 ⟨b, hb, rfl, hc4, hg4⟩
        have hgw4 := hgw3.trans hg4.allocFirst
        have hc5 := hc4.le (show _ ≤ A + 40 - 8 * M by omega)
        have hii : (i : Int) < (s.size : Int) := by omega
        have hb3 : (b : Int) < 3 := by omega
        generalize v[j] = c at *
        clear hc3 hgw3 hg4 hc4 hbk
        have e1 : (s.extract 0 i).size = i := by simp; omega
        have e2 : (s.extract i s.size).size = s.size - i := by simp
        have e3 : (s.extract (i + 1) s.size).size = s.size - (i + 1) := by simp
        have e4 : (⟨#[c]⟩ : ByteArray).size = 1 := rfl
        by_cases hb0 : b = 0
        · subst hb0
          have Hc5 := Lib.hid hc5; clear hc5
          have Hgw4 := Lib.hid hgw4; clear hgw4
          go_wp2_with fail
          go_quiet (fail)
          go_wp2
          go_roundw
          case rel => exact ⟨_, M, rfl, by go_num, by omega, by simp only [ByteArray.size_append]; omega, Hc5.out, Hgw4.out.drewN _⟩
          case measure => simp [intOf] <;> omega
        · by_cases hb1 : b = 1
          · subst hb1
            have Hc5 := Lib.hid hc5; clear hc5
            have Hgw4 := Lib.hid hgw4; clear hgw4
            go_wp2_with fail
            go_quiet (fail)
            go_wp2
            go_roundw
            case rel => exact ⟨_, M, rfl, by go_num, by omega, by simp only [ByteArray.size_append]; omega, Hc5.out, Hgw4.out.drewN _⟩
            case measure => simp [intOf] <;> omega
          · have hd0 : ((b : Int) == 0) = false := by simp; omega
            have hd1 : ((b : Int) == 1) = false := by simp; omega
            have hd2 : decide ((b : Int) = 0) = false := decide_eq_false (by omega)
            have hd3 : decide ((b : Int) = 1) = false := decide_eq_false (by omega)
            have hd4 : ¬ (b : Int) = 0 := by omega
            have hd5 : ¬ (b : Int) = 1 := by omega
            have Hc5 := Lib.hid hc5; clear hc5
            have Hgw4 := Lib.hid hgw4; clear hgw4
            have Hb0 := Lib.hid hb0; clear hb0
            have Hb1 := Lib.hid hb1; clear hb1
            go_wp2_with fail
            go_quiet (fail)
            go_wp2
            go_roundw
            case rel => exact ⟨_, M, rfl, by go_num, by omega, by simp only [ByteArray.size_append]; omega, Hc5.out, Hgw4.out.drewN _⟩
            case measure => simp [intOf] <;> omega
      · have hd : ¬ (0 : Int) < (s.size : Int) := by omega
        have hc5 := hc.le (show _ ≤ A + 40 by omega)
        have Hc5 := Lib.hid hc5; clear hc5
        have Hgw := Lib.hid hgw; clear hgw
        go_wp2
        go_ret
        exact ⟨_, rfl, by omega, Hc5.out, Hgw.out⟩
    · obtain rfl : m = 0 := by omega
      have hc5 := hc.le (show _ ≤ A + 40 by omega)
      have Hc5 := Lib.hid hc5; clear hc5
      have Hgw := Lib.hid hgw; clear hgw
      go_wp2
      go_ret
      exact ⟨_, rfl, by omega, Hc5.out, Hgw.out⟩
end Go.Proofs.YtjaodhjiibdbdaaGreatDoor
