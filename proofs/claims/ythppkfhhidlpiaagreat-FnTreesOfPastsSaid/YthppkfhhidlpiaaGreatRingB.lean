/- Chapter 2: rings of bits: their piles and their turns. No condition. -/
import Derived.Test.YthppkfhhidlpiaaGreatOrbC
namespace Go.Proofs.YthppkfhhidlpiaaGreat
open Go.RowKit
set_option linter.unusedVariables false
set_option linter.unusedSimpArgs false
set_option maxRecDepth 20000

/-- the cells of a ring, one by one -/
def R9 (bs : List Int) (b0 b1 b2 b3 b4 b5 b6 b7 : Int) (n : Nat) : Prop :=
  bs.length = n ∧ n ≤ 8 ∧ bs.getD 0 0 = b0 ∧ bs.getD 1 0 = b1 ∧ bs.getD 2 0 = b2 ∧ bs.getD 3 0 = b3 ∧ bs.getD 4 0 = b4 ∧ bs.getD 5 0 = b5 ∧ bs.getD 6 0 = b6 ∧ bs.getD 7 0 = b7
theorem R9.of {bs : List Int} (h8 : bs.length ≤ 8) : ∃ b0 b1 b2 b3 b4 b5 b6 b7 n, R9 bs b0 b1 b2 b3 b4 b5 b6 b7 n := ⟨_, _, _, _, _, _, _, _, _, rfl, h8, rfl, rfl, rfl, rfl, rfl, rfl, rfl, rfl⟩
theorem R9.v {bs b0 b1 b2 b3 b4 b5 b6 b7 n} (h : R9 bs b0 b1 b2 b3 b4 b5 b6 b7 n) : ringV bs = .agg #[.int .i64 b0, .int .i64 b1, .int .i64 b2, .int .i64 b3, .int .i64 b4, .int .i64 b5, .int .i64 b6, .int .i64 b7, .int .i64 n] := by
  obtain ⟨hn, h8, h0, h1, h2, h3, h4, h5, h6, h7⟩ := h
  unfold ringV ring9
  rw [h0, h1, h2, h3, h4, h5, h6, h7, hn]
theorem R9.list {bs b0 b1 b2 b3 b4 b5 b6 b7 n} (h : R9 bs b0 b1 b2 b3 b4 b5 b6 b7 n) (w : World) :
    Calls Tryz.prog 64 #[.agg #[.int .i64 b0, .int .i64 b1, .int .i64 b2, .int .i64 b3, .int .i64 b4, .int .i64 b5, .int .i64 b6, .int .i64 b7, .int .i64 n]] w fun e w' => ∃ ao cap, e = .returned (.slice ao n cap) ∧ Own w.heap.size w'.heap.size w' ao n cap bs ∧ Below w.heap.size w w' := by
  have := list_any bs w (by rw [h.1]; exact h.2.1)
  rw [h.v, h.1] at this
  exact this

theorem wpList_pushX {ops : Array Oper} {rest : List Oper} {o : Oper} {a : Act} {Q : Exit → Act → World → Prop} (w : World) (hgd : o.guard = none) (s x : Operand)
    (ho : o.op = .call { callee := .builtin .append, args := #[s, x], argTypes := #[27, 27] })
    (B E : Nat) (ao : Option Addr) (n cap : Nat) (xs : List Int) (hs : a.eval s = .slice ao n cap) (hown : Own B E w ao n cap xs) (y : Int)
    (hx : a.eval x = .slice (some ⟨w.heap.size, 0, none⟩) 1 1) (hn : n ≤ 67108863) (hB : B ≤ w.heap.size)
    (h : ∀ ao' cap' w', Own B w'.heap.size w' ao' (n + 1) cap' (xs ++ [y]) → Chg (fun k => (Value.slice ao n cap).ownBlock = some k) w w' → NewOr w (.slice ao n cap) (.slice ao' (n + 1) cap') → wpList Tryz.prog ops Q rest (a.put o.dst (.slice ao' (n + 1) cap')) w') :
    wpList Tryz.prog ops Q (o :: rest) a (w.alloc (.cells #[.int .i64 y] 3)) :=
  wpList_pushVX w hgd s x 27 ho 3 _ 8 Tryz.underlying27 Tryz.infoInt rfl (by decide) B E ao n cap _ hs hown _ rfl hx hn hB (fun ao' cap' w' ho' hc hn => h ao' cap' w' (by unfold Own; rw [List.map_append]; exact ho') hc hn)
theorem Chg.newOr {S : Nat → Prop} {w1 wr w2 : World} {v0 v : Value} (h : Chg S w1 wr) (hn : NewOr w1 v0 v) (hv0 : ∀ g, v0.ownBlock = some g → S g) (hc : Chg (fun k => v.ownBlock = some k) wr w2) : Chg S w1 w2 :=
  ⟨hc.os.trans h.os, hc.tape.trans h.tape, hc.output.trans h.output, Nat.le_trans h.size hc.size, fun k hk hs => (hc.block k (Nat.lt_of_lt_of_le hk h.size) (fun e => by
    rcases hn k e with e' | e'
    · exact hs (hv0 k e')
    · omega)).trans (h.block k hk hs)⟩

set_option maxHeartbeats 800000 in
theorem piles_any (bs : List Int) (w : World) (hB : IsB bs) (h8' : bs.length ≤ 8) :
    Calls Tryz.prog 70 #[ringV bs] w fun e w' => ∃ ao n cap, e = .returned (.slice ao n cap) ∧ Own w.heap.size w'.heap.size w' ao n cap (fromB bs) ∧ Below w.heap.size w w' := by
  obtain ⟨b0, b1, b2, b3, b4, b5, b6, b7, n, hr⟩ := R9.of h8'
  rw [hr.v]
  have h8 := hr.2.1
  have Hr := Lib.hid hr; clear hr
  have H8' := Lib.hid h8'; clear h8'
  go_enter Tryz.func70, Tryz.ntmps70
  go_wp2_with fail
  with_reducible refine (Hr.out.list _).mono ?_
  rintro e w1 ⟨a1, c1, rfl, ho1, hb1⟩
  have hcnt : w1.cell? ⟨w.heap.size, 8, none⟩ = some (.int .i64 n) := by
    rw [hb1.cell (p := ⟨w.heap.size, 8, none⟩) (by simp; omega)]
    simp
  have hemp : Own w.heap.size w1.heap.size w1 (some ⟨w.heap.size + 1, 0, none⟩) 0 0 [] := by
    have h0 := Own.empty (w.alloc (.cells #[.int .i64 b0, .int .i64 b1, .int .i64 b2, .int .i64 b3, .int .i64 b4, .int .i64 b5, .int .i64 b6, .int .i64 b7, .int .i64 n] 79))
    have h1 := h0.keep hb1
    rw [show (w.alloc (.cells #[.int .i64 b0, .int .i64 b1, .int .i64 b2, .int .i64 b3, .int .i64 b4, .int .i64 b5, .int .i64 b6, .int .i64 b7, .int .i64 n] 79)).heap.size = w.heap.size + 1 by simp] at h1
    exact h1.mono (by omega) hb1.size
  have hb2 : Below w.heap.size w w1 := belowTrans ((belowAlloc w _).alloc (by simp) _) hb1 (by simp)
  have ho2 : Own (w.heap.size + 2) w1.heap.size w1 a1 n c1 bs := ho1.mono (by simp) (Nat.le_refl _)
  have hsz : w.heap.size + 2 ≤ w1.heap.size := by have := hb1.size; simp at this; omega
  clear ho1 hb1
  generalize hBe : w.heap.size = B at *
  have HBe := Lib.hid hBe; clear hBe
  go_wp2_with fail
  go_loopw [3, 11] (fun v i wr => ∃ (k : Nat) (a : Option Addr) (m c : Nat), k ≤ n ∧ i = .int .i64 k ∧ v = .slice a m c ∧ Own B wr.heap.size wr a m c (fromT bs n k) ∧ NewOr w1 (.slice (some ⟨B + 1, 0, none⟩) 0 0) (.slice a m c) ∧ Chg (fun q => q = B + 1) w1 wr) (fun _ i _ => n - (intOf i).toNat)
  case atStart => exact ⟨0, _, 0, 0, Nat.zero_le _, rfl, rfl, hemp, NewOr.refl _ _, Chg.refl _ _⟩
  case round =>
    obtain ⟨k, a, m, c, hk, rfl, rfl, hown, hnew, hchg⟩ := hrel
    have hm := hown.length
    have hml := fromT_length bs n k
    rw [hm] at hml
    have Hm := Lib.hid hm; clear hm
    have hls := hchg.size
    by_cases hlt : k < n
    · have hcw : wr.cell? ⟨B, 8, none⟩ = some (.int .i64 n) := by
        rw [World.cell?_of_block (a := ⟨B, 8, none⟩) (hchg.block B (by omega) (by omega))]
        exact hcnt
      have hat := (ho2.chg hchg (fun g h1 h2 h3 => by omega)).at
      obtain ⟨b, oo, rfl, hbl, hc⟩ := hat.cell k hlt
      have hck := hc k hlt
      clear hc hat
      have e := fromT_succ bs n k
      generalize hx : bs.getD k 0 = x at hck e
      have hxm := hB x (getD_mem hx hlt Hr.out.1)
      have Hx := Lib.hid hx; clear hx
      have Hcnt := Lib.hid hcnt; clear hcnt
      have Hnew := Lib.hid hnew; clear hnew
      have Hchg := Lib.hid hchg; clear hchg
      by_cases hx1 : 0 < (n : Int) - 1 - k + x
      · rw [if_pos hx1] at e
        have E := Lib.hid e; clear e
        go_wp2_with (at_builtin; refine wpList_pushX wr rfl _ _ rfl B wr.heap.size a m c _ rfl hown _ rfl (by omega) (by omega) ?_)
        intro ao2 cap2 w2 ho2 hc2 hn2
        have hchg2 := Chg.newOr Hchg.out Hnew.out (fun g hg => by simp [Value.ownBlock] at hg; omega) hc2
        have hnew2 := Hnew.out.trans hls hn2
        clear hown
        go_wp2
        go_roundw
        case rel => exact ⟨k + 1, ao2, _, cap2, by omega, by go_num, rfl, by rw [E.out]; exact ho2, hnew2, hchg2⟩
        case measure => simp [intOf]; omega
      · rw [if_neg hx1, List.append_nil] at e
        have E := Lib.hid e; clear e
        go_wp2
        go_roundw
        case rel => exact ⟨k + 1, a, m, c, by omega, by go_num, rfl, by rw [E.out]; exact hown, Hnew.out, Hchg.out⟩
        case measure => simp [intOf]; omega
    · obtain rfl : n = k := by omega
      rw [fromT_all bs n Hr.out.1] at hown
      go_wp2
      go_ret
      rw [HBe.out]
      exact ⟨_, _, _, rfl, hown, hb2.trans (hchg.below (by omega) (fun q hq => by omega))⟩
end Go.Proofs.YthppkfhhidlpiaaGreat
