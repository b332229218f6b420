/- Chapter 2: all choices of bits, and all cyclic piles, by the model. No condition. -/
import Derived.Test.YthppkfhhidlpiaaRingsI
import Derived.Test.YthppkfhhidlpiaaAll
namespace Go.Proofs.Ythppkfhhidlpiaa
open Go.RowKit
set_option linter.unusedVariables false
set_option linter.unusedSimpArgs false
set_option maxRecDepth 20000

def choiceL : Nat → Nat → List (List Int)
  | 0, o => if o = 0 then [[]] else []
  | n + 1, o => (if 1 ≤ o then (choiceL n (o - 1)).map ((1 : Int) :: ·) else []) ++ (choiceL n o).map ((0 : Int) :: ·)
def chB (n o b : Nat) : List (List Int) := if b ≤ o then (choiceL n (o - b)).map ((b : Int) :: ·) else []
def chPart (n o X : Nat) : List (List Int) := if X = 0 then chB n o 1 ++ chB n o 0 else if X = 1 then chB n o 1 else []
theorem chPart_step (n o b : Nat) (hb : b ≤ 1) : chPart n o b = chPart n o (b + 1) ++ chB n o b := by
  have : b = 0 ∨ b = 1 := by omega
  rcases this with rfl | rfl
  · simp [chPart]
  · simp [chPart]
theorem chPart_end (n o : Nat) : chPart n o 0 = choiceL (n + 1) o := by
  simp only [chPart, if_true, choiceL, chB]
  simp
theorem choice_length (n : Nat) : ∀ o, (choiceL n o).length ≤ 2 ^ n := by
  induction n with
  | zero => intro o; unfold choiceL; split <;> simp
  | succ n ih =>
    intro o
    unfold choiceL
    have h1 := ih (o - 1)
    have h2 := ih o
    rw [List.length_append, List.length_map, Nat.pow_succ]
    split
    · rw [List.length_map]; omega
    · simp; omega
theorem choice_row (n : Nat) : ∀ o, ∀ ys ∈ choiceL n o, ys.length = n ∧ IsB ys := by
  induction n with
  | zero =>
    intro o ys hy
    unfold choiceL at hy
    split at hy
    · rw [List.mem_singleton.1 hy]; exact ⟨rfl, fun b hb => by cases hb⟩
    · cases hy
  | succ n ih =>
    intro o ys hy
    unfold choiceL at hy
    rcases List.mem_append.1 hy with h | h
    · split at h
      · obtain ⟨zs, hz, rfl⟩ := List.mem_map.1 h
        have := ih (o - 1) zs hz
        refine ⟨by simp [this.1], fun b hb => ?_⟩
        rcases List.mem_cons.1 hb with rfl | hb
        · exact .inr rfl
        · exact this.2 b hb
      · cases h
    · obtain ⟨zs, hz, rfl⟩ := List.mem_map.1 h
      have := ih o zs hz
      refine ⟨by simp [this.1], fun b hb => ?_⟩
      rcases List.mem_cons.1 hb with rfl | hb
      · exact .inl rfl
      · exact this.2 b hb
theorem choice_getD (n o i : Nat) : ((choiceL n o).getD i []).length ≤ n := getD_row (b := n) (fun ys hy => Nat.le_of_eq (choice_row n o ys hy).1) i
theorem chB_length (n o b : Nat) : (chB n o b).length ≤ 2 ^ n := by
  unfold chB
  split
  · rw [List.length_map]; exact choice_length n _
  · simp
theorem chPart_length (n o X : Nat) : (chPart n o X).length ≤ 2 ^ n + 2 ^ n := by
  have h1 := chB_length n o 1
  have h2 := chB_length n o 0
  unfold chPart
  split
  · rw [List.length_append]; omega
  · split
    · omega
    · simp

theorem choice_zero (o : Nat) : choiceL 0 o = if o = 0 then [[]] else [] := rfl
set_option maxHeartbeats 1600000 in
set_option maxRecDepth 100000 in
theorem orChoices_any (n : Nat) : ∀ (o : Nat) (w : World), n ≤ 8 → o ≤ 8 →
    Calls Try.prog 173 #[.int .i64 n, .int .i64 o] w fun e w' => ∃ ao' n' cap', e = .returned (.slice ao' n' cap') ∧ OwnRows w.heap.size w'.heap.size w' ao' n' cap' (choiceL n o) ∧ Below w.heap.size w w' := by
  induction n with
  | zero =>
    intro o w h1 h2
    by_cases ho : o = 0
    · subst ho
      have ho := OwnRows.one (w := w) (Own.nil w.heap.size (w.heap.size + 1) w) w.heap.size (Nat.le_refl _) (Nat.le_refl _) (Nat.le_refl _)
      go_enter Try.func173, Try.ntmps173
      go_wp2_with fail
      go_ret
      exact ⟨_, _, _, rfl, by simpa [choiceL] using ho, belowAlloc w _⟩
    · have hne : ((o : Int) == 0) = false := by simp; omega
      go_enter Try.func173, Try.ntmps173
      go_wp2_with fail
      go_ret
      exact ⟨_, _, _, rfl, by rw [choice_zero, if_neg ho]; exact OwnRows.nil _ _ _, Below.refl _ _⟩
  | succ n ih =>
    intro o w h1 h2
    have hne : (((n + 1 : Nat) : Int) == 0) = false := by simp; omega
    have en1 : ((n + 1 : Nat) : Int) - 1 = (n : Int) := by omega
    have hlen := chPart_length n o
    have hend := chPart_end n o
    have hstep := chPart_step n o
    have h2n : 2 ^ n ≤ 256 := Nat.pow_le_pow_right (by omega) (show n ≤ 8 by omega)
    have Hlen := Lib.hid hlen; clear hlen
    have Hend := Lib.hid hend; clear hend
    have Hstep := Lib.hid hstep; clear hstep
    have Ih := Lib.hid ih; clear ih
    have En1 := Lib.hid en1; clear en1
    generalize hN : ((n + 1 : Nat) : Int) = N at *
    have hN1 : N - 1 = (n : Int) := by omega
    have hNb : 1 ≤ N ∧ N ≤ 8 := by omega
    obtain ⟨hNb1, hNb2⟩ := hNb
    have HN := Lib.hid hN; clear hN
    have HN1 := Lib.hid hN1; clear hN1
    go_enter Try.func173, Try.ntmps173
    go_wp2_with fail
    go_loopw [5, 6] (fun v x wr => ∃ (X : Nat) (a : Option Addr) (p c : Nat), X ≤ 2 ∧ x = .int .i64 ((X : Int) - 1) ∧ v = .slice a p c ∧ OwnRows w.heap.size wr.heap.size wr a p c (chPart n o X) ∧ Below w.heap.size w wr) (fun _ x _ => (intOf x + 1).toNat)
    case atStart => exact ⟨2, none, 0, 0, Nat.le_refl _, rfl, rfl, by simpa [chPart] using OwnRows.nil _ _ _, Below.refl _ _⟩
    case round =>
      obtain ⟨X, a, p, c, hX, rfl, rfl, hown, hb⟩ := hrel
      by_cases hX0 : X = 0
      · subst hX0
        rw [Hend.out] at hown
        go_wp2_with fail
        go_ret
        exact ⟨_, _, _, rfl, hown, hb⟩
      · obtain ⟨b, rfl⟩ : ∃ b, X = b + 1 := ⟨X - 1, by omega⟩
        have eb : ((b + 1 : Nat) : Int) - 1 = (b : Int) := by omega
        rw [eb]
        have Eb := Lib.hid eb; clear eb
        have hst := Hstep.out b (by omega)
        by_cases hbo : b ≤ o
        · have hcon2 : Calls Try.prog 173 #[.int .i64 (N - 1), .int .i64 ((o : Int) - b)] wr fun e w' => ∃ ao' n' cap', e = .returned (.slice ao' n' cap') ∧ OwnRows wr.heap.size w'.heap.size w' ao' n' cap' (choiceL n (o - b)) ∧ Below wr.heap.size wr w' := by
            have := Ih.out (o - b) wr (by omega) (by omega)
            rw [show ((o - b : Nat) : Int) = (o : Int) - b by omega, ← HN1.out] at this
            exact this
          have hcb : chB n o b = (choiceL n (o - b)).map ((b : Int) :: ·) := by unfold chB; rw [if_pos hbo]
          rw [hcb] at hst
          have hrl := choice_getD n (o - b)
          have hcl := choice_length n (o - b)
          have hpl := Hlen.out (b + 1)
          have hp0 := hown.length
          generalize choiceL n (o - b) = R at *
          generalize hPX : chPart n o (b + 1) = PX at *
          have Hcon2 := Lib.hid hcon2; clear hcon2
          have Hst := Lib.hid hst; clear hst
          have Hrl := Lib.hid hrl; clear hrl
          have HPX := Lib.hid hPX; clear hPX
          have Hcb := Lib.hid hcb; clear hcb
          go_wp2_with fail
          with_reducible refine (Hcon2.out).mono ?_
          rintro e w1 ⟨a1, n1, c1, rfl, ho1, hb1⟩
          have hn1 := ho1.length
          have hown1 := hown.keep hb1
          have hbw := belowTrans hb hb1 (Nat.le_refl _)
          rw [hp0] at hpl
          rw [hn1] at hcl
          have Hn1 := Lib.hid hn1; clear hn1
          have Hp0 := Lib.hid hp0; clear hp0
          have hB1 := hb1.size
          have hB2 := hb.size
          have hsp : ∀ g, (Value.slice a p c).ownBlock = some g → g < wr.heap.size := by
            obtain ⟨vs, k1, _⟩ := hown
            exact fun g hg => k1.2 g hg
          clear hown hb hb1
          obtain ⟨wi, hwi⟩ : ∃ wi : World, wi = wr := ⟨_, rfl⟩
          subst hwi
          obtain ⟨wo, hwo⟩ : ∃ wo : World, wo = w1 := ⟨_, rfl⟩
          subst hwo
          have Hsp := Lib.hid hsp; clear hsp
          go_wp2_with fail
          go_loopw [5, 28] (fun v i wq => ∃ (j : Nat) (a : Option Addr) (p c : Nat), j ≤ n1 ∧ i = .int .i64 j ∧ v = .slice a p c ∧ OwnRows w.heap.size wq.heap.size wq a p c (PX ++ (R.take j).map ((b : Int) :: ·)) ∧ Below w.heap.size w wq ∧ OwnRows wi.heap.size wo.heap.size wq a1 n1 c1 R ∧ wo.heap.size ≤ wq.heap.size ∧ Hid (∀ g, (Value.slice a p c).ownBlock = some g → g < wi.heap.size ∨ wo.heap.size ≤ g)) (fun _ i _ => n1 - (intOf i).toNat)
          case atStart => exact ⟨0, a, p, c, Nat.zero_le _, rfl, rfl, by simpa using hown1.mono (Nat.le_refl _) hB1, hbw, ho1, Nat.le_refl _, Lib.hid (fun g hg => .inl (Hsp.out g hg))⟩
          case round =>
            obtain ⟨j, a2, p2, c2, hj, rfl, rfl, hoq, hbq, hrs, hsz, hsep⟩ := hrel
            clear hown1 hbw ho1
            have hp2 := hoq.length
            simp only [List.length_append, List.length_map, List.length_take] at hp2
            have hp2' : p2 ≤ 7436 := by have := Hp0.out; omega
            have Hp2 := Lib.hid hp2; clear hp2
            by_cases hlt2 : j < n1
            · obtain ⟨bl, oo, rfl, hbl, hc⟩ := hrs.at.cell j hlt2
              obtain ⟨a3, m3, c3, hck, hi⟩ := hc j hlt2
              clear hc
              have hm3 := Hrl.out j
              rw [hi.length] at hm3
              generalize hx : R.getD j [] = ys at hi
              have ho1 := own_one wr (b : Int)
              have hbx := belowAlloc wr (.cells #[.int .i64 (b : Int)] 3)
              have hi1 := hi.keep hbx
              have Hx := Lib.hid hx; clear hx
              go_wp2_with (at_builtin; refine wpList_cat _ rfl _ _ rfl wr.heap.size _ _ 1 1 [(b : Int)] rfl ho1 a3 m3 c3 ys rfl hi1 (by omega) (by simp) ?_)
              intro a4 c4 w4 ho4 hc4
              have hb4 : Below wr.heap.size wr w4 := hbx.trans (ho1.chgBelow hc4 (by simp))
              have hoq4 := hoq.keep hb4
              have hbq4 := belowTrans hbq hb4 (Nat.le_refl _)
              have hrs4 := hrs.keep hb4
              have hs4 := hb4.size
              have htk := take_snocR Hx.out hlt2 (show R.length = n1 by have := Hn1.out; omega)
              have Htk := Lib.hid htk; clear htk
              clear hoq hck hi hi1 hc4 hbx ho1 hrs
              go_wp2_with (at_builtin; refine wpList_pushRX w4 rfl _ _ rfl w.heap.size wr.heap.size a2 p2 c2 _ rfl hoq4 hs4 a4 (1 + m3) c4 wr.heap.size _ ho4 hbq.size ho4.ge rfl (by omega) hbq4.size ?_)
              intro a5 c5 w5 ho5 hc5 hnew
              have hb5 : Below w.heap.size w w5 := hbq4.trans (hoq4.chgBelow hc5 hbq4.size)
              have hrs5 : OwnRows wi.heap.size wo.heap.size w5 _ n1 c1 R := hrs4.chg hc5 fun g g1 g2 hg => by
                have := hsep.out g hg; omega
              have hsep5 := Lib.hid (show ∀ g, (Value.slice a5 (p2 + 1) c5).ownBlock = some g → g < wi.heap.size ∨ wo.heap.size ≤ g from fun g hg => by
                rcases hnew g hg with h' | h'
                · exact hsep.out g h'
                · exact .inr (by omega))
              have hsz5 : wo.heap.size ≤ w5.heap.size := by have := hc5.size; omega
              clear hoq4 hc5 ho4 hb4 hrs4 hnew
              go_wp2
              go_roundw
              case rel => exact ⟨j + 1, a5, p2 + 1, c5, by omega, by go_num, rfl, by rw [Htk.out, List.map_append]; simpa using ho5, hb5, hrs5, hsz5, hsep5⟩
              case measure => simp [intOf] <;> omega
            · obtain rfl : n1 = j := by omega
              rw [List.take_of_length_le (by have := Hn1.out; omega), ← Hst.out] at hoq
              clear hrs
              go_wp2
              go_roundw
              case rel => exact ⟨b, a2, p2, c2, by omega, rfl, rfl, hoq, hbq⟩
              case measure => simp [intOf]
        · have hcb : chB n o b = [] := by unfold chB; rw [if_neg hbo]
          rw [hcb, List.append_nil] at hst
          have Hst := Lib.hid hst; clear hst
          have Hcb := Lib.hid hcb; clear hcb
          go_wp2_with fail
          go_roundw
          case rel => exact ⟨b, a, p, c, by omega, rfl, rfl, by rw [Hst.out]; exact hown, hb⟩
          case measure => simp [intOf]
end Go.Proofs.Ythppkfhhidlpiaa
