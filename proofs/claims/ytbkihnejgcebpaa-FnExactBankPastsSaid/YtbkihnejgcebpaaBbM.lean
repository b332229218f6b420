/- The laws' marks over slices of bank states. No condition but sizes. -/
import Derived.Test.YtbkihnejgcebpaaBbO
namespace Go.Proofs.Ytbkihnejgcebpaa
open Go.RowKit
set_option linter.unusedVariables false
set_option linter.unusedSimpArgs false
set_option maxRecDepth 20000

def lensB (bs : List Bk) : List Nat := bs.map fun b => b.p.length
theorem set_mix {α : Type} (M bs : List α) (d : α) (i : Nat) (hi : i < M.length) (hl : M.length = bs.length) : (M.take i ++ bs.drop i).set i (M.getD i d) = M.take (i + 1) ++ bs.drop (i + 1) := by
  apply List.ext_getElem
  · simp; omega
  · intro j h1 h2
    simp at h1
    rw [List.getElem_set]
    split
    · next h =>
      subst h
      rw [List.getD_eq_getElem?_getD, List.getElem?_eq_getElem (by omega)]
      simp [List.getElem_append, List.getElem_take, show i < min (i+1) M.length by omega]
    · next h =>
      simp only [List.getElem_append, List.length_take, List.getElem_take, List.getElem_drop]
      by_cases hj : j < i
      · simp [show j < min i M.length by omega, show j < min (i+1) M.length by omega]
      · simp only [show ¬ j < min i M.length by omega, show ¬ j < min (i+1) M.length by omega, dite_false]
        congr 1
        omega
theorem get_mix {α : Type} (M bs : List α) (d : α) (i : Nat) (hi : i < M.length) (hl : M.length = bs.length) : (M.take i ++ bs.drop i).getD i d = bs.getD i d := by
  rw [List.getD_eq_getElem?_getD, List.getElem?_append_right (by simp; omega), List.getElem?_drop, List.getD_eq_getElem?_getD]
  congr 2
  simp; omega

set_option maxHeartbeats 1600000 in
set_option maxRecDepth 100000 in
theorem markBankS_any (B E : Nat) (ao : Option Addr) (n cap : Nat) (bs : List Bk) (k : Int) (w : World) (h : BksOwn B E w ao n cap bs) (hn : n ≤ 1048576) (ht : (plus2 (lensB bs)).sum ≤ 1048576) (hk0 : 0 ≤ k) (hk1 : k ≤ 1048576) :
    Calls Try.prog 9 #[.slice ao n cap, .int .i64 k] w fun e w' => e = .returned (.int .i64 (k + ((plus2 (lensB bs)).sum : Nat))) ∧ BksOwn B E w' ao n cap (marksBk k (lensB bs)) ∧ Chg (Rg B E) w w' := by
  have hn' : (n : Int) ≤ 1048576 := by omega
  have hl := h.length
  have hlb : (lensB bs).length = n := by simp [lensB, hl]
  have hl2 : (plus2 (lensB bs)).length = n := by simp [plus2, hlb]
  have hml : (marksBk k (lensB bs)).length = n := by rw [marksBk_length, hlb]
  have Hl := Lib.hid hl; clear hl
  have Hlb := Lib.hid hlb; clear hlb
  have Hl2 := Lib.hid hl2; clear hl2
  have Hml := Lib.hid hml; clear hml
  go_enter Try.func9, Try.ntmps9
  go_wp2
  go_loopw [1, 5] (fun q i wr => ∃ j : Nat, j ≤ n ∧ i = .int .i64 j ∧ q = .int .i64 (k + (((plus2 (lensB bs)).take j).sum : Nat)) ∧ BksOwn B E wr ao n cap ((marksBk k (lensB bs)).take j ++ bs.drop j) ∧ Chg (Rg B E) w wr)
    (fun _ i _ => n - (intOf i).toNat)
  case atStart => exact ⟨0, Nat.zero_le _, rfl, by simp, by simpa using h, Chg.refl _ _⟩
  case round =>
    obtain ⟨j, hj, rfl, rfl, hown, hc⟩ := hrel
    by_cases hlt : j < n
    · obtain ⟨b, a, m, c, rfl, hbs, hB, hE, ⟨x0, x1, x2⟩, hfz, ho, hno, hset⟩ := hown.inner j hlt
      have hget := get_mix (marksBk k (lensB bs)) bs noBank j (by rw [Hml.out]; exact hlt) (by rw [Hml.out, Hl.out])
      have hmx := set_mix (marksBk k (lensB bs)) bs noBank j (by rw [Hml.out]; exact hlt) (by rw [Hml.out, Hl.out])
      have hmd := marksBk_getD k (lensB bs) j (by rw [Hlb.out]; exact hlt)
      have hsum := sum_take_le (plus2 (lensB bs)) j
      have hstep := sum_take_succ (plus2 (lensB bs)) j (by rw [Hl2.out]; exact hlt)
      have hsum1 := sum_take_le (plus2 (lensB bs)) (j + 1)
      rw [hget] at ho x0 x1
      have hm : (lensB bs).getD j 0 = m := by
        rw [← ho.length, lensB, List.getD_eq_getElem?_getD, List.getD_eq_getElem?_getD, List.getElem?_map, List.getElem?_eq_getElem (by rw [Hl.out]; exact hlt)]; rfl
      have hm2 : (plus2 (lensB bs)).getD j 0 = m + 2 := by
        rw [← hm, plus2, List.getD_eq_getElem?_getD, List.getD_eq_getElem?_getD, List.getElem?_map, List.getElem?_eq_getElem (by rw [Hlb.out]; exact hlt)]; rfl
      rw [hm] at hmd
      rw [hm2] at hstep
      rw [hmd] at hmx
      generalize hS : ((plus2 (lensB bs)).take j).sum = S at *
      generalize hS1 : ((plus2 (lensB bs)).take (j + 1)).sum = S1 at *
      have hw1 : Chg (fun q => q = b) wr ((wr.setCell ⟨b, j * 3, none⟩ (.int .i64 (k + (S : Int)))).setCell ⟨b, j * 3 + 1, none⟩ (.int .i64 (k + (S : Int) + 1))) := (chgCell wr b (j * 3) _).trans (chgCell _ b (j * 3 + 1) _)
      have ho2 := ho.chg hw1 (fun g _ _ hg hs => by subst hs; exact hno hg)
      have hcon := markIntS_blk B E a m c _ (k + (S : Int) + 1 + 1) _ ho2 (by omega) (by omega) (by omega)
      have hset2 := fun w' => hset w' (k + (S : Int)) (k + (S : Int) + 1) (marks (k + (S : Int) + 1 + 1) m)
      rw [hmx] at hset2
      have z0 := hfz (j * 3)
      have z1 := hfz (j * 3 + 1)
      have hc2 := hc.trans (hw1.mono (S' := Rg B E) (fun q hq => by subst hq; exact ⟨hB, hE⟩))
      have hbk : k + (S : Int) + 1 ≤ 4194304 := by omega
      have hcs := ho.cases
      clear hw1 hset hfz hsum1 h hno ho2 hmd hmx hget
      have Hcon := Lib.hid hcon; clear hcon
      have Hset2 := Lib.hid hset2; clear hset2
      have Hstep := Lib.hid hstep; clear hstep
      have HS := Lib.hid hS; clear hS
      have HS1 := Lib.hid hS1; clear hS1
      have Hm := Lib.hid hm; clear hm
      have Hm2 := Lib.hid hm2; clear hm2
      have Hown := Lib.hid hown; clear hown
      have Ho := Lib.hid ho; clear ho
      have Hc := Lib.hid hc; clear hc
      have Hc2 := Lib.hid hc2; clear hc2
      have Hcs := Lib.hid hcs; clear hcs
      go_wp2_with (go_at_call 37; refine (Hcon.out).mono ?_; rintro e w1 ⟨rfl, ho1, hc1⟩)
      have e2 := Hstep.out
      go_roundw
      case rel =>
        refine ⟨j + 1, by omega, by go_num, ?_, Hset2.out w1 hc1 ho1, Hc2.out.trans (hc1.mono fun q hq => ?_)⟩
        · rw [HS1.out, e2]; go_num
        · rcases Hcs.out with ⟨ea, _⟩ | ⟨g, ea, g1, g2, _⟩
          · rw [ea] at hq; simp [Value.ownBlock] at hq
          · rw [ea] at hq; simp [Value.ownBlock] at hq; subst hq; exact ⟨g1, g2⟩
      case measure => simp [intOf]; omega
    · go_wp2
      go_ret
      obtain rfl : n = j := by omega
      refine ⟨?_, ?_, hc⟩
      · rw [List.take_of_length_le (by rw [Hl2.out]; exact Nat.le_refl _)] <;> rfl
      rw [List.take_of_length_le (by rw [Hml.out]; exact Nat.le_refl _), List.drop_of_length_le (by rw [Hl.out]; exact Nat.le_refl _), List.append_nil] at hown
      exact hown
end Go.Proofs.Ytbkihnejgcebpaa
