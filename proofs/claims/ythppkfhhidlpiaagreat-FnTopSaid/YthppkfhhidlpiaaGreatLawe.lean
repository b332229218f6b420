/- The law that holds several chapters together (FnTop), in mathematics; and its draw. No condition. -/
import Derived.Test.YthppkfhhidlpiaaGreatGe
import Derived.Test.YthppkfhhidlpiaaGreatGs
import Derived.Test.YthppkfhhidlpiaaGreatGv
import Derived.Test.YthppkfhhidlpiaaGreatGl
import Derived.Test.YthppkfhhidlpiaaGreatGd
namespace Go.Proofs.YthppkfhhidlpiaaGreat
open Go.RowKit
set_option linter.unusedVariables false
set_option linter.unusedSimpArgs false

theorem top_facts {xs : List Int} (hg : Good xs) : goodB (endL xs) = true ∧ mBitsOf (endL xs) = (bitsL (endL xs), true) ∧ bitsB (bitsL (endL xs)) = true ∧ (bitsL (endL xs)).length ≤ 8 ∧
    stepsL (bitsL (endL xs)).length (endL xs) = endL xs ∧ mIsLeast (endL xs) = (true, true) ∧ mFromBits (rotN 1 (bitsL (endL xs))) = (stepL (endL xs), true) := by
  have hz := endL_good hg
  have hzc := endL_cyc hg
  have gz := good_iff.2 hz
  have cz := cyc_iff.2 hzc
  have hb := mBits_yes gz cz
  have hI := bitsL_isB hzc
  have hL7 := hL_le (endL xs)
  have hlen := bitsL_length (endL xs)
  have hf := from_bits hz hzc
  have hB : bitsB (bitsL (endL xs)) = true := bits_iff.2 ⟨by omega, fun b hb => by have := hI b hb; omega, bits_zero hz hzc⟩
  refine ⟨gz, hb, hB, by omega, ?_, by unfold mIsLeast; rw [gz, cz]; rfl, ?_⟩
  · have hp := hgt_per hg
    rw [cycL_len] at hp
    have hh : hL (endL xs) = hgt xs.sum.toNat := by unfold hL; rw [end_sum hg]
    obtain ⟨k, hk⟩ := Nat.dvd_of_mod_eq_zero hp
    rw [hlen, hh, hk, Nat.mul_comm]
    exact steps_per (perL_spec hz hzc).2.2.1 k
  · have htf := turn_from (k := 1) hB (by rw [hf]; exact gz) (by omega)
    rw [htf.2.2]
    have h2 := htf.2.1
    rw [hf] at h2
    have h5 := mSteps_yes (k := 1) gz (by omega)
    have h4 := (Prod.mk.inj (h5.symm.trans h2)).1
    rw [← h4, show stepsL 1 (endL xs) = stepL (stepsL 0 (endL xs)) from rfl, steps_none]
theorem top_tree {xs : List Int} (hg : Good xs) : (tailL xs : Int) ≤ (depN (endL xs) : Int) - 1 ∧ depN (endL xs) ≤ 3719 ∧ xs ∈ treeL (endL xs) := by
  have hz := endL_good hg
  have hone : ∀ x ∈ [endL xs], Good x := fun x hx => by rw [List.mem_singleton.1 hx]; exact hz
  have hm : xs ∈ levL [endL xs] (tailL xs) := (mem_levR hone _ _).2 ⟨hg, by simp [endL], (tailL_spec hg).2.2⟩
  obtain ⟨h1, h2, h3, h4⟩ := depN_spec hz
  have hlt : tailL xs < depN (endL xs) := by
    rcases Nat.lt_or_ge (tailL xs) (depN (endL xs)) with h | h
    · exact h
    · exfalso
      have := levR_stop h3 (tailL xs - depN (endL xs))
      rw [show depN (endL xs) + (tailL xs - depN (endL xs)) = tailL xs by omega] at this
      rw [this] at hm; cases hm
  refine ⟨by omega, h2, ?_⟩
  unfold treeL
  rw [srt_mem, List.mem_flatten]
  exact ⟨_, List.mem_map.2 ⟨tailL xs, List.mem_range.2 hlt, rfl⟩, hm⟩
theorem top_long {xs : List Int} (hg : Good xs) {n : Nat} (hn : xs.sum = n) : (tailL xs : Int) ≤ (longF (allL n)).1 := by
  have h28 : n ≤ 28 := by have := hg.2.2; omega
  have hm := mem_allL hg
  rw [hn, Int.toNat_natCast] at hm
  rcases longF_spec (allL n) (allL_up n) with ⟨h, _⟩ | ⟨_, _, h, _⟩
  · rw [h] at hm; cases hm
  · exact h _ hm
theorem DrawTailOf_any (ac : Option Addr) (nc cc : Nat) (w : World) (hnc : nc ≤ 1048576) (hby : ByteIn w w.heap.size ac nc) :
    Calls Tryz.prog 19 #[.slice ac nc cc] w fun e w' => ∃ ao n cap xs, e = .returned (.slice ao n cap) ∧ Own w.heap.size w'.heap.size w' ao n cap xs ∧ Near xs ∧ Below w.heap.size w w' := by
  have hcon := anyPiles_any 20 _ _ 0 (cur_new w ac nc cc hnc hby) (by omega) (by omega)
  rw [show ((20 : Nat) : Int) = 20 from rfl] at hcon
  have Hcon := Lib.hid hcon; clear hcon
  have Hby := Lib.hid hby; clear hby
  go_enter Tryz.func19, Tryz.ntmps19
  go_wp2_with fail
  with_reducible refine (Hcon.out).mono ?_
  rintro e w1 ⟨a, n, c, xs, rfl, ho, hn, hc, hg⟩
  go_wp2
  go_ret
  exact ⟨_, _, _, _, rfl, ho.mono (curSize _ _) (Nat.le_refl _), hn, hg.drawn⟩
end Go.Proofs.YthppkfhhidlpiaaGreat
