/- Chapter 1: PlayOf, by the model and by the program. No condition. -/
import Derived.Test.YtmfdimdcoeapoaaPastsB
namespace Go.Proofs.Ytmfdimdcoeapoaa
open Go.RowKit
set_option linter.unusedVariables false
set_option linter.unusedSimpArgs false

def playL (k : Nat) (xs : List Int) : List (List Int) := (List.range (k + 1)).map fun i => stepsL i xs
theorem playL_length (k : Nat) (xs : List Int) : (playL k xs).length = k + 1 := by simp [playL]
theorem playL_succ (k : Nat) (xs : List Int) : playL k xs ++ [stepL (stepsL k xs)] = playL (k + 1) xs := by
  unfold playL
  rw [List.range_succ (n := k + 1), List.map_append]
  rfl
theorem playL_getD (k i : Nat) (xs : List Int) (h : i ≤ k) : (playL k xs).getD i [] = stepsL i xs := by
  unfold playL
  rw [List.getD_eq_getElem?_getD, List.getElem?_map, List.getElem?_range (by omega)]
  rfl
def mPlayOf (xs : List Int) (k : Int) : List (List Int) × Bool := if goodB xs = true ∧ 0 ≤ k ∧ k ≤ 1000 then (playL k.toNat xs, true) else ([], false)
theorem mPlay_yes {xs : List Int} {k : Nat} (h : goodB xs = true) (hk : k ≤ 1000) : mPlayOf xs k = (playL k xs, true) := by unfold mPlayOf; rw [if_pos ⟨h, by omega, by omega⟩]; rfl
theorem mPlay_no1 {xs : List Int} {k : Int} (h : goodB xs = false) : mPlayOf xs k = ([], false) := by unfold mPlayOf; rw [if_neg (by rw [h]; simp)]
theorem mPlay_no2 {xs : List Int} {k : Int} (h : ¬ (0 ≤ k ∧ k ≤ 1000)) : mPlayOf xs k = ([], false) := by unfold mPlayOf; rw [if_neg (fun hh => h hh.2)]
theorem playL_good {xs : List Int} (hg : Good xs) (k : Nat) : ∀ ys ∈ playL k xs, Good ys := by
  intro ys hy
  unfold playL at hy
  obtain ⟨i, _, rfl⟩ := List.mem_map.1 hy
  exact stepsL_good hg i
theorem mPlayOf_bound (xs : List Int) (k : Int) : (mPlayOf xs k).1.length ≤ 1048576 ∧ total (mPlayOf xs k).1 ≤ 1048576 := by
  unfold mPlayOf
  split
  · next h =>
    have h1 := playL_length k.toNat xs
    have h3 := total_le (playL k.toNat xs) 28 (fun ys hy => (playL_good (good_iff.1 h.1) _ ys hy).len)
    exact ⟨by show (playL k.toNat xs).length ≤ _; omega, by show total (playL k.toNat xs) ≤ _; omega⟩
  · simp [total]

set_option maxHeartbeats 1600000 in
set_option maxRecDepth 100000 in
theorem impl_PlayOf (ao : Option Addr) (n cap : Nat) (xs : List Int) (k : Int) (w : World) (h : IntsAt w ao n cap xs) :
    Calls Try.prog 48 #[.slice ao n cap, .int .i64 k] w fun e w' => ∃ ao' n' cap', e = .returned (.tuple #[.slice ao' n' cap', .bool (mPlayOf xs k).2]) ∧ OwnRows w.heap.size w'.heap.size w' ao' n' cap' (mPlayOf xs k).1 ∧ Below w.heap.size w w' := by
  cases hg : goodB xs
  · have hm := mPlay_no1 (k := k) hg
    have Hg := Lib.hid hg; clear hg
    have Hm := Lib.hid hm; clear hm
    go_enter Try.func48, Try.ntmps48
    go_wp2_with fail
    with_reducible refine (isPiles_no _ _ _ _ _ h Hg.out).mono ?_
    rintro e w' ⟨rfl, rfl⟩
    go_wp2
    go_ret2
    rw [Hm.out]
    exact ⟨none, 0, 0, rfl, OwnRows.nil _ _ _, Below.refl _ _⟩
  · by_cases hk : 0 ≤ k ∧ k ≤ 1000
    · obtain ⟨q, rfl⟩ := Int.eq_ofNat_of_zero_le hk.1
      have hq : q ≤ 1000 := by omega
      have hm := mPlay_yes hg hq
      have hG := good_iff.1 hg
      have hlen := hG.len
      have hl := h.length
      have hcp := copyOf_any ao n cap xs w h (by omega)
      have Hg := Lib.hid hg; clear hg
      have Hm := Lib.hid hm; clear hm
      have Hk := Lib.hid hk; clear hk
      have HG := Lib.hid hG; clear hG
      have Hcp := Lib.hid hcp; clear hcp
      have Hl := Lib.hid hl; clear hl
      go_enter Try.func48, Try.ntmps48
      go_wp2_with fail
      with_reducible refine (isPiles_yes _ _ _ _ _ h HG.out).mono ?_
      rintro e w' ⟨rfl, rfl⟩
      go_wp2_with fail
      with_reducible refine (inRange_yes _ _ _ Hk.out).mono ?_
      rintro e w' ⟨rfl, rfl⟩
      go_wp2_with fail
      with_reducible refine (Hcp.out).mono ?_
      rintro e w1 ⟨a1, c1, rfl, ho1, hb1⟩
      have hone := OwnRows.one ho1 w.heap.size (Nat.le_refl _) hb1.size (Nat.le_succ _)
      have hb2 := hb1.alloc hb1.size (.cells #[.slice a1 n c1] 24)
      clear ho1 hb1
      go_wp2_with fail
      go_loopw [6, 20] (fun v i wr => ∃ (j : Nat) (a : Option Addr) (c : Nat), j ≤ q ∧ i = .int .i64 j ∧ v = .slice a (j + 1) c ∧ OwnRows w.heap.size wr.heap.size wr a (j + 1) c (playL j xs) ∧ Below w.heap.size w wr) (fun _ i _ => q - (intOf i).toNat)
      case atStart => exact ⟨0, _, 1, Nat.zero_le _, rfl, rfl, by simpa [playL, stepsL] using hone, hb2⟩
      case round =>
        obtain ⟨j, a, c, hj, rfl, rfl, hown, hb⟩ := hrel
        clear hone hb2
        by_cases hlt : j < q
        · obtain ⟨b, oo, rfl, hbl, hc⟩ := hown.at.cell j (by omega)
          obtain ⟨a2, m2, c2, hck, hi⟩ := hc j (by omega)
          clear hc
          rw [playL_getD j j xs (Nat.le_refl _)] at hi
          have hcon := stepOf_any a2 m2 c2 _ wr hi (stepsL_good HG.out j)
          have hsucc := playL_succ j xs
          have Hcon := Lib.hid hcon; clear hcon
          have Hsucc := Lib.hid hsucc; clear hsucc
          go_wp2_with fail
          with_reducible refine (Hcon.out).mono ?_
          rintro e w2 ⟨a3, m3, c3, rfl, ho3, hb3⟩
          have hown1 := hown.keep hb3
          have hbw := belowTrans hb hb3 (Nat.le_refl _)
          clear hown hck hi
          go_wp2_with (at_builtin; refine wpList_pushR w2 rfl _ _ rfl w.heap.size wr.heap.size _ (j + 1) c _ rfl hown1 hb3.size a3 m3 c3 wr.heap.size _ ho3 hb.size ho3.ge rfl (by omega) hbw.size ?_)
          intro a4 c4 w4 ho4 hc4
          have hb4 := hbw.trans (hown1.chgBelow hc4 hbw.size)
          clear hown1 hc4
          go_wp2
          go_roundw
          case rel => exact ⟨j + 1, a4, c4, by omega, by go_num, rfl, by rw [← Hsucc.out]; exact ho4, hb4⟩
          case measure => simp [intOf] <;> omega
        · obtain rfl : q = j := by omega
          go_wp2
          go_ret2
          rw [Hm.out]
          exact ⟨_, _, _, rfl, hown, hb⟩
    · have hm := mPlay_no2 (xs := xs) hk
      have Hg := Lib.hid hg; clear hg
      have Hm := Lib.hid hm; clear hm
      have Hk := Lib.hid hk; clear hk
      go_enter Try.func48, Try.ntmps48
      go_wp2_with fail
      with_reducible refine (isPiles_yes _ _ _ _ _ h (good_iff.1 Hg.out)).mono ?_
      rintro e w' ⟨rfl, rfl⟩
      go_wp2_with fail
      with_reducible refine (inRange_no _ _ _ Hk.out).mono ?_
      rintro e w' ⟨rfl, rfl⟩
      go_wp2
      go_ret2
      rw [Hm.out]
      exact ⟨none, 0, 0, rfl, OwnRows.nil _ _ _, Below.refl _ _⟩
end Go.Proofs.Ytmfdimdcoeapoaa
