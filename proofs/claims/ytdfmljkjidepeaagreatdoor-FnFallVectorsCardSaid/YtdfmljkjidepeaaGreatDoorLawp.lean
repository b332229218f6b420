/- The helpers of the laws that are not exact: same lists, a list in lists, sizes. No condition. -/
import Derived.Test.YtdfmljkjidepeaaGreatDoorHelp
import Derived.Test.YtdfmljkjidepeaaGreatDoorGd
import Derived.Test.YtdfmljkjidepeaaGreatDoorStayM
namespace Go.Proofs.YtdfmljkjidepeaaGreatDoor
open Go.RowKit
set_option linter.unusedVariables false
set_option linter.unusedSimpArgs false

theorem byteIn_row {w : World} {a : Option Addr} {len cap : Nat} {zs : List Int} (h : (a = none ∧ len = 0 ∧ cap = 0 ∧ zs = []) ∨
    ∃ x, a = some x ∧ len ≤ cap ∧ cap ≤ maxLen ∧ zs.length = cap ∧ (∀ i, i < zs.length → w.cell? (x.add i) = some (.int .u8 (zs.getD i 0))) ∧ ∀ n ∈ zs, (Lit.int .u8 n).wf = true) :
    ByteIn w w.heap.size a len := by
  intro j hj
  rcases h with ⟨rfl, rfl, rfl, rfl⟩ | ⟨⟨b, o, sp⟩, rfl, h1, h2, h3, h4, h5⟩
  · omega
  have hc0 := h4 0 (by omega)
  have hsp : sp = none := by simpa [Addr.add] using World.cell?_spot hc0
  subst hsp
  refine ⟨b, o, rfl, World.block_lt_of_cell? w _ (by simpa using hc0), fun i hi => ?_⟩
  have h6 := h4 i (by omega)
  rw [Addr.add_lit] at h6
  have h7 := h5 _ (mem_of_getD (xs := zs) (i := i) (by omega))
  have h8 : 0 ≤ zs.getD i 0 ∧ zs.getD i 0 ≤ 255 := by simpa [Lit.wf, IntKind.min, IntKind.max, IntKind.signed, IntKind.bits] using h7
  exact ⟨(zs.getD i 0).toNat, by omega, by rw [h6]; congr 2; omega⟩
theorem ByteIn.up {w w' : World} {g g' : Nat} {ac : Option Addr} {nc : Nat} (h : ByteIn w g ac nc) (hg : g ≤ w.heap.size) (hb : Below w.heap.size w w') (hg' : g ≤ g') : ByteIn w' g' ac nc := fun j hj => by
  obtain ⟨b, o, e, hlt, hi⟩ := h.chg (S := fun _ => False) hg (Chg.ofBelow hb) (fun _ _ h => h) j hj
  exact ⟨b, o, e, by omega, hi⟩

theorem big_yes (ao bo : Option Addr) (n m cap cap' : Nat) (w : World) (h : 1048576 < n ∨ (1048576 : Int) - n < m) (hn : n ≤ maxLen) :
    Calls Tryz.prog 4 #[.slice ao n cap, .slice bo m cap'] w fun e w' => e = .returned (.bool true) ∧ w = w' := by
  have hn8 := maxLen_le hn
  by_cases h1 : 1048576 < n
  · have hd : decide ((1048576 : Int) < n) = true := decide_eq_true (by omega)
    go_enter Tryz.func4, Tryz.ntmps4
    go_wp2
    go_ret
    exact ⟨rfl, rfl⟩
  · have h2 : (1048576 : Int) - n < m := by omega
    have hd : ¬ ((1048576 : Int) < n) := by omega
    go_enter Tryz.func4, Tryz.ntmps4
    go_wp2
    go_ret
    exact ⟨retB (by simp <;> omega), rfl⟩
theorem big_no (ao bo : Option Addr) (n m cap cap' : Nat) (w : World) (h : n ≤ 1048576) (h2 : (m : Int) ≤ 1048576 - n) :
    Calls Tryz.prog 4 #[.slice ao n cap, .slice bo m cap'] w fun e w' => e = .returned (.bool false) ∧ w = w' := by
  have hd : ¬ ((1048576 : Int) < n) := by omega
  go_enter Tryz.func4, Tryz.ntmps4
  go_wp2
  go_ret
  exact ⟨retB (by simp <;> omega), rfl⟩

set_option maxHeartbeats 400000 in
theorem pSame_quiet (ao bo : Option Addr) (n m cap cap' : Nat) (xs ys : List Int) (w : World) (hx : IntsAt w ao n cap xs) (hy : IntsAt w bo m cap' ys) :
    Calls Tryz.prog 11 #[.slice ao n cap, .slice bo m cap'] w fun e w' => e = .returned (.bool (decide (xs = ys))) ∧ ∃ q, w' = w.drewN q := by
  have hn' := hx.lenInt
  have hm' := hy.lenInt
  by_cases hnm : n = m
  · subst hnm
    go_enter Tryz.func11, Tryz.ntmps11
    go_wp2
    go_loopw [13] (fun i wr => ∃ k : Nat, k ≤ n ∧ i = .int .i64 k ∧ xs.take k = ys.take k ∧ ∃ q, wr = w.drewN q)
      (fun i _ => n - (intOf i).toNat)
    case atStart => exact ⟨0, Nat.zero_le _, rfl, rfl, 0, rfl⟩
    case round =>
      obtain ⟨k, hk, rfl, heq, q, rfl⟩ := hrel
      have Heq := Lib.hid heq; clear heq
      by_cases hlt : k < n
      · have hl1 := Lib.hid hx.length
        have hl2 := Lib.hid hy.length
        obtain ⟨b1, o1, rfl, hb1, hc1⟩ := hx.cell k hlt
        have hck1 := hc1 k hlt
        clear hc1
        generalize hx1 : xs.getD k 0 = x at hck1
        have Hx1 := Lib.hid hx1; clear hx1
        obtain ⟨b2, o2, rfl, hb2, hc2⟩ := hy.cell k hlt
        have hck2 := hc2 k hlt
        clear hc2
        generalize hx2 : ys.getD k 0 = y at hck2
        have Hx2 := Lib.hid hx2; clear hx2
        go_wp2
        go_quiet (fail)
        go_wp2
        · go_ret
          have hne : xs ≠ ys := fun e => by
            have h3 := Hx1.out; have h4 := Hx2.out
            rw [e, h4] at h3; subst h3; simp at *
          exact ⟨by simp [hne], _, World.drewN_drewN _ _ _⟩
        · have hxy : x = y := by rename_i hh; simpa using hh
          go_roundw
          case rel => exact ⟨k + 1, by omega, by go_num, by rw [take_snoc Hx1.out hlt hl1.out, take_snoc Hx2.out hlt hl2.out, Heq.out, hxy], _, rfl⟩
          case measure => simp [intOf]; omega
      · go_wp2
        go_ret
        obtain rfl : n = k := by omega
        have e := Heq.out
        rw [take_all hx.length, take_all hy.length] at e
        exact ⟨by simp [e], _, rfl⟩
  · have hne : ((n : Int) != (m : Int)) = true := by simp; omega
    have hxy : xs ≠ ys := fun e => hnm (by rw [← hx.length, ← hy.length, e])
    go_enter Tryz.func11, Tryz.ntmps11
    go_wp2
    go_ret
    exact ⟨by simp [hxy], 0, rfl⟩
theorem pSame_any (ao bo : Option Addr) (n m cap cap' : Nat) (xs ys : List Int) (w : World) (hx : IntsAt w ao n cap xs) (hy : IntsAt w bo m cap' ys) :
    Calls Tryz.prog 11 #[.slice ao n cap, .slice bo m cap'] w fun e w' => e = .returned (.bool (decide (xs = ys))) ∧ Below w.heap.size w w' :=
  (pSame_quiet ao bo n m cap cap' xs ys w hx hy).mono fun e w' ⟨a, q, b⟩ => ⟨a, b ▸ belowDrewN (Below.refl _ _) q⟩

end Go.Proofs.YtdfmljkjidepeaaGreatDoor
