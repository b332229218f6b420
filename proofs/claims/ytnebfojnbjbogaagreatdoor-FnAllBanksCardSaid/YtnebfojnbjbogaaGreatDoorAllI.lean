/- Chapter 1: AllPiles by the program. No condition. -/
import Derived.Test.YtnebfojnbjbogaaGreatDoorExt
import Derived.Laws.EntriesVeiled
namespace Go.Proofs.YtnebfojnbjbogaaGreatDoor
open Go.RowKit
set_option linter.unusedVariables false
set_option linter.unusedSimpArgs false

set_option maxHeartbeats 1600000 in
set_option maxRecDepth 100000 in
theorem impl_AllPiles (n : Int) (w : World) :
    Calls Tryz.prog 32 #[.int .i64 n] w fun e w' => ∃ ao' n' cap', e = .returned (.tuple #[.slice ao' n' cap', .bool (mAllPiles n).2]) ∧ OwnRows w.heap.size w'.heap.size w' ao' n' cap' (mAllPiles n).1 ∧ Below w.heap.size w w' := by
  by_cases hn : 0 ≤ n ∧ n ≤ 28
  · have hg0 := inRange_yes n 28 w hn
    obtain ⟨m, rfl⟩ := Int.eq_ofNat_of_zero_le hn.1
    have hm28 : m ≤ 28 := by omega
    have hm := mAll_yes m hm28
    have hmf : ∀ (fn : Fn) (first cap : Array Value) (w : World), (Instr.makeFunc fn first cap).run Tryz.prog w = .ok (.func fn first cap) w := fun _ _ _ _ => rfl
    generalize hW : (w.alloc (.cells #[.slice none 0 0] 55)).alloc (.cells #[extV w.heap.size] 72) = W
    have hWs : W.heap.size = w.heap.size + 2 := by rw [← hW]; simp
    have hW0 : W.heap[w.heap.size]? = some (.cells #[.slice none 0 0] 55 (0, 0)) := by
      rw [← hW, Below.heap_alloc _ _ _ (by simp)]; exact heap_alloc_new w _
    have hW1 : W.heap[w.heap.size + 1]? = some (.cells #[extV w.heap.size] 72 (0, 0)) := by
      rw [← hW]
      have := heap_alloc_new (w.alloc (.cells #[.slice none 0 0] 55)) (.cells #[extV w.heap.size] 72)
      rw [show (w.alloc (.cells #[.slice none 0 0] 55)).heap.size = w.heap.size + 1 by simp] at this
      exact this
    have hbW : Below w.heap.size w W := by rw [← hW]; exact (belowAlloc w _).alloc (by simp) _
    have hst : St w.heap.size (fun _ => False) W none 0 0 [] := ⟨hW0, hW1, [], OwnRow.nil _ _ _ _, ⟨rfl, fun i hi => absurd hi (Nat.not_lt_zero _), fun i j _ hj => absurd hj (Nat.not_lt_zero _)⟩, fun i hi => absurd hi (Nat.not_lt_zero _)⟩
    have hlen := allF_length 28 m m hm28 hm28 hm28
    have hcl := cnt_le m (by omega) m (by omega)
    have hcon := ext_any w.heap.size 28 m m (fun _ => False) none 0 0 [] none 0 0 [] W hm28 hm28 hm28 (by omega) (fun _ => rfl) (fun h => absurd rfl h) (by omega) hst (Own.nil _ _ _) (fun g hg => by simp [Value.ownBlock] at hg) (fun k hk => hk.elim) (by omega)
    have hcell := cell_of_one hW1
    unfold extV at hW hcell
    have Hg0 := Lib.hid hg0; clear hg0
    have Hm := Lib.hid hm; clear hm
    have Hcon := Lib.hid hcon; clear hcon
    have Hn := Lib.hid hn; clear hn
    have Hst := Lib.hid hst; clear hst
    have HW0 := Lib.hid hW0; clear hW0
    have HW1 := Lib.hid hW1; clear hW1
    have Hlen := Lib.hid hlen; clear hlen
    have Hcl := Lib.hid hcl; clear hcl
    go_enter Tryz.func32, Tryz.ntmps32
    go_wp2_with fail
    with_reducible refine (Hg0.out).mono ?_
    rintro e w1 ⟨rfl, rfl⟩
    go_wp2_with fail
    with_reducible refine (Hcon.out).mono ?_
    rintro e w5 ⟨rfl, a5, p5, c5, hP⟩
    have hc5 := cell_of_one hP.st.all
    have HP := Lib.hid hP
    clear hP hcell hmf
    have HW := Lib.hid hW; clear hW
    have HWs := Lib.hid hWs; clear hWs
    go_wp2
    go_ret2
    rw [Hm.out]
    obtain ⟨vs, r1, r2, _⟩ := HP.out.st.rows
    have hr := r2.rows r1
    have e : (allF 28 m m).map (([] : List Int) ++ ·) = allL m := by simp [allL]
    rw [List.nil_append, e] at hr
    refine ⟨_, _, _, rfl, hr.mono (by omega) (Nat.le_refl _), hbW.trans (HP.out.frame.below (by have := HWs.out; omega) (fun k hk => ?_))⟩
    rcases hk with h | h | h
    · omega
    · simp [Value.ownBlock] at h
    · simp [Value.ownBlock] at h
  · have hg0 := inRange_no n 28 w hn
    have hm := mAll_no n hn
    have Hg0 := Lib.hid hg0; clear hg0
    have Hm := Lib.hid hm; clear hm
    have Hn := Lib.hid hn; clear hn
    go_enter Tryz.func32, Tryz.ntmps32
    go_wp2_with fail
    with_reducible refine (Hg0.out).mono ?_
    rintro e w1 ⟨rfl, rfl⟩
    go_wp2
    go_ret2
    rw [Hm.out]
    exact ⟨none, 0, 0, rfl, OwnRows.nil _ _ _, Below.refl _ _⟩
end Go.Proofs.YtnebfojnbjbogaaGreatDoor
