/- Chapter 5: all pasts of a row, by the specification. No condition. -/
import Derived.Test.YtbneibpakopllaaRowE
import Derived.Test.YtbneibpakopllaaRowsR
import Derived.Test.YtbneibpakopllaaRowsC
import Derived.Test.YtbneibpakopllaaRowB
import Derived.Test.YtbneibpakopllaaGk
import Derived.IntWalk
namespace Go.Proofs.Ytbneibpakopllaa
open Go.RowKit
set_option linter.unusedVariables false
set_option linter.unusedSimpArgs false
set_option maxRecDepth 20000

theorem pR_most (f : Nat) (rs : List Int) (hf : f ≤ 28) : (pR f rs).length ≤ 40116600 := by
  by_cases hl : rs.length ≤ 28
  · have h1 := pR_count f rs hf hl
    have h2 := chI_in (n := (f : Int)) (by omega) (by omega) hl
    omega
  · rw [pR_short f rs (by omega)]; simp
/-- the contract of roPasts, for so many places -/
def RoOK (f : Nat) : Prop := ∀ (rs : List Int) (ones : Nat) (ao : Option Addr) (n cap : Nat) (row : List Int) (ra : Option Addr) (rn rc : Nat) (w : World), rs.length + ones = f → n + f ≤ 28 → (∀ y ∈ rs, 1 ≤ y ∧ y ≤ 28) → IntsAt w ao n cap row → IntsAt w ra rn rc rs →
    Calls Try.prog 114 #[.slice ao n cap, .slice ra rn rc, .int .i64 ones] w fun e w' => ∃ a' n' c', e = .returned (.slice a' n' c') ∧ OwnRows w.heap.size w'.heap.size w' a' n' c' ((pR f rs).map (row ++ ·)) ∧ Below w.heap.size w w'
theorem ro_zero (ao : Option Addr) (n cap : Nat) (row : List Int) (ra : Option Addr) (rc : Nat) (w : World) (hn : n ≤ 28) (hA : IntsAt w ao n cap row) :
    Calls Try.prog 114 #[.slice ao n cap, .slice ra 0 rc, .int .i64 0] w fun e w' => ∃ a' n' c', e = .returned (.slice a' n' c') ∧ OwnRows w.heap.size w'.heap.size w' a' n' c' [row] ∧ Below w.heap.size w w' := by
  have hcon := l1Own_any ao n cap row w hA (by omega)
  have Hcon := Lib.hid hcon; clear hcon
  go_enter Try.func114, Try.ntmps114
  go_wp2_with fail
  with_reducible refine (Hcon.out).mono ?_
  rintro e w1 ⟨a1, c1, rfl, ho1, hb1⟩
  have hone := OwnRows.one ho1 w.heap.size (Nat.le_refl _) hb1.size (by omega)
  have hbb := hb1.alloc hb1.size (.cells #[.slice a1 n c1] 22)
  have Hone := Lib.hid hone; clear hone
  have Hbb := Lib.hid hbb; clear hbb
  go_wp2
  go_ret
  exact ⟨_, _, _, rfl, by have := Hone.out; simpa using this, Hbb.out⟩

set_option maxHeartbeats 3200000 in
theorem ro_ones {f : Nat} (ih : RoOK f) (ao : Option Addr) (n cap : Nat) (row : List Int) (ra : Option Addr) (rc : Nat) (w : World) (hn : n + (f + 1) ≤ 28) (hA : IntsAt w ao n cap row) (hra : IntsAt w ra 0 rc []) :
    Calls Try.prog 114 #[.slice ao n cap, .slice ra 0 rc, .int .i64 ((f : Int) + 1)] w fun e w' => ∃ a' n' c', e = .returned (.slice a' n' c') ∧ OwnRows w.heap.size w'.heap.size w' a' n' c' ((pR (f + 1) []).map (row ++ ·)) ∧ Below w.heap.size w w' := by
  have hbW : Below w.heap.size w w := Below.refl _ _
  have hout : OwnRows w.heap.size w.heap.size w none 0 0 [] := OwnRows.nil _ _ _
  rw [pR_nil]
  have hd : ¬ (f : Int) + 1 = 0 := by omega
  have hd2 : ((f : Int) + 1) > 0 := by omega
  have hf8 : (f : Int) ≤ 28 := by omega
  have hmost := pR_most f [] (by omega)
  go_enter Try.func114, Try.ntmps114
  have hAW := hA.keep hbW
  have hl1 := l1Own_any ao n cap row w hAW (by omega)
  have Hl1 := Lib.hid hl1; clear hl1
  go_wp2_with fail
  with_reducible refine (Hl1.out).mono ?_
  rintro e w1 ⟨a1, c1, rfl, ho1, hb1⟩
  go_wp2_with (at_builtin; refine wpList_push w1 rfl _ _ rfl (w).heap.size _ a1 n c1 row rfl ho1 1 rfl (by omega) hb1.size ?_)
  intro a4 c4 w4 ho4 hc4
  have hb4 : Below (w).heap.size w w4 := hb1.trans (ho1.chgBelow hc4 hb1.size)
  have hbw4 := belowTrans hbW hb4 (Nat.le_refl _)
  have hcall := ih [] f a4 (n + 1) c4 (row ++ [1]) ra 0 rc w4 (by simp) (by omega) (fun y hy => by cases hy) ho4.at (hra.keep hbw4)
  rw [map_ext] at hcall
  obtain ⟨Y, hY⟩ : ∃ Y, Y = ((pR f []).map (1 :: ·)).map (row ++ ·) := ⟨_, rfl⟩
  rw [← hY] at hcall
  have hYl : Y.length = (pR f []).length := by rw [hY]; simp
  clear ho1 hb1 ho4 hc4
  have Hcall := Lib.hid hcall; clear hcall
  have HYl := Lib.hid hYl; clear hYl
  have HY := Lib.hid hY; clear hY
  go_wp2_with fail
  with_reducible refine (Hcall.out).mono ?_
  rintro e w5 ⟨a6, n6, c6, rfl, ho6, hb6⟩
  have hn6 := ho6.length
  rw [HYl.out] at hn6
  obtain ⟨vs, hv, hvp⟩ := hout.sp
  obtain ⟨us, hu, hup⟩ := ho6.sp
  have hn5 := hv.length
  have hb5 := belowTrans hb4 hb6 (Nat.le_refl _)
  have hs5 := hb5.size
  have hs6 := hb6.size
  have hsW := hbW.size
  have hs4 := hb4.size
  have hv2 := (hv.keep hb5).mono (Nat.le_refl _) hs5 (Nat.le_refl _) hs5
  have hap2 := apart_append hv.rows hvp hu.rows hup hs4
  have hur := hu.rows.mono (show w.heap.size ≤ w4.heap.size by omega) (Nat.le_refl _)
  have hbw5 := belowTrans hbW hb5 (Nat.le_refl _)
  clear hv hb4 hb5 hb6 ho6 hout
  have Hap2 := Lib.hid hap2; clear hap2
  have Hn5 := Lib.hid hn5; clear hn5
  have Hn6 := Lib.hid hn6; clear hn6
  go_wp2_with (at_builtin; refine wpList_catSp w5 rfl _ _ rfl w.heap.size w5.heap.size w.heap.size w5.heap.size none 0 0 vs _ rfl hv2 a6 n6 c6 us Y rfl hu.spine.at hur (by have := Hn6.out; omega) hbw5.size ?_)
  intro a7 c7 w7 hv7 hc7
  have hs7 := hc7.size
  have hb7 := hbw5.trans (hv2.below hc7 hbw5.size)
  have hown := hv7.own Hap2.out (Nat.le_refl _) (Nat.le_refl _) (Nat.le_refl _) hs7
  clear hv2 hv7 hc7 hbw5 hu hur
  have Hown := Lib.hid hown; clear hown
  have Hb7 := Lib.hid hb7; clear hb7
  go_wp2
  go_ret
  have e8 := Hown.out
  rw [HY.out] at e8
  exact ⟨_, _, _, rfl, by simpa using e8, Hb7.out⟩

theorem intCell {w : World} {rb ro rn rc : Nat} {x : Int} {t : List Int} (h : IntsAt w (some ⟨rb, ro, none⟩) (rn + 1) rc (x :: t)) : w.cell? ⟨rb, ro, none⟩ = some (.int .i64 x) := by
  obtain ⟨b, o, e, _, hc⟩ := h.cell 0 (by omega)
  cases e
  have := hc 0 (by omega)
  rwa [Nat.add_zero] at this
set_option maxHeartbeats 6400000 in
theorem ro_more {f : Nat} (ih : RoOK f) (x : Int) (t : List Int) (ones : Nat) (ao : Option Addr) (n cap : Nat) (row : List Int) (ra : Option Addr) (r rc : Nat) (w : World) (hf : r + ones = f) (hn : n + (f + 1) ≤ 28) (hrs : ∀ y ∈ x :: t, 1 ≤ y ∧ y ≤ 28) (hA : IntsAt w ao n cap row) (hra : IntsAt w ra (r + 1) rc (x :: t)) :
    Calls Try.prog 114 #[.slice ao n cap, .slice ra (r + 1) rc, .int .i64 ones] w fun e w' => ∃ a' n' c', e = .returned (.slice a' n' c') ∧ OwnRows w.heap.size w'.heap.size w' a' n' c' ((pR (f + 1) (x :: t)).map (row ++ ·)) ∧ Below w.heap.size w w' := by
  have hlr := hra.length
  simp only [List.length_cons] at hlr
  have hx := hrs x (by simp)
  obtain ⟨ra2, hsl, hra2⟩ := slFrom w (x :: t) hra 1 (by omega) .i64
  rw [show r + 1 - 1 = r by omega] at hsl hra2
  rw [show (x :: t).drop 1 = t from rfl] at hra2
  rw [show ((1 : Nat) : Int) = 1 from rfl] at hsl
  obtain ⟨rb, ro, rfl, hrb, hrc⟩ := hra.cell 0 (by omega)
  clear hrc hrb
  have hx0 := intCell hra
  have hxd : w.drew.cell? ⟨rb, ro, none⟩ = some (.int .i64 x) := hx0
  have hblk := intsAt_one w (x + 1)
  have hal := belowAlloc w (.cells #[.int .i64 (x + 1)] 3)
  have hi2' : IntsAt (w.alloc (.cells #[.int .i64 (x + 1)] 3)).drew ao n cap row := (hA.keep hal).drewN 1
  have hi2'' : IntsAt w.drew ao n cap row := hA.drewN 1
  have hal' : Below w.heap.size w (w.alloc (.cells #[.int .i64 (x + 1)] 3)).drew := belowDrewN hal 1
  have hrefl : Below w.heap.size w w.drew := belowDrewN (Below.refl w.heap.size w) 1
  have hblk' : IntsAt (w.alloc (.cells #[.int .i64 (x + 1)] 3)).drew (some ⟨w.heap.size, 0, none⟩) 1 1 [x + 1] := hblk.drewN 1
  clear hblk hal
  have hcall1 : ∀ (a4 : Option Addr) (c4 : Nat) (w4 : World), Own w.heap.size w4.heap.size w4 a4 (n + 1) c4 (row ++ [x + 1]) → Below w.heap.size w w4 → Calls Try.prog 114 #[.slice a4 (n + 1) c4, .slice ra2 r (rc - 1), .int .i64 ones] w4 fun e w' => ∃ a' n' c', e = .returned (.slice a' n' c') ∧ OwnRows w4.heap.size w'.heap.size w' a' n' c' (((pR f t).map ((x + 1) :: ·)).map (row ++ ·)) ∧ Below w4.heap.size w4 w' := fun a4 c4 w4 ho4 hb4 => by
    have := ih t ones a4 (n + 1) c4 (row ++ [x + 1]) ra2 r (rc - 1) w4 (by omega) (by omega) (fun y hy => hrs y (by simp [hy])) ho4.at (hra2.keep hb4)
    rw [map_ext] at this
    exact this
  have hwrap : IntKind.i64.wrap (x + 1) = x + 1 := IntWalk.i64_in _ (by omega)
  have hn9 : n ≤ 1048576 := by omega
  have hn8 : n + 1 ≤ 67108864 := by omega
  have hr8 : (r : Int) ≤ 28 := by omega
  have ho8 : (ones : Int) ≤ 28 := by omega
  have hd : ¬ (r : Int) + 1 = 0 := by omega
  have hd2 : (0 : Int) < (r : Int) + 1 := by omega
  have hZl : (((pR f t).map ((x + 1) :: ·)).map (row ++ ·)).length = (pR f t).length := by simp
  have hm2 := pR_most (f + 1) (x :: t) (by omega)
  rw [pR_cons, List.length_append, List.length_map, List.length_map] at hm2
  rw [pR_cons, List.map_append]
  generalize ((pR f t).map ((x + 1) :: ·)).map (row ++ ·) = OUT at hcall1 hZl ⊢
  have Hx := Lib.hid hx
  clear hx hx0
  have Hcall1 := Lib.hid hcall1; clear hcall1
  have HZl := Lib.hid hZl; clear hZl
  have Hm2 := Lib.hid hm2; clear hm2
  have Hlr := Lib.hid hlr; clear hlr
  go_enter Try.func114, Try.ntmps114
  go_wp2
  go_region_law (first | (go_simp; with_reducible refine (l1Own_any ao n cap row _ hi2'' hn9).mono ?_; rintro e w1 ⟨a1, c1, rfl, ho1, hb1⟩; have hac1 : Below w.heap.size w w1 := belowTrans hrefl hb1 (Nat.le_refl _); have ho1' : Own w.heap.size w1.heap.size w1 a1 n c1 row := ho1.mono hrefl.size (Nat.le_refl _); have hxe := intCell (hra.keep hac1); have tokA : True := trivial) | (go_simp; with_reducible refine (l1Own_any ao n cap row _ hi2' hn9).mono ?_; rintro e w1 ⟨a1, c1, rfl, ho1, hb1⟩; have hac1 : Below w.heap.size w w1 := belowTrans hal' hb1 (Nat.le_refl _); have ho1' : Own w.heap.size w1.heap.size w1 a1 n c1 row := ho1.mono hal'.size (Nat.le_refl _); have tokB : True := trivial; have hx1 := hblk'.keep hb1) | (have _t := tokA; refine step_catB w (w1.alloc (.cells #[.int .i64 (x + 1)] 3)) rfl (.tmp 22) (.tmp 27) rfl w1.heap.size a1 n c1 row rfl (some ⟨w1.heap.size, 0, none⟩) 1 1 [x + 1] rfl (hac1.alloc hac1.size _) (ho1'.keep (belowAlloc _ _)) (intsAt_one w1 (x + 1)) hn8 ?_; intro a4 c4 w4 ho4 hac4; have Hgo := Lib.hid (Hcall1.out a4 c4 w4 ho4 hac4)) | (have _t := tokB; refine step_catB w w1 rfl (.tmp 22) (.tmp 27) rfl w1.heap.size a1 n c1 row rfl (some ⟨w.heap.size, 0, none⟩) 1 1 [x + 1] rfl hac1 ho1' hx1 hn8 ?_; intro a4 c4 w4 ho4 hac4; have Hgo := Lib.hid (Hcall1.out a4 c4 w4 ho4 hac4)) | (go_simp; with_reducible refine (Hgo.out).mono ?_; rintro e w8 ⟨a5, n5, c5, rfl, hout, hb8⟩; have hbW : Below w.heap.size w w8 := belowTrans hac4 hb8 (Nat.le_refl _); have hsz4 := hac4.size; replace hout := hout.mono hsz4 (Nat.le_refl _)))
  all_goals
    have hA8 : n ≤ 28 := by omega
    clear Hcall1 Hgo hwrap hsl hxd hi2' hi2'' hal' hrefl hblk' hb8 hac4 ho4 hac1 ho1 ho1' hb1 hsz4
    cases ones with
    | zero =>
      have e0 : pR f (x :: t) = [] := pR_short f (x :: t) (by have := Hlr.out; simp only [List.length_cons]; omega)
      have Hout := Lib.hid hout; clear hout
      have HbW := Lib.hid hbW; clear hbW
      have E0 := Lib.hid e0; clear e0
      go_wp2
      go_ret
      rw [E0.out]
      exact ⟨_, _, _, rfl, by have := Hout.out; simpa using this, HbW.out⟩
    | succ o =>
      have hd5 : ((o : Int) + 1) > 0 := by omega
      have ho9 : (o : Int) ≤ 28 := by omega
      have hAW := hA.keep hbW
      have hl1 := l1Own_any ao n cap row w8 hAW (by omega)
      have Hl1 := Lib.hid hl1; clear hl1
      go_wp2_with fail
      with_reducible refine (Hl1.out).mono ?_
      rintro e w1 ⟨a1, c1, rfl, ho1, hb1⟩
      go_wp2_with (at_builtin; refine wpList_push w1 rfl _ _ rfl (w8).heap.size _ a1 n c1 row rfl ho1 1 rfl (by omega) hb1.size ?_)
      intro a4 c4 w4 ho4 hc4
      have hb4 : Below (w8).heap.size w8 w4 := hb1.trans (ho1.chgBelow hc4 hb1.size)
      have hbw4 := belowTrans hbW hb4 (Nat.le_refl _)
      have hcall := ih (x :: t) o a4 (n + 1) c4 (row ++ [1]) (some ⟨rb, ro, none⟩) (r + 1) rc w4 (by have := Hlr.out; simp only [List.length_cons]; omega) (by omega) hrs ho4.at (hra.keep hbw4)
      rw [map_ext] at hcall
      obtain ⟨Y, hY⟩ : ∃ Y, Y = ((pR f (x :: t)).map (1 :: ·)).map (row ++ ·) := ⟨_, rfl⟩
      rw [← hY] at hcall
      have hYl : Y.length = (pR f (x :: t)).length := by rw [hY]; simp
      clear ho1 hb1 ho4 hc4
      have Hcall := Lib.hid hcall; clear hcall
      have HYl := Lib.hid hYl; clear hYl
      have HY := Lib.hid hY; clear hY
      go_wp2_with fail
      with_reducible refine (Hcall.out).mono ?_
      rintro e w5 ⟨a6, n6, c6, rfl, ho6, hb6⟩
      have hn6 := ho6.length
      rw [HYl.out] at hn6
      obtain ⟨vs, hv, hvp⟩ := hout.sp
      obtain ⟨us, hu, hup⟩ := ho6.sp
      have hn5 := hv.length
      have hb5 := belowTrans hb4 hb6 (Nat.le_refl _)
      have hs5 := hb5.size
      have hs6 := hb6.size
      have hsW := hbW.size
      have hs4 := hb4.size
      have hv2 := (hv.keep hb5).mono (Nat.le_refl _) hs5 (Nat.le_refl _) hs5
      have hap2 := apart_append hv.rows hvp hu.rows hup hs4
      have hur := hu.rows.mono (show w.heap.size ≤ w4.heap.size by omega) (Nat.le_refl _)
      have hbw5 := belowTrans hbW hb5 (Nat.le_refl _)
      clear hv hb4 hb5 hb6 ho6 hout
      have Hap2 := Lib.hid hap2; clear hap2
      have Hn5 := Lib.hid hn5; clear hn5
      have Hn6 := Lib.hid hn6; clear hn6
      go_wp2_with (at_builtin; refine wpList_catSp w5 rfl _ _ rfl w.heap.size w5.heap.size w.heap.size w5.heap.size a5 n5 c5 vs _ rfl hv2 a6 n6 c6 us Y rfl hu.spine.at hur (by have := Hn6.out; have := Hn5.out; have := HZl.out; have := Hm2.out; omega) hbw5.size ?_)
      intro a7 c7 w7 hv7 hc7
      have hs7 := hc7.size
      have hb7 := hbw5.trans (hv2.below hc7 hbw5.size)
      have hown := hv7.own Hap2.out (Nat.le_refl _) (Nat.le_refl _) (Nat.le_refl _) hs7
      clear hv2 hv7 hc7 hbw5 hu hur
      have Hown := Lib.hid hown; clear hown
      have Hb7 := Lib.hid hb7; clear hb7
      go_wp2
      go_ret
      have e8 := Hown.out
      rw [HY.out] at e8
      exact ⟨_, _, _, rfl, e8, Hb7.out⟩
theorem ro_any : ∀ f, RoOK f := by
  intro f
  induction f with
  | zero =>
    intro rs ones ao n cap row ra rn rc w hf hn hrs hA hra
    have hl := hra.length
    obtain rfl : rs = [] := List.eq_nil_of_length_eq_zero (by omega)
    obtain rfl : ones = 0 := by omega
    simp only [List.length_nil] at hl
    subst hl
    simpa [pR] using ro_zero ao n cap row ra rc w (by omega) hA
  | succ f ih =>
    intro rs ones ao n cap row ra rn rc w hf hn hrs hA hra
    have hl := hra.length
    cases rs with
    | nil =>
      simp only [List.length_nil] at hl hf
      subst hl
      obtain rfl : ones = f + 1 := by omega
      exact ro_ones ih ao n cap row ra rc w hn hA hra
    | cons x t =>
      simp only [List.length_cons] at hl hf
      subst hl
      exact ro_more ih x t ones ao n cap row ra t.length rc w (by omega) hn hrs hA hra
end Go.Proofs.Ytbneibpakopllaa
