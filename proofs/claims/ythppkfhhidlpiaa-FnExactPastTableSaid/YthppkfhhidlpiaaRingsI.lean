/- Chapter 2: all rings of some cards, by the program. No condition. -/
import Derived.Test.YthppkfhhidlpiaaRings
namespace Go.Proofs.Ythppkfhhidlpiaa
open Go.RowKit
set_option linter.unusedVariables false
set_option linter.unusedSimpArgs false
set_option maxRecDepth 20000

theorem band_one : ∀ n : Fin 256, bits BinOp.and IntKind.i64 (n.val : Int) 1 = ((n.val % 2 : Nat) : Int) := by decide +kernel
theorem band_bit (q s : Nat) (h : q < 256) : bits BinOp.and IntKind.i64 ((q : Int) / 2 ^ s) 1 = ((q / 2 ^ s % 2 : Nat) : Int) := by
  have hle : q / 2 ^ s ≤ q := Nat.div_le_self _ _
  have := band_one ⟨q / 2 ^ s, by omega⟩
  rw [← this]
  congr 1

set_option maxHeartbeats 1600000 in
theorem ringsOf_any (n : Nat) (w : World) (hn : n ≤ 28) :
    Calls Try.prog 130 #[.int .i64 n] w fun e w' => ∃ ao m c, e = .returned (.slice ao m c) ∧ RingRow w.heap.size w'.heap.size w' ao m c (ringsL n) ∧ Below w.heap.size w w' := by
  have hcon := impl_HeightFor n w
  have hm : mHeightFor n = (((hgt n : Nat) : Int), (n : Int) - ((tri (hgt n) : Nat) : Int), true) := by unfold mHeightFor; rw [if_pos (by omega)]; rfl
  rw [hm] at hcon
  have ht := tri_hgt n (by omega)
  have h7 := hgt_le n
  unfold ringsL
  generalize hgt n = K at *
  obtain ⟨o, ho⟩ : ∃ o, n - tri K = o := ⟨_, rfl⟩
  have hoi : (n : Int) - ((tri K : Nat) : Int) = (o : Int) := by omega
  rw [hoi] at hcon
  rw [ho]
  have Hcon := Lib.hid hcon; clear hcon
  have Hm := Lib.hid hm; clear hm
  have Ht := Lib.hid ht; clear ht
  have Hoi := Lib.hid hoi; clear hoi
  have Ho := Lib.hid ho; clear ho
  go_enter Try.func130, Try.ntmps130
  go_wp2_with fail
  with_reducible refine (Hcon.out).mono ?_
  rintro e w1 ⟨rfl, hb1⟩
  go_wp2_with fail
  obtain ⟨T, hT⟩ : ∃ T, 2 ^ (K + 1) = T := ⟨_, rfl⟩
  have hT8 : T ≤ 256 ∧ 1 ≤ T ∧ wrap64 (wrap64 ((2 : Int) ^ (K + 1)) - 1) = (T : Int) - 1 := by
    rw [← hT]
    have hk : K = 0 ∨ K = 1 ∨ K = 2 ∨ K = 3 ∨ K = 4 ∨ K = 5 ∨ K = 6 ∨ K = 7 := by omega
    rcases hk with rfl | rfl | rfl | rfl | rfl | rfl | rfl | rfl <;> decide +kernel
  obtain ⟨hT1, hT2, hT3⟩ := hT8
  rw [hT3]
  have HT := Lib.hid hT; clear hT
  have HT3 := Lib.hid hT3; clear hT3
  go_loopw [7, 8] (fun v i wr => ∃ (m : Nat) (a : Option Addr) (l c : Nat), m ≤ T ∧ i = .int .i64 ((m : Int) - 1) ∧ v = .slice a l c ∧ RingRow w.heap.size wr.heap.size wr a l c (ringsTo K o T m) ∧ Below w.heap.size w wr) (fun _ i _ => (intOf i + 1).toNat)
  case atStart => exact ⟨T, none, 0, 0, Nat.le_refl _, rfl, rfl, by rw [ringsTo_start]; exact RingRow.nil _ _ _, hb1⟩
  case round =>
    obtain ⟨m, a, l, c, hmT, rfl, rfl, hrow, hb⟩ := hrel
    have hlen := ringsTo_length K o T m
    rw [hrow.2.1] at hlen
    by_cases hm0 : m = 0
    · subst hm0
      go_wp2_with fail
      go_ret
      rw [HT.out]
      exact ⟨_, _, _, rfl, hrow, hb⟩
    · obtain ⟨q, rfl⟩ : ∃ q, m = q + 1 := ⟨m - 1, by omega⟩
      have hstep := ringsTo_step K o T q hmT
      have e1 : (((q + 1 : Nat)) : Int) - 1 = (q : Int) := by omega
      rw [e1]
      have hu : IntKind.u64.wrap (q : Int) = (q : Int) := by
        have : q < 256 := by omega
        show (q : Int) % 18446744073709551616 = q
        omega
      have hpop := fun w => onesCount_any q w (by omega)
      by_cases hp : popN 8 q = o
      · rw [if_pos hp] at hstep
        have hpe : ((popN 8 q : Nat) : Int) = (o : Int) := by omega
        rw [hp] at hpop
        have Hstep := Lib.hid hstep; clear hstep
        have Hpop := Lib.hid hpop; clear hpop
        have Hp := Lib.hid hp; clear hp
        have Hpe := Lib.hid hpe; clear hpe
        have E1 := Lib.hid e1; clear e1
        go_wp2_with fail
        with_reducible refine (Hpop.out _).mono ?_
        rintro e w' ⟨rfl, rfl⟩
        have hr0 : OwnRow wr.heap.size (wr.heap.size + 1) (wr.alloc (.cells #[.int .i64 0, .int .i64 0, .int .i64 0, .int .i64 0, .int .i64 0, .int .i64 0, .int .i64 0, .int .i64 0, .int .i64 ((K : Int) + 1)] 76)) 76 (some ⟨wr.heap.size, 0, none⟩) 9 9 ((withT (maskBits K q) (K + 1) 0).map (Value.int .i64)) := by
          have := rowNew (withT (maskBits K q) (K + 1) 0) _ 9 (heap_alloc_new wr (.cells #[.int .i64 0, .int .i64 0, .int .i64 0, .int .i64 0, .int .i64 0, .int .i64 0, .int .i64 0, .int .i64 0, .int .i64 ((K : Int) + 1)] 76)) (by rw [withT_zero]; rfl) (withT_length _ _ _) (by omega)
          exact this
        have hrowA := hrow.keep (belowAlloc wr (.cells #[.int .i64 0, .int .i64 0, .int .i64 0, .int .i64 0, .int .i64 0, .int .i64 0, .int .i64 0, .int .i64 0, .int .i64 ((K : Int) + 1)] 76))
        have hbA := hb.alloc hb.size (.cells #[.int .i64 0, .int .i64 0, .int .i64 0, .int .i64 0, .int .i64 0, .int .i64 0, .int .i64 0, .int .i64 0, .int .i64 ((K : Int) + 1)] 76)
        have hszA : (wr.alloc (.cells #[.int .i64 0, .int .i64 0, .int .i64 0, .int .i64 0, .int .i64 0, .int .i64 0, .int .i64 0, .int .i64 0, .int .i64 ((K : Int) + 1)] 76)).heap.size = wr.heap.size + 1 := by simp
        have hbs := hb.size
        go_wp2_with fail
        generalize (wr.alloc (.cells #[.int .i64 0, .int .i64 0, .int .i64 0, .int .i64 0, .int .i64 0, .int .i64 0, .int .i64 0, .int .i64 0, .int .i64 ((K : Int) + 1)] 76)) = wA at *
        generalize hR : wr.heap.size = R at *
        have HR := Lib.hid hR; clear hR
        have hq8 : q < 256 := by omega
        go_loopw [34] (fun i wi => ∃ k : Nat, k ≤ K + 1 ∧ i = .int .i64 k ∧ OwnRow R (R + 1) wi 76 (some ⟨R, 0, none⟩) 9 9 ((withT (maskBits K q) (K + 1) k).map (Value.int .i64)) ∧ Chg (fun z => z = R) wA wi) (fun i _ => K + 1 - (intOf i).toNat)
        case atStart => exact ⟨0, Nat.zero_le _, rfl, hr0, Chg.refl _ _⟩
        case round =>
          obtain ⟨k, hk, rfl, hrr, hchg⟩ := hrel
          by_cases hkK : k < K + 1
          · have hset := withT_set (maskBits K q) (K + 1) k (by omega)
            rw [maskBits_getD _ _ _ hkK] at hset
            have hcJ := rowCells hrr k (by omega)
            have hfJ := hrr.frozenI k
            generalize hy : (withT (maskBits K q) (K + 1) k).getD k 0 = y at hcJ
            obtain ⟨hst, hgr⟩ := hrr.setI k (((q / 2 ^ (K - k) % 2 : Nat) : Int))
            rw [hset] at hst
            have hbit := band_bit q (K - k) hq8
            generalize hV : ((q / 2 ^ (K - k) % 2 : Nat) : Int) = V at *
            have Hset := Lib.hid hset; clear hset
            have Hy := Lib.hid hy; clear hy
            have Hst := Lib.hid hst; clear hst
            have Hgr := Lib.hid hgr; clear hgr
            have HV := Lib.hid hV; clear hV
            have Hrr := Lib.hid hrr; clear hrr
            have Hchg := Lib.hid hchg; clear hchg
            go_wp2_with fail
            go_roundw
            case rel => exact ⟨k + 1, by omega, by go_num, Hst.out, Hchg.out.trans ((Chg.ofGrown Hgr.out).mono (fun z hz => by simpa using hz))⟩
            case measure => simp [intOf]; omega
          · have hk' : k = K + 1 := by omega
            subst hk'
            have hmb := maskBits_length K q
            obtain ⟨d0, d1, d2, d3, d4, d5, d6, d7, n', hr'⟩ := R9.of (bs := maskBits K q) (by omega)
            have hnn : n' = K + 1 := by have := hr'.1; omega
            subst hnn
            have hv : ∀ j, j < 8 → (withT (maskBits K q) (K + 1) (K + 1)).getD j 0 = (maskBits K q).getD j 0 := withT_all _ _ hmb
            have e0 := (hv 0 (by omega)).trans hr'.2.2.1
            have e1' := (hv 1 (by omega)).trans hr'.2.2.2.1
            have e2 := (hv 2 (by omega)).trans hr'.2.2.2.2.1
            have e3 := (hv 3 (by omega)).trans hr'.2.2.2.2.2.1
            have e4 := (hv 4 (by omega)).trans hr'.2.2.2.2.2.2.1
            have e5 := (hv 5 (by omega)).trans hr'.2.2.2.2.2.2.2.1
            have e6 := (hv 6 (by omega)).trans hr'.2.2.2.2.2.2.2.2.1
            have e7 := (hv 7 (by omega)).trans hr'.2.2.2.2.2.2.2.2.2
            have e8 := withT_last (maskBits K q) (K + 1) (K + 1)
            have c0 := rowCells hrr 0 (by omega)
            have c1 := rowCells hrr 1 (by omega)
            have c2 := rowCells hrr 2 (by omega)
            have c3 := rowCells hrr 3 (by omega)
            have c4 := rowCells hrr 4 (by omega)
            have c5 := rowCells hrr 5 (by omega)
            have c6 := rowCells hrr 6 (by omega)
            have c7 := rowCells hrr 7 (by omega)
            have c8 := rowCells hrr 8 (by omega)
            rw [e0] at c0
            rw [e1'] at c1
            rw [e2] at c2
            rw [e3] at c3
            rw [e4] at c4
            rw [e5] at c5
            rw [e6] at c6
            rw [e7] at c7
            rw [e8, show (((K + 1 : Nat)) : Int) = (K : Int) + 1 by omega] at c8
            have hls := hchg.size
            have hrowB := (hrowA.chg hchg (fun g h1 h2 h3 => by omega)).mono (Nat.le_refl _) (show R ≤ wr.heap.size by omega)
            have hbB := hbA.trans (hchg.below (by omega) (fun z hz => by omega))
            have E0 := Lib.hid e0; clear e0
            have E1' := Lib.hid e1'; clear e1'
            have E2 := Lib.hid e2; clear e2
            have E3 := Lib.hid e3; clear e3
            have E4 := Lib.hid e4; clear e4
            have E5 := Lib.hid e5; clear e5
            have E6 := Lib.hid e6; clear e6
            have E7 := Lib.hid e7; clear e7
            have E8 := Lib.hid e8; clear e8
            have Hv := Lib.hid hv; clear hv
            have Hrr := Lib.hid hrr; clear hrr
            have Hchg := Lib.hid hchg; clear hchg
            have HrowA := Lib.hid hrowA; clear hrowA
            have HbA := Lib.hid hbA; clear hbA
            have Hmb := Lib.hid hmb; clear hmb
            go_wp2_with (at_builtin; refine wpList_pushRing wr rfl _ _ rfl w.heap.size wr.heap.size a l c _ rfl hrowB (maskBits K q) d0 d1 d2 d3 d4 d5 d6 d7 (K + 1) hr' rfl (by omega) (by omega) ?_)
            intro ao2 cap2 w5 ho5 hb5 hs5
            rw [← Hstep.out] at ho5
            go_wp2_with fail
            go_roundw
            case rel => exact ⟨q, _, _, _, by omega, rfl, rfl, ho5, hbB.trans hb5⟩
            case measure => simp [intOf]
      · rw [if_neg hp, List.append_nil] at hstep
        have hpe : (((popN 8 q : Nat) : Int) != (o : Int)) = true := by simp; omega
        have Hstep := Lib.hid hstep; clear hstep
        have Hpop := Lib.hid hpop; clear hpop
        have Hp := Lib.hid hp; clear hp
        have E1 := Lib.hid e1; clear e1
        go_wp2_with fail
        with_reducible refine (Hpop.out _).mono ?_
        rintro e w' ⟨rfl, rfl⟩
        go_wp2_with fail
        go_roundw
        case rel => exact ⟨q, a, l, c, by omega, rfl, rfl, by rw [Hstep.out]; exact hrow, hb⟩
        case measure => simp [intOf]
end Go.Proofs.Ythppkfhhidlpiaa
