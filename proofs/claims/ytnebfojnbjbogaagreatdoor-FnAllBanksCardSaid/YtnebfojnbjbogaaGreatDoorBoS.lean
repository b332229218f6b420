/- BankOrbit and IsCyclicBank by the specification. No condition. -/
import Derived.Test.YtnebfojnbjbogaaGreatDoorBoP
import Derived.Test.YtnebfojnbjbogaaGreatDoorGf
import Derived.Test.YtnebfojnbjbogaaGreatDoorGe
namespace Go.Proofs.YtnebfojnbjbogaaGreatDoor
open Go.RowKit
set_option linter.unusedVariables false
set_option linter.unusedSimpArgs false
set_option maxRecDepth 20000

set_option maxHeartbeats 3200000 in
set_option maxRecDepth 100000 in
theorem baOrbit_any (h l : Int) (ao : Option Addr) (n cap : Nat) (xs : List Int) (w : World) (hA : IntsAt w ao n cap xs) (hk : BankOk ⟨h, l, xs⟩) :
    Calls Tryz.prog 20 #[.agg #[.int .i64 h, .int .i64 l, .slice ao n cap]] w fun e w' => e = .returned (.tuple #[.int .i64 (mOrb ⟨h, l, xs⟩).1, .int .i64 (mOrb ⟨h, l, xs⟩).2.1, .bool (mOrb ⟨h, l, xs⟩).2.2]) ∧ Below w.heap.size w w' := by
  have hok := fun K => steps_okB hk K
  have hst := orb_start ⟨h, l, xs⟩
  have hnx := stepsB_next ⟨h, l, xs⟩
  have hsg := fun K i (q : i < K) => seenL_getD ⟨h, l, xs⟩ q
  have hss := seenL_succ ⟨h, l, xs⟩
  have hgo := fun K => orb_go (b := ⟨h, l, xs⟩) (K := K)
  have hhit := fun K i => orb_hit (b := ⟨h, l, xs⟩) (K := K) (i := i)
  have hend := fun K => orb_end ⟨h, l, xs⟩ (K := K)
  have hb0 := belowAlloc w (.cells #[.int .i64 h, .int .i64 l, .slice ao n cap] 32)
  have hone := SeenAt.one w (w.alloc (.cells #[.int .i64 h, .int .i64 l, .slice ao n cap] 32)) h l ao n cap xs hA
  have hb1 := belowTrans hb0 (belowAlloc (w.alloc (.cells #[.int .i64 h, .int .i64 l, .slice ao n cap] 32)) (.cells #[.int .i64 h, .int .i64 l, .slice ao n cap] 32)) (Nat.le_refl _)
  rw [show (w.alloc (.cells #[.int .i64 h, .int .i64 l, .slice ao n cap] 32)).heap.size = w.heap.size + 1 by simp] at hone
  rw [show ([⟨h, l, xs⟩] : List Bk) = seenL ⟨h, l, xs⟩ 1 from rfl] at hone
  generalize hB : (⟨h, l, xs⟩ : Bk) = B at *
  generalize hM : mOrb B = M at *
  have hsz1 : ((w.alloc (.cells #[.int .i64 h, .int .i64 l, .slice ao n cap] 32)).alloc (.cells #[.int .i64 h, .int .i64 l, .slice ao n cap] 32)).heap.size = w.heap.size + 2 := by simp
  have hone2 := hone.mono (E' := ((w.alloc (.cells #[.int .i64 h, .int .i64 l, .slice ao n cap] 32)).alloc (.cells #[.int .i64 h, .int .i64 l, .slice ao n cap] 32)).heap.size) (by rw [hsz1]; exact Nat.le_refl _)
  clear hone hb0 hA hk
  have Hok := Lib.hid hok; clear hok
  have Hst := Lib.hid hst; clear hst
  have Hnx := Lib.hid hnx; clear hnx
  have Hsg := Lib.hid hsg; clear hsg
  have Hss := Lib.hid hss; clear hss
  have Hgo := Lib.hid hgo; clear hgo
  have Hhit := Lib.hid hhit; clear hhit
  have Hend := Lib.hid hend; clear hend
  have Hone2 := Lib.hid hone2; clear hone2
  have Hb1 := Lib.hid hb1; clear hb1
  have HB := Lib.hid hB; clear hB
  have HM := Lib.hid hM; clear hM
  have Hsz1 := Lib.hid hsz1; clear hsz1
  go_enter Tryz.func20, Tryz.ntmps20
  go_wp2_with fail
  go_loopw [5] (fun v wr => ∃ (J : Nat) (a : Option Addr) (c : Nat), v = .slice a (J + 1) c ∧ J ≤ 1000 ∧ Hid (M = orbF B (1001 - (J + 1)) (J + 1)) ∧ Hid (SeenAt w (w.heap.size + 1) wr.heap.size wr a (J + 1) c (seenL B (J + 1))) ∧ Hid (Below w.heap.size w wr) ∧ w.heap.size + 1 ≤ wr.heap.size) (fun v _ => 1001 - (match v with | .slice _ n _ => n | _ => 0))
  case atStart => exact ⟨0, _, _, rfl, by omega, Hst, Hone2, Hb1, by rw [Hsz1.out]; omega⟩
  case round =>
    obtain ⟨J, a, c, rfl, hJ, Horb, Hs, Hb, hsw⟩ := hrel
    clear Hone2 Hb1 Hst
    by_cases hlt : J + 1 ≤ 1000
    · have hlti : (J : Int) + 1 ≤ 1000 := by omega
      obtain ⟨b, a1, m1, c1, rfl, hbl, ⟨x0, x1, x2⟩, hI⟩ := Hs.out.cell Hb.out J (by omega)
      rw [Hsg.out (J + 1) J (by omega)] at x0 x1 hI
      have hokJ := Hok.out J
      have hnJ := Hnx.out J
      generalize hX : stepsB J B = X at *
      obtain ⟨h1, l1, p1⟩ := X
      simp only at x0 x1 x2 hI
      have hcon := baStep_any h1 l1 a1 m1 c1 p1 wr hI hokJ
      rw [← hnJ] at hcon
      generalize hY : stepsB (J + 1) B = Y at *
      obtain ⟨h2, l2, p2⟩ := Y
      simp only at hcon
      have hsz := Hb.out.size
      have Hcon := Lib.hid hcon; clear hcon
      have HX := Lib.hid hX; clear hX
      have HY := Lib.hid hY; clear hY
      have HnJ := Lib.hid hnJ; clear hnJ
      have HokJ := Lib.hid hokJ; clear hokJ
      have HI := Lib.hid hI; clear hI
      go_wp2_with fail
      with_reducible refine (Hcon.out).mono ?_
      rintro e w1 ⟨a2, m2, c2, rfl, ho2, hb2⟩
      clear x0 x1 x2
      have hs1 : wr.heap.size ≤ w1.heap.size := hb2.size
      have hsA := Hs.out.keep hb2
      have hbA := belowTrans Hb.out hb2 (Nat.le_refl _)
      have hba := belowAlloc w1 (.cells #[.int .i64 h2, .int .i64 l2, .slice a2 m2 c2] 32)
      have kb := Blk.new w1 h2 l2 a2 m2 c2 32
      have hs3 := hsA.keep hba
      have hb3 := belowTrans hbA hba (Nat.le_refl _)
      have ho3 := (ho2.keep hba).mono (show w.heap.size + 1 ≤ wr.heap.size from hsw) (Nat.le_refl _)
      have hsz3 : (w1.alloc (.cells #[.int .i64 h2, .int .i64 l2, .slice a2 m2 c2] 32)).heap.size = w1.heap.size + 1 := by simp
      obtain ⟨wo, hwo⟩ : ∃ wo : World, wo = wr := ⟨_, rfl⟩
      subst hwo
      clear hsA hbA hba hb2 ho2 Hs
      have Kb := Lib.hid kb; clear kb
      have Hs3 := Lib.hid hs3; clear hs3
      have Hb3 := Lib.hid hb3; clear hb3
      have Ho3 := Lib.hid ho3; clear ho3
      have Hsz3 := Lib.hid hsz3; clear hsz3
      go_wp2_with fail
      go_loopw [27] (fun i wq => ∃ j : Nat, j ≤ J + 1 ∧ i = .int .i64 j ∧ Hid (∀ t, t < j → stepsB t B ≠ stepsB (J + 1) B) ∧ Hid (SeenAt w (w.heap.size + 1) wo.heap.size wq (some ⟨b, 0, none⟩) (J + 1) c (seenL B (J + 1))) ∧ Hid (Below w.heap.size w wq) ∧ Hid (Blk wq w1.heap.size h2 l2 a2 m2 c2 32) ∧ Hid (Own (w.heap.size + 1) w1.heap.size wq a2 m2 c2 p2) ∧ w1.heap.size + 1 ≤ wq.heap.size) (fun i _ => J + 1 - (intOf i).toNat)
      case atStart => exact ⟨0, Nat.zero_le _, rfl, Lib.hid (fun t ht => absurd ht (Nat.not_lt_zero _)), Hs3, Hb3, Kb, Ho3, by rw [Hsz3.out]; exact Nat.le_refl _⟩
      case round =>
        obtain ⟨j, hj, rfl, Hne, Hsq, Hbq, Kq, Hoq, hsq⟩ := hrel
        clear Hs3 Hb3 Kb Ho3 Hsz3 Hb Hcon HI
        by_cases hlt2 : j < J + 1
        · have hlti2 : (j : Int) < (J : Int) + 1 := by omega
          obtain ⟨b', a3, m3, c3, hbe, hbl3, ⟨x0, x1, x2⟩, hI3⟩ := Hsq.out.cell Hbq.out j hlt2
          simp only [Option.some.injEq, Addr.mk.injEq, and_true] at hbe
          subst hbe
          rw [Hsg.out (J + 1) j hlt2] at x0 x1 hI3
          generalize hZ : stepsB j B = Z at *
          obtain ⟨h3, l3, p3⟩ := Z
          simp only at x0 x1 x2 hI3
          have hba := belowAlloc wr (.cells #[.int .i64 h3, .int .i64 l3, .slice a3 m3 c3] 32)
          have hs4 := Hsq.out.keep hba
          have hb4 := belowTrans Hbq.out hba (Nat.le_refl _)
          have k4 := Kq.out.keep hba
          have ho4 := Hoq.out.keep hba
          have hI4 := hI3.keep hba
          have hsm := baSame_any h3 l3 h2 l2 a3 a2 m3 m2 c3 c2 p3 p2 _ hI4 ho4.at
          obtain ⟨⟨z0, z1, z2⟩, q0, q1, q2⟩ := k4.cells
          have hsz4 : (wr.alloc (.cells #[.int .i64 h3, .int .i64 l3, .slice a3 m3 c3] 32)).heap.size = wr.heap.size + 1 := by simp
          have hn1 : ¬ w1.heap.size = wr.heap.size := by omega
          have hn2 : ¬ wr.heap.size = w1.heap.size := by omega
          clear hba
          by_cases hq : (⟨h3, l3, p3⟩ : Bk) = ⟨h2, l2, p2⟩
          · rw [decide_eq_true hq] at hsm
            have hM2 := Hhit.out (J + 1) j hlt hlt2 (by rw [hZ, HY.out]; exact hq) Hne.out
            rw [← Horb.out] at hM2
            have HM2 := Lib.hid hM2; clear hM2
            have Hsm := Lib.hid hsm; clear hsm
            have Hq := Lib.hid hq; clear hq
            have HZ := Lib.hid hZ; clear hZ
            have Hs4 := Lib.hid hs4; clear hs4
            have Hb4 := Lib.hid hb4; clear hb4
            have K4 := Lib.hid k4; clear k4
            have Ho4 := Lib.hid ho4; clear ho4
            have HI4 := Lib.hid hI4; clear hI4
            have HI3 := Lib.hid hI3; clear hI3
            have Hsz4 := Lib.hid hsz4; clear hsz4
            go_wp2_with fail
            with_reducible refine (Hsm.out).mono ?_
            rintro e w5 ⟨rfl, hb5⟩
            have hbb := belowTrans Hb4.out hb5 (Nat.le_refl _)
            clear x0 x1 x2 z0 z1 z2 q0 q1 q2
            have Hbb := Lib.hid hbb; clear hbb
            go_wp2
            go_ret3
            rw [HM2.out]
            exact ⟨by simp, Hbb.out⟩
          · rw [decide_eq_false hq] at hsm
            have Hsm := Lib.hid hsm; clear hsm
            have Hq := Lib.hid hq; clear hq
            have HZ := Lib.hid hZ; clear hZ
            have Hs4 := Lib.hid hs4; clear hs4
            have Hb4 := Lib.hid hb4; clear hb4
            have K4 := Lib.hid k4; clear k4
            have Ho4 := Lib.hid ho4; clear ho4
            have HI4 := Lib.hid hI4; clear hI4
            have HI3 := Lib.hid hI3; clear hI3
            have Hsz4 := Lib.hid hsz4; clear hsz4
            go_wp2_with fail
            with_reducible refine (Hsm.out).mono ?_
            rintro e w5 ⟨rfl, hb5⟩
            have hs5 : wr.heap.size + 1 ≤ w5.heap.size := by have := hb5.size; rw [Hsz4.out] at this; exact this
            have hsn := Hs4.out.keep hb5
            have hbn := belowTrans Hb4.out hb5 (Nat.le_refl _)
            have kn := K4.out.keep hb5
            have hon := Ho4.out.keep hb5
            have hnn : ∀ t, t < j + 1 → stepsB t B ≠ stepsB (J + 1) B := fun t ht e => by
              by_cases htj : t < j
              · exact Hne.out t htj e
              · obtain rfl : t = j := by omega
                rw [HZ.out, HY.out] at e
                exact Hq.out e
            clear x0 x1 x2 z0 z1 z2 q0 q1 q2 hb5
            have Hsn := Lib.hid hsn; clear hsn
            have Hbn := Lib.hid hbn; clear hbn
            have Kn := Lib.hid kn; clear kn
            have Hon := Lib.hid hon; clear hon
            have Hnn := Lib.hid hnn; clear hnn
            go_wp2
            go_roundw
            case rel => exact ⟨j + 1, by omega, by go_num, Hnn, Hsn, Hbn, Kn, Hon, by omega⟩
            case measure => simp [intOf] <;> omega
        · obtain rfl : j = J + 1 := by omega
          have hM2 := Hgo.out (J + 1) hlt Hne.out
          rw [← Horb.out] at hM2
          have hs6 := (Hsq.out.mono (E' := w1.heap.size) hs1)
          have hss2 := Hss.out (J + 1)
          rw [HY.out] at hss2
          obtain ⟨⟨z0, z1, z2⟩, q0, q1, q2⟩ := Kq.out.cells
          have hJ8 : J ≤ 1048576 := by omega
          have HM2 := Lib.hid hM2; clear hM2
          have Hss2 := Lib.hid hss2; clear hss2
          have Hlti := Lib.hid hlti; clear hlti
          go_wp2_with (at_builtin; refine wpList_pushS wr rfl _ _ rfl w (w.heap.size + 1) w1.heap.size (some ⟨b, 0, none⟩) (J + 1) c (seenL B (J + 1)) rfl hs6 h2 l2 a2 m2 c2 p2 Hoq.out (by omega) (by omega) rfl (by omega) ?_)
          intro a7 c7 w7 ho7 hc7
          have hb7 := Hbq.out.trans ((hs6.chgBelow hc7 (by omega)).mono (by omega))
          have hs7 : wr.heap.size ≤ w7.heap.size := by have := hc7.size; omega
          have ho8 : SeenAt w (w.heap.size + 1) w7.heap.size w7 a7 (J + 1 + 1) c7 (seenL B (J + 1 + 1)) := by rw [Hss2.out]; exact ho7
          clear hs6 ho7 hc7 z0 z1 z2 q0 q1 q2
          have Hb7 := Lib.hid hb7; clear hb7
          have Ho8 := Lib.hid ho8; clear ho8
          go_wp2
          go_roundw
          case rel => exact ⟨J + 1, a7, c7, by go_num, hlt, HM2, Ho8, Hb7, by omega⟩
          case measure => simp only []; omega
    · have hd : ¬ (J : Int) + 1 ≤ 1000 := by omega
      have hM2 := Hend.out (J + 1) (by omega)
      rw [← Horb.out] at hM2
      have HM2 := Lib.hid hM2; clear hM2
      go_wp2
      go_ret3
      rw [HM2.out]
      exact ⟨rfl, Hb.out⟩
end Go.Proofs.YtnebfojnbjbogaaGreatDoor
