/- BankPasts by the specification. No condition. -/
import Derived.Test.YtjaodhjiibdbdaaGreatDoorGf
import Derived.Test.YtjaodhjiibdbdaaGreatDoorGi
import Derived.Test.YtjaodhjiibdbdaaGreatDoorGe
namespace Go.Proofs.YtjaodhjiibdbdaaGreatDoor
open Go.RowKit
set_option linter.unusedVariables false
set_option linter.unusedSimpArgs false
set_option maxRecDepth 20000

theorem cutP {P Q : Prop} (f : P → Q) (p : P) : Q := f p
def pastP (b a : Bk) : Bool := decide (stepB a = b)
def filtB (b : Bk) (bs : List Bk) (j : Nat) : List Bk := (bs.take j).filter (pastP b)
theorem filtB_zero (b : Bk) (bs : List Bk) : filtB b bs 0 = [] := rfl
theorem take_rowB {bs : List Bk} {j : Nat} {a : Bk} (hj : j < bs.length) (hy : bs.getD j noBank = a) : bs.take (j + 1) = bs.take j ++ [a] := by
  rw [List.take_add_one, List.getElem?_eq_getElem hj]
  rw [List.getD_eq_getElem?_getD, List.getElem?_eq_getElem hj] at hy
  simp at hy
  simp [hy]
theorem filtB_yes {b a : Bk} {bs : List Bk} {j : Nat} (hj : j < bs.length) (hy : bs.getD j noBank = a) (h : stepB a = b) : filtB b bs (j + 1) = filtB b bs j ++ [a] := by
  unfold filtB
  rw [take_rowB hj hy, List.filter_append, List.filter_cons_of_pos (by exact decide_eq_true h)]
  rfl
theorem filtB_no {b a : Bk} {bs : List Bk} {j : Nat} (hj : j < bs.length) (hy : bs.getD j noBank = a) (h : ¬ stepB a = b) : filtB b bs (j + 1) = filtB b bs j := by
  unfold filtB
  rw [take_rowB hj hy, List.filter_append, List.filter_cons_of_neg (by show ¬ (decide (stepB a = b) = true); simpa using h)]
  simp
theorem filtB_all (b : Bk) (bs : List Bk) : filtB b bs bs.length = bs.filter (fun a => decide (stepB a = b)) := by
  unfold filtB; rw [List.take_length]; rfl

set_option maxHeartbeats 3200000 in
set_option maxRecDepth 100000 in
theorem spec_BankPasts (h l : Int) (ao : Option Addr) (n cap : Nat) (xs : List Int) (w : World) (hA : IntsAt w ao n cap xs) :
    Calls Tryz.prog 23 #[.agg #[.int .i64 h, .int .i64 l, .slice ao n cap]] w fun e w' => ∃ a m c, e = .returned (.tuple #[.slice a m c, .bool (mBankPasts ⟨h, l, xs⟩).2]) ∧ BksOwn w.heap.size w'.heap.size w' a m c (mBankPasts ⟨h, l, xs⟩).1 ∧ Below w.heap.size w w' := by
  have hb0 := belowAlloc w (.cells #[.int .i64 h, .int .i64 l, .slice ao n cap] 40)
  have hA0 := hA.keep hb0
  have k0 := Blk.new w h l ao n cap 40
  have hcon := baGood_any h l ao n cap xs ((w.alloc (.cells #[.int .i64 h, .int .i64 l, .slice ao n cap] 40)).drew) hA0.drewB
  unfold bankV at hcon
  obtain ⟨W, hW⟩ : ∃ W, W = w.alloc (.cells #[.int .i64 h, .int .i64 l, .slice ao n cap] 40) := ⟨_, rfl⟩
  rw [← hW] at hb0 hA0 k0 hcon
  have hsW : W.heap.size = w.heap.size + 1 := by rw [hW]; simp
  by_cases hk : BankOk ⟨h, l, xs⟩
  · rw [bank_iff.2 hk] at hcon
    have hG : Good xs := hk.2.2.1
    have h1 : 1 ≤ h ∧ h ≤ 10 := hk.1
    have h2 : 0 ≤ l ∧ l ≤ h - 1 := hk.2.1
    have hsum : 0 ≤ xs.sum ∧ xs.sum ≤ 28 ∧ (xs.length : Int) ≤ xs.sum := hk.sum
    have hps := fun U (q : IntsAt U ao n cap xs) => piSum_any ao n cap xs U q hG
    by_cases h14 : l + xs.sum ≤ 14
    · obtain ⟨H, rfl⟩ := Int.eq_ofNat_of_zero_le (show 0 ≤ h by omega)
      obtain ⟨L, rfl⟩ := Int.eq_ofNat_of_zero_le h2.1
      obtain ⟨N, hN⟩ := Int.eq_ofNat_of_zero_le (show 0 ≤ (L : Int) + xs.sum by omega)
      have hm := mBankPasts_yes hk hN (by omega)
      have hall := fun U => baAll_any H N U (by omega) (by omega)
      rw [← hN] at hall
      have hbl := baL_length (H := H) (N := N) (by omega) (by omega) (min H (N + 1))
      have hok : ∀ b ∈ baL H N (min H (N + 1)), BankOk b := fun b hb => baL_ok (by omega) (by omega) hb
      have hbn : 3718 * min H (N + 1) ≤ 37180 := by omega
      generalize baL H N (min H (N + 1)) = bs at *
      generalize xs.sum = S at *
      obtain ⟨⟨x0, x1, x2⟩, y0, y1, y2⟩ := k0.cells
      have hwrap : IntKind.i64.wrap ((L : Int) + S) = (L : Int) + S := IntWalk.i64_in _ (by omega)
      have hd14 : decide (14 < (L : Int) + S) = false := decide_eq_false (by omega)
      have Hcon := Lib.hid hcon; clear hcon
      have Hps := Lib.hid hps; clear hps
      have Hm := Lib.hid hm; clear hm
      have Hall := Lib.hid hall; clear hall
      have Hbl := Lib.hid hbl; clear hbl
      have Hok := Lib.hid hok; clear hok
      have HN := Lib.hid hN; clear hN
      have HW := Lib.hid hW; clear hW
      have Hb0 := Lib.hid hb0; clear hb0
      have HA0 := Lib.hid hA0; clear hA0
      have K0 := Lib.hid k0; clear k0
      have HsW := Lib.hid hsW; clear hsW
      have Hk := Lib.hid hk; clear hk
      have HG := Lib.hid hG; clear hG
      have Hsum := Lib.hid hsum; clear hsum
      go_enter Tryz.func23, Tryz.ntmps23
      go_wp2_with fail
      rw [← HW.out]
      refine' cutP (fun key => ?main) ?pf
      case main =>
        go_region_law (first | (go_simp; with_reducible refine (Hcon.out).mono ?_; rintro e w1 ⟨rfl, hb1⟩; have k1 := (K0.out.drew).keep hb1; have hI1 := HA0.out.drewB.keep hb1; have Hb1 := Lib.hid (belowTrans Hb0.out.drew hb1 (Nat.le_refl _)); obtain ⟨⟨u0, u1, u2⟩, v0, v1, v2⟩ := k1.cells; have HI1 := Lib.hid hI1; have K1 := Lib.hid k1; clear hb1 hI1 k1) | (go_simp; with_reducible refine (Hps.out w1 HI1.out).mono ?_; rintro e w2 ⟨rfl, rfl⟩))
        all_goals
          revert w1
          exact key
      case pf =>
        intro w1 Hb1 u0 u1 u2 v0 v1 v2 HI1 K1
        clear x0 x1 x2 y0 y1 y2
        have hI2 := HI1.out.drewB
        have hall1 := Hall.out w1.drew
        have Hall1 := Lib.hid hall1; clear hall1
        have HI2 := Lib.hid hI2; clear hI2
        go_wp2_with fail
        refine' cutP (fun key => ?main) ?pf
        case main =>
          go_region_law (first | (go_simp; with_reducible refine (Hps.out w1.drew HI2.out).mono ?_; rintro e w2 ⟨rfl, rfl⟩) | (go_simp; with_reducible refine (Hall1.out).mono ?_; rintro e w3 ⟨a1, n1, c1, rfl, ho3, hb3⟩; have K3 := Lib.hid ((K1.out.drew).keep hb3); have HI3 := Lib.hid ((HI1.out.drewB).keep hb3); have Hb3 := Lib.hid (belowTrans Hb1.out.drew hb3 (Nat.le_refl _)); have Ho3 := Lib.hid ho3; have hs3 := hb3.size; have hsw1 := Hb1.out.size; clear ho3 hb3))
          all_goals
            revert a1 n1 c1
            revert w3
            exact key
        case pf =>
          intro w3 K3 HI3 Hb3 hs3 a1 n1 c1 Ho3
          have hsw1 := Hb1.out.size
          clear u0 u1 u2 v0 v1 v2
          have hl1 := Ho3.out.length
          have hn8 : n1 ≤ 37180 := by have := Hbl.out; omega
          obtain ⟨vs, hvs⟩ := Ho3.out.named
          have hsz1 : w.heap.size ≤ w1.heap.size := hsw1
          have hszb : w.heap.size < w1.heap.size := K1.out.size
          have hsz2 : w1.heap.size ≤ w3.heap.size := hs3
          have hvs' : BksN w1.heap.size w3.heap.size w3 a1 n1 c1 vs bs := hvs
          have hst : BksR w3.heap.size w1.heap.size w3.heap.size w3 none 0 0 (filtB ⟨(H : Int), (L : Int), xs⟩ bs 0) (insB n1 vs) 0 n1 := BksR.nil _ _ _ _ _ _
          clear hvs hs3 hsw1
          have Hl1 := Lib.hid hl1; clear hl1
          have Hvs' := Lib.hid hvs'; clear hvs'
          have Hst := Lib.hid hst; clear hst
          clear Ho3
          obtain ⟨wo, hwo⟩ : ∃ wo : World, wo = w3 := ⟨_, rfl⟩
          subst hwo
          go_simp
          go_wp2_with fail
          go_loopw [4, 31] (fun v i wr => ∃ (j : Nat) (a : Option Addr) (q c : Nat), j ≤ n1 ∧ i = .int .i64 j ∧ v = .slice a q c ∧ q ≤ j ∧ Hid (BksR wo.heap.size w1.heap.size wr.heap.size wr a q c (filtB ⟨(H : Int), (L : Int), xs⟩ bs j) (insB n1 vs) j n1) ∧ Hid (Below w.heap.size w wr) ∧ Hid (BksN w1.heap.size wo.heap.size wr a1 n1 c1 vs bs) ∧ wo.heap.size ≤ wr.heap.size ∧ Hid (Blk wr w.heap.size (H : Int) (L : Int) ao n cap 40) ∧ Hid (IntsAt wr ao n cap xs)) (fun _ i _ => n1 - (intOf i).toNat)
          case atStart => exact ⟨0, none, 0, 0, Nat.zero_le _, rfl, rfl, Nat.le_refl _, Hst, Hb3, Hvs', Nat.le_refl _, K3, HI3⟩
          case round =>
            obtain ⟨j, a, q, c, hj, rfl, rfl, hq, Hr, Hbr, Hv, hsr, Kr, HIr⟩ := hrel
            clear Hst Hb3 Hvs' K3 HI3
            have hwr := Hbr.out.size
            have hq8 : q ≤ 37180 := by omega
            by_cases hlt : j < n1
            · have hjb : j < bs.length := by have := Hl1.out; omega
              obtain ⟨b, a3, m3, c3, rfl, hb3, ⟨z0, z1, z2⟩, hus, hi⟩ := Hv.out.cell j hlt
              have hbk := Hok.out (bs.getD j noBank) (by rw [List.getD_eq_getElem?_getD, List.getElem?_eq_getElem hjb]; exact List.getElem_mem _)
              have hyes := fun (e : stepB (bs.getD j noBank) = ⟨(H : Int), (L : Int), xs⟩) => filtB_yes hjb rfl e
              have hno := fun (e : ¬ stepB (bs.getD j noBank) = ⟨(H : Int), (L : Int), xs⟩) => filtB_no hjb rfl e
              generalize bs.getD j noBank = A at *
              obtain ⟨h3, l3, p3⟩ := A
              simp only at z0 z1 z2 hi
              have hba := belowAlloc wr (.cells #[.int .i64 h3, .int .i64 l3, .slice a3 m3 c3] 40)
              have kb := Blk.new wr h3 l3 a3 m3 c3 40
              obtain ⟨X, hX⟩ : ∃ X, X = wr.alloc (.cells #[.int .i64 h3, .int .i64 l3, .slice a3 m3 c3] 40) := ⟨_, rfl⟩
              rw [← hX] at hba kb
              have hsX : X.heap.size = wr.heap.size + 1 := by rw [hX]; simp
              have hi1 := hi.keep hba
              have hst := baStep_any h3 l3 a3 m3 c3 p3 X hi1.at hbk
              have hr1 := Hr.out.keep hba
              have hv1 := Hv.out.keep hba
              have kr1 := Kr.out.keep hba
              have hI1 := HIr.out.keep hba
              have hb1 := belowTrans Hbr.out hba (Nat.le_refl _)
              obtain ⟨⟨x0, x1, x2⟩, y0, y1, y2⟩ := kb.cells
              generalize hnx : stepB ⟨h3, l3, p3⟩ = nx at *
              obtain ⟨h5, l5, p5⟩ := nx
              clear Hr Hv Kr HIr Hbr hi
              have Hjb := Lib.hid hjb; clear hjb
              have Hus := Lib.hid hus; clear hus
              have Hyes := Lib.hid hyes; clear hyes
              have Hno := Lib.hid hno; clear hno
              have Hba := Lib.hid hba; clear hba
              have Kb := Lib.hid kb; clear kb
              have HX := Lib.hid hX; clear hX
              have HsX := Lib.hid hsX; clear hsX
              have Hi1 := Lib.hid hi1; clear hi1
              have Hst := Lib.hid hst; clear hst
              have Hr1 := Lib.hid hr1; clear hr1
              have Hv1 := Lib.hid hv1; clear hv1
              have Kr1 := Lib.hid kr1; clear kr1
              have HI1 := Lib.hid hI1; clear hI1
              have Hb1 := Lib.hid hb1; clear hb1
              have Hnx := Lib.hid hnx; clear hnx
              have Hbk := Lib.hid hbk; clear hbk
              go_wp2_with fail
              rw [← HX.out]
              with_reducible refine (Hst.out).mono ?_
              rintro e w5 ⟨a5, m5, c5, rfl, ho5, hb5⟩
              clear x0 x1 x2 y0 y1 y2 z0 z1 z2
              have hs5 : wr.heap.size + 1 ≤ w5.heap.size := by have := hb5.size; rw [HsX.out] at this; exact this
              have hr5 := Hr1.out.keep hb5
              have hv5 := Hv1.out.keep hb5
              have kr5 := Kr1.out.keep hb5
              have kb5 := Kb.out.keep hb5
              have hI5 := HI1.out.keep hb5
              have hi5 := Hi1.out.keep hb5
              have hb6 := belowTrans Hb1.out hb5 (Nat.le_refl _)
              have hbc := belowAlloc w5 (.cells #[.int .i64 h5, .int .i64 l5, .slice a5 m5 c5] 40)
              have kc := Blk.new w5 h5 l5 a5 m5 c5 40
              obtain ⟨Y, hY⟩ : ∃ Y, Y = w5.alloc (.cells #[.int .i64 h5, .int .i64 l5, .slice a5 m5 c5] 40) := ⟨_, rfl⟩
              rw [← hY] at hbc kc
              have hsY : Y.heap.size = w5.heap.size + 1 := by rw [hY]; simp
              have hr7 := hr5.keep hbc
              have hv7 := hv5.keep hbc
              have kr7 := kr5.keep hbc
              have kb7 := kb5.keep hbc
              have hI7 := hI5.keep hbc
              have hi7 := hi5.keep hbc
              have hb7 := belowTrans hb6 hbc (Nat.le_refl _)
              have ho7 := ho5.keep hbc
              have kr7a : Blk (w5.alloc (.cells #[.int .i64 h5, .int .i64 l5, .slice a5 m5 c5] 40)) w.heap.size (H : Int) (L : Int) ao n cap 40 := by rw [← hY]; exact kr7
              have kca : Blk (w5.alloc (.cells #[.int .i64 h5, .int .i64 l5, .slice a5 m5 c5] 40)) w5.heap.size h5 l5 a5 m5 c5 40 := by rw [← hY]; exact kc
              have hsm := baSame_any h5 l5 (H : Int) (L : Int) a5 ao m5 n c5 cap p5 xs Y ho7.at hI7
              clear hr5 hv5 kr5 kb5 hI5 hi5 hb6 ho5 Hr1 Hv1 Kr1 Kb HI1 Hi1 Hb1 Hba hb5 hbc
              obtain ⟨⟨x0, x1, x2⟩, y0, y1, y2⟩ := kca.cells
              obtain ⟨⟨z0, z1, z2⟩, q0, q1, q2⟩ := kr7a.cells
              have hn1 : ¬ w.heap.size = w5.heap.size := by omega
              have hn2 : ¬ w5.heap.size = w.heap.size := by omega
              clear kr7a kca
              by_cases hq : (⟨h5, l5, p5⟩ : Bk) = ⟨(H : Int), (L : Int), xs⟩
              · rw [decide_eq_true hq] at hsm
                have hk := Hyes.out hq
                have Hq := Lib.hid hq; clear hq
                have Hk := Lib.hid hk; clear hk
                have Hsm := Lib.hid hsm; clear hsm
                have HY := Lib.hid hY; clear hY
                have HsY := Lib.hid hsY; clear hsY
                have Hr7 := Lib.hid hr7; clear hr7
                have Hv7 := Lib.hid hv7; clear hv7
                have Kr7 := Lib.hid kr7; clear kr7
                have Kb7 := Lib.hid kb7; clear kb7
                have HI7 := Lib.hid hI7; clear hI7
                have Hi7 := Lib.hid hi7; clear hi7
                have Hb7 := Lib.hid hb7; clear hb7
                have Ho7 := Lib.hid ho7; clear ho7
                have Kc := Lib.hid kc; clear kc
                go_wp2_with fail
                rw [← HY.out]
                with_reducible refine (Hsm.out).mono ?_
                rintro e w9 ⟨rfl, hb9⟩
                clear x0 x1 x2 y0 y1 y2 z0 z1 z2 q0 q1 q2
                have hs9 : w5.heap.size + 1 ≤ w9.heap.size := by have := hb9.size; rw [HsY.out] at this; exact this
                have hr9 := Hr7.out.keep hb9
                have hv9 := Hv7.out.keep hb9
                have kr9 := Kr7.out.keep hb9
                have kb9 := Kb7.out.keep hb9
                have hI9 := HI7.out.keep hb9
                have hi9 := Hi7.out.keep hb9
                have hbb9 := belowTrans Hb7.out hb9 (Nat.le_refl _)
                obtain ⟨⟨x0, x1, x2⟩, y0, y1, y2⟩ := kb9.cells
                have hap := hv9.apart
                clear Hr7 Hv7 Kr7 Kb7 HI7 Hi7 Hb7
                have Kr9 := Lib.hid kr9; clear kr9
                have HI9 := Lib.hid hI9; clear hI9
                have Hbb9 := Lib.hid hbb9; clear hbb9
                have Hv9 := Lib.hid hv9; clear hv9
                have Hb9 := Lib.hid hb9; clear hb9
                have Kb9 := Lib.hid kb9; clear kb9
                go_wp2_with (at_builtin; refine wpList_pushBR w9 rfl _ _ rfl wo.heap.size w1.heap.size w1.heap.size wr.heap.size wo.heap.size a q c _ (insB n1 vs) n1 j rfl hr9 hap hlt h3 l3 a3 m3 c3 p3 Hus.out hi9 (Nat.le_refl _) hsr (by omega) hsr rfl (by omega) ?_)
                intro a6 c6 w6 ho6 hc6
                have hout := hr9.outer
                have hbo := hr9.chgBelow hc6 (by omega)
                have hbb6 : Below w.heap.size w w6 := Hbb9.out.trans (hbo.mono (by omega))
                have hv6 := Hv9.out.off hc6 (fun g hg => (hout g hg).1)
                have kr6 : Blk w6 w.heap.size (H : Int) (L : Int) ao n cap 40 := by
                  unfold Blk
                  rw [hc6.block _ Kr9.out.size (fun e => by have := (hout _ e).1; omega)]
                  exact Kr9.out
                have hI6 : IntsAt w6 ao n cap xs := hA.keep hbb6
                have hs6 : wo.heap.size ≤ w6.heap.size := by have := hc6.size; omega
                clear hr9 hap hi9 hc6 hout hbo x0 x1 x2 y0 y1 y2
                have Ho6 := Lib.hid ho6; clear ho6
                have Hbb6 := Lib.hid hbb6; clear hbb6
                have Hv6 := Lib.hid hv6; clear hv6
                have Kr6 := Lib.hid kr6; clear kr6
                have HI6 := Lib.hid hI6; clear hI6
                go_wp2
                go_roundw
                case rel => exact ⟨j + 1, a6, q + 1, c6, by omega, by go_num, rfl, by omega, Lib.hid (by rw [Hk.out]; exact Ho6.out), Hbb6, Hv6, hs6, Kr6, HI6⟩
                case measure => simp [intOf] <;> omega
              · rw [decide_eq_false hq] at hsm
                have hk := Hno.out hq
                have Hq := Lib.hid hq; clear hq
                have Hk := Lib.hid hk; clear hk
                have Hsm := Lib.hid hsm; clear hsm
                have HY := Lib.hid hY; clear hY
                have HsY := Lib.hid hsY; clear hsY
                have Hr7 := Lib.hid hr7; clear hr7
                have Hv7 := Lib.hid hv7; clear hv7
                have Kr7 := Lib.hid kr7; clear kr7
                have Kb7 := Lib.hid kb7; clear kb7
                have HI7 := Lib.hid hI7; clear hI7
                have Hi7 := Lib.hid hi7; clear hi7
                have Hb7 := Lib.hid hb7; clear hb7
                have Ho7 := Lib.hid ho7; clear ho7
                have Kc := Lib.hid kc; clear kc
                go_wp2_with fail
                rw [← HY.out]
                with_reducible refine (Hsm.out).mono ?_
                rintro e w9 ⟨rfl, hb9⟩
                clear x0 x1 x2 y0 y1 y2 z0 z1 z2 q0 q1 q2
                have hs9 : w5.heap.size + 1 ≤ w9.heap.size := by have := hb9.size; rw [HsY.out] at this; exact this
                have hr9 := ((Hr7.out.keep hb9).skip).mono (E' := w9.heap.size) (by omega)
                have hv9 := Hv7.out.keep hb9
                have kr9 := Kr7.out.keep hb9
                have hI9 := HI7.out.keep hb9
                have hbb9 := belowTrans Hb7.out hb9 (Nat.le_refl _)
                clear Hr7 Hv7 Kr7 Kb7 HI7 Hi7 Hb7
                have Kr9 := Lib.hid kr9; clear kr9
                have HI9 := Lib.hid hI9; clear hI9
                have Hbb9 := Lib.hid hbb9; clear hbb9
                have Hv9 := Lib.hid hv9; clear hv9
                have Hr9 := Lib.hid hr9; clear hr9
                have Hb9 := Lib.hid hb9; clear hb9
                go_wp2
                go_roundw
                case rel => exact ⟨j + 1, a, q, c, by omega, by go_num, rfl, by omega, Lib.hid (by rw [Hk.out]; exact Hr9.out), Hbb9, Hv9, by omega, Kr9, HI9⟩
                case measure => simp [intOf] <;> omega
            · obtain rfl : n1 = j := by omega
              have hfin := Hr.out.own hsz2
              rw [show filtB ⟨(H : Int), (L : Int), xs⟩ bs n1 = bs.filter (fun a => decide (stepB a = ⟨(H : Int), (L : Int), xs⟩)) by rw [← Hl1.out]; exact filtB_all _ _] at hfin
              have hfin2 := hfin.mono hsz1 (Nat.le_refl _)
              clear Hr Hv hfin
              go_wp2
              go_ret2
              rw [Hm.out]
              exact ⟨_, _, _, rfl, hfin2, Hbr.out⟩
    · have hm := mBankPasts_no (b := ⟨h, l, xs⟩) (fun q => h14 q.2)
      generalize xs.sum = S at *
      obtain ⟨⟨x0, x1, x2⟩, y0, y1, y2⟩ := k0.cells
      have hwrap : IntKind.i64.wrap (l + S) = l + S := IntWalk.i64_in _ (by omega)
      have hd14 : decide (14 < l + S) = true := decide_eq_true (by omega)
      have Hcon := Lib.hid hcon; clear hcon
      have Hps := Lib.hid hps; clear hps
      have Hm := Lib.hid hm; clear hm
      have HW := Lib.hid hW; clear hW
      have Hb0 := Lib.hid hb0; clear hb0
      have HA0 := Lib.hid hA0; clear hA0
      have K0 := Lib.hid k0; clear k0
      have HsW := Lib.hid hsW; clear hsW
      have Hk := Lib.hid hk; clear hk
      have HG := Lib.hid hG; clear hG
      have Hsum := Lib.hid hsum; clear hsum
      go_enter Tryz.func23, Tryz.ntmps23
      go_wp2_with fail
      rw [← HW.out]
      refine' cutP (fun key => ?main) ?pf
      case main =>
        go_region_law (first | (go_simp; with_reducible refine (Hcon.out).mono ?_; rintro e w1 ⟨rfl, hb1⟩; have k1 := (K0.out.drew).keep hb1; have hI1 := HA0.out.drewB.keep hb1; have Hb1 := Lib.hid (belowTrans (Hb0.out.drew) hb1 (Nat.le_refl _)); obtain ⟨⟨u0, u1, u2⟩, v0, v1, v2⟩ := k1.cells; have HI1 := Lib.hid hI1; have K1 := Lib.hid k1; clear hb1 hI1 k1) | (go_simp; with_reducible refine (Hps.out w1 HI1.out).mono ?_; rintro e w2 ⟨rfl, rfl⟩))
        all_goals
          revert w1
          exact key
      case pf =>
        intro w1 Hb1 u0 u1 u2 v0 v1 v2 HI1 K1
        go_wp2
        go_ret2
        rw [Hm.out]
        exact ⟨none, 0, 0, rfl, BksOwn.nil _ _ _, Hb1.out⟩
  · have hm := mBankPasts_no (b := ⟨h, l, xs⟩) (fun q => hk q.1)
    rw [bank_no.2 hk] at hcon
    obtain ⟨⟨x0, x1, x2⟩, y0, y1, y2⟩ := k0.cells
    have Hcon := Lib.hid hcon; clear hcon
    have Hm := Lib.hid hm; clear hm
    have HW := Lib.hid hW; clear hW
    have Hb0 := Lib.hid hb0; clear hb0
    have HA0 := Lib.hid hA0; clear hA0
    have K0 := Lib.hid k0; clear k0
    have HsW := Lib.hid hsW; clear hsW
    have Hk := Lib.hid hk; clear hk
    go_enter Tryz.func23, Tryz.ntmps23
    go_wp2_with fail
    rw [← HW.out]
    refine' cutP (fun key => ?main) ?pf
    case main =>
      first
        | go_region_law (first | (go_simp; with_reducible refine (Hcon.out).mono ?_; rintro e w1 ⟨rfl, hb1⟩; have Hb1 := Lib.hid (belowTrans (Hb0.out.drew) hb1 (Nat.le_refl _)); clear hb1))
        | fail
      all_goals
        revert w1
        exact key
    case pf =>
      intro w1 Hb1
      go_wp2
      go_ret2
      rw [Hm.out]
      exact ⟨none, 0, 0, rfl, BksOwn.nil _ _ _, Hb1.out⟩
end Go.Proofs.YtjaodhjiibdbdaaGreatDoor
