/- CyclicBanks by the specification. No condition. -/
import Derived.Test.YtnebfojnbjbogaaDoorCyI
import Derived.Test.YtnebfojnbjbogaaDoorBoS
import Derived.Test.YtnebfojnbjbogaaDoorGi
namespace Go.Proofs.YtnebfojnbjbogaaDoor
open Go.RowKit
set_option linter.unusedVariables false
set_option linter.unusedSimpArgs false
set_option maxRecDepth 20000

def cycP (a : Bk) : Bool := decide ((mOrb a).2.2 = true ∧ (mOrb a).1 = 0)
def filtC (bs : List Bk) (j : Nat) : List Bk := (bs.take j).filter cycP
theorem filtC_zero (bs : List Bk) : filtC bs 0 = [] := rfl
theorem filtC_yes {a : Bk} {bs : List Bk} {j : Nat} (hj : j < bs.length) (hy : bs.getD j noBank = a) (h : (mOrb a).2.2 = true ∧ (mOrb a).1 = 0) : filtC bs (j + 1) = filtC bs j ++ [a] := by
  unfold filtC
  rw [take_rowK hj, hy, List.filter_append, List.filter_cons_of_pos (by exact decide_eq_true h)]
  rfl
theorem filtC_no {a : Bk} {bs : List Bk} {j : Nat} (hj : j < bs.length) (hy : bs.getD j noBank = a) (h : ¬ ((mOrb a).2.2 = true ∧ (mOrb a).1 = 0)) : filtC bs (j + 1) = filtC bs j := by
  unfold filtC
  rw [take_rowK hj, hy, List.filter_append, List.filter_cons_of_neg (by show ¬ (decide _ = true); rw [decide_eq_false h]; decide)]
  simp
theorem filtC_all (bs : List Bk) : filtC bs bs.length = bs.filter (fun a => decide ((mOrb a).2.2 = true ∧ (mOrb a).1 = 0)) := by
  unfold filtC; rw [List.take_length]; rfl

set_option maxHeartbeats 3200000 in
set_option maxRecDepth 100000 in
theorem spec_CyclicBanks (h n : Int) (w : World) :
    Calls Tryd.prog 19 #[.int .i64 h, .int .i64 n] w fun e w' => ∃ ao m cap, e = .returned (.tuple #[.slice ao m cap, .bool (mCyclicBanks h n).2]) ∧ BksOwn w.heap.size w'.heap.size w' ao m cap (mCyclicBanks h n).1 ∧ Below w.heap.size w w' := by
  by_cases qq : (1 ≤ h ∧ h ≤ 10) ∧ 0 ≤ n ∧ n ≤ 14
  · obtain ⟨H, rfl⟩ := Int.eq_ofNat_of_zero_le (show 0 ≤ h by omega)
    obtain ⟨N, rfl⟩ := Int.eq_ofNat_of_zero_le qq.2.1
    have h1 := fun W => baFew_yes (H : Int) N W qq
    have hall := fun W => baAll_any H N W (by omega) (by omega)
    rw [mCyc_yes H N qq]
    have hm : cycBk H N = (baL H N (min H (N + 1))).filter (fun a => decide ((mOrb a).2.2 = true ∧ (mOrb a).1 = 0)) := rfl
    have hbl := baL_length (H := H) (N := N) (by omega) (by omega) (min H (N + 1))
    have hok : ∀ b ∈ baL H N (min H (N + 1)), BankOk b := fun b hb => baL_ok (by omega) (by omega) hb
    have hbn : 3718 * min H (N + 1) ≤ 37180 := by omega
    rw [hm]
    generalize baL H N (min H (N + 1)) = bs at *
    clear hm qq
    have H1 := Lib.hid h1; clear h1
    have Hall := Lib.hid hall; clear hall
    have Hbl := Lib.hid hbl; clear hbl
    have Hok := Lib.hid hok; clear hok
    go_enter Tryd.func19, Tryd.ntmps19
    go_wp2_with fail
    with_reducible refine (H1.out _).mono ?_
    rintro e w' ⟨rfl, rfl⟩
    go_wp2_with fail
    with_reducible refine (Hall.out _).mono ?_
    rintro e w3 ⟨a1, n1, c1, rfl, ho3, hb3⟩
    clear H1 Hall
    have hl1 := ho3.length
    have hn8 : n1 ≤ 37180 := by have := Hbl.out; omega
    obtain ⟨vs, hvs⟩ := ho3.named
    have hsz2 : w.heap.size ≤ w3.heap.size := hb3.size
    have hvs' : BksN w.heap.size w3.heap.size w3 a1 n1 c1 vs bs := hvs
    have hst : BksR w3.heap.size w.heap.size w3.heap.size w3 none 0 0 (filtC bs 0) (insB n1 vs) 0 n1 := BksR.nil _ _ _ _ _ _
    clear hvs ho3
    have Hl1 := Lib.hid hl1; clear hl1
    have Hvs' := Lib.hid hvs'; clear hvs'
    have Hst := Lib.hid hst; clear hst
    have Hb3 := Lib.hid hb3; clear hb3
    obtain ⟨wo, hwo⟩ : ∃ wo : World, wo = w3 := ⟨_, rfl⟩
    subst hwo
    go_wp2_with fail
    go_loopw [6, 20] (fun v i wr => ∃ (j : Nat) (a : Option Addr) (q c : Nat), j ≤ n1 ∧ i = .int .i64 j ∧ v = .slice a q c ∧ q ≤ j ∧ Hid (BksR wo.heap.size w.heap.size wr.heap.size wr a q c (filtC bs j) (insB n1 vs) j n1) ∧ Hid (Below w.heap.size w wr) ∧ Hid (BksN w.heap.size wo.heap.size wr a1 n1 c1 vs bs) ∧ wo.heap.size ≤ wr.heap.size) (fun _ i _ => n1 - (intOf i).toNat)
    case atStart => exact ⟨0, none, 0, 0, Nat.zero_le _, rfl, rfl, Nat.le_refl _, Hst, Hb3, Hvs', Nat.le_refl _⟩
    case round =>
      obtain ⟨j, a, q, c, hj, rfl, rfl, hq, Hr, Hbr, Hv, hsr⟩ := hrel
      clear Hst Hb3 Hvs'
      have hwr := Hbr.out.size
      have hq8 : q ≤ 37180 := by omega
      by_cases hlt : j < n1
      · have hjb : j < bs.length := by have := Hl1.out; omega
        have hlti : (j : Int) < (n1 : Int) := by omega
        obtain ⟨b, a3, m3, c3, rfl, hb3, ⟨z0, z1, z2⟩, hus, hi⟩ := Hv.out.cell j hlt
        have hbk := Hok.out (bs.getD j noBank) (by rw [List.getD_eq_getElem?_getD, List.getElem?_eq_getElem hjb]; exact List.getElem_mem _)
        have hyes := fun e => filtC_yes hjb rfl e
        have hno := fun e => filtC_no hjb rfl e
        generalize bs.getD j noBank = A at *
        obtain ⟨h3, l3, p3⟩ := A
        simp only at z0 z1 z2 hi
        have hba := belowAlloc wr (.cells #[.int .i64 h3, .int .i64 l3, .slice a3 m3 c3] 26)
        have kb := Blk.new wr h3 l3 a3 m3 c3 26
        obtain ⟨X, hX⟩ : ∃ X, X = wr.alloc (.cells #[.int .i64 h3, .int .i64 l3, .slice a3 m3 c3] 26) := ⟨_, rfl⟩
        rw [← hX] at hba kb
        have hsX : X.heap.size = wr.heap.size + 1 := by rw [hX]; simp
        have hi1 := hi.keep hba
        have hst := baOrbit_any h3 l3 a3 m3 c3 p3 X hi1.at hbk
        have hr1 := Hr.out.keep hba
        have hv1 := Hv.out.keep hba
        have hb1 := belowTrans Hbr.out hba (Nat.le_refl _)
        obtain ⟨⟨x0, x1, x2⟩, y0, y1, y2⟩ := kb.cells
        generalize (mOrb ⟨h3, l3, p3⟩).1 = T at *
        generalize (mOrb ⟨h3, l3, p3⟩).2.1 = L at *
        generalize (mOrb ⟨h3, l3, p3⟩).2.2 = ok at *
        clear Hr Hv Hbr hi hbk
        have Hjb := Lib.hid hjb; clear hjb
        have Hus := Lib.hid hus; clear hus
        have Hyes := Lib.hid hyes; clear hyes
        have Hno := Lib.hid hno; clear hno
        have Hba := Lib.hid hba; clear hba
        have Kb := Lib.hid kb; clear kb
        have HX := Lib.hid hX; clear hX
        have HsX := Lib.hid hsX; clear hsX
        have Hi1 := Lib.hid hi1; clear hi1
        have Hst := Lib.hid hst; clear hst
        have Hr1 := Lib.hid hr1; clear hr1
        have Hv1 := Lib.hid hv1; clear hv1
        have Hb1 := Lib.hid hb1; clear hb1
        go_wp2_with fail
        rw [← HX.out]
        with_reducible refine (Hst.out).mono ?_
        rintro e w9 ⟨rfl, hb9⟩
        clear x0 x1 x2 y0 y1 y2 z0 z1 z2
        have hs9 : wr.heap.size + 1 ≤ w9.heap.size := by have := hb9.size; rw [HsX.out] at this; exact this
        have hr9 := Hr1.out.keep hb9
        have hv9 := Hv1.out.keep hb9
        have kb9 := Kb.out.keep hb9
        have hi9 := Hi1.out.keep hb9
        have hbb9 := belowTrans Hb1.out hb9 (Nat.le_refl _)
        clear Hr1 Hv1 Kb Hi1 Hb1 hb9 Hst
        by_cases hq2 : ok = true ∧ T = 0
        · have hk := Hyes.out hq2
          obtain ⟨rfl, rfl⟩ := hq2
          obtain ⟨⟨x0, x1, x2⟩, y0, y1, y2⟩ := kb9.cells
          have hap := hv9.apart
          clear Hyes Hno
          have Hk := Lib.hid hk; clear hk
          have Hbb9 := Lib.hid hbb9; clear hbb9
          have Hv9 := Lib.hid hv9; clear hv9
          have Kb9 := Lib.hid kb9; clear kb9
          go_wp2_with (at_builtin; refine wpList_pushBR w9 rfl _ _ rfl wo.heap.size w.heap.size w.heap.size wr.heap.size wo.heap.size a q c _ (insB n1 vs) n1 j rfl hr9 hap hlt h3 l3 a3 m3 c3 p3 Hus.out hi9 (Nat.le_refl _) hsr (by omega) hsr rfl (by omega) ?_)
          intro a6 c6 w6 ho6 hc6
          have hout := hr9.outer
          have hbo := hr9.chgBelow hc6 (by omega)
          have hbb6 : Below w.heap.size w w6 := Hbb9.out.trans (hbo.mono (by omega))
          have hv6 := Hv9.out.off hc6 (fun g hg => (hout g hg).1)
          have hs6 : wo.heap.size ≤ w6.heap.size := by have := hc6.size; omega
          clear hr9 hap hi9 hc6 hout hbo x0 x1 x2 y0 y1 y2
          have Ho6 := Lib.hid ho6; clear ho6
          have Hbb6 := Lib.hid hbb6; clear hbb6
          have Hv6 := Lib.hid hv6; clear hv6
          go_wp2
          go_roundw
          case rel => exact ⟨j + 1, a6, q + 1, c6, by omega, by go_num, rfl, by omega, Lib.hid (by rw [Hk.out]; exact Ho6.out), Hbb6, Hv6, hs6⟩
          case measure => simp [intOf] <;> omega
        · have hk := Hno.out hq2
          have hr8 := (hr9.skip).mono (E' := w9.heap.size) (by omega)
          clear Hyes Hno hr9 kb9 hi9
          cases ok
          · have Hk := Lib.hid hk; clear hk
            have Hbb9 := Lib.hid hbb9; clear hbb9
            have Hv9 := Lib.hid hv9; clear hv9
            have Hr8 := Lib.hid hr8; clear hr8
            clear hq2
            go_wp2
            go_roundw
            case rel => exact ⟨j + 1, a, q, c, by omega, by go_num, rfl, by omega, Lib.hid (by rw [Hk.out]; exact Hr8.out), Hbb9, Hv9, by omega⟩
            case measure => simp [intOf] <;> omega
          · have hT : ¬ T = 0 := fun e => hq2 ⟨rfl, e⟩
            have hT2 : decide (T = 0) = false := decide_eq_false hT
            have hT3 : (T == 0) = false := by simpa using hT
            have Hk := Lib.hid hk; clear hk
            have Hbb9 := Lib.hid hbb9; clear hbb9
            have Hv9 := Lib.hid hv9; clear hv9
            have Hr8 := Lib.hid hr8; clear hr8
            clear hq2
            go_wp2
            go_roundw
            case rel => exact ⟨j + 1, a, q, c, by omega, by go_num, rfl, by omega, Lib.hid (by rw [Hk.out]; exact Hr8.out), Hbb9, Hv9, by omega⟩
            case measure => simp [intOf] <;> omega
      · obtain rfl : n1 = j := by omega
        have hfin := Hr.out.own hsz2
        rw [show filtC bs n1 = bs.filter (fun a => decide ((mOrb a).2.2 = true ∧ (mOrb a).1 = 0)) by rw [← Hl1.out]; exact filtC_all _] at hfin
        clear Hr Hv
        have Hfin := Lib.hid hfin; clear hfin
        go_wp2
        first
          | go_ret2
          | go_ret
        exact ⟨_, _, _, rfl, Hfin.out, Hbr.out⟩
  · have h1 := fun W => baFew_no h n W qq
    rw [mCyc_no qq]
    clear qq
    have H1 := Lib.hid h1; clear h1
    go_enter Tryd.func19, Tryd.ntmps19
    go_wp2_with fail
    with_reducible refine (H1.out _).mono ?_
    rintro e w' ⟨rfl, rfl⟩
    go_wp2
    first
      | go_ret
      | go_ret2
    exact ⟨none, 0, 0, rfl, BksOwn.nil _ _ _, Below.refl _ _⟩
theorem mCyc_bound (h n : Int) : (mCyclicBanks h n).1.length ≤ 1048576 ∧ (plus2 (lensB (mCyclicBanks h n).1)).sum ≤ 1048576 := by
  unfold mCyclicBanks
  split
  · next q =>
    have h1 := Nat.le_trans (List.length_filter_le (fun b => decide ((mOrb b).2.2 = true ∧ (mOrb b).1 = 0)) (allB h.toNat n.toNat)) (allB_small (H := h.toNat) (N := n.toNat) (by omega) (by omega))
    have h1' : (cycBk h.toNat n.toNat).length ≤ 1000 := h1
    have h2 := plus2_le (cycBk h.toNat n.toNat) 14 (fun b hb => baL_piles (H := h.toNat) (N := n.toNat) (by omega) _ b (List.mem_filter.1 hb).1)
    exact ⟨by show (cycBk _ _).length ≤ _; omega, by show (plus2 (lensB (cycBk _ _))).sum ≤ _; omega⟩
  · simp [plus2, lensB]
end Go.Proofs.YtnebfojnbjbogaaDoor
