/- Several texts in one: CoK, CoL, CoS, CoT, CoU. No condition. -/
import Derived.Test.YtimmjimeldejjaaGreatDoorCoJ
import Derived.Test.YtimmjimeldejjaaGreatDoorCo2
import Derived.Test.YtimmjimeldejjaaGreatDoorDk0
import Derived.Test.YtimmjimeldejjaaGreatDoorDk3
import Derived.Test.YtimmjimeldejjaaGreatDoorSt
import Derived.Test.YtimmjimeldejjaaGreatDoorGb
import Derived.Test.YtimmjimeldejjaaGreatDoorExA
namespace Go.Proofs.YtimmjimeldejjaaGreatDoor
section
open Go.RowKit
set_option linter.unusedVariables false
set_option linter.unusedSimpArgs false
set_option maxRecDepth 20000

theorem nDigits_pow (k : Nat) : ∀ n, n < 10 ^ (k + 1) → Lib.nDigits n ≤ k + 1 := by
  induction k with
  | zero =>
    intro n h
    rw [Lib.nDigits]
    split
    · omega
    · omega
  | succ k ih =>
    intro n h
    rw [Lib.nDigits]
    split
    · omega
    · have := ih (n / 10) (by rw [Nat.pow_succ] at h; omega)
      omega
theorem run_keep {a : List Int} {l : Ln} {o : Ord} (h : movesO o = false) : (runO a l o).1 = a := by
  cases o with
  | take => cases h
  | step => cases h
  | steps => cases h
  | side => cases h
  | past => cases h
  | stairs => cases h
  | sort => cases h
  | shown => rfl
  | row => rfl
  | bank => rfl
  | cards => show (numA a _).1 = a; unfold numA; split <;> rfl
  | pasts => show (numA a _).1 = a; unfold numA; split <;> rfl
  | tail => show (numA a _).1 = a; unfold numA; split <;> rfl
  | length => show (numA a _).1 = a; unfold numA; split <;> rfl
  | orbit => simp only [runO]; split <;> rfl
  | start => simp only [runO]; split <;> rfl
theorem num_text {a : List Int} {x : Int × Bool} {n : Nat} (h : x = ((n : Int), true)) : repA (numA a x).2 = Lib.decDigits n := by
  subst h; rfl
section
variable {g : Nat} {pa : Option Addr} {pn pc : Nat} {la : Option Addr} {ln lc : Nat} {ba : Option Addr} {bn bc : Nat} {na : Option Addr} {nn nc : Nat} {ty : TypeId}
theorem asked_any (o : Ord) (hm : movesO o = false) {w : World} {l : Ln} (hh : LnB w g pa pn pc la ln lc l.bank.h l.bank.l ba bn bc na nn nc ty) {a : List Int} (hP : IntsAt w pa pn pc a) (ha : Good a) (ho : IntsAt w la ln lc l.list) (hbp : IntsAt w ba bn bc l.bank.p) (hn : IntsAt w na nn nc l.n) (hk : KdOk (kdO o) l) :
    Calls Tryz.prog 71 #[.pointer (some ⟨g, 0, none⟩), .string ⟨(wordO o).toArray⟩] w fun e w' => e = .returned (.string ⟨(repA (runO a l o).2).toArray⟩) ∧ Below w.heap.size w w' := by
  have hgb := good_iff.2 ha
  cases o with
  | take => cases hm
  | step => cases hm
  | steps => cases hm
  | side => cases hm
  | past => cases hm
  | stairs => cases hm
  | sort => cases hm
  | shown => exact asked_show hh hP ha
  | cards =>
    obtain ⟨n, h1, h2⟩ := good_sumN ha
    have hx : mCardsOf a = ((n : Int), true) := by unfold mCardsOf; rw [hgb, h2]; rfl
    show Calls Tryz.prog _ _ _ fun e w' => e = .returned (.string ⟨(repA (numA a (mCardsOf a)).2).toArray⟩) ∧ _
    rw [num_text hx]
    exact asked_cards hh hP (by omega) hx
  | pasts =>
    have hx : mPastCount a = (((pastsL a).length : Int), true) := by unfold mPastCount; rw [hgb]; rfl
    have h1 := pastsL_length a
    have h2 := ha.len
    show Calls Tryz.prog _ _ _ fun e w' => e = .returned (.string ⟨(repA (numA a (mPastCount a)).2).toArray⟩) ∧ _
    rw [num_text hx]
    exact asked_pasts hh hP (by omega) hx
  | tail =>
    have hx : mTailOf a = ((tailL a : Int), true) := by unfold mTailOf; rw [hgb]; rfl
    have h1 := (tailL_spec ha).1
    show Calls Tryz.prog _ _ _ fun e w' => e = .returned (.string ⟨(repA (numA a (mTailOf a)).2).toArray⟩) ∧ _
    rw [num_text hx]
    exact asked_tail hh hP (by omega) hx
  | length =>
    have hx : mCycleLength a = (((cycL a).length : Int), true) := by unfold mCycleLength; rw [hgb]; rfl
    have h1 := cycL_length ha
    show Calls Tryz.prog _ _ _ fun e w' => e = .returned (.string ⟨(repA (numA a (mCycleLength a)).2).toArray⟩) ∧ _
    rw [num_text hx]
    exact asked_length hh hP (by omega) hx
  | row => exact asked_row hh ho hk
  | orbit =>
    rcases orb_nat l.list with ⟨T, L, hT, hL, hx⟩ | hx
    · have h1 : (Lib.decDigits T).length ≤ 100 := by rw [Lib.decDigits_length]; have := nDigits_pow 3 T (by omega); omega
      have h2 : (Lib.decDigits L).length ≤ 100 := by rw [Lib.decDigits_length]; have := nDigits_pow 3 L (by omega); omega
      have e : repA (runO a l .orbit).2 = Lib.decDigits T ++ [32] ++ Lib.decDigits L := by simp only [runO, hx]; rfl
      rw [e]
      exact asked_orbit hh ho hT hL h1 h2 hx
    · have e : repA (runO a l .orbit).2 = [110, 111] := by simp only [runO, hx]; rfl
      rw [e]
      exact asked_orbitNo hh ho hx
  | bank => exact asked_bank hh hbp hk
  | start =>
    obtain ⟨x, y, _, _, hxy⟩ : ∃ x y, 0 ≤ x ∧ 0 ≤ y ∧ l.n = [x, y] := hk
    rw [hxy] at hn
    have e : repA (runO a l .start).2 = if (mStartBank x y).2 = true then bankL (mStartBank x y).1 else [110, 111] := by
      simp only [runO, hxy, List.getD_cons_zero, List.getD_cons_succ]
      split <;> rfl
    rw [e]
    exact asked_start hh hn (fun b hb => by have := mStart_ok x y (by rw [hb]); rw [hb] at this; exact this)
end
end
end Go.Proofs.YtimmjimeldejjaaGreatDoor
namespace Go.Proofs.YtimmjimeldejjaaGreatDoor
section
open Go.RowKit
set_option linter.unusedVariables false
set_option linter.unusedSimpArgs false
set_option maxRecDepth 20000

def CsPost (ao : Option Addr) (a : List Int) (s : List UInt8) (w : World) (e : Ending) (w' : World) : Prop :=
  ∃ pa pn pc, e = .returned (.tuple #[.slice pa pn pc, .string ⟨(repA (lineA a s).2).toArray⟩]) ∧ PlAt ao w' pa pn pc (lineA a s).1 ∧ Below w.heap.size w w'
theorem Chg.belowG {g : Nat} {w0 w w' : World} (h : Below w0.heap.size w0 w) (hc : Chg (fun k => k = g) w w') (hg : w0.heap.size ≤ g) : Below w0.heap.size w0 w' :=
  h.trans (hc.below h.size (fun k hk => by omega))
section
variable {ao : Option Addr} {n cap : Nat} {a : List Int} {s : ByteArray} {w : World}
theorem lit_ne {o : Ord} {l : List UInt8} (h : wordO o ≠ l) : ((⟨(wordO o).toArray⟩ : ByteArray).toList == l) = false := bytes_ne h
set_option maxHeartbeats 3200000 in
theorem coStep_any (hs : s.size ≤ 1048576) (hA : IntsAt w ao n cap a) (ha : Good a) :
    Calls Tryz.prog 41 #[.slice ao n cap, .string s] w fun e w' => CsPost ao a s.data.toList w e w' := by
  have hcon := coRead_any ao n cap s w hs
  unfold RdPost at hcon
  have Hcon := Lib.hid hcon; clear hcon
  go_enter Tryz.func41, Tryz.ntmps41
  go_wp2_with fail
  with_reducible refine (Hcon.out).mono ?_
  rintro e w1 ⟨hb1, ⟨x, ⟨pa, pn, pc, la, ln, lc, bh, bl, ba, bn, bc, na, nn, nc, rfl⟩, rfl, hno⟩ | ⟨o, l, la, ln, lc, ba, bn, bc, na, nn, nc, rfl, hyes, hk, hl, hbk, hn⟩⟩
  · have hbv := belowTrans hb1 (belowAlloc w1 (.cells #[.slice pa pn pc, .slice la ln lc, .int .i64 bh, .int .i64 bl, .slice ba bn bc, .slice na nn nc] 96)) (Nat.le_refl _)
    have hA2 := hA.keep hbv
    have Hbv := Lib.hid hbv; clear hbv
    have Hno := Lib.hid hno; clear hno
    have HA2 := Lib.hid hA2; clear hA2
    clear hb1
    go_wp2
    go_ret2
    refine ⟨ao, n, cap, ?_, ?_, Hbv.out⟩
    · rw [Hno.out a]; rfl
    · rw [Hno.out a]; exact ⟨HA2.out, .inl rfl⟩
  · have hba := belowAlloc w1 (.cells #[.slice ao n cap, .slice la ln lc, .int .i64 l.bank.h, .int .i64 l.bank.l, .slice ba bn bc, .slice na nn nc] 96)
    have hbv := belowTrans hb1 hba (Nat.le_refl _)
    have m1 := LnB.new w1 ao n cap la ln lc l.bank.h l.bank.l ba bn bc na nn nc 96
    have hA2 := hA.keep hbv
    have hl2 := hl.keep hba
    have hbk2 := hbk.keep hba
    have hn2 := hn.keep hba
    have hsz := hb1.size
    cases hm : movesO o
    · have has := asked_any o hm m1 hA2 ha hl2.at hbk2.at hn2.at hk
      have hkeep : (lineA a s.data.toList).1 = a := by rw [hyes]; exact run_keep hm
      have hrep : (lineA a s.data.toList).2 = (runO a l o).2 := by rw [hyes]
      have d1 : o ≠ .take := by rintro rfl; cases hm
      have d2 : o ≠ .step := by rintro rfl; cases hm
      have d3 : o ≠ .steps := by rintro rfl; cases hm
      have d4 : o ≠ .side := by rintro rfl; cases hm
      have d5 : o ≠ .past := by rintro rfl; cases hm
      have d6 : o ≠ .stairs := by rintro rfl; cases hm
      have d7 : o ≠ .sort := by rintro rfl; cases hm
      have inj : ∀ o' : Ord, o ≠ o' → wordO o ≠ wordO o' := fun o' h e => h (by have := ordOf_word o; rw [e, ordOf_word] at this; exact (Option.some.inj this).symm)
      have e1 := bytes_ne (s := ⟨(wordO o).toArray⟩) (inj .take d1)
      have e2 := bytes_ne (s := ⟨(wordO o).toArray⟩) (inj .step d2)
      have e3 := bytes_ne (s := ⟨(wordO o).toArray⟩) (inj .steps d3)
      have e4 := bytes_ne (s := ⟨(wordO o).toArray⟩) (inj .side d4)
      have e5 := bytes_ne (s := ⟨(wordO o).toArray⟩) (inj .past d5)
      have e6 := bytes_ne (s := ⟨(wordO o).toArray⟩) (inj .stairs d6)
      have e7 := bytes_ne (s := ⟨(wordO o).toArray⟩) (inj .sort d7)
      have hfin := fun w3 (hb : Below (w1.alloc (.cells #[.slice ao n cap, .slice la ln lc, .int .i64 l.bank.h, .int .i64 l.bank.l, .slice ba bn bc, .slice na nn nc] 96)).heap.size (w1.alloc (.cells #[.slice ao n cap, .slice la ln lc, .int .i64 l.bank.h, .int .i64 l.bank.l, .slice ba bn bc, .slice na nn nc] 96)) w3) => (⟨hA2.keep hb, belowTrans hbv hb (Nat.le_refl _)⟩ : IntsAt w3 ao n cap a ∧ Below w.heap.size w w3)
      clear d1 d2 d3 d4 d5 d6 d7 inj hba hbv m1 hA2 hl2 hbk2 hn2 hl hbk hn hb1 hyes hm hk
      generalize wordO o = u at *
      simp only [wordO] at e1 e2 e3 e4 e5 e6 e7
      generalize (⟨u.toArray⟩ : ByteArray) = v at *
      have Has := Lib.hid has; clear has
      have Hkeep := Lib.hid hkeep; clear hkeep
      have Hrep := Lib.hid hrep; clear hrep
      have Hfin := Lib.hid hfin; clear hfin
      go_wp2_with fail
      with_reducible refine (Has.out).mono ?_
      rintro e w2 ⟨rfl, hb2⟩
      have hf := Hfin.out w2 hb2
      clear hb2
      have Hf := Lib.hid hf; clear hf
      go_wp2
      go_ret2
      refine ⟨ao, n, cap, ?_, ?_, Hf.out.2⟩
      · rw [Hrep.out]; rfl
      · rw [Hkeep.out]; exact ⟨Hf.out.1, .inl rfl⟩
    · have hmv := moved_any o hm m1 hA2 ha hl2 (.inr (by decide)) hn2 hk
      have hr : lineA a s.data.toList = runO a l o := hyes a
      unfold MvPost at hmv
      have hch := fun w3 (hc : Chg (fun k => k = w1.heap.size) (w1.alloc (.cells #[.slice ao n cap, .slice la ln lc, .int .i64 l.bank.h, .int .i64 l.bank.l, .slice ba bn bc, .slice na nn nc] 96)) w3) => Chg.belowG hbv hc hsz
      clear hba hbv m1 hA2 hl2 hbk2 hn2 hl hbk hn hb1 hyes hk
      have Hmv := Lib.hid hmv; clear hmv
      have Hr := Lib.hid hr; clear hr
      have Hch := Lib.hid hch; clear hch
      cases o
      all_goals try cases hm
      all_goals
        go_wp2_with fail
        with_reducible refine (Hmv.out).mono ?_
        rintro e w2 ⟨qa, qn, qc, rfl, q1, q2, q3⟩
        obtain ⟨⟨x0, x1, x2, x3, x4, x5⟩, y0, y1, y2, y3, y4, y5⟩ := q1.cells
        have hb := Hch.out w2 q3
        have Q2 := Lib.hid q2; clear q2
        have Hb := Lib.hid hb; clear hb
        clear q1 q3 x1 x2 x3 x4 x5 y0 y1 y2 y3 y4 y5
        go_wp2
        go_ret2
        refine ⟨qa, qn, qc, ?_, ?_, Hb.out⟩
        · rw [Hr.out]; rfl
        · rw [Hr.out]; exact Q2.out
end
end
end Go.Proofs.YtimmjimeldejjaaGreatDoor
namespace Go.Proofs.YtimmjimeldejjaaGreatDoor
section
open Go.RowKit
set_option linter.unusedVariables false
set_option linter.unusedSimpArgs false
set_option maxRecDepth 20000

theorem count_no {c : UInt8} {l : List UInt8} : (splitL c l).length = 1 ↔ c ∉ l := by
  rw [splitL_length]
  constructor
  · intro h hm
    have := List.count_pos_iff.2 hm
    omega
  · intro h
    rw [List.count_eq_zero.2 h]
theorem mDLs_no {a : List Int} {s : List UInt8} (h : ¬ (goodB a = true ∧ s.length ≤ 3000 ∧ (10 : UInt8) ∉ s)) : mDeskLine a s = ([], [], false) := by unfold mDeskLine; rw [if_neg h]
theorem mDLs_yes {a : List Int} {s : List UInt8} (h : goodB a = true ∧ s.length ≤ 3000 ∧ (10 : UInt8) ∉ s) : mDeskLine a s = ((lineA a s).1, repA (lineA a s).2, true) := by unfold mDeskLine; rw [if_pos h]
set_option maxHeartbeats 3200000 in
theorem spec_DeskLine (ao : Option Addr) (n cap : Nat) (xs : List Int) (s : ByteArray) (w : World) (h : IntsAt w ao n cap xs) (hs : s.size ≤ 1048576) :
    Calls Tryz.prog 12 #[.slice ao n cap, .string s] w fun e w' => ∃ a m c, e = .returned (.tuple #[.slice a m c, .string ⟨(mDeskLine xs s.data.toList).2.1.toArray⟩, .bool (mDeskLine xs s.data.toList).2.2]) ∧ Own w.heap.size w'.heap.size w' a m c (mDeskLine xs s.data.toList).1 ∧ Below w.heap.size w w' := by
  have hsz : s.data.toList.length = s.size := rfl
  have hb0 := Below.refl w.heap.size w
  have hgd := piGood_any ao n cap xs w h
  cases hg : goodB xs
  · have hm := mDLs_no (a := xs) (s := s.data.toList) (fun q => by rw [hg] at q; cases q.1)
    rw [hg] at hgd
    clear hsz hs h
    have Hgd := Lib.hid hgd; clear hgd
    have Hm := Lib.hid hm; clear hm
    have Hg := Lib.hid hg; clear hg
    go_enter Tryz.func12, Tryz.ntmps12
    go_wp2_with fail
    with_reducible refine (Hgd.out).mono ?_
    rintro e w1 ⟨rfl, rfl⟩
    go_wp2
    go_ret3
    rw [Hm.out]
    exact ⟨none, 0, 0, rfl, Own.nil _ _ _, hb0⟩
  · rw [hg] at hgd
    by_cases h3 : s.size ≤ 3000
    · have h3i : ¬ (3000 : Int) < (s.size : Int) := by omega
      have hsp := l1Split_any s 10 w hs
      simp only [show (((10 : UInt8).toNat : Nat) : Int) = 10 from rfl] at hsp
      have hcn := count_no (c := 10) (l := s.data.toList)
      have hne := splitL_ne 10 s.data.toList
      by_cases hnl : (10 : UInt8) ∈ s.data.toList
      · have hm := mDLs_no (a := xs) (s := s.data.toList) (fun q => q.2.2 hnl)
        have hl1 : 1 < (splitL 10 s.data.toList).length := by
          have h1 : (splitL 10 s.data.toList).length ≠ 1 := fun e => hcn.1 e hnl
          have h2 : (splitL 10 s.data.toList).length ≠ 0 := fun e => hne (List.length_eq_zero_iff.1 e)
          omega
        clear hsz hs h h3 hcn hne
        have Hgd := Lib.hid hgd; clear hgd
        have Hm := Lib.hid hm; clear hm
        have Hg := Lib.hid hg; clear hg
        have Hsp := Lib.hid hsp; clear hsp
        have Hnl := Lib.hid hnl; clear hnl
        have Hl1 := Lib.hid hl1; clear hl1
        go_enter Tryz.func12, Tryz.ntmps12
        go_wp2_with fail
        with_reducible refine (Hgd.out).mono ?_
        rintro e w1 ⟨rfl, rfl⟩
        go_wp2_with fail
        with_reducible refine (Hsp.out).mono ?_
        rintro e w2 ⟨qa, qn, qc, rfl, how, hb2⟩
        have hqn : (1 : Int) < (qn : Int) := by have h1 := how.length; have h2 := Hl1.out; simp [strVs] at h1; omega
        clear how
        have Hb2 := Lib.hid hb2; clear hb2
        go_wp2
        go_ret3
        rw [Hm.out]
        exact ⟨none, 0, 0, rfl, Own.nil _ _ _, Hb2.out⟩
      · have hm := mDLs_yes (a := xs) (s := s.data.toList) ⟨hg, by omega, hnl⟩
        have hl1 : (splitL 10 s.data.toList).length = 1 := hcn.2 hnl
        have hG := good_iff.1 hg
        have hI := fun W (q : Below w.heap.size w W) => h.keep q
        clear hsz h hcn hne
        have Hgd := Lib.hid hgd; clear hgd
        have Hm := Lib.hid hm; clear hm
        have Hg := Lib.hid hg; clear hg
        have Hsp := Lib.hid hsp; clear hsp
        have Hnl := Lib.hid hnl; clear hnl
        have Hl1 := Lib.hid hl1; clear hl1
        have HG := Lib.hid hG; clear hG
        have HI := Lib.hid hI; clear hI
        go_enter Tryz.func12, Tryz.ntmps12
        go_wp2_with fail
        with_reducible refine (Hgd.out).mono ?_
        rintro e w1 ⟨rfl, rfl⟩
        go_wp2_with fail
        with_reducible refine (Hsp.out).mono ?_
        rintro e w2 ⟨qa, qn, qc, rfl, how, hb2⟩
        have hqn : qn = 1 := by have h1 := how.length; have h2 := Hl1.out; simp [strVs] at h1; omega
        subst hqn
        have hcs := coStep_any (s := s) hs (HI.out w2 hb2) HG.out
        unfold CsPost at hcs
        clear how
        have Hb2 := Lib.hid hb2; clear hb2
        have Hcs := Lib.hid hcs; clear hcs
        go_wp2_with fail
        with_reducible refine (Hcs.out).mono ?_
        rintro e w3 ⟨pa, pk, pc, rfl, ⟨hP, -⟩, hb3⟩
        have hb23 := belowTrans Hb2.out hb3 (Nat.le_refl _)
        have hpl : pk ≤ 28 := by have h1 := hP.length; have h2 := (line_good HG.out s.data.toList).len; omega
        have how := l1Own_any pa pk pc _ w3 hP (by omega)
        clear hb3 hP
        have How := Lib.hid how; clear how
        have Hb23 := Lib.hid hb23; clear hb23
        go_wp2_with fail
        with_reducible refine (How.out).mono ?_
        rintro e w4 ⟨a4, c4, rfl, ho4, hb4⟩
        have hbf := belowTrans Hb23.out hb4 (Nat.le_refl _)
        have ho5 := ho4.mono (Hb23.out.size) (Nat.le_refl _)
        clear ho4 hb4
        have Hbf := Lib.hid hbf; clear hbf
        have Ho5 := Lib.hid ho5; clear ho5
        go_wp2
        go_ret3
        rw [Hm.out]
        exact ⟨a4, pk, c4, rfl, Ho5.out, Hbf.out⟩
    · have h3i : (3000 : Int) < (s.size : Int) := by omega
      have hm := mDLs_no (a := xs) (s := s.data.toList) (fun q => h3 (by omega))
      clear hsz hs h h3
      have Hgd := Lib.hid hgd; clear hgd
      have Hm := Lib.hid hm; clear hm
      have Hg := Lib.hid hg; clear hg
      go_enter Tryz.func12, Tryz.ntmps12
      go_wp2_with fail
      with_reducible refine (Hgd.out).mono ?_
      rintro e w1 ⟨rfl, rfl⟩
      go_wp2
      go_ret3
      rw [Hm.out]
      exact ⟨none, 0, 0, rfl, Own.nil _ _ _, hb0⟩
end
end Go.Proofs.YtimmjimeldejjaaGreatDoor
namespace Go.Proofs.YtimmjimeldejjaaGreatDoor
section
open Go.RowKit
set_option linter.unusedVariables false
set_option linter.unusedSimpArgs false
set_option maxRecDepth 20000

theorem mRS_resS (s : List UInt8) : mRunScript s = ((dkRes s).2.map repA, (linesS s).isSome) := by
  unfold mRunScript dkRes
  cases linesS s <;> rfl
theorem mDA_resS (s : List UInt8) : mDeskAfter s = ((dkRes s).1, (linesS s).isSome) := by
  unfold mDeskAfter dkRes
  cases linesS s <;> rfl
theorem mFL_resS (s : List UInt8) : mFailedLines s = (failF 0 (dkRes s).2, (linesS s).isSome) := by
  unfold mFailedLines dkRes
  cases linesS s <;> rfl
theorem dkRes_fine (s : List UInt8) : ∀ x ∈ (dkRes s).2, FineA x := by
  unfold dkRes
  cases h : linesS s with
  | none => intro x hx; cases hx
  | some ls => exact scr_fine ls
theorem dkRes_len (s : List UInt8) : (dkRes s).2.length ≤ 50 := by
  unfold dkRes
  cases h : linesS s with
  | none => simp
  | some ls => show (scrL ls).2.length ≤ 50; rw [scr_length]; exact lines_len h
theorem dkRes_good (s : List UInt8) : (dkRes s).1.length ≤ 28 := by
  unfold dkRes
  cases h : linesS s with
  | none => simp
  | some ls => exact (scr_good ls).len
def RunPost (s : List UInt8) (w : World) (e : Ending) (w' : World) : Prop :=
  ∃ pa pk pc ra rn rc, e = .returned (.tuple #[.slice pa pk pc, .slice ra rn rc, .bool (linesS s).isSome]) ∧ IntsAt w' pa pk pc (dkRes s).1 ∧ OwnRow w.heap.size w'.heap.size w' 9 ra rn rc (strVs ((dkRes s).2.map repA)) ∧ Below w.heap.size w w'
def RunAt (w0 : World) (S : List Int × List Ans) (pa : Option Addr) (pk pc : Nat) (ra : Option Addr) (rn rc : Nat) (wr : World) : Prop :=
  (IntsAt wr pa pk pc S.1 ∧ TyI wr pa) ∧ OwnRow w0.heap.size wr.heap.size wr 9 ra rn rc (strVs (S.2.map repA)) ∧ Below w0.heap.size w0 wr
theorem run_none {s : List UInt8} {w w1 : World} (hl : linesS s = none) (hb : Below w.heap.size w w1) : RunPost s w (.returned (.tuple #[.slice none 0 0, .slice none 0 0, .bool false])) w1 := by
  have hr : dkRes s = ([], []) := by unfold dkRes; rw [hl]
  refine ⟨none, 0, 0, none, 0, 0, by rw [hl]; rfl, by rw [hr]; exact IntsAt.nil _, by rw [hr]; exact OwnRow.nil _ _ _ _, hb⟩
set_option maxHeartbeats 6400000 in
theorem coRun_any (s : ByteArray) (w : World) (hs : s.size ≤ 1048576) :
    Calls Tryz.prog 49 #[.string s] w fun e w' => RunPost s.data.toList w e w' := by
  have hsz : s.data.toList.length = s.size := rfl
  have hb0 := Below.refl w.heap.size w
  by_cases h3 : s.size ≤ 3000
  · have hsp := l1Split_any s 10 w hs
    simp only [show (((10 : UInt8).toNat : Nat) : Int) = 10 from rfl] at hsp
    have hle := splitL_le 10 s.data.toList
    have hwl := splitL_word_le 10 s.data.toList
    obtain ⟨K, hK⟩ : ∃ K, (splitL 10 s.data.toList).length = K + 1 := by
      have : (splitL 10 s.data.toList).length ≠ 0 := fun e => splitL_ne 10 s.data.toList (List.length_eq_zero_iff.1 e)
      exact ⟨(splitL 10 s.data.toList).length - 1, by omega⟩
    have hno := lines_no (s := s.data.toList)
    have hyes := lines_yes (s := s.data.toList)
    rw [hK, Nat.add_sub_cancel] at hno hyes
    generalize splitL 10 s.data.toList = Q at *
    have h3i : ¬ (3000 : Int) < (s.size : Int) := by omega
    have hK8 : (K : Int) ≤ 3000 := by omega
    have hnone := fun w1 hl hb => run_none (s := s.data.toList) (w := w) (w1 := w1) hl hb
    have Hsp := Lib.hid hsp; clear hsp
    have Hno := Lib.hid hno; clear hno
    have Hyes := Lib.hid hyes; clear hyes
    have Hnone := Lib.hid hnone; clear hnone
    have Hwl := Lib.hid hwl; clear hwl
    go_enter Tryz.func49, Tryz.ntmps49
    go_wp2_with fail
    with_reducible refine (Hsp.out).mono ?_
    rintro e w1 ⟨qa, qn, qc, rfl, how, hb1⟩
    have hva := how.at
    have hqn : qn = K + 1 := by have := how.length; simp [strVs] at this; omega
    subst hqn
    obtain ⟨b, o, rfl, hw0⟩ := wordAt hva (k := K) (by omega)
    obtain ⟨a2, hrun, hva2⟩ := slUptoW w1 _ hva K (by omega) .i64
    have htk : (strVs Q).take K = strVs (Q.take K) := by simp [strVs]
    have hvt : ValsAt w1 a2 K qc (strVs (Q.take K)) := htk ▸ hva2
    have hxn := fun (q : Q.getD K [] ≠ []) => Hno.out (fun r => q r.2.1)
    generalize hx : Q.getD K [] = x at *
    have hsub : (K : Int) + 1 - 1 = (K : Int) := by omega
    clear hva hva2 how
    by_cases hx0 : x = []
    · subst hx0
      by_cases h5 : K ≤ 50
      · have h5i : ¬ (50 : Int) < (K : Int) := by omega
        have h5d : decide ((50 : Int) < (K : Int)) = false := decide_eq_false h5i
        have hy := Hyes.out ⟨by omega, by first | rfl | exact hx, h5⟩
        have hsome : (linesS s.data.toList).isSome = true := by rw [hy]; rfl
        have hr : dkRes s.data.toList = scrL (Q.take K) := by unfold dkRes; rw [hy]
        have hmem : ∀ t ∈ Q.take K, t.length ≤ 1048576 := fun t ht => by have := Hwl.out t (List.mem_of_mem_take ht); omega
        have hln : (Q.take K).length = K := by rw [List.length_take]; omega
        generalize Q.take K = ls at *
        have hoI : Own w1.heap.size (w1.alloc (.cells #[.int .i64 3, .int .i64 2, .int .i64 1] 3)).heap.size (w1.alloc (.cells #[.int .i64 3, .int .i64 2, .int .i64 1] 3)) (some ⟨w1.heap.size, 0, none⟩) 3 3 [3, 2, 1] :=
          Own.of (World.ownsRow_lit w1 #[.int .i64 3, .int .i64 2, .int .i64 1] 3 (Nat.le_refl _) (by unfold maxLen; omega) rfl)
        have hat0 : RunAt w1 (scrL (ls.take 0)) (some ⟨w1.heap.size, 0, none⟩) 3 3 none 0 0 (w1.alloc (.cells #[.int .i64 3, .int .i64 2, .int .i64 1] 3)) := ⟨⟨hoI.at, tyI_own hoI⟩, OwnRow.nil _ _ _ _, belowAlloc w1 _⟩
        clear hK hle hx h5 hy hoI hxn htk
        have Hr := Lib.hid hr; clear hr
        have Hsome := Lib.hid hsome; clear hsome
        have Hmem := Lib.hid hmem; clear hmem
        have Hat0 := Lib.hid hat0; clear hat0
        have Hb1 := Lib.hid hb1; clear hb1
        go_wp2

        go_loopw [7, 8, 35] (fun pv rv i wr => ∃ (k : Nat) (pa : Option Addr) (pk pc : Nat) (ra : Option Addr) (rc : Nat), k ≤ K ∧ i = .int .i64 k ∧ pv = .slice pa pk pc ∧ rv = .slice ra k rc ∧ Hid (RunAt w1 (scrL (ls.take k)) pa pk pc ra k rc wr)) (fun _ _ i _ => K - (intOf i).toNat)
        case atStart => exact ⟨0, _, 3, 3, none, 0, Nat.zero_le _, rfl, rfl, rfl, Hat0⟩
        case round =>
          obtain ⟨k, pa, pk, pc, ra, rc, hk, rfl, rfl, rfl, Hat⟩ := hrel
          obtain ⟨⟨hP, hT⟩, hR, hbr⟩ := Hat.out
          by_cases hlt : k < K
          · have hvr := hvt.keep hbr
            obtain ⟨b', o', rfl, hw1⟩ := wordAt hvr hlt
            have htk := take_snocT (x := ls.getD k []) rfl hlt hln
            have hm : (ls.getD k []).length ≤ 1048576 := Hmem.out _ (by rw [List.getD_eq_getElem?_getD, List.getElem?_eq_getElem (by omega)]; exact List.getElem_mem _)
            have hcs := coStep_any (s := ⟨(ls.getD k []).toArray⟩) (by show (ls.getD k []).toArray.size ≤ _; simpa using hm) hP (scr_good (ls.take k))
            have hsn := scr_snoc (ls.take k) (ls.getD k [])
            rw [← htk] at hsn
            unfold CsPost at hcs
            simp only at hcs
            generalize ls.getD k [] = t at *
            have hrsz := hbr.size
            have hRk : ∀ W, Below wr.heap.size wr W → OwnRow w1.heap.size W.heap.size W 9 ra k rc (strVs ((scrL (ls.take k)).2.map repA)) := fun W q => (hR.keep q).mono (Nat.le_refl _) q.size
            have hbk : ∀ W, Below wr.heap.size wr W → Below w1.heap.size w1 W := fun W q => belowTrans hbr q (Nat.le_refl _)
            have hTk : ∀ W, Below wr.heap.size wr W → TyI W pa := fun W q => hT.keep q
            clear hvr hm hP hR hbr Hat htk hT
            have Hcs := Lib.hid hcs; clear hcs
            have Hsn := Lib.hid hsn; clear hsn
            have HRk := Lib.hid hRk; clear hRk
            have Hbk := Lib.hid hbk; clear hbk
            have HTk := Lib.hid hTk; clear hTk
            go_wp2_with fail
            with_reducible refine (Hcs.out).mono ?_
            rintro e w2 ⟨qa2, qk2, qc2, rfl, ⟨hP2, hty⟩, hb2⟩
            have hR2 := HRk.out w2 hb2
            have hb12 := Hbk.out w2 hb2
            have hT2 : TyI w2 qa2 := by
              rcases hty with rfl | h
              · exact HTk.out w2 hb2
              · exact h
            clear hb2 hty
            have HP2 := Lib.hid hP2; clear hP2
            have HT2 := Lib.hid hT2; clear hT2
            go_wp2_with (at_builtin; refine wpList_pushV w2 rfl _ _ 38 rfl 9 _ 16 Tryz.underlying38 Tryz.infoStr rfl (by decide) w1.heap.size w2.heap.size ra k rc _ rfl hR2 _ rfl rfl (by omega) hb12.size ?_)
            intro ra3 rc3 w3 hR3 hc3
            have hb3 := hb12.trans (hR2.chgBelow hc3 hb12.size)
            have hap : ∀ b o, qa2 = some ⟨b, o, none⟩ → ¬ (Value.slice ra k rc).ownBlock = some b := fun b o e h => by
              obtain ⟨cur, e1⟩ := HT2.out b o e
              obtain ⟨cur', e2⟩ := hR2.typedI h
              rw [e1] at e2
              simp at e2
            have hP3 := HP2.out.chg hc3 hap
            have hT3 : TyI w3 qa2 := fun b o e => by
              obtain ⟨cur, e1⟩ := HT2.out b o e
              exact ⟨cur, (hc3.block b (Array.getElem?_eq_some_iff.1 e1).1 (hap b o e)).trans e1⟩
            have hat3 : RunAt w1 (scrL (ls.take (k + 1))) qa2 qk2 qc2 ra3 (k + 1) rc3 w3 := by
              rw [Hsn.out]
              refine ⟨⟨hP3, hT3⟩, ?_, hb3⟩
              simp only [List.map_append, List.map_cons, List.map_nil]
              unfold strVs at hR3 ⊢
              rw [List.map_append]
              exact hR3
            clear hb12 hR2 hR3 hc3 hb3 hap hP3 hT3 HP2 HT2
            have Hat3 := Lib.hid hat3; clear hat3
            go_wp2
            go_roundw
            case rel => exact ⟨k + 1, qa2, qk2, qc2, ra3, rc3, by omega, by go_num, rfl, rfl, Hat3⟩
            case measure => simp [intOf]; omega
          · obtain rfl : k = K := by omega
            have htk : ls.take k = ls := List.take_of_length_le (by omega)
            rw [htk] at hP hR
            have hbw := belowTrans Hb1.out hbr (Nat.le_refl _)
            have hR4 := hR.mono Hb1.out.size (Nat.le_refl _)
            clear hR hbr Hat hT htk
            have HP := Lib.hid hP; clear hP
            have HR4 := Lib.hid hR4; clear hR4
            have Hbw := Lib.hid hbw; clear hbw
            go_wp2
            go_ret3
            refine ⟨pa, pk, pc, ra, k, rc, ?_, ?_, ?_, Hbw.out⟩
            · rw [Hsome.out]; rfl
            · rw [Hr.out]; exact HP.out
            · rw [Hr.out]; exact HR4.out
      · have h5i : (50 : Int) < (K : Int) := by omega
        have h5d : decide ((50 : Int) < (K : Int)) = true := decide_eq_true h5i
        have hn := Hno.out (fun q => h5 q.2.2)
        have hfin := Hnone.out w1 hn hb1
        clear hK hle hx h5 hb1 hxn htk
        have Hn := Lib.hid hn; clear hn
        have Hfin := Lib.hid hfin; clear hfin
        go_wp2
        go_ret3
        exact Hfin.out
    · have hc0 : (ByteArray.toList ⟨x.toArray⟩ == ([] : List UInt8)) = false := bytes_ne (s := ⟨x.toArray⟩) hx0
      have hc1 : (x == []) = false := by simpa using hx0
      have hc2 : x.isEmpty = false := by simpa using hx0
      have hc3 : decide (x = []) = false := by simpa using hx0
      have hn := hxn hx0
      have hfin := Hnone.out w1 hn hb1
      clear hK hle hx hb1 hxn htk
      have Hn := Lib.hid hn; clear hn
      have Hx0 := Lib.hid hx0; clear hx0
      have Hfin := Lib.hid hfin; clear hfin
      go_wp2
      go_ret3
      exact Hfin.out
  · have h3i : (3000 : Int) < (s.size : Int) := by omega
    have hn := lines_no (s := s.data.toList) (fun q => h3 (by omega))
    have hfin := run_none (w := w) (w1 := w) hn hb0
    clear hsz h3
    have Hn := Lib.hid hn; clear hn
    have Hfin := Lib.hid hfin; clear hfin
    go_enter Tryz.func49, Tryz.ntmps49
    go_wp2
    go_ret3
    exact Hfin.out
end
end Go.Proofs.YtimmjimeldejjaaGreatDoor
namespace Go.Proofs.YtimmjimeldejjaaGreatDoor
section
open Go.RowKit
set_option linter.unusedVariables false
set_option linter.unusedSimpArgs false
set_option maxRecDepth 20000

theorem spec_RunScript (s : ByteArray) (w : World) (hs : s.size ≤ 1048576) :
    Calls Tryz.prog 20 #[.string s] w fun e w' => ∃ a m c, e = .returned (.tuple #[.slice a m c, .bool (mRunScript s.data.toList).2]) ∧ OwnRow w.heap.size w'.heap.size w' 9 a m c (strVs (mRunScript s.data.toList).1) ∧ Below w.heap.size w w' := by
  have hcon := coRun_any s w hs
  unfold RunPost at hcon
  rw [mRS_resS]
  simp only
  clear hs
  have Hcon := Lib.hid hcon; clear hcon
  go_enter Tryz.func20, Tryz.ntmps20
  go_wp2_with fail
  with_reducible refine (Hcon.out).mono ?_
  rintro e w1 ⟨pa, pk, pc, ra, rn, rc, rfl, hP, hR, hb1⟩
  have HP := Lib.hid hP; clear hP
  have HR := Lib.hid hR; clear hR
  have Hb1 := Lib.hid hb1; clear hb1
  go_wp2
  go_ret2
  exact ⟨ra, rn, rc, rfl, HR.out, Hb1.out⟩
theorem spec_DeskAfter (s : ByteArray) (w : World) (hs : s.size ≤ 1048576) :
    Calls Tryz.prog 31 #[.string s] w fun e w' => ∃ a m c, e = .returned (.tuple #[.slice a m c, .bool (mDeskAfter s.data.toList).2]) ∧ Own w.heap.size w'.heap.size w' a m c (mDeskAfter s.data.toList).1 ∧ Below w.heap.size w w' := by
  have hcon := coRun_any s w hs
  unfold RunPost at hcon
  rw [mDA_resS]
  simp only
  have hlen := dkRes_good s.data.toList
  clear hs
  have Hcon := Lib.hid hcon; clear hcon
  go_enter Tryz.func31, Tryz.ntmps31
  go_wp2_with fail
  with_reducible refine (Hcon.out).mono ?_
  rintro e w1 ⟨pa, pk, pc, ra, rn, rc, rfl, hP, hR, hb1⟩
  have how := l1Own_any pa pk pc _ w1 hP (by have := hP.length; omega)
  have hsz := hb1.size
  clear hP hR
  have How := Lib.hid how; clear how
  have Hb1 := Lib.hid hb1; clear hb1
  go_wp2_with fail
  with_reducible refine (How.out).mono ?_
  rintro e w2 ⟨a2, c2, rfl, ho2, hb2⟩
  have hbf := belowTrans Hb1.out hb2 (Nat.le_refl _)
  have ho3 := ho2.mono hsz (Nat.le_refl _)
  clear ho2 hb2
  have Hbf := Lib.hid hbf; clear hbf
  have Ho3 := Lib.hid ho3; clear ho3
  go_wp2
  go_ret2
  exact ⟨a2, pk, c2, rfl, Ho3.out, Hbf.out⟩
theorem failF_step {l : List Ans} {k n : Nat} (hl : l.length = n) (hk : k < n) : failF 0 (l.take (k + 1)) = failF 0 (l.take k) ++ if badA (l.getD k .what) = true then [((k + 1 : Nat) : Int)] else [] := by
  have e : l.take (k + 1) = l.take k ++ [l.getD k .what] := by
    rw [List.take_add_one, List.getElem?_eq_getElem (by omega), List.getD_eq_getElem?_getD, List.getElem?_eq_getElem (by omega)]; rfl
  rw [e, failF_snoc, List.length_take, show 0 + min k l.length + 1 = k + 1 by omega]
theorem isBad_iff (t : List UInt8) : isBad t = (((⟨t.toArray⟩ : ByteArray).toList == [110, 111]) || ((⟨t.toArray⟩ : ByteArray).toList == [119, 104, 97, 116])) := by
  unfold isBad
  rw [ByteArray.toList_eq]
  show _ = ((t == _) || (t == _))
  have key : ∀ u : List UInt8, decide (t = u) = (t == u) := fun u => by
    by_cases h : t = u
    · subst h; simp
    · simp [h]
  rw [key, key]
theorem mFL_bound (s : List UInt8) : (mFailedLines s).1.length ≤ 50 := by
  rw [mFL_resS]
  have h1 := failF_length (dkRes s).2 0
  have h2 := dkRes_len s
  show (failF 0 (dkRes s).2).length ≤ 50
  omega
theorem mRS_bound (s : List UInt8) : (mRunScript s).1.length ≤ 50 := by
  rw [mRS_resS]
  have h2 := dkRes_len s
  show ((dkRes s).2.map repA).length ≤ 50
  rw [List.length_map]; exact h2
theorem mDA_bound (s : List UInt8) : (mDeskAfter s).1.length ≤ 28 := by
  rw [mDA_resS]; exact dkRes_good s
set_option maxHeartbeats 3200000 in
theorem spec_FailedLines (s : ByteArray) (w : World) (hs : s.size ≤ 1048576) :
    Calls Tryz.prog 32 #[.string s] w fun e w' => ∃ a m c, e = .returned (.tuple #[.slice a m c, .bool (mFailedLines s.data.toList).2]) ∧ Own w.heap.size w'.heap.size w' a m c (mFailedLines s.data.toList).1 ∧ Below w.heap.size w w' := by
  have hcon := coRun_any s w hs
  unfold RunPost at hcon
  rw [mFL_resS]
  simp only
  have hlen := dkRes_len s.data.toList
  have hfine := dkRes_fine s.data.toList
  generalize (dkRes s.data.toList).2 = As at *
  generalize (linesS s.data.toList).isSome = ok at *
  have hcon2 := hcon.mono (R' := fun e w' => ∃ p ra rn rc, e = .returned (.tuple #[p, .slice ra rn rc, .bool ok]) ∧ OwnRow w.heap.size w'.heap.size w' 9 ra rn rc (strVs (As.map repA)) ∧ Below w.heap.size w w')
    (fun e w' ⟨pa, pk, pc, ra, rn, rc, e1, _, e3, e4⟩ => ⟨_, ra, rn, rc, e1, e3, e4⟩)
  clear hs hcon
  have Hcon2 := Lib.hid hcon2; clear hcon2
  have Hfine := Lib.hid hfine; clear hfine
  go_enter Tryz.func32, Tryz.ntmps32
  go_wp2_with fail
  with_reducible refine (Hcon2.out).mono ?_
  rintro e w1 ⟨p, ra, rn, rc, rfl, hR, hb1⟩
  have hv := hR.at
  have hal : As.length = rn := by have := hR.length; simpa [strVs] using this
  have hrn8 : (rn : Int) ≤ 50 := by omega
  have hsz := hb1.size
  clear hR
  have Hb1 := Lib.hid hb1; clear hb1
  go_wp2_with fail
  go_loopw [7, 18] (fun v i wr => ∃ (k m : Nat) (a : Option Addr) (c : Nat), k ≤ rn ∧ m ≤ k ∧ i = .int .i64 k ∧ v = .slice a m c ∧ Hid (Own w1.heap.size wr.heap.size wr a m c (failF 0 (As.take k)) ∧ Below w1.heap.size w1 wr)) (fun _ i _ => rn - (intOf i).toNat)
  case atStart => exact ⟨0, 0, none, 0, Nat.zero_le _, Nat.le_refl _, rfl, rfl, Lib.hid ⟨Own.nil _ _ _, Below.refl _ _⟩⟩
  case round =>
    obtain ⟨k, m, a, c, hk, hm, rfl, rfl, Hq⟩ := hrel
    obtain ⟨hF, hbr⟩ := Hq.out
    by_cases hlt : k < rn
    · have hvr := hv.keep hbr
      obtain ⟨b', o', rfl, hw1⟩ := wordAt hvr hlt
      have hst := failF_step hal hlt
      have hgx : (As.map repA).getD k [] = repA (As.getD k .what) := by
        rw [List.getD_eq_getElem?_getD, List.getElem?_map, List.getElem?_eq_getElem (by omega), List.getD_eq_getElem?_getD, List.getElem?_eq_getElem (by omega)]; rfl
      have hfx : FineA (As.getD k .what) := Hfine.out _ (by rw [List.getD_eq_getElem?_getD, List.getElem?_eq_getElem (by omega)]; exact List.getElem_mem _)
      have hbx := bad_rep hfx
      rw [isBad_iff] at hbx
      rw [hgx] at hw1
      generalize As.getD k .what = x at *
      clear hgx hfx hvr Hq
      cases hx : badA x
      · rw [hx] at hbx hst
        rw [if_neg (by simp), List.append_nil] at hst
        rw [Bool.or_eq_false_iff] at hbx
        obtain ⟨n1, n2⟩ := hbx
        have hq2 : Hid (Own w1.heap.size wr.heap.size wr a m c (failF 0 (As.take (k + 1))) ∧ Below w1.heap.size w1 wr) := Lib.hid ⟨by rw [hst]; exact hF, hbr⟩
        generalize (⟨(repA x).toArray⟩ : ByteArray) = u at *
        clear hst hF hbr hx
        go_wp2
        go_roundw
        case rel => exact ⟨k + 1, m, a, c, by omega, by omega, by go_num, rfl, hq2⟩
        case measure => simp [intOf]; omega
      · rw [hx] at hbx hst
        rw [if_pos rfl] at hst
        have hor : ((⟨(repA x).toArray⟩ : ByteArray).toList == [110, 111]) = true ∨ (((⟨(repA x).toArray⟩ : ByteArray).toList == [110, 111]) = false ∧ ((⟨(repA x).toArray⟩ : ByteArray).toList == [119, 104, 97, 116]) = true) := by
          cases h1 : ((⟨(repA x).toArray⟩ : ByteArray).toList == [110, 111])
          · rw [h1, Bool.false_or] at hbx; exact .inr ⟨rfl, hbx⟩
          · exact .inl rfl
        generalize (⟨(repA x).toArray⟩ : ByteArray) = u at *
        have hm8 : m ≤ 50 := by omega
        clear hbx hx
        have Hst := Lib.hid hst; clear hst
        rcases hor with n1 | ⟨n1, n2⟩
        all_goals
          go_wp2_with (at_builtin; refine wpList_push wr rfl _ _ rfl w1.heap.size wr.heap.size a m c _ rfl hF _ rfl (by omega) hbr.size ?_)
          intro a3 c3 w3 ho3 hc3
          have hb3 := hbr.trans (hF.chgBelow hc3 hbr.size)
          have hq3 : Hid (Own w1.heap.size w3.heap.size w3 a3 (m + 1) c3 (failF 0 (As.take (k + 1))) ∧ Below w1.heap.size w1 w3) := Lib.hid ⟨by rw [Hst.out]; exact ho3, hb3⟩
          clear hF hbr ho3 hc3 hb3
          go_wp2
          go_roundw
          case rel => exact ⟨k + 1, m + 1, a3, c3, by omega, by omega, by go_num, rfl, hq3⟩
          case measure => simp [intOf]; omega
    · obtain rfl : k = rn := by omega
      have htk : As.take k = As := List.take_of_length_le (by omega)
      rw [htk] at hF
      have hbw := belowTrans Hb1.out hbr (Nat.le_refl _)
      have hF2 := hF.mono hsz (Nat.le_refl _)
      clear hF hbr Hq htk
      have HF2 := Lib.hid hF2; clear hF2
      have Hbw := Lib.hid hbw; clear hbw
      go_wp2
      go_ret2
      exact ⟨a, m, c, rfl, HF2.out, Hbw.out⟩
end
end Go.Proofs.YtimmjimeldejjaaGreatDoor
