/- Several texts in one: CoK, CoL, CoS, CoT, CoU. No condition. -/
import Derived.Test.YtimmjimeldejjaaGreatDoorCoJ
import Derived.Test.YtimmjimeldejjaaGreatDoorCo2
import Derived.Test.YtimmjimeldejjaaGreatDoorDk0
import Derived.Test.YtimmjimeldejjaaGreatDoorDk3
import Derived.Test.YtimmjimeldejjaaGreatDoorSt
import Derived.Test.YtimmjimeldejjaaGreatDoorGb
import Derived.Test.YtimmjimeldejjaaGreatDoorExA
namespace Go.Proofs.YtimmjimeldejjaaGreatDoor
section
open Go.RowKit
set_option linter.unusedVariables false
set_option linter.unusedSimpArgs false
set_option maxRecDepth 20000

theorem nDigits_pow (k : Nat) : ∀ n, n < 10 ^ (k + 1) → Lib.nDigits n ≤ k + 1 := by
  induction k with
  | zero =>
    intro n h
    rw [Lib.nDigits]
    split
    · omega
    · omega
  | succ k ih =>
    intro n h
    rw [Lib.nDigits]
    split
    · omega
    · have := ih (n / 10) (by rw [Nat.pow_succ] at h; omega)
      omega
theorem run_keep {a : List Int} {l : Ln} {o : Ord} (h : movesO o = false) : (runO a l o).1 = a := by
  cases o with
  | take => cases h
  | step => cases h
  | steps => cases h
  | side => cases h
  | past => cases h
  | stairs => cases h
  | sort => cases h
  | shown => rfl
  | row => rfl
  | bank => rfl
  | cards => show (numA a _).1 = a; unfold numA; split <;> rfl
  | pasts => show (numA a _).1 = a; unfold numA; split <;> rfl
  | tail => show (numA a _).1 = a; unfold numA; split <;> rfl
  | length => show (numA a _).1 = a; unfold numA; split <;> rfl
  | orbit => simp only [runO]; split <;> rfl
  | start => simp only [runO]; split <;> rfl
theorem num_text {a : List Int} {x : Int × Bool} {n : Nat} (h : x = ((n : Int), true)) : repA (numA a x).2 = Lib.decDigits n := by
  subst h; rfl
section
variable {g : Nat} {pa : Option Addr} {pn pc : Nat} {la : Option Addr} {ln lc : Nat} {ba : Option Addr} {bn bc : Nat} {na : Option Addr} {nn nc : Nat} {ty : TypeId}
theorem asked_any (o : Ord) (hm : movesO o = false) {w : World} {l : Ln} (hh : LnB w g pa pn pc la ln lc l.bank.h l.bank.l ba bn bc na nn nc ty) {a : List Int} (hP : IntsAt w pa pn pc a) (ha : Good a) (ho : IntsAt w la ln lc l.list) (hbp : IntsAt w ba bn bc l.bank.p) (hn : IntsAt w na nn nc l.n) (hk : KdOk (kdO o) l) :
    Calls Tryz.prog 71 #[.pointer (some ⟨g, 0, none⟩), .string ⟨(wordO o).toArray⟩] w fun e w' => e = .returned (.string ⟨(repA (runO a l o).2).toArray⟩) ∧ Below w.heap.size w w' := by
  have hgb := good_iff.2 ha
  cases o with
  | take => cases hm
  | step => cases hm
  | steps => cases hm
  | side => cases hm
  | past => cases hm
  | stairs => cases hm
  | sort => cases hm
  | shown => exact asked_show hh hP ha
  | cards =>
    obtain ⟨n, h1, h2⟩ := good_sumN ha
    have hx : mCardsOf a = ((n : Int), true) := by unfold mCardsOf; rw [hgb, h2]; rfl
    show Calls Tryz.prog _ _ _ fun e w' => e = .returned (.string ⟨(repA (numA a (mCardsOf a)).2).toArray⟩) ∧ _
    rw [num_text hx]
    exact asked_cards hh hP (by omega) hx
  | pasts =>
    have hx : mPastCount a = (((pastsL a).length : Int), true) := by unfold mPastCount; rw [hgb]; rfl
    have h1 := pastsL_length a
    have h2 := ha.len
    show Calls Tryz.prog _ _ _ fun e w' => e = .returned (.string ⟨(repA (numA a (mPastCount a)).2).toArray⟩) ∧ _
    rw [num_text hx]
    exact asked_pasts hh hP (by omega) hx
  | tail =>
    have hx : mTailOf a = ((tailL a : Int), true) := by unfold mTailOf; rw [hgb]; rfl
    have h1 := (tailL_spec ha).1
    show Calls Tryz.prog _ _ _ fun e w' => e = .returned (.string ⟨(repA (numA a (mTailOf a)).2).toArray⟩) ∧ _
    rw [num_text hx]
    exact asked_tail hh hP (by omega) hx
  | length =>
    have hx : mCycleLength a = (((cycL a).length : Int), true) := by unfold mCycleLength; rw [hgb]; rfl
    have h1 := cycL_length ha
    show Calls Tryz.prog _ _ _ fun e w' => e = .returned (.string ⟨(repA (numA a (mCycleLength a)).2).toArray⟩) ∧ _
    rw [num_text hx]
    exact asked_length hh hP (by omega) hx
  | row => exact asked_row hh ho hk
  | orbit =>
    rcases orb_nat l.list with ⟨T, L, hT, hL, hx⟩ | hx
    · have h1 : (Lib.decDigits T).length ≤ 100 := by rw [Lib.decDigits_length]; have := nDigits_pow 3 T (by omega); omega
      have h2 : (Lib.decDigits L).length ≤ 100 := by rw [Lib.decDigits_length]; have := nDigits_pow 3 L (by omega); omega
      have e : repA (runO a l .orbit).2 = Lib.decDigits T ++ [32] ++ Lib.decDigits L := by simp only [runO, hx]; rfl
      rw [e]
      exact asked_orbit hh ho hT hL h1 h2 hx
    · have e : repA (runO a l .orbit).2 = [110, 111] := by simp only [runO, hx]; rfl
      rw [e]
      exact asked_orbitNo hh ho hx
  | bank => exact asked_bank hh hbp hk
  | start =>
    obtain ⟨x, y, _, _, hxy⟩ : ∃ x y, 0 ≤ x ∧ 0 ≤ y ∧ l.n = [x, y] := hk
    rw [hxy] at hn
    have e : repA (runO a l .start).2 = if (mStartBank x y).2 = true then bankL (mStartBank x y).1 else [110, 111] := by
      simp only [runO, hxy, List.getD_cons_zero, List.getD_cons_succ]
      split <;> rfl
    rw [e]
    exact asked_start hh hn (fun b hb => by have := mStart_ok x y (by rw [hb]); rw [hb] at this; exact this)
end
end
end Go.Proofs.YtimmjimeldejjaaGreatDoor
namespace Go.Proofs.YtimmjimeldejjaaGreatDoor
section
open Go.RowKit
set_option linter.unusedVariables false
set_option linter.unusedSimpArgs false
set_option maxRecDepth 20000

def CsPost (ao : Option Addr) (a : List Int) (s : List UInt8) (w : World) (e : Ending) (w' : World) : Prop :=
  ∃ pa pn pc, e = .returned (.tuple #[.slice pa pn pc, .string ⟨(repA (lineA a s).2).toArray⟩]) ∧ PlAt ao w' pa pn pc (lineA a s).1 ∧ Below w.heap.size w w'
theorem Chg.belowG {g : Nat} {w0 w w' : World} (h : Below w0.heap.size w0 w) (hc : Chg (fun k => k = g) w w') (hg : w0.heap.size ≤ g) : Below w0.heap.size w0 w' :=
  h.trans (hc.below h.size (fun k hk => by omega))
section
variable {ao : Option Addr} {n cap : Nat} {a : List Int} {s : ByteArray} {w : World}
set_option maxHeartbeats 3200000 in
theorem coStep_any (hs : s.size ≤ 1048576) (hA : IntsAt w ao n cap a) (ha : Good a) :
    Calls Tryz.prog 41 #[.slice ao n cap, .string s] w fun e w' => CsPost ao a s.data.toList w e w' := by
  have hcon := coRead_any ao n cap s w hs
  unfold RdPost at hcon
  have Hcon := Lib.hid hcon; clear hcon
  go_enter Tryz.func41, Tryz.ntmps41
  go_wp2_with fail
  with_reducible refine (Hcon.out).mono ?_
  rintro e w1 ⟨hb1, ⟨x, ⟨pa, pn, pc, la, ln, lc, bh, bl, ba, bn, bc, na, nn, nc, rfl⟩, rfl, hno⟩ | ⟨o, l, la, ln, lc, ba, bn, bc, na, nn, nc, rfl, hyes, hk, hl, hbk, hn⟩⟩
  · have hbv := belowTrans hb1 (belowAlloc w1 (.cells #[.slice pa pn pc, .slice la ln lc, .int .i64 bh, .int .i64 bl, .slice ba bn bc, .slice na nn nc] 96)) (Nat.le_refl _)
    have hA2 := hA.keep hbv
    have Hbv := Lib.hid hbv; clear hbv
    have Hno := Lib.hid hno; clear hno
    have HA2 := Lib.hid hA2; clear hA2
    clear hb1
    go_wp2
    go_ret2
    refine ⟨ao, n, cap, ?_, ?_, Hbv.out⟩
    · rw [Hno.out a]; rfl
    · rw [Hno.out a]; exact ⟨HA2.out, .inl rfl⟩
  · have hba := belowAlloc w1 (.cells #[.slice ao n cap, .slice la ln lc, .int .i64 l.bank.h, .int .i64 l.bank.l, .slice ba bn bc, .slice na nn nc] 96)
    have hbv := belowTrans hb1 hba (Nat.le_refl _)
    have m1 := LnB.new w1 ao n cap la ln lc l.bank.h l.bank.l ba bn bc na nn nc 96
    have hA2 := hA.keep hbv
    have hl2 := hl.keep hba
    have hbk2 := hbk.keep hba
    have hn2 := hn.keep hba
    have hsz := hb1.size
    cases hm : movesO o
    · have has := asked_any o hm m1 hA2 ha hl2.at hbk2.at hn2.at hk
      have hkeep : (lineA a s.data.toList).1 = a := by rw [hyes]; exact run_keep hm
      have hrep : (lineA a s.data.toList).2 = (runO a l o).2 := by rw [hyes]
      have d1 : o ≠ .take := by rintro rfl; cases hm
      have d2 : o ≠ .step := by rintro rfl; cases hm
      have d3 : o ≠ .steps := by rintro rfl; cases hm
      have d4 : o ≠ .side := by rintro rfl; cases hm
      have d5 : o ≠ .past := by rintro rfl; cases hm
      have d6 : o ≠ .stairs := by rintro rfl; cases hm
      have d7 : o ≠ .sort := by rintro rfl; cases hm
      have inj : ∀ o' : Ord, o ≠ o' → wordO o ≠ wordO o' := fun o' h e => h (by have := ordOf_word o; rw [e, ordOf_word] at this; exact (Option.some.inj this).symm)
      have e1 := bytes_ne (s := ⟨(wordO o).toArray⟩) (inj .take d1)
      have e2 := bytes_ne (s := ⟨(wordO o).toArray⟩) (inj .step d2)
      have e3 := bytes_ne (s := ⟨(wordO o).toArray⟩) (inj .steps d3)
      have e4 := bytes_ne (s := ⟨(wordO o).toArray⟩) (inj .side d4)
      have e5 := bytes_ne (s := ⟨(wordO o).toArray⟩) (inj .past d5)
      have e6 := bytes_ne (s := ⟨(wordO o).toArray⟩) (inj .stairs d6)
      have e7 := bytes_ne (s := ⟨(wordO o).toArray⟩) (inj .sort d7)
      have hfin := fun w3 (hb : Below (w1.alloc (.cells #[.slice ao n cap, .slice la ln lc, .int .i64 l.bank.h, .int .i64 l.bank.l, .slice ba bn bc, .slice na nn nc] 96)).heap.size (w1.alloc (.cells #[.slice ao n cap, .slice la ln lc, .int .i64 l.bank.h, .int .i64 l.bank.l, .slice ba bn bc, .slice na nn nc] 96)) w3) => (⟨hA2.keep hb, belowTrans hbv hb (Nat.le_refl _)⟩ : IntsAt w3 ao n cap a ∧ Below w.heap.size w w3)
      clear d1 d2 d3 d4 d5 d6 d7 inj hba hbv m1 hA2 hl2 hbk2 hn2 hl hbk hn hb1 hyes hm hk
      generalize wordO o = u at *
      simp only [wordO] at e1 e2 e3 e4 e5 e6 e7
      generalize (⟨u.toArray⟩ : ByteArray) = v at *
      have Has := Lib.hid has; clear has
      have Hkeep := Lib.hid hkeep; clear hkeep
      have Hrep := Lib.hid hrep; clear hrep
      have Hfin := Lib.hid hfin; clear hfin
      go_wp2_with fail
      with_reducible refine (Has.out).mono ?_
      rintro e w2 ⟨rfl, hb2⟩
      have hf := Hfin.out w2 hb2
      clear hb2
      have Hf := Lib.hid hf; clear hf
      go_wp2
      go_ret2
      refine ⟨ao, n, cap, ?_, ?_, Hf.out.2⟩
      · rw [Hrep.out]; rfl
      · rw [Hkeep.out]; exact ⟨Hf.out.1, .inl rfl⟩
    · have hmv := moved_any o hm m1 hA2 ha hl2 (.inr (by decide)) hn2 hk
      have hr : lineA a s.data.toList = runO a l o := hyes a
      unfold MvPost at hmv
      have hch := fun w3 (hc : Chg (fun k => k = w1.heap.size) (w1.alloc (.cells #[.slice ao n cap, .slice la ln lc, .int .i64 l.bank.h, .int .i64 l.bank.l, .slice ba bn bc, .slice na nn nc] 96)) w3) => Chg.belowG hbv hc hsz
      clear hba hbv m1 hA2 hl2 hbk2 hn2 hl hbk hn hb1 hyes hk
      have Hmv := Lib.hid hmv; clear hmv
      have Hr := Lib.hid hr; clear hr
      have Hch := Lib.hid hch; clear hch
      cases o
      all_goals try cases hm
      all_goals
        go_wp2_with fail
        with_reducible refine (Hmv.out).mono ?_
        rintro e w2 ⟨qa, qn, qc, rfl, q1, q2, q3⟩
        obtain ⟨⟨x0, x1, x2, x3, x4, x5⟩, y0, y1, y2, y3, y4, y5⟩ := q1.cells
        have hb := Hch.out w2 q3
        have Q2 := Lib.hid q2; clear q2
        have Hb := Lib.hid hb; clear hb
        clear q1 q3 x1 x2 x3 x4 x5 y0 y1 y2 y3 y4 y5
        go_wp2
        go_ret2
        refine ⟨qa, qn, qc, ?_, ?_, Hb.out⟩
        · rw [Hr.out]; rfl
        · rw [Hr.out]; exact Q2.out
end
end
end Go.Proofs.YtimmjimeldejjaaGreatDoor
namespace Go.Proofs.YtimmjimeldejjaaGreatDoor
section
open Go.RowKit
set_option linter.unusedVariables false
set_option linter.unusedSimpArgs false
set_option maxRecDepth 20000

theorem count_no {c : UInt8} {l : List UInt8} : (splitL c l).length = 1 ↔ c ∉ l := by
  rw [splitL_length]
  constructor
  · intro h hm
    have := List.count_pos_iff.2 hm
    omega
  · intro h
    rw [List.count_eq_zero.2 h]
theorem mDLs_no {a : List Int} {s : List UInt8} (h : ¬ (goodB a = true ∧ s.length ≤ 3000 ∧ (10 : UInt8) ∉ s)) : mDeskLine a s = ([], [], false) := by unfold mDeskLine; rw [if_neg h]
theorem mDLs_yes {a : List Int} {s : List UInt8} (h : goodB a = true ∧ s.length ≤ 3000 ∧ (10 : UInt8) ∉ s) : mDeskLine a s = ((lineA a s).1, repA (lineA a s).2, true) := by unfold mDeskLine; rw [if_pos h]
set_option maxHeartbeats 3200000 in
theorem spec_DeskLine (ao : Option Addr) (n cap : Nat) (xs : List Int) (s : ByteArray) (w : World) (h : IntsAt w ao n cap xs) (hs : s.size ≤ 1048576) :
    Calls Tryz.prog 12 #[.slice ao n cap, .string s] w fun e w' => ∃ a m c, e = .returned (.tuple #[.slice a m c, .string ⟨(mDeskLine xs s.data.toList).2.1.toArray⟩, .bool (mDeskLine xs s.data.toList).2.2]) ∧ Own w.heap.size w'.heap.size w' a m c (mDeskLine xs s.data.toList).1 ∧ Below w.heap.size w w' := by
  have hsz : s.data.toList.length = s.size := rfl
  have hb0 := Below.refl w.heap.size w
  have hgd := piGood_any ao n cap xs w h
  cases hg : goodB xs
  · have hm := mDLs_no (a := xs) (s := s.data.toList) (fun q => by rw [hg] at q; cases q.1)
    rw [hg] at hgd
    clear hsz hs h
    have Hgd := Lib.hid hgd; clear hgd
    have Hm := Lib.hid hm; clear hm
    have Hg := Lib.hid hg; clear hg
    go_enter Tryz.func12, Tryz.ntmps12
    go_wp2_with fail
    with_reducible refine (Hgd.out).mono ?_
    rintro e w1 ⟨rfl, rfl⟩
    go_wp2
    go_ret3
    rw [Hm.out]
    exact ⟨none, 0, 0, rfl, Own.nil _ _ _, hb0⟩
  · rw [hg] at hgd
    by_cases h3 : s.size ≤ 3000
    · have h3i : ¬ (3000 : Int) < (s.size : Int) := by omega
      have hsp := l1Split_any s 10 w hs
      simp only [show (((10 : UInt8).toNat : Nat) : Int) = 10 from rfl] at hsp
      have hcn := count_no (c := 10) (l := s.data.toList)
      have hne := splitL_ne 10 s.data.toList
      by_cases hnl : (10 : UInt8) ∈ s.data.toList
      · have hm := mDLs_no (a := xs) (s := s.data.toList) (fun q => q.2.2 hnl)
        have hl1 : 1 < (splitL 10 s.data.toList).length := by
          have h1 : (splitL 10 s.data.toList).length ≠ 1 := fun e => hcn.1 e hnl
          have h2 : (splitL 10 s.data.toList).length ≠ 0 := fun e => hne (List.length_eq_zero_iff.1 e)
          omega
        clear hsz hs h h3 hcn hne
        have Hgd := Lib.hid hgd; clear hgd
        have Hm := Lib.hid hm; clear hm
        have Hg := Lib.hid hg; clear hg
        have Hsp := Lib.hid hsp; clear hsp
        have Hnl := Lib.hid hnl; clear hnl
        have Hl1 := Lib.hid hl1; clear hl1
        go_enter Tryz.func12, Tryz.ntmps12
        go_wp2_with fail
        with_reducible refine (Hgd.out).mono ?_
        rintro e w1 ⟨rfl, rfl⟩
        go_wp2_with fail
        with_reducible refine (Hsp.out).mono ?_
        rintro e w2 ⟨qa, qn, qc, rfl, how, hb2⟩
        have hqn : (1 : Int) < (qn : Int) := by have h1 := how.length; have h2 := Hl1.out; simp [strVs] at h1; omega
        clear how
        have Hb2 := Lib.hid hb2; clear hb2
        go_wp2
        go_ret3
        rw [Hm.out]
        exact ⟨none, 0, 0, rfl, Own.nil _ _ _, Hb2.out⟩
      · have hm := mDLs_yes (a := xs) (s := s.data.toList) ⟨hg, by omega, hnl⟩
        have hl1 : (splitL 10 s.data.toList).length = 1 := hcn.2 hnl
        have hG := good_iff.1 hg
        have hI := fun W (q : Below w.heap.size w W) => h.keep q
        clear hsz h hcn hne
        have Hgd := Lib.hid hgd; clear hgd
        have Hm := Lib.hid hm; clear hm
        have Hg := Lib.hid hg; clear hg
        have Hsp := Lib.hid hsp; clear hsp
        have Hnl := Lib.hid hnl; clear hnl
        have Hl1 := Lib.hid hl1; clear hl1
        have HG := Lib.hid hG; clear hG
        have HI := Lib.hid hI; clear hI
        go_enter Tryz.func12, Tryz.ntmps12
        go_wp2_with fail
        with_reducible refine (Hgd.out).mono ?_
        rintro e w1 ⟨rfl, rfl⟩
        go_wp2_with fail
        with_reducible refine (Hsp.out).mono ?_
        rintro e w2 ⟨qa, qn, qc, rfl, how, hb2⟩
        have hqn : qn = 1 := by have h1 := how.length; have h2 := Hl1.out; simp [strVs] at h1; omega
        subst hqn
        have hcs := coStep_any (s := s) hs (HI.out w2 hb2) HG.out
        unfold CsPost at hcs
        clear how
        have Hb2 := Lib.hid hb2; clear hb2
        have Hcs := Lib.hid hcs; clear hcs
        go_wp2_with fail
        with_reducible refine (Hcs.out).mono ?_
        rintro e w3 ⟨pa, pk, pc, rfl, ⟨hP, -⟩, hb3⟩
        have hb23 := belowTrans Hb2.out hb3 (Nat.le_refl _)
        have hpl : pk ≤ 28 := by have h1 := hP.length; have h2 := (line_good HG.out s.data.toList).len; omega
        have how := l1Own_any pa pk pc _ w3 hP (by omega)
        clear hb3 hP
        have How := Lib.hid how; clear how
        have Hb23 := Lib.hid hb23; clear hb23
        go_wp2_with fail
        with_reducible refine (How.out).mono ?_
        rintro e w4 ⟨a4, c4, rfl, ho4, hb4⟩
        have hbf := belowTrans Hb23.out hb4 (Nat.le_refl _)
        have ho5 := ho4.mono (Hb23.out.size) (Nat.le_refl _)
        clear ho4 hb4
        have Hbf := Lib.hid hbf; clear hbf
        have Ho5 := Lib.hid ho5; clear ho5
        go_wp2
        go_ret3
        rw [Hm.out]
        exact ⟨a4, pk, c4, rfl, Ho5.out, Hbf.out⟩
    · have h3i : (3000 : Int) < (s.size : Int) := by omega
      have hm := mDLs_no (a := xs) (s := s.data.toList) (fun q => h3 (by omega))
      clear hsz hs h h3
      have Hgd := Lib.hid hgd; clear hgd
      have Hm := Lib.hid hm; clear hm
      have Hg := Lib.hid hg; clear hg
      go_enter Tryz.func12, Tryz.ntmps12
      go_wp2_with fail
      with_reducible refine (Hgd.out).mono ?_
      rintro e w1 ⟨rfl, rfl⟩
      go_wp2
      go_ret3
      rw [Hm.out]
      exact ⟨none, 0, 0, rfl, Own.nil _ _ _, hb0⟩
end
end Go.Proofs.YtimmjimeldejjaaGreatDoor
namespace Go.Proofs.YtimmjimeldejjaaGreatDoor
section
open Go.RowKit
set_option linter.unusedVariables false
set_option linter.unusedSimpArgs false
set_option maxRecDepth 20000

end
end Go.Proofs.YtimmjimeldejjaaGreatDoor
namespace Go.Proofs.YtimmjimeldejjaaGreatDoor
section
open Go.RowKit
set_option linter.unusedVariables false
set_option linter.unusedSimpArgs false
set_option maxRecDepth 20000

end
end Go.Proofs.YtimmjimeldejjaaGreatDoor
