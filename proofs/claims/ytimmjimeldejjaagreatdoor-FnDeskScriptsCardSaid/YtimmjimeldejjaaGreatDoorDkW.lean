/- The console by the program: functions of the piles, for a line without more words. No condition but what the world must hold. -/
import Derived.Test.YtimmjimeldejjaaGreatDoorDk0
import Derived.Test.YtimmjimeldejjaaGreatDoorGh
import Derived.Test.YtimmjimeldejjaaGreatDoorGb
import Derived.Test.YtimmjimeldejjaaGreatDoorText
import Derived.Test.YtimmjimeldejjaaGreatDoorExA
import Derived.Test.YtimmjimeldejjaaGreatDoorGi
import Derived.Test.YtimmjimeldejjaaGreatDoorGn
namespace Go.Proofs.YtimmjimeldejjaaGreatDoor
open Go.RowKit
set_option linter.unusedVariables false
set_option linter.unusedSimpArgs false
set_option maxRecDepth 20000

set_option maxHeartbeats 1600000 in
theorem ofNo_StepPiles (pn pw : Addr) (wa : Option Addr) (wn wc : Nat) (pa : Option Addr) (pk pc : Nat) (a : List Int) (w : World) (hd : DkOk w pn pw) (hw : wn ≤ 4000) (hP : IntsAt w pa pk pc a) :
    Calls Tryz.prog 96 #[.slice wa wn wc, .slice pa pk pc, .func (.func 15) #[] #[]] w fun e w' => LsPost pn pw (noW wn (mStepPiles a)) w e w' := by
  by_cases h0 : wn = 0
  · subst h0
    have hcon := impl_StepPiles pa pk pc a w hP
    unfold noW
    rw [if_pos rfl]
    generalize mStepPiles a = x at hcon ⊢
    obtain ⟨ys, b⟩ := x
    simp only at hcon ⊢
    have hres := fun (v : Value) (w1 : World) (hb : Below w.heap.size w w1) => resList_any pn pw v b w1 (hd.keep hb)
    have hE := errB_got pn pw ys b
    clear hP hd hw
    have Hcon := Lib.hid hcon; clear hcon
    have Hres := Lib.hid hres; clear hres
    have HE := Lib.hid hE; clear hE
    go_enter Tryz.func96, Tryz.ntmps96
    go_wp2_with fail
    with_reducible refine (Hcon.out).mono ?_
    rintro e w1 ⟨a1, n1, c1, rfl, ho1, hb1⟩
    go_wp2_with fail
    with_reducible refine (Hres.out _ _ hb1).mono ?_
    rintro e w2 ⟨rfl, hb2⟩
    have hb := belowTrans hb1 hb2 (Nat.le_refl _)
    have Hb := Lib.hid hb; clear hb
    have Hb2 := Lib.hid hb2; clear hb2
    go_wp2
    go_ret2
    refine ⟨a1, n1, c1, by rw [HE.out]; rfl, fun x hx => ?_, Hb.out⟩
    cases b
    · cases hx
    · cases hx; exact (ho1.keep Hb2.out).mono (Nat.le_refl _) (Hb2.out).size
  · have hne : ((wn : Int) == 0) = false := by simp; omega
    have hdw := hd.what
    have hb0 := Below.refl w.heap.size w
    unfold noW
    rw [if_neg h0]
    clear hd hP hw
    have H0 := Lib.hid h0; clear h0
    go_enter Tryz.func96, Tryz.ntmps96
    go_wp2
    go_quiet (fail)
    go_wp2
    go_ret2
    exact ⟨none, 0, 0, rfl, fun x hx => (by cases hx), belowDrewN hb0 _⟩
set_option maxHeartbeats 1600000 in
theorem ofNo_SideOf (pn pw : Addr) (wa : Option Addr) (wn wc : Nat) (pa : Option Addr) (pk pc : Nat) (a : List Int) (w : World) (hd : DkOk w pn pw) (hw : wn ≤ 4000) (hP : IntsAt w pa pk pc a) :
    Calls Tryz.prog 96 #[.slice wa wn wc, .slice pa pk pc, .func (.func 100) #[] #[]] w fun e w' => LsPost pn pw (noW wn (mSideOf a)) w e w' := by
  by_cases h0 : wn = 0
  · subst h0
    have hcon := impl_SideOf pa pk pc a w hP
    unfold noW
    rw [if_pos rfl]
    generalize mSideOf a = x at hcon ⊢
    obtain ⟨ys, b⟩ := x
    simp only at hcon ⊢
    have hres := fun (v : Value) (w1 : World) (hb : Below w.heap.size w w1) => resList_any pn pw v b w1 (hd.keep hb)
    have hE := errB_got pn pw ys b
    clear hP hd hw
    have Hcon := Lib.hid hcon; clear hcon
    have Hres := Lib.hid hres; clear hres
    have HE := Lib.hid hE; clear hE
    go_enter Tryz.func96, Tryz.ntmps96
    go_wp2_with fail
    with_reducible refine (Hcon.out).mono ?_
    rintro e w1 ⟨a1, n1, c1, rfl, ho1, hb1⟩
    go_wp2_with fail
    with_reducible refine (Hres.out _ _ hb1).mono ?_
    rintro e w2 ⟨rfl, hb2⟩
    have hb := belowTrans hb1 hb2 (Nat.le_refl _)
    have Hb := Lib.hid hb; clear hb
    have Hb2 := Lib.hid hb2; clear hb2
    go_wp2
    go_ret2
    refine ⟨a1, n1, c1, by rw [HE.out]; rfl, fun x hx => ?_, Hb.out⟩
    cases b
    · cases hx
    · cases hx; exact (ho1.keep Hb2.out).mono (Nat.le_refl _) (Hb2.out).size
  · have hne : ((wn : Int) == 0) = false := by simp; omega
    have hdw := hd.what
    have hb0 := Below.refl w.heap.size w
    unfold noW
    rw [if_neg h0]
    clear hd hP hw
    have H0 := Lib.hid h0; clear h0
    go_enter Tryz.func96, Tryz.ntmps96
    go_wp2
    go_quiet (fail)
    go_wp2
    go_ret2
    exact ⟨none, 0, 0, rfl, fun x hx => (by cases hx), belowDrewN hb0 _⟩
set_option maxHeartbeats 1600000 in
theorem ofNo_PilesText (pn pw : Addr) (wa : Option Addr) (wn wc : Nat) (pa : Option Addr) (pk pc : Nat) (a : List Int) (w : World) (hd : DkOk w pn pw) (hw : wn ≤ 4000) (hP : IntsAt w pa pk pc a) :
    Calls Tryz.prog 106 #[.slice wa wn wc, .slice pa pk pc, .func (.func 16) #[] #[]] w fun e w' => TxPost pn pw (noW wn (mPilesText a)) w e w' := by
  by_cases h0 : wn = 0
  · subst h0
    have hcon := impl_PilesText pa pk pc a w hP
    unfold noW
    rw [if_pos rfl]
    generalize mPilesText a = x at hcon ⊢
    obtain ⟨ys, b⟩ := x
    simp only at hcon ⊢
    have hres := fun (v : Value) (w1 : World) (hb : Below w.heap.size w w1) => resStr_any pn pw v b w1 (hd.keep hb)
    have hE := errB_got pn pw ys b
    clear hP hd hw
    have Hcon := Lib.hid hcon; clear hcon
    have Hres := Lib.hid hres; clear hres
    have HE := Lib.hid hE; clear hE
    go_enter Tryz.func106, Tryz.ntmps106
    go_wp2_with fail
    with_reducible refine (Hcon.out).mono ?_
    rintro e w1 ⟨rfl, hb1⟩
    go_wp2_with fail
    with_reducible refine (Hres.out _ _ hb1).mono ?_
    rintro e w2 ⟨rfl, hb2⟩
    have hb := belowTrans hb1 hb2 (Nat.le_refl _)
    have Hb := Lib.hid hb; clear hb
    have Hb2 := Lib.hid hb2; clear hb2
    go_wp2
    go_ret2
    refine ⟨_, by rw [HE.out]; rfl, fun x hx => ?_, Hb.out⟩
    cases b
    · cases hx
    · cases hx; exact rfl
  · have hne : ((wn : Int) == 0) = false := by simp; omega
    have hdw := hd.what
    have hb0 := Below.refl w.heap.size w
    unfold noW
    rw [if_neg h0]
    clear hd hP hw
    have H0 := Lib.hid h0; clear h0
    go_enter Tryz.func106, Tryz.ntmps106
    go_wp2
    go_quiet (fail)
    go_wp2
    go_ret2
    exact ⟨_, rfl, fun x hx => (by cases hx), belowDrewN hb0 _⟩
set_option maxHeartbeats 1600000 in
theorem ofNo_CardsOf (pn pw : Addr) (wa : Option Addr) (wn wc : Nat) (pa : Option Addr) (pk pc : Nat) (a : List Int) (w : World) (hd : DkOk w pn pw) (hw : wn ≤ 4000) (hP : IntsAt w pa pk pc a) :
    Calls Tryz.prog 108 #[.slice wa wn wc, .slice pa pk pc, .func (.func 109) #[] #[]] w fun e w' => NmPost pn pw (noW wn (mCardsOf a)) w e w' := by
  by_cases h0 : wn = 0
  · subst h0
    have hcon := impl_CardsOf pa pk pc a w hP
    unfold noW
    rw [if_pos rfl]
    generalize mCardsOf a = x at hcon ⊢
    obtain ⟨ys, b⟩ := x
    simp only at hcon ⊢
    have hres := fun (v : Value) (w1 : World) (hb : Below w.heap.size w w1) => resInt_any pn pw v b w1 (hd.keep hb)
    have hE := errB_got pn pw ys b
    clear hP hd hw
    have Hcon := Lib.hid hcon; clear hcon
    have Hres := Lib.hid hres; clear hres
    have HE := Lib.hid hE; clear hE
    go_enter Tryz.func108, Tryz.ntmps108
    go_wp2_with fail
    with_reducible refine (Hcon.out).mono ?_
    rintro e w1 ⟨rfl, hb1⟩
    go_wp2_with fail
    with_reducible refine (Hres.out _ _ hb1).mono ?_
    rintro e w2 ⟨rfl, hb2⟩
    have hb := belowTrans hb1 hb2 (Nat.le_refl _)
    have Hb := Lib.hid hb; clear hb
    have Hb2 := Lib.hid hb2; clear hb2
    go_wp2
    go_ret2
    refine ⟨_, by rw [HE.out]; rfl, fun x hx => ?_, Hb.out⟩
    cases b
    · cases hx
    · cases hx; exact rfl
  · have hne : ((wn : Int) == 0) = false := by simp; omega
    have hdw := hd.what
    have hb0 := Below.refl w.heap.size w
    unfold noW
    rw [if_neg h0]
    clear hd hP hw
    have H0 := Lib.hid h0; clear h0
    go_enter Tryz.func108, Tryz.ntmps108
    go_wp2
    go_quiet (fail)
    go_wp2
    go_ret2
    exact ⟨_, rfl, fun x hx => (by cases hx), belowDrewN hb0 _⟩
set_option maxHeartbeats 1600000 in
theorem ofNo_PastCount (pn pw : Addr) (wa : Option Addr) (wn wc : Nat) (pa : Option Addr) (pk pc : Nat) (a : List Int) (w : World) (hd : DkOk w pn pw) (hw : wn ≤ 4000) (hP : IntsAt w pa pk pc a) :
    Calls Tryz.prog 108 #[.slice wa wn wc, .slice pa pk pc, .func (.func 110) #[] #[]] w fun e w' => NmPost pn pw (noW wn (mPastCount a)) w e w' := by
  by_cases h0 : wn = 0
  · subst h0
    have hcon := impl_PastCount pa pk pc a w hP
    unfold noW
    rw [if_pos rfl]
    generalize mPastCount a = x at hcon ⊢
    obtain ⟨ys, b⟩ := x
    simp only at hcon ⊢
    have hres := fun (v : Value) (w1 : World) (hb : Below w.heap.size w w1) => resInt_any pn pw v b w1 (hd.keep hb)
    have hE := errB_got pn pw ys b
    clear hP hd hw
    have Hcon := Lib.hid hcon; clear hcon
    have Hres := Lib.hid hres; clear hres
    have HE := Lib.hid hE; clear hE
    go_enter Tryz.func108, Tryz.ntmps108
    go_wp2_with fail
    with_reducible refine (Hcon.out).mono ?_
    rintro e w1 ⟨rfl, hb1⟩
    go_wp2_with fail
    with_reducible refine (Hres.out _ _ hb1).mono ?_
    rintro e w2 ⟨rfl, hb2⟩
    have hb := belowTrans hb1 hb2 (Nat.le_refl _)
    have Hb := Lib.hid hb; clear hb
    have Hb2 := Lib.hid hb2; clear hb2
    go_wp2
    go_ret2
    refine ⟨_, by rw [HE.out]; rfl, fun x hx => ?_, Hb.out⟩
    cases b
    · cases hx
    · cases hx; exact rfl
  · have hne : ((wn : Int) == 0) = false := by simp; omega
    have hdw := hd.what
    have hb0 := Below.refl w.heap.size w
    unfold noW
    rw [if_neg h0]
    clear hd hP hw
    have H0 := Lib.hid h0; clear h0
    go_enter Tryz.func108, Tryz.ntmps108
    go_wp2
    go_quiet (fail)
    go_wp2
    go_ret2
    exact ⟨_, rfl, fun x hx => (by cases hx), belowDrewN hb0 _⟩
set_option maxHeartbeats 1600000 in
theorem ofNo_TailOf (pn pw : Addr) (wa : Option Addr) (wn wc : Nat) (pa : Option Addr) (pk pc : Nat) (a : List Int) (w : World) (hd : DkOk w pn pw) (hw : wn ≤ 4000) (hP : IntsAt w pa pk pc a) :
    Calls Tryz.prog 108 #[.slice wa wn wc, .slice pa pk pc, .func (.func 17) #[] #[]] w fun e w' => NmPost pn pw (noW wn (mTailOf a)) w e w' := by
  by_cases h0 : wn = 0
  · subst h0
    have hcon := impl_TailOf pa pk pc a w hP
    unfold noW
    rw [if_pos rfl]
    generalize mTailOf a = x at hcon ⊢
    obtain ⟨ys, b⟩ := x
    simp only at hcon ⊢
    have hres := fun (v : Value) (w1 : World) (hb : Below w.heap.size w w1) => resInt_any pn pw v b w1 (hd.keep hb)
    have hE := errB_got pn pw ys b
    clear hP hd hw
    have Hcon := Lib.hid hcon; clear hcon
    have Hres := Lib.hid hres; clear hres
    have HE := Lib.hid hE; clear hE
    go_enter Tryz.func108, Tryz.ntmps108
    go_wp2_with fail
    with_reducible refine (Hcon.out).mono ?_
    rintro e w1 ⟨rfl, hb1⟩
    go_wp2_with fail
    with_reducible refine (Hres.out _ _ hb1).mono ?_
    rintro e w2 ⟨rfl, hb2⟩
    have hb := belowTrans hb1 hb2 (Nat.le_refl _)
    have Hb := Lib.hid hb; clear hb
    have Hb2 := Lib.hid hb2; clear hb2
    go_wp2
    go_ret2
    refine ⟨_, by rw [HE.out]; rfl, fun x hx => ?_, Hb.out⟩
    cases b
    · cases hx
    · cases hx; exact rfl
  · have hne : ((wn : Int) == 0) = false := by simp; omega
    have hdw := hd.what
    have hb0 := Below.refl w.heap.size w
    unfold noW
    rw [if_neg h0]
    clear hd hP hw
    have H0 := Lib.hid h0; clear h0
    go_enter Tryz.func108, Tryz.ntmps108
    go_wp2
    go_quiet (fail)
    go_wp2
    go_ret2
    exact ⟨_, rfl, fun x hx => (by cases hx), belowDrewN hb0 _⟩
set_option maxHeartbeats 1600000 in
theorem ofNo_CycleLength (pn pw : Addr) (wa : Option Addr) (wn wc : Nat) (pa : Option Addr) (pk pc : Nat) (a : List Int) (w : World) (hd : DkOk w pn pw) (hw : wn ≤ 4000) (hP : IntsAt w pa pk pc a) :
    Calls Tryz.prog 108 #[.slice wa wn wc, .slice pa pk pc, .func (.func 111) #[] #[]] w fun e w' => NmPost pn pw (noW wn (mCycleLength a)) w e w' := by
  by_cases h0 : wn = 0
  · subst h0
    have hcon := impl_CycleLength pa pk pc a w hP
    unfold noW
    rw [if_pos rfl]
    generalize mCycleLength a = x at hcon ⊢
    obtain ⟨ys, b⟩ := x
    simp only at hcon ⊢
    have hres := fun (v : Value) (w1 : World) (hb : Below w.heap.size w w1) => resInt_any pn pw v b w1 (hd.keep hb)
    have hE := errB_got pn pw ys b
    clear hP hd hw
    have Hcon := Lib.hid hcon; clear hcon
    have Hres := Lib.hid hres; clear hres
    have HE := Lib.hid hE; clear hE
    go_enter Tryz.func108, Tryz.ntmps108
    go_wp2_with fail
    with_reducible refine (Hcon.out).mono ?_
    rintro e w1 ⟨rfl, hb1⟩
    go_wp2_with fail
    with_reducible refine (Hres.out _ _ hb1).mono ?_
    rintro e w2 ⟨rfl, hb2⟩
    have hb := belowTrans hb1 hb2 (Nat.le_refl _)
    have Hb := Lib.hid hb; clear hb
    have Hb2 := Lib.hid hb2; clear hb2
    go_wp2
    go_ret2
    refine ⟨_, by rw [HE.out]; rfl, fun x hx => ?_, Hb.out⟩
    cases b
    · cases hx
    · cases hx; exact rfl
  · have hne : ((wn : Int) == 0) = false := by simp; omega
    have hdw := hd.what
    have hb0 := Below.refl w.heap.size w
    unfold noW
    rw [if_neg h0]
    clear hd hP hw
    have H0 := Lib.hid h0; clear h0
    go_enter Tryz.func108, Tryz.ntmps108
    go_wp2
    go_quiet (fail)
    go_wp2
    go_ret2
    exact ⟨_, rfl, fun x hx => (by cases hx), belowDrewN hb0 _⟩
end Go.Proofs.YtimmjimeldejjaaGreatDoor
