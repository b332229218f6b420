/- The console by the program: functions of the only word. No condition but what the world must hold. -/
import Derived.Test.YtimmjimeldejjaaGreatDoorDk1
import Derived.Test.YtimmjimeldejjaaGreatDoorCo1
import Derived.Test.YtimmjimeldejjaaGreatDoorGh
import Derived.Test.YtimmjimeldejjaaGreatDoorGb
import Derived.Test.YtimmjimeldejjaaGreatDoorGm
import Derived.Test.YtimmjimeldejjaaGreatDoorBt2
namespace Go.Proofs.YtimmjimeldejjaaGreatDoor
open Go.RowKit
set_option linter.unusedVariables false
set_option linter.unusedSimpArgs false
set_option maxRecDepth 20000

theorem obey1_any (x : Int) (q g : Nat) (pa : Option Addr) (pk pc : Nat) (a : List Int) (w : World) (hq : w.cell? ⟨q, 0, none⟩ = some (.pointer (some ⟨g, 0, none⟩))) (hg : w.cell? ⟨g, 0, none⟩ = some (.slice pa pk pc)) (hP : IntsAt w pa pk pc a) :
    Calls Tryz.prog 99 #[.int .i64 x, .pointer (some ⟨q, 0, none⟩)] w fun e w' => ∃ a1 n1 c1, e = .returned (.tuple #[.slice a1 n1 c1, .bool (mStepsFrom a x).2]) ∧ Own w.heap.size w'.heap.size w' a1 n1 c1 (mStepsFrom a x).1 ∧ Below w.heap.size w w' := by
  have hcon := impl_StepsFrom pa pk pc a x w hP
  generalize mStepsFrom a x = X at *
  obtain ⟨ys, b⟩ := X
  simp only at hcon ⊢
  have Hcon := Lib.hid hcon; clear hcon
  go_enter Tryz.func99, Tryz.ntmps99
  go_wp2_with fail
  with_reducible refine (Hcon.out).mono ?_
  rintro e w1 ⟨a1, n1, c1, rfl, ho1, hb1⟩
  go_wp2
  go_ret2
  exact ⟨a1, n1, c1, rfl, ho1, hb1⟩
theorem obey2_any (x : Int) (q g : Nat) (pa : Option Addr) (pk pc : Nat) (a : List Int) (w : World) (hq : w.cell? ⟨q, 0, none⟩ = some (.pointer (some ⟨g, 0, none⟩))) (hg : w.cell? ⟨g, 0, none⟩ = some (.slice pa pk pc)) (hP : IntsAt w pa pk pc a) :
    Calls Tryz.prog 101 #[.int .i64 x, .pointer (some ⟨q, 0, none⟩)] w fun e w' => ∃ a1 n1 c1, e = .returned (.tuple #[.slice a1 n1 c1, .bool (mPastBy a x).2]) ∧ Own w.heap.size w'.heap.size w' a1 n1 c1 (mPastBy a x).1 ∧ Below w.heap.size w w' := by
  have hcon := impl_PastBy pa pk pc a x w hP
  generalize mPastBy a x = X at *
  obtain ⟨ys, b⟩ := X
  simp only at hcon ⊢
  have Hcon := Lib.hid hcon; clear hcon
  go_enter Tryz.func101, Tryz.ntmps101
  go_wp2_with fail
  with_reducible refine (Hcon.out).mono ?_
  rintro e w1 ⟨a1, n1, c1, rfl, ho1, hb1⟩
  go_wp2
  go_ret2
  exact ⟨a1, n1, c1, rfl, ho1, hb1⟩
set_option maxHeartbeats 3200000 in
theorem ofWord_take (pn pw : Addr) (wa : Option Addr) (wn wc : Nat) (r : List (List UInt8)) (w : World) (hd : DkOk w pn pw) (hW : ValsAt w wa wn wc (strVs r)) (hw : wn ≤ 4000) (hr : ∀ t ∈ r, t.length ≤ 1048576) :
    Calls Tryz.prog 93 #[.slice wa wn wc, .func (.func 94) #[] #[], .func (.func 95) #[] #[]] w fun e w' => LsPost pn pw (oneW r (fun t => mParsePiles ⟨t.toArray⟩) (fun x => (x, true))) w e w' := by
  have hrl : r.length = wn := by have := hW.length; simpa [strVs] using this
  have hdw := hd.what
  have hb0 := Below.refl w.heap.size w
  by_cases h1 : wn = 1
  · subst h1
    obtain ⟨b, o, rfl, hw0⟩ := wordAt hW (k := 0) (by omega)
    obtain ⟨t, rfl⟩ := List.length_eq_one_iff.1 hrl
    rw [List.getD_cons_zero, Nat.add_zero] at hw0
    have htl := hr t (by simp)
    have hts : (⟨t.toArray⟩ : ByteArray).size = t.length := by show t.toArray.size = _; simp
    simp only [oneW]
    have hcon := impl_ParsePiles ⟨t.toArray⟩ w (by rw [hts]; exact htl) hd.lib
    have hgd := parseP_good (s := ⟨t.toArray⟩)
    try simp only at hcon
    try simp only at hgd
    try simp only
    generalize mParsePiles ⟨t.toArray⟩ = X at hcon hgd ⊢
    obtain ⟨ys, b⟩ := X
    try simp only at hcon
    try simp only at hgd
    try simp only
    cases b
    · rw [if_neg (by simp)]
      have hdk := fun (w1 : World) (hb : Below w.heap.size w w1) => (hd.keep hb).what
      clear hgd hW hd hr hdw
      have Hcon := Lib.hid hcon; clear hcon
      go_enter Tryz.func93, Tryz.ntmps93
      go_wp2_with fail
      with_reducible refine (Hcon.out).mono ?_
      rintro e w1 ⟨a1, n1, c1, rfl, ho1, hb1⟩
      have hbX := hb1
      have hdw := hdk _ hbX
      clear hdk
      have HbX := Lib.hid hbX; clear hbX
      go_wp2
      go_quiet (fail)
      go_wp2
      go_ret2
      exact ⟨none, 0, 0, rfl, fun x hx => (by cases hx), belowDrewN HbX.out _⟩
    · rw [if_pos rfl]
      have Hcon := Lib.hid hcon; clear hcon
      have Hw0 := Lib.hid hw0; clear hw0
      have hw0 := Hw0.out
      clear Hw0 hW hr hts htl hdw
      go_enter Tryz.func93, Tryz.ntmps93
      go_wp2_with fail
      with_reducible refine (Hcon.out).mono ?_
      rintro e w1 ⟨a1, n1, c1, rfl, ho1, hb1⟩
      have hbv := hb1
      have hc2 := onlyPiles_any (.slice a1 n1 c1) w1
      have hE := errB_got pn pw ys true
      have hres := fun (v : Value) (w3 : World) (hb : Below w.heap.size w w3) => resList_any pn pw v true w3 (hd.keep hb)
      clear hd hb1 hgd
      have Ho1 := Lib.hid ho1; clear ho1
      have Hc2 := Lib.hid hc2; clear hc2
      have Hres := Lib.hid hres; clear hres
      have HE := Lib.hid hE; clear hE
      have Hbv := Lib.hid hbv; clear hbv
      go_wp2_with fail
      with_reducible refine (Hc2.out).mono ?_
      rintro e w2 ⟨rfl, rfl⟩
      have hb12 := Hbv.out
      have Hb12 := Lib.hid hb12; clear hb12
      go_wp2_with fail
      with_reducible refine (Hres.out _ _ Hb12.out).mono ?_
      rintro e w3 ⟨rfl, hb3⟩
      have hb := belowTrans Hb12.out hb3 (Nat.le_refl _)
      have Hb := Lib.hid hb; clear hb
      have Hb3 := Lib.hid hb3; clear hb3
      go_wp2
      go_ret2
      refine ⟨a1, n1, c1, by rw [HE.out]; rfl, fun x hx => ?_, Hb.out⟩
      cases hx
      exact ((Ho1.out).keep Hb3.out).mono (Nat.le_refl _) (Hb3.out).size
  · have hne : ((wn : Int) == 1) = false := by simp; omega
    rw [oneW_len (by omega)]
    clear hd hW hr
    have H1 := Lib.hid h1; clear h1
    have Hrl := Lib.hid hrl; clear hrl
    go_enter Tryz.func93, Tryz.ntmps93
    go_wp2
    go_quiet (fail)
    go_wp2
    go_ret2
    exact ⟨none, 0, 0, rfl, fun x hx => (by cases hx), belowDrewN hb0 _⟩
set_option maxHeartbeats 3200000 in
theorem ofWord_steps (pn pw : Addr) (wa : Option Addr) (wn wc : Nat) (r : List (List UInt8)) (w : World) (hd : DkOk w pn pw) (hW : ValsAt w wa wn wc (strVs r)) (hw : wn ≤ 4000) (hr : ∀ t ∈ r, t.length ≤ 1048576) (q g : Nat) (pa : Option Addr) (pk pc : Nat) (a : List Int) (hq : w.cell? ⟨q, 0, none⟩ = some (.pointer (some ⟨g, 0, none⟩))) (hg : w.cell? ⟨g, 0, none⟩ = some (.slice pa pk pc)) (hql : q < w.heap.size) (hgl : g < w.heap.size) (hP : IntsAt w pa pk pc a) :
    Calls Tryz.prog 97 #[.slice wa wn wc, .func (.func 98) #[] #[], .func (.func 99) #[] #[.pointer (some ⟨q, 0, none⟩)]] w fun e w' => LsPost pn pw (oneW r (mNum) (mStepsFrom a)) w e w' := by
  have hrl : r.length = wn := by have := hW.length; simpa [strVs] using this
  have hdw := hd.what
  have hb0 := Below.refl w.heap.size w
  by_cases h1 : wn = 1
  · subst h1
    obtain ⟨b, o, rfl, hw0⟩ := wordAt hW (k := 0) (by omega)
    obtain ⟨t, rfl⟩ := List.length_eq_one_iff.1 hrl
    rw [List.getD_cons_zero, Nat.add_zero] at hw0
    have htl := hr t (by simp)
    have hts : (⟨t.toArray⟩ : ByteArray).size = t.length := by show t.toArray.size = _; simp
    simp only [oneW]
    have hcon := parseNumber_any ⟨t.toArray⟩ w (by rw [hts]; exact htl) hd.lib
    have hgd : True := trivial
    try simp only at hcon
    try simp only at hgd
    try simp only
    generalize mNum t = X at hcon ⊢
    obtain ⟨ys, b⟩ := X
    try simp only at hcon
    try simp only at hgd
    try simp only
    cases b
    · rw [if_neg (by simp)]
      have hdk := fun (w1 : World) (hb : Below w.heap.size w w1) => (hd.keep hb).what
      clear hgd hW hd hr hdw
      have Hcon := Lib.hid hcon; clear hcon
      go_enter Tryz.func97, Tryz.ntmps97
      go_wp2_with fail
      with_reducible refine (Hcon.out).mono ?_
      rintro e w1 ⟨v1, rfl, hv1, hb1⟩
      have hbX := hb1
      have hdw := hdk _ hbX
      clear hdk
      have HbX := Lib.hid hbX; clear hbX
      go_wp2
      go_quiet (fail)
      go_wp2
      go_ret2
      exact ⟨none, 0, 0, rfl, fun x hx => (by cases hx), belowDrewN HbX.out _⟩
    · rw [if_pos rfl]
      generalize hZ : mStepsFrom a ys = Z
      obtain ⟨zs, b2⟩ := Z
      try simp only
      have hE := errB_got pn pw zs b2
      have HZ := Lib.hid hZ; clear hZ
      have Hcon := Lib.hid hcon; clear hcon
      have Hw0 := Lib.hid hw0; clear hw0
      have hw0 := Hw0.out
      clear Hw0 hW hr hts htl hdw
      go_enter Tryz.func97, Tryz.ntmps97
      go_wp2_with fail
      with_reducible refine (Hcon.out).mono ?_
      rintro e w1 ⟨v1, rfl, hv1, hb1⟩
      obtain rfl := hv1 (by trivial)
      have hbv := hb1
      have hc2 := obey1_any v1 q g pa pk pc a w1 (by rw [hb1.cell hql]; exact hq) (by rw [hb1.cell hgl]; exact hg) (hP.keep hb1)
      rw [HZ.out] at hc2
      try simp only at hc2
      have hres := fun (v : Value) (w3 : World) (hb : Below w.heap.size w w3) => resList_any pn pw v b2 w3 (hd.keep hb)
      clear hd hb1 hgd
      have Hc2 := Lib.hid hc2; clear hc2
      have Hres := Lib.hid hres; clear hres
      have HE := Lib.hid hE; clear hE
      have Hbv := Lib.hid hbv; clear hbv
      go_wp2_with fail
      with_reducible refine (Hc2.out).mono ?_
      rintro e w2 ⟨a2, n2, c2, rfl, ho2, hb2⟩
      have hb12 := belowTrans Hbv.out hb2 (Nat.le_refl _)
      have Hb12 := Lib.hid hb12; clear hb12
      go_wp2_with fail
      with_reducible refine (Hres.out _ _ Hb12.out).mono ?_
      rintro e w3 ⟨rfl, hb3⟩
      have hb := belowTrans Hb12.out hb3 (Nat.le_refl _)
      have Hb := Lib.hid hb; clear hb
      have Hb3 := Lib.hid hb3; clear hb3
      go_wp2
      go_ret2
      refine ⟨a2, n2, c2, by rw [HE.out]; rfl, fun x hx => ?_, Hb.out⟩
      cases b2
      · cases hx
      · cases hx; exact ((ho2.keep Hb3.out).mono Hbv.out.size (Hb3.out).size)
  · have hne : ((wn : Int) == 1) = false := by simp; omega
    rw [oneW_len (by omega)]
    clear hd hW hr
    have H1 := Lib.hid h1; clear h1
    have Hrl := Lib.hid hrl; clear hrl
    go_enter Tryz.func97, Tryz.ntmps97
    go_wp2
    go_quiet (fail)
    go_wp2
    go_ret2
    exact ⟨none, 0, 0, rfl, fun x hx => (by cases hx), belowDrewN hb0 _⟩
set_option maxHeartbeats 3200000 in
theorem ofWord_past (pn pw : Addr) (wa : Option Addr) (wn wc : Nat) (r : List (List UInt8)) (w : World) (hd : DkOk w pn pw) (hW : ValsAt w wa wn wc (strVs r)) (hw : wn ≤ 4000) (hr : ∀ t ∈ r, t.length ≤ 1048576) (q g : Nat) (pa : Option Addr) (pk pc : Nat) (a : List Int) (hq : w.cell? ⟨q, 0, none⟩ = some (.pointer (some ⟨g, 0, none⟩))) (hg : w.cell? ⟨g, 0, none⟩ = some (.slice pa pk pc)) (hql : q < w.heap.size) (hgl : g < w.heap.size) (hP : IntsAt w pa pk pc a) :
    Calls Tryz.prog 97 #[.slice wa wn wc, .func (.func 98) #[] #[], .func (.func 101) #[] #[.pointer (some ⟨q, 0, none⟩)]] w fun e w' => LsPost pn pw (oneW r (mNum) (mPastBy a)) w e w' := by
  have hrl : r.length = wn := by have := hW.length; simpa [strVs] using this
  have hdw := hd.what
  have hb0 := Below.refl w.heap.size w
  by_cases h1 : wn = 1
  · subst h1
    obtain ⟨b, o, rfl, hw0⟩ := wordAt hW (k := 0) (by omega)
    obtain ⟨t, rfl⟩ := List.length_eq_one_iff.1 hrl
    rw [List.getD_cons_zero, Nat.add_zero] at hw0
    have htl := hr t (by simp)
    have hts : (⟨t.toArray⟩ : ByteArray).size = t.length := by show t.toArray.size = _; simp
    simp only [oneW]
    have hcon := parseNumber_any ⟨t.toArray⟩ w (by rw [hts]; exact htl) hd.lib
    have hgd : True := trivial
    try simp only at hcon
    try simp only at hgd
    try simp only
    generalize mNum t = X at hcon ⊢
    obtain ⟨ys, b⟩ := X
    try simp only at hcon
    try simp only at hgd
    try simp only
    cases b
    · rw [if_neg (by simp)]
      have hdk := fun (w1 : World) (hb : Below w.heap.size w w1) => (hd.keep hb).what
      clear hgd hW hd hr hdw
      have Hcon := Lib.hid hcon; clear hcon
      go_enter Tryz.func97, Tryz.ntmps97
      go_wp2_with fail
      with_reducible refine (Hcon.out).mono ?_
      rintro e w1 ⟨v1, rfl, hv1, hb1⟩
      have hbX := hb1
      have hdw := hdk _ hbX
      clear hdk
      have HbX := Lib.hid hbX; clear hbX
      go_wp2
      go_quiet (fail)
      go_wp2
      go_ret2
      exact ⟨none, 0, 0, rfl, fun x hx => (by cases hx), belowDrewN HbX.out _⟩
    · rw [if_pos rfl]
      generalize hZ : mPastBy a ys = Z
      obtain ⟨zs, b2⟩ := Z
      try simp only
      have hE := errB_got pn pw zs b2
      have HZ := Lib.hid hZ; clear hZ
      have Hcon := Lib.hid hcon; clear hcon
      have Hw0 := Lib.hid hw0; clear hw0
      have hw0 := Hw0.out
      clear Hw0 hW hr hts htl hdw
      go_enter Tryz.func97, Tryz.ntmps97
      go_wp2_with fail
      with_reducible refine (Hcon.out).mono ?_
      rintro e w1 ⟨v1, rfl, hv1, hb1⟩
      obtain rfl := hv1 (by trivial)
      have hbv := hb1
      have hc2 := obey2_any v1 q g pa pk pc a w1 (by rw [hb1.cell hql]; exact hq) (by rw [hb1.cell hgl]; exact hg) (hP.keep hb1)
      rw [HZ.out] at hc2
      try simp only at hc2
      have hres := fun (v : Value) (w3 : World) (hb : Below w.heap.size w w3) => resList_any pn pw v b2 w3 (hd.keep hb)
      clear hd hb1 hgd
      have Hc2 := Lib.hid hc2; clear hc2
      have Hres := Lib.hid hres; clear hres
      have HE := Lib.hid hE; clear hE
      have Hbv := Lib.hid hbv; clear hbv
      go_wp2_with fail
      with_reducible refine (Hc2.out).mono ?_
      rintro e w2 ⟨a2, n2, c2, rfl, ho2, hb2⟩
      have hb12 := belowTrans Hbv.out hb2 (Nat.le_refl _)
      have Hb12 := Lib.hid hb12; clear hb12
      go_wp2_with fail
      with_reducible refine (Hres.out _ _ Hb12.out).mono ?_
      rintro e w3 ⟨rfl, hb3⟩
      have hb := belowTrans Hb12.out hb3 (Nat.le_refl _)
      have Hb := Lib.hid hb; clear hb
      have Hb3 := Lib.hid hb3; clear hb3
      go_wp2
      go_ret2
      refine ⟨a2, n2, c2, by rw [HE.out]; rfl, fun x hx => ?_, Hb.out⟩
      cases b2
      · cases hx
      · cases hx; exact ((ho2.keep Hb3.out).mono Hbv.out.size (Hb3.out).size)
  · have hne : ((wn : Int) == 1) = false := by simp; omega
    rw [oneW_len (by omega)]
    clear hd hW hr
    have H1 := Lib.hid h1; clear h1
    have Hrl := Lib.hid hrl; clear hrl
    go_enter Tryz.func97, Tryz.ntmps97
    go_wp2
    go_quiet (fail)
    go_wp2
    go_ret2
    exact ⟨none, 0, 0, rfl, fun x hx => (by cases hx), belowDrewN hb0 _⟩
set_option maxHeartbeats 3200000 in
theorem ofWord_stairs (pn pw : Addr) (wa : Option Addr) (wn wc : Nat) (r : List (List UInt8)) (w : World) (hd : DkOk w pn pw) (hW : ValsAt w wa wn wc (strVs r)) (hw : wn ≤ 4000) (hr : ∀ t ∈ r, t.length ≤ 1048576) :
    Calls Tryz.prog 97 #[.slice wa wn wc, .func (.func 98) #[] #[], .func (.func 103) #[] #[]] w fun e w' => LsPost pn pw (oneW r (mNum) (mStaircase)) w e w' := by
  have hrl : r.length = wn := by have := hW.length; simpa [strVs] using this
  have hdw := hd.what
  have hb0 := Below.refl w.heap.size w
  by_cases h1 : wn = 1
  · subst h1
    obtain ⟨b, o, rfl, hw0⟩ := wordAt hW (k := 0) (by omega)
    obtain ⟨t, rfl⟩ := List.length_eq_one_iff.1 hrl
    rw [List.getD_cons_zero, Nat.add_zero] at hw0
    have htl := hr t (by simp)
    have hts : (⟨t.toArray⟩ : ByteArray).size = t.length := by show t.toArray.size = _; simp
    simp only [oneW]
    have hcon := parseNumber_any ⟨t.toArray⟩ w (by rw [hts]; exact htl) hd.lib
    have hgd : True := trivial
    try simp only at hcon
    try simp only at hgd
    try simp only
    generalize mNum t = X at hcon ⊢
    obtain ⟨ys, b⟩ := X
    try simp only at hcon
    try simp only at hgd
    try simp only
    cases b
    · rw [if_neg (by simp)]
      have hdk := fun (w1 : World) (hb : Below w.heap.size w w1) => (hd.keep hb).what
      clear hgd hW hd hr hdw
      have Hcon := Lib.hid hcon; clear hcon
      go_enter Tryz.func97, Tryz.ntmps97
      go_wp2_with fail
      with_reducible refine (Hcon.out).mono ?_
      rintro e w1 ⟨v1, rfl, hv1, hb1⟩
      have hbX := hb1
      have hdw := hdk _ hbX
      clear hdk
      have HbX := Lib.hid hbX; clear hbX
      go_wp2
      go_quiet (fail)
      go_wp2
      go_ret2
      exact ⟨none, 0, 0, rfl, fun x hx => (by cases hx), belowDrewN HbX.out _⟩
    · rw [if_pos rfl]
      generalize hZ : mStaircase ys = Z
      obtain ⟨zs, b2⟩ := Z
      try simp only
      have hE := errB_got pn pw zs b2
      have HZ := Lib.hid hZ; clear hZ
      have Hcon := Lib.hid hcon; clear hcon
      have Hw0 := Lib.hid hw0; clear hw0
      have hw0 := Hw0.out
      clear Hw0 hW hr hts htl hdw
      go_enter Tryz.func97, Tryz.ntmps97
      go_wp2_with fail
      with_reducible refine (Hcon.out).mono ?_
      rintro e w1 ⟨v1, rfl, hv1, hb1⟩
      obtain rfl := hv1 (by trivial)
      have hbv := hb1
      have hc2 := impl_Staircase v1 w1
      rw [HZ.out] at hc2
      try simp only at hc2
      have hres := fun (v : Value) (w3 : World) (hb : Below w.heap.size w w3) => resList_any pn pw v b2 w3 (hd.keep hb)
      clear hd hb1 hgd
      have Hc2 := Lib.hid hc2; clear hc2
      have Hres := Lib.hid hres; clear hres
      have HE := Lib.hid hE; clear hE
      have Hbv := Lib.hid hbv; clear hbv
      go_wp2_with fail
      with_reducible refine (Hc2.out).mono ?_
      rintro e w2 ⟨a2, n2, c2, rfl, ho2, hb2⟩
      have hb12 := belowTrans Hbv.out hb2 (Nat.le_refl _)
      have Hb12 := Lib.hid hb12; clear hb12
      go_wp2_with fail
      with_reducible refine (Hres.out _ _ Hb12.out).mono ?_
      rintro e w3 ⟨rfl, hb3⟩
      have hb := belowTrans Hb12.out hb3 (Nat.le_refl _)
      have Hb := Lib.hid hb; clear hb
      have Hb3 := Lib.hid hb3; clear hb3
      go_wp2
      go_ret2
      refine ⟨a2, n2, c2, by rw [HE.out]; rfl, fun x hx => ?_, Hb.out⟩
      cases b2
      · cases hx
      · cases hx; exact ((ho2.keep Hb3.out).mono Hbv.out.size (Hb3.out).size)
  · have hne : ((wn : Int) == 1) = false := by simp; omega
    rw [oneW_len (by omega)]
    clear hd hW hr
    have H1 := Lib.hid h1; clear h1
    have Hrl := Lib.hid hrl; clear hrl
    go_enter Tryz.func97, Tryz.ntmps97
    go_wp2
    go_quiet (fail)
    go_wp2
    go_ret2
    exact ⟨none, 0, 0, rfl, fun x hx => (by cases hx), belowDrewN hb0 _⟩
set_option maxHeartbeats 3200000 in
theorem ofWord_sort (pn pw : Addr) (wa : Option Addr) (wn wc : Nat) (r : List (List UInt8)) (w : World) (hd : DkOk w pn pw) (hW : ValsAt w wa wn wc (strVs r)) (hw : wn ≤ 4000) (hr : ∀ t ∈ r, t.length ≤ 1048576) :
    Calls Tryz.prog 93 #[.slice wa wn wc, .func (.func 104) #[] #[], .func (.func 105) #[] #[]] w fun e w' => LsPost pn pw (oneW r (fun t => mParseRow ⟨t.toArray⟩) (mSortRow)) w e w' := by
  have hrl : r.length = wn := by have := hW.length; simpa [strVs] using this
  have hdw := hd.what
  have hb0 := Below.refl w.heap.size w
  by_cases h1 : wn = 1
  · subst h1
    obtain ⟨b, o, rfl, hw0⟩ := wordAt hW (k := 0) (by omega)
    obtain ⟨t, rfl⟩ := List.length_eq_one_iff.1 hrl
    rw [List.getD_cons_zero, Nat.add_zero] at hw0
    have htl := hr t (by simp)
    have hts : (⟨t.toArray⟩ : ByteArray).size = t.length := by show t.toArray.size = _; simp
    simp only [oneW]
    have hcon := impl_ParseRow ⟨t.toArray⟩ w (by rw [hts]; exact htl) hd.lib
    have hgd := parseR_ok (s := ⟨t.toArray⟩)
    try simp only at hcon
    try simp only at hgd
    try simp only
    generalize mParseRow ⟨t.toArray⟩ = X at hcon hgd ⊢
    obtain ⟨ys, b⟩ := X
    try simp only at hcon
    try simp only at hgd
    try simp only
    cases b
    · rw [if_neg (by simp)]
      have hdk := fun (w1 : World) (hb : Below w.heap.size w w1) => (hd.keep hb).what
      clear hgd hW hd hr hdw
      have Hcon := Lib.hid hcon; clear hcon
      go_enter Tryz.func93, Tryz.ntmps93
      go_wp2_with fail
      with_reducible refine (Hcon.out).mono ?_
      rintro e w1 ⟨a1, n1, c1, rfl, ho1, hb1⟩
      have hbX := hb1
      have hdw := hdk _ hbX
      clear hdk
      have HbX := Lib.hid hbX; clear hbX
      go_wp2
      go_quiet (fail)
      go_wp2
      go_ret2
      exact ⟨none, 0, 0, rfl, fun x hx => (by cases hx), belowDrewN HbX.out _⟩
    · rw [if_pos rfl]
      generalize hZ : mSortRow ys = Z
      obtain ⟨zs, b2⟩ := Z
      try simp only
      have hE := errB_got pn pw zs b2
      have HZ := Lib.hid hZ; clear hZ
      have Hcon := Lib.hid hcon; clear hcon
      have Hw0 := Lib.hid hw0; clear hw0
      have hw0 := Hw0.out
      clear Hw0 hW hr hts htl hdw
      go_enter Tryz.func93, Tryz.ntmps93
      go_wp2_with fail
      with_reducible refine (Hcon.out).mono ?_
      rintro e w1 ⟨a1, n1, c1, rfl, ho1, hb1⟩
      have hbv := hb1
      have hc2 := impl_SortRow a1 n1 c1 ys w1 ho1.at
      rw [HZ.out] at hc2
      try simp only at hc2
      have hres := fun (v : Value) (w3 : World) (hb : Below w.heap.size w w3) => resList_any pn pw v b2 w3 (hd.keep hb)
      clear hd hb1 hgd
      clear ho1
      have Hc2 := Lib.hid hc2; clear hc2
      have Hres := Lib.hid hres; clear hres
      have HE := Lib.hid hE; clear hE
      have Hbv := Lib.hid hbv; clear hbv
      go_wp2_with fail
      with_reducible refine (Hc2.out).mono ?_
      rintro e w2 ⟨a2, n2, c2, rfl, ho2, hb2⟩
      have hb12 := belowTrans Hbv.out hb2 (Nat.le_refl _)
      have Hb12 := Lib.hid hb12; clear hb12
      go_wp2_with fail
      with_reducible refine (Hres.out _ _ Hb12.out).mono ?_
      rintro e w3 ⟨rfl, hb3⟩
      have hb := belowTrans Hb12.out hb3 (Nat.le_refl _)
      have Hb := Lib.hid hb; clear hb
      have Hb3 := Lib.hid hb3; clear hb3
      go_wp2
      go_ret2
      refine ⟨a2, n2, c2, by rw [HE.out]; rfl, fun x hx => ?_, Hb.out⟩
      cases b2
      · cases hx
      · cases hx; exact ((ho2.keep Hb3.out).mono Hbv.out.size (Hb3.out).size)
  · have hne : ((wn : Int) == 1) = false := by simp; omega
    rw [oneW_len (by omega)]
    clear hd hW hr
    have H1 := Lib.hid h1; clear h1
    have Hrl := Lib.hid hrl; clear hrl
    go_enter Tryz.func93, Tryz.ntmps93
    go_wp2
    go_quiet (fail)
    go_wp2
    go_ret2
    exact ⟨none, 0, 0, rfl, fun x hx => (by cases hx), belowDrewN hb0 _⟩
set_option maxHeartbeats 3200000 in
theorem ofWord_row (pn pw : Addr) (wa : Option Addr) (wn wc : Nat) (r : List (List UInt8)) (w : World) (hd : DkOk w pn pw) (hW : ValsAt w wa wn wc (strVs r)) (hw : wn ≤ 4000) (hr : ∀ t ∈ r, t.length ≤ 1048576) :
    Calls Tryz.prog 112 #[.slice wa wn wc, .func (.func 104) #[] #[], .func (.func 113) #[] #[]] w fun e w' => TxPost pn pw (oneW r (fun t => mParseRow ⟨t.toArray⟩) (cRow)) w e w' := by
  have hrl : r.length = wn := by have := hW.length; simpa [strVs] using this
  have hdw := hd.what
  have hb0 := Below.refl w.heap.size w
  by_cases h1 : wn = 1
  · subst h1
    obtain ⟨b, o, rfl, hw0⟩ := wordAt hW (k := 0) (by omega)
    obtain ⟨t, rfl⟩ := List.length_eq_one_iff.1 hrl
    rw [List.getD_cons_zero, Nat.add_zero] at hw0
    have htl := hr t (by simp)
    have hts : (⟨t.toArray⟩ : ByteArray).size = t.length := by show t.toArray.size = _; simp
    simp only [oneW]
    have hcon := impl_ParseRow ⟨t.toArray⟩ w (by rw [hts]; exact htl) hd.lib
    have hgd := parseR_ok (s := ⟨t.toArray⟩)
    try simp only at hcon
    try simp only at hgd
    try simp only
    generalize mParseRow ⟨t.toArray⟩ = X at hcon hgd ⊢
    obtain ⟨ys, b⟩ := X
    try simp only at hcon
    try simp only at hgd
    try simp only
    cases b
    · rw [if_neg (by simp)]
      have hdk := fun (w1 : World) (hb : Below w.heap.size w w1) => (hd.keep hb).what
      clear hgd hW hd hr hdw
      have Hcon := Lib.hid hcon; clear hcon
      go_enter Tryz.func112, Tryz.ntmps112
      go_wp2_with fail
      with_reducible refine (Hcon.out).mono ?_
      rintro e w1 ⟨a1, n1, c1, rfl, ho1, hb1⟩
      have hbX := hb1
      have hdw := hdk _ hbX
      clear hdk
      have HbX := Lib.hid hbX; clear hbX
      go_wp2
      go_quiet (fail)
      go_wp2
      go_ret2
      exact ⟨_, rfl, fun x hx => (by cases hx), belowDrewN HbX.out _⟩
    · rw [if_pos rfl]
      generalize hZ : cRow ys = Z
      obtain ⟨zs, b2⟩ := Z
      try simp only
      have hE := errB_got pn pw zs b2
      have HZ := Lib.hid hZ; clear hZ
      have Hcon := Lib.hid hcon; clear hcon
      have Hw0 := Lib.hid hw0; clear hw0
      have hw0 := Hw0.out
      clear Hw0 hW hr hts htl hdw
      go_enter Tryz.func112, Tryz.ntmps112
      go_wp2_with fail
      with_reducible refine (Hcon.out).mono ?_
      rintro e w1 ⟨a1, n1, c1, rfl, ho1, hb1⟩
      have hbv := hb1
      have hc2 := rowBehind_any a1 n1 c1 ys w1 ho1.at (hgd (by trivial))
      rw [HZ.out] at hc2
      try simp only at hc2
      have hres := fun (v : Value) (w3 : World) (hb : Below w.heap.size w w3) => resStr_any pn pw v b2 w3 (hd.keep hb)
      clear hd hb1 hgd
      clear ho1
      have Hc2 := Lib.hid hc2; clear hc2
      have Hres := Lib.hid hres; clear hres
      have HE := Lib.hid hE; clear hE
      have Hbv := Lib.hid hbv; clear hbv
      go_wp2_with fail
      with_reducible refine (Hc2.out).mono ?_
      rintro e w2 ⟨rfl, hb2⟩
      have hb12 := belowTrans Hbv.out hb2 (Nat.le_refl _)
      have Hb12 := Lib.hid hb12; clear hb12
      go_wp2_with fail
      with_reducible refine (Hres.out _ _ Hb12.out).mono ?_
      rintro e w3 ⟨rfl, hb3⟩
      have hb := belowTrans Hb12.out hb3 (Nat.le_refl _)
      have Hb := Lib.hid hb; clear hb
      have Hb3 := Lib.hid hb3; clear hb3
      go_wp2
      go_ret2
      refine ⟨_, by rw [HE.out]; rfl, fun x hx => ?_, Hb.out⟩
      cases b2
      · cases hx
      · cases hx; exact rfl
  · have hne : ((wn : Int) == 1) = false := by simp; omega
    rw [oneW_len (by omega)]
    clear hd hW hr
    have H1 := Lib.hid h1; clear h1
    have Hrl := Lib.hid hrl; clear hrl
    go_enter Tryz.func112, Tryz.ntmps112
    go_wp2
    go_quiet (fail)
    go_wp2
    go_ret2
    exact ⟨_, rfl, fun x hx => (by cases hx), belowDrewN hb0 _⟩
set_option maxHeartbeats 3200000 in
theorem ofWord_orbit (pn pw : Addr) (wa : Option Addr) (wn wc : Nat) (r : List (List UInt8)) (w : World) (hd : DkOk w pn pw) (hW : ValsAt w wa wn wc (strVs r)) (hw : wn ≤ 4000) (hr : ∀ t ∈ r, t.length ≤ 1048576) :
    Calls Tryz.prog 112 #[.slice wa wn wc, .func (.func 104) #[] #[], .func (.func 114) #[] #[]] w fun e w' => TxPost pn pw (oneW r (fun t => mParseRow ⟨t.toArray⟩) (cOrb)) w e w' := by
  have hrl : r.length = wn := by have := hW.length; simpa [strVs] using this
  have hdw := hd.what
  have hb0 := Below.refl w.heap.size w
  by_cases h1 : wn = 1
  · subst h1
    obtain ⟨b, o, rfl, hw0⟩ := wordAt hW (k := 0) (by omega)
    obtain ⟨t, rfl⟩ := List.length_eq_one_iff.1 hrl
    rw [List.getD_cons_zero, Nat.add_zero] at hw0
    have htl := hr t (by simp)
    have hts : (⟨t.toArray⟩ : ByteArray).size = t.length := by show t.toArray.size = _; simp
    simp only [oneW]
    have hcon := impl_ParseRow ⟨t.toArray⟩ w (by rw [hts]; exact htl) hd.lib
    have hgd := parseR_ok (s := ⟨t.toArray⟩)
    try simp only at hcon
    try simp only at hgd
    try simp only
    generalize mParseRow ⟨t.toArray⟩ = X at hcon hgd ⊢
    obtain ⟨ys, b⟩ := X
    try simp only at hcon
    try simp only at hgd
    try simp only
    cases b
    · rw [if_neg (by simp)]
      have hdk := fun (w1 : World) (hb : Below w.heap.size w w1) => (hd.keep hb).what
      clear hgd hW hd hr hdw
      have Hcon := Lib.hid hcon; clear hcon
      go_enter Tryz.func112, Tryz.ntmps112
      go_wp2_with fail
      with_reducible refine (Hcon.out).mono ?_
      rintro e w1 ⟨a1, n1, c1, rfl, ho1, hb1⟩
      have hbX := hb1
      have hdw := hdk _ hbX
      clear hdk
      have HbX := Lib.hid hbX; clear hbX
      go_wp2
      go_quiet (fail)
      go_wp2
      go_ret2
      exact ⟨_, rfl, fun x hx => (by cases hx), belowDrewN HbX.out _⟩
    · rw [if_pos rfl]
      generalize hZ : cOrb ys = Z
      obtain ⟨zs, b2⟩ := Z
      try simp only
      have hE := errB_got pn pw zs b2
      have HZ := Lib.hid hZ; clear hZ
      have Hcon := Lib.hid hcon; clear hcon
      have Hw0 := Lib.hid hw0; clear hw0
      have hw0 := Hw0.out
      clear Hw0 hW hr hts htl hdw
      go_enter Tryz.func112, Tryz.ntmps112
      go_wp2_with fail
      with_reducible refine (Hcon.out).mono ?_
      rintro e w1 ⟨a1, n1, c1, rfl, ho1, hb1⟩
      have hbv := hb1
      have hc2 := orbitText_any a1 n1 c1 ys w1 ho1.at (hd.lib.keep hb1)
      rw [HZ.out] at hc2
      try simp only at hc2
      have hres := fun (v : Value) (w3 : World) (hb : Below w.heap.size w w3) => resStr_any pn pw v b2 w3 (hd.keep hb)
      clear hd hb1 hgd
      clear ho1
      have Hc2 := Lib.hid hc2; clear hc2
      have Hres := Lib.hid hres; clear hres
      have HE := Lib.hid hE; clear hE
      have Hbv := Lib.hid hbv; clear hbv
      go_wp2_with fail
      with_reducible refine (Hc2.out).mono ?_
      rintro e w2 ⟨s2, rfl, hs2, hb2⟩
      have hb12 := belowTrans Hbv.out hb2 (Nat.le_refl _)
      have Hb12 := Lib.hid hb12; clear hb12
      go_wp2_with fail
      with_reducible refine (Hres.out _ _ Hb12.out).mono ?_
      rintro e w3 ⟨rfl, hb3⟩
      have hb := belowTrans Hb12.out hb3 (Nat.le_refl _)
      have Hb := Lib.hid hb; clear hb
      have Hb3 := Lib.hid hb3; clear hb3
      go_wp2
      go_ret2
      refine ⟨_, by rw [HE.out]; rfl, fun x hx => ?_, Hb.out⟩
      cases b2
      · cases hx
      · cases hx; exact hs2 rfl
  · have hne : ((wn : Int) == 1) = false := by simp; omega
    rw [oneW_len (by omega)]
    clear hd hW hr
    have H1 := Lib.hid h1; clear h1
    have Hrl := Lib.hid hrl; clear hrl
    go_enter Tryz.func112, Tryz.ntmps112
    go_wp2
    go_quiet (fail)
    go_wp2
    go_ret2
    exact ⟨_, rfl, fun x hx => (by cases hx), belowDrewN hb0 _⟩
set_option maxHeartbeats 3200000 in
theorem ofWord_bank (pn pw : Addr) (wa : Option Addr) (wn wc : Nat) (r : List (List UInt8)) (w : World) (hd : DkOk w pn pw) (hW : ValsAt w wa wn wc (strVs r)) (hw : wn ≤ 4000) (hr : ∀ t ∈ r, t.length ≤ 1048576) :
    Calls Tryz.prog 115 #[.slice wa wn wc, .func (.func 116) #[] #[], .func (.func 117) #[] #[]] w fun e w' => TxPost pn pw (oneW r (fun t => mParseBank ⟨t.toArray⟩) (cBnk)) w e w' := by
  have hrl : r.length = wn := by have := hW.length; simpa [strVs] using this
  have hdw := hd.what
  have hb0 := Below.refl w.heap.size w
  by_cases h1 : wn = 1
  · subst h1
    obtain ⟨b, o, rfl, hw0⟩ := wordAt hW (k := 0) (by omega)
    obtain ⟨t, rfl⟩ := List.length_eq_one_iff.1 hrl
    rw [List.getD_cons_zero, Nat.add_zero] at hw0
    have htl := hr t (by simp)
    have hts : (⟨t.toArray⟩ : ByteArray).size = t.length := by show t.toArray.size = _; simp
    simp only [oneW]
    have hcon := impl_ParseBank ⟨t.toArray⟩ w (by rw [hts]; exact htl) hd.lib
    have hgd := parseB_ok (s := ⟨t.toArray⟩)
    try simp only at hcon
    try simp only at hgd
    try simp only
    generalize mParseBank ⟨t.toArray⟩ = X at hcon hgd ⊢
    obtain ⟨⟨yh, yl, ys⟩, b⟩ := X
    try simp only at hcon
    try simp only at hgd
    try simp only
    cases b
    · rw [if_neg (by simp)]
      have hdk := fun (w1 : World) (hb : Below w.heap.size w w1) => (hd.keep hb).what
      clear hgd hW hd hr hdw
      have Hcon := Lib.hid hcon; clear hcon
      go_enter Tryz.func115, Tryz.ntmps115
      go_wp2_with fail
      with_reducible refine (Hcon.out).mono ?_
      rintro e w1 ⟨a1, n1, c1, rfl, ho1, hb1⟩
      have hbX := belowTrans hb1 (belowAlloc w1 (.cells #[.int .i64 yh, .int .i64 yl, .slice a1 n1 c1] 84)) (Nat.le_refl _)
      have hdw := hdk _ hbX
      clear hdk
      have HbX := Lib.hid hbX; clear hbX
      go_wp2
      go_quiet (fail)
      go_wp2
      go_ret2
      exact ⟨_, rfl, fun x hx => (by cases hx), belowDrewN HbX.out _⟩
    · rw [if_pos rfl]
      generalize hZ : cBnk ⟨yh, yl, ys⟩ = Z
      obtain ⟨zs, b2⟩ := Z
      try simp only
      have hE := errB_got pn pw zs b2
      have HZ := Lib.hid hZ; clear hZ
      have Hcon := Lib.hid hcon; clear hcon
      have Hw0 := Lib.hid hw0; clear hw0
      have hw0 := Hw0.out
      clear Hw0 hW hr hts htl hdw
      go_enter Tryz.func115, Tryz.ntmps115
      go_wp2_with fail
      with_reducible refine (Hcon.out).mono ?_
      rintro e w1 ⟨a1, n1, c1, rfl, ho1, hb1⟩
      have hba := belowAlloc w1 (.cells #[.int .i64 yh, .int .i64 yl, .slice a1 n1 c1] 84)
      obtain ⟨⟨p0, p1, p2⟩, q0, q1, q2⟩ := (Blk.new w1 yh yl a1 n1 c1 84).cells
      have hbv := belowTrans hb1 hba (Nat.le_refl _)
      have hc2 := bankBehind_any yh yl a1 n1 c1 ys _ (ho1.at.keep hba) (hgd (by trivial))
      rw [HZ.out] at hc2
      try simp only at hc2
      have hres := fun (v : Value) (w3 : World) (hb : Below w.heap.size w w3) => resStr_any pn pw v b2 w3 (hd.keep hb)
      clear hd hb1 hgd
      clear ho1
      have Hc2 := Lib.hid hc2; clear hc2
      have Hres := Lib.hid hres; clear hres
      have HE := Lib.hid hE; clear hE
      have Hbv := Lib.hid hbv; clear hbv
      go_wp2_with fail
      with_reducible refine (Hc2.out).mono ?_
      rintro e w2 ⟨rfl, hb2⟩
      have hb12 := belowTrans Hbv.out hb2 (Nat.le_refl _)
      have Hb12 := Lib.hid hb12; clear hb12
      go_wp2_with fail
      with_reducible refine (Hres.out _ _ Hb12.out).mono ?_
      rintro e w3 ⟨rfl, hb3⟩
      have hb := belowTrans Hb12.out hb3 (Nat.le_refl _)
      have Hb := Lib.hid hb; clear hb
      have Hb3 := Lib.hid hb3; clear hb3
      go_wp2
      go_ret2
      refine ⟨_, by rw [HE.out]; rfl, fun x hx => ?_, Hb.out⟩
      cases b2
      · cases hx
      · cases hx; exact rfl
  · have hne : ((wn : Int) == 1) = false := by simp; omega
    rw [oneW_len (by omega)]
    clear hd hW hr
    have H1 := Lib.hid h1; clear h1
    have Hrl := Lib.hid hrl; clear hrl
    go_enter Tryz.func115, Tryz.ntmps115
    go_wp2
    go_quiet (fail)
    go_wp2
    go_ret2
    exact ⟨_, rfl, fun x hx => (by cases hx), belowDrewN hb0 _⟩
end Go.Proofs.YtimmjimeldejjaaGreatDoor
