/- Chapter 2 by the program: LongestTail, FarthestStart, BasinSize. No condition. -/
import Derived.Test.YthppkfhhidlpiaaGreatGi
import Derived.Test.YthppkfhhidlpiaaGreatGl
namespace Go.Proofs.YthppkfhhidlpiaaGreat
open Go.RowKit
set_option linter.unusedVariables false
set_option linter.unusedSimpArgs false
set_option maxRecDepth 20000

theorem srt_head {l : List (List Int)} {f : List Int} (hf : f ∈ l) (h : ∀ g ∈ l, g = f ∨ befB f g = true) : (srt l).getD 0 [] = f := by
  have hs := srt_srtd l
  cases e : srt l with
  | nil => have := srt_mem.2 hf; rw [e] at this; cases this
  | cons x r =>
    show x = f
    have hx : x ∈ l := srt_mem.1 (by rw [e]; exact List.mem_cons_self)
    have hfm : f ∈ x :: r := by rw [← e]; exact srt_mem.2 hf
    rcases List.mem_cons.1 hfm with rfl | hr
    · rfl
    · rw [e] at hs
      have h1 := (List.pairwise_cons.1 hs).1 f hr
      rcases h x hx with e2 | e2
      · exact e2
      · rw [h1] at e2; cases e2
theorem long_levN {c : List (List Int)} {n : Nat} (h : AllCyc c n) : 1 ≤ levN c ∧ (longF (allL n)).1 = ((levN c : Nat) : Int) - 1 ∧ (srt (levL c (levN c - 1))).getD 0 [] = (longF (allL n)).2 := by
  obtain ⟨M, h1, h2, h3, h4, h5⟩ := long_lev h
  have hN : M + 1 = levN c := levN_unique h.toCyclics.roots h3 (fun t ht e => h2 (by
    have := levR_stop e (M - t)
    rwa [show t + (M - t) = M by omega] at this))
  rw [← hN, Nat.add_sub_cancel]
  exact ⟨by omega, by rw [h1]; omega, srt_head h4 h5⟩

set_option maxHeartbeats 1600000 in
theorem impl_LongestTail (n : Int) (w : World) :
    Calls Tryz.prog 9 #[.int .i64 n] w fun e w' => e = .returned (.tuple #[.int .i64 (mLongestTail n).1, .bool (mLongestTail n).2]) ∧ Below w.heap.size w w' := by
  have hcon := impl_CyclicPiles n w
  by_cases hn : 0 ≤ n ∧ n ≤ 28
  · obtain ⟨m, rfl⟩ := Int.eq_ofNat_of_zero_le hn.1
    have hm := mLong_yes m (by omega)
    rw [mCyc_yes m (by omega)] at hcon
    have hall := allC_all m (by omega)
    have hne := allC_ne m (by omega)
    have hr := hall.toCyclics.roots
    obtain ⟨hN1, hL1, _⟩ := long_levN hall
    rw [hL1] at hm
    obtain ⟨hN, _, _⟩ := levN_spec hr
    have hcl : (allC m).length ≤ 3718 := levR_length hr 0
    have hgd : ∀ x ∈ allC m, x.length ≤ 28 := fun x hx => (hr.good x hx).len
    have hlev := fun (w1 : World) (a : Option Addr) (k c : Nat) (ho : OwnRows w.heap.size w1.heap.size w1 a k c (allC m)) (hb : w.heap.size ≤ w1.heap.size) => levels_any w.heap.size a k c (allC m) m w1 ho hb hr hne
    generalize levN (allC m) = N at *
    generalize allC m = C at *
    have Hn := Lib.hid hn; clear hn
    have Hm := Lib.hid hm; clear hm
    have Hcon := Lib.hid hcon; clear hcon
    have Hall := Lib.hid hall; clear hall
    have Hne := Lib.hid hne; clear hne
    have Hr := Lib.hid hr; clear hr
    have Hlev := Lib.hid hlev; clear hlev
    have Hgd := Lib.hid hgd; clear hgd
    have HL1 := Lib.hid hL1; clear hL1
    go_enter Tryz.func9, Tryz.ntmps9
    go_wp2_with fail
    with_reducible refine (Hcon.out).mono ?_
    rintro e w1 ⟨a1, n1, c1, rfl, ho1, hb1⟩
    have hn1 := ho1.length
    have hs1 := hb1.size
    have hcon2 := treesFrom_any a1 n1 c1 C w1 ho1.at (by omega) Hgd.out
    have Hcon2 := Lib.hid hcon2; clear hcon2
    have Hn1 := Lib.hid hn1; clear hn1
    clear ho1
    go_wp2_with fail
    with_reducible refine (Hcon2.out).mono ?_
    rintro e w2 ⟨a2, c2, rfl, ho2, hb2⟩
    have hb12 := belowTrans hb1 hb2 (Nat.le_refl _)
    have hcon3 := Hlev.out w2 a2 n1 c2 (ho2.mono hs1 (Nat.le_refl _)) hb12.size
    have Hcon3 := Lib.hid hcon3; clear hcon3
    clear ho2
    go_wp2_with fail
    with_reducible refine (Hcon3.out).mono ?_
    rintro e w3 ⟨a3, c3, rfl, ⟨lvs, vss, hov, hlvx⟩, hb3⟩
    have hb13 := belowTrans hb12 hb3 (Nat.le_refl _)
    clear hov hlvx
    go_wp2
    go_ret2
    rw [Hm.out]
    exact ⟨rfl, hb13⟩
  · have hm := mLong_no n hn
    rw [mCyc_no n hn] at hcon
    have Hn := Lib.hid hn; clear hn
    have Hm := Lib.hid hm; clear hm
    have Hcon := Lib.hid hcon; clear hcon
    go_enter Tryz.func9, Tryz.ntmps9
    go_wp2_with fail
    with_reducible refine (Hcon.out).mono ?_
    rintro e w1 ⟨a1, n1, c1, rfl, ho1, hb1⟩
    go_wp2
    go_ret2
    rw [Hm.out]
    exact ⟨rfl, hb1⟩

set_option maxHeartbeats 1600000 in
theorem impl_FarthestStart (n : Int) (w : World) :
    Calls Tryz.prog 11 #[.int .i64 n] w fun e w' => ∃ ao' n' cap', e = .returned (.tuple #[.slice ao' n' cap', .bool (mFarthestStart n).2]) ∧ Own w.heap.size w'.heap.size w' ao' n' cap' (mFarthestStart n).1 ∧ Below w.heap.size w w' := by
  have hcon := impl_CyclicPiles n w
  by_cases hn : 0 ≤ n ∧ n ≤ 28
  · obtain ⟨m, rfl⟩ := Int.eq_ofNat_of_zero_le hn.1
    have hm := mFar_yes m (by omega)
    rw [mCyc_yes m (by omega)] at hcon
    have hall := allC_all m (by omega)
    have hne := allC_ne m (by omega)
    have hr := hall.toCyclics.roots
    obtain ⟨hN1, _, hL2⟩ := long_levN hall
    rw [← hL2] at hm
    obtain ⟨hN, _, hlast⟩ := levN_spec hr
    have hfm := hlast (levN (allC m) - 1) (by omega)
    clear hlast
    have hcl : (allC m).length ≤ 3718 := levR_length hr 0
    have hgd : ∀ x ∈ allC m, x.length ≤ 28 := fun x hx => (hr.good x hx).len
    have hA : (levs (allC m) (levN (allC m))).getD (levN (allC m) - 1) [] = levL (allC m) (levN (allC m) - 1) := levs_getD _ _ _ (by omega)
    have hle : (levL (allC m) (levN (allC m) - 1)).length ≤ 3718 := levR_length hr _
    have hll := levs_length (allC m) (levN (allC m))
    have hlev := fun (w1 : World) (a : Option Addr) (k c : Nat) (ho : OwnRows w.heap.size w1.heap.size w1 a k c (allC m)) (hb : w.heap.size ≤ w1.heap.size) => levels_any w.heap.size a k c (allC m) m w1 ho hb hr hne
    rw [← hA] at hm hfm hle
    generalize levs (allC m) (levN (allC m)) = A at *
    generalize levN (allC m) = N at *
    generalize allC m = C at *
    have Hn := Lib.hid hn; clear hn
    have Hm := Lib.hid hm; clear hm
    have Hcon := Lib.hid hcon; clear hcon
    have Hall := Lib.hid hall; clear hall
    have Hne := Lib.hid hne; clear hne
    have Hr := Lib.hid hr; clear hr
    have Hlev := Lib.hid hlev; clear hlev
    have Hgd := Lib.hid hgd; clear hgd
    have HL2 := Lib.hid hL2; clear hL2
    have Hfm := Lib.hid hfm; clear hfm
    have HA := Lib.hid hA; clear hA
    have Hll := Lib.hid hll; clear hll
    go_enter Tryz.func11, Tryz.ntmps11
    go_wp2_with fail
    with_reducible refine (Hcon.out).mono ?_
    rintro e w1 ⟨a1, n1, c1, rfl, ho1, hb1⟩
    have hn1 := ho1.length
    have hs1 := hb1.size
    have hcon2 := treesFrom_any a1 n1 c1 C w1 ho1.at (by omega) Hgd.out
    have Hcon2 := Lib.hid hcon2; clear hcon2
    have Hn1 := Lib.hid hn1; clear hn1
    clear ho1
    go_wp2_with fail
    with_reducible refine (Hcon2.out).mono ?_
    rintro e w2 ⟨a2, c2, rfl, ho2, hb2⟩
    have hb12 := belowTrans hb1 hb2 (Nat.le_refl _)
    have hcon3 := Hlev.out w2 a2 n1 c2 (ho2.mono hs1 (Nat.le_refl _)) hb12.size
    have Hcon3 := Lib.hid hcon3; clear hcon3
    clear ho2
    go_wp2_with fail
    with_reducible refine (Hcon3.out).mono ?_
    rintro e w3 ⟨a3, c3, rfl, ⟨lvs, vss, hov, hlv⟩, hb3⟩
    have hb13 := belowTrans hb12 hb3 (Nat.le_refl _)
    have hs3 := hb13.size
    obtain ⟨b, oo, a4, m4, c4, rfl, hbl, hck, _, hs⟩ := lvXRow hov hlv (show N - 1 < N by omega)
    have hap := hlv.apart (i := N - 1) (by rw [Hll.out]; omega)
    have hown := hs.own hap (Nat.le_refl _) (Nat.le_refl _) (Nat.le_refl _) (Nat.le_refl _)
    have hm4 := hown.length
    have eN : ((N - 1 : Nat) : Int) = (N : Int) - 1 := by omega
    have hcon4 := greatestFirst_any _ _ a4 m4 c4 _ w3 hown (by omega) hs3
    generalize hZ : A.getD (N - 1) [] = Z at *
    have Hcon4 := Lib.hid hcon4; clear hcon4
    have Hm4 := Lib.hid hm4; clear hm4
    have Hap := Lib.hid hap; clear hap
    have HZ := Lib.hid hZ; clear hZ
    clear hov hlv hs hown
    go_wp2_with fail
    with_reducible refine (Hcon4.out).mono ?_
    rintro e w5 ⟨rfl, ho5, hb5⟩
    obtain ⟨zs, hz, _⟩ := ho5.sp
    have hpos : 0 < m4 := by
      have h1 := Hm4.out
      rcases Nat.eq_zero_or_pos m4 with h0 | h0
      · rw [h0] at h1; exact absurd (List.eq_nil_of_length_eq_zero h1) Hfm.out
      · exact h0
    obtain ⟨b6, o6, a6, m6, c6, rfl, hbl6, hck6, _, hrow6⟩ := hz.getRow hpos
    rw [Nat.add_zero] at hck6
    have hs5 := hb5.size
    have hbf := hb13.trans hb5
    have Hbf := Lib.hid hbf; clear hbf
    go_wp2
    go_ret2
    rw [Hm.out]
    exact ⟨_, _, _, rfl, hrow6.mono (Nat.le_refl _) hs5, Hbf.out⟩
  · have hm := mFar_no n hn
    rw [mCyc_no n hn] at hcon
    have Hn := Lib.hid hn; clear hn
    have Hm := Lib.hid hm; clear hm
    have Hcon := Lib.hid hcon; clear hcon
    go_enter Tryz.func11, Tryz.ntmps11
    go_wp2_with fail
    with_reducible refine (Hcon.out).mono ?_
    rintro e w1 ⟨a1, n1, c1, rfl, ho1, hb1⟩
    go_wp2
    go_ret2
    rw [Hm.out]
    exact ⟨none, 0, 0, rfl, Own.nil _ _ _, hb1⟩

def sumN (A : List (List (List Int))) (j : Nat) : Nat := ((A.take j).map List.length).sum
theorem sumN_succ {A : List (List (List Int))} {j N : Nat} (h : j < N) (hl : A.length = N) : sumN A (j + 1) = sumN A j + (A.getD j []).length := by
  unfold sumN
  rw [take_snocL h hl, List.map_append, List.sum_append]; simp
theorem sumN_le (A : List (List (List Int))) (j : Nat) : sumN A j ≤ (A.map List.length).sum := by
  have := congrArg (fun l => (l.map List.length).sum) (List.take_append_drop j A)
  simp only [List.map_append, List.sum_append] at this
  unfold sumN
  omega
end Go.Proofs.YthppkfhhidlpiaaGreat
