/- Chapter 5 by the program: RowOrbit, IsCyclicRow. No condition. -/
import Derived.Test.YtbneibpakopllaaRowO
import Derived.WalkMore
namespace Go.Proofs.Ytbneibpakopllaa
open Go.RowKit
set_option linter.unusedVariables false
set_option linter.unusedSimpArgs false
set_option maxRecDepth 20000

set_option maxHeartbeats 3200000 in
theorem impl_RowOrbit (ao : Option Addr) (n cap : Nat) (xs : List Int) (w : World) (h : IntsAt w ao n cap xs) :
    Calls Try.prog 64 #[.slice ao n cap] w fun e w' => e = .returned (.tuple #[.int .i64 (mRowOrbit xs).1, .int .i64 (mRowOrbit xs).2.1, .bool (mRowOrbit xs).2.2]) ∧ Below w.heap.size w w' := by
  cases hg : rowB xs
  · have hm := mRO_no hg
    have Hg := Lib.hid hg; clear hg
    have Hm := Lib.hid hm; clear hm
    go_enter Try.func64, Try.ntmps64
    go_wp2
    go_step3
    go_wp2_with fail
    with_reducible refine (isRow_no _ _ _ _ _ h Hg.out).mono ?_
    rintro e w' ⟨rfl, rfl⟩
    go_wp2
    try rw [Exit.noGoto_ret]
    go_ret3
    rw [Hm.out]
    exact ⟨rfl, Below.refl _ _⟩
  · have hm := mRO_yes hg
    have hG := row_iff.1 hg
    have hlen := hG.len
    have hl := h.length
    have hwf := walkFrom_any ao n cap xs w h (by omega)
    have hR := rowsL_row hG
    have hno0 : ∀ k, k < 0 → metR xs k = none := fun k hk => by omega
    have Hg := Lib.hid hg; clear hg
    have Hm := Lib.hid hm; clear hm
    have HG := Lib.hid hG; clear hG
    have Hl := Lib.hid hl; clear hl
    have Hwf := Lib.hid hwf; clear hwf
    have HR := Lib.hid hR; clear hR
    go_enter Try.func64, Try.ntmps64
    go_wp2
    go_step3
    go_wp2_with fail
    with_reducible refine (isRow_yes _ _ _ _ _ h HG.out).mono ?_
    rintro e w' ⟨rfl, rfl⟩
    go_wp2_with fail
    with_reducible refine (Hwf.out).mono ?_
    rintro e w1 ⟨g, rfl, hwk, hb1⟩
    have hwb := WalkB.new hwk
    have hbb := hb1.alloc hb1.size (.cells #[hereFn g, stepFn g] 107)
    unfold hereFn stepFn at hwb hbb
    have hlo := hwk.lo
    have hgl := hwb.lt
    have hs1 := hb1.size
    have Hwb := Lib.hid hwb; clear hwb
    have Hbb := Lib.hid hbb; clear hbb
    clear hwk hb1
    go_wp2_with fail
    go_step3
    go_wp2_with fail
    go_loopw [5, 6, 7] (fun mv tv fv wr => ∃ (j : Nat) (a : Option Addr) (c : Nat), mv = .slice a j c ∧ tv = .int .i64 0 ∧ fv = .bool false ∧ j ≤ 1001 ∧ OwnRows (w1.heap.size + 1) wr.heap.size wr a j c (seenR xs j) ∧ WalkB w.heap.size wr g w1.heap.size (rowsL j xs) ∧ Hid (∀ k, k < j → metR xs k = none) ∧ Below w.heap.size w wr) (fun mv _ _ _ => 1002 - lenOf mv)
    case atStart => exact ⟨0, none, 0, rfl, rfl, rfl, by omega, OwnRows.nil _ _ _, Hwb.out, Lib.hid hno0, Hbb.out⟩
    case round =>
      obtain ⟨j, a, c, rfl, rfl, rfl, hj, hown, hw2, Hno, hb⟩ := hrel
      have hc0 := hw2.c0
      have hc1 := hw2.c1
      have hj8 : (j : Int) ≤ 1001 := by omega
      by_cases hlt : j ≤ 1000
      · have hcon := here_any _ _ _ _ hw2.walk
        have hs := hb.size
        have hhi := hw2.hi
        have Hcon := Lib.hid hcon; clear hcon
        go_wp2_with fail
        with_reducible refine (Hcon.out).mono ?_
        rintro e w3 ⟨a3, n3, c3, rfl, ho3, hb3⟩
        have hs3 := hb3.size
        have hown3 := hown.keep hb3
        have hw3 := hw2.keep hb3
        have hb4 := belowTrans hb hb3 (Nat.le_refl _)
        clear hown hw2 hb hb3 hc0 hc1
        obtain ⟨wi, hwi⟩ : ∃ wi : World, wi = wr := ⟨_, rfl⟩
        subst hwi
        go_wp2_with fail
        go_loopw [6, 7, 25] (fun tv fv iv wq => ∃ k : Nat, k ≤ j ∧ iv = .int .i64 k ∧ tv = .int .i64 0 ∧ fv = .bool false ∧ Hid (∀ i, i < k → rowsL i xs ≠ rowsL j xs) ∧ ∃ q, wq = w3.drewN q) (fun _ _ i _ => j - (intOf i).toNat)
        case atStart => exact ⟨0, Nat.zero_le _, rfl, rfl, rfl, Lib.hid (fun i hi => by omega), 0, rfl⟩
        case round =>
          obtain ⟨k, hk, rfl, rfl, rfl, Hall, q, rfl⟩ := hrel
          by_cases hkt : k < j
          · obtain ⟨b5, o5, e5, hb5, hc5⟩ := hown3.at.cell k hkt
            cases e5
            obtain ⟨a6, m6, c6, hck6, hi6⟩ := hc5 k hkt
            rw [seenR_getD _ _ _ hkt] at hi6
            clear hc5
            have hsame := equal_any a6 a3 m6 n3 c6 c3 _ _ (w3.drewN q) (hi6.drewN q) (ho3.at.drewN q)
            by_cases heq : rowsL k xs = rowsL j xs
            · rw [decide_eq_true heq] at hsame
              have horb := orbR_some (xs := xs) (i := k) (j := j) (by omega) hkt (metR_some hkt heq Hall.out) Hno.out
              have Hsame := Lib.hid hsame; clear hsame
              have Heq := Lib.hid heq; clear heq
              have Horb := Lib.hid horb; clear horb
              have Hi6 := Lib.hid hi6; clear hi6
              go_wp2_with fail
              with_reducible refine (Hsame.out).mono ?_
              rintro e w7 ⟨rfl, q2, rfl⟩
              go_wp2_with fail
              try rw [Exit.noGoto_ret]
              go_ret3
              rw [Hm.out, Horb.out]
              exact ⟨rfl, belowDrewN hb4 _⟩
            · rw [decide_eq_false heq] at hsame
              have hall2 : ∀ i, i < k + 1 → rowsL i xs ≠ rowsL j xs := fun i hi => by
                by_cases hik : i = k
                · subst hik; exact heq
                · exact Hall.out i (by omega)
              have Hsame := Lib.hid hsame; clear hsame
              have Heq := Lib.hid heq; clear heq
              have Hi6 := Lib.hid hi6; clear hi6
              have Hall2 := Lib.hid hall2; clear hall2
              go_wp2_with fail
              with_reducible refine (Hsame.out).mono ?_
              rintro e w7 ⟨rfl, q2, rfl⟩
              go_wp2_with fail
              go_roundw
              case rel => exact ⟨k + 1, by omega, by go_num, rfl, rfl, Hall2, _, rfl⟩
              case measure => simp [intOf]; omega
          · obtain rfl : k = j := by omega
            have hno2 : ∀ i, i < k + 1 → metR xs i = none := fun i hi => by
              by_cases hik : i = k
              · subst hik; exact metR_none Hall.out
              · exact Hno.out i (by omega)
            have hsucc := seenR_succ xs k
            have hown4 : OwnRows (w1.heap.size + 1) wi.heap.size (w3.drewN q) a k c (seenR xs k) := hown3.keep (belowDrewN (Below.refl _ _) q)
            have hw4 : WalkB w.heap.size (w3.drewN q) g w1.heap.size (rowsL k xs) := hw3.keep (belowDrewN (Below.refl _ _) q)
            have ho4 : Own wi.heap.size (w3.drewN q).heap.size (w3.drewN q) a3 n3 c3 (rowsL k xs) := ho3.keep (belowDrewN (Below.refl _ _) q)
            have hb5 : Below w.heap.size w (w3.drewN q) := belowDrewN hb4 q
            have hsz : wi.heap.size ≤ (w3.drewN q).heap.size := hs3
            clear hown3 hw3 ho3 hb4 Hall
            generalize w3.drewN q = W at *
            obtain ⟨svs, hsv, _⟩ := hown4.vals
            have Hno2 := Lib.hid hno2; clear hno2
            have Hsucc := Lib.hid hsucc; clear hsucc
            go_wp2_with (at_builtin; refine wpList_pushR W rfl _ _ rfl (w1.heap.size + 1) wi.heap.size _ k c _ rfl hown4 hsz a3 n3 c3 wi.heap.size _ ho4 (by omega) ho4.ge rfl (by omega) (by omega) ?_)
            intro a8 c8 w8 ho8 hc8
            have hw8 := hw4.chgSpine hsv hc8
            have hb8 := hb5.trans ((hown4.chgBelow hc8 (by omega)).mono (by omega))
            have hs8 := hc8.size
            clear hown4 hsv hc8 hw4
            have hcon := step_any _ _ _ _ hw8.walk (HR.out k)
            rw [← rowsL_add] at hcon
            have hc0 := hw8.c0
            have hc1 := hw8.c1
            have Hcon := Lib.hid hcon; clear hcon
            go_wp2_with fail
            with_reducible refine (Hcon.out).mono ?_
            rintro e w9 ⟨rfl, hwn, hc9⟩
            have hw9 := hw8.step hwn hc9
            clear hc0 hc1 hwn
            have hb9 := hb8.trans (chgBelowG hc9 (by omega) hlo)
            have hs9 := hc9.size
            have ho9 := (ho8.chg hc9 (fun p h1 _ => by omega)).mono (Nat.le_refl _) hs9
            go_wp2_with fail
            go_roundw
            case rel => exact ⟨k + 1, a8, c8, rfl, rfl, rfl, by omega, by rw [Hsucc.out]; exact ho9, hw9, Hno2, hb9⟩
            case measure => simp [lenOf]; omega
      · obtain rfl : j = 1001 := by omega
        have horb := orbR_none (xs := xs) Hno.out
        have Horb := Lib.hid horb; clear horb
        go_wp2_with fail
        try rw [Exit.noGoto_ret]
        go_ret3
        rw [Hm.out, Horb.out]
        exact ⟨rfl, hb⟩
theorem impl_IsCyclicRow (ao : Option Addr) (n cap : Nat) (xs : List Int) (w : World) (h : IntsAt w ao n cap xs) :
    Calls Try.prog 66 #[.slice ao n cap] w fun e w' => e = .returned (.tuple #[.bool (mIsCyclicRow xs).1, .bool (mIsCyclicRow xs).2]) ∧ Below w.heap.size w w' := by
  have hcon := impl_RowOrbit ao n cap xs w h
  have hm : mIsCyclicRow xs = ((mRowOrbit xs).2.2 && decide ((mRowOrbit xs).1 = 0), (mRowOrbit xs).2.2) := rfl
  generalize (mRowOrbit xs).1 = r1 at hcon hm
  generalize (mRowOrbit xs).2.1 = r2 at hcon hm
  generalize (mRowOrbit xs).2.2 = r3 at hcon hm
  have Hcon := Lib.hid hcon; clear hcon
  have Hm := Lib.hid hm; clear hm
  go_enter Try.func66, Try.ntmps66
  cases r3
  · go_wp2_with fail
    with_reducible refine (Hcon.out).mono ?_
    rintro e w' ⟨rfl, hb⟩
    go_wp2
    go_ret2
    rw [Hm.out]
    exact ⟨rfl, hb⟩
  · go_wp2_with fail
    with_reducible refine (Hcon.out).mono ?_
    rintro e w' ⟨rfl, hb⟩
    go_wp2
    go_ret2
    rw [Hm.out]
    exact ⟨rfl, hb⟩
end Go.Proofs.Ytbneibpakopllaa
