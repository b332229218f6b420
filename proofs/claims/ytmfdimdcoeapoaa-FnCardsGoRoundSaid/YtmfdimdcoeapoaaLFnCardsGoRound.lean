/- FnCardsGoRound: for every input the law returns true and leaves its arguments as they were. No condition. -/
import Derived.Test.YtmfdimdcoeapoaaRows
import Derived.WalkKit
import Derived.ProofKit
import Derived.OpenShut
import Derived.ShutString
import Derived.ChangeOld
import Derived.Below
import Derived.Test.YtmfdimdcoeapoaaHead
import Derived.Test.YtmfdimdcoeapoaaGe
import Derived.Test.YtmfdimdcoeapoaaLaww
import Derived.Test.YtmfdimdcoeapoaaDrawO
import Derived.Test.YtmfdimdcoeapoaaLevR
import Derived.Test.YtmfdimdcoeapoaaGw
import Derived.Test.YtmfdimdcoeapoaaLevU
import Derived.Test.YtmfdimdcoeapoaaSteps
namespace Go.Proofs.Ytmfdimdcoeapoaa.fnCardsGoRound
set_option linter.unusedSimpArgs false
open Go.ChangeShapes Go.WideShapes Go.ChangeAt Go.RowKit
open Go.ChangeMaps (open_string shut_string)
set_option linter.unusedVariables false

theorem own : ownKnob Try.prog.godebug = none := by kernel_rfl
theorem laidOut : laidOutB Try.prog = true := by kernel_rfl

/-- WHAT THE WALK IS TOLD OF A SLICE OF INTEGERS THAT CAME IN: it is nil; or it leads to a row of 'cap' cells, the numbers 'zs' (the first 'len' are its elements, the rest its spare room), each fitting its kind. -/
def IsRow (k : IntKind) (w : World) (a : Option Addr) (len cap : Nat) (zs : List Int) : Prop :=
  (a = none ∧ len = 0 ∧ cap = 0 ∧ zs = []) ∨
  ∃ x, a = some x ∧ len ≤ cap ∧ cap ≤ maxLen ∧ zs.length = cap ∧ (∀ i, i < zs.length → w.cell? (x.add i) = some (.int k (zs.getD i 0))) ∧ ∀ n ∈ zs, (Lit.int k n).wf = true

/-! ### THE WALK: the Go text returns true, AND WRITES NOTHING THAT WAS THERE: 'Below w.heap.size w w'' (Derived/Below.lean: '.refl', '.alloc', '.drew', '.setCell' at a new block, '.trans'). Open each 'IsRow' by 'rcases' AHEAD of 'go_enter'; part every test ahead of the walk. -/
set_option maxHeartbeats 4000000 in
set_option maxRecDepth 100000 in
theorem walk (a0 : Option Addr) (len0 cap0 : Nat) (z0 : List Int) (a1 : Option Addr) (len1 cap1 : Nat) (z1 : List Int) (w : World) (w0 : IsRow .u8 w a0 len0 cap0 z0) (w1 : IsRow .u8 w a1 len1 cap1 z1) :
    Calls Try.prog 7 #[.slice a0 len0 cap0, .slice a1 len1 cap1] w fun e w' => e = .returned (.bool true) ∧ Below w.heap.size w w' := by
  have by0 := byteIn_row w0
  have by1 := byteIn_row w1
  have hl0 : len0 ≤ maxLen := by
    rcases w0 with ⟨_, h, _⟩ | ⟨x, _, h, h', _⟩
    · rw [h]; exact Nat.zero_le _
    · exact Nat.le_trans h h'
  clear w0 w1
  by_cases hbig : 1048576 < len0 ∨ (1048576 : Int) - len0 < len1
  · have hb := big_yes a0 a1 len0 len1 cap0 cap1 w hbig hl0
    have Hb := Lib.hid hb; clear hb
    go_enter Try.func7, Try.ntmps7
    go_wp2_with fail
    with_reducible refine (Hb.out).mono ?_
    rintro e w' ⟨rfl, rfl⟩
    go_wp2
    go_ret
    exact ⟨rfl, Below.refl _ _⟩
  have hb := big_no a0 a1 len0 len1 cap0 cap1 w (by omega) (by omega)
  have hd := DrawCardBehind_any a0 len0 cap0 w (by omega) by0
  have hf := fun W (h : Below w.heap.size w W) => DrawRoundOf_any a1 len1 cap1 W (by omega) (by1.up (Nat.le_refl _) h h.size)
  have Hb := Lib.hid hb; clear hb
  have Hd := Lib.hid hd; clear hd
  have Hf := Lib.hid hf; clear hf
  clear by0 by1 hl0 hbig
  have acc : Below w.heap.size w w := Below.refl _ _
  go_enter Try.func7, Try.ntmps7
  go_wp2_with fail
  with_reducible refine (Hb.out).mono ?_
  rintro e w' ⟨rfl, rfl⟩
  clear Hb
  go_wp2_with fail
  with_reducible refine (Hd.out).mono ?_
  rintro e v1 ⟨p1, n1, c1, xs, pile, place, rfl, ho1, hnear, hp1, hp2, hq1, hq2, hb1⟩
  replace acc := belowTrans acc hb1 (Nat.le_refl _)
  clear hb1
  clear Hd hnear
  have hi := fun W h => impl_CardBehind p1 n1 c1 xs pile place W h
  have hs := fun W h => spec_CardBehind p1 n1 c1 xs pile place W h
  by_cases gk : goodB xs = true ∧ cardB xs pile place = true
  · skip
    obtain ⟨gx, hc⟩ := gk
    have gX := good_iff.1 gx
    obtain ⟨X, Y, hm, hxy, hX, hY1, hY2, hdz⟩ := card_behind gX hc
    simp only [hm] at hi hs
    have hst := fun W h => impl_StepPiles p1 n1 c1 xs W h
    simp only [mStep_yes gx] at hst
    have hdr := fun W h => impl_DropOf p1 n1 c1 xs W h
    simp only [mDrop_yes gx] at hdr
    have hd0 := (dropN_bound gX (k := xs.length) (Nat.le_refl _)).1
    have hd1 : 0 ≤ dropL xs := hd0
    generalize dropL xs = d at hdr hdz hd1
    generalize stepL xs = Z at hst hdz
    have g1 : ((X : Int) + Y == pile + place) = true := by simpa using hxy
    have g2 : decide ((X : Int) + Y = pile + place) = true := decide_eq_true hxy
    have hY18 : Y ≤ 28 := hY2
    clear hd0 hm hc gX gx
    have Hi := Lib.hid hi; clear hi
    have Hs := Lib.hid hs; clear hs
    have Hst := Lib.hid hst; clear hst
    have Hdr := Lib.hid hdr; clear hdr
    have Hdz := Lib.hid hdz; clear hdz
    have Hxy := Lib.hid hxy; clear hxy
    go_wp2_with fail
    with_reducible refine (Hi.out _ ho1.at).mono ?_
    rintro e v2 ⟨rfl, hb2⟩
    replace ho1 := ho1.keep hb2
    replace acc := belowTrans acc hb2 (Nat.le_refl _)
    clear hb2
    go_wp2_with fail
    with_reducible refine (Hs.out _ ho1.at).mono ?_
    rintro e v3 ⟨rfl, hb3⟩
    replace ho1 := ho1.keep hb3
    replace acc := belowTrans acc hb3 (Nat.le_refl _)
    clear hb3
    clear Hi Hs
    go_wp2_with fail
    with_reducible refine (Hf.out _ acc).mono ?_
    rintro e v4 ⟨l, k, hl1, hl2, hk1, hk2, rfl, hb4⟩
    replace ho1 := ho1.keep hb4
    replace acc := belowTrans acc hb4 (Nat.le_refl _)
    clear hb4
    clear Hf
    have hi := fun W => impl_RoundOf l k W
    have hs := fun W => spec_RoundOf l k W
    by_cases ht : (0 ≤ l ∧ l ≤ 28) ∧ 0 ≤ k ∧ k ≤ 1000
    · skip
      simp only [mRound_yes ht.1 ht.2] at hi hs
      have r1 := Int.tmod_nonneg (l + 1) ht.2.1
      have r2 := Int.tmod_lt_of_pos k (show 0 < l + 1 by omega)
      by_cases hk0 : 0 < k
      · skip
        have hj := fun W => impl_RoundOf l (k - 1) W
        simp only [mRound_yes ht.1 (show 0 ≤ k - 1 ∧ k - 1 ≤ 1000 by omega)] at hj
        have hrs := round_step ht.1.1 hk0
        generalize Int.tmod k (l + 1) = r at hi hs hrs r1 r2
        generalize Int.tmod (k - 1) (l + 1) = q at hj hrs
        obtain ⟨⟨g1, g2⟩, ⟨g3, g4⟩, hor⟩ := hrs
        have f1 : decide (r < 0) = false := decide_eq_false (by omega)
        have f2 : decide (r > l) = false := decide_eq_false (by omega)
        have f3 : decide (l < r) = false := decide_eq_false (by omega)
        clear ht
        rcases hor with rfl | ⟨rfl, rfl⟩
        · skip
          have Hi := Lib.hid hi; clear hi
          have Hs := Lib.hid hs; clear hs
          have Hj := Lib.hid hj; clear hj
          go_wp2_with fail
          with_reducible refine (Hi.out _).mono ?_
          rintro e v5 ⟨rfl, hb5⟩
          replace ho1 := ho1.keep hb5
          replace acc := belowTrans acc hb5 (Nat.le_refl _)
          clear hb5
          go_wp2_with fail
          with_reducible refine (Hs.out _).mono ?_
          rintro e v6 ⟨rfl, hb6⟩
          replace ho1 := ho1.keep hb6
          replace acc := belowTrans acc hb6 (Nat.le_refl _)
          clear hb6
          go_wp2_with fail
          with_reducible refine (Hj.out _).mono ?_
          rintro e v7 ⟨rfl, hb7⟩
          replace ho1 := ho1.keep hb7
          replace acc := belowTrans acc hb7 (Nat.le_refl _)
          clear hb7
          clear Hi Hs Hj f1 f2 f3
          go_wp2_with fail
          with_reducible refine (Hst.out _ ho1.at).mono ?_
          rintro e v8 ⟨pz, nz, cz, rfl, hoz, hb8⟩
          replace ho1 := ho1.keep hb8
          replace acc := belowTrans acc hb8 (Nat.le_refl _)
          clear hb8
          go_wp2_with fail
          with_reducible refine (Hdr.out _ ho1.at).mono ?_
          rintro e v9 ⟨rfl, hb9⟩
          replace ho1 := ho1.keep hb9
          replace hoz := hoz.keep hb9
          replace acc := belowTrans acc hb9 (Nat.le_refl _)
          clear hb9
          clear Hst Hdr
          by_cases hdp : 0 < d
          · have g3 : decide (d > 0) = true := decide_eq_true hdp
            have g4 : decide (0 < d) = true := decide_eq_true hdp
            go_wp2
            go_ret
            exact ⟨rfl, acc⟩
          have hz := Hdz.out (by omega)
          have hzl := hoz.length
          have hnz8 := hoz.at.lenInt
          obtain ⟨b, o, rfl, hbl, hcz⟩ := hoz.at.cell X (by omega)
          have hcX := hcz X (by omega)
          clear hcz
          have hzY := hz.2
          generalize Z.getD X 0 = y at hcX hzY
          have hXn : (X : Int) < nz := by omega
          have g3 : decide (d > 0) = false := decide_eq_false hdp
          have g4 : decide (0 < d) = false := decide_eq_false hdp
          have g5 : decide (Y < y) = true := decide_eq_true hzY
          clear hz hzl
          go_wp2
          go_ret
          exact ⟨rfl, acc⟩
        · skip
          have Hi := Lib.hid hi; clear hi
          have Hs := Lib.hid hs; clear hs
          have Hj := Lib.hid hj; clear hj
          go_wp2_with fail
          with_reducible refine (Hi.out _).mono ?_
          rintro e v5 ⟨rfl, hb5⟩
          replace ho1 := ho1.keep hb5
          replace acc := belowTrans acc hb5 (Nat.le_refl _)
          clear hb5
          go_wp2_with fail
          with_reducible refine (Hs.out _).mono ?_
          rintro e v6 ⟨rfl, hb6⟩
          replace ho1 := ho1.keep hb6
          replace acc := belowTrans acc hb6 (Nat.le_refl _)
          clear hb6
          go_wp2_with fail
          with_reducible refine (Hj.out _).mono ?_
          rintro e v7 ⟨rfl, hb7⟩
          replace ho1 := ho1.keep hb7
          replace acc := belowTrans acc hb7 (Nat.le_refl _)
          clear hb7
          clear Hi Hs Hj f1 f2 f3
          go_wp2_with fail
          with_reducible refine (Hst.out _ ho1.at).mono ?_
          rintro e v8 ⟨pz, nz, cz, rfl, hoz, hb8⟩
          replace ho1 := ho1.keep hb8
          replace acc := belowTrans acc hb8 (Nat.le_refl _)
          clear hb8
          go_wp2_with fail
          with_reducible refine (Hdr.out _ ho1.at).mono ?_
          rintro e v9 ⟨rfl, hb9⟩
          replace ho1 := ho1.keep hb9
          replace hoz := hoz.keep hb9
          replace acc := belowTrans acc hb9 (Nat.le_refl _)
          clear hb9
          clear Hst Hdr
          by_cases hdp : 0 < d
          · have g3 : decide (d > 0) = true := decide_eq_true hdp
            have g4 : decide (0 < d) = true := decide_eq_true hdp
            go_wp2
            go_ret
            exact ⟨rfl, acc⟩
          have hz := Hdz.out (by omega)
          have hzl := hoz.length
          have hnz8 := hoz.at.lenInt
          obtain ⟨b, o, rfl, hbl, hcz⟩ := hoz.at.cell X (by omega)
          have hcX := hcz X (by omega)
          clear hcz
          have hzY := hz.2
          generalize Z.getD X 0 = y at hcX hzY
          have hXn : (X : Int) < nz := by omega
          have g3 : decide (d > 0) = false := decide_eq_false hdp
          have g4 : decide (0 < d) = false := decide_eq_false hdp
          have g5 : decide (Y < y) = true := decide_eq_true hzY
          clear hz hzl
          go_wp2
          go_ret
          exact ⟨rfl, acc⟩
      have hk00 : k = 0 := by omega
      subst hk00
      rw [Int.zero_tmod] at hi hs
      have f2 : decide ((0 : Int) > l) = false := decide_eq_false (by omega)
      have f3 : decide (l < 0) = false := decide_eq_false (by omega)
      clear r1 r2 ht
      have Hi := Lib.hid hi; clear hi
      have Hs := Lib.hid hs; clear hs
      go_wp2_with fail
      with_reducible refine (Hi.out _).mono ?_
      rintro e v5 ⟨rfl, hb5⟩
      replace ho1 := ho1.keep hb5
      replace acc := belowTrans acc hb5 (Nat.le_refl _)
      clear hb5
      go_wp2_with fail
      with_reducible refine (Hs.out _).mono ?_
      rintro e v6 ⟨rfl, hb6⟩
      replace ho1 := ho1.keep hb6
      replace acc := belowTrans acc hb6 (Nat.le_refl _)
      clear hb6
      clear Hi Hs
      go_wp2_with fail
      with_reducible refine (Hst.out _ ho1.at).mono ?_
      rintro e v7 ⟨pz, nz, cz, rfl, hoz, hb7⟩
      replace ho1 := ho1.keep hb7
      replace acc := belowTrans acc hb7 (Nat.le_refl _)
      clear hb7
      go_wp2_with fail
      with_reducible refine (Hdr.out _ ho1.at).mono ?_
      rintro e v8 ⟨rfl, hb8⟩
      replace ho1 := ho1.keep hb8
      replace hoz := hoz.keep hb8
      replace acc := belowTrans acc hb8 (Nat.le_refl _)
      clear hb8
      clear Hst Hdr
      by_cases hdp : 0 < d
      · have g3 : decide (d > 0) = true := decide_eq_true hdp
        have g4 : decide (0 < d) = true := decide_eq_true hdp
        go_wp2
        go_ret
        exact ⟨rfl, acc⟩
      have hz := Hdz.out (by omega)
      have hzl := hoz.length
      have hnz8 := hoz.at.lenInt
      obtain ⟨b, o, rfl, hbl, hcz⟩ := hoz.at.cell X (by omega)
      have hcX := hcz X (by omega)
      clear hcz
      have hzY := hz.2
      generalize Z.getD X 0 = y at hcX hzY
      have hXn : (X : Int) < nz := by omega
      have g3 : decide (d > 0) = false := decide_eq_false hdp
      have g4 : decide (0 < d) = false := decide_eq_false hdp
      have g5 : decide (Y < y) = true := decide_eq_true hzY
      clear hz hzl
      go_wp2
      go_ret
      exact ⟨rfl, acc⟩
    · skip
      have e1 : mRoundOf l k = (0, false) := by unfold mRoundOf; rw [if_neg ht]
      simp only [e1] at hi hs
      clear e1 ht
      have Hi := Lib.hid hi; clear hi
      have Hs := Lib.hid hs; clear hs
      go_wp2_with fail
      with_reducible refine (Hi.out _).mono ?_
      rintro e v5 ⟨rfl, hb5⟩
      replace ho1 := ho1.keep hb5
      replace acc := belowTrans acc hb5 (Nat.le_refl _)
      clear hb5
      go_wp2_with fail
      with_reducible refine (Hs.out _).mono ?_
      rintro e v6 ⟨rfl, hb6⟩
      replace ho1 := ho1.keep hb6
      replace acc := belowTrans acc hb6 (Nat.le_refl _)
      clear hb6
      clear Hi Hs
      go_wp2_with fail
      with_reducible refine (Hst.out _ ho1.at).mono ?_
      rintro e v7 ⟨pz, nz, cz, rfl, hoz, hb7⟩
      replace ho1 := ho1.keep hb7
      replace acc := belowTrans acc hb7 (Nat.le_refl _)
      clear hb7
      go_wp2_with fail
      with_reducible refine (Hdr.out _ ho1.at).mono ?_
      rintro e v8 ⟨rfl, hb8⟩
      replace ho1 := ho1.keep hb8
      replace hoz := hoz.keep hb8
      replace acc := belowTrans acc hb8 (Nat.le_refl _)
      clear hb8
      clear Hst Hdr
      by_cases hdp : 0 < d
      · have g3 : decide (d > 0) = true := decide_eq_true hdp
        have g4 : decide (0 < d) = true := decide_eq_true hdp
        go_wp2
        go_ret
        exact ⟨rfl, acc⟩
      have hz := Hdz.out (by omega)
      have hzl := hoz.length
      have hnz8 := hoz.at.lenInt
      obtain ⟨b, o, rfl, hbl, hcz⟩ := hoz.at.cell X (by omega)
      have hcX := hcz X (by omega)
      clear hcz
      have hzY := hz.2
      generalize Z.getD X 0 = y at hcX hzY
      have hXn : (X : Int) < nz := by omega
      have g3 : decide (d > 0) = false := decide_eq_false hdp
      have g4 : decide (0 < d) = false := decide_eq_false hdp
      have g5 : decide (Y < y) = true := decide_eq_true hzY
      clear hz hzl
      go_wp2
      go_ret
      exact ⟨rfl, acc⟩
  · skip
    simp only [mCard_no gk] at hi hs
    clear gk
    have Hi := Lib.hid hi; clear hi
    have Hs := Lib.hid hs; clear hs
    go_wp2_with fail
    with_reducible refine (Hi.out _ ho1.at).mono ?_
    rintro e v2 ⟨rfl, hb2⟩
    replace ho1 := ho1.keep hb2
    replace acc := belowTrans acc hb2 (Nat.le_refl _)
    clear hb2
    go_wp2_with fail
    with_reducible refine (Hs.out _ ho1.at).mono ?_
    rintro e v3 ⟨rfl, hb3⟩
    replace ho1 := ho1.keep hb3
    replace acc := belowTrans acc hb3 (Nat.le_refl _)
    clear hb3
    clear Hi Hs
    go_wp2_with fail
    with_reducible refine (Hf.out _ acc).mono ?_
    rintro e v4 ⟨l, k, hl1, hl2, hk1, hk2, rfl, hb4⟩
    replace ho1 := ho1.keep hb4
    replace acc := belowTrans acc hb4 (Nat.le_refl _)
    clear hb4
    clear Hf
    have hi := fun W => impl_RoundOf l k W
    have hs := fun W => spec_RoundOf l k W
    by_cases ht : (0 ≤ l ∧ l ≤ 28) ∧ 0 ≤ k ∧ k ≤ 1000
    · skip
      simp only [mRound_yes ht.1 ht.2] at hi hs
      have r1 := Int.tmod_nonneg (l + 1) ht.2.1
      have r2 := Int.tmod_lt_of_pos k (show 0 < l + 1 by omega)
      by_cases hk0 : 0 < k
      · skip
        have hj := fun W => impl_RoundOf l (k - 1) W
        simp only [mRound_yes ht.1 (show 0 ≤ k - 1 ∧ k - 1 ≤ 1000 by omega)] at hj
        have hrs := round_step ht.1.1 hk0
        generalize Int.tmod k (l + 1) = r at hi hs hrs r1 r2
        generalize Int.tmod (k - 1) (l + 1) = q at hj hrs
        obtain ⟨⟨g1, g2⟩, ⟨g3, g4⟩, hor⟩ := hrs
        have f1 : decide (r < 0) = false := decide_eq_false (by omega)
        have f2 : decide (r > l) = false := decide_eq_false (by omega)
        have f3 : decide (l < r) = false := decide_eq_false (by omega)
        clear ht
        rcases hor with rfl | ⟨rfl, rfl⟩
        · skip
          have Hi := Lib.hid hi; clear hi
          have Hs := Lib.hid hs; clear hs
          have Hj := Lib.hid hj; clear hj
          go_wp2_with fail
          with_reducible refine (Hi.out _).mono ?_
          rintro e v5 ⟨rfl, hb5⟩
          replace ho1 := ho1.keep hb5
          replace acc := belowTrans acc hb5 (Nat.le_refl _)
          clear hb5
          go_wp2_with fail
          with_reducible refine (Hs.out _).mono ?_
          rintro e v6 ⟨rfl, hb6⟩
          replace ho1 := ho1.keep hb6
          replace acc := belowTrans acc hb6 (Nat.le_refl _)
          clear hb6
          go_wp2_with fail
          with_reducible refine (Hj.out _).mono ?_
          rintro e v7 ⟨rfl, hb7⟩
          replace ho1 := ho1.keep hb7
          replace acc := belowTrans acc hb7 (Nat.le_refl _)
          clear hb7
          clear Hi Hs Hj f1 f2 f3
          go_wp2
          go_ret
          exact ⟨rfl, acc⟩
        · skip
          have Hi := Lib.hid hi; clear hi
          have Hs := Lib.hid hs; clear hs
          have Hj := Lib.hid hj; clear hj
          go_wp2_with fail
          with_reducible refine (Hi.out _).mono ?_
          rintro e v5 ⟨rfl, hb5⟩
          replace ho1 := ho1.keep hb5
          replace acc := belowTrans acc hb5 (Nat.le_refl _)
          clear hb5
          go_wp2_with fail
          with_reducible refine (Hs.out _).mono ?_
          rintro e v6 ⟨rfl, hb6⟩
          replace ho1 := ho1.keep hb6
          replace acc := belowTrans acc hb6 (Nat.le_refl _)
          clear hb6
          go_wp2_with fail
          with_reducible refine (Hj.out _).mono ?_
          rintro e v7 ⟨rfl, hb7⟩
          replace ho1 := ho1.keep hb7
          replace acc := belowTrans acc hb7 (Nat.le_refl _)
          clear hb7
          clear Hi Hs Hj f1 f2 f3
          go_wp2
          go_ret
          exact ⟨rfl, acc⟩
      have hk00 : k = 0 := by omega
      subst hk00
      rw [Int.zero_tmod] at hi hs
      have f2 : decide ((0 : Int) > l) = false := decide_eq_false (by omega)
      have f3 : decide (l < 0) = false := decide_eq_false (by omega)
      clear r1 r2 ht
      have Hi := Lib.hid hi; clear hi
      have Hs := Lib.hid hs; clear hs
      go_wp2_with fail
      with_reducible refine (Hi.out _).mono ?_
      rintro e v5 ⟨rfl, hb5⟩
      replace ho1 := ho1.keep hb5
      replace acc := belowTrans acc hb5 (Nat.le_refl _)
      clear hb5
      go_wp2_with fail
      with_reducible refine (Hs.out _).mono ?_
      rintro e v6 ⟨rfl, hb6⟩
      replace ho1 := ho1.keep hb6
      replace acc := belowTrans acc hb6 (Nat.le_refl _)
      clear hb6
      clear Hi Hs
      go_wp2
      go_ret
      exact ⟨rfl, acc⟩
    · skip
      have e1 : mRoundOf l k = (0, false) := by unfold mRoundOf; rw [if_neg ht]
      simp only [e1] at hi hs
      clear e1 ht
      have Hi := Lib.hid hi; clear hi
      have Hs := Lib.hid hs; clear hs
      go_wp2_with fail
      with_reducible refine (Hi.out _).mono ?_
      rintro e v5 ⟨rfl, hb5⟩
      replace ho1 := ho1.keep hb5
      replace acc := belowTrans acc hb5 (Nat.le_refl _)
      clear hb5
      go_wp2_with fail
      with_reducible refine (Hs.out _).mono ?_
      rintro e v6 ⟨rfl, hb6⟩
      replace ho1 := ho1.keep hb6
      replace acc := belowTrans acc hb6 (Nat.le_refl _)
      clear hb6
      clear Hi Hs
      go_wp2
      go_ret
      exact ⟨rfl, acc⟩

/-! ### THE ROW's STEP: WRITTEN OUT: LEAVE IT -/
set_option maxRecDepth 100000 in
theorem lifted (os : Os) (started : os.Started) (H : Type) (enc : TypeId × Value → H) :
    ReturnsInHanded {} Try.checked os 7 .any (Rows.fnCardsGoRoundSpec.pre6 enc Try.prog Try.f7 Rows.fnCardsGoRoundRow.domain false) (Rows.fnCardsGoRoundSpec.post enc Try.prog Try.f7 false true false false) := by
  refine returnsInHanded_of_change (C := Try.checked) own started (by kernel_rfl) Try.func7
    (ChangeSpec.witness6 (enc := enc) (C := Try.checked) false ⟨#[], #[.slice none 0 0, .slice none 0 0], []⟩ 8 (by kernel_rfl) (by kernel_rfl) (by kernel_rfl) (by kernel_rfl)) ?_
  intro W base args ds gs before hval0 hW hcnd _
  have hval : ∀ (j : Nat) t v, Try.f7.params[j]? = some t → args[j]? = some v → Value.okWide Try.prog W .any base t v := hval0
  have hW' := hW
  obtain ⟨p, q, hA0, hV, rfl, hfz, hnd⟩ := hW
  have hA : DataW.TrodAll enc Try.prog W 0 (fun _ => true) true Try.f7.params.toList args.toList ds p := hA0
  rw [Try.params7] at hA hval
  obtain ⟨v0, vs0, d0, ds0, p0, q0, hargs, rfl, rfl, h0, r0⟩ := trodAll_cons hA
  obtain ⟨v1, vs1, d1, ds1, p1, q1, rfl, rfl, rfl, h1, r1⟩ := trodAll_cons r0
  obtain ⟨rfl, rfl, rfl⟩ := trodAll_nil r1
  obtain rfl : args = #[v0, v1] := by cases args; simp_all
  obtain ⟨rfl, rfl⟩ := trodVars_none hV
  obtain ⟨a0, len0, cap0, rfl⟩ := okWide_slice Try.underlying22 (hval 0 22 v0 rfl rfl)
  have k0 := h0
  have lt0 : ∀ x ∈ p0, x.block < W.heap.size := by obtain ⟨m, hm⟩ := k0; exact DataW.trod_lt m _ _ _ hm
  obtain ⟨z0, w0⟩ : ∃ zs, IsRow .u8 W a0 len0 cap0 zs := by
    obtain ⟨fuel, hf⟩ := h0
    rcases open_ints Try.underlying22 Try.underlying5 (by kernel_rfl) hf with ⟨hcs, _⟩ | ⟨x, l, c, zs, hcs, _, hl, hm, hz, _, hcell, hwz⟩
    · simp [Value.cells] at hcs
      obtain ⟨rfl, rfl, rfl⟩ := hcs
      exact ⟨[], .inl ⟨rfl, rfl, rfl, rfl⟩⟩
    · simp [Value.cells] at hcs
      obtain ⟨rfl, rfl, rfl⟩ := hcs
      exact ⟨zs, .inr ⟨_, rfl, hl, hm, by simpa using hz, hcell, hwz⟩⟩
  obtain ⟨a1, len1, cap1, rfl⟩ := okWide_slice Try.underlying22 (hval 1 22 v1 rfl rfl)
  have k1 := h1
  have lt1 : ∀ x ∈ p1, x.block < W.heap.size := by obtain ⟨m, hm⟩ := k1; exact DataW.trod_lt m _ _ _ hm
  obtain ⟨z1, w1⟩ : ∃ zs, IsRow .u8 W a1 len1 cap1 zs := by
    obtain ⟨fuel, hf⟩ := h1
    rcases open_ints Try.underlying22 Try.underlying5 (by kernel_rfl) hf with ⟨hcs, _⟩ | ⟨x, l, c, zs, hcs, _, hl, hm, hz, _, hcell, hwz⟩
    · simp [Value.cells] at hcs
      obtain ⟨rfl, rfl, rfl⟩ := hcs
      exact ⟨[], .inl ⟨rfl, rfl, rfl, rfl⟩⟩
    · simp [Value.cells] at hcs
      obtain ⟨rfl, rfl, rfl⟩ := hcs
      exact ⟨zs, .inr ⟨_, rfl, hl, hm, by simpa using hz, hcell, hwz⟩⟩
  clear hA0 hval0
  refine (walk a0 len0 cap0 z0 a1 len1 cap1 z1 W w0 w1).mono fun e W' ⟨he, bel⟩ => ?_
  subst he
  exact ⟨_, rfl, _, _, _, [], _, [], hW', trodAll_mk1 (shut_bool Try.underlying4 _), (trodAll_cons_mk (Below.trod laidOut (by kernel_rfl) (of_decide_eq_true (by kernel_rfl)) k0 bel lt0) (trodAll_cons_mk (Below.trod laidOut (by kernel_rfl) (of_decide_eq_true (by kernel_rfl)) k1 bel lt1) trodAll_mk0)), rfl, bel.frame _, fun h => by cases h⟩

theorem closedFacts : joinedFacts Try.prog 7 Try.f7 Rows.fnCardsGoRoundSpec Rows.fnCardsGoRoundRow = true := by
  unfold joinedFacts
  rw [head_enter, head_lifts, head_make]
  kernel_rfl
theorem closedHere : joinedFacts Try.pinned.checked.prog 7 Try.f7 Rows.fnCardsGoRoundSpec Rows.fnCardsGoRoundRow = true := by
  rw [progEq]
  exact closedFacts
theorem over : Rows.fnCardsGoRoundRow.holds Try.pinned (OpenSpec.ofChange Rows.fnCardsGoRoundSpec) :=
  OpenClaim.holds_of_wide 7 Try.f7 rfl rfl rfl rfl rfl rfl rfl ⟨rfl, rfl, rfl, rfl, rfl⟩ rfl rfl rfl rfl rfl (by kernel_rfl) Try.func7 closedHere
    (of_decide_eq_true (by kernel_rfl)) (by unfold Func.isWrapper; first | (rw [if_pos (by decide +kernel)]; kernel_rfl) | (rw [if_neg (by decide +kernel)]; exact ⟨rfl, rfl⟩))
    (fun os started H enc _ => lifted os started H enc)

/-- ████ THE STATEMENT ████ -/
theorem proved : Rows.FnCardsGoRoundSaid := over
#print axioms proved
end Go.Proofs.Ytmfdimdcoeapoaa.fnCardsGoRound
