/- FnPlaysMeet: for every input the law returns true and leaves its arguments as they were. No condition. -/
import Derived.Test.YthppkfhhidlpiaaRows
import Derived.WalkKit
import Derived.ProofKit
import Derived.OpenShut
import Derived.ShutString
import Derived.ChangeOld
import Derived.Below
import Derived.Test.YthppkfhhidlpiaaHead
import Derived.Test.YthppkfhhidlpiaaGe
import Derived.Test.YthppkfhhidlpiaaGd
import Derived.Test.YthppkfhhidlpiaaGx
import Derived.Test.YthppkfhhidlpiaaMeetS
import Derived.Test.YthppkfhhidlpiaaMeet
import Derived.Test.YthppkfhhidlpiaaTail42
import Derived.Test.YthppkfhhidlpiaaSteps
import Derived.Test.YthppkfhhidlpiaaTailI
namespace Go.Proofs.Ythppkfhhidlpiaa.fnPlaysMeet
set_option linter.unusedSimpArgs false
open Go.ChangeShapes Go.WideShapes Go.ChangeAt Go.RowKit
open Go.ChangeMaps (open_string shut_string)
set_option linter.unusedVariables false

theorem own : ownKnob Try.prog.godebug = none := by kernel_rfl
theorem laidOut : laidOutB Try.prog = true := by kernel_rfl

/-- WHAT THE WALK IS TOLD OF A SLICE OF INTEGERS THAT CAME IN: it is nil; or it leads to a row of 'cap' cells, the numbers 'zs' (the first 'len' are its elements, the rest its spare room), each fitting its kind. -/
def IsRow (k : IntKind) (w : World) (a : Option Addr) (len cap : Nat) (zs : List Int) : Prop :=
  (a = none ∧ len = 0 ∧ cap = 0 ∧ zs = []) ∨
  ∃ x, a = some x ∧ len ≤ cap ∧ cap ≤ maxLen ∧ zs.length = cap ∧ (∀ i, i < zs.length → w.cell? (x.add i) = some (.int k (zs.getD i 0))) ∧ ∀ n ∈ zs, (Lit.int k n).wf = true

/-! ### THE WALK: the Go text returns true, AND WRITES NOTHING THAT WAS THERE: 'Below w.heap.size w w'' (Derived/Below.lean: '.refl', '.alloc', '.drew', '.setCell' at a new block, '.trans'). Open each 'IsRow' by 'rcases' AHEAD of 'go_enter'; part every test ahead of the walk. -/
set_option maxHeartbeats 4000000 in
set_option maxRecDepth 100000 in
theorem walk (a0 : Option Addr) (len0 cap0 : Nat) (z0 : List Int) (a1 : Option Addr) (len1 cap1 : Nat) (z1 : List Int) (w : World) (w0 : IsRow .u8 w a0 len0 cap0 z0) (w1 : IsRow .u8 w a1 len1 cap1 z1) :
    Calls Try.prog 6 #[.slice a0 len0 cap0, .slice a1 len1 cap1] w fun e w' => e = .returned (.bool true) ∧ Below w.heap.size w w' := by
  have by0 := byteIn_row w0
  have by1 := byteIn_row w1
  have hl0 : len0 ≤ maxLen := by
    rcases w0 with ⟨_, h, _⟩ | ⟨x, _, h, h', _⟩
    · rw [h]; exact Nat.zero_le _
    · exact Nat.le_trans h h'
  clear w0 w1
  by_cases hbig : 1048576 < len0 ∨ (1048576 : Int) - len0 < len1
  · have hb := big_yes a0 a1 len0 len1 cap0 cap1 w hbig hl0
    have Hb := Lib.hid hb; clear hb
    go_enter Try.func6, Try.ntmps6
    go_wp2_with fail
    with_reducible refine (Hb.out).mono ?_
    rintro e w' ⟨rfl, rfl⟩
    go_wp2
    go_ret
    exact ⟨rfl, Below.refl _ _⟩
  have hb := big_no a0 a1 len0 len1 cap0 cap1 w (by omega) (by omega)
  have hd := DrawMeetOfPlays_any a0 len0 cap0 w (by omega) by0
  have Hb := Lib.hid hb; clear hb
  have Hd := Lib.hid hd; clear hd
  clear by0 by1 hl0 hbig
  have acc : Below w.heap.size w w := Below.refl _ _
  go_enter Try.func6, Try.ntmps6
  go_wp2_with fail
  with_reducible refine (Hb.out).mono ?_
  rintro e w' ⟨rfl, rfl⟩
  clear Hb
  go_wp2_with fail
  with_reducible refine (Hd.out).mono ?_
  rintro e v1 ⟨p1, n1, c1, xs, q1, m1, d1, ys, rfl, ho1, ho2, hb1⟩
  replace acc := belowTrans acc hb1 (Nat.le_refl _)
  clear hb1
  clear Hd
  have hi := fun W h h' => impl_MeetOfPlays p1 n1 c1 xs q1 m1 d1 ys W h h'
  have hs := fun W h h' => spec_MeetOfPlays p1 n1 c1 xs q1 m1 d1 ys W h h'
  have hx := fun W h => impl_CycleOf p1 n1 c1 xs W h
  have hy := fun W h => impl_CycleOf q1 m1 d1 ys W h
  have ht := fun W h => impl_TailOf p1 n1 c1 xs W h
  have hu := fun W h => impl_TailOf q1 m1 d1 ys W h
  cases gx : goodB xs
  · simp only [mMeet_no1 gx] at hi hs
    simp only [mCycle_no gx] at hx
    simp only [mTail_no gx] at ht
    generalize (mCycleOf ys).2 = two at hy
    generalize (mCycleOf ys).1 = L at hy
    generalize (mTailOf ys).1 = t1 at hu
    generalize (mTailOf ys).2 = t2 at hu
    have Hi := Lib.hid hi; clear hi
    have Hs := Lib.hid hs; clear hs
    have Hx := Lib.hid hx; clear hx
    have Hy := Lib.hid hy; clear hy
    have Ht := Lib.hid ht; clear ht
    have Hu := Lib.hid hu; clear hu
    go_wp2_with fail
    with_reducible refine (Hi.out _ ho1.at ho2.at).mono ?_
    rintro e v2 ⟨rfl, hb2⟩
    replace ho1 := ho1.keep hb2
    replace ho2 := ho2.keep hb2
    replace acc := belowTrans acc hb2 (Nat.le_refl _)
    clear hb2
    go_wp2_with fail
    with_reducible refine (Hs.out _ ho1.at ho2.at).mono ?_
    rintro e v3 ⟨rfl, hb3⟩
    replace ho1 := ho1.keep hb3
    replace ho2 := ho2.keep hb3
    replace acc := belowTrans acc hb3 (Nat.le_refl _)
    clear hb3
    go_wp2_with fail
    with_reducible refine (Hx.out _ ho1.at).mono ?_
    rintro e v4 ⟨px, nx, cx, rfl, hox, hb4⟩
    replace ho1 := ho1.keep hb4
    replace ho2 := ho2.keep hb4
    replace acc := belowTrans acc hb4 (Nat.le_refl _)
    clear hb4
    go_wp2_with fail
    with_reducible refine (Hy.out _ ho2.at).mono ?_
    rintro e v5 ⟨py, ny, cy, rfl, hoy, hb5⟩
    replace ho1 := ho1.keep hb5
    replace ho2 := ho2.keep hb5
    replace hox := hox.keep hb5
    replace acc := belowTrans acc hb5 (Nat.le_refl _)
    clear hb5
    go_wp2_with fail
    with_reducible refine (Ht.out _ ho1.at).mono ?_
    rintro e v6 ⟨rfl, hb6⟩
    replace ho1 := ho1.keep hb6
    replace ho2 := ho2.keep hb6
    replace hox := hox.keep hb6
    replace hoy := hoy.keep hb6
    replace acc := belowTrans acc hb6 (Nat.le_refl _)
    clear hb6
    go_wp2_with fail
    with_reducible refine (Hu.out _ ho2.at).mono ?_
    rintro e v7 ⟨rfl, hb7⟩
    replace ho1 := ho1.keep hb7
    replace ho2 := ho2.keep hb7
    replace hox := hox.keep hb7
    replace hoy := hoy.keep hb7
    replace acc := belowTrans acc hb7 (Nat.le_refl _)
    clear hb7
    clear Hi Hs Hx Hy Ht Hu
    go_wp2
    go_ret
    exact ⟨rfl, acc⟩
  cases gy : goodB ys
  · simp only [mMeet_no2 gy] at hi hs
    simp only [mCycle_no gy] at hy
    simp only [mTail_no gy] at hu
    simp only [mCycle_yes gx] at hx
    simp only [mTail_yes gx] at ht
    generalize cycL xs = L at hx
    generalize (tailL xs : Int) = t1 at ht
    have Hi := Lib.hid hi; clear hi
    have Hs := Lib.hid hs; clear hs
    have Hx := Lib.hid hx; clear hx
    have Hy := Lib.hid hy; clear hy
    have Ht := Lib.hid ht; clear ht
    have Hu := Lib.hid hu; clear hu
    go_wp2_with fail
    with_reducible refine (Hi.out _ ho1.at ho2.at).mono ?_
    rintro e v2 ⟨rfl, hb2⟩
    replace ho1 := ho1.keep hb2
    replace ho2 := ho2.keep hb2
    replace acc := belowTrans acc hb2 (Nat.le_refl _)
    clear hb2
    go_wp2_with fail
    with_reducible refine (Hs.out _ ho1.at ho2.at).mono ?_
    rintro e v3 ⟨rfl, hb3⟩
    replace ho1 := ho1.keep hb3
    replace ho2 := ho2.keep hb3
    replace acc := belowTrans acc hb3 (Nat.le_refl _)
    clear hb3
    go_wp2_with fail
    with_reducible refine (Hx.out _ ho1.at).mono ?_
    rintro e v4 ⟨px, nx, cx, rfl, hox, hb4⟩
    replace ho1 := ho1.keep hb4
    replace ho2 := ho2.keep hb4
    replace acc := belowTrans acc hb4 (Nat.le_refl _)
    clear hb4
    go_wp2_with fail
    with_reducible refine (Hy.out _ ho2.at).mono ?_
    rintro e v5 ⟨py, ny, cy, rfl, hoy, hb5⟩
    replace ho1 := ho1.keep hb5
    replace ho2 := ho2.keep hb5
    replace hox := hox.keep hb5
    replace acc := belowTrans acc hb5 (Nat.le_refl _)
    clear hb5
    go_wp2_with fail
    with_reducible refine (Ht.out _ ho1.at).mono ?_
    rintro e v6 ⟨rfl, hb6⟩
    replace ho1 := ho1.keep hb6
    replace ho2 := ho2.keep hb6
    replace hox := hox.keep hb6
    replace hoy := hoy.keep hb6
    replace acc := belowTrans acc hb6 (Nat.le_refl _)
    clear hb6
    go_wp2_with fail
    with_reducible refine (Hu.out _ ho2.at).mono ?_
    rintro e v7 ⟨rfl, hb7⟩
    replace ho1 := ho1.keep hb7
    replace ho2 := ho2.keep hb7
    replace hox := hox.keep hb7
    replace hoy := hoy.keep hb7
    replace acc := belowTrans acc hb7 (Nat.le_refl _)
    clear hb7
    clear Hi Hs Hx Hy Ht Hu
    go_wp2
    go_ret
    exact ⟨rfl, acc⟩
  simp only [mCycle_yes gx] at hx
  simp only [mTail_yes gx] at ht
  simp only [mCycle_yes gy] at hy
  simp only [mTail_yes gy] at hu
  have gX := good_iff.1 gx
  have gY := good_iff.1 gy
  have h42x := tail42 gX
  have h42y := tail42 gY
  have hS := fun (k : Nat) (hk : k ≤ 42) => mSteps_yes (k := k) gx (by omega)
  have hT := fun (k : Nat) (hk : k ≤ 42) => mSteps_yes (k := k) gy (by omega)
  have hn0 : (cycL ys).length ≠ 0 := cycL_ne gY
  cases hm : meetL xs ys with
  | some k =>
    obtain ⟨hk42, heq, hbef⟩ := meet_le gX gY hm
    simp only [mMeet_yes gx gy hm] at hi hs
    generalize cycL xs = LX at hx
    generalize cycL ys = LY at hy hn0
    generalize tailL xs = tx at ht h42x
    generalize tailL ys = ty at hu h42y
    have hp := fun W h => impl_StepsFrom p1 n1 c1 xs k W h
    have hq := fun W h => impl_StepsFrom q1 m1 d1 ys k W h
    simp only [hS k hk42] at hp
    simp only [hT k hk42] at hq
    cases k with
    | zero =>
      have e0 : xs = ys := heq
      rw [show ((0 : Nat) : Int) = 0 from rfl] at hi hs hp hq
      rw [show stepsL 0 xs = xs from rfl] at hp
      rw [show stepsL 0 ys = ys from rfl] at hq
      clear hS hT hbef heq hm gX gY
      have Hi := Lib.hid hi; clear hi
      have Hs := Lib.hid hs; clear hs
      have Hx := Lib.hid hx; clear hx
      have Hy := Lib.hid hy; clear hy
      have Ht := Lib.hid ht; clear ht
      have Hu := Lib.hid hu; clear hu
      have Hp := Lib.hid hp; clear hp
      have Hq := Lib.hid hq; clear hq
      go_wp2_with fail
      with_reducible refine (Hi.out _ ho1.at ho2.at).mono ?_
      rintro e v2 ⟨rfl, hb2⟩
      replace ho1 := ho1.keep hb2
      replace ho2 := ho2.keep hb2
      replace acc := belowTrans acc hb2 (Nat.le_refl _)
      clear hb2
      go_wp2_with fail
      with_reducible refine (Hs.out _ ho1.at ho2.at).mono ?_
      rintro e v3 ⟨rfl, hb3⟩
      replace ho1 := ho1.keep hb3
      replace ho2 := ho2.keep hb3
      replace acc := belowTrans acc hb3 (Nat.le_refl _)
      clear hb3
      go_wp2_with fail
      with_reducible refine (Hx.out _ ho1.at).mono ?_
      rintro e v4 ⟨px, nx, cx, rfl, hox, hb4⟩
      replace ho1 := ho1.keep hb4
      replace ho2 := ho2.keep hb4
      replace acc := belowTrans acc hb4 (Nat.le_refl _)
      clear hb4
      go_wp2_with fail
      with_reducible refine (Hy.out _ ho2.at).mono ?_
      rintro e v5 ⟨py, ny, cy, rfl, hoy, hb5⟩
      replace ho1 := ho1.keep hb5
      replace ho2 := ho2.keep hb5
      replace hox := hox.keep hb5
      replace acc := belowTrans acc hb5 (Nat.le_refl _)
      clear hb5
      go_wp2_with fail
      with_reducible refine (Ht.out _ ho1.at).mono ?_
      rintro e v6 ⟨rfl, hb6⟩
      replace ho1 := ho1.keep hb6
      replace ho2 := ho2.keep hb6
      replace hox := hox.keep hb6
      replace hoy := hoy.keep hb6
      replace acc := belowTrans acc hb6 (Nat.le_refl _)
      clear hb6
      go_wp2_with fail
      with_reducible refine (Hu.out _ ho2.at).mono ?_
      rintro e v7 ⟨rfl, hb7⟩
      replace ho1 := ho1.keep hb7
      replace ho2 := ho2.keep hb7
      replace hox := hox.keep hb7
      replace hoy := hoy.keep hb7
      replace acc := belowTrans acc hb7 (Nat.le_refl _)
      clear hb7
      clear Hi Hs Hx Hy Ht Hu
      clear hox
      clear hoy
      go_wp2_with fail
      with_reducible refine (Hp.out _ ho1.at).mono ?_
      rintro e v8 ⟨pp, np, cp, rfl, hop, hb8⟩
      replace ho1 := ho1.keep hb8
      replace ho2 := ho2.keep hb8
      replace acc := belowTrans acc hb8 (Nat.le_refl _)
      clear hb8
      go_wp2_with fail
      with_reducible refine (Hq.out _ ho2.at).mono ?_
      rintro e v9 ⟨pq, nq, cq, rfl, hoq, hb9⟩
      replace ho1 := ho1.keep hb9
      replace ho2 := ho2.keep hb9
      replace hop := hop.keep hb9
      replace acc := belowTrans acc hb9 (Nat.le_refl _)
      clear hb9
      have hc := pSame_any _ _ _ _ _ _ _ _ _ hop.at hoq.at
      rw [decide_eq_true e0] at hc
      have Hc := Lib.hid hc; clear hc
      go_wp2_with fail
      with_reducible refine (Hc.out).mono ?_
      rintro e v10 ⟨rfl, hb10⟩
      replace ho1 := ho1.keep hb10
      replace ho2 := ho2.keep hb10
      replace hop := hop.keep hb10
      replace hoq := hoq.keep hb10
      replace acc := belowTrans acc hb10 (Nat.le_refl _)
      clear hb10
      clear Hc
      clear hop
      clear hoq
      have hc := pSame_any _ _ _ _ _ _ _ _ _ ho1.at ho2.at
      rw [decide_eq_true e0] at hc
      have Hc := Lib.hid hc; clear hc
      go_wp2_with fail
      with_reducible refine (Hc.out).mono ?_
      rintro e v11 ⟨rfl, hb11⟩
      replace ho1 := ho1.keep hb11
      replace ho2 := ho2.keep hb11
      replace acc := belowTrans acc hb11 (Nat.le_refl _)
      clear hb11
      clear Hc
      go_wp2
      go_ret
      exact ⟨rfl, acc⟩
    | succ k =>
      have hne : stepsL k xs ≠ stepsL k ys := hbef k (by omega)
      obtain ⟨K, hK⟩ : ∃ K : Int, ((k + 1 : Nat) : Int) = K := ⟨_, rfl⟩
      have hK1 : 1 ≤ K := by omega
      have hK2 : K ≤ 42 := by omega
      have hr := fun W h => impl_StepsFrom p1 n1 c1 xs (K - 1) W h
      have ht2 := fun W h => impl_StepsFrom q1 m1 d1 ys (K - 1) W h
      rw [show K - 1 = (k : Int) by omega] at hr ht2
      simp only [hS k (by omega)] at hr
      simp only [hT k (by omega)] at ht2
      rw [show (k : Int) = K - 1 by omega] at hr ht2
      rw [hK] at hi hs hp hq
      clear hS hT hbef hm gX gY hK
      generalize stepsL (k + 1) xs = zs at heq hp
      generalize stepsL (k + 1) ys = zt at heq hq
      generalize stepsL k xs = us at hne hr
      generalize stepsL k ys = vs at hne ht2
      subst heq
      have Hi := Lib.hid hi; clear hi
      have Hs := Lib.hid hs; clear hs
      have Hx := Lib.hid hx; clear hx
      have Hy := Lib.hid hy; clear hy
      have Ht := Lib.hid ht; clear ht
      have Hu := Lib.hid hu; clear hu
      have Hp := Lib.hid hp; clear hp
      have Hq := Lib.hid hq; clear hq
      have Hr := Lib.hid hr; clear hr
      have Ht2 := Lib.hid ht2; clear ht2
      have Hne := Lib.hid hne; clear hne
      go_wp2_with fail
      with_reducible refine (Hi.out _ ho1.at ho2.at).mono ?_
      rintro e v2 ⟨rfl, hb2⟩
      replace ho1 := ho1.keep hb2
      replace ho2 := ho2.keep hb2
      replace acc := belowTrans acc hb2 (Nat.le_refl _)
      clear hb2
      go_wp2_with fail
      with_reducible refine (Hs.out _ ho1.at ho2.at).mono ?_
      rintro e v3 ⟨rfl, hb3⟩
      replace ho1 := ho1.keep hb3
      replace ho2 := ho2.keep hb3
      replace acc := belowTrans acc hb3 (Nat.le_refl _)
      clear hb3
      go_wp2_with fail
      with_reducible refine (Hx.out _ ho1.at).mono ?_
      rintro e v4 ⟨px, nx, cx, rfl, hox, hb4⟩
      replace ho1 := ho1.keep hb4
      replace ho2 := ho2.keep hb4
      replace acc := belowTrans acc hb4 (Nat.le_refl _)
      clear hb4
      go_wp2_with fail
      with_reducible refine (Hy.out _ ho2.at).mono ?_
      rintro e v5 ⟨py, ny, cy, rfl, hoy, hb5⟩
      replace ho1 := ho1.keep hb5
      replace ho2 := ho2.keep hb5
      replace hox := hox.keep hb5
      replace acc := belowTrans acc hb5 (Nat.le_refl _)
      clear hb5
      go_wp2_with fail
      with_reducible refine (Ht.out _ ho1.at).mono ?_
      rintro e v6 ⟨rfl, hb6⟩
      replace ho1 := ho1.keep hb6
      replace ho2 := ho2.keep hb6
      replace hox := hox.keep hb6
      replace hoy := hoy.keep hb6
      replace acc := belowTrans acc hb6 (Nat.le_refl _)
      clear hb6
      go_wp2_with fail
      with_reducible refine (Hu.out _ ho2.at).mono ?_
      rintro e v7 ⟨rfl, hb7⟩
      replace ho1 := ho1.keep hb7
      replace ho2 := ho2.keep hb7
      replace hox := hox.keep hb7
      replace hoy := hoy.keep hb7
      replace acc := belowTrans acc hb7 (Nat.le_refl _)
      clear hb7
      clear Hi Hs Hx Hy Ht Hu
      clear hox
      clear hoy
      go_wp2_with fail
      with_reducible refine (Hp.out _ ho1.at).mono ?_
      rintro e v8 ⟨pp, np, cp, rfl, hop, hb8⟩
      replace ho1 := ho1.keep hb8
      replace ho2 := ho2.keep hb8
      replace acc := belowTrans acc hb8 (Nat.le_refl _)
      clear hb8
      go_wp2_with fail
      with_reducible refine (Hq.out _ ho2.at).mono ?_
      rintro e v9 ⟨pq, nq, cq, rfl, hoq, hb9⟩
      replace ho1 := ho1.keep hb9
      replace ho2 := ho2.keep hb9
      replace hop := hop.keep hb9
      replace acc := belowTrans acc hb9 (Nat.le_refl _)
      clear hb9
      have hc := pSame_any _ _ _ _ _ _ _ _ _ hop.at hoq.at
      rw [decide_eq_true rfl] at hc
      have Hc := Lib.hid hc; clear hc
      go_wp2_with fail
      with_reducible refine (Hc.out).mono ?_
      rintro e v10 ⟨rfl, hb10⟩
      replace ho1 := ho1.keep hb10
      replace ho2 := ho2.keep hb10
      replace hop := hop.keep hb10
      replace hoq := hoq.keep hb10
      replace acc := belowTrans acc hb10 (Nat.le_refl _)
      clear hb10
      clear Hc
      clear hop
      clear hoq
      go_wp2_with fail
      with_reducible refine (Hr.out _ ho1.at).mono ?_
      rintro e v11 ⟨pr, nr, cr, rfl, hor, hb11⟩
      replace ho1 := ho1.keep hb11
      replace ho2 := ho2.keep hb11
      replace acc := belowTrans acc hb11 (Nat.le_refl _)
      clear hb11
      go_wp2_with fail
      with_reducible refine (Ht2.out _ ho2.at).mono ?_
      rintro e v12 ⟨pt, nt, ct, rfl, hot, hb12⟩
      replace ho1 := ho1.keep hb12
      replace ho2 := ho2.keep hb12
      replace hor := hor.keep hb12
      replace acc := belowTrans acc hb12 (Nat.le_refl _)
      clear hb12
      have hc := pSame_any _ _ _ _ _ _ _ _ _ hor.at hot.at
      rw [decide_eq_false Hne.out] at hc
      have Hc := Lib.hid hc; clear hc
      go_wp2_with fail
      with_reducible refine (Hc.out).mono ?_
      rintro e v13 ⟨rfl, hb13⟩
      replace ho1 := ho1.keep hb13
      replace ho2 := ho2.keep hb13
      replace hor := hor.keep hb13
      replace hot := hot.keep hb13
      replace acc := belowTrans acc hb13 (Nat.le_refl _)
      clear hb13
      clear Hc
      go_wp2
      go_ret
      exact ⟨rfl, acc⟩
  | none =>
    simp only [mMeet_none gx gy hm] at hi hs
    have hnv := meet_never gX gY hm
    have hpx := fun W h => pSum_any p1 n1 c1 xs W h gX
    have hpy := fun W h => pSum_any q1 m1 d1 ys W h gY
    generalize cycL xs = LX at hx
    generalize hLY : cycL ys = LY at hy hn0
    generalize htx : tailL xs = tx at ht h42x
    generalize hty : tailL ys = ty at hu h42y
    have h0 : 0 < LY.length := by omega
    clear hn0
    by_cases hsum : xs.sum = ys.sum
    · rw [hsum] at hpx
      generalize ys.sum = S at hpx hpy
      clear hsum
      by_cases hlt : (tx : Int) < ty
      · skip
        have hP := fun W h => impl_StepsFrom p1 n1 c1 xs ty W h
        have hQ := fun W h => impl_StepsFrom q1 m1 d1 ys ty W h
        simp only [hS ty (by omega)] at hP
        simp only [hT ty (by omega)] at hQ
        have hne := hnv ty (by omega)
        generalize stepsL ty xs = us at hne hP
        generalize stepsL ty ys = vs at hne hQ
        clear hS hT hnv hm gX gY
        have hty8 : (ty : Int) ≤ 42 := by omega
        have htx8 : (tx : Int) ≤ 42 := by omega
        have Hi := Lib.hid hi; clear hi
        have Hs := Lib.hid hs; clear hs
        have Hx := Lib.hid hx; clear hx
        have Hy := Lib.hid hy; clear hy
        have Ht := Lib.hid ht; clear ht
        have Hu := Lib.hid hu; clear hu
        have HP := Lib.hid hP; clear hP
        have HQ := Lib.hid hQ; clear hQ
        have Hne := Lib.hid hne; clear hne
        have Hpx := Lib.hid hpx; clear hpx
        have Hpy := Lib.hid hpy; clear hpy
        go_wp2_with fail
        with_reducible refine (Hi.out _ ho1.at ho2.at).mono ?_
        rintro e v2 ⟨rfl, hb2⟩
        replace ho1 := ho1.keep hb2
        replace ho2 := ho2.keep hb2
        replace acc := belowTrans acc hb2 (Nat.le_refl _)
        clear hb2
        go_wp2_with fail
        with_reducible refine (Hs.out _ ho1.at ho2.at).mono ?_
        rintro e v3 ⟨rfl, hb3⟩
        replace ho1 := ho1.keep hb3
        replace ho2 := ho2.keep hb3
        replace acc := belowTrans acc hb3 (Nat.le_refl _)
        clear hb3
        go_wp2_with fail
        with_reducible refine (Hx.out _ ho1.at).mono ?_
        rintro e v4 ⟨px, nx, cx, rfl, hox, hb4⟩
        replace ho1 := ho1.keep hb4
        replace ho2 := ho2.keep hb4
        replace acc := belowTrans acc hb4 (Nat.le_refl _)
        clear hb4
        go_wp2_with fail
        with_reducible refine (Hy.out _ ho2.at).mono ?_
        rintro e v5 ⟨py, ny, cy, rfl, hoy, hb5⟩
        replace ho1 := ho1.keep hb5
        replace ho2 := ho2.keep hb5
        replace hox := hox.keep hb5
        replace acc := belowTrans acc hb5 (Nat.le_refl _)
        clear hb5
        go_wp2_with fail
        with_reducible refine (Ht.out _ ho1.at).mono ?_
        rintro e v6 ⟨rfl, hb6⟩
        replace ho1 := ho1.keep hb6
        replace ho2 := ho2.keep hb6
        replace hox := hox.keep hb6
        replace hoy := hoy.keep hb6
        replace acc := belowTrans acc hb6 (Nat.le_refl _)
        clear hb6
        go_wp2_with fail
        with_reducible refine (Hu.out _ ho2.at).mono ?_
        rintro e v7 ⟨rfl, hb7⟩
        replace ho1 := ho1.keep hb7
        replace ho2 := ho2.keep hb7
        replace hox := hox.keep hb7
        replace hoy := hoy.keep hb7
        replace acc := belowTrans acc hb7 (Nat.le_refl _)
        clear hb7
        clear Hi Hs Hx Hy Ht Hu
        go_wp2_with fail
        with_reducible refine (Hpx.out _ ho1.at).mono ?_
        rintro e w' ⟨rfl, rfl⟩
        go_wp2_with fail
        with_reducible refine (Hpy.out _ ho2.at).mono ?_
        rintro e w' ⟨rfl, rfl⟩
        have hl := hoy.length
        obtain ⟨by_, oy, rfl, hbl, hc⟩ := hoy.at.cell 0 (by omega)
        obtain ⟨a0', m0, c0, hcell, hat⟩ := hc 0 (by omega)
        rw [Nat.add_zero] at hcell
        have hny : (0 : Int) < ny := by omega
        have hny8 := hoy.at.lenInt
        clear hc
        have hh := pHasList_any _ _ _ _ _ _ _ _ _ hox.at hat
        generalize decide (LY.getD 0 [] ∈ LX) = t at hh
        have Hh := Lib.hid hh; clear hh
        have Hl := Lib.hid hl; clear hl
        cases t
        · skip
          go_wp2_with fail
          with_reducible refine (Hh.out).mono ?_
          rintro e v8 ⟨rfl, hb8⟩
          replace ho1 := ho1.keep hb8
          replace ho2 := ho2.keep hb8
          replace hox := hox.keep hb8
          replace hoy := hoy.keep hb8
          replace acc := belowTrans acc hb8 (Nat.le_refl _)
          clear hb8
          go_wp2
          go_ret
          exact ⟨rfl, acc⟩
        · skip
          go_wp2_with fail
          with_reducible refine (Hh.out).mono ?_
          rintro e v8 ⟨rfl, hb8⟩
          replace ho1 := ho1.keep hb8
          replace ho2 := ho2.keep hb8
          replace hox := hox.keep hb8
          replace hoy := hoy.keep hb8
          replace acc := belowTrans acc hb8 (Nat.le_refl _)
          clear hb8
          clear hox
          clear hoy
          go_wp2_with fail
          with_reducible refine (HP.out _ ho1.at).mono ?_
          rintro e v9 ⟨pp, np, cp, rfl, hop, hb9⟩
          replace ho1 := ho1.keep hb9
          replace ho2 := ho2.keep hb9
          replace acc := belowTrans acc hb9 (Nat.le_refl _)
          clear hb9
          go_wp2_with fail
          with_reducible refine (HQ.out _ ho2.at).mono ?_
          rintro e v10 ⟨pq, nq, cq, rfl, hoq, hb10⟩
          replace ho1 := ho1.keep hb10
          replace ho2 := ho2.keep hb10
          replace hop := hop.keep hb10
          replace acc := belowTrans acc hb10 (Nat.le_refl _)
          clear hb10
          have hc := pSame_any _ _ _ _ _ _ _ _ _ hop.at hoq.at
          rw [decide_eq_false Hne.out] at hc
          have Hc := Lib.hid hc; clear hc
          go_wp2_with fail
          with_reducible refine (Hc.out).mono ?_
          rintro e v11 ⟨rfl, hb11⟩
          replace ho1 := ho1.keep hb11
          replace ho2 := ho2.keep hb11
          replace hop := hop.keep hb11
          replace hoq := hoq.keep hb11
          replace acc := belowTrans acc hb11 (Nat.le_refl _)
          clear hb11
          clear Hc
          go_wp2
          go_ret
          exact ⟨rfl, acc⟩
      · skip
        have hP := fun W h => impl_StepsFrom p1 n1 c1 xs tx W h
        have hQ := fun W h => impl_StepsFrom q1 m1 d1 ys tx W h
        simp only [hS tx (by omega)] at hP
        simp only [hT tx (by omega)] at hQ
        have hne := hnv tx (by omega)
        generalize stepsL tx xs = us at hne hP
        generalize stepsL tx ys = vs at hne hQ
        clear hS hT hnv hm gX gY
        have hty8 : (ty : Int) ≤ 42 := by omega
        have htx8 : (tx : Int) ≤ 42 := by omega
        have Hi := Lib.hid hi; clear hi
        have Hs := Lib.hid hs; clear hs
        have Hx := Lib.hid hx; clear hx
        have Hy := Lib.hid hy; clear hy
        have Ht := Lib.hid ht; clear ht
        have Hu := Lib.hid hu; clear hu
        have HP := Lib.hid hP; clear hP
        have HQ := Lib.hid hQ; clear hQ
        have Hne := Lib.hid hne; clear hne
        have Hpx := Lib.hid hpx; clear hpx
        have Hpy := Lib.hid hpy; clear hpy
        go_wp2_with fail
        with_reducible refine (Hi.out _ ho1.at ho2.at).mono ?_
        rintro e v2 ⟨rfl, hb2⟩
        replace ho1 := ho1.keep hb2
        replace ho2 := ho2.keep hb2
        replace acc := belowTrans acc hb2 (Nat.le_refl _)
        clear hb2
        go_wp2_with fail
        with_reducible refine (Hs.out _ ho1.at ho2.at).mono ?_
        rintro e v3 ⟨rfl, hb3⟩
        replace ho1 := ho1.keep hb3
        replace ho2 := ho2.keep hb3
        replace acc := belowTrans acc hb3 (Nat.le_refl _)
        clear hb3
        go_wp2_with fail
        with_reducible refine (Hx.out _ ho1.at).mono ?_
        rintro e v4 ⟨px, nx, cx, rfl, hox, hb4⟩
        replace ho1 := ho1.keep hb4
        replace ho2 := ho2.keep hb4
        replace acc := belowTrans acc hb4 (Nat.le_refl _)
        clear hb4
        go_wp2_with fail
        with_reducible refine (Hy.out _ ho2.at).mono ?_
        rintro e v5 ⟨py, ny, cy, rfl, hoy, hb5⟩
        replace ho1 := ho1.keep hb5
        replace ho2 := ho2.keep hb5
        replace hox := hox.keep hb5
        replace acc := belowTrans acc hb5 (Nat.le_refl _)
        clear hb5
        go_wp2_with fail
        with_reducible refine (Ht.out _ ho1.at).mono ?_
        rintro e v6 ⟨rfl, hb6⟩
        replace ho1 := ho1.keep hb6
        replace ho2 := ho2.keep hb6
        replace hox := hox.keep hb6
        replace hoy := hoy.keep hb6
        replace acc := belowTrans acc hb6 (Nat.le_refl _)
        clear hb6
        go_wp2_with fail
        with_reducible refine (Hu.out _ ho2.at).mono ?_
        rintro e v7 ⟨rfl, hb7⟩
        replace ho1 := ho1.keep hb7
        replace ho2 := ho2.keep hb7
        replace hox := hox.keep hb7
        replace hoy := hoy.keep hb7
        replace acc := belowTrans acc hb7 (Nat.le_refl _)
        clear hb7
        clear Hi Hs Hx Hy Ht Hu
        go_wp2_with fail
        with_reducible refine (Hpx.out _ ho1.at).mono ?_
        rintro e w' ⟨rfl, rfl⟩
        go_wp2_with fail
        with_reducible refine (Hpy.out _ ho2.at).mono ?_
        rintro e w' ⟨rfl, rfl⟩
        have hl := hoy.length
        obtain ⟨by_, oy, rfl, hbl, hc⟩ := hoy.at.cell 0 (by omega)
        obtain ⟨a0', m0, c0, hcell, hat⟩ := hc 0 (by omega)
        rw [Nat.add_zero] at hcell
        have hny : (0 : Int) < ny := by omega
        have hny8 := hoy.at.lenInt
        clear hc
        have hh := pHasList_any _ _ _ _ _ _ _ _ _ hox.at hat
        generalize decide (LY.getD 0 [] ∈ LX) = t at hh
        have Hh := Lib.hid hh; clear hh
        have Hl := Lib.hid hl; clear hl
        cases t
        · skip
          go_wp2_with fail
          with_reducible refine (Hh.out).mono ?_
          rintro e v8 ⟨rfl, hb8⟩
          replace ho1 := ho1.keep hb8
          replace ho2 := ho2.keep hb8
          replace hox := hox.keep hb8
          replace hoy := hoy.keep hb8
          replace acc := belowTrans acc hb8 (Nat.le_refl _)
          clear hb8
          go_wp2
          go_ret
          exact ⟨rfl, acc⟩
        · skip
          go_wp2_with fail
          with_reducible refine (Hh.out).mono ?_
          rintro e v8 ⟨rfl, hb8⟩
          replace ho1 := ho1.keep hb8
          replace ho2 := ho2.keep hb8
          replace hox := hox.keep hb8
          replace hoy := hoy.keep hb8
          replace acc := belowTrans acc hb8 (Nat.le_refl _)
          clear hb8
          clear hox
          clear hoy
          go_wp2_with fail
          with_reducible refine (HP.out _ ho1.at).mono ?_
          rintro e v9 ⟨pp, np, cp, rfl, hop, hb9⟩
          replace ho1 := ho1.keep hb9
          replace ho2 := ho2.keep hb9
          replace acc := belowTrans acc hb9 (Nat.le_refl _)
          clear hb9
          go_wp2_with fail
          with_reducible refine (HQ.out _ ho2.at).mono ?_
          rintro e v10 ⟨pq, nq, cq, rfl, hoq, hb10⟩
          replace ho1 := ho1.keep hb10
          replace ho2 := ho2.keep hb10
          replace hop := hop.keep hb10
          replace acc := belowTrans acc hb10 (Nat.le_refl _)
          clear hb10
          have hc := pSame_any _ _ _ _ _ _ _ _ _ hop.at hoq.at
          rw [decide_eq_false Hne.out] at hc
          have Hc := Lib.hid hc; clear hc
          go_wp2_with fail
          with_reducible refine (Hc.out).mono ?_
          rintro e v11 ⟨rfl, hb11⟩
          replace ho1 := ho1.keep hb11
          replace ho2 := ho2.keep hb11
          replace hop := hop.keep hb11
          replace hoq := hoq.keep hb11
          replace acc := belowTrans acc hb11 (Nat.le_refl _)
          clear hb11
          clear Hc
          go_wp2
          go_ret
          exact ⟨rfl, acc⟩
    · skip
      have hneS : (xs.sum != ys.sum) = true := by simpa using hsum
      generalize xs.sum = S at hpx hneS
      generalize ys.sum = S2 at hpy hneS
      clear hS hT hnv hm gX gY hsum
      have Hi := Lib.hid hi; clear hi
      have Hs := Lib.hid hs; clear hs
      have Hx := Lib.hid hx; clear hx
      have Hy := Lib.hid hy; clear hy
      have Ht := Lib.hid ht; clear ht
      have Hu := Lib.hid hu; clear hu
      have Hpx := Lib.hid hpx; clear hpx
      have Hpy := Lib.hid hpy; clear hpy
      go_wp2_with fail
      with_reducible refine (Hi.out _ ho1.at ho2.at).mono ?_
      rintro e v2 ⟨rfl, hb2⟩
      replace ho1 := ho1.keep hb2
      replace ho2 := ho2.keep hb2
      replace acc := belowTrans acc hb2 (Nat.le_refl _)
      clear hb2
      go_wp2_with fail
      with_reducible refine (Hs.out _ ho1.at ho2.at).mono ?_
      rintro e v3 ⟨rfl, hb3⟩
      replace ho1 := ho1.keep hb3
      replace ho2 := ho2.keep hb3
      replace acc := belowTrans acc hb3 (Nat.le_refl _)
      clear hb3
      go_wp2_with fail
      with_reducible refine (Hx.out _ ho1.at).mono ?_
      rintro e v4 ⟨px, nx, cx, rfl, hox, hb4⟩
      replace ho1 := ho1.keep hb4
      replace ho2 := ho2.keep hb4
      replace acc := belowTrans acc hb4 (Nat.le_refl _)
      clear hb4
      go_wp2_with fail
      with_reducible refine (Hy.out _ ho2.at).mono ?_
      rintro e v5 ⟨py, ny, cy, rfl, hoy, hb5⟩
      replace ho1 := ho1.keep hb5
      replace ho2 := ho2.keep hb5
      replace hox := hox.keep hb5
      replace acc := belowTrans acc hb5 (Nat.le_refl _)
      clear hb5
      go_wp2_with fail
      with_reducible refine (Ht.out _ ho1.at).mono ?_
      rintro e v6 ⟨rfl, hb6⟩
      replace ho1 := ho1.keep hb6
      replace ho2 := ho2.keep hb6
      replace hox := hox.keep hb6
      replace hoy := hoy.keep hb6
      replace acc := belowTrans acc hb6 (Nat.le_refl _)
      clear hb6
      go_wp2_with fail
      with_reducible refine (Hu.out _ ho2.at).mono ?_
      rintro e v7 ⟨rfl, hb7⟩
      replace ho1 := ho1.keep hb7
      replace ho2 := ho2.keep hb7
      replace hox := hox.keep hb7
      replace hoy := hoy.keep hb7
      replace acc := belowTrans acc hb7 (Nat.le_refl _)
      clear hb7
      clear Hi Hs Hx Hy Ht Hu
      go_wp2_with fail
      with_reducible refine (Hpx.out _ ho1.at).mono ?_
      rintro e w' ⟨rfl, rfl⟩
      go_wp2_with fail
      with_reducible refine (Hpy.out _ ho2.at).mono ?_
      rintro e w' ⟨rfl, rfl⟩
      go_wp2
      go_ret
      exact ⟨rfl, acc⟩

/-! ### THE ROW's STEP: WRITTEN OUT: LEAVE IT -/
set_option maxRecDepth 100000 in
theorem lifted (os : Os) (started : os.Started) (H : Type) (enc : TypeId × Value → H) :
    ReturnsInHanded {} Try.checked os 6 .any (Rows.fnPlaysMeetSpec.pre6 enc Try.prog Try.f6 Rows.fnPlaysMeetRow.domain false) (Rows.fnPlaysMeetSpec.post enc Try.prog Try.f6 false true false false) := by
  refine returnsInHanded_of_change (C := Try.checked) own started (by kernel_rfl) Try.func6
    (ChangeSpec.witness6 (enc := enc) (C := Try.checked) false ⟨#[], #[.slice none 0 0, .slice none 0 0], []⟩ 8 (by kernel_rfl) (by kernel_rfl) (by kernel_rfl) (by kernel_rfl)) ?_
  intro W base args ds gs before hval0 hW hcnd _
  have hval : ∀ (j : Nat) t v, Try.f6.params[j]? = some t → args[j]? = some v → Value.okWide Try.prog W .any base t v := hval0
  have hW' := hW
  obtain ⟨p, q, hA0, hV, rfl, hfz, hnd⟩ := hW
  have hA : DataW.TrodAll enc Try.prog W 0 (fun _ => true) true Try.f6.params.toList args.toList ds p := hA0
  rw [Try.params6] at hA hval
  obtain ⟨v0, vs0, d0, ds0, p0, q0, hargs, rfl, rfl, h0, r0⟩ := trodAll_cons hA
  obtain ⟨v1, vs1, d1, ds1, p1, q1, rfl, rfl, rfl, h1, r1⟩ := trodAll_cons r0
  obtain ⟨rfl, rfl, rfl⟩ := trodAll_nil r1
  obtain rfl : args = #[v0, v1] := by cases args; simp_all
  obtain ⟨rfl, rfl⟩ := trodVars_none hV
  obtain ⟨a0, len0, cap0, rfl⟩ := okWide_slice Try.underlying22 (hval 0 22 v0 rfl rfl)
  have k0 := h0
  have lt0 : ∀ x ∈ p0, x.block < W.heap.size := by obtain ⟨m, hm⟩ := k0; exact DataW.trod_lt m _ _ _ hm
  obtain ⟨z0, w0⟩ : ∃ zs, IsRow .u8 W a0 len0 cap0 zs := by
    obtain ⟨fuel, hf⟩ := h0
    rcases open_ints Try.underlying22 Try.underlying5 (by kernel_rfl) hf with ⟨hcs, _⟩ | ⟨x, l, c, zs, hcs, _, hl, hm, hz, _, hcell, hwz⟩
    · simp [Value.cells] at hcs
      obtain ⟨rfl, rfl, rfl⟩ := hcs
      exact ⟨[], .inl ⟨rfl, rfl, rfl, rfl⟩⟩
    · simp [Value.cells] at hcs
      obtain ⟨rfl, rfl, rfl⟩ := hcs
      exact ⟨zs, .inr ⟨_, rfl, hl, hm, by simpa using hz, hcell, hwz⟩⟩
  obtain ⟨a1, len1, cap1, rfl⟩ := okWide_slice Try.underlying22 (hval 1 22 v1 rfl rfl)
  have k1 := h1
  have lt1 : ∀ x ∈ p1, x.block < W.heap.size := by obtain ⟨m, hm⟩ := k1; exact DataW.trod_lt m _ _ _ hm
  obtain ⟨z1, w1⟩ : ∃ zs, IsRow .u8 W a1 len1 cap1 zs := by
    obtain ⟨fuel, hf⟩ := h1
    rcases open_ints Try.underlying22 Try.underlying5 (by kernel_rfl) hf with ⟨hcs, _⟩ | ⟨x, l, c, zs, hcs, _, hl, hm, hz, _, hcell, hwz⟩
    · simp [Value.cells] at hcs
      obtain ⟨rfl, rfl, rfl⟩ := hcs
      exact ⟨[], .inl ⟨rfl, rfl, rfl, rfl⟩⟩
    · simp [Value.cells] at hcs
      obtain ⟨rfl, rfl, rfl⟩ := hcs
      exact ⟨zs, .inr ⟨_, rfl, hl, hm, by simpa using hz, hcell, hwz⟩⟩
  clear hA0 hval0
  refine (walk a0 len0 cap0 z0 a1 len1 cap1 z1 W w0 w1).mono fun e W' ⟨he, bel⟩ => ?_
  subst he
  exact ⟨_, rfl, _, _, _, [], _, [], hW', trodAll_mk1 (shut_bool Try.underlying4 _), (trodAll_cons_mk (Below.trod laidOut (by kernel_rfl) (of_decide_eq_true (by kernel_rfl)) k0 bel lt0) (trodAll_cons_mk (Below.trod laidOut (by kernel_rfl) (of_decide_eq_true (by kernel_rfl)) k1 bel lt1) trodAll_mk0)), rfl, bel.frame _, fun h => by cases h⟩

theorem closedFacts : joinedFacts Try.prog 6 Try.f6 Rows.fnPlaysMeetSpec Rows.fnPlaysMeetRow = true := by
  unfold joinedFacts
  rw [head_enter, head_lifts, head_make]
  kernel_rfl
theorem closedHere : joinedFacts Try.pinned.checked.prog 6 Try.f6 Rows.fnPlaysMeetSpec Rows.fnPlaysMeetRow = true := by
  rw [progEq]
  exact closedFacts
theorem over : Rows.fnPlaysMeetRow.holds Try.pinned (OpenSpec.ofChange Rows.fnPlaysMeetSpec) :=
  OpenClaim.holds_of_wide 6 Try.f6 rfl rfl rfl rfl rfl rfl rfl ⟨rfl, rfl, rfl, rfl, rfl⟩ rfl rfl rfl rfl rfl (by kernel_rfl) Try.func6 closedHere
    (of_decide_eq_true (by kernel_rfl)) (by unfold Func.isWrapper; first | (rw [if_pos (by decide +kernel)]; kernel_rfl) | (rw [if_neg (by decide +kernel)]; exact ⟨rfl, rfl⟩))
    (fun os started H enc _ => lifted os started H enc)

/-- ████ THE STATEMENT ████ -/
theorem proved : Rows.FnPlaysMeetSaid := over
#print axioms proved
end Go.Proofs.Ythppkfhhidlpiaa.fnPlaysMeet
