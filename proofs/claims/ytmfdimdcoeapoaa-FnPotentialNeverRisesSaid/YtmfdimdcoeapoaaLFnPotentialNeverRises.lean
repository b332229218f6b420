/- FnPotentialNeverRises: for every input the law returns true and leaves its arguments as they were. No condition. -/
import Derived.Test.YtmfdimdcoeapoaaRows
import Derived.WalkKit
import Derived.ProofKit
import Derived.OpenShut
import Derived.ShutString
import Derived.ChangeOld
import Derived.Below
import Derived.Test.YtmfdimdcoeapoaaHead
import Derived.Test.YtmfdimdcoeapoaaGe
import Derived.Test.YtmfdimdcoeapoaaLawt
import Derived.Test.YtmfdimdcoeapoaaDrawO
import Derived.Test.YtmfdimdcoeapoaaLevT
import Derived.Test.YtmfdimdcoeapoaaLevU
import Derived.Test.YtmfdimdcoeapoaaTailI
import Derived.Test.YtmfdimdcoeapoaaTail42
namespace Go.Proofs.Ytmfdimdcoeapoaa.fnPotentialNeverRises
set_option linter.unusedSimpArgs false
open Go.ChangeShapes Go.WideShapes Go.ChangeAt Go.RowKit
open Go.ChangeMaps (open_string shut_string)
set_option linter.unusedVariables false

theorem own : ownKnob Try.prog.godebug = none := by kernel_rfl
theorem laidOut : laidOutB Try.prog = true := by kernel_rfl

/-- WHAT THE WALK IS TOLD OF A SLICE OF INTEGERS THAT CAME IN: it is nil; or it leads to a row of 'cap' cells, the numbers 'zs' (the first 'len' are its elements, the rest its spare room), each fitting its kind. -/
def IsRow (k : IntKind) (w : World) (a : Option Addr) (len cap : Nat) (zs : List Int) : Prop :=
  (a = none ∧ len = 0 ∧ cap = 0 ∧ zs = []) ∨
  ∃ x, a = some x ∧ len ≤ cap ∧ cap ≤ maxLen ∧ zs.length = cap ∧ (∀ i, i < zs.length → w.cell? (x.add i) = some (.int k (zs.getD i 0))) ∧ ∀ n ∈ zs, (Lit.int k n).wf = true

/-! ### THE WALK: the Go text returns true, AND WRITES NOTHING THAT WAS THERE: 'Below w.heap.size w w'' (Derived/Below.lean: '.refl', '.alloc', '.drew', '.setCell' at a new block, '.trans'). Open each 'IsRow' by 'rcases' AHEAD of 'go_enter'; part every test ahead of the walk. -/
set_option maxHeartbeats 4000000 in
set_option maxRecDepth 100000 in
theorem walk (a0 : Option Addr) (len0 cap0 : Nat) (z0 : List Int) (a1 : Option Addr) (len1 cap1 : Nat) (z1 : List Int) (w : World) (w0 : IsRow .u8 w a0 len0 cap0 z0) (w1 : IsRow .u8 w a1 len1 cap1 z1) :
    Calls Try.prog 3 #[.slice a0 len0 cap0, .slice a1 len1 cap1] w fun e w' => e = .returned (.bool true) ∧ Below w.heap.size w w' := by
  have by0 := byteIn_row w0
  have by1 := byteIn_row w1
  have hl0 : len0 ≤ maxLen := by
    rcases w0 with ⟨_, h, _⟩ | ⟨x, _, h, h', _⟩
    · rw [h]; exact Nat.zero_le _
    · exact Nat.le_trans h h'
  clear w0 w1
  by_cases hbig : 1048576 < len0 ∨ (1048576 : Int) - len0 < len1
  · have hb := big_yes a0 a1 len0 len1 cap0 cap1 w hbig hl0
    have Hb := Lib.hid hb; clear hb
    go_enter Try.func3, Try.ntmps3
    go_wp2_with fail
    with_reducible refine (Hb.out).mono ?_
    rintro e w' ⟨rfl, rfl⟩
    go_wp2
    go_ret
    exact ⟨rfl, Below.refl _ _⟩
  have hb := big_no a0 a1 len0 len1 cap0 cap1 w (by omega) (by omega)
  have hd := DrawPotentialsOf_any a0 len0 cap0 w (by omega) by0
  have hf := fun W (h : Below w.heap.size w W) => DrawDropOf_any a1 len1 cap1 W (by omega) (by1.up (Nat.le_refl _) h h.size)
  have Hb := Lib.hid hb; clear hb
  have Hd := Lib.hid hd; clear hd
  have Hf := Lib.hid hf; clear hf
  clear by0 by1 hl0 hbig
  have acc : Below w.heap.size w w := Below.refl _ _
  go_enter Try.func3, Try.ntmps3
  go_wp2_with fail
  with_reducible refine (Hb.out).mono ?_
  rintro e w' ⟨rfl, rfl⟩
  clear Hb
  go_wp2_with fail
  with_reducible refine (Hd.out).mono ?_
  rintro e v1 ⟨p1, n1, c1, xs, k, rfl, ho1, hnear, hk1, hk2, hb1⟩
  replace acc := belowTrans acc hb1 (Nat.le_refl _)
  clear hb1
  clear Hd hnear
  have hi := fun W h => impl_PotentialsOf p1 n1 c1 xs k W h
  have hs := fun W h => spec_PotentialsOf p1 n1 c1 xs k W h
  by_cases gk : goodB xs = true ∧ 0 ≤ k ∧ k ≤ 1000
  · skip
    obtain ⟨gx, hk0, hk3⟩ := gk
    obtain ⟨K, rfl⟩ := Int.eq_ofNat_of_zero_le hk0
    have hK : K ≤ 1000 := by omega
    simp only [mPots_yes gx hK] at hi hs
    have gX := good_iff.1 gx
    have hpf := pots_fall gX K
    have hll := potsL_length xs K
    have hsum := fun W h => pSum_any p1 n1 c1 xs W h gX
    have h0 := sum_nonneg gX.1
    have h1 := gX.2.2
    have hpo := fun W h => impl_PotentialOf p1 n1 c1 xs W h
    simp only [mPot_yes gx] at hpo
    have hle := fun W => impl_LeastPotential xs.sum W
    have hsm : mLeastPotential xs.sum = (leastI xs.sum.toNat, true) := by unfold mLeastPotential; rw [if_pos (by omega)]
    simp only [hsm] at hle
    generalize potsL xs K = L at hi hs hpf hll
    generalize pot xs = p at hpf hpo
    generalize leastI xs.sum.toNat = q at hle hpf
    generalize xs.sum = S at hsum hle
    clear hsm h0 h1 gX gx
    have Hi := Lib.hid hi; clear hi
    have Hs := Lib.hid hs; clear hs
    have Hpf := Lib.hid hpf; clear hpf
    have Hll := Lib.hid hll; clear hll
    have Hsum := Lib.hid hsum; clear hsum
    have Hpo := Lib.hid hpo; clear hpo
    have Hle := Lib.hid hle; clear hle
    go_wp2_with fail
    with_reducible refine (Hi.out _ ho1.at).mono ?_
    rintro e v2 ⟨pi, ni, ci, rfl, hoi, hb2⟩
    replace ho1 := ho1.keep hb2
    replace acc := belowTrans acc hb2 (Nat.le_refl _)
    clear hb2
    go_wp2_with fail
    with_reducible refine (Hs.out _ ho1.at).mono ?_
    rintro e v3 ⟨ps, ns, cs, rfl, hos, hb3⟩
    replace ho1 := ho1.keep hb3
    replace hoi := hoi.keep hb3
    replace acc := belowTrans acc hb3 (Nat.le_refl _)
    clear hb3
    clear Hi Hs
    have hc := pSame_any _ _ _ _ _ _ _ _ _ hoi.at hos.at
    rw [decide_eq_true rfl] at hc
    have Hc := Lib.hid hc; clear hc
    go_wp2_with fail
    with_reducible refine (Hc.out).mono ?_
    rintro e v4 ⟨rfl, hb4⟩
    replace ho1 := ho1.keep hb4
    replace hoi := hoi.keep hb4
    replace hos := hos.keep hb4
    replace acc := belowTrans acc hb4 (Nat.le_refl _)
    clear hb4
    clear Hc
    clear hos
    go_wp2_with fail
    with_reducible refine (Hf.out _ acc).mono ?_
    rintro e v5 ⟨p2, n2, c2, ys, rfl, ho2, hnear, hb5⟩
    replace ho1 := ho1.keep hb5
    replace hoi := hoi.keep hb5
    replace acc := belowTrans acc hb5 (Nat.le_refl _)
    clear hb5
    clear Hf hnear
    have hi := fun W h => impl_DropOf p2 n2 c2 ys W h
    have hs := fun W h => spec_DropOf p2 n2 c2 ys W h
    cases gy : goodB ys
    · skip
      simp only [mDrop_no gy] at hi hs
      have Hi := Lib.hid hi; clear hi
      have Hs := Lib.hid hs; clear hs
      go_wp2_with fail
      with_reducible refine (Hi.out _ ho2.at).mono ?_
      rintro e v6 ⟨rfl, hb6⟩
      replace ho1 := ho1.keep hb6
      replace hoi := hoi.keep hb6
      replace ho2 := ho2.keep hb6
      replace acc := belowTrans acc hb6 (Nat.le_refl _)
      clear hb6
      go_wp2_with fail
      with_reducible refine (Hs.out _ ho2.at).mono ?_
      rintro e v7 ⟨rfl, hb7⟩
      replace ho1 := ho1.keep hb7
      replace hoi := hoi.keep hb7
      replace ho2 := ho2.keep hb7
      replace acc := belowTrans acc hb7 (Nat.le_refl _)
      clear hb7
      clear ho2
      clear Hi Hs
      go_wp2_with fail
      with_reducible refine (Hsum.out _ ho1.at).mono ?_
      rintro e w' ⟨rfl, rfl⟩
      go_wp2_with fail
      with_reducible refine (Hle.out _).mono ?_
      rintro e v8 ⟨rfl, hb8⟩
      replace ho1 := ho1.keep hb8
      replace hoi := hoi.keep hb8
      replace acc := belowTrans acc hb8 (Nat.le_refl _)
      clear hb8
      go_wp2_with fail
      with_reducible refine (Hpo.out _ ho1.at).mono ?_
      rintro e v9 ⟨rfl, hb9⟩
      replace ho1 := ho1.keep hb9
      replace hoi := hoi.keep hb9
      replace acc := belowTrans acc hb9 (Nat.le_refl _)
      clear hb9
      clear ho1
      clear Hsum Hle Hpo
      have hnl : ni = K + 1 := by rw [← hoi.length, Hll.out]
      have hn8 := hoi.at.lenInt
      obtain ⟨b, o, rfl, hbl, hcells⟩ := hoi.at.cell 0 (by omega)
      have hZ := hcells 0 (by omega)
      rw [Hpf.out.1, Nat.add_zero] at hZ
      clear hoi
      have Hcells := Lib.hid hcells; clear hcells
      have h0n : (0 : Int) < ni := by omega
      have hnK : (ni : Int) = (K : Int) + 1 := by omega
      go_wp2_with fail
      go_loopw [23] (fun i wr => ∃ (j u : Nat), 1 ≤ j ∧ j ≤ K + 1 ∧ i = .int .i64 j ∧ wr = v9.drewN u) (fun i _ => K + 1 - (intOf i).toNat)
      case atStart => exact ⟨1, 0, by omega, by omega, rfl, rfl⟩
      case round =>
        obtain ⟨j, u, h1j, hj, rfl, rfl⟩ := hrel
        by_cases hlt : j < K + 1
        · obtain ⟨m, rfl⟩ : ∃ m, j = m + 1 := ⟨j - 1, by omega⟩
          have hA := Hcells.out (m + 1) (by omega)
          have hB := Hcells.out m (by omega)
          have f1 := Hpf.out.2.1 m (by omega)
          have f2 := Hpf.out.2.2 (m + 1) (by omega)
          generalize L.getD (m + 1) 0 = y at hA f1 f2
          generalize L.getD m 0 = x at hB f1
          have g1 : decide (x < y) = false := decide_eq_false (by omega)
          have g2 : decide (y > x) = false := decide_eq_false (by omega)
          have g3 : decide (y < q) = false := decide_eq_false (by omega)
          have hjm : (m : Int) + 1 ≤ K := by omega
          have hjn : (m : Int) + 1 < ni := by omega
          have hjn2 : (m : Int) < ni := by omega
          clear hZ
          go_wp2_with fail
          go_quiet (fail)
          go_wp2_with fail
          go_roundw
          case rel => exact ⟨m + 2, _, by omega, by omega, valI (by omega), by first | rfl | exact World.drewN_drewN _ _ _⟩
          case measure => simp [intOf]; omega
        · have hjm : ¬ (j : Int) ≤ (K : Int) := by omega
          go_wp2_with fail
          go_ret
          exact ⟨rfl, belowDrewN acc _⟩
    have gY := good_iff.1 gy
    simp only [mDrop_yes gy] at hi hs
    have hdb := fun j hj => dropN_bound gY (k := j) hj
    have hyl := gY.len
    have hyat := fun j hj => good_at gY (k := j) hj
    have hfin : dropL ys = dropN ys ys.length := rfl
    have hst : ∀ j, dropN ys (j + 1) = dropN ys j + max 0 (ys.getD j 0 - 1 - ys.length) := fun j => rfl
    generalize dropL ys = d at hi hs hfin
    have hdd := hdb ys.length (Nat.le_refl _)
    rw [← hfin] at hdd
    have Hi := Lib.hid hi; clear hi
    have Hs := Lib.hid hs; clear hs
    have Hdb := Lib.hid hdb; clear hdb
    have Hyat := Lib.hid hyat; clear hyat
    have Hfin := Lib.hid hfin; clear hfin
    have Hst := Lib.hid hst; clear hst
    go_wp2_with fail
    with_reducible refine (Hi.out _ ho2.at).mono ?_
    rintro e v6 ⟨rfl, hb6⟩
    replace ho1 := ho1.keep hb6
    replace hoi := hoi.keep hb6
    replace ho2 := ho2.keep hb6
    replace acc := belowTrans acc hb6 (Nat.le_refl _)
    clear hb6
    go_wp2_with fail
    with_reducible refine (Hs.out _ ho2.at).mono ?_
    rintro e v7 ⟨rfl, hb7⟩
    replace ho1 := ho1.keep hb7
    replace hoi := hoi.keep hb7
    replace ho2 := ho2.keep hb7
    replace acc := belowTrans acc hb7 (Nat.le_refl _)
    clear hb7
    clear Hi Hs
    have hl2 := ho2.length
    have hn28 : n2 ≤ 28 := by omega
    have hat2 := ho2.at
    have Hl2 := Lib.hid hl2; clear hl2
    obtain ⟨wo, hwo⟩ : ∃ wo : World, wo = v7 := ⟨_, rfl⟩
    subst hwo
    go_wp2_with fail
    go_loop [16, 76] (fun s i => ∃ (j : Nat) (t : Int), j ≤ n2 ∧ i = .int .i64 j ∧ s = .int .i64 t ∧ dropN ys j = t) (fun _ i => n2 - (intOf i).toNat)
    case atStart => exact ⟨0, 0, Nat.zero_le _, rfl, rfl, rfl⟩
    case round =>
      obtain ⟨j, t, hj, rfl, rfl, ht⟩ := hrel
      have ht1 := Hdb.out j (by rw [Hl2.out]; exact hj)
      rw [ht] at ht1
      by_cases hlt : j < n2
      · obtain ⟨b, o, rfl, hbl, hc⟩ := hat2.cell j hlt
        have hck := hc j hlt
        clear hc
        have hxb := Hyat.out j (by rw [Hl2.out]; exact hlt)
        have e := Hst.out j
        rw [Hl2.out] at e
        generalize ys.getD j 0 = x at hck hxb e
        rw [ht] at e
        by_cases hx : (n2 : Int) < x - 1
        · rw [show max 0 (x - 1 - (n2 : Int)) = x - 1 - n2 by omega] at e
          have He := Lib.hid e; clear e
          have Ht := Lib.hid ht; clear ht
          go_wp2_with fail
          go_round
          case rel => exact ⟨j + 1, t + (x - 1 - n2), by omega, valI (by omega), valI (by go_num), He.out⟩
          case measure => simp [intOf]; omega
        · rw [show max 0 (x - 1 - (n2 : Int)) = 0 by omega, Int.add_zero] at e
          have He := Lib.hid e; clear e
          have Ht := Lib.hid ht; clear ht
          go_wp2_with fail
          go_round
          case rel => exact ⟨j + 1, t, by omega, valI (by omega), rfl, He.out⟩
          case measure => simp [intOf]; omega
      · obtain rfl : t = d := by
          have : j = ys.length := by rw [Hl2.out]; omega
          rw [← ht, this, Hfin.out]
        clear ht ht1 hat2 Hdb Hyat Hfin Hst Hl2
        skip
        clear ho2
        clear hdd
        go_wp2_with fail
        with_reducible refine (Hsum.out _ ho1.at).mono ?_
        rintro e w' ⟨rfl, rfl⟩
        go_wp2_with fail
        with_reducible refine (Hle.out _).mono ?_
        rintro e v8 ⟨rfl, hb8⟩
        replace ho1 := ho1.keep hb8
        replace hoi := hoi.keep hb8
        replace acc := belowTrans acc hb8 (Nat.le_refl _)
        clear hb8
        go_wp2_with fail
        with_reducible refine (Hpo.out _ ho1.at).mono ?_
        rintro e v9 ⟨rfl, hb9⟩
        replace ho1 := ho1.keep hb9
        replace hoi := hoi.keep hb9
        replace acc := belowTrans acc hb9 (Nat.le_refl _)
        clear hb9
        clear ho1
        clear Hsum Hle Hpo
        have hnl : ni = K + 1 := by rw [← hoi.length, Hll.out]
        have hn8 := hoi.at.lenInt
        obtain ⟨b, o, rfl, hbl, hcells⟩ := hoi.at.cell 0 (by omega)
        have hZ := hcells 0 (by omega)
        rw [Hpf.out.1, Nat.add_zero] at hZ
        clear hoi
        have Hcells := Lib.hid hcells; clear hcells
        have h0n : (0 : Int) < ni := by omega
        have hnK : (ni : Int) = (K : Int) + 1 := by omega
        go_wp2_with fail
        go_loopw [23] (fun i wr => ∃ (j u : Nat), 1 ≤ j ∧ j ≤ K + 1 ∧ i = .int .i64 j ∧ wr = v9.drewN u) (fun i _ => K + 1 - (intOf i).toNat)
        case atStart => exact ⟨1, 0, by omega, by omega, rfl, rfl⟩
        case round =>
          obtain ⟨j, u, h1j, hj, rfl, rfl⟩ := hrel
          by_cases hlt : j < K + 1
          · obtain ⟨m, rfl⟩ : ∃ m, j = m + 1 := ⟨j - 1, by omega⟩
            have hA := Hcells.out (m + 1) (by omega)
            have hB := Hcells.out m (by omega)
            have f1 := Hpf.out.2.1 m (by omega)
            have f2 := Hpf.out.2.2 (m + 1) (by omega)
            generalize L.getD (m + 1) 0 = y at hA f1 f2
            generalize L.getD m 0 = x at hB f1
            have g1 : decide (x < y) = false := decide_eq_false (by omega)
            have g2 : decide (y > x) = false := decide_eq_false (by omega)
            have g3 : decide (y < q) = false := decide_eq_false (by omega)
            have hjm : (m : Int) + 1 ≤ K := by omega
            have hjn : (m : Int) + 1 < ni := by omega
            have hjn2 : (m : Int) < ni := by omega
            clear hZ
            go_wp2_with fail
            go_quiet (fail)
            go_wp2_with fail
            go_roundw
            case rel => exact ⟨m + 2, _, by omega, by omega, valI (by omega), by first | rfl | exact World.drewN_drewN _ _ _⟩
            case measure => simp [intOf]; omega
          · have hjm : ¬ (j : Int) ≤ (K : Int) := by omega
            go_wp2_with fail
            go_ret
            exact ⟨rfl, belowDrewN acc _⟩
  · skip
    have e1 : mPotentialsOf xs k = ([], false) := by unfold mPotentialsOf; rw [if_neg gk]
    simp only [e1] at hi hs
    clear e1 gk
    have Hi := Lib.hid hi; clear hi
    have Hs := Lib.hid hs; clear hs
    go_wp2_with fail
    with_reducible refine (Hi.out _ ho1.at).mono ?_
    rintro e v2 ⟨pi, ni, ci, rfl, hoi, hb2⟩
    replace ho1 := ho1.keep hb2
    replace acc := belowTrans acc hb2 (Nat.le_refl _)
    clear hb2
    go_wp2_with fail
    with_reducible refine (Hs.out _ ho1.at).mono ?_
    rintro e v3 ⟨ps, ns, cs, rfl, hos, hb3⟩
    replace ho1 := ho1.keep hb3
    replace hoi := hoi.keep hb3
    replace acc := belowTrans acc hb3 (Nat.le_refl _)
    clear hb3
    clear Hi Hs
    have hc := pSame_any _ _ _ _ _ _ _ _ _ hoi.at hos.at
    rw [decide_eq_true rfl] at hc
    have Hc := Lib.hid hc; clear hc
    go_wp2_with fail
    with_reducible refine (Hc.out).mono ?_
    rintro e v4 ⟨rfl, hb4⟩
    replace ho1 := ho1.keep hb4
    replace hoi := hoi.keep hb4
    replace hos := hos.keep hb4
    replace acc := belowTrans acc hb4 (Nat.le_refl _)
    clear hb4
    clear Hc
    clear hos
    go_wp2_with fail
    with_reducible refine (Hf.out _ acc).mono ?_
    rintro e v5 ⟨p2, n2, c2, ys, rfl, ho2, hnear, hb5⟩
    replace ho1 := ho1.keep hb5
    replace hoi := hoi.keep hb5
    replace acc := belowTrans acc hb5 (Nat.le_refl _)
    clear hb5
    clear Hf hnear
    have hi := fun W h => impl_DropOf p2 n2 c2 ys W h
    have hs := fun W h => spec_DropOf p2 n2 c2 ys W h
    cases gy : goodB ys
    · skip
      simp only [mDrop_no gy] at hi hs
      have Hi := Lib.hid hi; clear hi
      have Hs := Lib.hid hs; clear hs
      go_wp2_with fail
      with_reducible refine (Hi.out _ ho2.at).mono ?_
      rintro e v6 ⟨rfl, hb6⟩
      replace ho1 := ho1.keep hb6
      replace hoi := hoi.keep hb6
      replace ho2 := ho2.keep hb6
      replace acc := belowTrans acc hb6 (Nat.le_refl _)
      clear hb6
      go_wp2_with fail
      with_reducible refine (Hs.out _ ho2.at).mono ?_
      rintro e v7 ⟨rfl, hb7⟩
      replace ho1 := ho1.keep hb7
      replace hoi := hoi.keep hb7
      replace ho2 := ho2.keep hb7
      replace acc := belowTrans acc hb7 (Nat.le_refl _)
      clear hb7
      clear ho2
      clear Hi Hs
      go_wp2
      go_ret
      exact ⟨rfl, acc⟩
    have gY := good_iff.1 gy
    simp only [mDrop_yes gy] at hi hs
    have hdb := fun j hj => dropN_bound gY (k := j) hj
    have hyl := gY.len
    have hyat := fun j hj => good_at gY (k := j) hj
    have hfin : dropL ys = dropN ys ys.length := rfl
    have hst : ∀ j, dropN ys (j + 1) = dropN ys j + max 0 (ys.getD j 0 - 1 - ys.length) := fun j => rfl
    generalize dropL ys = d at hi hs hfin
    have hdd := hdb ys.length (Nat.le_refl _)
    rw [← hfin] at hdd
    have Hi := Lib.hid hi; clear hi
    have Hs := Lib.hid hs; clear hs
    have Hdb := Lib.hid hdb; clear hdb
    have Hyat := Lib.hid hyat; clear hyat
    have Hfin := Lib.hid hfin; clear hfin
    have Hst := Lib.hid hst; clear hst
    go_wp2_with fail
    with_reducible refine (Hi.out _ ho2.at).mono ?_
    rintro e v6 ⟨rfl, hb6⟩
    replace ho1 := ho1.keep hb6
    replace hoi := hoi.keep hb6
    replace ho2 := ho2.keep hb6
    replace acc := belowTrans acc hb6 (Nat.le_refl _)
    clear hb6
    go_wp2_with fail
    with_reducible refine (Hs.out _ ho2.at).mono ?_
    rintro e v7 ⟨rfl, hb7⟩
    replace ho1 := ho1.keep hb7
    replace hoi := hoi.keep hb7
    replace ho2 := ho2.keep hb7
    replace acc := belowTrans acc hb7 (Nat.le_refl _)
    clear hb7
    clear Hi Hs
    have hl2 := ho2.length
    have hn28 : n2 ≤ 28 := by omega
    have hat2 := ho2.at
    have Hl2 := Lib.hid hl2; clear hl2
    obtain ⟨wo, hwo⟩ : ∃ wo : World, wo = v7 := ⟨_, rfl⟩
    subst hwo
    go_wp2_with fail
    go_loop [16, 76] (fun s i => ∃ (j : Nat) (t : Int), j ≤ n2 ∧ i = .int .i64 j ∧ s = .int .i64 t ∧ dropN ys j = t) (fun _ i => n2 - (intOf i).toNat)
    case atStart => exact ⟨0, 0, Nat.zero_le _, rfl, rfl, rfl⟩
    case round =>
      obtain ⟨j, t, hj, rfl, rfl, ht⟩ := hrel
      have ht1 := Hdb.out j (by rw [Hl2.out]; exact hj)
      rw [ht] at ht1
      by_cases hlt : j < n2
      · obtain ⟨b, o, rfl, hbl, hc⟩ := hat2.cell j hlt
        have hck := hc j hlt
        clear hc
        have hxb := Hyat.out j (by rw [Hl2.out]; exact hlt)
        have e := Hst.out j
        rw [Hl2.out] at e
        generalize ys.getD j 0 = x at hck hxb e
        rw [ht] at e
        by_cases hx : (n2 : Int) < x - 1
        · rw [show max 0 (x - 1 - (n2 : Int)) = x - 1 - n2 by omega] at e
          have He := Lib.hid e; clear e
          have Ht := Lib.hid ht; clear ht
          go_wp2_with fail
          go_round
          case rel => exact ⟨j + 1, t + (x - 1 - n2), by omega, valI (by omega), valI (by go_num), He.out⟩
          case measure => simp [intOf]; omega
        · rw [show max 0 (x - 1 - (n2 : Int)) = 0 by omega, Int.add_zero] at e
          have He := Lib.hid e; clear e
          have Ht := Lib.hid ht; clear ht
          go_wp2_with fail
          go_round
          case rel => exact ⟨j + 1, t, by omega, valI (by omega), rfl, He.out⟩
          case measure => simp [intOf]; omega
      · obtain rfl : t = d := by
          have : j = ys.length := by rw [Hl2.out]; omega
          rw [← ht, this, Hfin.out]
        clear ht ht1 hat2 Hdb Hyat Hfin Hst Hl2
        skip
        clear ho2
        clear hdd
        go_wp2
        go_ret
        exact ⟨rfl, acc⟩

/-! ### THE ROW's STEP: WRITTEN OUT: LEAVE IT -/
set_option maxRecDepth 100000 in
theorem lifted (os : Os) (started : os.Started) (H : Type) (enc : TypeId × Value → H) :
    ReturnsInHanded {} Try.checked os 3 .any (Rows.fnPotentialNeverRisesSpec.pre6 enc Try.prog Try.f3 Rows.fnPotentialNeverRisesRow.domain false) (Rows.fnPotentialNeverRisesSpec.post enc Try.prog Try.f3 false true false false) := by
  refine returnsInHanded_of_change (C := Try.checked) own started (by kernel_rfl) Try.func3
    (ChangeSpec.witness6 (enc := enc) (C := Try.checked) false ⟨#[], #[.slice none 0 0, .slice none 0 0], []⟩ 8 (by kernel_rfl) (by kernel_rfl) (by kernel_rfl) (by kernel_rfl)) ?_
  intro W base args ds gs before hval0 hW hcnd _
  have hval : ∀ (j : Nat) t v, Try.f3.params[j]? = some t → args[j]? = some v → Value.okWide Try.prog W .any base t v := hval0
  have hW' := hW
  obtain ⟨p, q, hA0, hV, rfl, hfz, hnd⟩ := hW
  have hA : DataW.TrodAll enc Try.prog W 0 (fun _ => true) true Try.f3.params.toList args.toList ds p := hA0
  rw [Try.params3] at hA hval
  obtain ⟨v0, vs0, d0, ds0, p0, q0, hargs, rfl, rfl, h0, r0⟩ := trodAll_cons hA
  obtain ⟨v1, vs1, d1, ds1, p1, q1, rfl, rfl, rfl, h1, r1⟩ := trodAll_cons r0
  obtain ⟨rfl, rfl, rfl⟩ := trodAll_nil r1
  obtain rfl : args = #[v0, v1] := by cases args; simp_all
  obtain ⟨rfl, rfl⟩ := trodVars_none hV
  obtain ⟨a0, len0, cap0, rfl⟩ := okWide_slice Try.underlying22 (hval 0 22 v0 rfl rfl)
  have k0 := h0
  have lt0 : ∀ x ∈ p0, x.block < W.heap.size := by obtain ⟨m, hm⟩ := k0; exact DataW.trod_lt m _ _ _ hm
  obtain ⟨z0, w0⟩ : ∃ zs, IsRow .u8 W a0 len0 cap0 zs := by
    obtain ⟨fuel, hf⟩ := h0
    rcases open_ints Try.underlying22 Try.underlying5 (by kernel_rfl) hf with ⟨hcs, _⟩ | ⟨x, l, c, zs, hcs, _, hl, hm, hz, _, hcell, hwz⟩
    · simp [Value.cells] at hcs
      obtain ⟨rfl, rfl, rfl⟩ := hcs
      exact ⟨[], .inl ⟨rfl, rfl, rfl, rfl⟩⟩
    · simp [Value.cells] at hcs
      obtain ⟨rfl, rfl, rfl⟩ := hcs
      exact ⟨zs, .inr ⟨_, rfl, hl, hm, by simpa using hz, hcell, hwz⟩⟩
  obtain ⟨a1, len1, cap1, rfl⟩ := okWide_slice Try.underlying22 (hval 1 22 v1 rfl rfl)
  have k1 := h1
  have lt1 : ∀ x ∈ p1, x.block < W.heap.size := by obtain ⟨m, hm⟩ := k1; exact DataW.trod_lt m _ _ _ hm
  obtain ⟨z1, w1⟩ : ∃ zs, IsRow .u8 W a1 len1 cap1 zs := by
    obtain ⟨fuel, hf⟩ := h1
    rcases open_ints Try.underlying22 Try.underlying5 (by kernel_rfl) hf with ⟨hcs, _⟩ | ⟨x, l, c, zs, hcs, _, hl, hm, hz, _, hcell, hwz⟩
    · simp [Value.cells] at hcs
      obtain ⟨rfl, rfl, rfl⟩ := hcs
      exact ⟨[], .inl ⟨rfl, rfl, rfl, rfl⟩⟩
    · simp [Value.cells] at hcs
      obtain ⟨rfl, rfl, rfl⟩ := hcs
      exact ⟨zs, .inr ⟨_, rfl, hl, hm, by simpa using hz, hcell, hwz⟩⟩
  clear hA0 hval0
  refine (walk a0 len0 cap0 z0 a1 len1 cap1 z1 W w0 w1).mono fun e W' ⟨he, bel⟩ => ?_
  subst he
  exact ⟨_, rfl, _, _, _, [], _, [], hW', trodAll_mk1 (shut_bool Try.underlying4 _), (trodAll_cons_mk (Below.trod laidOut (by kernel_rfl) (of_decide_eq_true (by kernel_rfl)) k0 bel lt0) (trodAll_cons_mk (Below.trod laidOut (by kernel_rfl) (of_decide_eq_true (by kernel_rfl)) k1 bel lt1) trodAll_mk0)), rfl, bel.frame _, fun h => by cases h⟩

theorem closedFacts : joinedFacts Try.prog 3 Try.f3 Rows.fnPotentialNeverRisesSpec Rows.fnPotentialNeverRisesRow = true := by
  unfold joinedFacts
  rw [head_enter, head_lifts, head_make]
  kernel_rfl
theorem closedHere : joinedFacts Try.pinned.checked.prog 3 Try.f3 Rows.fnPotentialNeverRisesSpec Rows.fnPotentialNeverRisesRow = true := by
  rw [progEq]
  exact closedFacts
theorem over : Rows.fnPotentialNeverRisesRow.holds Try.pinned (OpenSpec.ofChange Rows.fnPotentialNeverRisesSpec) :=
  OpenClaim.holds_of_wide 3 Try.f3 rfl rfl rfl rfl rfl rfl rfl ⟨rfl, rfl, rfl, rfl, rfl⟩ rfl rfl rfl rfl rfl (by kernel_rfl) Try.func3 closedHere
    (of_decide_eq_true (by kernel_rfl)) (by unfold Func.isWrapper; first | (rw [if_pos (by decide +kernel)]; kernel_rfl) | (rw [if_neg (by decide +kernel)]; exact ⟨rfl, rfl⟩))
    (fun os started H enc _ => lifted os started H enc)

/-- ████ THE STATEMENT ████ -/
theorem proved : Rows.FnPotentialNeverRisesSaid := over
#print axioms proved
end Go.Proofs.Ytmfdimdcoeapoaa.fnPotentialNeverRises
