/- FnLeastMeansCyclic: for every input the law returns true and leaves its arguments as they were. No condition. -/
import Derived.Test.YtmfdimdcoeapoaaRows
import Derived.WalkKit
import Derived.ProofKit
import Derived.OpenShut
import Derived.ShutString
import Derived.ChangeOld
import Derived.Below
import Derived.Test.YtmfdimdcoeapoaaHead
import Derived.Test.YtmfdimdcoeapoaaGe
import Derived.Test.YtmfdimdcoeapoaaLawt
import Derived.Test.YtmfdimdcoeapoaaGd
import Derived.Test.YtmfdimdcoeapoaaDrawO
import Derived.Test.YtmfdimdcoeapoaaLevT
import Derived.Test.YtmfdimdcoeapoaaLevU
import Derived.Test.YtmfdimdcoeapoaaTailI
import Derived.Test.YtmfdimdcoeapoaaTail42
namespace Go.Proofs.Ytmfdimdcoeapoaa.fnLeastMeansCyclic
set_option linter.unusedSimpArgs false
open Go.ChangeShapes Go.WideShapes Go.ChangeAt Go.RowKit
open Go.ChangeMaps (open_string shut_string)
set_option linter.unusedVariables false

theorem own : ownKnob Try.prog.godebug = none := by kernel_rfl
theorem laidOut : laidOutB Try.prog = true := by kernel_rfl

/-- WHAT THE WALK IS TOLD OF A SLICE OF INTEGERS THAT CAME IN: it is nil; or it leads to a row of 'cap' cells, the numbers 'zs' (the first 'len' are its elements, the rest its spare room), each fitting its kind. -/
def IsRow (k : IntKind) (w : World) (a : Option Addr) (len cap : Nat) (zs : List Int) : Prop :=
  (a = none ∧ len = 0 ∧ cap = 0 ∧ zs = []) ∨
  ∃ x, a = some x ∧ len ≤ cap ∧ cap ≤ maxLen ∧ zs.length = cap ∧ (∀ i, i < zs.length → w.cell? (x.add i) = some (.int k (zs.getD i 0))) ∧ ∀ n ∈ zs, (Lit.int k n).wf = true

/-! ### THE WALK: the Go text returns true, AND WRITES NOTHING THAT WAS THERE: 'Below w.heap.size w w'' (Derived/Below.lean: '.refl', '.alloc', '.drew', '.setCell' at a new block, '.trans'). Open each 'IsRow' by 'rcases' AHEAD of 'go_enter'; part every test ahead of the walk. -/
set_option maxHeartbeats 4000000 in
set_option maxRecDepth 100000 in
theorem walk (a0 : Option Addr) (len0 cap0 : Nat) (z0 : List Int) (a1 : Option Addr) (len1 cap1 : Nat) (z1 : List Int) (w : World) (w0 : IsRow .u8 w a0 len0 cap0 z0) (w1 : IsRow .u8 w a1 len1 cap1 z1) :
    Calls Try.prog 4 #[.slice a0 len0 cap0, .slice a1 len1 cap1] w fun e w' => e = .returned (.bool true) ∧ Below w.heap.size w w' := by
  have by0 := byteIn_row w0
  have by1 := byteIn_row w1
  have hl0 : len0 ≤ maxLen := by
    rcases w0 with ⟨_, h, _⟩ | ⟨x, _, h, h', _⟩
    · rw [h]; exact Nat.zero_le _
    · exact Nat.le_trans h h'
  clear w0 w1
  by_cases hbig : 1048576 < len0 ∨ (1048576 : Int) - len0 < len1
  · have hb := big_yes a0 a1 len0 len1 cap0 cap1 w hbig hl0
    have Hb := Lib.hid hb; clear hb
    go_enter Try.func4, Try.ntmps4
    go_wp2_with fail
    with_reducible refine (Hb.out).mono ?_
    rintro e w' ⟨rfl, rfl⟩
    go_wp2
    go_ret
    exact ⟨rfl, Below.refl _ _⟩
  have hb := big_no a0 a1 len0 len1 cap0 cap1 w (by omega) (by omega)
  have hd := DrawIsLeast_any a0 len0 cap0 w (by omega) by0
  have hf := fun W (h : Below w.heap.size w W) => DrawGreatestPotential_any a1 len1 cap1 W (by omega) (by1.up (Nat.le_refl _) h h.size)
  have Hb := Lib.hid hb; clear hb
  have Hd := Lib.hid hd; clear hd
  have Hf := Lib.hid hf; clear hf
  clear by0 by1 hl0 hbig
  have acc : Below w.heap.size w w := Below.refl _ _
  go_enter Try.func4, Try.ntmps4
  go_wp2_with fail
  with_reducible refine (Hb.out).mono ?_
  rintro e w' ⟨rfl, rfl⟩
  clear Hb
  go_wp2_with fail
  with_reducible refine (Hd.out).mono ?_
  rintro e v1 ⟨p1, n1, c1, xs, rfl, ho1, hb1⟩
  replace acc := belowTrans acc hb1 (Nat.le_refl _)
  clear hb1
  clear Hd
  have hi := fun W h => impl_IsLeast p1 n1 c1 xs W h
  have hs := fun W h => spec_IsLeast p1 n1 c1 xs W h
  cases gx : goodB xs
  · skip
    simp only [mIsLeast_no gx] at hi hs
    have Hi := Lib.hid hi; clear hi
    have Hs := Lib.hid hs; clear hs
    go_wp2_with fail
    with_reducible refine (Hi.out _ ho1.at).mono ?_
    rintro e v2 ⟨rfl, hb2⟩
    replace ho1 := ho1.keep hb2
    replace acc := belowTrans acc hb2 (Nat.le_refl _)
    clear hb2
    go_wp2_with fail
    with_reducible refine (Hs.out _ ho1.at).mono ?_
    rintro e v3 ⟨rfl, hb3⟩
    replace ho1 := ho1.keep hb3
    replace acc := belowTrans acc hb3 (Nat.le_refl _)
    clear hb3
    clear Hi Hs
    go_wp2_with fail
    with_reducible refine (Hf.out _ acc).mono ?_
    rintro e v4 ⟨N, hN1, hN2, rfl, hb4⟩
    replace ho1 := ho1.keep hb4
    replace acc := belowTrans acc hb4 (Nat.le_refl _)
    clear hb4
    clear Hf
    have hi := fun W => impl_GreatestPotential N W
    have hs := fun W => spec_GreatestPotential N W
    have hj := fun W => impl_LeastPotential N W
    have hk := fun W => spec_LeastPotential N W
    by_cases hn : 0 ≤ N ∧ N ≤ 28
    · skip
      obtain ⟨M, rfl⟩ := Int.eq_ofNat_of_zero_le hn.1
      have hM : M ≤ 28 := by omega
      simp only [mGreat_yes hn] at hi hs
      simp only [mLeast_yes hM] at hj hk
      have hlg := least_great M (by omega)
      generalize ((M : Int) * ((M : Int) - 1)).tdiv 2 = G at hi hs hlg
      generalize leastI M = E at hj hk hlg
      have k1 : decide (E > G) = false := decide_eq_false (by omega)
      have k2 : decide (G < E) = false := decide_eq_false (by omega)
      clear hn
      have Hi := Lib.hid hi; clear hi
      have Hs := Lib.hid hs; clear hs
      have Hj := Lib.hid hj; clear hj
      have Hk := Lib.hid hk; clear hk
      go_wp2_with fail
      with_reducible refine (Hi.out _).mono ?_
      rintro e v5 ⟨rfl, hb5⟩
      replace ho1 := ho1.keep hb5
      replace acc := belowTrans acc hb5 (Nat.le_refl _)
      clear hb5
      go_wp2_with fail
      with_reducible refine (Hs.out _).mono ?_
      rintro e v6 ⟨rfl, hb6⟩
      replace ho1 := ho1.keep hb6
      replace acc := belowTrans acc hb6 (Nat.le_refl _)
      clear hb6
      go_wp2_with fail
      with_reducible refine (Hj.out _).mono ?_
      rintro e v7 ⟨rfl, hb7⟩
      replace ho1 := ho1.keep hb7
      replace acc := belowTrans acc hb7 (Nat.le_refl _)
      clear hb7
      go_wp2_with fail
      with_reducible refine (Hk.out _).mono ?_
      rintro e v8 ⟨rfl, hb8⟩
      replace ho1 := ho1.keep hb8
      replace acc := belowTrans acc hb8 (Nat.le_refl _)
      clear hb8
      clear Hi Hs Hj Hk
      go_wp2
      go_ret
      exact ⟨rfl, acc⟩
    · skip
      simp only [mGreat_no hn] at hi hs
      simp only [mLeast_no hn] at hj hk
      clear hn
      have Hi := Lib.hid hi; clear hi
      have Hs := Lib.hid hs; clear hs
      have Hj := Lib.hid hj; clear hj
      have Hk := Lib.hid hk; clear hk
      go_wp2_with fail
      with_reducible refine (Hi.out _).mono ?_
      rintro e v5 ⟨rfl, hb5⟩
      replace ho1 := ho1.keep hb5
      replace acc := belowTrans acc hb5 (Nat.le_refl _)
      clear hb5
      go_wp2_with fail
      with_reducible refine (Hs.out _).mono ?_
      rintro e v6 ⟨rfl, hb6⟩
      replace ho1 := ho1.keep hb6
      replace acc := belowTrans acc hb6 (Nat.le_refl _)
      clear hb6
      go_wp2_with fail
      with_reducible refine (Hj.out _).mono ?_
      rintro e v7 ⟨rfl, hb7⟩
      replace ho1 := ho1.keep hb7
      replace acc := belowTrans acc hb7 (Nat.le_refl _)
      clear hb7
      go_wp2_with fail
      with_reducible refine (Hk.out _).mono ?_
      rintro e v8 ⟨rfl, hb8⟩
      replace ho1 := ho1.keep hb8
      replace acc := belowTrans acc hb8 (Nat.le_refl _)
      clear hb8
      clear Hi Hs Hj Hk
      go_wp2
      go_ret
      exact ⟨rfl, acc⟩
  simp only [mIsLeast_yes gx] at hi hs
  have gX := good_iff.1 gx
  have h42 := tail42 gX
  have htz := tail_zero gX
  have ht := fun W h => impl_TailOf p1 n1 c1 xs W h
  simp only [mTail_yes gx] at ht
  have hsum := fun W h => pSum_any p1 n1 c1 xs W h gX
  have h0 := sum_nonneg gX.1
  have h1 := gX.2.2
  have hsr : 0 ≤ xs.sum ∧ xs.sum ≤ 28 := by omega
  have hle := fun W => impl_LeastPotential xs.sum W
  have hsm : mLeastPotential xs.sum = (leastI xs.sum.toNat, true) := by unfold mLeastPotential; rw [if_pos (by omega)]
  simp only [hsm] at hle
  have hgr := fun W => impl_GreatestPotential xs.sum W
  simp only [mGreat_yes hsr] at hgr
  have hpo := fun W h => impl_PotentialOf p1 n1 c1 xs W h
  simp only [mPot_yes gx] at hpo
  have hcy := fun W h => pCyclic_any p1 n1 c1 xs W h
  rw [gx, Bool.true_and] at hcy
  have hlb := leastB gX
  have hpg := pot_great gX
  have hpots := fun W h => impl_PotentialsOf p1 n1 c1 xs ((tailL xs : Nat) : Int) W h
  simp only [mPots_yes gx (show tailL xs ≤ 1000 by omega)] at hpots
  have htp := tail_pots gX
  have hll := potsL_length xs (tailL xs)
  generalize potsL xs (tailL xs) = L at hpots htp hll
  generalize pot xs = p at hpo hlb hpg
  generalize leastI xs.sum.toNat = q at hle hlb htp
  generalize (xs.sum * (xs.sum - 1)).tdiv 2 = g at hgr hpg
  generalize xs.sum = S at hsum hle hgr
  generalize tailL xs = t at ht hpots htp hll h42 htz
  have k3 : decide (p > g) = false := decide_eq_false (by omega)
  have k4 : decide (g < p) = false := decide_eq_false (by omega)
  clear hsm h0 h1 hsr gX gx
  cases hc : cycB xs
  · skip
    rw [hc] at hi hs hcy hlb htz
    have htn : ¬ t = 0 := by
      intro e
      rw [decide_eq_true e] at htz
      cases htz
    obtain ⟨m, rfl⟩ : ∃ m, t = m + 1 := ⟨t - 1, by omega⟩
    have hpq : ¬ p = q := by simpa using hlb
    have k7 : decide (p = q) = false := decide_eq_false hpq
    have k8 : (p == q) = false := by simpa using hpq
    have hm8 : (m : Int) ≤ 41 := by omega
    simp only [show ((m + 1 : Nat) : Int) = (m : Int) + 1 from rfl] at ht hpots
    clear hlb htz hc htn
    have Hpq := Lib.hid hpq; clear hpq
    have Hi := Lib.hid hi; clear hi
    have Hs := Lib.hid hs; clear hs
    have Ht := Lib.hid ht; clear ht
    have Hsum := Lib.hid hsum; clear hsum
    have Hle := Lib.hid hle; clear hle
    have Hgr := Lib.hid hgr; clear hgr
    have Hpo := Lib.hid hpo; clear hpo
    have Hcy := Lib.hid hcy; clear hcy
    have Hpots := Lib.hid hpots; clear hpots
    have Htp := Lib.hid htp; clear htp
    have Hll := Lib.hid hll; clear hll
    go_wp2_with fail
    with_reducible refine (Hi.out _ ho1.at).mono ?_
    rintro e v2 ⟨rfl, hb2⟩
    replace ho1 := ho1.keep hb2
    replace acc := belowTrans acc hb2 (Nat.le_refl _)
    clear hb2
    go_wp2_with fail
    with_reducible refine (Hs.out _ ho1.at).mono ?_
    rintro e v3 ⟨rfl, hb3⟩
    replace ho1 := ho1.keep hb3
    replace acc := belowTrans acc hb3 (Nat.le_refl _)
    clear hb3
    clear Hi Hs
    go_wp2_with fail
    with_reducible refine (Hf.out _ acc).mono ?_
    rintro e v4 ⟨N, hN1, hN2, rfl, hb4⟩
    replace ho1 := ho1.keep hb4
    replace acc := belowTrans acc hb4 (Nat.le_refl _)
    clear hb4
    clear Hf
    have hi := fun W => impl_GreatestPotential N W
    have hs := fun W => spec_GreatestPotential N W
    have hj := fun W => impl_LeastPotential N W
    have hk := fun W => spec_LeastPotential N W
    by_cases hn : 0 ≤ N ∧ N ≤ 28
    · skip
      obtain ⟨M, rfl⟩ := Int.eq_ofNat_of_zero_le hn.1
      have hM : M ≤ 28 := by omega
      simp only [mGreat_yes hn] at hi hs
      simp only [mLeast_yes hM] at hj hk
      have hlg := least_great M (by omega)
      generalize ((M : Int) * ((M : Int) - 1)).tdiv 2 = G at hi hs hlg
      generalize leastI M = E at hj hk hlg
      have k1 : decide (E > G) = false := decide_eq_false (by omega)
      have k2 : decide (G < E) = false := decide_eq_false (by omega)
      clear hn
      have Hi := Lib.hid hi; clear hi
      have Hs := Lib.hid hs; clear hs
      have Hj := Lib.hid hj; clear hj
      have Hk := Lib.hid hk; clear hk
      go_wp2_with fail
      with_reducible refine (Hi.out _).mono ?_
      rintro e v5 ⟨rfl, hb5⟩
      replace ho1 := ho1.keep hb5
      replace acc := belowTrans acc hb5 (Nat.le_refl _)
      clear hb5
      go_wp2_with fail
      with_reducible refine (Hs.out _).mono ?_
      rintro e v6 ⟨rfl, hb6⟩
      replace ho1 := ho1.keep hb6
      replace acc := belowTrans acc hb6 (Nat.le_refl _)
      clear hb6
      go_wp2_with fail
      with_reducible refine (Hj.out _).mono ?_
      rintro e v7 ⟨rfl, hb7⟩
      replace ho1 := ho1.keep hb7
      replace acc := belowTrans acc hb7 (Nat.le_refl _)
      clear hb7
      go_wp2_with fail
      with_reducible refine (Hk.out _).mono ?_
      rintro e v8 ⟨rfl, hb8⟩
      replace ho1 := ho1.keep hb8
      replace acc := belowTrans acc hb8 (Nat.le_refl _)
      clear hb8
      clear Hi Hs Hj Hk
      go_wp2_with fail
      with_reducible refine (Ht.out _ ho1.at).mono ?_
      rintro e v9 ⟨rfl, hb9⟩
      replace ho1 := ho1.keep hb9
      replace acc := belowTrans acc hb9 (Nat.le_refl _)
      clear hb9
      go_wp2_with fail
      with_reducible refine (Hsum.out _ ho1.at).mono ?_
      rintro e w' ⟨rfl, rfl⟩
      go_wp2_with fail
      with_reducible refine (Hle.out _).mono ?_
      rintro e v10 ⟨rfl, hb10⟩
      replace ho1 := ho1.keep hb10
      replace acc := belowTrans acc hb10 (Nat.le_refl _)
      clear hb10
      go_wp2_with fail
      with_reducible refine (Hsum.out _ ho1.at).mono ?_
      rintro e w' ⟨rfl, rfl⟩
      go_wp2_with fail
      with_reducible refine (Hgr.out _).mono ?_
      rintro e v11 ⟨rfl, hb11⟩
      replace ho1 := ho1.keep hb11
      replace acc := belowTrans acc hb11 (Nat.le_refl _)
      clear hb11
      go_wp2_with fail
      with_reducible refine (Hpo.out _ ho1.at).mono ?_
      rintro e v12 ⟨rfl, hb12⟩
      replace ho1 := ho1.keep hb12
      replace acc := belowTrans acc hb12 (Nat.le_refl _)
      clear hb12
      go_wp2_with fail
      with_reducible refine (Hcy.out _ ho1.at).mono ?_
      rintro e v13 ⟨rfl, hb13⟩
      replace ho1 := ho1.keep hb13
      replace acc := belowTrans acc hb13 (Nat.le_refl _)
      clear hb13
      go_wp2_with fail
      with_reducible refine (Hpots.out _ ho1.at).mono ?_
      rintro e v14 ⟨pl, nl, cl, rfl, hol, hb14⟩
      replace ho1 := ho1.keep hb14
      replace acc := belowTrans acc hb14 (Nat.le_refl _)
      clear hb14
      clear Ht Hsum Hle Hgr Hpo Hcy Hpots k3 k4
      have hnl : nl = m + 2 := by rw [← hol.length, Hll.out]
      have hn8 := hol.at.lenInt
      obtain ⟨b, o, rfl, hbl, hcells⟩ := hol.at.cell 0 (by omega)
      have hA := hcells (m + 1) (by omega)
      rw [Htp.out.1] at hA
      have hB := hcells m (by omega)
      have hlt := Htp.out.2 m rfl
      generalize L.getD m 0 = y at hB hlt
      have k5 : decide (y > q) = true := decide_eq_true (by omega)
      have k6 : decide (q < y) = true := decide_eq_true (by omega)
      have h1n : (m : Int) + 1 < nl := by omega
      have h2n : (m : Int) < nl := by omega
      have h3n : decide ((m : Int) + 1 = 0) = false := decide_eq_false (by omega)
      have h4n : (((m : Int) + 1) == 0) = false := by simp; omega
      clear hcells hnl hol
      go_wp2
      go_ret
      exact ⟨rfl, acc⟩
    · skip
      simp only [mGreat_no hn] at hi hs
      simp only [mLeast_no hn] at hj hk
      clear hn
      have Hi := Lib.hid hi; clear hi
      have Hs := Lib.hid hs; clear hs
      have Hj := Lib.hid hj; clear hj
      have Hk := Lib.hid hk; clear hk
      go_wp2_with fail
      with_reducible refine (Hi.out _).mono ?_
      rintro e v5 ⟨rfl, hb5⟩
      replace ho1 := ho1.keep hb5
      replace acc := belowTrans acc hb5 (Nat.le_refl _)
      clear hb5
      go_wp2_with fail
      with_reducible refine (Hs.out _).mono ?_
      rintro e v6 ⟨rfl, hb6⟩
      replace ho1 := ho1.keep hb6
      replace acc := belowTrans acc hb6 (Nat.le_refl _)
      clear hb6
      go_wp2_with fail
      with_reducible refine (Hj.out _).mono ?_
      rintro e v7 ⟨rfl, hb7⟩
      replace ho1 := ho1.keep hb7
      replace acc := belowTrans acc hb7 (Nat.le_refl _)
      clear hb7
      go_wp2_with fail
      with_reducible refine (Hk.out _).mono ?_
      rintro e v8 ⟨rfl, hb8⟩
      replace ho1 := ho1.keep hb8
      replace acc := belowTrans acc hb8 (Nat.le_refl _)
      clear hb8
      clear Hi Hs Hj Hk
      go_wp2_with fail
      with_reducible refine (Ht.out _ ho1.at).mono ?_
      rintro e v9 ⟨rfl, hb9⟩
      replace ho1 := ho1.keep hb9
      replace acc := belowTrans acc hb9 (Nat.le_refl _)
      clear hb9
      go_wp2_with fail
      with_reducible refine (Hsum.out _ ho1.at).mono ?_
      rintro e w' ⟨rfl, rfl⟩
      go_wp2_with fail
      with_reducible refine (Hle.out _).mono ?_
      rintro e v10 ⟨rfl, hb10⟩
      replace ho1 := ho1.keep hb10
      replace acc := belowTrans acc hb10 (Nat.le_refl _)
      clear hb10
      go_wp2_with fail
      with_reducible refine (Hsum.out _ ho1.at).mono ?_
      rintro e w' ⟨rfl, rfl⟩
      go_wp2_with fail
      with_reducible refine (Hgr.out _).mono ?_
      rintro e v11 ⟨rfl, hb11⟩
      replace ho1 := ho1.keep hb11
      replace acc := belowTrans acc hb11 (Nat.le_refl _)
      clear hb11
      go_wp2_with fail
      with_reducible refine (Hpo.out _ ho1.at).mono ?_
      rintro e v12 ⟨rfl, hb12⟩
      replace ho1 := ho1.keep hb12
      replace acc := belowTrans acc hb12 (Nat.le_refl _)
      clear hb12
      go_wp2_with fail
      with_reducible refine (Hcy.out _ ho1.at).mono ?_
      rintro e v13 ⟨rfl, hb13⟩
      replace ho1 := ho1.keep hb13
      replace acc := belowTrans acc hb13 (Nat.le_refl _)
      clear hb13
      go_wp2_with fail
      with_reducible refine (Hpots.out _ ho1.at).mono ?_
      rintro e v14 ⟨pl, nl, cl, rfl, hol, hb14⟩
      replace ho1 := ho1.keep hb14
      replace acc := belowTrans acc hb14 (Nat.le_refl _)
      clear hb14
      clear Ht Hsum Hle Hgr Hpo Hcy Hpots k3 k4
      have hnl : nl = m + 2 := by rw [← hol.length, Hll.out]
      have hn8 := hol.at.lenInt
      obtain ⟨b, o, rfl, hbl, hcells⟩ := hol.at.cell 0 (by omega)
      have hA := hcells (m + 1) (by omega)
      rw [Htp.out.1] at hA
      have hB := hcells m (by omega)
      have hlt := Htp.out.2 m rfl
      generalize L.getD m 0 = y at hB hlt
      have k5 : decide (y > q) = true := decide_eq_true (by omega)
      have k6 : decide (q < y) = true := decide_eq_true (by omega)
      have h1n : (m : Int) + 1 < nl := by omega
      have h2n : (m : Int) < nl := by omega
      have h3n : decide ((m : Int) + 1 = 0) = false := decide_eq_false (by omega)
      have h4n : (((m : Int) + 1) == 0) = false := by simp; omega
      clear hcells hnl hol
      go_wp2
      go_ret
      exact ⟨rfl, acc⟩
  · skip
    rw [hc] at hi hs hcy hlb htz
    have htn : t = 0 := by simpa using htz.symm
    subst htn
    have hpq : p = q := by simpa using hlb
    subst hpq
    simp only [show ((0 : Nat) : Int) = 0 from rfl] at ht hpots
    clear hlb htz hc
    have Hi := Lib.hid hi; clear hi
    have Hs := Lib.hid hs; clear hs
    have Ht := Lib.hid ht; clear ht
    have Hsum := Lib.hid hsum; clear hsum
    have Hle := Lib.hid hle; clear hle
    have Hgr := Lib.hid hgr; clear hgr
    have Hpo := Lib.hid hpo; clear hpo
    have Hcy := Lib.hid hcy; clear hcy
    have Hpots := Lib.hid hpots; clear hpots
    have Htp := Lib.hid htp; clear htp
    have Hll := Lib.hid hll; clear hll
    go_wp2_with fail
    with_reducible refine (Hi.out _ ho1.at).mono ?_
    rintro e v2 ⟨rfl, hb2⟩
    replace ho1 := ho1.keep hb2
    replace acc := belowTrans acc hb2 (Nat.le_refl _)
    clear hb2
    go_wp2_with fail
    with_reducible refine (Hs.out _ ho1.at).mono ?_
    rintro e v3 ⟨rfl, hb3⟩
    replace ho1 := ho1.keep hb3
    replace acc := belowTrans acc hb3 (Nat.le_refl _)
    clear hb3
    clear Hi Hs
    go_wp2_with fail
    with_reducible refine (Hf.out _ acc).mono ?_
    rintro e v4 ⟨N, hN1, hN2, rfl, hb4⟩
    replace ho1 := ho1.keep hb4
    replace acc := belowTrans acc hb4 (Nat.le_refl _)
    clear hb4
    clear Hf
    have hi := fun W => impl_GreatestPotential N W
    have hs := fun W => spec_GreatestPotential N W
    have hj := fun W => impl_LeastPotential N W
    have hk := fun W => spec_LeastPotential N W
    by_cases hn : 0 ≤ N ∧ N ≤ 28
    · skip
      obtain ⟨M, rfl⟩ := Int.eq_ofNat_of_zero_le hn.1
      have hM : M ≤ 28 := by omega
      simp only [mGreat_yes hn] at hi hs
      simp only [mLeast_yes hM] at hj hk
      have hlg := least_great M (by omega)
      generalize ((M : Int) * ((M : Int) - 1)).tdiv 2 = G at hi hs hlg
      generalize leastI M = E at hj hk hlg
      have k1 : decide (E > G) = false := decide_eq_false (by omega)
      have k2 : decide (G < E) = false := decide_eq_false (by omega)
      clear hn
      have Hi := Lib.hid hi; clear hi
      have Hs := Lib.hid hs; clear hs
      have Hj := Lib.hid hj; clear hj
      have Hk := Lib.hid hk; clear hk
      go_wp2_with fail
      with_reducible refine (Hi.out _).mono ?_
      rintro e v5 ⟨rfl, hb5⟩
      replace ho1 := ho1.keep hb5
      replace acc := belowTrans acc hb5 (Nat.le_refl _)
      clear hb5
      go_wp2_with fail
      with_reducible refine (Hs.out _).mono ?_
      rintro e v6 ⟨rfl, hb6⟩
      replace ho1 := ho1.keep hb6
      replace acc := belowTrans acc hb6 (Nat.le_refl _)
      clear hb6
      go_wp2_with fail
      with_reducible refine (Hj.out _).mono ?_
      rintro e v7 ⟨rfl, hb7⟩
      replace ho1 := ho1.keep hb7
      replace acc := belowTrans acc hb7 (Nat.le_refl _)
      clear hb7
      go_wp2_with fail
      with_reducible refine (Hk.out _).mono ?_
      rintro e v8 ⟨rfl, hb8⟩
      replace ho1 := ho1.keep hb8
      replace acc := belowTrans acc hb8 (Nat.le_refl _)
      clear hb8
      clear Hi Hs Hj Hk
      go_wp2_with fail
      with_reducible refine (Ht.out _ ho1.at).mono ?_
      rintro e v9 ⟨rfl, hb9⟩
      replace ho1 := ho1.keep hb9
      replace acc := belowTrans acc hb9 (Nat.le_refl _)
      clear hb9
      go_wp2_with fail
      with_reducible refine (Hsum.out _ ho1.at).mono ?_
      rintro e w' ⟨rfl, rfl⟩
      go_wp2_with fail
      with_reducible refine (Hle.out _).mono ?_
      rintro e v10 ⟨rfl, hb10⟩
      replace ho1 := ho1.keep hb10
      replace acc := belowTrans acc hb10 (Nat.le_refl _)
      clear hb10
      go_wp2_with fail
      with_reducible refine (Hsum.out _ ho1.at).mono ?_
      rintro e w' ⟨rfl, rfl⟩
      go_wp2_with fail
      with_reducible refine (Hgr.out _).mono ?_
      rintro e v11 ⟨rfl, hb11⟩
      replace ho1 := ho1.keep hb11
      replace acc := belowTrans acc hb11 (Nat.le_refl _)
      clear hb11
      go_wp2_with fail
      with_reducible refine (Hpo.out _ ho1.at).mono ?_
      rintro e v12 ⟨rfl, hb12⟩
      replace ho1 := ho1.keep hb12
      replace acc := belowTrans acc hb12 (Nat.le_refl _)
      clear hb12
      go_wp2_with fail
      with_reducible refine (Hcy.out _ ho1.at).mono ?_
      rintro e v13 ⟨rfl, hb13⟩
      replace ho1 := ho1.keep hb13
      replace acc := belowTrans acc hb13 (Nat.le_refl _)
      clear hb13
      go_wp2_with fail
      with_reducible refine (Hpots.out _ ho1.at).mono ?_
      rintro e v14 ⟨pl, nl, cl, rfl, hol, hb14⟩
      replace ho1 := ho1.keep hb14
      replace acc := belowTrans acc hb14 (Nat.le_refl _)
      clear hb14
      clear Ht Hsum Hle Hgr Hpo Hcy Hpots k3 k4
      have hnl : nl = 1 := by rw [← hol.length, Hll.out]
      have hn8 := hol.at.lenInt
      obtain ⟨b, o, rfl, hbl, hcells⟩ := hol.at.cell 0 (by omega)
      have hA := hcells 0 (by omega)
      rw [Htp.out.1, Nat.add_zero] at hA
      have h0n : (0 : Int) < nl := by omega
      clear hcells hnl hol
      go_wp2
      go_ret
      exact ⟨rfl, acc⟩
    · skip
      simp only [mGreat_no hn] at hi hs
      simp only [mLeast_no hn] at hj hk
      clear hn
      have Hi := Lib.hid hi; clear hi
      have Hs := Lib.hid hs; clear hs
      have Hj := Lib.hid hj; clear hj
      have Hk := Lib.hid hk; clear hk
      go_wp2_with fail
      with_reducible refine (Hi.out _).mono ?_
      rintro e v5 ⟨rfl, hb5⟩
      replace ho1 := ho1.keep hb5
      replace acc := belowTrans acc hb5 (Nat.le_refl _)
      clear hb5
      go_wp2_with fail
      with_reducible refine (Hs.out _).mono ?_
      rintro e v6 ⟨rfl, hb6⟩
      replace ho1 := ho1.keep hb6
      replace acc := belowTrans acc hb6 (Nat.le_refl _)
      clear hb6
      go_wp2_with fail
      with_reducible refine (Hj.out _).mono ?_
      rintro e v7 ⟨rfl, hb7⟩
      replace ho1 := ho1.keep hb7
      replace acc := belowTrans acc hb7 (Nat.le_refl _)
      clear hb7
      go_wp2_with fail
      with_reducible refine (Hk.out _).mono ?_
      rintro e v8 ⟨rfl, hb8⟩
      replace ho1 := ho1.keep hb8
      replace acc := belowTrans acc hb8 (Nat.le_refl _)
      clear hb8
      clear Hi Hs Hj Hk
      go_wp2_with fail
      with_reducible refine (Ht.out _ ho1.at).mono ?_
      rintro e v9 ⟨rfl, hb9⟩
      replace ho1 := ho1.keep hb9
      replace acc := belowTrans acc hb9 (Nat.le_refl _)
      clear hb9
      go_wp2_with fail
      with_reducible refine (Hsum.out _ ho1.at).mono ?_
      rintro e w' ⟨rfl, rfl⟩
      go_wp2_with fail
      with_reducible refine (Hle.out _).mono ?_
      rintro e v10 ⟨rfl, hb10⟩
      replace ho1 := ho1.keep hb10
      replace acc := belowTrans acc hb10 (Nat.le_refl _)
      clear hb10
      go_wp2_with fail
      with_reducible refine (Hsum.out _ ho1.at).mono ?_
      rintro e w' ⟨rfl, rfl⟩
      go_wp2_with fail
      with_reducible refine (Hgr.out _).mono ?_
      rintro e v11 ⟨rfl, hb11⟩
      replace ho1 := ho1.keep hb11
      replace acc := belowTrans acc hb11 (Nat.le_refl _)
      clear hb11
      go_wp2_with fail
      with_reducible refine (Hpo.out _ ho1.at).mono ?_
      rintro e v12 ⟨rfl, hb12⟩
      replace ho1 := ho1.keep hb12
      replace acc := belowTrans acc hb12 (Nat.le_refl _)
      clear hb12
      go_wp2_with fail
      with_reducible refine (Hcy.out _ ho1.at).mono ?_
      rintro e v13 ⟨rfl, hb13⟩
      replace ho1 := ho1.keep hb13
      replace acc := belowTrans acc hb13 (Nat.le_refl _)
      clear hb13
      go_wp2_with fail
      with_reducible refine (Hpots.out _ ho1.at).mono ?_
      rintro e v14 ⟨pl, nl, cl, rfl, hol, hb14⟩
      replace ho1 := ho1.keep hb14
      replace acc := belowTrans acc hb14 (Nat.le_refl _)
      clear hb14
      clear Ht Hsum Hle Hgr Hpo Hcy Hpots k3 k4
      have hnl : nl = 1 := by rw [← hol.length, Hll.out]
      have hn8 := hol.at.lenInt
      obtain ⟨b, o, rfl, hbl, hcells⟩ := hol.at.cell 0 (by omega)
      have hA := hcells 0 (by omega)
      rw [Htp.out.1, Nat.add_zero] at hA
      have h0n : (0 : Int) < nl := by omega
      clear hcells hnl hol
      go_wp2
      go_ret
      exact ⟨rfl, acc⟩

/-! ### THE ROW's STEP: WRITTEN OUT: LEAVE IT -/
set_option maxRecDepth 100000 in
theorem lifted (os : Os) (started : os.Started) (H : Type) (enc : TypeId × Value → H) :
    ReturnsInHanded {} Try.checked os 4 .any (Rows.fnLeastMeansCyclicSpec.pre6 enc Try.prog Try.f4 Rows.fnLeastMeansCyclicRow.domain false) (Rows.fnLeastMeansCyclicSpec.post enc Try.prog Try.f4 false true false false) := by
  refine returnsInHanded_of_change (C := Try.checked) own started (by kernel_rfl) Try.func4
    (ChangeSpec.witness6 (enc := enc) (C := Try.checked) false ⟨#[], #[.slice none 0 0, .slice none 0 0], []⟩ 8 (by kernel_rfl) (by kernel_rfl) (by kernel_rfl) (by kernel_rfl)) ?_
  intro W base args ds gs before hval0 hW hcnd _
  have hval : ∀ (j : Nat) t v, Try.f4.params[j]? = some t → args[j]? = some v → Value.okWide Try.prog W .any base t v := hval0
  have hW' := hW
  obtain ⟨p, q, hA0, hV, rfl, hfz, hnd⟩ := hW
  have hA : DataW.TrodAll enc Try.prog W 0 (fun _ => true) true Try.f4.params.toList args.toList ds p := hA0
  rw [Try.params4] at hA hval
  obtain ⟨v0, vs0, d0, ds0, p0, q0, hargs, rfl, rfl, h0, r0⟩ := trodAll_cons hA
  obtain ⟨v1, vs1, d1, ds1, p1, q1, rfl, rfl, rfl, h1, r1⟩ := trodAll_cons r0
  obtain ⟨rfl, rfl, rfl⟩ := trodAll_nil r1
  obtain rfl : args = #[v0, v1] := by cases args; simp_all
  obtain ⟨rfl, rfl⟩ := trodVars_none hV
  obtain ⟨a0, len0, cap0, rfl⟩ := okWide_slice Try.underlying22 (hval 0 22 v0 rfl rfl)
  have k0 := h0
  have lt0 : ∀ x ∈ p0, x.block < W.heap.size := by obtain ⟨m, hm⟩ := k0; exact DataW.trod_lt m _ _ _ hm
  obtain ⟨z0, w0⟩ : ∃ zs, IsRow .u8 W a0 len0 cap0 zs := by
    obtain ⟨fuel, hf⟩ := h0
    rcases open_ints Try.underlying22 Try.underlying5 (by kernel_rfl) hf with ⟨hcs, _⟩ | ⟨x, l, c, zs, hcs, _, hl, hm, hz, _, hcell, hwz⟩
    · simp [Value.cells] at hcs
      obtain ⟨rfl, rfl, rfl⟩ := hcs
      exact ⟨[], .inl ⟨rfl, rfl, rfl, rfl⟩⟩
    · simp [Value.cells] at hcs
      obtain ⟨rfl, rfl, rfl⟩ := hcs
      exact ⟨zs, .inr ⟨_, rfl, hl, hm, by simpa using hz, hcell, hwz⟩⟩
  obtain ⟨a1, len1, cap1, rfl⟩ := okWide_slice Try.underlying22 (hval 1 22 v1 rfl rfl)
  have k1 := h1
  have lt1 : ∀ x ∈ p1, x.block < W.heap.size := by obtain ⟨m, hm⟩ := k1; exact DataW.trod_lt m _ _ _ hm
  obtain ⟨z1, w1⟩ : ∃ zs, IsRow .u8 W a1 len1 cap1 zs := by
    obtain ⟨fuel, hf⟩ := h1
    rcases open_ints Try.underlying22 Try.underlying5 (by kernel_rfl) hf with ⟨hcs, _⟩ | ⟨x, l, c, zs, hcs, _, hl, hm, hz, _, hcell, hwz⟩
    · simp [Value.cells] at hcs
      obtain ⟨rfl, rfl, rfl⟩ := hcs
      exact ⟨[], .inl ⟨rfl, rfl, rfl, rfl⟩⟩
    · simp [Value.cells] at hcs
      obtain ⟨rfl, rfl, rfl⟩ := hcs
      exact ⟨zs, .inr ⟨_, rfl, hl, hm, by simpa using hz, hcell, hwz⟩⟩
  clear hA0 hval0
  refine (walk a0 len0 cap0 z0 a1 len1 cap1 z1 W w0 w1).mono fun e W' ⟨he, bel⟩ => ?_
  subst he
  exact ⟨_, rfl, _, _, _, [], _, [], hW', trodAll_mk1 (shut_bool Try.underlying4 _), (trodAll_cons_mk (Below.trod laidOut (by kernel_rfl) (of_decide_eq_true (by kernel_rfl)) k0 bel lt0) (trodAll_cons_mk (Below.trod laidOut (by kernel_rfl) (of_decide_eq_true (by kernel_rfl)) k1 bel lt1) trodAll_mk0)), rfl, bel.frame _, fun h => by cases h⟩

theorem closedFacts : joinedFacts Try.prog 4 Try.f4 Rows.fnLeastMeansCyclicSpec Rows.fnLeastMeansCyclicRow = true := by
  unfold joinedFacts
  rw [head_enter, head_lifts, head_make]
  kernel_rfl
theorem closedHere : joinedFacts Try.pinned.checked.prog 4 Try.f4 Rows.fnLeastMeansCyclicSpec Rows.fnLeastMeansCyclicRow = true := by
  rw [progEq]
  exact closedFacts
theorem over : Rows.fnLeastMeansCyclicRow.holds Try.pinned (OpenSpec.ofChange Rows.fnLeastMeansCyclicSpec) :=
  OpenClaim.holds_of_wide 4 Try.f4 rfl rfl rfl rfl rfl rfl rfl ⟨rfl, rfl, rfl, rfl, rfl⟩ rfl rfl rfl rfl rfl (by kernel_rfl) Try.func4 closedHere
    (of_decide_eq_true (by kernel_rfl)) (by unfold Func.isWrapper; first | (rw [if_pos (by decide +kernel)]; kernel_rfl) | (rw [if_neg (by decide +kernel)]; exact ⟨rfl, rfl⟩))
    (fun os started H enc _ => lifted os started H enc)

/-- ████ THE STATEMENT ████ -/
theorem proved : Rows.FnLeastMeansCyclicSaid := over
#print axioms proved
end Go.Proofs.Ytmfdimdcoeapoaa.fnLeastMeansCyclic
