/- FnStaircasesStay: for every input the law returns true and leaves its arguments as they were. No condition. -/
import Derived.Test.YtkhphdohdnfplaaRows
import Derived.WalkKit
import Derived.ProofKit
import Derived.OpenShut
import Derived.ShutString
import Derived.ChangeOld
import Derived.Below
import Derived.Test.YtkhphdohdnfplaaHead
import Derived.Test.YtkhphdohdnfplaaLawp
import Derived.Test.YtkhphdohdnfplaaStayM
import Derived.Test.YtkhphdohdnfplaaPileD
import Derived.Test.YtkhphdohdnfplaaPileB
import Derived.Test.YtkhphdohdnfplaaSteps
import Derived.Test.YtkhphdohdnfplaaPastsB
import Derived.Test.YtkhphdohdnfplaaAllI
import Derived.Test.YtkhphdohdnfplaaExA
namespace Go.Proofs.Ytkhphdohdnfplaa.fnStaircasesStay
set_option linter.unusedSimpArgs false
open Go.ChangeShapes Go.WideShapes Go.ChangeAt Go.RowKit
open Go.ChangeMaps (open_string shut_string)
set_option linter.unusedVariables false

theorem own : ownKnob Try.prog.godebug = none := by kernel_rfl
theorem laidOut : laidOutB Try.prog = true := by kernel_rfl

/-- WHAT THE WALK IS TOLD OF A SLICE OF INTEGERS THAT CAME IN: it is nil; or it leads to a row of 'cap' cells, the numbers 'zs' (the first 'len' are its elements, the rest its spare room), each fitting its kind. -/
def IsRow (k : IntKind) (w : World) (a : Option Addr) (len cap : Nat) (zs : List Int) : Prop :=
  (a = none ∧ len = 0 ∧ cap = 0 ∧ zs = []) ∨
  ∃ x, a = some x ∧ len ≤ cap ∧ cap ≤ maxLen ∧ zs.length = cap ∧ (∀ i, i < zs.length → w.cell? (x.add i) = some (.int k (zs.getD i 0))) ∧ ∀ n ∈ zs, (Lit.int k n).wf = true

/-! ### THE WALK: the Go text returns true, AND WRITES NOTHING THAT WAS THERE: 'Below w.heap.size w w'' (Derived/Below.lean: '.refl', '.alloc', '.drew', '.setCell' at a new block, '.trans'). Open each 'IsRow' by 'rcases' AHEAD of 'go_enter'; part every test ahead of the walk. -/
set_option maxHeartbeats 4000000 in
set_option maxRecDepth 100000 in
theorem walk (a0 : Option Addr) (len0 cap0 : Nat) (z0 : List Int) (a1 : Option Addr) (len1 cap1 : Nat) (z1 : List Int) (w : World) (w0 : IsRow .u8 w a0 len0 cap0 z0) (w1 : IsRow .u8 w a1 len1 cap1 z1) :
    Calls Try.prog 7 #[.slice a0 len0 cap0, .slice a1 len1 cap1] w fun e w' => e = .returned (.bool true) ∧ Below w.heap.size w w' := by
  have by0 := byteIn_row w0
  have by1 := byteIn_row w1
  have hl0 : len0 ≤ maxLen := by
    rcases w0 with ⟨_, h, _⟩ | ⟨x, _, h, h', _⟩
    · rw [h]; exact Nat.zero_le _
    · exact Nat.le_trans h h'
  clear w0 w1
  by_cases hbig : 1048576 < len0 ∨ (1048576 : Int) - len0 < len1
  · have hb := big_yes a0 a1 len0 len1 cap0 cap1 w hbig hl0
    have Hb := Lib.hid hb; clear hb
    go_enter Try.func7, Try.ntmps7
    go_wp2_with fail
    with_reducible refine (Hb.out).mono ?_
    rintro e w' ⟨rfl, rfl⟩
    go_wp2
    go_ret
    exact ⟨rfl, Below.refl _ _⟩
  have hb := big_no a0 a1 len0 len1 cap0 cap1 w (by omega) (by omega)
  have hd1 := DrawStaircase_any a0 len0 cap0 w (by omega) by0
  have hd2 := fun W (h : Below w.heap.size w W) => DrawHeightFor_any a1 len1 cap1 W (by omega) (by1.up (Nat.le_refl _) h h.size)
  have Hb := Lib.hid hb; clear hb
  have Hd1 := Lib.hid hd1; clear hd1
  have Hd2 := Lib.hid hd2; clear hd2
  clear by0 by1 hl0 hbig
  have acc : Below w.heap.size w w := Below.refl _ _
  go_enter Try.func7, Try.ntmps7
  go_wp2_with fail
  with_reducible refine (Hb.out).mono ?_
  rintro e w' ⟨rfl, rfl⟩
  go_wp2_with fail
  with_reducible refine (Hd1.out).mono ?_
  rintro e v1 ⟨k, hk0, hk1, rfl, hb1⟩
  replace acc := belowTrans acc hb1 (Nat.le_refl _)
  clear hb1
  have hi := fun W => impl_Staircase k W
  have hs := fun W => spec_Staircase k W
  have hst := stay_of k
  have hfine := staircase_fine k
  generalize (mStaircase k).1 = xs at hi hs hst
  generalize (mStaircase k).2 = fine at hi hs hfine
  have Hst := Lib.hid hst; clear hst
  have Hi := Lib.hid hi; clear hi
  have Hs := Lib.hid hs; clear hs
  have Hfine := Lib.hid hfine; clear hfine
  go_wp2_with fail
  with_reducible refine (Hi.out _).mono ?_
  rintro e v2 ⟨p2, n2, c2, rfl, ho2, hb2⟩
  replace acc := belowTrans acc hb2 (Nat.le_refl _)
  clear hb2
  go_wp2_with fail
  with_reducible refine (Hs.out _).mono ?_
  rintro e v3 ⟨p3, n3, c3, rfl, ho3, hb3⟩
  replace ho2 := ho2.keep hb3
  replace acc := belowTrans acc hb3 (Nat.le_refl _)
  clear hb3
  have hc4 := pSame_any _ _ _ _ _ _ _ _ _ ho2.at ho3.at
  rw [decide_eq_true rfl] at hc4
  have Hc4 := Lib.hid hc4; clear hc4
  go_wp2_with fail
  with_reducible refine (Hc4.out).mono ?_
  rintro e v4 ⟨rfl, hb4⟩
  replace ho2 := ho2.keep hb4
  replace acc := belowTrans acc hb4 (Nat.le_refl _)
  clear hb4 ho3
  go_wp2_with fail
  with_reducible refine (Hd2.out _ acc).mono ?_
  rintro e v5 ⟨n, hn0, hn1, rfl, hb5⟩
  replace ho2 := ho2.keep hb5
  replace acc := belowTrans acc hb5 (Nat.le_refl _)
  clear hb5
  have hih := fun W => impl_HeightFor n W
  have hsh := fun W => spec_HeightFor n W
  have hht := stayHeight n hn0 hn1
  generalize (mHeightFor n).1 = H at hih hsh hht
  generalize (mHeightFor n).2.1 = R at hih hsh hht
  generalize (mHeightFor n).2.2 = T at hih hsh hht
  have Hih := Lib.hid hih; clear hih
  have Hsh := Lib.hid hsh; clear hsh
  have Hht := Lib.hid hht; clear hht
  go_wp2_with fail
  with_reducible refine (Hih.out _).mono ?_
  rintro e v6 ⟨rfl, hb6⟩
  replace ho2 := ho2.keep hb6
  replace acc := belowTrans acc hb6 (Nat.le_refl _)
  clear hb6
  go_wp2_with fail
  with_reducible refine (Hsh.out _).mono ?_
  rintro e v7 ⟨rfl, hb7⟩
  replace ho2 := ho2.keep hb7
  replace acc := belowTrans acc hb7 (Nat.le_refl _)
  clear hb7
  cases T
  · clear Hht
    cases fine
    · clear Hst
      go_wp2
      go_ret
      exact ⟨rfl, acc⟩
    have hk : 0 ≤ k ∧ k ≤ 7 := of_decide_eq_true Hfine.out.symm
    have hst := Hst.out hk.1 hk.2
    clear Hst Hfine
    have hq0 : 0 ≤ k * (k + 1) := Int.mul_nonneg hk.1 (by omega)
    have hq1 : k * (k + 1) ≤ 56 := by
      have := Int.mul_le_mul hk.2 (show k + 1 ≤ 8 by omega) (by omega) (by omega)
      omega
    have hi1 := fun a n c W h => impl_StepPiles a n c xs W h
    rw [hst.step] at hi1
    have hi2 := fun a n c W h => impl_PastsOf a n c xs W h
    rw [hst.pastOk] at hi2
    have hi3 := fun a n c W h => impl_CardsOf a n c xs W h
    rw [hst.cards] at hi3
    have hi4 := fun W => impl_HeightFor (k * (k + 1) / 2) W
    rw [hst.height] at hi4
    have hi5 := fun W => impl_AllPiles (k * (k + 1) / 2) W
    have hall := hst.all
    have hmem := hst.past
    generalize (mPastsOf xs).1 = L at hi2 hmem
    generalize (mAllPiles (k * (k + 1) / 2)).1 = LA at hi5 hall
    generalize (mAllPiles (k * (k + 1) / 2)).2 = OA at hi5 hall
    obtain ⟨C, hC⟩ : ∃ C, k * (k + 1) / 2 = C := ⟨_, rfl⟩
    rw [hC] at hi3 hi4 hi5 hall
    have hC0 : 0 ≤ C := by omega
    have hC1 : C ≤ 28 := by omega
    have Hi1 := Lib.hid hi1; clear hi1
    have Hi2 := Lib.hid hi2; clear hi2
    have Hi3 := Lib.hid hi3; clear hi3
    have Hi4 := Lib.hid hi4; clear hi4
    have Hi5 := Lib.hid hi5; clear hi5
    have Hall := Lib.hid hall; clear hall
    have Hmem := Lib.hid hmem; clear hmem
    have Hst := Lib.hid hst; clear hst
    go_wp2_with fail
    with_reducible refine (Hi1.out _ _ _ _ ho2.at).mono ?_
    rintro e v8 ⟨p8, n8, c8, rfl, ho8, hb8⟩
    replace ho2 := ho2.keep hb8
    replace acc := belowTrans acc hb8 (Nat.le_refl _)
    clear hb8
    go_wp2_with fail
    with_reducible refine (Hi2.out _ _ _ _ ho2.at).mono ?_
    rintro e v9 ⟨p9, n9, c9, rfl, ho9, hb9⟩
    replace ho2 := ho2.keep hb9
    replace ho8 := ho8.keep hb9
    replace acc := belowTrans acc hb9 (Nat.le_refl _)
    clear hb9
    go_wp2_with fail
    with_reducible refine (Hi3.out _ _ _ _ ho2.at).mono ?_
    rintro e v10 ⟨rfl, hb10⟩
    replace ho2 := ho2.keep hb10
    replace ho8 := ho8.keep hb10
    replace ho9 := ho9.keep hb10
    replace acc := belowTrans acc hb10 (Nat.le_refl _)
    clear hb10
    go_wp2_with fail
    with_reducible refine (Hi4.out _).mono ?_
    rintro e v11 ⟨rfl, hb11⟩
    replace ho2 := ho2.keep hb11
    replace ho8 := ho8.keep hb11
    replace ho9 := ho9.keep hb11
    replace acc := belowTrans acc hb11 (Nat.le_refl _)
    clear hb11
    have hc12 := pSame_any _ _ _ _ _ _ _ _ _ ho8.at ho2.at
    rw [decide_eq_true rfl] at hc12
    have Hc12 := Lib.hid hc12; clear hc12
    go_wp2_with fail
    with_reducible refine (Hc12.out).mono ?_
    rintro e v12 ⟨rfl, hb12⟩
    replace ho2 := ho2.keep hb12
    replace ho9 := ho9.keep hb12
    replace acc := belowTrans acc hb12 (Nat.le_refl _)
    clear hb12 ho8
    have hc13 := pHasList_any _ _ _ _ _ _ _ _ _ ho9.at ho2.at
    rw [decide_eq_true Hmem.out] at hc13
    have Hc13 := Lib.hid hc13; clear hc13
    go_wp2_with fail
    with_reducible refine (Hc13.out).mono ?_
    rintro e v13 ⟨rfl, hb13⟩
    replace ho2 := ho2.keep hb13
    replace acc := belowTrans acc hb13 (Nat.le_refl _)
    clear hb13 ho9
    by_cases h15 : (15 : Int) < C
    · go_wp2
      go_ret
      exact ⟨rfl, acc⟩
    obtain ⟨hOA, hB⟩ := Hall.out (by omega)
    subst hOA
    clear Hall
    have HB := Lib.hid hB; clear hB
    go_wp2_with fail
    with_reducible refine (Hi5.out _).mono ?_
    rintro e v14 ⟨p14, n14, c14, rfl, ho14, hb14⟩
    replace ho2 := ho2.keep hb14
    replace acc := belowTrans acc hb14 (Nat.le_refl _)
    clear hb14
    have hn14 := ho14.at.lenInt
    have hLA := ho14.length
    have HLA := Lib.hid hLA; clear hLA
    clear Hi1 Hi2 Hi3 Hi4 Hi5 Hc12 Hc13 Hih Hsh Hc4 Hi Hs Hd1 Hd2 Hb
    obtain ⟨wo, hwo⟩ : ∃ wo : World, wo = v14 := ⟨_, rfl⟩
    subst hwo
    go_wp2_with fail
    go_loopw [182] (fun i wr => ∃ j : Nat, j ≤ n14 ∧ i = .int .i64 j ∧ Below w.heap.size w wr ∧ Below wo.heap.size wo wr) (fun i _ => n14 - (intOf i).toNat)
    case atStart => exact ⟨0, Nat.zero_le _, rfl, acc, Below.refl _ _⟩
    case round =>
      obtain ⟨j, hj, rfl, hbw, hbo⟩ := hrel
      by_cases hlt : j < n14
      · obtain ⟨b, o, rfl, hbl, hc⟩ := (ho14.at.keep hbo).cell j hlt
        obtain ⟨a, m2, c2', hcell, hat⟩ := hc j hlt
        have hbj := HB.out (LA.getD j []) (by rw [List.getD_eq_getElem?_getD, List.getElem?_eq_getElem (by have := HLA.out; omega)]; exact List.getElem_mem _)
        have hsj := impl_StepPiles a m2 c2' (LA.getD j []) wr hat
        rw [hbj.1] at hsj
        have hat2 := ho2.at.keep hbo
        generalize (mStepPiles (LA.getD j [])).1 = st at hsj hbj
        generalize LA.getD j [] = BB at hsj hbj hat
        have hp1 := fun ao n cap W h1 h2 => pSame_any ao a n m2 cap c2' st BB W h1 h2
        have hp2 := fun W h1 h2 => pSame_any a p2 m2 n2 c2' c2 BB xs W h1 h2
        rw [hbj.2] at hp1
        generalize decide (BB = xs) = t at hp1 hp2
        have Hp1 := Lib.hid hp1; clear hp1
        have Hp2 := Lib.hid hp2; clear hp2
        have Hsj := Lib.hid hsj; clear hsj
        clear hc hbj
        cases t
        · go_wp2_with fail
          with_reducible refine (Hsj.out).mono ?_
          rintro e v15 ⟨p15, n15, c15, rfl, ho15, hb15⟩
          go_wp2_with fail
          with_reducible refine (Hp1.out _ _ _ _ ho15.at (hat.keep hb15)).mono ?_
          rintro e v16 ⟨rfl, hb16⟩
          go_wp2_with fail
          with_reducible refine (Hp2.out _ ((hat.keep hb15).keep hb16) ((hat2.keep hb15).keep hb16)).mono ?_
          rintro e v17 ⟨rfl, hb17⟩
          go_wp2
          go_roundw
          case rel => exact ⟨j + 1, by omega, by go_num, belowTrans (belowTrans (belowTrans hbw hb15 (Nat.le_refl _)) hb16 (Nat.le_refl _)) hb17 (Nat.le_refl _), belowTrans (belowTrans (belowTrans hbo hb15 (Nat.le_refl _)) hb16 (Nat.le_refl _)) hb17 (Nat.le_refl _)⟩
          case measure => simp [intOf] <;> omega
        · go_wp2_with fail
          with_reducible refine (Hsj.out).mono ?_
          rintro e v15 ⟨p15, n15, c15, rfl, ho15, hb15⟩
          go_wp2_with fail
          with_reducible refine (Hp1.out _ _ _ _ ho15.at (hat.keep hb15)).mono ?_
          rintro e v16 ⟨rfl, hb16⟩
          go_wp2_with fail
          with_reducible refine (Hp2.out _ ((hat.keep hb15).keep hb16) ((hat2.keep hb15).keep hb16)).mono ?_
          rintro e v17 ⟨rfl, hb17⟩
          go_wp2
          go_roundw
          case rel => exact ⟨j + 1, by omega, by go_num, belowTrans (belowTrans (belowTrans hbw hb15 (Nat.le_refl _)) hb16 (Nat.le_refl _)) hb17 (Nat.le_refl _), belowTrans (belowTrans (belowTrans hbo hb15 (Nat.le_refl _)) hb16 (Nat.le_refl _)) hb17 (Nat.le_refl _)⟩
          case measure => simp [intOf] <;> omega
      · go_wp2
        go_ret
        exact ⟨rfl, hbw⟩
  · obtain ⟨ht1, ht2, ht3, ht4⟩ := Hht.out rfl
    clear Hht
    have hH0 : 0 ≤ H * (H + 1) := Int.mul_nonneg (by omega) (by omega)
    have hH1 : H * (H + 1) ≤ 1000 := by
      have := Int.mul_le_mul ht4 (show H + 1 ≤ 29 by omega) (by omega) (by omega)
      omega
    cases fine
    · clear Hst
      go_wp2
      go_ret
      exact ⟨rfl, acc⟩
    have hk : 0 ≤ k ∧ k ≤ 7 := of_decide_eq_true Hfine.out.symm
    have hst := Hst.out hk.1 hk.2
    clear Hst Hfine
    have hq0 : 0 ≤ k * (k + 1) := Int.mul_nonneg hk.1 (by omega)
    have hq1 : k * (k + 1) ≤ 56 := by
      have := Int.mul_le_mul hk.2 (show k + 1 ≤ 8 by omega) (by omega) (by omega)
      omega
    have hi1 := fun a n c W h => impl_StepPiles a n c xs W h
    rw [hst.step] at hi1
    have hi2 := fun a n c W h => impl_PastsOf a n c xs W h
    rw [hst.pastOk] at hi2
    have hi3 := fun a n c W h => impl_CardsOf a n c xs W h
    rw [hst.cards] at hi3
    have hi4 := fun W => impl_HeightFor (k * (k + 1) / 2) W
    rw [hst.height] at hi4
    have hi5 := fun W => impl_AllPiles (k * (k + 1) / 2) W
    have hall := hst.all
    have hmem := hst.past
    generalize (mPastsOf xs).1 = L at hi2 hmem
    generalize (mAllPiles (k * (k + 1) / 2)).1 = LA at hi5 hall
    generalize (mAllPiles (k * (k + 1) / 2)).2 = OA at hi5 hall
    obtain ⟨C, hC⟩ : ∃ C, k * (k + 1) / 2 = C := ⟨_, rfl⟩
    rw [hC] at hi3 hi4 hi5 hall
    have hC0 : 0 ≤ C := by omega
    have hC1 : C ≤ 28 := by omega
    have Hi1 := Lib.hid hi1; clear hi1
    have Hi2 := Lib.hid hi2; clear hi2
    have Hi3 := Lib.hid hi3; clear hi3
    have Hi4 := Lib.hid hi4; clear hi4
    have Hi5 := Lib.hid hi5; clear hi5
    have Hall := Lib.hid hall; clear hall
    have Hmem := Lib.hid hmem; clear hmem
    have Hst := Lib.hid hst; clear hst
    go_wp2_with fail
    with_reducible refine (Hi1.out _ _ _ _ ho2.at).mono ?_
    rintro e v8 ⟨p8, n8, c8, rfl, ho8, hb8⟩
    replace ho2 := ho2.keep hb8
    replace acc := belowTrans acc hb8 (Nat.le_refl _)
    clear hb8
    go_wp2_with fail
    with_reducible refine (Hi2.out _ _ _ _ ho2.at).mono ?_
    rintro e v9 ⟨p9, n9, c9, rfl, ho9, hb9⟩
    replace ho2 := ho2.keep hb9
    replace ho8 := ho8.keep hb9
    replace acc := belowTrans acc hb9 (Nat.le_refl _)
    clear hb9
    go_wp2_with fail
    with_reducible refine (Hi3.out _ _ _ _ ho2.at).mono ?_
    rintro e v10 ⟨rfl, hb10⟩
    replace ho2 := ho2.keep hb10
    replace ho8 := ho8.keep hb10
    replace ho9 := ho9.keep hb10
    replace acc := belowTrans acc hb10 (Nat.le_refl _)
    clear hb10
    go_wp2_with fail
    with_reducible refine (Hi4.out _).mono ?_
    rintro e v11 ⟨rfl, hb11⟩
    replace ho2 := ho2.keep hb11
    replace ho8 := ho8.keep hb11
    replace ho9 := ho9.keep hb11
    replace acc := belowTrans acc hb11 (Nat.le_refl _)
    clear hb11
    have hc12 := pSame_any _ _ _ _ _ _ _ _ _ ho8.at ho2.at
    rw [decide_eq_true rfl] at hc12
    have Hc12 := Lib.hid hc12; clear hc12
    go_wp2_with fail
    with_reducible refine (Hc12.out).mono ?_
    rintro e v12 ⟨rfl, hb12⟩
    replace ho2 := ho2.keep hb12
    replace ho9 := ho9.keep hb12
    replace acc := belowTrans acc hb12 (Nat.le_refl _)
    clear hb12 ho8
    have hc13 := pHasList_any _ _ _ _ _ _ _ _ _ ho9.at ho2.at
    rw [decide_eq_true Hmem.out] at hc13
    have Hc13 := Lib.hid hc13; clear hc13
    go_wp2_with fail
    with_reducible refine (Hc13.out).mono ?_
    rintro e v13 ⟨rfl, hb13⟩
    replace ho2 := ho2.keep hb13
    replace acc := belowTrans acc hb13 (Nat.le_refl _)
    clear hb13 ho9
    by_cases h15 : (15 : Int) < C
    · go_wp2
      go_ret
      exact ⟨rfl, acc⟩
    obtain ⟨hOA, hB⟩ := Hall.out (by omega)
    subst hOA
    clear Hall
    have HB := Lib.hid hB; clear hB
    go_wp2_with fail
    with_reducible refine (Hi5.out _).mono ?_
    rintro e v14 ⟨p14, n14, c14, rfl, ho14, hb14⟩
    replace ho2 := ho2.keep hb14
    replace acc := belowTrans acc hb14 (Nat.le_refl _)
    clear hb14
    have hn14 := ho14.at.lenInt
    have hLA := ho14.length
    have HLA := Lib.hid hLA; clear hLA
    clear Hi1 Hi2 Hi3 Hi4 Hi5 Hc12 Hc13 Hih Hsh Hc4 Hi Hs Hd1 Hd2 Hb
    obtain ⟨wo, hwo⟩ : ∃ wo : World, wo = v14 := ⟨_, rfl⟩
    subst hwo
    go_wp2_with fail
    go_loopw [182] (fun i wr => ∃ j : Nat, j ≤ n14 ∧ i = .int .i64 j ∧ Below w.heap.size w wr ∧ Below wo.heap.size wo wr) (fun i _ => n14 - (intOf i).toNat)
    case atStart => exact ⟨0, Nat.zero_le _, rfl, acc, Below.refl _ _⟩
    case round =>
      obtain ⟨j, hj, rfl, hbw, hbo⟩ := hrel
      by_cases hlt : j < n14
      · obtain ⟨b, o, rfl, hbl, hc⟩ := (ho14.at.keep hbo).cell j hlt
        obtain ⟨a, m2, c2', hcell, hat⟩ := hc j hlt
        have hbj := HB.out (LA.getD j []) (by rw [List.getD_eq_getElem?_getD, List.getElem?_eq_getElem (by have := HLA.out; omega)]; exact List.getElem_mem _)
        have hsj := impl_StepPiles a m2 c2' (LA.getD j []) wr hat
        rw [hbj.1] at hsj
        have hat2 := ho2.at.keep hbo
        generalize (mStepPiles (LA.getD j [])).1 = st at hsj hbj
        generalize LA.getD j [] = BB at hsj hbj hat
        have hp1 := fun ao n cap W h1 h2 => pSame_any ao a n m2 cap c2' st BB W h1 h2
        have hp2 := fun W h1 h2 => pSame_any a p2 m2 n2 c2' c2 BB xs W h1 h2
        rw [hbj.2] at hp1
        generalize decide (BB = xs) = t at hp1 hp2
        have Hp1 := Lib.hid hp1; clear hp1
        have Hp2 := Lib.hid hp2; clear hp2
        have Hsj := Lib.hid hsj; clear hsj
        clear hc hbj
        cases t
        · go_wp2_with fail
          with_reducible refine (Hsj.out).mono ?_
          rintro e v15 ⟨p15, n15, c15, rfl, ho15, hb15⟩
          go_wp2_with fail
          with_reducible refine (Hp1.out _ _ _ _ ho15.at (hat.keep hb15)).mono ?_
          rintro e v16 ⟨rfl, hb16⟩
          go_wp2_with fail
          with_reducible refine (Hp2.out _ ((hat.keep hb15).keep hb16) ((hat2.keep hb15).keep hb16)).mono ?_
          rintro e v17 ⟨rfl, hb17⟩
          go_wp2
          go_roundw
          case rel => exact ⟨j + 1, by omega, by go_num, belowTrans (belowTrans (belowTrans hbw hb15 (Nat.le_refl _)) hb16 (Nat.le_refl _)) hb17 (Nat.le_refl _), belowTrans (belowTrans (belowTrans hbo hb15 (Nat.le_refl _)) hb16 (Nat.le_refl _)) hb17 (Nat.le_refl _)⟩
          case measure => simp [intOf] <;> omega
        · go_wp2_with fail
          with_reducible refine (Hsj.out).mono ?_
          rintro e v15 ⟨p15, n15, c15, rfl, ho15, hb15⟩
          go_wp2_with fail
          with_reducible refine (Hp1.out _ _ _ _ ho15.at (hat.keep hb15)).mono ?_
          rintro e v16 ⟨rfl, hb16⟩
          go_wp2_with fail
          with_reducible refine (Hp2.out _ ((hat.keep hb15).keep hb16) ((hat2.keep hb15).keep hb16)).mono ?_
          rintro e v17 ⟨rfl, hb17⟩
          go_wp2
          go_roundw
          case rel => exact ⟨j + 1, by omega, by go_num, belowTrans (belowTrans (belowTrans hbw hb15 (Nat.le_refl _)) hb16 (Nat.le_refl _)) hb17 (Nat.le_refl _), belowTrans (belowTrans (belowTrans hbo hb15 (Nat.le_refl _)) hb16 (Nat.le_refl _)) hb17 (Nat.le_refl _)⟩
          case measure => simp [intOf] <;> omega
      · go_wp2
        go_ret
        exact ⟨rfl, hbw⟩

/-! ### THE ROW's STEP: WRITTEN OUT: LEAVE IT -/
set_option maxRecDepth 100000 in
theorem lifted (os : Os) (started : os.Started) (H : Type) (enc : TypeId × Value → H) :
    ReturnsInHanded {} Try.checked os 7 .any (Rows.fnStaircasesStaySpec.pre6 enc Try.prog Try.f7 Rows.fnStaircasesStayRow.domain false) (Rows.fnStaircasesStaySpec.post enc Try.prog Try.f7 false true false false) := by
  refine returnsInHanded_of_change (C := Try.checked) own started (by kernel_rfl) Try.func7
    (ChangeSpec.witness6 (enc := enc) (C := Try.checked) false ⟨#[], #[.slice none 0 0, .slice none 0 0], []⟩ 8 (by kernel_rfl) (by kernel_rfl) (by kernel_rfl) (by kernel_rfl)) ?_
  intro W base args ds gs before hval0 hW hcnd _
  have hval : ∀ (j : Nat) t v, Try.f7.params[j]? = some t → args[j]? = some v → Value.okWide Try.prog W .any base t v := hval0
  have hW' := hW
  obtain ⟨p, q, hA0, hV, rfl, hfz, hnd⟩ := hW
  have hA : DataW.TrodAll enc Try.prog W 0 (fun _ => true) true Try.f7.params.toList args.toList ds p := hA0
  rw [Try.params7] at hA hval
  obtain ⟨v0, vs0, d0, ds0, p0, q0, hargs, rfl, rfl, h0, r0⟩ := trodAll_cons hA
  obtain ⟨v1, vs1, d1, ds1, p1, q1, rfl, rfl, rfl, h1, r1⟩ := trodAll_cons r0
  obtain ⟨rfl, rfl, rfl⟩ := trodAll_nil r1
  obtain rfl : args = #[v0, v1] := by cases args; simp_all
  obtain ⟨rfl, rfl⟩ := trodVars_none hV
  obtain ⟨a0, len0, cap0, rfl⟩ := okWide_slice Try.underlying22 (hval 0 22 v0 rfl rfl)
  have k0 := h0
  have lt0 : ∀ x ∈ p0, x.block < W.heap.size := by obtain ⟨m, hm⟩ := k0; exact DataW.trod_lt m _ _ _ hm
  obtain ⟨z0, w0⟩ : ∃ zs, IsRow .u8 W a0 len0 cap0 zs := by
    obtain ⟨fuel, hf⟩ := h0
    rcases open_ints Try.underlying22 Try.underlying5 (by kernel_rfl) hf with ⟨hcs, _⟩ | ⟨x, l, c, zs, hcs, _, hl, hm, hz, _, hcell, hwz⟩
    · simp [Value.cells] at hcs
      obtain ⟨rfl, rfl, rfl⟩ := hcs
      exact ⟨[], .inl ⟨rfl, rfl, rfl, rfl⟩⟩
    · simp [Value.cells] at hcs
      obtain ⟨rfl, rfl, rfl⟩ := hcs
      exact ⟨zs, .inr ⟨_, rfl, hl, hm, by simpa using hz, hcell, hwz⟩⟩
  obtain ⟨a1, len1, cap1, rfl⟩ := okWide_slice Try.underlying22 (hval 1 22 v1 rfl rfl)
  have k1 := h1
  have lt1 : ∀ x ∈ p1, x.block < W.heap.size := by obtain ⟨m, hm⟩ := k1; exact DataW.trod_lt m _ _ _ hm
  obtain ⟨z1, w1⟩ : ∃ zs, IsRow .u8 W a1 len1 cap1 zs := by
    obtain ⟨fuel, hf⟩ := h1
    rcases open_ints Try.underlying22 Try.underlying5 (by kernel_rfl) hf with ⟨hcs, _⟩ | ⟨x, l, c, zs, hcs, _, hl, hm, hz, _, hcell, hwz⟩
    · simp [Value.cells] at hcs
      obtain ⟨rfl, rfl, rfl⟩ := hcs
      exact ⟨[], .inl ⟨rfl, rfl, rfl, rfl⟩⟩
    · simp [Value.cells] at hcs
      obtain ⟨rfl, rfl, rfl⟩ := hcs
      exact ⟨zs, .inr ⟨_, rfl, hl, hm, by simpa using hz, hcell, hwz⟩⟩
  clear hA0 hval0
  refine (walk a0 len0 cap0 z0 a1 len1 cap1 z1 W w0 w1).mono fun e W' ⟨he, bel⟩ => ?_
  subst he
  exact ⟨_, rfl, _, _, _, [], _, [], hW', trodAll_mk1 (shut_bool Try.underlying4 _), (trodAll_cons_mk (Below.trod laidOut (by kernel_rfl) (of_decide_eq_true (by kernel_rfl)) k0 bel lt0) (trodAll_cons_mk (Below.trod laidOut (by kernel_rfl) (of_decide_eq_true (by kernel_rfl)) k1 bel lt1) trodAll_mk0)), rfl, bel.frame _, fun h => by cases h⟩

theorem closedFacts : joinedFacts Try.prog 7 Try.f7 Rows.fnStaircasesStaySpec Rows.fnStaircasesStayRow = true := by
  unfold joinedFacts
  rw [head_enter, head_lifts, head_make]
  kernel_rfl
theorem closedHere : joinedFacts Try.pinned.checked.prog 7 Try.f7 Rows.fnStaircasesStaySpec Rows.fnStaircasesStayRow = true := by
  rw [progEq]
  exact closedFacts
theorem over : Rows.fnStaircasesStayRow.holds Try.pinned (OpenSpec.ofChange Rows.fnStaircasesStaySpec) :=
  OpenClaim.holds_of_wide 7 Try.f7 rfl rfl rfl rfl rfl rfl rfl ⟨rfl, rfl, rfl, rfl, rfl⟩ rfl rfl rfl rfl rfl (by kernel_rfl) Try.func7 closedHere
    (of_decide_eq_true (by kernel_rfl)) (by unfold Func.isWrapper; first | (rw [if_pos (by decide +kernel)]; kernel_rfl) | (rw [if_neg (by decide +kernel)]; exact ⟨rfl, rfl⟩))
    (fun os started H enc _ => lifted os started H enc)

/-- ████ THE STATEMENT ████ -/
theorem proved : Rows.FnStaircasesStaySaid := over
#print axioms proved
end Go.Proofs.Ytkhphdohdnfplaa.fnStaircasesStay
