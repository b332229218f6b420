/- FnFallVectors: for every input the law returns true and leaves its arguments as they were. No condition. -/
import Derived.Test.YtdfmljkjidepeaaGreatDoorRows
import Derived.Test.YtdfmljkjidepeaaGreatDoorCards
import Derived.Test.YtdfmljkjidepeaaGreatDoorTie
import Derived.WalkKit
import Derived.LaidMore
import Derived.Stop.Joined
import Derived.SevenTiedAt
import Derived.ProofKit
import Derived.OpenShut
import Derived.ShutString
import Derived.ChangeOld
import Derived.Below
import Derived.Test.YtdfmljkjidepeaaGreatDoorHead
import Derived.Test.YtdfmljkjidepeaaGreatDoorLawp
import Derived.Test.YtdfmljkjidepeaaGreatDoorFvM
import Derived.Test.YtdfmljkjidepeaaGreatDoorGq
import Derived.Test.YtdfmljkjidepeaaGreatDoorHelp
namespace Go.Proofs.YtdfmljkjidepeaaGreatDoor.fnFallVectors
set_option linter.unusedSimpArgs false
open Go.ChangeShapes Go.WideShapes Go.ChangeAt Go.RowKit
open Go.ChangeMaps (open_string shut_string)
set_option linter.unusedVariables false

theorem own : ownKnob Tryz.prog.godebug = none := by kernel_rfl
theorem laidOut : laidOutB Tryz.prog = true := by kernel_rfl

/-- WHAT THE WALK IS TOLD OF A SLICE OF INTEGERS THAT CAME IN: it is nil; or it leads to a row of 'cap' cells, the numbers 'zs' (the first 'len' are its elements, the rest its spare room), each fitting its kind. -/
def IsRow (k : IntKind) (w : World) (a : Option Addr) (len cap : Nat) (zs : List Int) : Prop :=
  (a = none ∧ len = 0 ∧ cap = 0 ∧ zs = []) ∨
  ∃ x, a = some x ∧ len ≤ cap ∧ cap ≤ maxLen ∧ zs.length = cap ∧ (∀ i, i < zs.length → w.cell? (x.add i) = some (.int k (zs.getD i 0))) ∧ ∀ n ∈ zs, (Lit.int k n).wf = true

/-! ### THE WALK: the Go text returns true, AND WRITES NOTHING THAT WAS THERE: 'Below w.heap.size w w'' (Derived/Below.lean: '.refl', '.alloc', '.drew', '.setCell' at a new block, '.trans'). Open each 'IsRow' by 'rcases' AHEAD of 'go_enter'; part every test ahead of the walk. -/
set_option maxHeartbeats 4000000 in
set_option maxRecDepth 100000 in
theorem walk (a0 : Option Addr) (len0 cap0 : Nat) (z0 : List Int) (a1 : Option Addr) (len1 cap1 : Nat) (z1 : List Int) (w : World) (w0 : IsRow .u8 w a0 len0 cap0 z0) (w1 : IsRow .u8 w a1 len1 cap1 z1) :
    Calls Tryz.prog 3 #[.slice a0 len0 cap0, .slice a1 len1 cap1] w fun e w' => e = .returned (.bool true) ∧ Below w.heap.size w w' := by
  have by0 := byteIn_row w0
  have by1 := byteIn_row w1
  have hl0 : len0 ≤ maxLen := by
    rcases w0 with ⟨_, h, _⟩ | ⟨x, _, h, h', _⟩
    · rw [h]; exact Nat.zero_le _
    · exact Nat.le_trans h h'
  clear w0 w1
  by_cases hbig : 1048576 < len0 ∨ (1048576 : Int) - len0 < len1
  · have hb := big_yes a0 a1 len0 len1 cap0 cap1 w hbig hl0
    have Hb := Lib.hid hb; clear hb
    go_enter Tryz.func3, Tryz.ntmps3
    go_wp2_with fail
    with_reducible refine (Hb.out).mono ?_
    rintro e w' ⟨rfl, rfl⟩
    go_wp2
    go_ret
    exact ⟨rfl, Below.refl _ _⟩
  have hb := big_no a0 a1 len0 len1 cap0 cap1 w (by omega) (by omega)
  have hd := DrawFallVector_any a0 len0 cap0 w (by omega) by0
  have hf := fun W (h : Below w.heap.size w W) => DrawCountFallPlays_any a1 len1 cap1 W (by omega) (by1.up (Nat.le_refl _) h h.size)
  have Hb := Lib.hid hb; clear hb
  have Hd := Lib.hid hd; clear hd
  have Hf := Lib.hid hf; clear hf
  clear by0 by1 hl0 hbig
  have acc : Below w.heap.size w w := Below.refl _ _
  go_enter Tryz.func3, Tryz.ntmps3
  go_wp2_with fail
  with_reducible refine (Hb.out).mono ?_
  rintro e w' ⟨rfl, rfl⟩
  clear Hb
  go_wp2_with fail
  with_reducible refine (Hd.out).mono ?_
  rintro e v1 ⟨pa, na, ca, xs, pb, nb, cb, ys, rfl, hoa, hna, hob, hnb, hb1⟩
  replace acc := belowTrans acc hb1 (Nat.le_refl _)
  clear hb1
  clear Hd hna hnb
  have hv := fun W h h' => impl_FallVector pa na ca xs pb nb cb ys W h h'
  have hw := fun W h h' => spec_FallVector pa na ca xs pb nb cb ys W h h'
  have hg := fun W h h' => impl_FallsBetween pa na ca xs pb nb cb ys W h h'
  have hi := fun W h h' => spec_FallsBetween pa na ca xs pb nb cb ys W h h'
  have hc := fun W h h' => impl_CanReach pa na ca xs pb nb cb ys W h h'
  have hx := fun W h => impl_FallCounts pa na ca xs W h
  have hy := fun W h => impl_FallCounts pb nb cb ys W h
  rcases vec_cases xs ys with ⟨e1, e2, e3⟩ | ⟨e1, e2, e3⟩ | ⟨V, X, Y, e1, e2, e3, e4, e5, hsum, hV0, hV1, hY0, hY1, hbx, hby, hlx, hly, hlv, hcnt⟩
  · simp only [e1] at hv hw
    simp only [e2] at hg hi
    simp only [e3] at hc
    clear hx hy e1 e2 e3
    have Hv := Lib.hid hv; clear hv
    have Hw := Lib.hid hw; clear hw
    have Hg := Lib.hid hg; clear hg
    have Hi := Lib.hid hi; clear hi
    have Hc := Lib.hid hc; clear hc
    go_wp2_with fail
    with_reducible refine (Hv.out _ hoa.at hob.at).mono ?_
    rintro e v2 ⟨pv, nv, cv, rfl, hov, hb2⟩
    replace hoa := hoa.keep hb2
    replace hob := hob.keep hb2
    replace acc := belowTrans acc hb2 (Nat.le_refl _)
    clear hb2
    go_wp2_with fail
    with_reducible refine (Hw.out _ hoa.at hob.at).mono ?_
    rintro e v3 ⟨pw, nw, cw, rfl, how, hb3⟩
    replace hoa := hoa.keep hb3
    replace hob := hob.keep hb3
    replace hov := hov.keep hb3
    replace acc := belowTrans acc hb3 (Nat.le_refl _)
    clear hb3
    go_wp2_with fail
    with_reducible refine (Hg.out _ hoa.at hob.at).mono ?_
    rintro e v4 ⟨rfl, hb4⟩
    replace hoa := hoa.keep hb4
    replace hob := hob.keep hb4
    replace hov := hov.keep hb4
    replace how := how.keep hb4
    replace acc := belowTrans acc hb4 (Nat.le_refl _)
    clear hb4
    go_wp2_with fail
    with_reducible refine (Hi.out _ hoa.at hob.at).mono ?_
    rintro e v5 ⟨rfl, hb5⟩
    replace hoa := hoa.keep hb5
    replace hob := hob.keep hb5
    replace hov := hov.keep hb5
    replace how := how.keep hb5
    replace acc := belowTrans acc hb5 (Nat.le_refl _)
    clear hb5
    go_wp2_with fail
    with_reducible refine (Hc.out _ hoa.at hob.at).mono ?_
    rintro e v6 ⟨rfl, hb6⟩
    replace hoa := hoa.keep hb6
    replace hob := hob.keep hb6
    replace hov := hov.keep hb6
    replace how := how.keep hb6
    replace acc := belowTrans acc hb6 (Nat.le_refl _)
    clear hb6
    clear Hv Hw Hg Hi Hc
    have hc := pSame_any _ _ _ _ _ _ _ _ _ hov.at how.at
    rw [decide_eq_true rfl] at hc
    have Hc := Lib.hid hc; clear hc
    go_wp2_with fail
    with_reducible refine (Hc.out).mono ?_
    rintro e v7 ⟨rfl, hb7⟩
    replace hoa := hoa.keep hb7
    replace hob := hob.keep hb7
    replace hov := hov.keep hb7
    replace how := how.keep hb7
    replace acc := belowTrans acc hb7 (Nat.le_refl _)
    clear hb7
    clear Hc
    clear hov
    clear how
    clear hoa
    clear hob
    go_wp2_with fail
    with_reducible refine (Hf.out _ acc).mono ?_
    rintro e v8 ⟨pc, nc, cc, cs_, rfl, hoc, hnc, hb8⟩
    replace acc := belowTrans acc hb8 (Nat.le_refl _)
    clear hb8
    clear Hf hnc
    have hi := fun W h => impl_CountFallPlays pc nc cc cs_ W h
    have hs := fun W h => spec_CountFallPlays pc nc cc cs_ W h
    have hfl := fun W h => impl_FallsOf pc nc cc cs_ W h
    have hgr := fun k W h => impl_FallGrain pc nc cc cs_ k W h
    rcases plays_cases cs_ with hm | ⟨P, F, S, hm, hP, hfo, hf24, hS0, hSb, hPe, hPn, hfall⟩
    · simp only [hm] at hi hs
      clear hfl hgr
      have Hi := Lib.hid hi; clear hi
      have Hs := Lib.hid hs; clear hs
      go_wp2_with fail
      with_reducible refine (Hi.out _ hoc.at).mono ?_
      rintro e v9 ⟨rfl, hb9⟩
      replace hoc := hoc.keep hb9
      replace acc := belowTrans acc hb9 (Nat.le_refl _)
      clear hb9
      go_wp2_with fail
      with_reducible refine (Hs.out _ hoc.at).mono ?_
      rintro e v10 ⟨rfl, hb10⟩
      replace hoc := hoc.keep hb10
      replace acc := belowTrans acc hb10 (Nat.le_refl _)
      clear hb10
      go_wp2
      go_ret
      exact ⟨rfl, acc⟩
    · simp only [hm] at hi hs
      simp only [hfo] at hfl
      have hPP : (((P : Nat) : Int) != ((P : Nat) : Int)) = false := by simp
      clear hm hfo
      have Hi := Lib.hid hi; clear hi
      have Hs := Lib.hid hs; clear hs
      have Hfl := Lib.hid hfl; clear hfl
      have Hgr := Lib.hid hgr; clear hgr
      have Hf24 := Lib.hid hf24; clear hf24
      have HS0 := Lib.hid hS0; clear hS0
      have HP := Lib.hid hP; clear hP
      have HPe := Lib.hid hPe; clear hPe
      have HN := Lib.hid hPn; clear hPn
      have HB := Lib.hid hSb; clear hSb
      have HA := Lib.hid hfall; clear hfall
      go_wp2_with fail
      with_reducible refine (Hi.out _ hoc.at).mono ?_
      rintro e v9 ⟨rfl, hb9⟩
      replace hoc := hoc.keep hb9
      replace acc := belowTrans acc hb9 (Nat.le_refl _)
      clear hb9
      go_wp2_with fail
      with_reducible refine (Hs.out _ hoc.at).mono ?_
      rintro e v10 ⟨rfl, hb10⟩
      replace hoc := hoc.keep hb10
      replace acc := belowTrans acc hb10 (Nat.le_refl _)
      clear hb10
      go_wp2_with fail
      with_reducible refine (Hfl.out _ hoc.at).mono ?_
      rintro e v11 ⟨pf, nf, cf, rfl, hof, hb11⟩
      replace hoc := hoc.keep hb11
      replace acc := belowTrans acc hb11 (Nat.le_refl _)
      clear hb11
      clear Hi Hs Hfl
      have hlf := hof.length
      have hnf8 : (nf : Int) ≤ 24 := by have := Hf24.out; omega
      have HLF := Lib.hid hlf; clear hlf Hf24
      obtain ⟨wo, hwo⟩ : ∃ wo : World, wo = v11 := ⟨_, rfl⟩
      subst hwo
      go_wp2_with fail
      go_loopw [31, 194] (fun s i wr => ∃ j : Nat, j ≤ nf ∧ i = .int .i64 j ∧ s = .int .i64 ((S j : Nat) : Int) ∧ Below w.heap.size w wr ∧ Below wo.heap.size wo wr) (fun _ i _ => nf - (intOf i).toNat)
      case atStart => exact ⟨0, Nat.zero_le _, rfl, by rw [HS0.out]; rfl, acc, Below.refl _ _⟩
      case round =>
        obtain ⟨j, hj, rfl, rfl, hbw, hbo⟩ := hrel
        by_cases hlt : j < nf
        · skip
          replace hoc := hoc.keep hbo
          replace hof := hof.keep hbo
          obtain ⟨b3, o3, rfl, hbl3, hc3⟩ := hof.at.cell j hlt
          have hck3 := hc3 j hlt
          obtain ⟨kk, hk1, hk2, yy, hk3, p, hp, hp9, hSs⟩ := HA.out j (by rw [HLF.out]; exact hlt)
          have hs9 := HB.out (j + 1) (by rw [HLF.out]; omega)
          rw [hk1] at hck3
          have hgk := Hgr.out (kk : Int)
          simp only [hk3] at hgk
          have hcp := fun W a n c h => impl_CountFallPlays a n c yy W h
          simp only [hp] at hcp
          have hkk8 : (kk : Int) ≤ 24 := by omega
          have hsj : ((S (j + 1) : Nat) : Int) = ((S j : Nat) : Int) + ((p : Nat) : Int) := by omega
          have hsj1 : ((S j : Nat) : Int) + ((p : Nat) : Int) ≤ 1000000000 := by omega
          have hsj2 : ((S j : Nat) : Int) ≤ 1000000000 := by omega
          have hsj3 : ((p : Nat) : Int) ≤ 1000000000 := by omega
          clear hc3 hbl3 hk1 hk3 hp hSs hs9 hp9
          have HSJ := Lib.hid hsj; clear hsj
          have Hgk := Lib.hid hgk; clear hgk
          have HCP := Lib.hid hcp; clear hcp
          go_wp2_with fail
          with_reducible refine (Hgk.out _ hoc.at).mono ?_
          rintro e v12 ⟨py, ny, cy, rfl, hoy, hb12⟩
          replace hoc := hoc.keep hb12
          replace hof := hof.keep hb12
          replace hbw := belowTrans hbw hb12 (Nat.le_refl _)
          replace hbo := belowTrans hbo hb12 (Nat.le_refl _)
          clear hb12
          go_wp2_with fail
          with_reducible refine (HCP.out _ _ _ _ hoy.at).mono ?_
          rintro e v13 ⟨rfl, hb13⟩
          replace hoc := hoc.keep hb13
          replace hof := hof.keep hb13
          replace hoy := hoy.keep hb13
          replace hbw := belowTrans hbw hb13 (Nat.le_refl _)
          replace hbo := belowTrans hbo hb13 (Nat.le_refl _)
          clear hb13
          go_wp2
          go_roundw
          case rel => exact ⟨j + 1, by omega, by go_num, valI (by rw [HSJ.out]), hbw, hbo⟩
          case measure => simp [intOf] <;> omega
        · obtain rfl : nf = j := by omega
          have hlf := HLF.out
          by_cases h0 : nf = 0
          · subst h0
            have hp1 : ((P : Nat) : Int) = 1 := by have := HPe.out (by omega); omega
            have hz := HS0.out
            have e1 : (((P : Nat) : Int) == ((S 0 : Nat) : Int)) = false := by rw [hp1, hz]; rfl
            have e2 : (((P : Nat) : Int) == 1) = true := by rw [hp1]; rfl
            have e3 : (((0 : Nat) : Int) == 0) = true := rfl
            clear hp1 hz
            go_wp2
            go_ret
            exact ⟨rfl, hbw⟩
          · have hp1 : ((P : Nat) : Int) = ((S nf : Nat) : Int) := by have := HN.out (by omega); rw [hlf] at this; omega
            have e1 : (((P : Nat) : Int) == ((S nf : Nat) : Int)) = true := by rw [hp1]; simp
            clear hp1
            go_wp2
            go_ret
            exact ⟨rfl, hbw⟩
  · simp only [e1] at hv hw
    simp only [e2] at hg hi
    simp only [e3] at hc
    clear hx hy e1 e2 e3
    have Hv := Lib.hid hv; clear hv
    have Hw := Lib.hid hw; clear hw
    have Hg := Lib.hid hg; clear hg
    have Hi := Lib.hid hi; clear hi
    have Hc := Lib.hid hc; clear hc
    go_wp2_with fail
    with_reducible refine (Hv.out _ hoa.at hob.at).mono ?_
    rintro e v2 ⟨pv, nv, cv, rfl, hov, hb2⟩
    replace hoa := hoa.keep hb2
    replace hob := hob.keep hb2
    replace acc := belowTrans acc hb2 (Nat.le_refl _)
    clear hb2
    go_wp2_with fail
    with_reducible refine (Hw.out _ hoa.at hob.at).mono ?_
    rintro e v3 ⟨pw, nw, cw, rfl, how, hb3⟩
    replace hoa := hoa.keep hb3
    replace hob := hob.keep hb3
    replace hov := hov.keep hb3
    replace acc := belowTrans acc hb3 (Nat.le_refl _)
    clear hb3
    go_wp2_with fail
    with_reducible refine (Hg.out _ hoa.at hob.at).mono ?_
    rintro e v4 ⟨rfl, hb4⟩
    replace hoa := hoa.keep hb4
    replace hob := hob.keep hb4
    replace hov := hov.keep hb4
    replace how := how.keep hb4
    replace acc := belowTrans acc hb4 (Nat.le_refl _)
    clear hb4
    go_wp2_with fail
    with_reducible refine (Hi.out _ hoa.at hob.at).mono ?_
    rintro e v5 ⟨rfl, hb5⟩
    replace hoa := hoa.keep hb5
    replace hob := hob.keep hb5
    replace hov := hov.keep hb5
    replace how := how.keep hb5
    replace acc := belowTrans acc hb5 (Nat.le_refl _)
    clear hb5
    go_wp2_with fail
    with_reducible refine (Hc.out _ hoa.at hob.at).mono ?_
    rintro e v6 ⟨rfl, hb6⟩
    replace hoa := hoa.keep hb6
    replace hob := hob.keep hb6
    replace hov := hov.keep hb6
    replace how := how.keep hb6
    replace acc := belowTrans acc hb6 (Nat.le_refl _)
    clear hb6
    clear Hv Hw Hg Hi Hc
    have hc := pSame_any _ _ _ _ _ _ _ _ _ hov.at how.at
    rw [decide_eq_true rfl] at hc
    have Hc := Lib.hid hc; clear hc
    go_wp2_with fail
    with_reducible refine (Hc.out).mono ?_
    rintro e v7 ⟨rfl, hb7⟩
    replace hoa := hoa.keep hb7
    replace hob := hob.keep hb7
    replace hov := hov.keep hb7
    replace how := how.keep hb7
    replace acc := belowTrans acc hb7 (Nat.le_refl _)
    clear hb7
    clear Hc
    clear hov
    clear how
    clear hoa
    clear hob
    go_wp2_with fail
    with_reducible refine (Hf.out _ acc).mono ?_
    rintro e v8 ⟨pc, nc, cc, cs_, rfl, hoc, hnc, hb8⟩
    replace acc := belowTrans acc hb8 (Nat.le_refl _)
    clear hb8
    clear Hf hnc
    have hi := fun W h => impl_CountFallPlays pc nc cc cs_ W h
    have hs := fun W h => spec_CountFallPlays pc nc cc cs_ W h
    have hfl := fun W h => impl_FallsOf pc nc cc cs_ W h
    have hgr := fun k W h => impl_FallGrain pc nc cc cs_ k W h
    rcases plays_cases cs_ with hm | ⟨P, F, S, hm, hP, hfo, hf24, hS0, hSb, hPe, hPn, hfall⟩
    · simp only [hm] at hi hs
      clear hfl hgr
      have Hi := Lib.hid hi; clear hi
      have Hs := Lib.hid hs; clear hs
      go_wp2_with fail
      with_reducible refine (Hi.out _ hoc.at).mono ?_
      rintro e v9 ⟨rfl, hb9⟩
      replace hoc := hoc.keep hb9
      replace acc := belowTrans acc hb9 (Nat.le_refl _)
      clear hb9
      go_wp2_with fail
      with_reducible refine (Hs.out _ hoc.at).mono ?_
      rintro e v10 ⟨rfl, hb10⟩
      replace hoc := hoc.keep hb10
      replace acc := belowTrans acc hb10 (Nat.le_refl _)
      clear hb10
      go_wp2
      go_ret
      exact ⟨rfl, acc⟩
    · simp only [hm] at hi hs
      simp only [hfo] at hfl
      have hPP : (((P : Nat) : Int) != ((P : Nat) : Int)) = false := by simp
      clear hm hfo
      have Hi := Lib.hid hi; clear hi
      have Hs := Lib.hid hs; clear hs
      have Hfl := Lib.hid hfl; clear hfl
      have Hgr := Lib.hid hgr; clear hgr
      have Hf24 := Lib.hid hf24; clear hf24
      have HS0 := Lib.hid hS0; clear hS0
      have HP := Lib.hid hP; clear hP
      have HPe := Lib.hid hPe; clear hPe
      have HN := Lib.hid hPn; clear hPn
      have HB := Lib.hid hSb; clear hSb
      have HA := Lib.hid hfall; clear hfall
      go_wp2_with fail
      with_reducible refine (Hi.out _ hoc.at).mono ?_
      rintro e v9 ⟨rfl, hb9⟩
      replace hoc := hoc.keep hb9
      replace acc := belowTrans acc hb9 (Nat.le_refl _)
      clear hb9
      go_wp2_with fail
      with_reducible refine (Hs.out _ hoc.at).mono ?_
      rintro e v10 ⟨rfl, hb10⟩
      replace hoc := hoc.keep hb10
      replace acc := belowTrans acc hb10 (Nat.le_refl _)
      clear hb10
      go_wp2_with fail
      with_reducible refine (Hfl.out _ hoc.at).mono ?_
      rintro e v11 ⟨pf, nf, cf, rfl, hof, hb11⟩
      replace hoc := hoc.keep hb11
      replace acc := belowTrans acc hb11 (Nat.le_refl _)
      clear hb11
      clear Hi Hs Hfl
      have hlf := hof.length
      have hnf8 : (nf : Int) ≤ 24 := by have := Hf24.out; omega
      have HLF := Lib.hid hlf; clear hlf Hf24
      obtain ⟨wo, hwo⟩ : ∃ wo : World, wo = v11 := ⟨_, rfl⟩
      subst hwo
      go_wp2_with fail
      go_loopw [31, 194] (fun s i wr => ∃ j : Nat, j ≤ nf ∧ i = .int .i64 j ∧ s = .int .i64 ((S j : Nat) : Int) ∧ Below w.heap.size w wr ∧ Below wo.heap.size wo wr) (fun _ i _ => nf - (intOf i).toNat)
      case atStart => exact ⟨0, Nat.zero_le _, rfl, by rw [HS0.out]; rfl, acc, Below.refl _ _⟩
      case round =>
        obtain ⟨j, hj, rfl, rfl, hbw, hbo⟩ := hrel
        by_cases hlt : j < nf
        · skip
          replace hoc := hoc.keep hbo
          replace hof := hof.keep hbo
          obtain ⟨b3, o3, rfl, hbl3, hc3⟩ := hof.at.cell j hlt
          have hck3 := hc3 j hlt
          obtain ⟨kk, hk1, hk2, yy, hk3, p, hp, hp9, hSs⟩ := HA.out j (by rw [HLF.out]; exact hlt)
          have hs9 := HB.out (j + 1) (by rw [HLF.out]; omega)
          rw [hk1] at hck3
          have hgk := Hgr.out (kk : Int)
          simp only [hk3] at hgk
          have hcp := fun W a n c h => impl_CountFallPlays a n c yy W h
          simp only [hp] at hcp
          have hkk8 : (kk : Int) ≤ 24 := by omega
          have hsj : ((S (j + 1) : Nat) : Int) = ((S j : Nat) : Int) + ((p : Nat) : Int) := by omega
          have hsj1 : ((S j : Nat) : Int) + ((p : Nat) : Int) ≤ 1000000000 := by omega
          have hsj2 : ((S j : Nat) : Int) ≤ 1000000000 := by omega
          have hsj3 : ((p : Nat) : Int) ≤ 1000000000 := by omega
          clear hc3 hbl3 hk1 hk3 hp hSs hs9 hp9
          have HSJ := Lib.hid hsj; clear hsj
          have Hgk := Lib.hid hgk; clear hgk
          have HCP := Lib.hid hcp; clear hcp
          go_wp2_with fail
          with_reducible refine (Hgk.out _ hoc.at).mono ?_
          rintro e v12 ⟨py, ny, cy, rfl, hoy, hb12⟩
          replace hoc := hoc.keep hb12
          replace hof := hof.keep hb12
          replace hbw := belowTrans hbw hb12 (Nat.le_refl _)
          replace hbo := belowTrans hbo hb12 (Nat.le_refl _)
          clear hb12
          go_wp2_with fail
          with_reducible refine (HCP.out _ _ _ _ hoy.at).mono ?_
          rintro e v13 ⟨rfl, hb13⟩
          replace hoc := hoc.keep hb13
          replace hof := hof.keep hb13
          replace hoy := hoy.keep hb13
          replace hbw := belowTrans hbw hb13 (Nat.le_refl _)
          replace hbo := belowTrans hbo hb13 (Nat.le_refl _)
          clear hb13
          go_wp2
          go_roundw
          case rel => exact ⟨j + 1, by omega, by go_num, valI (by rw [HSJ.out]), hbw, hbo⟩
          case measure => simp [intOf] <;> omega
        · obtain rfl : nf = j := by omega
          have hlf := HLF.out
          by_cases h0 : nf = 0
          · subst h0
            have hp1 : ((P : Nat) : Int) = 1 := by have := HPe.out (by omega); omega
            have hz := HS0.out
            have e1 : (((P : Nat) : Int) == ((S 0 : Nat) : Int)) = false := by rw [hp1, hz]; rfl
            have e2 : (((P : Nat) : Int) == 1) = true := by rw [hp1]; rfl
            have e3 : (((0 : Nat) : Int) == 0) = true := rfl
            clear hp1 hz
            go_wp2
            go_ret
            exact ⟨rfl, hbw⟩
          · have hp1 : ((P : Nat) : Int) = ((S nf : Nat) : Int) := by have := HN.out (by omega); rw [hlf] at this; omega
            have e1 : (((P : Nat) : Int) == ((S nf : Nat) : Int)) = true := by rw [hp1]; simp
            clear hp1
            go_wp2
            go_ret
            exact ⟨rfl, hbw⟩
  · simp only [e1] at hv hw
    simp only [e2] at hg hi
    simp only [e3] at hc
    simp only [e4] at hx
    simp only [e5] at hy
    clear e1 e2 e3 e4 e5
    have hsx := fun a n c W h (hn : n ≤ 1000) => pSumV_any a n c X W h hbx hn
    have hsy := fun a n c W h (hn : n ≤ 1000) => pSumV_any a n c Y W h hby hn
    rw [hsum] at hsx
    clear hsum hbx hby
    generalize V.sum = T at hg hi hsx hV0 hV1
    generalize Y.sum = T2 at hsx hsy hY0 hY1
    have hTT : (T != T) = false := by simp
    have hT2 : ((T2 + T) != (T2 + T)) = false := by simp
    have Hv := Lib.hid hv; clear hv
    have Hw := Lib.hid hw; clear hw
    have Hg := Lib.hid hg; clear hg
    have Hi := Lib.hid hi; clear hi
    have Hc := Lib.hid hc; clear hc
    have HX := Lib.hid hx; clear hx
    have HY := Lib.hid hy; clear hy
    have HSX := Lib.hid hsx; clear hsx
    have HSY := Lib.hid hsy; clear hsy
    have HCN := Lib.hid hcnt; clear hcnt
    have HLX := Lib.hid hlx; clear hlx
    have HLY := Lib.hid hly; clear hly
    have HLV := Lib.hid hlv; clear hlv
    go_wp2_with fail
    with_reducible refine (Hv.out _ hoa.at hob.at).mono ?_
    rintro e v2 ⟨pv, nv, cv, rfl, hov, hb2⟩
    replace hoa := hoa.keep hb2
    replace hob := hob.keep hb2
    replace acc := belowTrans acc hb2 (Nat.le_refl _)
    clear hb2
    go_wp2_with fail
    with_reducible refine (Hw.out _ hoa.at hob.at).mono ?_
    rintro e v3 ⟨pw, nw, cw, rfl, how, hb3⟩
    replace hoa := hoa.keep hb3
    replace hob := hob.keep hb3
    replace hov := hov.keep hb3
    replace acc := belowTrans acc hb3 (Nat.le_refl _)
    clear hb3
    go_wp2_with fail
    with_reducible refine (Hg.out _ hoa.at hob.at).mono ?_
    rintro e v4 ⟨rfl, hb4⟩
    replace hoa := hoa.keep hb4
    replace hob := hob.keep hb4
    replace hov := hov.keep hb4
    replace how := how.keep hb4
    replace acc := belowTrans acc hb4 (Nat.le_refl _)
    clear hb4
    go_wp2_with fail
    with_reducible refine (Hi.out _ hoa.at hob.at).mono ?_
    rintro e v5 ⟨rfl, hb5⟩
    replace hoa := hoa.keep hb5
    replace hob := hob.keep hb5
    replace hov := hov.keep hb5
    replace how := how.keep hb5
    replace acc := belowTrans acc hb5 (Nat.le_refl _)
    clear hb5
    go_wp2_with fail
    with_reducible refine (Hc.out _ hoa.at hob.at).mono ?_
    rintro e v6 ⟨rfl, hb6⟩
    replace hoa := hoa.keep hb6
    replace hob := hob.keep hb6
    replace hov := hov.keep hb6
    replace how := how.keep hb6
    replace acc := belowTrans acc hb6 (Nat.le_refl _)
    clear hb6
    clear Hv Hw Hg Hi Hc
    have hc := pSame_any _ _ _ _ _ _ _ _ _ hov.at how.at
    rw [decide_eq_true rfl] at hc
    have Hc := Lib.hid hc; clear hc
    go_wp2_with fail
    with_reducible refine (Hc.out).mono ?_
    rintro e v7 ⟨rfl, hb7⟩
    replace hoa := hoa.keep hb7
    replace hob := hob.keep hb7
    replace hov := hov.keep hb7
    replace how := how.keep hb7
    replace acc := belowTrans acc hb7 (Nat.le_refl _)
    clear hb7
    clear Hc
    clear how
    go_wp2_with fail
    with_reducible refine (HX.out _ hoa.at).mono ?_
    rintro e v8 ⟨px, nx, cx, rfl, hox, hb8⟩
    replace hoa := hoa.keep hb8
    replace hob := hob.keep hb8
    replace hov := hov.keep hb8
    replace acc := belowTrans acc hb8 (Nat.le_refl _)
    clear hb8
    go_wp2_with fail
    with_reducible refine (HY.out _ hob.at).mono ?_
    rintro e v9 ⟨py, ny, cy, rfl, hoy, hb9⟩
    replace hoa := hoa.keep hb9
    replace hob := hob.keep hb9
    replace hov := hov.keep hb9
    replace hox := hox.keep hb9
    replace acc := belowTrans acc hb9 (Nat.le_refl _)
    clear hb9
    clear hoa
    clear hob
    clear HX HY
    have hlx := hox.length
    have hly := hoy.length
    have hlv := hov.length
    have hnx : nx ≤ 24 := by have := HLX.out; omega
    have hny : ny ≤ 24 := by have := HLY.out; omega
    have hnv : nv ≤ 24 := by have := HLV.out; omega
    clear HLX HLY HLV
    have HLX := Lib.hid hlx; clear hlx
    have HLY := Lib.hid hly; clear hly
    have HLV := Lib.hid hlv; clear hlv
    have hnx1 : nx ≤ 1000 := by omega
    have hny1 : ny ≤ 1000 := by omega
    have hnx8 : (nx : Int) ≤ 24 := by omega
    have hny8 : (ny : Int) ≤ 24 := by omega
    have hnv8 : (nv : Int) ≤ 24 := by omega
    go_wp2_with fail
    with_reducible refine (HSX.out _ _ _ _ hox.at hnx1).mono ?_
    rintro e w' ⟨rfl, rfl⟩
    go_wp2_with fail
    with_reducible refine (HSY.out _ _ _ _ hoy.at hny1).mono ?_
    rintro e w' ⟨rfl, rfl⟩
    clear HSX HSY
    obtain ⟨wo, hwo⟩ : ∃ wo : World, wo = v9 := ⟨_, rfl⟩
    subst hwo
    go_wp2_with fail
    go_loopw [136] (fun i wr => ∃ j : Nat, j ≤ nx ∧ i = .int .i64 j ∧ Below w.heap.size w wr ∧ Below wo.heap.size wo wr) (fun i _ => nx - (intOf i).toNat)
    case atStart => exact ⟨0, Nat.zero_le _, rfl, acc, Below.refl _ _⟩
    case round =>
      obtain ⟨j, hj, rfl, hbw, hbo⟩ := hrel
      by_cases hlt : j < nx
      · skip
        replace hov := hov.keep hbo
        replace hox := hox.keep hbo
        replace hoy := hoy.keep hbo
        obtain ⟨b2, o2, rfl, hbl2, hc2⟩ := hox.at.cell j hlt
        have hck2 := hc2 j hlt
        obtain ⟨hcx, hp0, hp1, hq0, hq1⟩ := HCN.out j
        rw [hcx] at hck2
        clear hc2 hbl2 hcx hTT hT2
        by_cases h1 : j < nv
        · obtain ⟨b3, o3, rfl, hbl3, hc3⟩ := hov.at.cell j h1
          have hck3 := hc3 j h1
          clear hc3 hbl3
          generalize V.getD j 0 = p at hck2 hck3 hp0 hp1
          by_cases h2 : j < ny
          · obtain ⟨b4, o4, rfl, hbl4, hc4⟩ := hoy.at.cell j h2
            have hck4 := hc4 j h2
            clear hc4 hbl4
            generalize Y.getD j 0 = q at hck2 hck4 hq0 hq1
            have hpq : ((p + q) != (p + q)) = false := by simp
            go_wp2
            go_roundw
            case rel => exact ⟨j + 1, by omega, by go_num, hbw, hbo⟩
            case measure => simp [intOf] <;> omega
          · rw [getD_past (xs := Y) (by rw [HLY.out]; omega), Int.add_zero] at hck2
            have hpq : (p != p) = false := by simp
            go_wp2
            go_roundw
            case rel => exact ⟨j + 1, by omega, by go_num, hbw, hbo⟩
            case measure => simp [intOf] <;> omega
        · rw [getD_past (xs := V) (by rw [HLV.out]; omega), Int.zero_add] at hck2
          by_cases h2 : j < ny
          · obtain ⟨b4, o4, rfl, hbl4, hc4⟩ := hoy.at.cell j h2
            have hck4 := hc4 j h2
            clear hc4 hbl4
            generalize Y.getD j 0 = q at hck2 hck4 hq0 hq1
            have hpq : (q != q) = false := by simp
            go_wp2
            go_roundw
            case rel => exact ⟨j + 1, by omega, by go_num, hbw, hbo⟩
            case measure => simp [intOf] <;> omega
          · rw [getD_past (xs := Y) (by rw [HLY.out]; omega)] at hck2
            go_wp2
            go_roundw
            case rel => exact ⟨j + 1, by omega, by go_num, hbw, hbo⟩
            case measure => simp [intOf] <;> omega
      · skip
        replace hov := hov.keep hbo
        replace hox := hox.keep hbo
        replace hoy := hoy.keep hbo
        clear hbo
        have acc := hbw
        clear hbw hTT hT2
        clear hov
        clear hox
        clear hoy
        go_wp2_with fail
        with_reducible refine (Hf.out _ acc).mono ?_
        rintro e v10 ⟨pc, nc, cc, cs_, rfl, hoc, hnc, hb10⟩
        replace acc := belowTrans acc hb10 (Nat.le_refl _)
        clear hb10
        clear Hf hnc
        have hi := fun W h => impl_CountFallPlays pc nc cc cs_ W h
        have hs := fun W h => spec_CountFallPlays pc nc cc cs_ W h
        have hfl := fun W h => impl_FallsOf pc nc cc cs_ W h
        have hgr := fun k W h => impl_FallGrain pc nc cc cs_ k W h
        rcases plays_cases cs_ with hm | ⟨P, F, S, hm, hP, hfo, hf24, hS0, hSb, hPe, hPn, hfall⟩
        · simp only [hm] at hi hs
          clear hfl hgr
          have Hi := Lib.hid hi; clear hi
          have Hs := Lib.hid hs; clear hs
          go_wp2_with fail
          with_reducible refine (Hi.out _ hoc.at).mono ?_
          rintro e v11 ⟨rfl, hb11⟩
          replace hoc := hoc.keep hb11
          replace acc := belowTrans acc hb11 (Nat.le_refl _)
          clear hb11
          go_wp2_with fail
          with_reducible refine (Hs.out _ hoc.at).mono ?_
          rintro e v12 ⟨rfl, hb12⟩
          replace hoc := hoc.keep hb12
          replace acc := belowTrans acc hb12 (Nat.le_refl _)
          clear hb12
          go_wp2
          go_ret
          exact ⟨rfl, acc⟩
        · simp only [hm] at hi hs
          simp only [hfo] at hfl
          have hPP : (((P : Nat) : Int) != ((P : Nat) : Int)) = false := by simp
          clear hm hfo
          have Hi := Lib.hid hi; clear hi
          have Hs := Lib.hid hs; clear hs
          have Hfl := Lib.hid hfl; clear hfl
          have Hgr := Lib.hid hgr; clear hgr
          have Hf24 := Lib.hid hf24; clear hf24
          have HS0 := Lib.hid hS0; clear hS0
          have HP := Lib.hid hP; clear hP
          have HPe := Lib.hid hPe; clear hPe
          have HN := Lib.hid hPn; clear hPn
          have HB := Lib.hid hSb; clear hSb
          have HA := Lib.hid hfall; clear hfall
          go_wp2_with fail
          with_reducible refine (Hi.out _ hoc.at).mono ?_
          rintro e v11 ⟨rfl, hb11⟩
          replace hoc := hoc.keep hb11
          replace acc := belowTrans acc hb11 (Nat.le_refl _)
          clear hb11
          go_wp2_with fail
          with_reducible refine (Hs.out _ hoc.at).mono ?_
          rintro e v12 ⟨rfl, hb12⟩
          replace hoc := hoc.keep hb12
          replace acc := belowTrans acc hb12 (Nat.le_refl _)
          clear hb12
          go_wp2_with fail
          with_reducible refine (Hfl.out _ hoc.at).mono ?_
          rintro e v13 ⟨pf, nf, cf, rfl, hof, hb13⟩
          replace hoc := hoc.keep hb13
          replace acc := belowTrans acc hb13 (Nat.le_refl _)
          clear hb13
          clear Hi Hs Hfl
          have hlf := hof.length
          have hnf8 : (nf : Int) ≤ 24 := by have := Hf24.out; omega
          have HLF := Lib.hid hlf; clear hlf Hf24
          obtain ⟨wo, hwo⟩ : ∃ wo : World, wo = v13 := ⟨_, rfl⟩
          subst hwo
          go_wp2_with fail
          go_loopw [31, 194] (fun s i wr => ∃ j : Nat, j ≤ nf ∧ i = .int .i64 j ∧ s = .int .i64 ((S j : Nat) : Int) ∧ Below w.heap.size w wr ∧ Below wo.heap.size wo wr) (fun _ i _ => nf - (intOf i).toNat)
          case atStart => exact ⟨0, Nat.zero_le _, rfl, by rw [HS0.out]; rfl, acc, Below.refl _ _⟩
          case round =>
            obtain ⟨j, hj, rfl, rfl, hbw, hbo⟩ := hrel
            by_cases hlt : j < nf
            · skip
              replace hoc := hoc.keep hbo
              replace hof := hof.keep hbo
              obtain ⟨b3, o3, rfl, hbl3, hc3⟩ := hof.at.cell j hlt
              have hck3 := hc3 j hlt
              obtain ⟨kk, hk1, hk2, yy, hk3, p, hp, hp9, hSs⟩ := HA.out j (by rw [HLF.out]; exact hlt)
              have hs9 := HB.out (j + 1) (by rw [HLF.out]; omega)
              rw [hk1] at hck3
              have hgk := Hgr.out (kk : Int)
              simp only [hk3] at hgk
              have hcp := fun W a n c h => impl_CountFallPlays a n c yy W h
              simp only [hp] at hcp
              have hkk8 : (kk : Int) ≤ 24 := by omega
              have hsj : ((S (j + 1) : Nat) : Int) = ((S j : Nat) : Int) + ((p : Nat) : Int) := by omega
              have hsj1 : ((S j : Nat) : Int) + ((p : Nat) : Int) ≤ 1000000000 := by omega
              have hsj2 : ((S j : Nat) : Int) ≤ 1000000000 := by omega
              have hsj3 : ((p : Nat) : Int) ≤ 1000000000 := by omega
              clear hc3 hbl3 hk1 hk3 hp hSs hs9 hp9
              have HSJ := Lib.hid hsj; clear hsj
              have Hgk := Lib.hid hgk; clear hgk
              have HCP := Lib.hid hcp; clear hcp
              go_wp2_with fail
              with_reducible refine (Hgk.out _ hoc.at).mono ?_
              rintro e v14 ⟨py, ny, cy, rfl, hoy, hb14⟩
              replace hoc := hoc.keep hb14
              replace hof := hof.keep hb14
              replace hbw := belowTrans hbw hb14 (Nat.le_refl _)
              replace hbo := belowTrans hbo hb14 (Nat.le_refl _)
              clear hb14
              go_wp2_with fail
              with_reducible refine (HCP.out _ _ _ _ hoy.at).mono ?_
              rintro e v15 ⟨rfl, hb15⟩
              replace hoc := hoc.keep hb15
              replace hof := hof.keep hb15
              replace hoy := hoy.keep hb15
              replace hbw := belowTrans hbw hb15 (Nat.le_refl _)
              replace hbo := belowTrans hbo hb15 (Nat.le_refl _)
              clear hb15
              go_wp2
              go_roundw
              case rel => exact ⟨j + 1, by omega, by go_num, valI (by rw [HSJ.out]), hbw, hbo⟩
              case measure => simp [intOf] <;> omega
            · obtain rfl : nf = j := by omega
              have hlf := HLF.out
              by_cases h0 : nf = 0
              · subst h0
                have hp1 : ((P : Nat) : Int) = 1 := by have := HPe.out (by omega); omega
                have hz := HS0.out
                have e1 : (((P : Nat) : Int) == ((S 0 : Nat) : Int)) = false := by rw [hp1, hz]; rfl
                have e2 : (((P : Nat) : Int) == 1) = true := by rw [hp1]; rfl
                have e3 : (((0 : Nat) : Int) == 0) = true := rfl
                clear hp1 hz
                go_wp2
                go_ret
                exact ⟨rfl, hbw⟩
              · have hp1 : ((P : Nat) : Int) = ((S nf : Nat) : Int) := by have := HN.out (by omega); rw [hlf] at this; omega
                have e1 : (((P : Nat) : Int) == ((S nf : Nat) : Int)) = true := by rw [hp1]; simp
                clear hp1
                go_wp2
                go_ret
                exact ⟨rfl, hbw⟩

/-- The door's own heap meets the condition. -/
theorem door_met (os : Os) (args : Array Value) : laidMetH Tryz.prog Rows.fnFallVectorsRow.laid ((World.doorLaid Tryz.prog 4000 os).forCall (fun _ _ => 0) ⟨#[], args, []⟩).memory :=
  laidMetH_of_parts3 (fuel := 8) (laidMet_of_run' 8 (by kernel_rfl) (by kernel_rfl)) (by kernel_rfl) (by kernel_rfl)

/-! ### THE ROW's STEP: WRITTEN OUT: LEAVE IT -/
set_option maxRecDepth 100000 in
theorem lifted (os : Os) (started : os.Started) (H : Type) (enc : TypeId × Value → H) :
    ReturnsInHanded {} Tryz.checked os 3 .any (fun w args => (Rows.fnFallVectorsSpec.pre enc Tryz.prog Tryz.f3 [] false w args ∧ laidMetH Tryz.prog Rows.fnFallVectorsRow.laid w) ∧ sizedMet enc Tryz.prog Tryz.f3 (OpenSpec.ofChange Rows.fnFallVectorsSpec) false w args)
      (Rows.fnFallVectorsSpec.post enc Tryz.prog Tryz.f3 false true false false) := by
  refine returnsInHanded_of_change_and (C := Tryz.checked) (X := fun w _ => laidMetH Tryz.prog Rows.fnFallVectorsRow.laid w) (fun _ _ _ hh h => h.of_heap hh) own started (by kernel_rfl) Tryz.func3
    (ChangeSpec.witness_shaped (enc := enc) (C := Tryz.checked) (os := os) (X := fun w _ => laidMetH Tryz.prog Rows.fnFallVectorsRow.laid w) false (World.doorLaid Tryz.prog 4000 os) #[.slice none 0 0, .slice none 0 0] 8 rfl (World.shaped_of_RefB (by kernel_rfl) (by kernel_rfl)) (by kernel_rfl) (by kernel_rfl) (by kernel_rfl) (door_met os _)) ?_
  intro W base args ds gs before hval0 hW _ _ hL _
  have hval : ∀ (j : Nat) t v, Tryz.f3.params[j]? = some t → args[j]? = some v → Value.okWide Tryz.prog W .any base t v := hval0
  have hW' := hW
  obtain ⟨p, q, hA0, hV, rfl, hfz, hnd⟩ := hW
  have hA : DataW.TrodAll enc Tryz.prog W 0 (fun _ => true) true Tryz.f3.params.toList args.toList ds p := hA0
  rw [Tryz.params3] at hA hval
  obtain ⟨v0, vs0, d0, ds0, p0, q0, hargs, rfl, rfl, h0, r0⟩ := trodAll_cons hA
  obtain ⟨v1, vs1, d1, ds1, p1, q1, rfl, rfl, rfl, h1, r1⟩ := trodAll_cons r0
  obtain ⟨rfl, rfl, rfl⟩ := trodAll_nil r1
  obtain rfl : args = #[v0, v1] := by cases args; simp_all
  obtain ⟨rfl, rfl⟩ := trodVars_none hV
  obtain ⟨a0, len0, cap0, rfl⟩ := okWide_slice Tryz.underlying22 (hval 0 22 v0 rfl rfl)
  have k0 := h0
  have lt0 : ∀ x ∈ p0, x.block < W.heap.size := by obtain ⟨m, hm⟩ := k0; exact DataW.trod_lt m _ _ _ hm
  obtain ⟨z0, w0⟩ : ∃ zs, IsRow .u8 W a0 len0 cap0 zs := by
    obtain ⟨fuel, hf⟩ := h0
    rcases open_ints Tryz.underlying22 Tryz.underlying5 (by kernel_rfl) hf with ⟨hcs, _⟩ | ⟨x, l, c, zs, hcs, _, hl, hm, hz, _, hcell, hwz⟩
    · simp [Value.cells] at hcs
      obtain ⟨rfl, rfl, rfl⟩ := hcs
      exact ⟨[], .inl ⟨rfl, rfl, rfl, rfl⟩⟩
    · simp [Value.cells] at hcs
      obtain ⟨rfl, rfl, rfl⟩ := hcs
      exact ⟨zs, .inr ⟨_, rfl, hl, hm, by simpa using hz, hcell, hwz⟩⟩
  obtain ⟨a1, len1, cap1, rfl⟩ := okWide_slice Tryz.underlying22 (hval 1 22 v1 rfl rfl)
  have k1 := h1
  have lt1 : ∀ x ∈ p1, x.block < W.heap.size := by obtain ⟨m, hm⟩ := k1; exact DataW.trod_lt m _ _ _ hm
  obtain ⟨z1, w1⟩ : ∃ zs, IsRow .u8 W a1 len1 cap1 zs := by
    obtain ⟨fuel, hf⟩ := h1
    rcases open_ints Tryz.underlying22 Tryz.underlying5 (by kernel_rfl) hf with ⟨hcs, _⟩ | ⟨x, l, c, zs, hcs, _, hl, hm, hz, _, hcell, hwz⟩
    · simp [Value.cells] at hcs
      obtain ⟨rfl, rfl, rfl⟩ := hcs
      exact ⟨[], .inl ⟨rfl, rfl, rfl, rfl⟩⟩
    · simp [Value.cells] at hcs
      obtain ⟨rfl, rfl, rfl⟩ := hcs
      exact ⟨zs, .inr ⟨_, rfl, hl, hm, by simpa using hz, hcell, hwz⟩⟩
  clear hA0 hval0
  refine (walk a0 len0 cap0 z0 a1 len1 cap1 z1 W w0 w1).mono fun e W' ⟨he, bel⟩ => ?_
  subst he
  exact ⟨_, rfl, _, _, _, [], _, [], hW', trodAll_mk1 (shut_bool Tryz.underlying4 _), (trodAll_cons_mk (Below.trod laidOut (by kernel_rfl) (of_decide_eq_true (by kernel_rfl)) k0 bel lt0) (trodAll_cons_mk (Below.trod laidOut (by kernel_rfl) (of_decide_eq_true (by kernel_rfl)) k1 bel lt1) trodAll_mk0)), rfl, bel.frame _, fun h => by cases h⟩

theorem closedFacts : joinedFacts Tryz.prog 3 Tryz.f3 Rows.fnFallVectorsSpec Rows.fnFallVectorsRow = true := by
  unfold joinedFacts
  rw [head_enter, head_lifts, head_make]
  kernel_rfl
theorem closedHere : joinedFacts Tryz.pinned.checked.prog 3 Tryz.f3 Rows.fnFallVectorsSpec Rows.fnFallVectorsRow = true := by
  rw [progEq]
  exact closedFacts
theorem over : Rows.fnFallVectorsRow.holds Tryz.pinned (OpenSpec.ofChange Rows.fnFallVectorsSpec) :=
  OpenClaim.holds_of_wide 3 Tryz.f3 rfl rfl rfl rfl rfl rfl rfl ⟨rfl, rfl, rfl, rfl, rfl⟩ rfl rfl rfl rfl rfl (by kernel_rfl) Tryz.func3 closedHere
    (of_decide_eq_true (by kernel_rfl)) (by unfold Func.isWrapper; first | (rw [if_pos (by decide +kernel)]; kernel_rfl) | (rw [if_neg (by decide +kernel)]; exact ⟨rfl, rfl⟩))
    (fun os started H enc _ => lifted os started H enc)

/-- the tied card -/
theorem proved : Rows.FnFallVectorsCardSaid :=
  Claim7.holds_tied_plain_at .later [] [.data, .data, .data] true (true, "2de39c05d9bd8cf3b94ae87fc90b4460e00f19db80ba31d5127a12d7276c2d3f") true
    over (fun _ h => by cases h) (by kernel_rfl) (fun _ h => by cases h) fnFallVectors_row_tie rfl ⟨rfl, rfl⟩ (by kernel_rfl) rfl
    (fun f fn hf hfn => by
      obtain rfl : f = 3 := Option.some.inj ((show Tryz.prog.funcNamed "loop.example/g01114/laws.FnFallVectors" = some 3 by kernel_rfl).symm.trans hf) |>.symm
      obtain rfl : fn = Tryz.f3 := (Option.some.inj (Tryz.func3.symm.trans hfn)).symm
      exact ⟨by kernel_rfl, fun j t ht => by
        rw [Tryz.params3] at ht
        have hm : t ∈ [22] := by simpa using Array.mem_of_getElem? ht
        have hall : ([22].all fun u => !Tryz.prog.wantsStandIn u) = true := by kernel_rfl
        exact (show Tryz.prog.wantsStandIn t = false by simpa using List.all_eq_true.1 hall t hm)⟩)
    (by kernel_rfl)
#print axioms proved
end Go.Proofs.YtdfmljkjidepeaaGreatDoor.fnFallVectors
