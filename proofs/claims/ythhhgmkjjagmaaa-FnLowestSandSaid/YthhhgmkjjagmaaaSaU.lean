/- Chapter 6 by the program: levels, what is reached. No condition. -/
import Derived.Test.YthhhgmkjjagmaaaSaT
namespace Go.Proofs.Ythhhgmkjjagmaaa
open Go.RowKit
set_option linter.unusedVariables false
set_option linter.unusedSimpArgs false
set_option maxRecDepth 20000

set_option maxHeartbeats 6400000 in
theorem levelBehind_any (ao : Option Addr) (n cap : Nat) (xss : List (List Int)) (w : World) (h : RowsAt w ao n cap xss) (hG : ∀ x ∈ xss, Grains x) (hn : n ≤ 400) :
    Calls Try.prog 71 #[.slice ao n cap] w fun e w' => ∃ a m c, e = .returned (.slice a m c) ∧ OwnRows w.heap.size w'.heap.size w' a m c (srt (once (xss.flatMap behL))) ∧ Below w.heap.size w w' := by
  have hl := h.length
  have hfl := flatMap_behL_len hG
  have hnI : (n : Int) ≤ 400 := by omega
  have Hl := Lib.hid hl; clear hl
  have HG := Lib.hid hG; clear hG
  have Hfl := Lib.hid hfl; clear hfl
  go_enter Try.func71, Try.ntmps71
  go_wp2_with fail
  go_loopw [3, 8] (fun v i wr => ∃ (j : Nat) (a : Option Addr) (p c : Nat) (vs : List Value), j ≤ n ∧ p ≤ 24 * j ∧ i = .int .i64 j ∧ v = .slice a p c ∧ Sp w.heap.size wr.heap.size w.heap.size wr.heap.size wr a p c vs ((xss.take j).flatMap behL) ∧ vs.Pairwise apart ∧ Below w.heap.size w wr) (fun _ i _ => n - (intOf i).toNat)
  case atStart => exact ⟨0, none, 0, 0, [], Nat.zero_le _, Nat.zero_le _, rfl, rfl, Sp.nil _ _ _ _ _, List.Pairwise.nil, Below.refl _ _⟩
  case round =>
    obtain ⟨j, a, p, c, vs, hj, hp, rfl, rfl, hv, hap, hb⟩ := hrel
    have hsz := hb.size
    by_cases hlt : j < n
    · obtain ⟨bl, oo, rfl, hbl, hc⟩ := (h.keep hb).cell j hlt
      obtain ⟨a3, m3, c3, hck, hi3⟩ := hc j hlt
      clear hc
      have hg3 := HG.out _ (getD_memR hlt Hl.out)
      have e3 := flatMap_snocX behL hlt Hl.out
      generalize xss.getD j [] = x at *
      have hwl := behL_length hg3
      have hcon := listsBehind_any a3 m3 c3 x wr hi3 hg3
      generalize behL x = P at *
      have Hcon := Lib.hid hcon; clear hcon
      have E3 := Lib.hid e3; clear e3
      have Hg3 := Lib.hid hg3; clear hg3
      have Hap := Lib.hid hap; clear hap
      go_wp2_with fail
      with_reducible refine (Hcon.out).mono ?_
      rintro e w2 ⟨a2, n2, c2, rfl, ho2, hb2⟩
      obtain ⟨us, hu, hup⟩ := ho2.sp
      have hn2 := hu.length
      have hs2 := hb2.size
      have hv2 := (hv.keep hb2).mono (Nat.le_refl _) hs2 (Nat.le_refl _) hs2
      have hap2 := apart_append hv.rows Hap.out hu.rows hup (Nat.le_refl _)
      have hur := hu.rows.mono (show w.heap.size ≤ wr.heap.size by omega) (Nat.le_refl _)
      have hbw2 := belowTrans hb hb2 (Nat.le_refl _)
      clear hv hb hb2 ho2
      have Hn2 := Lib.hid hn2; clear hn2
      have Hap2 := Lib.hid hap2; clear hap2
      go_wp2_with (at_builtin; refine wpList_catSp w2 rfl _ _ rfl w.heap.size w2.heap.size w.heap.size w2.heap.size a p c vs _ rfl hv2 a2 n2 c2 us P rfl hu.spine.at hur (by have := Hn2.out; omega) hbw2.size ?_)
      intro a4 c4 w4 hv4 hc4
      have hs4 := hc4.size
      have hb4 := hbw2.trans (hv2.below hc4 hbw2.size)
      have hv4' := hv4.mono (Nat.le_refl _) (Nat.le_refl _) (Nat.le_refl _) hs4
      clear hv2 hv4 hc4 hbw2 hu hur
      go_wp2
      go_roundw
      case rel => exact ⟨j + 1, a4, p + n2, c4, _, by omega, by have := Hn2.out; omega, by go_num, rfl, by rw [E3.out]; exact hv4', Hap2.out, hb4⟩
      case measure => simp [intOf]; omega
    · obtain rfl : n = j := by omega
      rw [take_allR Hl.out] at hv
      have hown := hv.own hap (Nat.le_refl _) (Nat.le_refl _) (Nat.le_refl _) (Nat.le_refl _)
      have hgf := greatestFirst_any w.heap.size wr.heap.size a p c (xss.flatMap behL) wr hown (by omega) hsz
      have hcmp := compX_srt (xss.flatMap behL)
      have hcon := fun W hW => compact_any w.heap.size wr.heap.size a p c (srt (xss.flatMap behL)) W hW (by omega)
      rw [hcmp] at hcon
      unfold equalF at hcon
      clear hv hap hown
      have Hgf := Lib.hid hgf; clear hgf
      have Hcmp := Lib.hid hcmp; clear hcmp
      have Hcon := Lib.hid hcon; clear hcon
      go_wp2_with fail
      with_reducible refine (Hgf.out).mono ?_
      rintro e w2 ⟨rfl, ho2, hb2⟩
      have hsz2 := hb2.size
      have hcon2 := Hcon.out w2 ho2 (by omega)
      have Hcon2 := Lib.hid hcon2; clear hcon2
      go_wp2_with fail
      with_reducible refine (Hcon2.out).mono ?_
      rintro e w3 ⟨m, rfl, ho3, hb3⟩
      have hsz3 := hb3.size
      have hbf := (hb.trans hb2).trans hb3
      go_wp2
      go_ret
      exact ⟨_, _, _, rfl, ho3.mono (Nat.le_refl _) (by omega), hbf⟩

/-! ### Whether some list is no sand -/
theorem isNoSand_any (ao : Option Addr) (n cap : Nat) (xs : List Int) (w : World) (h : IntsAt w ao n cap xs) :
    Calls Try.prog 73 #[.slice ao n cap] w fun e w' => e = .returned (.bool (!sandB xs)) ∧ Below w.heap.size w w' := by
  have hcon := isSand_any ao n cap xs w h
  have Hcon := Lib.hid hcon; clear hcon
  go_enter Try.func73, Try.ntmps73
  go_wp2_with fail
  with_reducible refine (Hcon.out).mono ?_
  rintro e w' ⟨rfl, rfl⟩
  go_wp2
  go_ret
  exact ⟨rfl, Below.refl _ _⟩
/-- slices.IndexFunc with a function that says yes or no of each list -/
theorem indexBy_any (f : Value) (P : List Int → Bool) (ao : Option Addr) (n cap : Nat) (xss : List (List Int)) (w : World) (h : RowsAt w ao n cap xss) (hn : n ≤ 4000)
    (fid : FuncId) (caps : Array Value) (hf : f = .func (.func fid) #[] caps)
    (hcon : ∀ a m c x W, Below w.heap.size w W → IntsAt W a m c x → Calls Try.prog fid (#[.slice a m c] ++ caps) W fun e w' => e = .returned (.bool (P x)) ∧ Below W.heap.size W w') (hfid : fid = 73 ∧ caps = #[] ∨ ∃ B, fid = 77 ∧ caps = #[.pointer (some ⟨B, 0, none⟩)]) :
    Calls Try.prog 90 #[.slice ao n cap, f] w fun e w' => ∃ r : Int, e = .returned (.int .i64 r) ∧ ((r = -1 ∧ ∀ x ∈ xss, P x = false) ∨ (0 ≤ r ∧ ∃ x ∈ xss, P x = true)) ∧ Below w.heap.size w w' := by
  have hl := h.length
  subst hf
  have Hl := Lib.hid hl; clear hl
  rcases hfid with ⟨rfl, rfl⟩ | ⟨B, rfl, rfl⟩
  all_goals
    simp only [Array.append_empty, List.push_toArray, List.nil_append, List.cons_append, Array.empty_append, List.append_toArray] at hcon
    have Hcon := Lib.hid hcon; clear hcon
    go_enter Try.func90, Try.ntmps90
    go_wp2
    go_loopw [8] (fun i wr => ∃ j : Nat, j ≤ n ∧ i = .int .i64 j ∧ Hid (∀ x ∈ xss.take j, P x = false) ∧ Below w.heap.size w wr) (fun i _ => n - (intOf i).toNat)
    case atStart => exact ⟨0, Nat.zero_le _, rfl, Lib.hid (by simp), Below.refl _ _⟩
    case round =>
      obtain ⟨j, hj, rfl, Hall, hb⟩ := hrel
      by_cases hlt : j < n
      · obtain ⟨b, oo, rfl, hbl, hc⟩ := (h.keep hb).cell j hlt
        obtain ⟨a3, m3, c3, hck, hi3⟩ := hc j hlt
        clear hc
        have hmx := getD_memR hlt Hl.out
        have htx := take_snocX hlt Hl.out
        generalize xss.getD j [] = x at *
        have hc2 := Hcon.out a3 m3 c3 x wr hb hi3
        cases hp : P x
        · rw [hp] at hc2
          have Hc2 := Lib.hid hc2; clear hc2
          have Hp := Lib.hid hp; clear hp
          have Hmx := Lib.hid hmx; clear hmx
          have Htx := Lib.hid htx; clear htx
          go_wp2_with fail
          with_reducible refine (Hc2.out).mono ?_
          rintro e w2 ⟨rfl, hb2⟩
          have hbf := belowTrans hb hb2 (Nat.le_refl _)
          go_wp2
          go_roundw
          case rel =>
            refine ⟨j + 1, by omega, by go_num, Lib.hid (fun y hy => ?_), hbf⟩
            rw [Htx.out] at hy
            rcases List.mem_append.1 hy with h' | h'
            · exact Hall.out y h'
            · rw [List.mem_singleton.1 h']; exact Hp.out
          case measure => simp [intOf]; omega
        · rw [hp] at hc2
          have Hc2 := Lib.hid hc2; clear hc2
          have Hp := Lib.hid hp; clear hp
          have Hmx := Lib.hid hmx; clear hmx
          have Htx := Lib.hid htx; clear htx
          go_wp2_with fail
          with_reducible refine (Hc2.out).mono ?_
          rintro e w2 ⟨rfl, hb2⟩
          have hbf := belowTrans hb hb2 (Nat.le_refl _)
          go_wp2
          go_ret
          exact ⟨_, rfl, .inr ⟨by omega, x, Hmx.out, Hp.out⟩, hbf⟩
      · obtain rfl : n = j := by omega
        rw [take_allR Hl.out] at Hall
        go_wp2
        go_ret
        exact ⟨_, rfl, .inl ⟨rfl, Hall.out⟩, hb⟩

theorem containsBad_any (ao : Option Addr) (n cap : Nat) (xss : List (List Int)) (w : World) (h : RowsAt w ao n cap xss) (hn : n ≤ 4000) :
    Calls Try.prog 72 #[.slice ao n cap, .func (.func 73) #[] #[]] w fun e w' => ∃ b : Bool, e = .returned (.bool b) ∧ Hid ((b = false ∧ ∀ x ∈ xss, Sand x) ∨ (b = true ∧ ∃ x ∈ xss, sandB x = false)) ∧ Below w.heap.size w w' := by
  have hcon := indexBy_any _ (fun x => !sandB x) ao n cap xss w h hn 73 #[] rfl (fun a m c x W hb hi => isNoSand_any a m c x W hi) (.inl ⟨rfl, rfl⟩)
  have Hcon := Lib.hid hcon; clear hcon
  go_enter Try.func72, Try.ntmps72
  go_wp2_with fail
  with_reducible refine (Hcon.out).mono ?_
  rintro e w1 ⟨r, rfl, hr, hb⟩
  rcases hr with ⟨rfl, hno⟩ | ⟨hr0, x, hx, hs⟩
  · have Hno := Lib.hid hno; clear hno
    go_wp2
    go_ret
    exact ⟨false, rfl, Lib.hid (.inl ⟨rfl, fun x hx => by
      have := Hno.out x hx
      cases hs : sandB x
      · rw [hs] at this; cases this
      · exact sand_iff.1 hs⟩), hb⟩
  · have Hx := Lib.hid hx; clear hx
    have Hs := Lib.hid hs; clear hs
    go_wp2
    go_ret
    exact ⟨true, by simp [hr0], Lib.hid (.inr ⟨rfl, x, Hx.out, by
      have := Hs.out
      cases hs : sandB x
      · rfl
      · rw [hs] at this; cases this⟩), hb⟩

set_option maxHeartbeats 12800000 in
theorem impl_ReachSand (ao : Option Addr) (n cap : Nat) (xs : List Int) (w : World) (h : IntsAt w ao n cap xs) :
    Calls Try.prog 31 #[.slice ao n cap] w fun e w' => ∃ ao' n' cap', e = .returned (.tuple #[.slice ao' n' cap', .bool (mReachSand xs).2]) ∧ OwnRows w.heap.size w'.heap.size w' ao' n' cap' (mReachSand xs).1 ∧ Below w.heap.size w w' := by
  cases hg : sandB xs
  · have hm := mReach_no1 hg
    have Hg := Lib.hid hg; clear hg
    have Hm := Lib.hid hm; clear hm
    go_enter Try.func31, Try.ntmps31
    go_wp2_with fail
    with_reducible refine (isSand_no _ _ _ _ _ h Hg.out).mono ?_
    rintro e w' ⟨rfl, rfl⟩
    go_wp2
    go_ret2
    rw [Hm.out]
    exact ⟨none, 0, 0, rfl, OwnRows.nil _ _ _, Below.refl _ _⟩
  have hS := sand_iff.1 hg
  have hlen := hS.grains.len
  have hl0 := h.length
  have hcon := copyOf_any ao n cap xs w h (by omega)
  have hG := hS.grains
  have Hg := Lib.hid hg; clear hg
  have Hl0 := Lib.hid hl0; clear hl0
  have Hcon := Lib.hid hcon; clear hcon
  have HG := Lib.hid hG; clear hG
  have HS := Lib.hid hS; clear hS
  go_enter Try.func31, Try.ntmps31
  go_wp2_with fail
  with_reducible refine (isSand_yes _ _ _ _ _ h HS.out).mono ?_
  rintro e w' ⟨rfl, rfl⟩
  go_wp2_with fail
  with_reducible refine (Hcon.out).mono ?_
  rintro e w1 ⟨a1, c1, rfl, ho1, hb1⟩
  have h1 := OwnRows.one ho1 w.heap.size (Nat.le_refl _) hb1.size (by omega)
  obtain ⟨vs1, hs1, hap1⟩ := h1.sp
  have hba := hb1.alloc hb1.size (.cells #[.slice a1 n c1] 24)
  have hs1' : Sp w.heap.size (w1.alloc (.cells #[.slice a1 n c1] 24)).heap.size w.heap.size (w1.alloc (.cells #[.slice a1 n c1] 24)).heap.size (w1.alloc (.cells #[.slice a1 n c1] 24)) (some ⟨w1.heap.size, 0, none⟩) 1 1 vs1 (lvS xs 0) := hs1.mono (Nat.le_refl _) (by simp) (Nat.le_refl _) (by simp)
  have hE0 : w.heap.size ≤ (w1.alloc (.cells #[.slice a1 n c1] 24)).heap.size := hba.size
  clear h1 hs1 ho1 hb1
  go_wp2_with fail
  go_loopg [4, 5] 580 (fun k v f wr => ∃ (t E : Nat) (a : Option Addr) (n c : Nat) (vs : List Value) (a2 : Option Addr) (n2 c2 : Nat) (ws : List Value), v = .slice a n c ∧ f = .slice a2 n2 c2 ∧ k + t = 580 ∧ Hid (∀ u, u < t → frS xs u ≠ []) ∧ w.heap.size ≤ E ∧ E ≤ wr.heap.size ∧
      Sp w.heap.size E w.heap.size E wr a n c vs (lvsS xs t) ∧ Hid (vs.Pairwise apart) ∧ Sp E wr.heap.size E wr.heap.size wr a2 n2 c2 ws (lvS xs t) ∧ Hid (ws.Pairwise apart) ∧ n2 ≤ 9600 ∧ Hid ((rsS xs t).length ≤ 400 ∧ ∀ x ∈ rsS xs t, Sand x) ∧ Below w.heap.size w wr)
  case atStart => exact ⟨0, w.heap.size, none, 0, 0, [], _, _, _, vs1, rfl, rfl, rfl, Lib.hid (fun u hu => absurd hu (Nat.not_lt_zero _)), Nat.le_refl _, hE0, Sp.nil _ _ _ _ _, Lib.hid List.Pairwise.nil, hs1', Lib.hid hap1, by omega, Lib.hid ⟨by simp [rsS], fun x hx => by simp [rsS] at hx⟩, hba⟩
  case round =>
    obtain ⟨t, E, a, n, c, vs, a2, n2, c2, ws, rfl, rfl, hk, Hno, hE1, hE2, hre, Hap, hlv, Hap2, h96, Hok, hb⟩ := hrel
    clear hs1' hba hap1 hE0
    have ht := some_level HG.out Hno.out
    have hn2 := hlv.length
    have hnl := hre.length
    rw [lvsS_len] at hnl
    have hn400 : n ≤ 400 := by rw [← hnl]; exact Hok.out.1
    by_cases hz : n2 = 0
    · have hnil : frS xs t = [] := lvS_nil.1 (List.eq_nil_of_length_eq_zero (by omega))
      have hend := good_end (xs := xs) (t := t) (by omega) hnil Hok.out.1 Hok.out.2
      have hok := good_ok (xs := xs) (t := t) (by omega) hnil Hok.out.1 Hok.out.2
      have hm := mReach_yes Hg.out hok
      have hown := hre.own Hap.out (Nat.le_refl _) (Nat.le_refl _) (Nat.le_refl _) (Nat.le_refl _)
      have hgf := greatestFirst_any w.heap.size E a n c _ wr hown (by omega) hb.size
      rw [lvsS_srt, ← hend] at hgf
      subst hz
      clear hlv hre hown
      have Hnil := Lib.hid hnil; clear hnil
      have Hend := Lib.hid hend; clear hend
      have Hn2 := Lib.hid hn2; clear hn2
      have Hk := Lib.hid hk; clear hk
      have Hgf := Lib.hid hgf; clear hgf
      have Hok := Lib.hid hok; clear hok
      have Hm := Lib.hid hm; clear hm
      have Hnl := Lib.hid hnl; clear hnl
      go_wp2_with fail
      with_reducible refine (Hgf.out).mono ?_
      rintro e w2 ⟨rfl, ho2, hb2⟩
      have hsz2 := hb2.size
      have hsz := hb.size
      go_wp2
      go_ret2
      rw [Hm.out]
      exact ⟨_, _, _, rfl, ho2.mono (Nat.le_refl _) (by omega), hb.trans hb2⟩
    · have hpos : (0 : Int) < n2 := by omega
      have hne : frS xs t ≠ [] := fun e => hz (by rw [← hn2]; unfold lvS; rw [e]; rfl)
      have hno2 : ∀ u, u < t + 1 → frS xs u ≠ [] := fun u hu => by
        by_cases e : u = t
        · subst e; exact hne
        · exact Hno.out u (by omega)
      have hFg : ∀ x ∈ lvS xs t, Grains x := fun x hx => (frS_good HG.out t (lvS_mem.1 hx)).1
      have hbad : (∃ x ∈ lvS xs t, sandB x = false) → mReachSand xs = ([], false) := fun ⟨x, hx, hs⟩ => mReach_no2 (bad_level HG.out (lvS_mem.1 hx) hs)
      have hlong : 400 < (rsS xs (t + 1)).length → mReachSand xs = ([], false) := fun hh => mReach_no2 (long_level (t := t + 1) (by omega) hh)
      have hgood : (rsS xs (t + 1)).length ≤ 400 → (∀ x ∈ lvS xs t, Sand x) → (rsS xs (t + 1)).length ≤ 400 ∧ ∀ x ∈ rsS xs (t + 1), Sand x := fun h1 h2 => ⟨h1, fun x hx => by
        rw [rsS_succ] at hx
        rcases List.mem_append.1 hx with h' | h'
        · exact Hok.out.2 x h'
        · exact h2 x (lvS_mem.2 h')⟩
      have hl1 := lvsS_len xs (t + 1)
      have hlv1 := lvsS_succ xs t
      have hls := lvS_succ xs t
      have hfm := flatMap_behL_len hFg
      have hol := once_len ((lvS xs t).flatMap behL)
      have hsz := hb.size
      have hap3 := apart_append hre.rows Hap.out hlv.rows Hap2.out (Nat.le_refl _)
      have hre1 : Sp w.heap.size E w.heap.size wr.heap.size wr a n c vs (lvsS xs t) := hre.mono (Nat.le_refl _) (Nat.le_refl _) (Nat.le_refl _) hE2
      have hlr := hlv.rows.mono (show w.heap.size ≤ E from hE1) (Nat.le_refl _)
      generalize hA : lvS xs t = A at *
      generalize hB1 : lvS xs (t + 1) = A1 at *
      generalize hRR : rsS xs (t + 1) = R1 at *
      generalize hVV : lvsS xs (t + 1) = V1 at *
      generalize hWW : lvsS xs t = V at *
      clear hre
      have Hk := Lib.hid hk; clear hk
      have Hne := Lib.hid hne; clear hne
      have Hno2 := Lib.hid hno2; clear hno2
      have HFg := Lib.hid hFg; clear hFg
      have Hbad := Lib.hid hbad; clear hbad
      have Hlong := Lib.hid hlong; clear hlong
      have Hgood := Lib.hid hgood; clear hgood
      have Hl1 := Lib.hid hl1; clear hl1
      have Hlv1 := Lib.hid hlv1; clear hlv1
      have Hls := Lib.hid hls; clear hls
      have Hfm := Lib.hid hfm; clear hfm
      have Hol := Lib.hid hol; clear hol
      have Hap3 := Lib.hid hap3; clear hap3
      have HA := Lib.hid hA; clear hA
      have HB1 := Lib.hid hB1; clear hB1
      have HRR := Lib.hid hRR; clear hRR
      have HVV := Lib.hid hVV; clear hVV
      have HWW := Lib.hid hWW; clear hWW
      have Hn2 := Lib.hid hn2; clear hn2
      have Hnl := Lib.hid hnl; clear hnl
      have Ht := Lib.hid ht; clear ht
      go_wp2_with (at_builtin; refine wpList_catSp wr rfl _ _ rfl w.heap.size E w.heap.size wr.heap.size a n c vs V rfl hre1 a2 n2 c2 ws A rfl hlv.spine.at hlr (by omega) hsz ?_)
      intro a4 c4 w4 hv4 hc4
      have hs4 := hc4.size
      have hb4 := hb.trans (hre1.below hc4 hsz)
      have hlv4 : Sp E wr.heap.size E wr.heap.size w4 a2 n2 c2 ws A := hlv.chgBy hre1.spine hc4 fun g hg h5 => by
        have := hre1.spine.2 g hg
        have := (hlv.spine.1.lt g h5).1
        omega
      rw [← Hlv1.out] at hv4
      have hvl := hv4.length
      rw [Hl1.out] at hvl
      clear hre1 hlr hlv hc4
      by_cases h400 : 400 < n + n2
      · have h4I : (400 : Int) < ((n + n2 : Nat) : Int) := by omega
        have h4J : (400 : Int) < (n : Int) + n2 := by omega
        have hm := Hlong.out (by omega)
        clear hv4 hlv4
        have Hm := Lib.hid hm; clear hm
        have Hvl := Lib.hid hvl; clear hvl
        go_wp2
        go_ret2
        rw [Hm.out]
        exact ⟨none, 0, 0, rfl, OwnRows.nil _ _ _, hb4⟩
      · have h4I : ¬ ((400 : Int) < ((n + n2 : Nat) : Int)) := by omega
        have h4J : ¬ ((400 : Int) < (n : Int) + n2) := by omega
        have hcb := containsBad_any a2 n2 c2 A w4 hlv4.at (by omega)
        have hcl := fun W hW => levelBehind_any a2 n2 c2 A W hW HFg.out (by omega)
        have Hcb := Lib.hid hcb; clear hcb
        have Hcl := Lib.hid hcl; clear hcl
        have Hvl := Lib.hid hvl; clear hvl
        go_wp2_with fail
        with_reducible refine (Hcb.out).mono ?_
        rintro e w5 ⟨bb, rfl, Hbb, hb5⟩
        cases bb
        · have hall : ∀ x ∈ A, Sand x := by
            rcases Hbb.out with ⟨_, h'⟩ | ⟨h', _⟩
            · exact h'
            · cases h'
          have hok2 := Hgood.out (by have := Hvl.out; omega) hall
          have hlv5 := hlv4.keep hb5
          have hcl5 := Hcl.out w5 hlv5.at
          rw [Hls.out] at hcl5
          have Hall := Lib.hid hall; clear hall
          have Hok2 := Lib.hid hok2; clear hok2
          have Hcl5 := Lib.hid hcl5; clear hcl5
          clear hlv4
          go_wp2_with fail
          with_reducible refine (Hcl5.out).mono ?_
          rintro e w6 ⟨a6, n6, c6, rfl, ho6, hb6⟩
          obtain ⟨ws6, hs6, hap6⟩ := ho6.sp
          have hn6 := hs6.length
          have hsz5 := hb5.size
          have hsz6 := hb6.size
          have hv6 := (hv4.keep hb5).keep hb6
          have hb7 := belowTrans (belowTrans hb4 hb5 (Nat.le_refl _)) hb6 (Nat.le_refl _)
          have h96n : n6 ≤ 9600 := by
            have h1 := Hls.out
            have h2 := congrArg List.length h1
            rw [srt_length, hn6] at h2
            have := Hol.out
            have := Hfm.out
            have := Hn2.out
            omega
          clear hv4 hlv5 ho6 hb4 hb5 hb6
          have Hn6 := Lib.hid hn6; clear hn6
          go_wp2
          go_roundg (579 - t)
          case measure => have := Hk.out; have := Ht.out; omega
          case rel => exact ⟨t + 1, w5.heap.size, a4, n + n2, c4, vs ++ ws, a6, n6, c6, ws6, rfl, rfl, by have := Hk.out; have := Ht.out; omega, Hno2, by omega, hsz6, by rw [HVV.out]; exact hv6.mono (Nat.le_refl _) (by omega) (Nat.le_refl _) (by omega), Hap3, by rw [HB1.out]; exact hs6, Lib.hid hap6, h96n, by rw [HRR.out]; exact Hok2, hb7⟩
        · have hm : mReachSand xs = ([], false) := by
            rcases Hbb.out with ⟨h', _⟩ | ⟨_, h'⟩
            · cases h'
            · exact Hbad.out h'
          have hbf := belowTrans hb4 hb5 (Nat.le_refl _)
          clear hv4 hlv4
          have Hm := Lib.hid hm; clear hm
          go_wp2
          go_ret2
          rw [Hm.out]
          exact ⟨none, 0, 0, rfl, OwnRows.nil _ _ _, hbf⟩
end Go.Proofs.Ythhhgmkjjagmaaa
