/- Several texts in one: SaU, SaV, SaW, SaY. No condition. -/
import Derived.Test.YtdfmljkjidepeaaGreatDoorSaT
import Derived.Test.YtdfmljkjidepeaaGreatDoorSaS
import Derived.Test.YtdfmljkjidepeaaGreatDoorGf
import Derived.Test.YtdfmljkjidepeaaGreatDoorGy
namespace Go.Proofs.YtdfmljkjidepeaaGreatDoor
section
open Go.RowKit
set_option linter.unusedVariables false
set_option linter.unusedSimpArgs false
set_option maxRecDepth 20000

set_option maxHeartbeats 6400000 in
theorem levelBehind_any (ao : Option Addr) (n cap : Nat) (xss : List (List Int)) (w : World) (h : RowsAt w ao n cap xss) (hG : ∀ x ∈ xss, Grains x) (hn : n ≤ 400) :
    Calls Tryz.prog 47 #[.slice ao n cap] w fun e w' => ∃ a m c, e = .returned (.slice a m c) ∧ OwnRows w.heap.size w'.heap.size w' a m c (srt (once (xss.flatMap behL))) ∧ Below w.heap.size w w' := by
  have hl := h.length
  have hfl := flatMap_behL_len hG
  have hnI : (n : Int) ≤ 400 := by omega
  have Hl := Lib.hid hl; clear hl
  have HG := Lib.hid hG; clear hG
  have Hfl := Lib.hid hfl; clear hfl
  go_enter Tryz.func47, Tryz.ntmps47
  go_wp2_with fail
  go_loopw [3, 8] (fun v i wr => ∃ (j : Nat) (a : Option Addr) (p c : Nat) (vs : List Value), j ≤ n ∧ p ≤ 24 * j ∧ i = .int .i64 j ∧ v = .slice a p c ∧ Sp w.heap.size wr.heap.size w.heap.size wr.heap.size wr a p c vs ((xss.take j).flatMap behL) ∧ vs.Pairwise apart ∧ Below w.heap.size w wr) (fun _ i _ => n - (intOf i).toNat)
  case atStart => exact ⟨0, none, 0, 0, [], Nat.zero_le _, Nat.zero_le _, rfl, rfl, Sp.nil _ _ _ _ _, List.Pairwise.nil, Below.refl _ _⟩
  case round =>
    obtain ⟨j, a, p, c, vs, hj, hp, rfl, rfl, hv, hap, hb⟩ := hrel
    have hsz := hb.size
    by_cases hlt : j < n
    · obtain ⟨bl, oo, rfl, hbl, hc⟩ := (h.keep hb).cell j hlt
      obtain ⟨a3, m3, c3, hck, hi3⟩ := hc j hlt
      clear hc
      have hg3 := HG.out _ (getD_memR hlt Hl.out)
      have e3 := flatMap_snocX behL hlt Hl.out
      generalize xss.getD j [] = x at *
      have hwl := behL_length hg3
      have hcon := listsBehind_any a3 m3 c3 x wr hi3 hg3
      generalize behL x = P at *
      have Hcon := Lib.hid hcon; clear hcon
      have E3 := Lib.hid e3; clear e3
      have Hg3 := Lib.hid hg3; clear hg3
      have Hap := Lib.hid hap; clear hap
      go_wp2_with fail
      with_reducible refine (Hcon.out).mono ?_
      rintro e w2 ⟨a2, n2, c2, rfl, ho2, hb2⟩
      obtain ⟨us, hu, hup⟩ := ho2.sp
      have hn2 := hu.length
      have hs2 := hb2.size
      have hv2 := (hv.keep hb2).mono (Nat.le_refl _) hs2 (Nat.le_refl _) hs2
      have hap2 := apart_append hv.rows Hap.out hu.rows hup (Nat.le_refl _)
      have hur := hu.rows.mono (show w.heap.size ≤ wr.heap.size by omega) (Nat.le_refl _)
      have hbw2 := belowTrans hb hb2 (Nat.le_refl _)
      clear hv hb hb2 ho2
      have Hn2 := Lib.hid hn2; clear hn2
      have Hap2 := Lib.hid hap2; clear hap2
      go_wp2_with (at_builtin; refine wpList_catSp w2 rfl _ _ rfl w.heap.size w2.heap.size w.heap.size w2.heap.size a p c vs _ rfl hv2 a2 n2 c2 us P rfl hu.spine.at hur (by have := Hn2.out; omega) hbw2.size ?_)
      intro a4 c4 w4 hv4 hc4
      have hs4 := hc4.size
      have hb4 := hbw2.trans (hv2.below hc4 hbw2.size)
      have hv4' := hv4.mono (Nat.le_refl _) (Nat.le_refl _) (Nat.le_refl _) hs4
      clear hv2 hv4 hc4 hbw2 hu hur
      go_wp2
      go_roundw
      case rel => exact ⟨j + 1, a4, p + n2, c4, _, by omega, by have := Hn2.out; omega, by go_num, rfl, by rw [E3.out]; exact hv4', Hap2.out, hb4⟩
      case measure => simp [intOf]; omega
    · obtain rfl : n = j := by omega
      rw [take_allR Hl.out] at hv
      have hown := hv.own hap (Nat.le_refl _) (Nat.le_refl _) (Nat.le_refl _) (Nat.le_refl _)
      have hgf := greatestFirst_any w.heap.size wr.heap.size a p c (xss.flatMap behL) wr hown (by omega) hsz
      have hcmp := compX_srt (xss.flatMap behL)
      have hcon := fun W hW => compact_any w.heap.size wr.heap.size a p c (srt (xss.flatMap behL)) W hW (by omega)
      rw [hcmp] at hcon
      unfold equalF at hcon
      clear hv hap hown
      have Hgf := Lib.hid hgf; clear hgf
      have Hcmp := Lib.hid hcmp; clear hcmp
      have Hcon := Lib.hid hcon; clear hcon
      go_wp2_with fail
      with_reducible refine (Hgf.out).mono ?_
      rintro e w2 ⟨rfl, ho2, hb2⟩
      have hsz2 := hb2.size
      have hcon2 := Hcon.out w2 ho2 (by omega)
      have Hcon2 := Lib.hid hcon2; clear hcon2
      go_wp2_with fail
      with_reducible refine (Hcon2.out).mono ?_
      rintro e w3 ⟨m, rfl, ho3, hb3⟩
      have hsz3 := hb3.size
      have hbf := (hb.trans hb2).trans hb3
      go_wp2
      go_ret
      exact ⟨_, _, _, rfl, ho3.mono (Nat.le_refl _) (by omega), hbf⟩

/-! ### Whether some list is no sand -/
theorem isNoSand_any (ao : Option Addr) (n cap : Nat) (xs : List Int) (w : World) (h : IntsAt w ao n cap xs) :
    Calls Tryz.prog 48 #[.slice ao n cap] w fun e w' => e = .returned (.bool (!sandB xs)) ∧ Below w.heap.size w w' := by
  have hcon := isSand_any ao n cap xs w h
  have Hcon := Lib.hid hcon; clear hcon
  go_enter Tryz.func48, Tryz.ntmps48
  go_wp2_with fail
  with_reducible refine (Hcon.out).mono ?_
  rintro e w' ⟨rfl, rfl⟩
  go_wp2
  go_ret
  exact ⟨rfl, Below.refl _ _⟩
/-- slices.IndexFunc with a function that says yes or no of each list -/
theorem indexBy_any (f : Value) (P : List Int → Bool) (ao : Option Addr) (n cap : Nat) (xss : List (List Int)) (w : World) (h : RowsAt w ao n cap xss) (hn : n ≤ 4000)
    (fid : FuncId) (caps : Array Value) (hf : f = .func (.func fid) #[] caps)
    (hcon : ∀ a m c x W, Below w.heap.size w W → IntsAt W a m c x → Calls Tryz.prog fid (#[.slice a m c] ++ caps) W fun e w' => e = .returned (.bool (P x)) ∧ Below W.heap.size W w') (hfid : fid = 48 ∧ caps = #[] ∨ ∃ B, fid = 28 ∧ caps = #[.pointer (some ⟨B, 0, none⟩)]) :
    Calls Tryz.prog 52 #[.slice ao n cap, f] w fun e w' => ∃ r : Int, e = .returned (.int .i64 r) ∧ ((r = -1 ∧ ∀ x ∈ xss, P x = false) ∨ (0 ≤ r ∧ ∃ x ∈ xss, P x = true)) ∧ Below w.heap.size w w' := by
  have hl := h.length
  subst hf
  have Hl := Lib.hid hl; clear hl
  rcases hfid with ⟨rfl, rfl⟩ | ⟨B, rfl, rfl⟩
  all_goals
    simp only [Array.append_empty, List.push_toArray, List.nil_append, List.cons_append, Array.empty_append, List.append_toArray] at hcon
    have Hcon := Lib.hid hcon; clear hcon
    go_enter Tryz.func52, Tryz.ntmps52
    go_wp2
    go_loopw [8] (fun i wr => ∃ j : Nat, j ≤ n ∧ i = .int .i64 j ∧ Hid (∀ x ∈ xss.take j, P x = false) ∧ Below w.heap.size w wr) (fun i _ => n - (intOf i).toNat)
    case atStart => exact ⟨0, Nat.zero_le _, rfl, Lib.hid (by simp), Below.refl _ _⟩
    case round =>
      obtain ⟨j, hj, rfl, Hall, hb⟩ := hrel
      by_cases hlt : j < n
      · obtain ⟨b, oo, rfl, hbl, hc⟩ := (h.keep hb).cell j hlt
        obtain ⟨a3, m3, c3, hck, hi3⟩ := hc j hlt
        clear hc
        have hmx := getD_memR hlt Hl.out
        have htx := take_snocX hlt Hl.out
        generalize xss.getD j [] = x at *
        have hc2 := Hcon.out a3 m3 c3 x wr hb hi3
        cases hp : P x
        · rw [hp] at hc2
          have Hc2 := Lib.hid hc2; clear hc2
          have Hp := Lib.hid hp; clear hp
          have Hmx := Lib.hid hmx; clear hmx
          have Htx := Lib.hid htx; clear htx
          go_wp2_with fail
          with_reducible refine (Hc2.out).mono ?_
          rintro e w2 ⟨rfl, hb2⟩
          have hbf := belowTrans hb hb2 (Nat.le_refl _)
          go_wp2
          go_roundw
          case rel =>
            refine ⟨j + 1, by omega, by go_num, Lib.hid (fun y hy => ?_), hbf⟩
            rw [Htx.out] at hy
            rcases List.mem_append.1 hy with h' | h'
            · exact Hall.out y h'
            · rw [List.mem_singleton.1 h']; exact Hp.out
          case measure => simp [intOf]; omega
        · rw [hp] at hc2
          have Hc2 := Lib.hid hc2; clear hc2
          have Hp := Lib.hid hp; clear hp
          have Hmx := Lib.hid hmx; clear hmx
          have Htx := Lib.hid htx; clear htx
          go_wp2_with fail
          with_reducible refine (Hc2.out).mono ?_
          rintro e w2 ⟨rfl, hb2⟩
          have hbf := belowTrans hb hb2 (Nat.le_refl _)
          go_wp2
          go_ret
          exact ⟨_, rfl, .inr ⟨by omega, x, Hmx.out, Hp.out⟩, hbf⟩
      · obtain rfl : n = j := by omega
        rw [take_allR Hl.out] at Hall
        go_wp2
        go_ret
        exact ⟨_, rfl, .inl ⟨rfl, Hall.out⟩, hb⟩

theorem containsBad_any (ao : Option Addr) (n cap : Nat) (xss : List (List Int)) (w : World) (h : RowsAt w ao n cap xss) (hn : n ≤ 4000) :
    Calls Tryz.prog 27 #[.slice ao n cap, .func (.func 48) #[] #[]] w fun e w' => ∃ b : Bool, e = .returned (.bool b) ∧ Hid ((b = false ∧ ∀ x ∈ xss, Sand x) ∨ (b = true ∧ ∃ x ∈ xss, sandB x = false)) ∧ Below w.heap.size w w' := by
  have hcon := indexBy_any _ (fun x => !sandB x) ao n cap xss w h hn 48 #[] rfl (fun a m c x W hb hi => isNoSand_any a m c x W hi) (.inl ⟨rfl, rfl⟩)
  have Hcon := Lib.hid hcon; clear hcon
  go_enter Tryz.func27, Tryz.ntmps27
  go_wp2_with fail
  with_reducible refine (Hcon.out).mono ?_
  rintro e w1 ⟨r, rfl, hr, hb⟩
  rcases hr with ⟨rfl, hno⟩ | ⟨hr0, x, hx, hs⟩
  · have Hno := Lib.hid hno; clear hno
    go_wp2
    go_ret
    exact ⟨false, rfl, Lib.hid (.inl ⟨rfl, fun x hx => by
      have := Hno.out x hx
      cases hs : sandB x
      · rw [hs] at this; cases this
      · exact sand_iff.1 hs⟩), hb⟩
  · have Hx := Lib.hid hx; clear hx
    have Hs := Lib.hid hs; clear hs
    go_wp2
    go_ret
    exact ⟨true, by simp [hr0], Lib.hid (.inr ⟨rfl, x, Hx.out, by
      have := Hs.out
      cases hs : sandB x
      · rfl
      · rw [hs] at this; cases this⟩), hb⟩

set_option maxHeartbeats 12800000 in
theorem impl_ReachSand (ao : Option Addr) (n cap : Nat) (xs : List Int) (w : World) (h : IntsAt w ao n cap xs) :
    Calls Tryz.prog 25 #[.slice ao n cap] w fun e w' => ∃ ao' n' cap', e = .returned (.tuple #[.slice ao' n' cap', .bool (mReachSand xs).2]) ∧ OwnRows w.heap.size w'.heap.size w' ao' n' cap' (mReachSand xs).1 ∧ Below w.heap.size w w' := by
  cases hg : sandB xs
  · have hm := mReach_no1 hg
    have Hg := Lib.hid hg; clear hg
    have Hm := Lib.hid hm; clear hm
    go_enter Tryz.func25, Tryz.ntmps25
    go_wp2_with fail
    with_reducible refine (isSand_no _ _ _ _ _ h Hg.out).mono ?_
    rintro e w' ⟨rfl, rfl⟩
    go_wp2
    go_ret2
    rw [Hm.out]
    exact ⟨none, 0, 0, rfl, OwnRows.nil _ _ _, Below.refl _ _⟩
  have hS := sand_iff.1 hg
  have hlen := hS.grains.len
  have hl0 := h.length
  have hcon := copyOf_any ao n cap xs w h (by omega)
  have hG := hS.grains
  have Hg := Lib.hid hg; clear hg
  have Hl0 := Lib.hid hl0; clear hl0
  have Hcon := Lib.hid hcon; clear hcon
  have HG := Lib.hid hG; clear hG
  have HS := Lib.hid hS; clear hS
  go_enter Tryz.func25, Tryz.ntmps25
  go_wp2_with fail
  with_reducible refine (isSand_yes _ _ _ _ _ h HS.out).mono ?_
  rintro e w' ⟨rfl, rfl⟩
  go_wp2_with fail
  with_reducible refine (Hcon.out).mono ?_
  rintro e w1 ⟨a1, c1, rfl, ho1, hb1⟩
  have h1 := OwnRows.one ho1 w.heap.size (Nat.le_refl _) hb1.size (by omega)
  obtain ⟨vs1, hs1, hap1⟩ := h1.sp
  have hba := hb1.alloc hb1.size (.cells #[.slice a1 n c1] 24)
  have hs1' : Sp w.heap.size (w1.alloc (.cells #[.slice a1 n c1] 24)).heap.size w.heap.size (w1.alloc (.cells #[.slice a1 n c1] 24)).heap.size (w1.alloc (.cells #[.slice a1 n c1] 24)) (some ⟨w1.heap.size, 0, none⟩) 1 1 vs1 (lvS xs 0) := hs1.mono (Nat.le_refl _) (by simp) (Nat.le_refl _) (by simp)
  have hE0 : w.heap.size ≤ (w1.alloc (.cells #[.slice a1 n c1] 24)).heap.size := hba.size
  clear h1 hs1 ho1 hb1
  go_wp2_with fail
  go_loopg [4, 5] 580 (fun k v f wr => ∃ (t E : Nat) (a : Option Addr) (n c : Nat) (vs : List Value) (a2 : Option Addr) (n2 c2 : Nat) (ws : List Value), v = .slice a n c ∧ f = .slice a2 n2 c2 ∧ k + t = 580 ∧ Hid (∀ u, u < t → frS xs u ≠ []) ∧ w.heap.size ≤ E ∧ E ≤ wr.heap.size ∧
      Sp w.heap.size E w.heap.size E wr a n c vs (lvsS xs t) ∧ Hid (vs.Pairwise apart) ∧ Sp E wr.heap.size E wr.heap.size wr a2 n2 c2 ws (lvS xs t) ∧ Hid (ws.Pairwise apart) ∧ n2 ≤ 9600 ∧ Hid ((rsS xs t).length ≤ 400 ∧ ∀ x ∈ rsS xs t, Sand x) ∧ Below w.heap.size w wr)
  case atStart => exact ⟨0, w.heap.size, none, 0, 0, [], _, _, _, vs1, rfl, rfl, rfl, Lib.hid (fun u hu => absurd hu (Nat.not_lt_zero _)), Nat.le_refl _, hE0, Sp.nil _ _ _ _ _, Lib.hid List.Pairwise.nil, hs1', Lib.hid hap1, by omega, Lib.hid ⟨by simp [rsS], fun x hx => by simp [rsS] at hx⟩, hba⟩
  case round =>
    obtain ⟨t, E, a, n, c, vs, a2, n2, c2, ws, rfl, rfl, hk, Hno, hE1, hE2, hre, Hap, hlv, Hap2, h96, Hok, hb⟩ := hrel
    clear hs1' hba hap1 hE0
    have ht := some_level HG.out Hno.out
    have hn2 := hlv.length
    have hnl := hre.length
    rw [lvsS_len] at hnl
    have hn400 : n ≤ 400 := by rw [← hnl]; exact Hok.out.1
    by_cases hz : n2 = 0
    · have hnil : frS xs t = [] := lvS_nil.1 (List.eq_nil_of_length_eq_zero (by omega))
      have hend := good_end (xs := xs) (t := t) (by omega) hnil Hok.out.1 Hok.out.2
      have hok := good_ok (xs := xs) (t := t) (by omega) hnil Hok.out.1 Hok.out.2
      have hm := mReach_yes Hg.out hok
      have hown := hre.own Hap.out (Nat.le_refl _) (Nat.le_refl _) (Nat.le_refl _) (Nat.le_refl _)
      have hgf := greatestFirst_any w.heap.size E a n c _ wr hown (by omega) hb.size
      rw [lvsS_srt, ← hend] at hgf
      subst hz
      clear hlv hre hown
      have Hnil := Lib.hid hnil; clear hnil
      have Hend := Lib.hid hend; clear hend
      have Hn2 := Lib.hid hn2; clear hn2
      have Hk := Lib.hid hk; clear hk
      have Hgf := Lib.hid hgf; clear hgf
      have Hok := Lib.hid hok; clear hok
      have Hm := Lib.hid hm; clear hm
      have Hnl := Lib.hid hnl; clear hnl
      go_wp2_with fail
      with_reducible refine (Hgf.out).mono ?_
      rintro e w2 ⟨rfl, ho2, hb2⟩
      have hsz2 := hb2.size
      have hsz := hb.size
      go_wp2
      go_ret2
      rw [Hm.out]
      exact ⟨_, _, _, rfl, ho2.mono (Nat.le_refl _) (by omega), hb.trans hb2⟩
    · have hpos : (0 : Int) < n2 := by omega
      have hne : frS xs t ≠ [] := fun e => hz (by rw [← hn2]; unfold lvS; rw [e]; rfl)
      have hno2 : ∀ u, u < t + 1 → frS xs u ≠ [] := fun u hu => by
        by_cases e : u = t
        · subst e; exact hne
        · exact Hno.out u (by omega)
      have hFg : ∀ x ∈ lvS xs t, Grains x := fun x hx => (frS_good HG.out t (lvS_mem.1 hx)).1
      have hbad : (∃ x ∈ lvS xs t, sandB x = false) → mReachSand xs = ([], false) := fun ⟨x, hx, hs⟩ => mReach_no2 (bad_level HG.out (lvS_mem.1 hx) hs)
      have hlong : 400 < (rsS xs (t + 1)).length → mReachSand xs = ([], false) := fun hh => mReach_no2 (long_level (t := t + 1) (by omega) hh)
      have hgood : (rsS xs (t + 1)).length ≤ 400 → (∀ x ∈ lvS xs t, Sand x) → (rsS xs (t + 1)).length ≤ 400 ∧ ∀ x ∈ rsS xs (t + 1), Sand x := fun h1 h2 => ⟨h1, fun x hx => by
        rw [rsS_succ] at hx
        rcases List.mem_append.1 hx with h' | h'
        · exact Hok.out.2 x h'
        · exact h2 x (lvS_mem.2 h')⟩
      have hl1 := lvsS_len xs (t + 1)
      have hlv1 := lvsS_succ xs t
      have hls := lvS_succ xs t
      have hfm := flatMap_behL_len hFg
      have hol := once_len ((lvS xs t).flatMap behL)
      have hsz := hb.size
      have hap3 := apart_append hre.rows Hap.out hlv.rows Hap2.out (Nat.le_refl _)
      have hre1 : Sp w.heap.size E w.heap.size wr.heap.size wr a n c vs (lvsS xs t) := hre.mono (Nat.le_refl _) (Nat.le_refl _) (Nat.le_refl _) hE2
      have hlr := hlv.rows.mono (show w.heap.size ≤ E from hE1) (Nat.le_refl _)
      generalize hA : lvS xs t = A at *
      generalize hB1 : lvS xs (t + 1) = A1 at *
      generalize hRR : rsS xs (t + 1) = R1 at *
      generalize hVV : lvsS xs (t + 1) = V1 at *
      generalize hWW : lvsS xs t = V at *
      clear hre
      have Hk := Lib.hid hk; clear hk
      have Hne := Lib.hid hne; clear hne
      have Hno2 := Lib.hid hno2; clear hno2
      have HFg := Lib.hid hFg; clear hFg
      have Hbad := Lib.hid hbad; clear hbad
      have Hlong := Lib.hid hlong; clear hlong
      have Hgood := Lib.hid hgood; clear hgood
      have Hl1 := Lib.hid hl1; clear hl1
      have Hlv1 := Lib.hid hlv1; clear hlv1
      have Hls := Lib.hid hls; clear hls
      have Hfm := Lib.hid hfm; clear hfm
      have Hol := Lib.hid hol; clear hol
      have Hap3 := Lib.hid hap3; clear hap3
      have HA := Lib.hid hA; clear hA
      have HB1 := Lib.hid hB1; clear hB1
      have HRR := Lib.hid hRR; clear hRR
      have HVV := Lib.hid hVV; clear hVV
      have HWW := Lib.hid hWW; clear hWW
      have Hn2 := Lib.hid hn2; clear hn2
      have Hnl := Lib.hid hnl; clear hnl
      have Ht := Lib.hid ht; clear ht
      go_wp2_with (at_builtin; refine wpList_catSp wr rfl _ _ rfl w.heap.size E w.heap.size wr.heap.size a n c vs V rfl hre1 a2 n2 c2 ws A rfl hlv.spine.at hlr (by omega) hsz ?_)
      intro a4 c4 w4 hv4 hc4
      have hs4 := hc4.size
      have hb4 := hb.trans (hre1.below hc4 hsz)
      have hlv4 : Sp E wr.heap.size E wr.heap.size w4 a2 n2 c2 ws A := hlv.chgBy hre1.spine hc4 fun g hg h5 => by
        have := hre1.spine.2 g hg
        have := (hlv.spine.1.lt g h5).1
        omega
      rw [← Hlv1.out] at hv4
      have hvl := hv4.length
      rw [Hl1.out] at hvl
      clear hre1 hlr hlv hc4
      by_cases h400 : 400 < n + n2
      · have h4I : (400 : Int) < ((n + n2 : Nat) : Int) := by omega
        have h4J : (400 : Int) < (n : Int) + n2 := by omega
        have hm := Hlong.out (by omega)
        clear hv4 hlv4
        have Hm := Lib.hid hm; clear hm
        have Hvl := Lib.hid hvl; clear hvl
        go_wp2
        go_ret2
        rw [Hm.out]
        exact ⟨none, 0, 0, rfl, OwnRows.nil _ _ _, hb4⟩
      · have h4I : ¬ ((400 : Int) < ((n + n2 : Nat) : Int)) := by omega
        have h4J : ¬ ((400 : Int) < (n : Int) + n2) := by omega
        have hcb := containsBad_any a2 n2 c2 A w4 hlv4.at (by omega)
        have hcl := fun W hW => levelBehind_any a2 n2 c2 A W hW HFg.out (by omega)
        have Hcb := Lib.hid hcb; clear hcb
        have Hcl := Lib.hid hcl; clear hcl
        have Hvl := Lib.hid hvl; clear hvl
        go_wp2_with fail
        with_reducible refine (Hcb.out).mono ?_
        rintro e w5 ⟨bb, rfl, Hbb, hb5⟩
        cases bb
        · have hall : ∀ x ∈ A, Sand x := by
            rcases Hbb.out with ⟨_, h'⟩ | ⟨h', _⟩
            · exact h'
            · cases h'
          have hok2 := Hgood.out (by have := Hvl.out; omega) hall
          have hlv5 := hlv4.keep hb5
          have hcl5 := Hcl.out w5 hlv5.at
          rw [Hls.out] at hcl5
          have Hall := Lib.hid hall; clear hall
          have Hok2 := Lib.hid hok2; clear hok2
          have Hcl5 := Lib.hid hcl5; clear hcl5
          clear hlv4
          go_wp2_with fail
          with_reducible refine (Hcl5.out).mono ?_
          rintro e w6 ⟨a6, n6, c6, rfl, ho6, hb6⟩
          obtain ⟨ws6, hs6, hap6⟩ := ho6.sp
          have hn6 := hs6.length
          have hsz5 := hb5.size
          have hsz6 := hb6.size
          have hv6 := (hv4.keep hb5).keep hb6
          have hb7 := belowTrans (belowTrans hb4 hb5 (Nat.le_refl _)) hb6 (Nat.le_refl _)
          have h96n : n6 ≤ 9600 := by
            have h1 := Hls.out
            have h2 := congrArg List.length h1
            rw [srt_length, hn6] at h2
            have := Hol.out
            have := Hfm.out
            have := Hn2.out
            omega
          clear hv4 hlv5 ho6 hb4 hb5 hb6
          have Hn6 := Lib.hid hn6; clear hn6
          go_wp2
          go_roundg (579 - t)
          case measure => have := Hk.out; have := Ht.out; omega
          case rel => exact ⟨t + 1, w5.heap.size, a4, n + n2, c4, vs ++ ws, a6, n6, c6, ws6, rfl, rfl, by have := Hk.out; have := Ht.out; omega, Hno2, by omega, hsz6, by rw [HVV.out]; exact hv6.mono (Nat.le_refl _) (by omega) (Nat.le_refl _) (by omega), Hap3, by rw [HB1.out]; exact hs6, Lib.hid hap6, h96n, by rw [HRR.out]; exact Hok2, hb7⟩
        · have hm : mReachSand xs = ([], false) := by
            rcases Hbb.out with ⟨h', _⟩ | ⟨_, h'⟩
            · cases h'
            · exact Hbad.out h'
          have hbf := belowTrans hb4 hb5 (Nat.le_refl _)
          clear hv4 hlv4
          have Hm := Lib.hid hm; clear hm
          go_wp2
          go_ret2
          rw [Hm.out]
          exact ⟨none, 0, 0, rfl, OwnRows.nil _ _ _, hbf⟩
end
end Go.Proofs.YtdfmljkjidepeaaGreatDoor
namespace Go.Proofs.YtdfmljkjidepeaaGreatDoor
section
open Go.RowKit
set_option linter.unusedVariables false
set_option linter.unusedSimpArgs false
set_option maxRecDepth 20000

theorem rchL_pos {xs : List Int} {n : Nat} (h : (rchL xs).length = n) : (n = 0 ↔ ¬ okR xs) := by
  rw [← rchL_nil, ← h]
  exact ⟨fun h => List.eq_nil_of_length_eq_zero h, fun h => by rw [h]; rfl⟩
theorem mReachSand_bound (xs : List Int) : (mReachSand xs).1.length ≤ 1048576 ∧ total (mReachSand xs).1 ≤ 1048576 := mReachSand_small2 xs
theorem mCtR_yes {xs : List Int} (h : sandB xs = true) (hok : okR xs) : mCountReach xs = (((rchL xs).length : Int), true) := by unfold mCountReach; rw [mReach_yes h hok]
theorem mCtR_no1 {xs : List Int} (h : sandB xs = false) : mCountReach xs = (0, false) := by unfold mCountReach; rw [mReach_no1 h]; rfl
theorem mCtR_no2 {xs : List Int} (h : ¬ okR xs) : mCountReach xs = (0, false) := by unfold mCountReach; rw [mReach_no2 h]; rfl
theorem saCan_any (ao : Option Addr) (n cap : Nat) (xs : List Int) (bo : Option Addr) (m cap' : Nat) (ys : List Int) (w : World) (h : IntsAt w ao n cap xs) (h' : IntsAt w bo m cap' ys) (hg : Sand xs) :
    Calls Tryz.prog 22 #[.slice ao n cap, .slice bo m cap'] w fun e w' => e = .returned (.tuple #[.bool (canB xs ys), .bool (decide (okR xs))]) ∧ Below w.heap.size w w' := by
  have hcon := saReach_any ao n cap xs w h hg
  have Hg := Lib.hid hg; clear hg
  have Hcon := Lib.hid hcon; clear hcon
  go_enter Tryz.func22, Tryz.ntmps22
  go_wp2_with fail
  with_reducible refine (Hcon.out).mono ?_
  rintro e w1 ⟨a1, n1, c1, vs1, rfl, hs1, hb1⟩
  have hl1 := hs1.length
  have hn1 := rchL_pos hl1
  have hpc := orPlace_any a1 bo n1 m c1 cap' (rchL xs) ys w1 hs1.at (h'.keep hb1)
  have hcb : canB xs ys = decide (ys ∈ rchL xs) := rfl
  have hokd : decide (okR xs) = decide ((0 : Int) < n1) := by
    rw [decide_eq_decide]
    constructor
    · intro hok
      have : n1 ≠ 0 := fun e => (hn1.1 e) hok
      omega
    · intro h0
      apply Classical.byContradiction
      intro hno
      have := hn1.2 hno
      omega
  clear hs1
  have Hl1 := Lib.hid hl1; clear hl1
  have Hn1 := Lib.hid hn1; clear hn1
  have Hpc := Lib.hid hpc; clear hpc
  have Hcb := Lib.hid hcb; clear hcb
  have Hokd := Lib.hid hokd; clear hokd
  go_wp2_with fail
  with_reducible refine (Hpc.out).mono ?_
  rintro e w2 ⟨r, rfl, hpi, hb2⟩
  have hbf := belowTrans hb1 hb2 (Nat.le_refl _)
  rcases place_iff hpi with ⟨rfl, hnm⟩ | ⟨hr0, hm⟩
  · have hc2 : canB xs ys = false := by rw [Hcb.out]; exact decide_eq_false hnm
    have Hnm := Lib.hid hnm; clear hnm
    have Hpi := Lib.hid hpi; clear hpi
    have Hc2 := Lib.hid hc2; clear hc2
    go_wp2
    go_ret2
    exact ⟨by rw [Hc2.out, Hokd.out]; simp, hbf⟩
  · have hc2 : canB xs ys = true := by rw [Hcb.out]; exact decide_eq_true hm
    have Hm := Lib.hid hm; clear hm
    have Hpi := Lib.hid hpi; clear hpi
    have Hc2 := Lib.hid hc2; clear hc2
    go_wp2
    go_ret2
    exact ⟨by rw [Hc2.out, Hokd.out]; simp [hr0], hbf⟩
theorem mCan_yes {xs ys : List Int} (h : sandB xs = true) (h' : sandB ys = true) : mCanReach xs ys = (canB xs ys, decide (okR xs)) := by unfold mCanReach; rw [if_pos ⟨h, h'⟩]
theorem mCan_no1 {xs ys : List Int} (h : sandB xs = false) : mCanReach xs ys = (false, false) := by unfold mCanReach; rw [if_neg (by rw [h]; simp)]
theorem mCan_no2 {xs ys : List Int} (h : sandB ys = false) : mCanReach xs ys = (false, false) := by unfold mCanReach; rw [if_neg (by rw [h]; simp)]
theorem reaB_no1 {xs ys : List Int} (h : sandB xs = false) : reaB xs ys = false := by unfold reaB; rw [h]; rfl
theorem reaB_no2 {xs ys : List Int} (h : sandB ys = false) : reaB xs ys = false := by unfold reaB; rw [h]; simp
theorem reaB_yes {xs ys : List Int} (h : sandB xs = true) (h' : sandB ys = true) : reaB xs ys = canB xs ys := by unfold reaB; rw [h, h']; rfl
set_option maxHeartbeats 800000 in
theorem spec_FallsBetween (ao : Option Addr) (n cap : Nat) (xs : List Int) (bo : Option Addr) (m cap' : Nat) (ys : List Int) (w : World) (h : IntsAt w ao n cap xs) (h' : IntsAt w bo m cap' ys) :
    Calls Tryz.prog 9 #[.slice ao n cap, .slice bo m cap'] w fun e w' => e = .returned (.tuple #[.int .i64 (mFallsBetween xs ys).1, .bool (mFallsBetween xs ys).2]) ∧ Below w.heap.size w w' := by
  cases hg : sandB xs
  · have hm := mFB_no (reaB_no1 (ys := ys) hg)
    have Hg := Lib.hid hg; clear hg
    have Hm := Lib.hid hm; clear hm
    go_enter Tryz.func9, Tryz.ntmps9
    go_wp2_with fail
    with_reducible refine (saGood_no _ _ _ _ _ h Hg.out).mono ?_
    rintro e w' ⟨rfl, rfl⟩
    go_wp2
    go_ret2
    rw [Hm.out]
    exact ⟨rfl, Below.refl _ _⟩
  cases hg2 : sandB ys
  · have hm := mFB_no (reaB_no2 (xs := xs) hg2)
    have Hg := Lib.hid hg; clear hg
    have Hm := Lib.hid hm; clear hm
    have Hg2 := Lib.hid hg2; clear hg2
    go_enter Tryz.func9, Tryz.ntmps9
    go_wp2_with fail
    with_reducible refine (saGood_yes _ _ _ _ _ h (sand_iff.1 Hg.out)).mono ?_
    rintro e w' ⟨rfl, rfl⟩
    go_wp2_with fail
    with_reducible refine (saGood_no _ _ _ _ _ h' Hg2.out).mono ?_
    rintro e w' ⟨rfl, rfl⟩
    go_wp2
    go_ret2
    rw [Hm.out]
    exact ⟨rfl, Below.refl _ _⟩
  have hr := reaB_yes hg hg2
  have hcon := saCan_any ao n cap xs bo m cap' ys w h h' (sand_iff.1 hg)
  have hS := sand_iff.1 hg
  have hS2 := sand_iff.1 hg2
  have hw1 := hS.grains.wt
  have hw2 := hS2.grains.wt
  have hwa := fun W hh => saWeight_any ao n cap xs W hh hS.grains
  have hwb := fun W hh => saWeight_any bo m cap' ys W hh hS2.grains
  generalize decide (okR xs) = ob at *
  cases hc : canB xs ys
  · rw [hc] at hcon
    have hm := mFB_no (by rw [hr, hc])
    have Hg := Lib.hid hg; clear hg
    have Hm := Lib.hid hm; clear hm
    have Hg2 := Lib.hid hg2; clear hg2
    have Hcon := Lib.hid hcon; clear hcon
    have Hr := Lib.hid hr; clear hr
    have Hc := Lib.hid hc; clear hc
    have HS := Lib.hid hS; clear hS
    have HS2 := Lib.hid hS2; clear hS2
    have Hwa := Lib.hid hwa; clear hwa
    have Hwb := Lib.hid hwb; clear hwb
    go_enter Tryz.func9, Tryz.ntmps9
    go_wp2_with fail
    with_reducible refine (saGood_yes _ _ _ _ _ h HS.out).mono ?_
    rintro e w' ⟨rfl, rfl⟩
    go_wp2_with fail
    with_reducible refine (saGood_yes _ _ _ _ _ h' HS2.out).mono ?_
    rintro e w' ⟨rfl, rfl⟩
    go_wp2_with fail
    with_reducible refine (Hcon.out).mono ?_
    rintro e w1 ⟨rfl, hb1⟩
    go_wp2
    go_ret2
    rw [Hm.out]
    exact ⟨rfl, hb1⟩
  · rw [hc] at hcon
    have hm := mFB_yes (by rw [hr, hc])
    generalize wt 0 xs = p at *
    generalize wt 0 ys = q at *
    have Hg := Lib.hid hg; clear hg
    have Hm := Lib.hid hm; clear hm
    have Hg2 := Lib.hid hg2; clear hg2
    have Hcon := Lib.hid hcon; clear hcon
    have Hr := Lib.hid hr; clear hr
    have Hc := Lib.hid hc; clear hc
    have HS := Lib.hid hS; clear hS
    have HS2 := Lib.hid hS2; clear hS2
    have Hwa := Lib.hid hwa; clear hwa
    have Hwb := Lib.hid hwb; clear hwb
    go_enter Tryz.func9, Tryz.ntmps9
    go_wp2_with fail
    with_reducible refine (saGood_yes _ _ _ _ _ h HS.out).mono ?_
    rintro e w' ⟨rfl, rfl⟩
    go_wp2_with fail
    with_reducible refine (saGood_yes _ _ _ _ _ h' HS2.out).mono ?_
    rintro e w' ⟨rfl, rfl⟩
    go_wp2_with fail
    with_reducible refine (Hcon.out).mono ?_
    rintro e w1 ⟨rfl, hb1⟩
    go_wp2_with fail
    with_reducible refine (Hwb.out _ (h'.keep hb1)).mono ?_
    rintro e w2 ⟨rfl, rfl⟩
    go_wp2_with fail
    with_reducible refine (Hwa.out _ (h.keep hb1)).mono ?_
    rintro e w2 ⟨rfl, rfl⟩
    go_wp2
    go_ret2
    rw [Hm.out]
    exact ⟨rfl, hb1⟩

theorem slUptoOwn {B E w ao n cap xs} (h : Own B E w ao n cap xs) (hi : Nat) (hhi : hi ≤ n) (k : IntKind) : (∀ W : World, (Instr.sliceAt 24 (.slice ao n cap) none (some (.int k (hi : Int))) none).run Tryz.prog W = .ok (.slice ao hi cap) W) ∧ Own B E w ao hi cap (xs.take hi) := by
  rcases h.cases with ⟨rfl, rfl, rfl, rfl⟩ | ⟨g, rfl, _, _, _⟩
  · obtain rfl : hi = 0 := by omega
    obtain ⟨a2, h1, h2⟩ := slUpto w [] h.at 0 (Nat.le_refl _) k
    refine ⟨fun W => ?_, Own.nil _ _ _⟩
    have hrun := run_slice_h (P := Tryz.prog) (w := W) 24 none 0 0 Tryz.underlying24 k ((0 : Nat) : Int) (by omega) (by omega)
    rw [sizeInt] at hrun
    rw [run_sliceAt_slice _ _ _ _ _ _ Tryz.underlying24, hrun]
    simp [Result.andThen, sliced]
  · refine ⟨fun W => ?_, ?_⟩
    · have hrun := run_slice_h (P := Tryz.prog) (w := W) 24 (some ⟨g, 0, none⟩) n cap Tryz.underlying24 k (hi : Int) (by omega) (by have := h.at.le; omega)
      rw [sizeInt] at hrun
      rw [run_sliceAt_slice _ _ _ _ _ _ Tryz.underlying24, hrun]
      simp [Result.andThen, sliced, Addr.add_lit]
    · have := OwnRow.cut h hhi
      unfold Own
      rw [List.map_take]; exact this

set_option maxHeartbeats 3200000 in
theorem spec_FallVector (ao : Option Addr) (n cap : Nat) (xs : List Int) (bo : Option Addr) (m cap' : Nat) (ys : List Int) (w : World) (h : IntsAt w ao n cap xs) (h' : IntsAt w bo m cap' ys) :
    Calls Tryz.prog 7 #[.slice ao n cap, .slice bo m cap'] w fun e w' => ∃ ao' n' cap', e = .returned (.tuple #[.slice ao' n' cap', .bool (mFallVector xs ys).2]) ∧ Own w.heap.size w'.heap.size w' ao' n' cap' (mFallVector xs ys).1 ∧ Below w.heap.size w w' := by
  cases hg : sandB xs
  · have hm := mFV_no (reaB_no1 (ys := ys) hg)
    have Hg := Lib.hid hg; clear hg
    have Hm := Lib.hid hm; clear hm
    go_enter Tryz.func7, Tryz.ntmps7
    go_wp2_with fail
    with_reducible refine (saGood_no _ _ _ _ _ h Hg.out).mono ?_
    rintro e w' ⟨rfl, rfl⟩
    go_wp2
    go_ret2
    rw [Hm.out]
    exact ⟨none, 0, 0, rfl, Own.nil _ _ _, Below.refl _ _⟩
  cases hg2 : sandB ys
  · have hm := mFV_no (reaB_no2 (xs := xs) hg2)
    have Hg := Lib.hid hg; clear hg
    have Hm := Lib.hid hm; clear hm
    have Hg2 := Lib.hid hg2; clear hg2
    go_enter Tryz.func7, Tryz.ntmps7
    go_wp2_with fail
    with_reducible refine (saGood_yes _ _ _ _ _ h (sand_iff.1 Hg.out)).mono ?_
    rintro e w' ⟨rfl, rfl⟩
    go_wp2_with fail
    with_reducible refine (saGood_no _ _ _ _ _ h' Hg2.out).mono ?_
    rintro e w' ⟨rfl, rfl⟩
    go_wp2
    go_ret2
    rw [Hm.out]
    exact ⟨none, 0, 0, rfl, Own.nil _ _ _, Below.refl _ _⟩
  have hr := reaB_yes hg hg2
  have hcon := saCan_any ao n cap xs bo m cap' ys w h h' (sand_iff.1 hg)
  have hS := sand_iff.1 hg
  have hS2 := sand_iff.1 hg2
  generalize decide (okR xs) = ob at *
  cases hc : canB xs ys
  · rw [hc] at hcon
    have hm := mFV_no (by rw [hr, hc])
    have Hg := Lib.hid hg; clear hg
    have Hm := Lib.hid hm; clear hm
    have Hg2 := Lib.hid hg2; clear hg2
    have Hcon := Lib.hid hcon; clear hcon
    have Hr := Lib.hid hr; clear hr
    have Hc := Lib.hid hc; clear hc
    have HS := Lib.hid hS; clear hS
    have HS2 := Lib.hid hS2; clear hS2
    go_enter Tryz.func7, Tryz.ntmps7
    go_wp2_with fail
    with_reducible refine (saGood_yes _ _ _ _ _ h HS.out).mono ?_
    rintro e w' ⟨rfl, rfl⟩
    go_wp2_with fail
    with_reducible refine (saGood_yes _ _ _ _ _ h' HS2.out).mono ?_
    rintro e w' ⟨rfl, rfl⟩
    go_wp2_with fail
    with_reducible refine (Hcon.out).mono ?_
    rintro e w1 ⟨rfl, hb1⟩
    go_wp2
    go_ret2
    rw [Hm.out]
    exact ⟨none, 0, 0, rfl, Own.nil _ _ _, hb1⟩
  · rw [hc] at hcon
    have hm := mFV_yes (by rw [hr, hc])
    have hnn := vec_nonneg hS.grains (canB_iff.1 hc).2
    have hlx := h.length
    have hly := h'.length
    have hnI := h.lenInt
    have hm12 : m ≤ 12 := by rw [← hly]; exact hS2.1
    have hn12 : n ≤ 12 := by rw [← hlx]; exact hS.1
    rw [hly] at hnn
    have hlt := last_trim hnn m
    have hvl : vecL xs ys = (vecT xs ys m).take (trimN (vecT xs ys m) m) := by unfold vecL; rw [hly]
    have htl := trimN_le (vecT xs ys m) m
    have hlast : ∀ k, k < m → lastN (vecT xs ys m) (k + 1) = if 0 < diffI xs ys (k + 1) then k + 1 else lastN (vecT xs ys m) k := fun k hk => by
      show (if 0 < (vecT xs ys m).getD k 0 then k + 1 else lastN (vecT xs ys m) k) = _
      rw [vecT_getD _ _ hk]
    have hdb := diff_bound hS.grains hS2.grains
    have hds := diffI_succ xs ys
    have hgx := grains_at hS.grains
    have hgy := grains_at hS2.grains
    have hpx : ∀ i, n ≤ i → xs.getD i 0 = 0 := fun i hi => getD_past (by omega)
    have Hg := Lib.hid hg; clear hg
    have Hm := Lib.hid hm; clear hm
    have Hg2 := Lib.hid hg2; clear hg2
    have Hcon := Lib.hid hcon; clear hcon
    have Hr := Lib.hid hr; clear hr
    have Hc := Lib.hid hc; clear hc
    have HS := Lib.hid hS; clear hS
    have HS2 := Lib.hid hS2; clear hS2
    have Hnn := Lib.hid hnn; clear hnn
    have Hlx := Lib.hid hlx; clear hlx
    have Hly := Lib.hid hly; clear hly
    have Hlt := Lib.hid hlt; clear hlt
    have Hvl := Lib.hid hvl; clear hvl
    have Htl := Lib.hid htl; clear htl
    have Hlast := Lib.hid hlast; clear hlast
    have Hdb := Lib.hid hdb; clear hdb
    have Hds := Lib.hid hds; clear hds
    have Hgx := Lib.hid hgx; clear hgx
    have Hgy := Lib.hid hgy; clear hgy
    have Hpx := Lib.hid hpx; clear hpx
    go_enter Tryz.func7, Tryz.ntmps7
    go_wp2_with fail
    with_reducible refine (saGood_yes _ _ _ _ _ h HS.out).mono ?_
    rintro e w' ⟨rfl, rfl⟩
    go_wp2_with fail
    with_reducible refine (saGood_yes _ _ _ _ _ h' HS2.out).mono ?_
    rintro e w' ⟨rfl, rfl⟩
    go_wp2_with fail
    with_reducible refine (Hcon.out).mono ?_
    rintro e w1 ⟨rfl, hb1⟩
    have h1 := h.keep hb1
    have h1' := h'.keep hb1
    go_wp2_with fail
    go_loopw [8, 9, 10, 31] (fun v s l i wr => ∃ (k : Nat) (a : Option Addr) (c : Nat) (d : Int) (q : Nat), k ≤ m ∧ i = .int .i64 k ∧ v = .slice a k c ∧ s = .int .i64 d ∧ l = .int .i64 q ∧ Hid (diffI xs ys k = d) ∧ Hid (lastN (vecT xs ys m) k = q) ∧ q ≤ k ∧ Own w.heap.size wr.heap.size wr a k c (vecT xs ys k) ∧ Below w.heap.size w wr) (fun _ _ _ i _ => m - (intOf i).toNat)
    case atStart => exact ⟨0, none, 0, 0, 0, Nat.zero_le _, rfl, rfl, rfl, rfl, Lib.hid (by simp [diffI]), Lib.hid rfl, Nat.le_refl _, Own.nil _ _ _, hb1⟩
    case round =>
      obtain ⟨k, a, c, d, q, hk, rfl, rfl, rfl, rfl, Hd, Hq, hqk, hown, hb⟩ := hrel
      clear hb1 h1 h1'
      have hd := Hdb.out k
      rw [Hd.out] at hd
      by_cases hlt : k < m
      · have h2 := h.keep hb
        have h2' := h'.keep hb
        obtain ⟨b1, o1, rfl, hb1, hc1⟩ := h2'.cell k hlt
        have hck1 := hc1 k hlt
        clear hc1
        generalize hx1 : ys.getD k 0 = y at hck1
        have Hx1 := Lib.hid hx1; clear hx1
        have hyy := Hgy.out k
        rw [Hx1.out] at hyy
        have hd2 := Hdb.out (k + 1)
        have hsc := Hds.out k
        rw [Hd.out, Hx1.out] at hsc
        have hvs := vecT_succ xs ys k
        have hla := Hlast.out k hlt
        by_cases hkn : k < n
        · obtain ⟨b2, o2, rfl, hbl2, hc2⟩ := h2.cell k hkn
          have hckx := hc2 k hkn
          clear hc2
          have hxx := Hgx.out k
          generalize xs.getD k 0 = x at *
          have hkI : (k : Int) < n := by omega
          generalize hDD : diffI xs ys (k + 1) = D at *
          have hDe : D = d - y + x := hsc
          by_cases hD : 0 < D
          · rw [if_pos hD] at hla
            have hDs : (0 : Int) < d - y + x := by omega
            have Hvs := Lib.hid hvs; clear hvs
            have Hla := Lib.hid hla; clear hla
            have Hsc := Lib.hid hsc; clear hsc
            have HDD := Lib.hid hDD; clear hDD
            have HDe := Lib.hid hDe; clear hDe
            go_wp2_with (at_builtin; refine wpList_push wr rfl _ _ rfl w.heap.size wr.heap.size a k c _ rfl hown _ rfl (by omega) hb.size ?_)
            intro a3 c3 w3 ho3 hc3
            have hb3 := hb.trans (hown.chgBelow hc3 hb.size)
            clear hown hc3 h2 h2' hb
            go_wp2
            go_roundw
            case rel => exact ⟨k + 1, a3, c3, d - y + x, k + 1, by omega, by go_num, rfl, rfl, by go_num, Lib.hid (by rw [HDD.out]; exact HDe.out), Lib.hid Hla.out, Nat.le_refl _, by rw [Hvs.out, HDe.out]; exact ho3, hb3⟩
            case measure => simp [intOf]; omega
          · rw [if_neg hD] at hla
            have hDs : ¬ ((0 : Int) < d - y + x) := by omega
            have Hvs := Lib.hid hvs; clear hvs
            have Hla := Lib.hid hla; clear hla
            have Hsc := Lib.hid hsc; clear hsc
            have HDD := Lib.hid hDD; clear hDD
            have HDe := Lib.hid hDe; clear hDe
            go_wp2_with (at_builtin; refine wpList_push wr rfl _ _ rfl w.heap.size wr.heap.size a k c _ rfl hown _ rfl (by omega) hb.size ?_)
            intro a3 c3 w3 ho3 hc3
            have hb3 := hb.trans (hown.chgBelow hc3 hb.size)
            clear hown hc3 h2 h2' hb
            go_wp2
            go_roundw
            case rel => exact ⟨k + 1, a3, c3, d - y + x, q, by omega, by go_num, rfl, rfl, rfl, Lib.hid (by rw [HDD.out]; exact HDe.out), Lib.hid (by rw [Hla.out]; exact Hq.out), by omega, by rw [Hvs.out, HDe.out]; exact ho3, hb3⟩
            case measure => simp [intOf]; omega
        · rw [Hpx.out k (by omega), Int.add_zero] at hsc
          have hkI : ¬ ((k : Int) < n) := by omega
          generalize hDD : diffI xs ys (k + 1) = D at *
          have hDe : D = d - y := hsc
          by_cases hD : 0 < D
          · rw [if_pos hD] at hla
            have hDs : (0 : Int) < d - y := by omega
            have Hvs := Lib.hid hvs; clear hvs
            have Hla := Lib.hid hla; clear hla
            have Hsc := Lib.hid hsc; clear hsc
            have HDD := Lib.hid hDD; clear hDD
            have HDe := Lib.hid hDe; clear hDe
            go_wp2_with (at_builtin; refine wpList_push wr rfl _ _ rfl w.heap.size wr.heap.size a k c _ rfl hown _ rfl (by omega) hb.size ?_)
            intro a3 c3 w3 ho3 hc3
            have hb3 := hb.trans (hown.chgBelow hc3 hb.size)
            clear hown hc3 h2 h2' hb
            go_wp2
            go_roundw
            case rel => exact ⟨k + 1, a3, c3, d - y, k + 1, by omega, by go_num, rfl, rfl, by go_num, Lib.hid (by rw [HDD.out]; exact HDe.out), Lib.hid Hla.out, Nat.le_refl _, by rw [Hvs.out, HDe.out]; exact ho3, hb3⟩
            case measure => simp [intOf]; omega
          · rw [if_neg hD] at hla
            have hDs : ¬ ((0 : Int) < d - y) := by omega
            have Hvs := Lib.hid hvs; clear hvs
            have Hla := Lib.hid hla; clear hla
            have Hsc := Lib.hid hsc; clear hsc
            have HDD := Lib.hid hDD; clear hDD
            have HDe := Lib.hid hDe; clear hDe
            go_wp2_with (at_builtin; refine wpList_push wr rfl _ _ rfl w.heap.size wr.heap.size a k c _ rfl hown _ rfl (by omega) hb.size ?_)
            intro a3 c3 w3 ho3 hc3
            have hb3 := hb.trans (hown.chgBelow hc3 hb.size)
            clear hown hc3 h2 h2' hb
            go_wp2
            go_roundw
            case rel => exact ⟨k + 1, a3, c3, d - y, q, by omega, by go_num, rfl, rfl, rfl, Lib.hid (by rw [HDD.out]; exact HDe.out), Lib.hid (by rw [Hla.out]; exact Hq.out), by omega, by rw [Hvs.out, HDe.out]; exact ho3, hb3⟩
            case measure => simp [intOf]; omega
      · obtain rfl : m = k := by omega
        have hqe : trimN (vecT xs ys m) m = q := by rw [← Hlt.out]; exact Hq.out
        have hve := Hvl.out
        rw [hqe] at hve
        obtain ⟨hsl, hi2⟩ := slUptoOwn hown q hqk .i64
        rw [← hve] at hi2
        clear hown
        have Hqe := Lib.hid hqe; clear hqe
        have Hve := Lib.hid hve; clear hve
        go_wp2
        go_ret2
        rw [Hm.out]
        exact ⟨_, _, _, rfl, hi2, hb⟩
end
end Go.Proofs.YtdfmljkjidepeaaGreatDoor
namespace Go.Proofs.YtdfmljkjidepeaaGreatDoor
section
open Go.RowKit
set_option linter.unusedVariables false
set_option linter.unusedSimpArgs false
set_option maxRecDepth 20000

set_option maxHeartbeats 800000 in
theorem eqPredS_any (ao bo : Option Addr) (n m cap cap' B : Nat) (xs ys : List Int) (w : World) (hx : IntsAt w ao n cap xs) (hy : IntsAt w bo m cap' ys) (hc : w.cell? ⟨B, 0, none⟩ = some (.slice bo m cap')) :
    Calls Tryz.prog 28 #[.slice ao n cap, .pointer (some ⟨B, 0, none⟩)] w fun e w' => e = .returned (.bool (decide (xs = ys))) ∧ Below w.heap.size w w' := by
  have hcon := equal_any ao bo n m cap cap' xs ys w hx hy
  have Hcon := Lib.hid hcon; clear hcon
  go_enter Tryz.func28, Tryz.ntmps28
  go_wp2_with fail
  with_reducible refine (Hcon.out).mono ?_
  rintro e w' ⟨rfl, q, rfl⟩
  go_wp2
  go_ret
  exact ⟨rfl, belowDrewN (Below.refl _ _) q⟩
theorem containsEq_any (ao bo : Option Addr) (n m cap cap' B : Nat) (xss : List (List Int)) (ys : List Int) (w : World) (h : RowsAt w ao n cap xss) (hn : n ≤ 4000) (hy : IntsAt w bo m cap' ys) (hB : B < w.heap.size) (hc : w.cell? ⟨B, 0, none⟩ = some (.slice bo m cap')) :
    Calls Tryz.prog 27 #[.slice ao n cap, .func (.func 28) #[] #[.pointer (some ⟨B, 0, none⟩)]] w fun e w' => e = .returned (.bool (decide (ys ∈ xss))) ∧ Below w.heap.size w w' := by
  have hcon := indexBy_any _ (fun x => decide (x = ys)) ao n cap xss w h hn 28 #[.pointer (some ⟨B, 0, none⟩)] rfl (fun a m2 c x W hb hi => by
    have := eqPredS_any a bo m2 m c cap' B x ys W hi (hy.keep hb) (by rw [hb.cell (p := ⟨B, 0, none⟩) hB]; exact hc)
    exact this) (.inr ⟨B, rfl, rfl⟩)
  have Hcon := Lib.hid hcon; clear hcon
  go_enter Tryz.func27, Tryz.ntmps27
  go_wp2_with fail
  with_reducible refine (Hcon.out).mono ?_
  rintro e w1 ⟨r, rfl, hr, hb⟩
  rcases hr with ⟨rfl, hno⟩ | ⟨hr0, x, hx, hs⟩
  · have hd : decide (ys ∈ xss) = false := decide_eq_false fun hm => by
      have := hno ys hm
      simp at this
    have Hno := Lib.hid hno; clear hno
    have Hd := Lib.hid hd; clear hd
    go_wp2
    go_ret
    exact ⟨by rw [Hd.out]; rfl, hb⟩
  · have hd : decide (ys ∈ xss) = true := decide_eq_true (by
      have e : x = ys := of_decide_eq_true hs
      rw [← e]; exact hx)
    have Hx := Lib.hid hx; clear hx
    have Hs := Lib.hid hs; clear hs
    have Hd := Lib.hid hd; clear hd
    go_wp2
    go_ret
    exact ⟨by rw [Hd.out]; simp [hr0], hb⟩

set_option maxHeartbeats 1600000 in
theorem impl_CanReach (ao : Option Addr) (n cap : Nat) (xs : List Int) (bo : Option Addr) (m cap' : Nat) (ys : List Int) (w : World) (h : IntsAt w ao n cap xs) (h' : IntsAt w bo m cap' ys) :
    Calls Tryz.prog 10 #[.slice ao n cap, .slice bo m cap'] w fun e w' => e = .returned (.tuple #[.bool (mCanReach xs ys).1, .bool (mCanReach xs ys).2]) ∧ Below w.heap.size w w' := by
  have hba := belowAlloc w (.cells #[.slice bo m cap'] 24)
  have hxa := h.keep hba
  have hya := h'.keep hba
  have hsz : (w.alloc (.cells #[.slice bo m cap'] 24)).heap.size = w.heap.size + 1 := by simp
  have hcell : ∀ W, Below (w.heap.size + 1) (w.alloc (.cells #[.slice bo m cap'] 24)) W → W.cell? ⟨w.heap.size, 0, none⟩ = some (.slice bo m cap') := fun W hW => by
    rw [hW.cell (p := ⟨w.heap.size, 0, none⟩) (by show w.heap.size < _; omega), World.cell?_alloc_at _ _ _ _ rfl]; rfl
  have hcon := impl_ReachSand ao n cap xs _ hxa
  have hmf : ∀ (fn : Fn) (first cap : Array Value) (w : World), (Instr.makeFunc fn first cap).run Tryz.prog w = .ok (.func fn first cap) w := fun _ _ _ _ => rfl
  cases hg : sandB xs
  · have hm := mCan_no1 (ys := ys) hg
    rw [mReach_no1 hg] at hcon
    have Hg := Lib.hid hg; clear hg
    have Hm := Lib.hid hm; clear hm
    have Hcon := Lib.hid hcon; clear hcon
    have Hba := Lib.hid hba; clear hba
    have Hcell := Lib.hid hcell; clear hcell
    have Hsz := Lib.hid hsz; clear hsz
    go_enter Tryz.func10, Tryz.ntmps10
    go_wp2_with fail
    with_reducible refine (Hcon.out).mono ?_
    rintro e w1 ⟨a1, n1, c1, rfl, ho1, hb1⟩
    have hbf := belowTrans Hba.out hb1 (Nat.le_refl _)
    clear ho1
    go_wp2
    go_ret2
    rw [Hm.out]
    exact ⟨rfl, hbf⟩
  by_cases hok : okR xs
  · rw [mReach_yes hg hok] at hcon
    cases hg2 : sandB ys
    · have hm := mCan_no2 (xs := xs) hg2
      have Hg := Lib.hid hg; clear hg
      have Hm := Lib.hid hm; clear hm
      have Hcon := Lib.hid hcon; clear hcon
      have Hba := Lib.hid hba; clear hba
      have Hcell := Lib.hid hcell; clear hcell
      have Hsz := Lib.hid hsz; clear hsz
      have Hok := Lib.hid hok; clear hok
      have Hg2 := Lib.hid hg2; clear hg2
      go_enter Tryz.func10, Tryz.ntmps10
      go_wp2_with fail
      with_reducible refine (Hcon.out).mono ?_
      rintro e w1 ⟨a1, n1, c1, rfl, ho1, hb1⟩
      have hb1' := hb1.mono (show w.heap.size + 1 ≤ _ by rw [Hsz.out]; exact Nat.le_refl _)
      have hc1 := Hcell.out w1 hb1'
      have hbf := belowTrans Hba.out hb1 (Nat.le_refl _)
      have hy1 := hya.keep hb1
      clear ho1 hb1 hb1'
      go_wp2_with fail
      with_reducible refine (isSand_no _ _ _ _ _ hy1 Hg2.out).mono ?_
      rintro e w' ⟨rfl, rfl⟩
      go_wp2
      go_ret2
      rw [Hm.out]
      exact ⟨rfl, hbf⟩
    · have hm := mCan_yes hg hg2
      rw [decide_eq_true hok] at hm
      have hcb : canB xs ys = decide (ys ∈ rchL xs) := rfl
      have hlen := rchL_len xs
      have Hg := Lib.hid hg; clear hg
      have Hm := Lib.hid hm; clear hm
      have Hcon := Lib.hid hcon; clear hcon
      have Hba := Lib.hid hba; clear hba
      have Hcell := Lib.hid hcell; clear hcell
      have Hsz := Lib.hid hsz; clear hsz
      have Hok := Lib.hid hok; clear hok
      have Hg2 := Lib.hid hg2; clear hg2
      have Hcb := Lib.hid hcb; clear hcb
      go_enter Tryz.func10, Tryz.ntmps10
      go_wp2_with fail
      with_reducible refine (Hcon.out).mono ?_
      rintro e w1 ⟨a1, n1, c1, rfl, ho1, hb1⟩
      have hb1' := hb1.mono (show w.heap.size + 1 ≤ _ by rw [Hsz.out]; exact Nat.le_refl _)
      have hc1 := Hcell.out w1 hb1'
      have hw1 : w.heap.size < w1.heap.size := by have := hb1.size; rw [Hsz.out] at this; omega
      have hbf := belowTrans Hba.out hb1 (Nat.le_refl _)
      have hy1 := hya.keep hb1
      have hl1 : (rchL xs).length = n1 := ho1.length
      have hk := containsEq_any a1 bo n1 m c1 cap' w.heap.size (rchL xs) ys w1 ho1.at (by omega) hy1 hw1 hc1
      rw [← Hcb.out] at hk
      clear ho1 hb1 hb1'
      have Hk := Lib.hid hk; clear hk
      have Hl1 := Lib.hid hl1; clear hl1
      go_wp2_with fail
      with_reducible refine (isSand_yes _ _ _ _ _ hy1 (sand_iff.1 Hg2.out)).mono ?_
      rintro e w' ⟨rfl, rfl⟩
      go_wp2_with fail
      with_reducible refine (Hk.out).mono ?_
      rintro e w2 ⟨rfl, hb2⟩
      have hbg := belowTrans hbf hb2 (Nat.le_refl _)
      go_wp2
      go_ret2
      rw [Hm.out]
      exact ⟨rfl, hbg⟩
  · rw [mReach_no2 hok] at hcon
    have hm : mCanReach xs ys = (false, false) := by
      cases hg2 : sandB ys
      · exact mCan_no2 hg2
      · rw [mCan_yes hg hg2, decide_eq_false hok]
        have : canB xs ys = false := by unfold canB; rw [rchL_no hok]; simp
        rw [this]
    have Hg := Lib.hid hg; clear hg
    have Hm := Lib.hid hm; clear hm
    have Hcon := Lib.hid hcon; clear hcon
    have Hba := Lib.hid hba; clear hba
    have Hcell := Lib.hid hcell; clear hcell
    have Hsz := Lib.hid hsz; clear hsz
    have Hok := Lib.hid hok; clear hok
    go_enter Tryz.func10, Tryz.ntmps10
    go_wp2_with fail
    with_reducible refine (Hcon.out).mono ?_
    rintro e w1 ⟨a1, n1, c1, rfl, ho1, hb1⟩
    have hbf := belowTrans Hba.out hb1 (Nat.le_refl _)
    clear ho1
    go_wp2
    go_ret2
    rw [Hm.out]
    exact ⟨rfl, hbf⟩

theorem reaches_any (ao : Option Addr) (n cap : Nat) (xs : List Int) (bo : Option Addr) (m cap' : Nat) (ys : List Int) (w : World) (h : IntsAt w ao n cap xs) (h' : IntsAt w bo m cap' ys) :
    Calls Tryz.prog 20 #[.slice ao n cap, .slice bo m cap'] w fun e w' => e = .returned (.bool (reaB xs ys)) ∧ Below w.heap.size w w' := by
  have hcon := impl_CanReach ao n cap xs bo m cap' ys w h h'
  have hr : reaB xs ys = ((mCanReach xs ys).2 && (mCanReach xs ys).1) := by
    cases hg : sandB xs
    · rw [mCan_no1 hg, reaB_no1 hg]; rfl
    · cases hg2 : sandB ys
      · rw [mCan_no2 hg2, reaB_no2 hg2]; rfl
      · rw [mCan_yes hg hg2, reaB_yes hg hg2]
        by_cases hok : okR xs
        · rw [decide_eq_true hok]; simp
        · have : canB xs ys = false := by unfold canB; rw [rchL_no hok]; simp
          rw [this]; simp
  generalize mCanReach xs ys = M at *
  obtain ⟨b1, b2⟩ := M
  have Hcon := Lib.hid hcon; clear hcon
  have Hr := Lib.hid hr; clear hr
  go_enter Tryz.func20, Tryz.ntmps20
  go_wp2_with fail
  with_reducible refine (Hcon.out).mono ?_
  rintro e w1 ⟨rfl, hb1⟩
  cases b2
  · go_wp2
    go_ret
    exact ⟨by rw [Hr.out]; rfl, hb1⟩
  · go_wp2
    go_ret
    exact ⟨by rw [Hr.out]; simp, hb1⟩

theorem impl_FallsBetween (ao : Option Addr) (n cap : Nat) (xs : List Int) (bo : Option Addr) (m cap' : Nat) (ys : List Int) (w : World) (h : IntsAt w ao n cap xs) (h' : IntsAt w bo m cap' ys) :
    Calls Tryz.prog 8 #[.slice ao n cap, .slice bo m cap'] w fun e w' => e = .returned (.tuple #[.int .i64 (mFallsBetween xs ys).1, .bool (mFallsBetween xs ys).2]) ∧ Below w.heap.size w w' := by
  have hcon := reaches_any ao n cap xs bo m cap' ys w h h'
  cases hr : reaB xs ys
  · rw [hr] at hcon
    have hm := mFB_no hr
    have Hcon := Lib.hid hcon; clear hcon
    have Hr := Lib.hid hr; clear hr
    have Hm := Lib.hid hm; clear hm
    go_enter Tryz.func8, Tryz.ntmps8
    go_wp2_with fail
    with_reducible refine (Hcon.out).mono ?_
    rintro e w1 ⟨rfl, hb1⟩
    go_wp2
    go_ret2
    rw [Hm.out]
    exact ⟨rfl, hb1⟩
  · rw [hr] at hcon
    have hm := mFB_yes hr
    obtain ⟨hS, hS2, _, _⟩ := reaB_iff.1 hr
    have hw1 := hS.grains.wt
    have hw2 := hS2.grains.wt
    have hwa := fun W hh => impl_WeightOf ao n cap xs W hh
    have hwb := fun W hh => impl_WeightOf bo m cap' ys W hh
    rw [mWeight_yes (sand_iff.2 hS)] at hwa
    rw [mWeight_yes (sand_iff.2 hS2)] at hwb
    generalize wt 0 xs = p at *
    generalize wt 0 ys = q at *
    have Hcon := Lib.hid hcon; clear hcon
    have Hr := Lib.hid hr; clear hr
    have Hm := Lib.hid hm; clear hm
    have HS := Lib.hid hS; clear hS
    have HS2 := Lib.hid hS2; clear hS2
    have Hwa := Lib.hid hwa; clear hwa
    have Hwb := Lib.hid hwb; clear hwb
    go_enter Tryz.func8, Tryz.ntmps8
    go_wp2_with fail
    with_reducible refine (Hcon.out).mono ?_
    rintro e w1 ⟨rfl, hb1⟩
    go_wp2_with fail
    with_reducible refine (Hwa.out _ (h.keep hb1)).mono ?_
    rintro e w2 ⟨rfl, hb2⟩
    have hb12 := belowTrans hb1 hb2 (Nat.le_refl _)
    go_wp2_with fail
    with_reducible refine (Hwb.out _ (h'.keep hb12)).mono ?_
    rintro e w3 ⟨rfl, hb3⟩
    have hb13 := belowTrans hb12 hb3 (Nat.le_refl _)
    go_wp2
    go_ret2
    rw [Hm.out]
    exact ⟨rfl, hb13⟩
end
end Go.Proofs.YtdfmljkjidepeaaGreatDoor
namespace Go.Proofs.YtdfmljkjidepeaaGreatDoor
section
open Go.RowKit
set_option linter.unusedVariables false
set_option linter.unusedSimpArgs false
set_option maxRecDepth 20000

set_option maxHeartbeats 3200000 in
theorem impl_FallVector (ao : Option Addr) (n cap : Nat) (xs : List Int) (bo : Option Addr) (m cap' : Nat) (ys : List Int) (w : World) (h : IntsAt w ao n cap xs) (h' : IntsAt w bo m cap' ys) :
    Calls Tryz.prog 6 #[.slice ao n cap, .slice bo m cap'] w fun e w' => ∃ ao' n' cap', e = .returned (.tuple #[.slice ao' n' cap', .bool (mFallVector xs ys).2]) ∧ Own w.heap.size w'.heap.size w' ao' n' cap' (mFallVector xs ys).1 ∧ Below w.heap.size w w' := by
  have hcon := reaches_any ao n cap xs bo m cap' ys w h h'
  cases hr : reaB xs ys
  · rw [hr] at hcon
    have hm := mFV_no hr
    have Hcon := Lib.hid hcon; clear hcon
    have Hr := Lib.hid hr; clear hr
    have Hm := Lib.hid hm; clear hm
    go_enter Tryz.func6, Tryz.ntmps6
    go_wp2_with fail
    with_reducible refine (Hcon.out).mono ?_
    rintro e w1 ⟨rfl, hb1⟩
    go_wp2
    go_ret2
    rw [Hm.out]
    exact ⟨none, 0, 0, rfl, Own.nil _ _ _, hb1⟩
  rw [hr] at hcon
  have hm := mFV_yes hr
  obtain ⟨hS, hS2, _, _⟩ := reaB_iff.1 hr
  have hlx := h.length
  have hly := h'.length
  have hnI := h.lenInt
  have hm12 : m ≤ 12 := by rw [← hly]; exact hS2.1
  have hn12 : n ≤ 12 := by rw [← hlx]; exact hS.1
  have hvl : vecL xs ys = (vecT xs ys m).take (trimN (vecT xs ys m) m) := by unfold vecL; rw [hly]
  have hVl := vecT_length xs ys m
  have hVg : ∀ k, k < m → (vecT xs ys m).getD k 0 = diffI xs ys (k + 1) := fun k hk => vecT_getD xs ys hk
  have hdb := diff_bound hS.grains hS2.grains
  have hds := diffI_succ xs ys
  have hgx := grains_at hS.grains
  have hgy := grains_at hS2.grains
  have hpx : ∀ i, n ≤ i → xs.getD i 0 = 0 := fun i hi => getD_past (by omega)
  generalize vecT xs ys m = V at *
  obtain ⟨i0, hi, hz0, hz1, hz2⟩ := info_parts Tryz.infoInt
  have Hcon := Lib.hid hcon; clear hcon
  have Hr := Lib.hid hr; clear hr
  have Hm := Lib.hid hm; clear hm
  have HS := Lib.hid hS; clear hS
  have HS2 := Lib.hid hS2; clear hS2
  have Hlx := Lib.hid hlx; clear hlx
  have Hly := Lib.hid hly; clear hly
  have Hvl := Lib.hid hvl; clear hvl
  have HVl := Lib.hid hVl; clear hVl
  have HVg := Lib.hid hVg; clear hVg
  have Hdb := Lib.hid hdb; clear hdb
  have Hds := Lib.hid hds; clear hds
  have Hgx := Lib.hid hgx; clear hgx
  have Hgy := Lib.hid hgy; clear hgy
  have Hpx := Lib.hid hpx; clear hpx
  go_enter Tryz.func6, Tryz.ntmps6
  go_wp2_with fail
  with_reducible refine (Hcon.out).mono ?_
  rintro e w1 ⟨rfl, hb1⟩
  go_wp2_with (at_make; refine wpList_make_full w1 rfl _ _ _ rfl w1.heap.size 3 i0 _ 1 Tryz.underlying24 hi hz0 hz1 _ _ _ _ m rfl rfl rfl rfl ?_ ?_ (Nat.le_refl _) ?_)
  · rw [hz2]; omega
  · unfold maxLen; omega
  intro w2 hown hgrow
  rw [madeZeros] at hown
  have ho : Own w1.heap.size w2.heap.size w2 (some ⟨w1.heap.size, 0, none⟩) m m (V.take 0 ++ List.replicate (m - 0) 0) := by simpa using Own.of hown
  have hb2 : Below w1.heap.size w1 w2 := (Below.refl _ _).grown hgrow (Nat.le_refl _) (fun k hk => by cases hk)
  clear hown hgrow hi hz0 hz1 hz2
  generalize hBe : w1.heap.size = B at *
  have hws : w.heap.size ≤ B := by rw [← hBe]; exact hb1.size
  have hbw : Below w.heap.size w w2 := hb1.trans (hb2.mono hws)
  have HBe := Lib.hid hBe; clear hBe
  clear hb2
  go_wp2_with fail
  go_loopw [6, 18] (fun s i wr => ∃ (k : Nat) (d : Int), k ≤ m ∧ i = .int .i64 k ∧ s = .int .i64 d ∧ Hid (diffI xs ys k = d) ∧ Own B wr.heap.size wr (some ⟨B, 0, none⟩) m m (V.take k ++ List.replicate (m - k) 0) ∧ Below w.heap.size w wr) (fun _ i _ => m - (intOf i).toNat)
  case atStart => exact ⟨0, 0, Nat.zero_le _, rfl, rfl, Lib.hid (by simp [diffI]), ho, hbw⟩
  case round =>
    obtain ⟨k, d, hk, rfl, rfl, Hd, hown, hb⟩ := hrel
    clear ho hbw
    have hd := Hdb.out k
    rw [Hd.out] at hd
    by_cases hlt : k < m
    · have h2 := h.keep hb
      have h2' := h'.keep hb
      obtain ⟨b1, o1, rfl, hb1, hc1⟩ := h2'.cell k hlt
      have hck1 := hc1 k hlt
      clear hc1
      generalize hx1 : ys.getD k 0 = y at hck1
      have Hx1 := Lib.hid hx1; clear hx1
      have hyy := Hgy.out k
      rw [Hx1.out] at hyy
      have hd2 := Hdb.out (k + 1)
      have hsc := Hds.out k
      rw [Hd.out, Hx1.out] at hsc
      have hfz := hown.frozenAt k
      have hcl := getD_cells hown k hlt
      obtain ⟨u0, hu0⟩ : ∃ u : Int, (V.take k ++ List.replicate (m - k) 0).getD k 0 = u := ⟨_, rfl⟩
      rw [hu0] at hcl
      have hset := hown.set k (diffI xs ys (k + 1))
      rw [fill_set V k m _ (HVg.out k hlt) hlt HVl.out] at hset
      have hbb := hb.setCell (p := ⟨B, k, none⟩) hws (.int .i64 (diffI xs ys (k + 1)))
      have hset1 := hset.1.mono (Nat.le_refl _) (show wr.heap.size ≤ (wr.setCell ⟨B, k, none⟩ (.int .i64 (diffI xs ys (k + 1)))).heap.size by simp)
      by_cases hkn : k < n
      · obtain ⟨b2, o2, rfl, hbl2, hc2⟩ := h2.cell k hkn
        have hckx := hc2 k hkn
        clear hc2
        have hxx := Hgx.out k
        generalize xs.getD k 0 = x at *
        have hkI : (k : Int) < n := by omega
        generalize hDD : diffI xs ys (k + 1) = D at *
        subst hsc
        clear hown hset h2 h2' hb
        have HDD := Lib.hid hDD; clear hDD
        have Hset1 := Lib.hid hset1; clear hset1
        have Hbb := Lib.hid hbb; clear hbb
        have Hu0 := Lib.hid hu0; clear hu0
        go_wp2
        go_roundw
        case rel => exact ⟨k + 1, d - y + x, by omega, by go_num, rfl, HDD, Hset1.out, Hbb.out⟩
        case measure => simp [intOf]; omega
      · rw [Hpx.out k (by omega), Int.add_zero] at hsc
        have hkI : ¬ ((k : Int) < n) := by omega
        generalize hDD : diffI xs ys (k + 1) = D at *
        subst hsc
        clear hown hset h2 h2' hb
        have HDD := Lib.hid hDD; clear hDD
        have Hset1 := Lib.hid hset1; clear hset1
        have Hbb := Lib.hid hbb; clear hbb
        have Hu0 := Lib.hid hu0; clear hu0
        go_wp2
        go_roundw
        case rel => exact ⟨k + 1, d - y, by omega, by go_num, rfl, HDD, Hset1.out, Hbb.out⟩
        case measure => simp [intOf]; omega
    · obtain rfl : m = k := by omega
      have hfa := fill_all V m HVl.out
      rw [hfa] at hown
      have Hfa := Lib.hid hfa; clear hfa
      obtain ⟨wo, hwo⟩ : ∃ wo : World, wo = wr := ⟨_, rfl⟩
      subst hwo
      go_wp2_with fail
      go_loopw [7] (fun v wr => ∃ q : Nat, q ≤ m ∧ v = .slice (some ⟨B, 0, none⟩) q m ∧ Hid (trimN V q = trimN V m) ∧ Own B wr.heap.size wr (some ⟨B, 0, none⟩) m m V ∧ Below w.heap.size w wr) (fun v _ => lenOf v)
      case atStart => exact ⟨m, Nat.le_refl _, rfl, Lib.hid rfl, hown, hb⟩
      case round =>
        obtain ⟨q, hq, rfl, Hq, hown, hb⟩ := hrel
        by_cases hz : q = 0
        · subst hz
          have hve := Hvl.out
          rw [← Hq.out] at hve
          have hfin : Own B wr.heap.size wr (some ⟨B, 0, none⟩) 0 m (vecL xs ys) := by
            rw [hve]; exact (slUptoOwn hown 0 (Nat.zero_le _) .i64).2
          clear hown
          have Hve := Lib.hid hve; clear hve
          have Hfin := Lib.hid hfin; clear hfin
          go_wp2
          go_ret2
          rw [Hm.out]
          exact ⟨_, _, _, rfl, Hfin.out.mono hws (Nat.le_refl _), hb⟩
        · obtain ⟨p, rfl⟩ : ∃ p, q = p + 1 := ⟨q - 1, by omega⟩
          have hcl := getD_cells hown p (by omega)
          generalize hv : V.getD p 0 = v at hcl
          have ep : (((p + 1 : Nat)) : Int) - 1 = (p : Int) := by omega
          have ep2 : (p : Int) + 1 - 1 = (p : Int) := by omega
          obtain ⟨hsl, hcut⟩ := slUptoOwn hown (p + 1) hq .i64
          have hsl2 : ∀ W : World, (Instr.sliceAt 24 (.slice (some ⟨B, 0, none⟩) (p + 1) m) none (some (.int .i64 (p : Int))) none).run Tryz.prog W = .ok (.slice (some ⟨B, 0, none⟩) p m) W := (slUptoOwn hcut p (by omega) .i64).1
          by_cases hv0 : v = 0
          · have htr : trimN V p = trimN V m := by
              rw [← Hq.out]
              show trimN V p = if V.getD p 0 = 0 then trimN V p else p + 1
              rw [hv, if_pos hv0]
            subst hv0
            clear hcut hsl
            have Hv := Lib.hid hv; clear hv
            have Htr := Lib.hid htr; clear htr
            go_wp2
            go_roundw
            case rel => exact ⟨p, by omega, rfl, Htr, hown, hb⟩
            case measure => show p < p + 1; omega
          · have htr : trimN V m = p + 1 := by
              rw [← Hq.out]
              show (if V.getD p 0 = 0 then trimN V p else p + 1) = p + 1
              rw [hv, if_neg hv0]
            have hve := Hvl.out
            rw [htr] at hve
            rw [← hve] at hcut
            have hd0 : (v == 0) = false := by simpa using hv0
            clear hown hsl
            have Hv := Lib.hid hv; clear hv
            have Htr := Lib.hid htr; clear htr
            have Hve := Lib.hid hve; clear hve
            have Hcut := Lib.hid hcut; clear hcut
            have Hv0 := Lib.hid hv0; clear hv0
            go_wp2
            go_ret2
            rw [Hm.out]
            exact ⟨_, _, _, rfl, Hcut.out.mono hws (Nat.le_refl _), hb⟩

/-! ### LowestOf -/
theorem place_canB {xs ys : List Int} {r : Int} (h : PlaceIs (rchL xs) ys r) : (r = -1 ∧ canB xs ys = false) ∨ (0 ≤ r ∧ canB xs ys = true) := by
  rcases place_iff h with ⟨h1, h2⟩ | ⟨h1, h2⟩
  · exact .inl ⟨h1, decide_eq_false h2⟩
  · exact .inr ⟨h1, decide_eq_true h2⟩
end
end Go.Proofs.YtdfmljkjidepeaaGreatDoor
