/- Chapter 6 by the model: what falls reach. No condition. -/
import Derived.Test.YtdfmljkjidepeaaGreatDoorSaB
import Derived.Test.YtdfmljkjidepeaaGreatDoorGf
import Derived.Test.YtdfmljkjidepeaaGreatDoorTail
import Derived.Test.YtdfmljkjidepeaaGreatDoorGy
namespace Go.Proofs.YtdfmljkjidepeaaGreatDoor
open Go.RowKit
set_option linter.unusedVariables false
set_option linter.unusedSimpArgs false
set_option maxRecDepth 20000

theorem beh_at {xs : List Int} {r : Nat} (hr : r < (fallsL xs).length) : ∃ i : Nat, (fallsL xs).getD r 0 = (i : Int) ∧ (behL xs).getD r [] = fallL xs i ∧ i < xs.length ∧ steepB xs i = true := by
  unfold fallsL fallsT at hr
  rw [List.length_map] at hr
  obtain ⟨h1, h2⟩ := fallsN_mem.1 (List.getElem_mem hr)
  refine ⟨(fallsN xs xs.length)[r], ?_, ?_, h1, h2⟩
  · unfold fallsL fallsT
    rw [List.getD_eq_getElem?_getD, List.getElem?_map, List.getElem?_eq_getElem hr]; rfl
  · unfold behL behT
    rw [List.getD_eq_getElem?_getD, List.getElem?_map, List.getElem?_eq_getElem hr]; rfl
theorem beh_len (xs : List Int) : (behL xs).length = (fallsL xs).length := by unfold behL behT fallsL fallsT; simp
/-- a spine that is grown beside another one -/
theorem Sp.chgBy {B E C D B' E' w w' ao n cap vs xss ao' n' cap' us} (h : Sp B E C D w ao n cap vs xss) (k : OwnRow B' E' w 24 ao' n' cap' us) (hc : Chg (fun q => (Value.slice ao' n' cap').ownBlock = some q) w w')
    (hap : ∀ g, (Value.slice ao' n' cap').ownBlock = some g → (Value.slice ao n cap).ownBlock ≠ some g) : Sp B E C D w' ao n cap vs xss :=
  ⟨h.spine.chg hc fun g _ _ h1 h2 => hap g h2 h1, h.rows.chgSpine k hc⟩
theorem place_iff {xss : List (List Int)} {ys : List Int} {r : Int} (h : PlaceIs xss ys r) : (r = -1 ∧ ys ∉ xss) ∨ (0 ≤ r ∧ ys ∈ xss) := by
  rcases h with ⟨h1, h2⟩ | ⟨k, h1, h2, h3, h4⟩
  · exact .inl ⟨h1, h2⟩
  · refine .inr ⟨by omega, ?_⟩
    rw [← h3, List.getD_eq_getElem?_getD, List.getElem?_eq_getElem h2]
    exact List.getElem_mem h2

structure RcSt (B : Nat) (wo wr : World) (a : Option Addr) (n c : Nat) (vs : List Value) (Z : List (List Int)) (a2 : Option Addr) (n2 c2 : Nat) (us : List Value) (N : List (List Int)) : Prop where
  out : Sp B wr.heap.size B wr.heap.size wr a n c vs Z
  next : Sp wo.heap.size wr.heap.size B wr.heap.size wr a2 n2 c2 us N
  ap : ∀ g, (Value.slice a2 n2 c2).ownBlock = some g → (Value.slice a n c).ownBlock ≠ some g
  bel : Below wo.heap.size wo wr
theorem RcSt.keep {B wo wr w' a n c vs Z a2 n2 c2 us N} (h : RcSt B wo wr a n c vs Z a2 n2 c2 us N) (hb : Below wr.heap.size wr w') : RcSt B wo w' a n c vs Z a2 n2 c2 us N :=
  ⟨(h.out.keep hb).mono (Nat.le_refl _) hb.size (Nat.le_refl _) hb.size, (h.next.keep hb).mono (Nat.le_refl _) hb.size (Nat.le_refl _) hb.size, h.ap, belowTrans h.bel hb (Nat.le_refl _)⟩
theorem RcSt.step {B wo wr a n c vs Z a2 n2 c2 us N} (h : RcSt B wo wr a n c vs Z a2 n2 c2 us N) (hB : B ≤ wr.heap.size) {w1 w4 : World} {a3 : Option Addr} {n3 c3 : Nat} {vs3 : List Value} {Z3 : List (List Int)} (h1 : Sp wr.heap.size w1.heap.size B wr.heap.size w1 a3 n3 c3 vs3 Z3) (hb1 : Below wr.heap.size wr w1)
    {a4 : Option Addr} {n4 c4 : Nat} {us4 : List Value} {N4 : List (List Int)} (h4 : Sp wo.heap.size w4.heap.size B wr.heap.size w4 a4 n4 c4 us4 N4) (hc : Chg (fun k => (Value.slice a2 n2 c2).ownBlock = some k) w1 w4) (hn : NewOr w1 (.slice a2 n2 c2) (.slice a4 n4 c4)) :
    RcSt B wo w4 a3 n3 c3 vs3 Z3 a4 n4 c4 us4 N4 := by
  have hs1 := hb1.size
  have hs4 := hc.size
  have hnx := h.next.keep hb1
  refine ⟨?_, h4.mono (Nat.le_refl _) (Nat.le_refl _) (Nat.le_refl _) (by omega), fun g hg h5 => ?_, ?_⟩
  · exact (h1.chgBy hnx.spine hc fun g hg h5 => by
      have := h.next.spine.2 g hg
      have := (h1.spine.1.lt g h5).1
      omega).mono hB hs4 (Nat.le_refl _) (by omega)
  · have h6 := (h1.spine.1.lt g h5).1
    have h7 := h1.spine.2 g h5
    rcases hn g hg with h8 | h8
    · have := h.next.spine.2 g h8; omega
    · omega
  · exact (belowTrans h.bel hb1 (Nat.le_refl _)).trans (hc.below (by have := h.bel.size; omega) fun k hk => (h.next.spine.1.lt k hk).1)

set_option maxHeartbeats 12800000 in
theorem saReach_any (ao : Option Addr) (n cap : Nat) (xs : List Int) (w : World) (h : IntsAt w ao n cap xs) (hg : Sand xs) :
    Calls Tryz.prog 34 #[.slice ao n cap, .int .i64 400] w fun e w' => ∃ a m c vs, e = .returned (.slice a m c) ∧ Sp w.heap.size w'.heap.size w.heap.size w'.heap.size w' a m c vs (rchL xs) ∧ Below w.heap.size w w' := by
  have hlen := hg.grains.len
  have hl0 := h.length
  have hcon := l1Own_any ao n cap xs w h (by omega)
  have hG := hg.grains
  have hst : (rsS xs 1).length ≤ 400 ∧ ∀ x ∈ rsS xs 1, Sand x := by
    have e : rsS xs 1 = [xs] := rfl
    rw [e]
    exact ⟨by simp, fun x hx => by rw [List.mem_singleton.1 hx]; exact hg⟩
  have Hg := Lib.hid hg; clear hg
  have Hl0 := Lib.hid hl0; clear hl0
  have Hcon := Lib.hid hcon; clear hcon
  have Hst := Lib.hid hst; clear hst
  have HG := Lib.hid hG; clear hG
  go_enter Tryz.func34, Tryz.ntmps34
  go_wp2_with fail
  with_reducible refine (Hcon.out).mono ?_
  rintro e w1 ⟨a1, c1, rfl, ho1, hb1⟩
  have h1 := OwnRows.one ho1 w.heap.size (Nat.le_refl _) hb1.size (by omega)
  obtain ⟨vs1, hs1, _⟩ := h1.sp
  have hba := hb1.alloc hb1.size (.cells #[.slice a1 n c1] 24)
  have hs1' : Sp w.heap.size (w1.alloc (.cells #[.slice a1 n c1] 24)).heap.size w.heap.size (w1.alloc (.cells #[.slice a1 n c1] 24)).heap.size (w1.alloc (.cells #[.slice a1 n c1] 24)) (some ⟨w1.heap.size, 0, none⟩) 1 1 vs1 [xs] := hs1.mono (Nat.le_refl _) (by simp) (Nat.le_refl _) (by simp)
  clear h1 hs1 ho1 hb1
  go_wp2_with fail
  go_loopg [5, 6] 580 (fun k v f wr => ∃ (t : Nat) (a : Option Addr) (n c : Nat) (vs : List Value) (a2 : Option Addr) (n2 c2 : Nat) (ws : List Value), v = .slice a n c ∧ f = .slice a2 n2 c2 ∧ k + t = 580 ∧ Hid (∀ u, u < t → frS xs u ≠ []) ∧
      Sp w.heap.size wr.heap.size w.heap.size wr.heap.size wr a n c vs (srt (rsS xs (t + 1))) ∧ Sp w.heap.size wr.heap.size w.heap.size wr.heap.size wr a2 n2 c2 ws (frS xs t) ∧ Hid ((rsS xs (t + 1)).length ≤ 400 ∧ ∀ x ∈ rsS xs (t + 1), Sand x) ∧ Below w.heap.size w wr)
  case atStart => exact ⟨0, _, _, _, _, _, _, _, _, rfl, rfl, rfl, Lib.hid (fun u hu => absurd hu (Nat.not_lt_zero _)), hs1', hs1', Hst, hba⟩
  case round =>
    obtain ⟨t, a, n, c, vs, a2, n2, c2, ws, rfl, rfl, hk, Hno, hout, hfr, Hok, hb⟩ := hrel
    clear hs1' hba
    have ht := some_level HG.out Hno.out
    have hn2 := hfr.length
    by_cases hz : n2 = 0
    · have hnil : frS xs t = [] := List.eq_nil_of_length_eq_zero (by omega)
      have hend := good_end (xs := xs) (t := t + 1) (by omega) (frS_stop hnil 1) Hok.out.1 Hok.out.2
      rw [← hend] at hout
      have hfin := hout
      subst hz
      clear hfr hout
      have Hnil := Lib.hid hnil; clear hnil
      have Hend := Lib.hid hend; clear hend
      have Hn2 := Lib.hid hn2; clear hn2
      have Hk := Lib.hid hk; clear hk
      have Hfin := Lib.hid hfin; clear hfin
      go_wp2
      go_ret
      exact ⟨_, _, _, _, rfl, Hfin.out, hb⟩
    · have hpos : (0 : Int) < n2 := by omega
      have hne : frS xs t ≠ [] := fun e => hz (by rw [← hn2, e]; rfl)
      have hno2 : ∀ u, u < t + 1 → frS xs u ≠ [] := fun u hu => by
        by_cases e : u = t
        · subst e; exact hne
        · exact Hno.out u (by omega)
      have hFg : ∀ x ∈ frS xs t, Grains x ∧ wt 0 x = wt 0 xs + t := fun x hx => frS_good HG.out t hx
      have hplace := fun l c hc => place_new HG.out (t := t) (l := l) (c := c) hc
      have hbad := fun c hm hs => bad_level (c := c) (t := t + 1) HG.out hm hs
      have hlong : 400 < (rsS xs (t + 1)).length + (frS xs (t + 1)).length → ¬ okR xs := fun hh => long_level (t := t + 2) (by omega) (by rw [rsS_succ, List.length_append]; exact hh)
      have hrs := rsS_succ xs (t + 1)
      have hfs : frS xs (t + 1) = once ((frS xs t).flatMap behL) := rfl
      have hsz := hb.size
      have hF2 := hn2
      generalize hF : frS xs t = F at *
      generalize hR : rsS xs (t + 1) = R at *
      rw [hfs] at hbad hlong hrs
      have hlim : n2 ≤ 400 := by
        have h1 := Hok.out.1
        have h2 : R = rsS xs t ++ F := by rw [← hR, ← hF, rsS_succ]
        rw [h2, List.length_append] at h1
        omega
      obtain ⟨wo, hwo⟩ : ∃ wo : World, wo = wr := ⟨_, rfl⟩
      subst hwo
      have hr0 : RcSt w.heap.size wo wo a n c vs (srt (R ++ once [])) none 0 0 [] (once []) :=
        ⟨by simpa [once] using hout, Sp.nil _ _ _ _ _, fun g hg => by simp [Value.ownBlock] at hg, Below.refl _ _⟩
      have hok1 := Hok.out.1
      clear hout
      have Hk := Lib.hid hk; clear hk
      have Hn2 := Lib.hid hn2; clear hn2
      have HF2 := Lib.hid hF2; clear hF2
      have Hne := Lib.hid hne; clear hne
      have Hno2 := Lib.hid hno2; clear hno2
      have HFg := Lib.hid hFg; clear hFg
      have Hplace := Lib.hid hplace; clear hplace
      have Hbad := Lib.hid hbad; clear hbad
      have Hlong := Lib.hid hlong; clear hlong
      have Hrs := Lib.hid hrs; clear hrs
      have Hfs := Lib.hid hfs; clear hfs
      have HF := Lib.hid hF; clear hF
      have HR := Lib.hid hR; clear hR
      have Ht := Lib.hid ht; clear ht
      have Hsz := Lib.hid hsz; clear hsz
      go_wp2_with fail
      go_loopw [5, 7, 22] (fun v u i wr => ∃ (q : Nat) (a : Option Addr) (n c : Nat) (vs : List Value) (a4 : Option Addr) (n4 c4 : Nat) (us : List Value), q ≤ n2 ∧ i = .int .i64 q ∧ v = .slice a n c ∧ u = .slice a4 n4 c4 ∧
          RcSt w.heap.size wo wr a n c vs (srt (R ++ once ((F.take q).flatMap behL))) a4 n4 c4 us (once ((F.take q).flatMap behL)) ∧ Hid ((∀ x ∈ once ((F.take q).flatMap behL), Sand x) ∧ R.length + (once ((F.take q).flatMap behL)).length ≤ 400)) (fun _ _ i _ => n2 - (intOf i).toNat)
      case atStart => exact ⟨0, _, _, _, _, _, _, _, _, Nat.zero_le _, rfl, rfl, rfl, hr0, Lib.hid ⟨by simp [once], by simpa [once] using hok1⟩⟩
      case round =>
        obtain ⟨q, a, n, c, vs, a4, n4, c4, us, hq, rfl, rfl, rfl, hst, Hs⟩ := hrel
        clear hr0
        by_cases hlt : q < n2
        · obtain ⟨b, oo, a3, m3, c3, rfl, hbl, hck, hvo, hrow⟩ := (hfr.keep hst.bel).getRow hlt
          have hrowo : Own w.heap.size wo.heap.size wo a3 m3 c3 (F.getD q []) := by
            obtain ⟨_, _, a', m', c', _, _, _, hv', hr'⟩ := hfr.getRow hlt
            rw [hvo] at hv'
            simp only [Value.slice.injEq] at hv'
            obtain ⟨rfl, rfl, rfl⟩ := hv'
            exact hr'
          have hg3 := HFg.out _ (getD_memR hlt Hn2.out)
          have hm3 := getD_memR hlt Hn2.out
          have e3 := flatMap_snocX behL hlt Hn2.out
          have hpre : (once ((F.take (q + 1)).flatMap behL)).length ≤ (once (F.flatMap behL)).length := by
            have := once_pre ((F.take (q + 1)).flatMap behL) ((F.drop (q + 1)).flatMap behL)
            rwa [← List.flatMap_append, List.take_append_drop] at this
          generalize F.getD q [] = x at *
          have hcon := saFalls_any a3 m3 c3 x wr hrow.at hg3.1
          have hx24 := hg3.1.len
          have hf24 : (fallsL x).length ≤ 24 := Nat.le_trans (fallsT_length x x.length) hx24
          have hxl := hrow.length
          generalize hP : (F.take q).flatMap behL = P at *
          have Hcon := Lib.hid hcon; clear hcon
          have E3 := Lib.hid e3; clear e3
          have Hg3 := Lib.hid hg3; clear hg3
          have HP := Lib.hid hP; clear hP
          have Hm3 := Lib.hid hm3; clear hm3
          have Hpre := Lib.hid hpre; clear hpre
          go_wp2_with fail
          with_reducible refine (Hcon.out).mono ?_
          rintro e wi ⟨a5, n5, c5, rfl, ho5, hb5⟩
          have hn5 := ho5.length
          have hst2 := hst.keep hb5
          have hsep : Sep w.heap.size wi.heap.size wi (.slice a4 n4 c4) a5 n5 c5 (fallsL x) := (Sep.fresh ho5 hst.next.spine.2).mono (by have := hst.bel.size; have := Hsz.out; omega) (Nat.le_refl _)
          have hrow2 := hrow.keep hb5
          have hbo := hst2.bel
          have hrow0 : ∀ W, Below wo.heap.size wo W → Own w.heap.size wo.heap.size W a3 m3 c3 x := fun W hW => hrowo.keep hW
          obtain ⟨wj, hwj⟩ : ∃ wj : World, wj = wi := ⟨_, rfl⟩
          subst hwj
          clear hst ho5 hb5 hrow hck hrow2
          have h0 : P ++ (behL x).take 0 = P := by simp
          have hfull : P ++ (behL x).take n5 = P ++ behL x := by rw [List.take_of_length_le (by rw [beh_len, hn5]; exact Nat.le_refl _)]
          have hmemb : ∀ r, r < n5 → (behL x).getD r [] ∈ F.flatMap behL := fun r hr => List.mem_flatMap.2 ⟨x, Hm3.out, getD_memR hr (by rw [beh_len, hn5])⟩
          have hs0 := Hs.out
          have hn5b : n5 ≤ 24 := by omega
          have Hn5 := Lib.hid hn5; clear hn5
          have Hf24 := Lib.hid hf24; clear hf24
          have Hrow0 := Lib.hid hrow0; clear hrow0
          have H0 := Lib.hid h0; clear h0
          have Hfull := Lib.hid hfull; clear hfull
          have Hmemb := Lib.hid hmemb; clear hmemb
          have Hrowo := Lib.hid hrowo; clear hrowo
          go_wp2_with fail
          go_loopw [5, 7, 29] (fun v u i wr => ∃ (r : Nat) (a : Option Addr) (n c : Nat) (vs : List Value) (a4 : Option Addr) (n4 c4 : Nat) (us : List Value), r ≤ n5 ∧ i = .int .i64 r ∧ v = .slice a n c ∧ u = .slice a4 n4 c4 ∧
              RcSt w.heap.size wo wr a n c vs (srt (R ++ once (P ++ (behL x).take r))) a4 n4 c4 us (once (P ++ (behL x).take r)) ∧ Sep w.heap.size wr.heap.size wr (.slice a4 n4 c4) a5 n5 c5 (fallsL x) ∧ Hid ((∀ x' ∈ once (P ++ (behL x).take r), Sand x') ∧ R.length + (once (P ++ (behL x).take r)).length ≤ 400 + r)) (fun _ _ i _ => n5 - (intOf i).toNat)
          case atStart => exact ⟨0, _, _, _, _, _, _, _, _, Nat.zero_le _, rfl, rfl, rfl, by rw [H0.out]; exact hst2, hsep, Lib.hid (by rw [H0.out]; exact ⟨hs0.1, by omega⟩)⟩
          case round =>
            obtain ⟨r, a, n, c, vs, a4, n4, c4, us, hr, rfl, rfl, rfl, hst, hse, Hs2⟩ := hrel
            clear hst2 hsep hs0
            have hnl := hst.out.length
            have hnl4 := hst.next.length
            rw [srt_length, List.length_append] at hnl
            by_cases hlt3 : r < n5
            · rcases hse.own.cases with ⟨_, hz', _⟩ | ⟨g5, rfl, _, _, hg5⟩
              · omega
              have hck := getD_cells hse.own r hlt3
              obtain ⟨i, hi1, hi2, hi3, hi4⟩ := beh_at (xs := x) (r := r) (by rw [Hn5.out]; exact hlt3)
              rw [hi1] at hck
              have hgc := behL_grains Hg3.out.1 (y := fallL x i) (mem_behL.2 ⟨i, hi3, hi4, rfl⟩)
              have hmb := Hmemb.out r hlt3
              have htk : (behL x).take (r + 1) = (behL x).take r ++ [fallL x i] := by rw [← hi2]; exact take_snocX hlt3 (by rw [beh_len, Hn5.out])
              have honce := once_snoc (P ++ (behL x).take r) (fallL x i)
              rw [List.append_assoc, ← htk] at honce
              rw [hi2] at hmb
              have hcon := saFall_any a3 m3 c3 x i wr (Hrow0.out wr hst.bel).at Hg3.out.1 (by have := Hrowo.out.length; omega)
              have hwtc : wt 0 (fallL x i) = wt 0 xs + ((t + 1 : Nat) : Int) := by rw [hgc.2, Hg3.out.2]; push_cast; omega
              have hpl := Hplace.out (once (P ++ (behL x).take r)) (fallL x i) ⟨hgc.1, hwtc⟩
              have hbd := Hbad.out (fallL x i) (once_mem.2 hmb)
              have hS2 := Hs2.out
              generalize fallL x i = y at *
              generalize hNN : once (P ++ (behL x).take r) = N at *
              generalize hZZ : srt (R ++ N) = Z at *
              have hno := addN_old (l := N) (c := y)
              have hnw := addN_new (l := N) (c := y)
              have hze : srt (R ++ (N ++ [y])) = addL Z y := by rw [← List.append_assoc, srt_snoc, hZZ]
              have Hcon := Lib.hid hcon; clear hcon
              have Hi1 := Lib.hid hi1; clear hi1
              have Hi2 := Lib.hid hi2; clear hi2
              have Hi4 := Lib.hid hi4; clear hi4
              have Hgc := Lib.hid hgc; clear hgc
              have Hmb := Lib.hid hmb; clear hmb
              have Htk := Lib.hid htk; clear htk
              have Honce := Lib.hid honce; clear honce
              have Hwtc := Lib.hid hwtc; clear hwtc
              have Hpl := Lib.hid hpl; clear hpl
              have Hbd := Lib.hid hbd; clear hbd
              have HNN := Lib.hid hNN; clear hNN
              have HZZ := Lib.hid hZZ; clear hZZ
              have Hno := Lib.hid hno; clear hno
              have Hnw := Lib.hid hnw; clear hnw
              have Hze := Lib.hid hze; clear hze
              have Hnl := Lib.hid hnl; clear hnl
              have Hnl4 := Lib.hid hnl4; clear hnl4
              have HS2 := Lib.hid hS2; clear hS2
              go_wp2_with fail
              with_reducible refine (Hcon.out).mono ?_
              rintro e w2 ⟨a6, n6, c6, rfl, ho6, hb6⟩
              cases hsand : sandB y
              · have hnok := rchL_no (Hbd.out hsand)
                have hbw := belowTrans hst.bel hb6 (Nat.le_refl _)
                have Hnok := Lib.hid hnok; clear hnok
                go_wp2_with fail
                with_reducible refine (saGood_no _ _ _ _ _ ho6.at hsand).mono ?_
                rintro e w' ⟨rfl, rfl⟩
                have Hsand := Lib.hid hsand; clear hsand
                go_wp2
                go_ret
                exact ⟨none, 0, 0, [], rfl, by rw [Hnok.out]; exact Sp.nil _ _ _ _ _, hb.trans (hbw.mono Hsz.out)⟩
              · go_wp2_with fail
                with_reducible refine (saGood_yes _ _ _ _ _ ho6.at (sand_iff.1 hsand)).mono ?_
                rintro e w' ⟨rfl, rfl⟩
                have hst3 := hst.keep hb6
                have hse3 := (hse.keep hb6).mono (Nat.le_refl _) hb6.size
                have hws := hst.bel.size
                have ho6' := ho6.mono (show w.heap.size ≤ wr.heap.size by have := Hsz.out; omega) (Nat.le_refl _)
                have hwr2 := hb6.size
                clear hst hse hb6 hck ho6
                have Hsand := Lib.hid hsand; clear hsand
                have hpc := orPlace_any a a6 n n6 c c6 Z y w2 hst3.out.at ho6'.at
                have Hpc := Lib.hid hpc; clear hpc
                go_wp2_with fail
                with_reducible refine (Hpc.out).mono ?_
                rintro e w3 ⟨rr, rfl, hpi, hb7⟩
                have hst4 := hst3.keep hb7
                have hse4 := (hse3.keep hb7).mono (Nat.le_refl _) hb7.size
                have ho7 := (ho6'.keep hb7).mono (Nat.le_refl _) hb7.size
                have hw3 := hb7.size
                clear hst3 hse3 hb7 ho6'
                rcases place_iff hpi with ⟨rfl, hnm⟩ | ⟨hrr, hmm⟩
                · have hyN : y ∉ N := fun hh => hnm ((Hpl.out).2 hh)
                  have e1 := Hnw.out hyN
                  have hadd := piAddW_any _ _ _ _ _ _ _ _ _ a6 n6 c6 y _ hst4.out ho7 (by have := Hnl.out; have := HS2.out.2; omega)
                  have hB3 : w.heap.size ≤ w3.heap.size := by have := Hsz.out; omega
                  have hn4b : n4 ≤ 67108863 := by have := Hnl4.out; have := HS2.out.2; omega
                  have Hnm := Lib.hid hnm; clear hnm
                  have HyN := Lib.hid hyN; clear hyN
                  have E1 := Lib.hid e1; clear e1
                  have Hpi := Lib.hid hpi; clear hpi
                  have Hadd := Lib.hid hadd; clear hadd
                  go_wp2_with fail
                  with_reducible refine (Hadd.out).mono ?_
                  rintro e w4 ⟨a8, n8, c8, rfl, ⟨vs8, ho8⟩, hb8⟩
                  have hw4 := hb8.size
                  have hnx := (hst4.next.keep hb8)
                  have hse5 := (hse4.keep hb8).mono (Nat.le_refl _) hw4
                  have ho9 := ho7.keep hb8
                  have hwo4 : wo.heap.size ≤ w4.heap.size := by omega
                  clear hse4 ho7
                  go_wp2_with (at_builtin; refine wpList_pushSp w4 rfl _ _ rfl wo.heap.size w3.heap.size w.heap.size w3.heap.size a4 n4 c4 us _ rfl hnx a6 n6 c6 y ho9 rfl hn4b hwo4 ?_)
                  intro a9 c9 w9 hv9 hc9 hn9
                  have hstN := hst4.step hB3 ho8 hb8 hv9 hc9 hn9
                  have hse6 := (hse5.push (Nat.le_refl _) hc9 hn9).mono (Nat.le_refl _) hc9.size
                  have hlast : (∀ x' ∈ N ++ [y], Sand x') ∧ R.length + (N ++ [y]).length ≤ 400 + (r + 1) := by
                    refine ⟨fun z hz => ?_, by rw [List.length_append, List.length_singleton]; have := HS2.out.2; omega⟩
                    rcases List.mem_append.1 hz with h' | h'
                    · exact HS2.out.1 z h'
                    · rw [List.mem_singleton.1 h']; exact sand_iff.1 Hsand.out
                  clear hst4 hse5 ho8 hb8 hv9 hc9 hn9 hnx ho9
                  have HstN := Lib.hid hstN; clear hstN
                  have Hlast := Lib.hid hlast; clear hlast
                  go_wp2
                  go_roundw
                  case rel => exact ⟨r + 1, _, _, _, _, _, _, _, _, by omega, by go_num, rfl, rfl, by rw [Honce.out, E1.out, Hze.out]; exact HstN.out, hse6, Lib.hid (by rw [Honce.out, E1.out]; exact Hlast.out)⟩
                  case measure => simp [intOf]; omega
                · have hyN : y ∈ N := (Hpl.out).1 hmm
                  have e1 := Hno.out hyN
                  have Hmm := Lib.hid hmm; clear hmm
                  have HyN := Lib.hid hyN; clear hyN
                  have E1 := Lib.hid e1; clear e1
                  have Hpi := Lib.hid hpi; clear hpi
                  go_wp2
                  go_roundw
                  case rel => exact ⟨r + 1, _, _, _, _, _, _, _, _, by omega, by go_num, rfl, rfl, by rw [Honce.out, E1.out, HZZ.out]; exact hst4, hse4, Lib.hid (by rw [Honce.out, E1.out]; exact ⟨HS2.out.1, by have := HS2.out.2; omega⟩)⟩
                  case measure => simp [intOf]; omega
            · obtain rfl : n5 = r := by omega
              have hS2 := Hs2.out
              rw [Hfull.out, ← E3.out] at hst hnl hnl4 hS2
              have hcs : n = R.length + (once ((F.take (q + 1)).flatMap behL)).length := by omega
              clear hse
              by_cases h400 : n ≤ 400
              · have h400I : ¬ ((400 : Int) < n) := by omega
                have Hnl := Lib.hid hnl; clear hnl
                have Hnl4 := Lib.hid hnl4; clear hnl4
                have Hcs := Lib.hid hcs; clear hcs
                have HS2 := Lib.hid hS2; clear hS2
                go_wp2
                refine ⟨⟨_, _, _, _, _, _, _, ?rel, rfl, rfl, rfl, rfl, rfl, rfl, rfl⟩, ?measure⟩
                case rel => exact ⟨q + 1, by omega, by go_num, a, n, c, rfl, vs, a4, n4, c4, rfl, ⟨us, hst⟩, Lib.hid ⟨HS2.out.1, by have := Hcs.out; omega⟩⟩
                case measure => simp [intOf]; omega
              · have h400I : (400 : Int) < n := by omega
                have hnok := rchL_no (Hlong.out (by have := Hpre.out; omega))
                have hbw := hst.bel
                clear hst
                have Hnl := Lib.hid hnl; clear hnl
                have Hnl4 := Lib.hid hnl4; clear hnl4
                have Hcs := Lib.hid hcs; clear hcs
                have HS2 := Lib.hid hS2; clear hS2
                have Hnok := Lib.hid hnok; clear hnok
                go_wp2
                go_ret
                exact ⟨none, 0, 0, [], rfl, by rw [Hnok.out]; exact Sp.nil _ _ _ _ _, hb.trans (hbw.mono Hsz.out)⟩
        · obtain rfl : n2 = q := by omega
          have hS := Hs.out
          rw [take_allR Hn2.out] at hst hS
          rw [← Hrs.out] at hst
          have hnx := hst.next.mono (show w.heap.size ≤ wo.heap.size from Hsz.out) (Nat.le_refl _) (Nat.le_refl _) (Nat.le_refl _)
          have hou := hst.out
          rw [← Hfs.out] at hnx hS
          have hbf := hb.trans (hst.bel.mono Hsz.out)
          have hokn : (rsS xs (t + 2)).length ≤ 400 ∧ ∀ z ∈ rsS xs (t + 2), Sand z := by
            rw [Hrs.out, ← Hfs.out]
            refine ⟨by rw [List.length_append]; omega, fun z hz => ?_⟩
            rcases List.mem_append.1 hz with h' | h'
            · exact Hok.out.2 z h'
            · exact hS.1 z h'
          clear hst
          have Hnx := Lib.hid hnx; clear hnx
          have Hou := Lib.hid hou; clear hou
          have HS := Lib.hid hS; clear hS
          have Hokn := Lib.hid hokn; clear hokn
          go_wp2
          go_roundg (579 - t)
          case measure => have := Hk.out; have := Ht.out; omega
          case rel => exact ⟨t + 1, a, n, c, vs, a4, n4, c4, us, rfl, rfl, by have := Hk.out; have := Ht.out; omega, Hno2, Hou.out, Hnx.out, Hokn, hbf⟩

end Go.Proofs.YtdfmljkjidepeaaGreatDoor
