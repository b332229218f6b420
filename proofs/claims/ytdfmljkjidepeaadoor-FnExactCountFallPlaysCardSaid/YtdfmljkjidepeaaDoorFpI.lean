/- CountFallPlays by the program. No condition. -/
import Derived.Test.YtdfmljkjidepeaaDoorFpO
import Derived.Test.YtdfmljkjidepeaaDoorSaL
import Derived.Lib.MinMax
namespace Go.Proofs.YtdfmljkjidepeaaDoor
open Go.RowKit Go.Maps
set_option linter.unusedVariables false
set_option linter.unusedSimpArgs false
set_option maxRecDepth 20000

theorem IntsAt.drewS {w a n c xs} (h : IntsAt w a n c xs) : IntsAt w.drew a n c xs := ⟨h.length, h.le, h.max, h.isNil, h.cell⟩
theorem wrap_small {x y : Int} (h1 : 0 ≤ x ∧ x ≤ 1000000001) (h2 : 0 ≤ y ∧ y ≤ 1000000001) : IntKind.i64.wrap (x + y) = x + y ∧ wrap64 (x + y) = x + y :=
  ⟨IntWalk.i64_in _ (by omega), IntWalk.wrap64_in _ (by omega)⟩
theorem cutP5 {P Q : Prop} (f : Hid P → Q) (p : P) : Q := f (Lib.hid p)
set_option maxHeartbeats 6400000 in
set_option maxRecDepth 100000 in
theorem from_any (xs0 : List Int) (h0 : Grains xs0) (hsm : (rchS xs0).length ≤ 400) : ∀ (k : Nat) (a : List Int) (ao : Option Addr) (n cap g : Nat) (D : DataW Unit) (S : List (List Int)) (w : World),
    577 - wt 0 a ≤ k → a ∈ rchS xs0 → IntsAt w ao n cap a → MapW w g D S → S.Nodup → (∀ s ∈ S, s ∈ rchS xs0) →
    Calls Tryd.prog 12 #[.map (some g), .slice ao n cap] w fun e w' => e = .returned (.int .i64 (wL a : Nat)) ∧ ∃ D' S', MapW w' g D' S' ∧ S'.Nodup ∧ (∀ s ∈ S', s ∈ rchS xs0) ∧ (∀ s ∈ S', s ∈ S ∨ wt 0 a ≤ wt 0 s) ∧ Chg (fun q => q = g) w w' := by
  intro k
  induction k with
  | zero => intro a ao n cap g D S w hk ha; have := (rch_grains h0 ha).wt; omega
  | succ k ih =>
    intro a ao n cap g D S w hk ha hA hM hnd hsub
    have hga := rch_grains h0 ha
    have hgl := hM.lt
    have hGa : Good a := hga.good
    have hSl : S.length ≤ 400 := Nat.le_trans (nodup_len hnd hsub) hsm
    have hWa := wL_le hga
    -- the variables
    have hbo := belowAlloc w (.cells #[.map (some g)] 34)
    have o1 := One.new w (.map (some g)) 34
    have hbc := belowAlloc (w.alloc (.cells #[.map (some g)] 34)) (.cells #[.int .i64 0] 3)
    have c1 := One.new (w.alloc (.cells #[.map (some g)] 34)) (.int .i64 0) 3
    have hsz : (w.alloc (.cells #[.map (some g)] 34)).heap.size = w.heap.size + 1 := by simp
    rw [hsz] at c1
    obtain ⟨W, hW⟩ : ∃ W, W = (w.alloc (.cells #[.map (some g)] 34)).alloc (.cells #[.int .i64 0] 3) := ⟨_, rfl⟩
    have o2 := o1.keep hbc
    have hbw := belowTrans hbo hbc (Nat.le_refl _)
    rw [← hW] at c1 o2 hbw hbc
    have hjn := joinPlus_any ao n cap a W (hA.keep hbw) hGa
    have hM1 := hM.keep hbw
    have hA1 := hA.keep hbw
    have hsW : w.heap.size + 2 ≤ W.heap.size := by rw [hW]; simp
    clear hbo o1 hbc hsz
    have Hjn := Lib.hid hjn; clear hjn
    have HW := Lib.hid hW; clear hW
    have C1 := Lib.hid c1; clear c1
    have O2 := Lib.hid o2; clear o2
    have Hbw := Lib.hid hbw; clear hbw
    have HM1 := Lib.hid hM1; clear hM1
    have HA1 := Lib.hid hA1; clear hA1
    have Hga := Lib.hid hga; clear hga
    have Hsub := Lib.hid hsub; clear hsub
    have Hnd := Lib.hid hnd; clear hnd
    have Ha := Lib.hid ha; clear ha
    have HGa := Lib.hid hGa; clear hGa
    have HA := Lib.hid hA; clear hA
    go_enter_defers Tryd.func12, Tryd.ntmps12
    go_wp2_with fail
    rw [← HW.out]
    with_reducible refine (Hjn.out).mono ?_
    rintro e w2 ⟨rfl, hb2⟩
    have hbt := belowAlloc w2 (.cells #[.string ⟨(textL a).toArray⟩] 9)
    have t3 := One.new w2 (.string ⟨(textL a).toArray⟩) 9
    obtain ⟨X, hX⟩ : ∃ X, X = w2.alloc (.cells #[.string ⟨(textL a).toArray⟩] 9) := ⟨_, rfl⟩
    rw [← hX] at hbt t3
    have c3 := (C1.out.keep hb2).keep hbt
    have o3 := (O2.out.keep hb2).keep hbt
    have hM3 := (HM1.out.keep hb2).keep hbt
    have hA3 := (HA1.out.keep hb2).keep hbt
    have hb3 := belowTrans (belowTrans Hbw.out hb2 (Nat.le_refl _)) hbt (Nat.le_refl _)
    have hs2 := hb2.size
    have hsX : w2.heap.size + 1 ≤ X.heap.size := by rw [hX]; simp
    have hkey := textKeyL HGa.out
    have hown := hM3.own
    have hyes := hM3.yes
    have hno := hM3.no
    have x1 := o3.cell
    have x2 := t3.cell
    have x3 := c3.cell
    have x4 := c3.frozen
    clear hb2 hbt C1 O2 HM1 HA1 Hbw hM
    generalize hT : textL a = T at *
    subst hX
    by_cases hin : a ∈ S
    · obtain ⟨h1, h2⟩ := hyes a hin
      rw [hT] at h1 h2
      have hfin : Chg (fun q => q = g) w ((w2.alloc (.cells #[.string ⟨T.toArray⟩] 9)).setCell ⟨w.heap.size + 1, 0, none⟩ (.int .i64 (wL a : Nat))) := Chg.ofBelow (hb3.setCell (p := ⟨w.heap.size + 1, 0, none⟩) (by show w.heap.size ≤ w.heap.size + 1; omega) _)
      have hMf := hM3.chg (chgOne (w2.alloc (.cells #[.string ⟨T.toArray⟩] 9)) (w.heap.size + 1) 0 (.int .i64 (wL a : Nat))) (fun e => by omega)
      have cf := (c3.set (.int .i64 (wL a : Nat))).cell
      clear hyes hno hb3
      have H1 := Lib.hid h1; clear h1
      have H2 := Lib.hid h2; clear h2
      have C3 := Lib.hid c3; clear c3
      have O3 := Lib.hid o3; clear o3
      have T3 := Lib.hid t3; clear t3
      have HM3 := Lib.hid hM3; clear hM3
      have HA3 := Lib.hid hA3; clear hA3
      have Hkey := Lib.hid hkey; clear hkey
      have Hin := Lib.hid hin; clear hin
      have HT := Lib.hid hT; clear hT
      have Hfin := Lib.hid hfin; clear hfin
      have HMf := Lib.hid hMf; clear hMf
      go_wp2_with (at_lookup; refine wpList_lookup_own_ok_int _ rfl _ _ 34 rfl 9 3 .i64 mapKS Tryd.underlying34 Tryd.underlying3 (mapZI _) g _ _ rfl hown _ _ rfl Hkey.out ?_; intro c9 hat hwc; rw [H1.out]; obtain rfl : ((wL a : Nat) : Int) = c9 := litI2 (H2.out.symm.trans hat); clear hat hwc)
      go_wp2
      trace_state
      refine ⟨_, by rw [results_one rfl]; simp [go_sem, asAddr, Result.andThen, loadVar, cf], rfl, D, S, HMf.out, Hnd.out, Hsub.out, fun s hs => .inl hs, Hfin.out⟩
    · have h1 := hno a HGa.out hin
      rw [hT] at h1
      have hlb := listsBehind_any ao n cap a (w2.alloc (.cells #[.string ⟨T.toArray⟩] 9)) hA3 Hga.out
      clear hyes hno
      have H1 := Lib.hid h1; clear h1
      have C3 := Lib.hid c3; clear c3
      have O3 := Lib.hid o3; clear o3
      have T3 := Lib.hid t3; clear t3
      have HM3 := Lib.hid hM3; clear hM3
      have HA3 := Lib.hid hA3; clear hA3
      have Hkey := Lib.hid hkey; clear hkey
      have Hin := Lib.hid hin; clear hin
      have HT := Lib.hid hT; clear hT
      have Hlb := Lib.hid hlb; clear hlb
      have Hb3 := Lib.hid hb3; clear hb3
      have hmf : ∀ (fn : Fn) (first cap : Array Value) (w : World), (Instr.makeFunc fn first cap).run Tryd.prog w = .ok (.func fn first cap) w := fun _ _ _ _ => rfl
      go_wp2_with (at_lookup; refine wpList_lookup_own_ok_int _ rfl _ _ 34 rfl 9 3 .i64 mapKS Tryd.underlying34 Tryd.underlying3 (mapZI _) g _ _ rfl hown _ _ rfl Hkey.out ?_; intro c9 hat hwc; rw [H1.out]; clear hat hwc)
      with_reducible refine (Hlb.out).mono ?_
      rintro e w4 ⟨a4, n4, c4, rfl, ho4, hb4⟩
      have hn4 := ho4.length
      have c5 := C3.out.keep hb4
      have o5 := O3.out.keep hb4
      have t5 := T3.out.keep hb4
      have hM5 := HM3.out.keep hb4
      have hb5 := belowTrans Hb3.out hb4 (Nat.le_refl _)
      have hs4 := hb4.size
      have hs5 := hb5.size
      have hgW : g < w.heap.size := hgl
      obtain ⟨B4, hB4⟩ : ∃ B, B = (w2.alloc (.cells #[.string ⟨T.toArray⟩] 9)).heap.size := ⟨_, rfl⟩
      rw [← hB4] at ho4 hsX hs4
      have hnote := fun u W D1 S1 (q : MapW W g D1 S1) (q2 : a ∉ S1) (q3 : S1.length ≤ 400) q4 q5 q6 => noteW_any g (w.heap.size + 1) w.heap.size w2.heap.size 3 34 9 D1 S1 a u W q HGa.out q2 q3 hWa q4 q5 (by rw [HT.out]; exact q6)
      clear C3 O3 T3 HM3 Hb3 hb4 hB4 hown Hjn x1 x2 x3 x4 HA3 Hlb
      by_cases hb0 : behL a = []
      · have hz : n4 = 0 := by rw [← hn4, hb0]; rfl
        subst hz
        have hw1 := wL_end Hga.out hb0
        have y1 := c5.cell
        have y2 := c5.frozen
        have hcg := chgOne w4 (w.heap.size + 1) 0 (.int .i64 1)
        have c6 := c5.set (.int .i64 1)
        have o6 := o5.chg hcg (by omega)
        have t6 := t5.chg hcg (by omega)
        have hM6 := hM5.chg hcg (fun e => by omega)
        have hb6 : Below w.heap.size w (w4.setCell ⟨w.heap.size + 1, 0, none⟩ (.int .i64 1)) := hb5.setCell (p := ⟨w.heap.size + 1, 0, none⟩) (by show w.heap.size ≤ w.heap.size + 1; omega) _
        have hcl := fun u => hnote u _ D S hM6 Hin.out hSl (by rw [hw1]; exact c6) o6 t6
        clear hcg hM6 hnote ho4 hM5 hb5 o5 t5 o6 t6
        have Hw1 := Lib.hid hw1; clear hw1
        have C6 := Lib.hid c6; clear c6
        have Hb6 := Lib.hid hb6; clear hb6
        have Hcl := Lib.hid hcl; clear hcl
        have Hn4 := Lib.hid hn4; clear hn4
        have Hb0 := Lib.hid hb0; clear hb0
        clear c5
        go_wp2
        refine leaves_cons (f := 25) (args := #[.pointer (some ⟨w.heap.size + 1, 0, none⟩), .pointer (some ⟨w.heap.size, 0, none⟩), .pointer (some ⟨w2.heap.size, 0, none⟩)]) (by simp) (by simp [go_sem]) ?_
        refine (Hcl.out _).mono ?_
        rintro e u' w'' ⟨rfl, rfl, D', hM', hc'⟩
        have cf := (C6.out.chg hc' (fun e => by omega)).cell
        refine ⟨.int .i64 1, by rw [results_one rfl]; simp [go_sem, asAddr, Result.andThen, loadVar, cf], by simp [Hw1.out], D', S ++ [a], hM', ?_, ?_, ?_, (Chg.ofBelow Hb6.out).trans hc'⟩
        · exact List.nodup_append.2 ⟨Hnd.out, by simp, fun x hx y hy e => by rw [List.mem_singleton] at hy; subst hy; subst e; exact Hin.out hx⟩
        · intro s hs
          rcases List.mem_append.1 hs with q | q
          · exact Hsub.out s q
          · rw [List.mem_singleton.1 q]; exact Ha.out
        · intro s hs
          rcases List.mem_append.1 hs with q | q
          · exact .inl q
          · rw [List.mem_singleton.1 q]; exact .inr (Int.le_refl _)
      · have hn0 : 0 < n4 := by rw [← hn4]; exact List.length_pos_iff.2 hb0
        have hn0i : ¬ (n4 : Int) = 0 := by omega
        have hn0b : ((n4 : Int) == 0) = false := by simpa using hn0i
        have hbl24 := behL_length Hga.out
        have hn24 : n4 ≤ 24 := by rw [← hn4]; exact hbl24
        have hcw := Chg.ofBelow (S := fun q => q = g) hb5
        have hord : ∀ s ∈ S, s ∈ S ∨ wt 0 a + 1 ≤ wt 0 s := fun s hs => .inl hs
        clear hb5
        have hw0 : One w4 (w.heap.size + 1) (.int .i64 (wP a 0 : Nat)) 3 := c5
        have Hw0 := Lib.hid hw0; clear hw0
        have O5 := Lib.hid o5; clear o5
        have T5 := Lib.hid t5; clear t5
        have HM5 := Lib.hid hM5; clear hM5
        have Hcw := Lib.hid hcw; clear hcw
        have Hord := Lib.hid hord; clear hord
        have Ho4 := Lib.hid ho4; clear ho4
        have Hn4 := Lib.hid hn4; clear hn4
        have Hb0 := Lib.hid hb0; clear hb0
        have Hnote := Lib.hid hnote; clear hnote
        have Hbl24 := Lib.hid hbl24; clear hbl24
        clear c5
        obtain ⟨wi, hwi⟩ : ∃ wi : World, wi = w4 := ⟨_, rfl⟩
        subst hwi
        go_wp2_with fail
        go_loopw [29] (fun v wr => ∃ (j : Nat) (D1 : DataW Unit) (S1 : List (List Int)), j ≤ n4 ∧ v = .int .i64 j ∧ Hid (One wr (w.heap.size + 1) (.int .i64 (wP a j : Nat)) 3) ∧ Hid (One wr w.heap.size (.map (some g)) 34) ∧ Hid (One wr w2.heap.size (.string ⟨T.toArray⟩) 9) ∧ Hid (MapW wr g D1 S1) ∧ Hid (S1.Nodup) ∧ Hid (∀ s ∈ S1, s ∈ rchS xs0) ∧ Hid (∀ s ∈ S1, s ∈ S ∨ wt 0 a + 1 ≤ wt 0 s) ∧ Hid (OwnRows B4 wi.heap.size wr a4 n4 c4 (behL a)) ∧ Hid (Chg (fun q => q = g) w wr) ∧ wi.heap.size ≤ wr.heap.size) (fun v _ => n4 - (intOf v).toNat)
        case atStart => exact ⟨0, D, S, Nat.zero_le _, rfl, Hw0, O5, T5, HM5, Hnd, Hsub, Hord, Ho4, Hcw, Nat.le_refl _⟩
        case round =>
          obtain ⟨j, D1, S1, hj, rfl, Hc, Ho, Ht, HM, Hn1, Hs1, Hd1, Hro, Hch, hsr⟩ := hrel
          clear Hw0 O5 T5 HM5 Hord Ho4 Hcw
          have y1 := Hc.out.cell
          have y2 := Hc.out.frozen
          by_cases hlt : j < n4
          · have hlti : (j : Int) < (n4 : Int) := by omega
            have hjb : j < (behL a).length := by have := Hn4.out; omega
            obtain ⟨b9, o9, rfl, hbl9, hc9⟩ := Hro.out.at.cell j hlt
            obtain ⟨a7, n7, c7, x7, hI7⟩ := hc9 j hlt
            clear hc9
            have hmem : (behL a).getD j [] ∈ behL a := by rw [List.getD_eq_getElem?_getD, List.getElem?_eq_getElem hjb]; exact List.getElem_mem _
            obtain ⟨g1, g2⟩ := behL_grains Hga.out hmem
            have hreach : (behL a).getD j [] ∈ rchS xs0 := rch_trans h0 Ha.out (mem_rsS.2 ⟨1, by omega, mem_frS_succ.2 ⟨a, by simp [frS], hmem⟩⟩)
            have hws := wP_succ hjb
            have hwPj := wP_le a j
            have hwLb := wL_le g1
            have z1 := Ho.out.cell
            have hrec := ih ((behL a).getD j []) a7 n7 c7 g D1 S1 wr.drew (by omega) hreach hI7.drewS (HM.out.chg (T := fun _ => False) (Chg.ofBelow (Below.refl wr.heap.size wr).drew) (fun q => q)) Hn1.out Hs1.out
            generalize hbY : (behL a).getD j [] = Y at *
            have hnew : min (((wP a j : Nat) : Int) + ((wL Y : Nat) : Int)) (1000000001 : Int) = ((wP a (j + 1) : Nat) : Int) := by rw [hws]; omega
            obtain ⟨WT, hWT⟩ : ∃ x : Int, x = ((wP a j : Nat) : Int) := ⟨_, rfl⟩
            obtain ⟨WY, hWY⟩ : ∃ x : Int, x = ((wL Y : Nat) : Int) := ⟨_, rfl⟩
            rw [← hWT] at y1
            rw [← hWT, ← hWY] at hnew
            have hT0 : 0 ≤ WT ∧ WT ≤ 1000000001 := by omega
            have hY0 : 0 ≤ WY ∧ WY ≤ 1000000001 := by omega
            obtain ⟨hwrap, hwrap2⟩ := wrap_small hT0 hY0
            clear hT0 hY0
            rw [← hWY] at hrec
            clear hmem g1 hreach hws hwPj hwLb hI7
            have Hrec := Lib.hid hrec; clear hrec
            have HbY := Lib.hid hbY; clear hbY
            have Hnew := Lib.hid hnew; clear hnew
            have HWT := Lib.hid hWT; clear hWT
            have HWY := Lib.hid hWY; clear hWY
            have G2 := Lib.hid g2; clear g2
            have Hjb := Lib.hid hjb; clear hjb
            go_wp2_with fail
            refine' cutP5 (fun key => ?main) ?pf
            case main =>
              refine wp_only ?_
              go_region_law (first | (go_simp; with_reducible refine (Hrec.out).mono ?_; rintro e w5 ⟨rfl, D2, S2, f1, f2, f3, f4, f5⟩; have hcd := (Chg.ofBelow (S := fun q => q = g) (Below.refl wr.heap.size wr).drew).trans f5; have Hc5 := Lib.hid (Hc.out.chg hcd (fun e => by omega)); have Ho5 := Lib.hid (Ho.out.chg hcd (fun e => by omega)); have Ht5 := Lib.hid (Ht.out.chg hcd (fun e => by omega)); have F1 := Lib.hid f1; have F2 := Lib.hid f2; have F3 := Lib.hid f3; have F4 := Lib.hid f4; have Hcd := Lib.hid hcd; have y3 := Hc5.out.cell; rw [← HWT.out] at y3; have y4 := Hc5.out.frozen; have z3 := Ho5.out.cell; clear f1 f2 f3 f4 f5 hcd))
              all_goals
                unfold onlyN
                clear y3 y4 z3
                revert D2 S2 w5
                exact key.out
            case pf =>
              intro w5 D2 S2 Hc5 Ho5 Ht5 F1 F2 F3 F4 Hcd
              obtain ⟨V, hV⟩ : ∃ V : Int, V = min (WT + WY) 1000000001 := ⟨_, rfl⟩
              have hVn : V = ((wP a (j + 1) : Nat) : Int) := hV.trans Hnew.out
              rw [← hV]
              have hcg := chgOne w5 (w.heap.size + 1) 0 (.int .i64 V)
              have c6 := Hc5.out.set (.int .i64 V)
              have o6 := Ho5.out.chg hcg (by omega)
              have t6 := Ht5.out.chg hcg (by omega)
              have hM6 := F1.out.chg hcg (fun e => by omega)
              have hr6 := ((Hro.out.chg Hcd.out (fun q h1 _ e => by omega)).chg hcg (fun q h1 _ e => by omega))
              have hd6 : ∀ s ∈ S2, s ∈ S ∨ wt 0 a + 1 ≤ wt 0 s := fun s hs => by
                have hg2 := G2.out
                rcases F4.out s hs with q | q
                · exact Hd1.out s q
                · exact .inr (by omega)
              have hch6 : Chg (fun q => q = g) w (w5.setCell ⟨w.heap.size + 1, 0, none⟩ (.int .i64 V)) := chgNewO (Hch.out.trans Hcd.out) (by omega) 0 _
              have hsz6 : wi.heap.size ≤ (w5.setCell ⟨w.heap.size + 1, 0, none⟩ (.int .i64 V)).heap.size := by have := Hcd.out.size; simp; omega
              have c7 : One (w5.setCell ⟨w.heap.size + 1, 0, none⟩ (.int .i64 V)) (w.heap.size + 1) (.int .i64 (wP a (j + 1) : Nat)) 3 := by rw [← hVn]; exact c6
              clear hcg y1 y2
              clear c6
              have C7 := Lib.hid c7; clear c7
              have O6 := Lib.hid o6; clear o6
              have T6 := Lib.hid t6; clear t6
              have HM6 := Lib.hid hM6; clear hM6
              have Hr6 := Lib.hid hr6; clear hr6
              have Hd6 := Lib.hid hd6; clear hd6
              have Hch6 := Lib.hid hch6; clear hch6
              have Hsz6 := Lib.hid hsz6; clear hsz6
              have HVn := Lib.hid hVn; clear hVn
              have HV := Lib.hid hV; clear hV
              go_wp2
              go_roundw
              case rel => exact ⟨j + 1, D2, S2, by omega, by go_num, C7, O6, T6, HM6, F2, F3, Hd6, Hr6, Hch6, Hsz6.out⟩
              case measure => simp [intOf] <;> omega
          · obtain rfl : j = n4 := by omega
            have hwm := wL_more Hga.out Hb0.out
            rw [Hn4.out] at hwm
            have hcg := chgOne wr (w.heap.size + 1) 0 (.int .i64 (wP a j : Nat))
            have c6 := Hc.out.set (.int .i64 (wP a j : Nat))
            have o6 := Ho.out.chg hcg (by omega)
            have t6 := Ht.out.chg hcg (by omega)
            have hM6 := HM.out.chg hcg (fun e => by omega)
            have hns : a ∉ S1 := fun q => by
              rcases Hd1.out a q with r | r
              · exact Hin.out r
              · omega
            have hS1l : S1.length ≤ 400 := Nat.le_trans (nodup_len Hn1.out Hs1.out) hsm
            have hcl := fun u => Hnote.out u _ D1 S1 hM6 hns hS1l (by rw [hwm]; exact c6) o6 t6
            have hch6 : Chg (fun q => q = g) w (wr.setCell ⟨w.heap.size + 1, 0, none⟩ (.int .i64 (wP a j : Nat))) := chgNewO Hch.out (by omega) 0 _
            clear hcg hM6 o6 t6 Hro
            have C6 := Lib.hid c6; clear c6
            have Hcl := Lib.hid hcl; clear hcl
            have Hch6 := Lib.hid hch6; clear hch6
            have Hwm := Lib.hid hwm; clear hwm
            have Hns := Lib.hid hns; clear hns
            go_wp2
            refine leaves_cons (f := 25) (args := #[.pointer (some ⟨w.heap.size + 1, 0, none⟩), .pointer (some ⟨w.heap.size, 0, none⟩), .pointer (some ⟨w2.heap.size, 0, none⟩)]) (by simp) (by simp [go_sem]) ?_
            refine (Hcl.out _).mono ?_
            rintro e u' w'' ⟨rfl, rfl, D', hM', hc'⟩
            have cf := (C6.out.chg hc' (fun e => by omega)).cell
            refine ⟨.int .i64 (wP a j : Nat), by rw [results_one rfl]; simp [go_sem, asAddr, Result.andThen, loadVar, cf], by rw [Hwm.out], D', S1 ++ [a], hM', ?_, ?_, ?_, Hch6.out.trans hc'⟩
            · exact List.nodup_append.2 ⟨Hn1.out, by simp, fun x hx y hy e => by rw [List.mem_singleton] at hy; subst hy; subst e; exact Hns.out hx⟩
            · intro s hs
              rcases List.mem_append.1 hs with q | q
              · exact Hs1.out s q
              · rw [List.mem_singleton.1 q]; exact Ha.out
            · intro s hs
              rcases List.mem_append.1 hs with q | q
              · rcases Hd1.out s q with r | r
                · exact .inl r
                · exact .inr (by omega)
              · rw [List.mem_singleton.1 q]; exact .inr (Int.le_refl _)
end Go.Proofs.YtdfmljkjidepeaaDoor
