/- Chapter 2: the pasts that are not cyclic, by the program. No condition but a bound on lengths. -/
import Derived.Test.YtcanpbhffmdeeaaGa
import Derived.Test.YtcanpbhffmdeeaaTailI
namespace Go.Proofs.Ytcanpbhffmdeeaa
open Go.RowKit
set_option linter.unusedVariables false
set_option linter.unusedSimpArgs false
set_option maxRecDepth 20000

/-! ### Values behind which lists lie, two of which may lie in one block -/
structure RowsX (B E : Nat) (w : World) (vs : List Value) (xss : List (List Int)) : Prop where
  length : vs.length = xss.length
  row : ∀ i, i < xss.length → ∃ a m c, vs.getD i undef = .slice a m c ∧ Own B E w a m c (xss.getD i [])
theorem RowsV.toX {B E w vs xss} (h : RowsV B E w vs xss) : RowsX B E w vs xss := ⟨h.length, h.row⟩
theorem RowsX.mono {B B' E E' w vs xss} (h : RowsX B E w vs xss) (hB : B' ≤ B) (hE : E ≤ E') : RowsX B' E' w vs xss :=
  ⟨h.length, fun i hi => by obtain ⟨a, m, c, e, ho⟩ := h.row i hi; exact ⟨a, m, c, e, ho.mono hB hE⟩⟩
theorem RowsX.keep {B E w w' vs xss} (h : RowsX B E w vs xss) (hb : Below w.heap.size w w') : RowsX B E w' vs xss :=
  ⟨h.length, fun i hi => by obtain ⟨a, m, c, e, ho⟩ := h.row i hi; exact ⟨a, m, c, e, ho.keep hb⟩⟩
theorem RowsX.nil (B E : Nat) (w : World) : RowsX B E w [] [] := ⟨rfl, fun i hi => absurd hi (Nat.not_lt_zero _)⟩
theorem RowsX.append {B E w vs xss us yss} (h : RowsX B E w vs xss) (k : RowsX B E w us yss) : RowsX B E w (vs ++ us) (xss ++ yss) := by
  refine ⟨by simp [h.length, k.length], fun i hi => ?_⟩
  by_cases hlt : i < xss.length
  · obtain ⟨a, m, c, e, ho⟩ := h.row i hlt
    refine ⟨a, m, c, ?_, ?_⟩
    · rw [List.getD_eq_getElem?_getD, List.getElem?_append_left (by rw [h.length]; exact hlt), ← List.getD_eq_getElem?_getD]; exact e
    · rw [List.getD_eq_getElem?_getD, List.getElem?_append_left hlt, ← List.getD_eq_getElem?_getD]; exact ho
  · rw [List.length_append] at hi
    obtain ⟨a, m, c, e, ho⟩ := k.row (i - xss.length) (by omega)
    refine ⟨a, m, c, ?_, ?_⟩
    · rw [List.getD_eq_getElem?_getD, List.getElem?_append_right (by rw [h.length]; omega), h.length, ← List.getD_eq_getElem?_getD]; exact e
    · rw [List.getD_eq_getElem?_getD, List.getElem?_append_right (by omega), ← List.getD_eq_getElem?_getD]; exact ho
theorem RowsX.chgSpine {B E w w' vs xss B' E' ty ao n cap us} (h : RowsX B E w vs xss) (k : OwnRow B' E' w ty ao n cap us) (hne : 3 ≠ ty) (hc : Chg (fun q => (Value.slice ao n cap).ownBlock = some q) w w') : RowsX B E w' vs xss :=
  ⟨h.length, fun i hi => by
    obtain ⟨a, m, c, e, ho⟩ := h.row i hi
    exact ⟨a, m, c, e, ho.chg hc fun g _ _ hg hs => OwnRow.apart_ty ho k hne hg hs⟩⟩
theorem RowsX.at {B E w vs xss ao n cap} (h : RowsX B E w vs xss) (hv : ValsAt w ao n cap vs) : RowsAt w ao n cap xss := by
  refine ⟨by rw [← h.length]; exact hv.length, hv.le, hv.max, hv.isNil, fun j hj => ?_⟩
  obtain ⟨b, o, e, hlt, hc⟩ := hv.cell j hj
  refine ⟨b, o, e, hlt, fun i hi => ?_⟩
  obtain ⟨a, m, c, e2, ho⟩ := h.row i (by rw [← h.length, hv.length]; exact hi)
  exact ⟨a, m, c, by rw [hc i hi, e2], ho.at⟩
theorem RowsX.one {B E w a m c ys} (h : Own B E w a m c ys) : RowsX B E w [.slice a m c] [ys] :=
  ⟨rfl, fun i hi => by
    obtain rfl : i = 0 := by simpa using hi
    exact ⟨a, m, c, rfl, h⟩⟩

theorem looseL_take (xss : List (List Int)) (j n : Nat) (x : List Int) (hx : xss.getD j [] = x) (hj : j < n) (hl : xss.length = n) : looseL (xss.take (j + 1)) = looseL (xss.take j) ++ loosePasts x := by
  unfold looseL
  rw [take_snocR hx hj hl, List.flatMap_append]
  simp
theorem pastsL_len {xs : List Int} (hg : Good xs) : (pastsL xs).length ≤ 29 := by
  have hlen := hg.len
  by_cases hx : xs = []
  · subst hx; simp [pastsL]
  · have := pastsOf_take_length xs xs.length
    rw [List.take_length, asc_none] at this
    unfold pastsL
    rw [if_neg hx]; omega

set_option maxHeartbeats 3200000 in
theorem loosePastsOf_any (ao : Option Addr) (n cap : Nat) (xss : List (List Int)) (w : World) (h : RowsAt w ao n cap xss) (hG : ∀ x ∈ xss, Good x) (hn : n ≤ 3718) :
    Calls Try.prog 161 #[.slice ao n cap] w fun e w' => ∃ a l c vs, e = .returned (.slice a l c) ∧ OwnRow w.heap.size w'.heap.size w' 24 a l c vs ∧ RowsX w.heap.size w'.heap.size w' vs (looseL xss) ∧ Below w.heap.size w w' := by
  have hl0 := h.length
  have Hl0 := Lib.hid hl0; clear hl0
  have HG := Lib.hid hG; clear hG
  go_enter Try.func161, Try.ntmps161
  go_wp2_with fail
  go_loopw [3, 12] (fun v i wr => ∃ (j : Nat) (a : Option Addr) (l c : Nat) (vs : List Value), j ≤ n ∧ l ≤ 29 * j ∧ i = .int .i64 j ∧ v = .slice a l c ∧ OwnRow w.heap.size wr.heap.size wr 24 a l c vs ∧ RowsX w.heap.size wr.heap.size wr vs (looseL (xss.take j)) ∧ Below w.heap.size w wr) (fun _ i _ => n - (intOf i).toNat)
  case atStart => exact ⟨0, none, 0, 0, [], Nat.zero_le _, Nat.zero_le _, rfl, rfl, OwnRow.nil _ _ _ _, RowsX.nil _ _ _, Below.refl _ _⟩
  case round =>
    obtain ⟨j, a, l, c, vs, hj, hlj, rfl, rfl, hov, hrv, hb⟩ := hrel
    by_cases hlt : j < n
    · have h1 := h.keep hb
      obtain ⟨bl, oo, rfl, hbl, hc⟩ := h1.cell j hlt
      obtain ⟨a2, m2, c2, hck, hi2⟩ := hc j hlt
      clear hc h1
      have hmem : xss.getD j [] ∈ xss := by
        rw [List.getD_eq_getElem?_getD, List.getElem?_eq_getElem (by rw [Hl0.out]; exact hlt)]; exact List.getElem_mem _
      have hgx := HG.out _ hmem
      have hnext := looseL_take xss j n _ rfl hlt Hl0.out
      generalize xss.getD j [] = x at *
      have hcon := impl_PastsOf a2 m2 c2 x wr hi2
      rw [mPasts_yes (good_iff.2 hgx)] at hcon
      have hpl := pastsL_len hgx
      have hpg := pastsL_good hgx
      have hlp : loosePasts x = (pastsL x).filter fun p => !cycB p := rfl
      generalize pastsL x = P at *
      rw [hlp] at hnext
      have Hmem := Lib.hid hmem; clear hmem
      have Hgx := Lib.hid hgx; clear hgx
      have Hnext := Lib.hid hnext; clear hnext
      have Hcon := Lib.hid hcon; clear hcon
      have Hpg := Lib.hid hpg; clear hpg
      have Hlp := Lib.hid hlp; clear hlp
      go_wp2_with fail
      with_reducible refine (Hcon.out).mono ?_
      rintro e w1 ⟨a1, n1, c1, rfl, ho1, hb1⟩
      have hn1 := ho1.length
      have hs1 := hb1.size
      have hov1 := (OwnRow.keep hov hb1).mono (Nat.le_refl _) hs1
      have hrv1 := (hrv.keep hb1).mono (Nat.le_refl _) hs1
      have hbw1 := belowTrans hb hb1 (Nat.le_refl _)
      have hbs := hb.size
      have hsp : ∀ g, (Value.slice a l c).ownBlock = some g → g < wr.heap.size := fun g hg => hov.2 g hg
      have hn29 : n1 ≤ 29 := by omega
      have Hn1 := Lib.hid hn1; clear hn1
      have Hsp := Lib.hid hsp; clear hsp
      clear hov hrv hb1 hck hi2
      obtain ⟨wi, hwi⟩ : ∃ wi : World, wi = wr := ⟨_, rfl⟩
      subst hwi
      obtain ⟨wo, hwo⟩ : ∃ wo : World, wo = w1 := ⟨_, rfl⟩
      subst hwo
      go_wp2_with fail
      go_loopw [3, 23] (fun v i wq => ∃ (k : Nat) (a : Option Addr) (l c : Nat) (vs : List Value), k ≤ n1 ∧ l ≤ 29 * j + k ∧ i = .int .i64 k ∧ v = .slice a l c ∧ OwnRow w.heap.size wq.heap.size wq 24 a l c vs ∧ RowsX w.heap.size wq.heap.size wq vs (looseL (xss.take j) ++ (P.take k).filter fun p => !cycB p) ∧ Below w.heap.size w wq ∧ OwnRows wi.heap.size wo.heap.size wq a1 n1 c1 P ∧ wo.heap.size ≤ wq.heap.size ∧ Hid (∀ g, (Value.slice a l c).ownBlock = some g → g < wi.heap.size ∨ wo.heap.size ≤ g)) (fun _ i _ => n1 - (intOf i).toNat)
      case atStart => exact ⟨0, a, l, c, vs, Nat.zero_le _, by omega, rfl, rfl, hov1, by simpa using hrv1, hbw1, ho1, Nat.le_refl _, Lib.hid (fun g hg => .inl (Hsp.out g hg))⟩
      case round =>
        obtain ⟨k, a, l, c, vs, hk, hlk, rfl, rfl, hov, hrv, hbq, hrs, hsz, hsep⟩ := hrel
        clear hov1 hrv1 hbw1 ho1
        by_cases hlt2 : k < n1
        · obtain ⟨pvs, hpv, hprow⟩ := hrs.vals
          obtain ⟨b, o2, rfl, hb2l, hc⟩ := hpv.at.cell k hlt2
          obtain ⟨a3, m3, c3, e3, hrow3⟩ := hprow.row k (by rw [Hn1.out]; exact hlt2)
          have hck := hc k hlt2
          rw [e3] at hck
          have hmp : P.getD k [] ∈ P := by
            rw [List.getD_eq_getElem?_getD, List.getElem?_eq_getElem (by rw [Hn1.out]; exact hlt2)]; exact List.getElem_mem _
          have hgp := Hpg.out _ hmp
          have htk := take_snocR (xs := P) (k := k) (n := n1) (x := P.getD k []) rfl hlt2 Hn1.out
          generalize P.getD k [] = p at *
          have hcon3 := stateOf_any a3 m3 c3 p wr hrow3.at hgp
          have Hmp := Lib.hid hmp; clear hmp
          have Hgp := Lib.hid hgp; clear hgp
          have Htk := Lib.hid htk; clear htk
          have Hcon3 := Lib.hid hcon3; clear hcon3
          have E3 := Lib.hid e3; clear e3
          clear hc hpv hprow
          go_wp2_with fail
          with_reducible refine (Hcon3.out).mono ?_
          rintro e w4 ⟨v4, rfl, hst, hb4⟩
          have hs4 := hb4.size
          have hov4 := (OwnRow.keep hov hb4).mono (Nat.le_refl _) hs4
          have hrv4 := (hrv.keep hb4).mono (Nat.le_refl _) hs4
          have hbq4 := belowTrans hbq hb4 (Nat.le_refl _)
          have hrs4 := hrs.keep hb4
          have hrow4 := hrow3.keep hb4
          clear hov hrv hrs hrow3
          rcases hst with ⟨hcy, rfl⟩ | ⟨hcy, a5, m5, c5, rfl, hi5⟩
          · have hnew : (P.take (k + 1)).filter (fun p => !cycB p) = (P.take k).filter (fun p => !cycB p) := by
              rw [Htk.out, List.filter_append, List.filter_cons_of_neg (by rw [cyc_iff.2 hcy]; simp)]; simp
            have hme := mRingCyc (bitsL p)
            have Hcy := Lib.hid hcy; clear hcy
            have Hnew := Lib.hid hnew; clear hnew
            go_wp2_with fail
            with_reducible refine (ringCyc _ _).mono ?_
            rintro e w6 ⟨rfl, hb6⟩
            have hs6 := hb6.size
            go_wp2_with fail
            go_roundw
            case rel => exact ⟨k + 1, a, l, c, vs, by omega, by omega, by go_num, rfl, (OwnRow.keep hov4 hb6).mono (Nat.le_refl _) hs6, by rw [Hnew.out]; exact (hrv4.keep hb6).mono (Nat.le_refl _) hs6, belowTrans hbq4 hb6 (Nat.le_refl _), hrs4.keep hb6, by omega, hsep⟩
            case measure => simp [intOf]; omega
          · have hnew : (P.take (k + 1)).filter (fun p => !cycB p) = (P.take k).filter (fun p => !cycB p) ++ [p] := by
              rw [Htk.out, List.filter_append, List.filter_cons_of_pos (by rw [cycBF hcy]; rfl)]; rfl
            have hme := mLooseCyc a5 m5 c5
            have hrow4' : Own w.heap.size w4.heap.size w4 a3 m3 c3 p := hrow4.mono (by omega) (by omega)
            have Hcy := Lib.hid hcy; clear hcy
            have Hnew := Lib.hid hnew; clear hnew
            go_wp2_with fail
            with_reducible refine (looseCyc _ _ _ _).mono ?_
            rintro e w' ⟨rfl, rfl⟩
            clear hrow4 hi5
            go_wp2_with (at_builtin; refine wpList_pushVX w4 rfl _ _ 27 rfl 24 _ 24 Try.underlying27 Try.infoInts rfl (by decide) w.heap.size w4.heap.size a l c vs rfl hov4 (.slice a3 m3 c3) rfl rfl (by omega) hbq4.size ?_)
            intro a6 c6 w6 ho6 hc6 hnew6
            have hs6 := hc6.size
            have hbq6 := hbq4.trans (hov4.chgBelow hc6 hbq4.size)
            have hrv6 := ((hrv4.append (RowsX.one hrow4')).chgSpine hov4 (by decide) hc6).mono (Nat.le_refl _) hs6
            have hrs6 : OwnRows wi.heap.size wo.heap.size w6 _ n1 c1 P := hrs4.chg hc6 fun g g1 g2 hg => by
              have := hsep.out g hg; omega
            have hsep6 := Lib.hid (show ∀ g, (Value.slice a6 (l + 1) c6).ownBlock = some g → g < wi.heap.size ∨ wo.heap.size ≤ g from fun g hg => by
              rcases hnew6 g hg with h' | h'
              · exact hsep.out g h'
              · exact .inr (by omega))
            clear hov4 hrv4 hrs4 hc6 hnew6 hrow4'
            go_wp2_with fail
            go_roundw
            case rel => exact ⟨k + 1, a6, l + 1, c6, _, by omega, by omega, by go_num, rfl, ho6, by rw [Hnew.out, ← List.append_assoc]; exact hrv6, hbq6, hrs6, by omega, hsep6⟩
            case measure => simp [intOf]; omega
        · obtain rfl : n1 = k := by omega
          have hP : P.take n1 = P := List.take_of_length_le (by rw [Hn1.out]; exact Nat.le_refl _)
          rw [hP, ← Hnext.out] at hrv
          have HP := Lib.hid hP; clear hP
          clear hrs
          go_wp2_with fail
          go_roundw
          case rel => exact ⟨j + 1, a, l, c, vs, by omega, by omega, by go_num, rfl, hov, hrv, hbq⟩
          case measure => simp [intOf]; omega
    · obtain rfl : n = j := by omega
      rw [List.take_of_length_le (by rw [Hl0.out]; exact Nat.le_refl _)] at hrv
      go_wp2_with fail
      go_ret
      exact ⟨_, _, _, _, rfl, hov, hrv, hb⟩
end Go.Proofs.Ytcanpbhffmdeeaa
