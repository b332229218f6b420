/- Several texts in one: FpS, FpT. No condition. -/
import Derived.Test.YtdfmljkjidepeaaGreatDoorGp
import Derived.Test.YtdfmljkjidepeaaGreatDoorSaS
import Derived.Test.YtdfmljkjidepeaaGreatDoorTail
namespace Go.Proofs.YtdfmljkjidepeaaGreatDoor
section
open Go.RowKit
set_option linter.unusedVariables false
set_option linter.unusedSimpArgs false
set_option maxRecDepth 20000

theorem wrap_small6 {x y : Int} (h1 : 0 ≤ x ∧ x ≤ 1000000001) (h2 : 0 ≤ y ∧ y ≤ 1000000001) : IntKind.i64.wrap (x + y) = x + y ∧ wrap64 (x + y) = x + y :=
  ⟨IntWalk.i64_in _ (by omega), IntWalk.wrap64_in _ (by omega)⟩
theorem cutP6 {P Q : Prop} (f : Hid P → Q) (p : P) : Q := f (Lib.hid p)
theorem chgOne6 (w : World) (R i : Nat) (v : Value) : Chg (fun k => k = R) w (w.setCell ⟨R, i, none⟩ v) :=
  ⟨rfl, rfl, rfl, by simp, fun q _ hq => heap_setCell_other w ⟨R, i, none⟩ q _ (fun e => hq (by simp [e]))⟩
/-! ### The table of ways -/
def waysT (L : List (List Int)) (K : Nat) : List Int := (List.range L.length).map fun j => if K ≤ j then ((wL (L.getD j []) : Nat) : Int) else 0
theorem waysT_length (L : List (List Int)) (K : Nat) : (waysT L K).length = L.length := by simp [waysT]
theorem waysT_at {L : List (List Int)} {K j : Nat} (h : j < L.length) : (waysT L K).getD j 0 = if K ≤ j then ((wL (L.getD j []) : Nat) : Int) else 0 := by
  unfold waysT
  rw [List.getD_eq_getElem?_getD, List.getElem?_map, List.getElem?_range h]
  rfl
theorem waysT_top (L : List (List Int)) : waysT L L.length = List.replicate L.length 0 := by
  apply List.ext_getElem
  · simp [waysT]
  · intro i h1 h2
    have hi : i < L.length := by simpa [waysT] using h1
    have := waysT_at (K := L.length) hi
    rw [if_neg (by omega), List.getD_eq_getElem?_getD, List.getElem?_eq_getElem h1] at this
    simp only [Option.getD_some] at this
    rw [this]; simp
theorem waysT_set {L : List (List Int)} {k : Nat} (hk : k < L.length) (v : Int) (hv : v = ((wL (L.getD k []) : Nat) : Int)) : (waysT L (k + 1)).set k v = waysT L k := by
  apply List.ext_getElem
  · simp [waysT]
  · intro i h1 h2
    have hi : i < L.length := by simpa [waysT] using h2
    have e1 := waysT_at (K := k + 1) hi
    have e2 := waysT_at (K := k) hi
    rw [List.getD_eq_getElem?_getD, List.getElem?_eq_getElem (by rw [waysT_length]; exact hi)] at e1
    rw [List.getD_eq_getElem?_getD, List.getElem?_eq_getElem h2] at e2
    simp only [Option.getD_some] at e1 e2
    rw [List.getElem_set, e2]
    by_cases e : k = i
    · subst e
      rw [if_pos rfl, if_pos (Nat.le_refl _)]
      exact hv
    · rw [if_neg e, e1]
      by_cases h : k ≤ i
      · rw [if_pos (by omega), if_pos h]
      · rw [if_neg (by omega), if_neg h]
theorem set_set {l : List Int} (k : Nat) (x y : Int) : (l.set k x).set k y = l.set k y := by rw [List.set_set]
theorem falls_len (a : List Int) : (fallsL a).length = (behL a).length := by unfold fallsL fallsT behL behT; simp
theorem falls_atW {a : List Int} {t : Nat} (h : t < (behL a).length) : ∃ i : Nat, (fallsL a).getD t 0 = (i : Int) ∧ i < a.length ∧ steepB a i = true ∧ (behL a).getD t [] = fallL a i := by
  have h2 : t < (fallsN a a.length).length := by unfold behL behT at h; simpa using h
  have hm := fallsN_mem.1 (List.getElem_mem h2)
  refine ⟨(fallsN a a.length)[t], ?_, hm.1, hm.2, ?_⟩
  · unfold fallsL fallsT
    rw [List.getD_eq_getElem?_getD, List.getElem?_map, List.getElem?_eq_getElem h2]; rfl
  · unfold behL behT
    rw [List.getD_eq_getElem?_getD, List.getElem?_map, List.getElem?_eq_getElem h2]; rfl
/-- what a fall makes stands later in the list -/
theorem place_later {L : List (List Int)} (hp : L.Pairwise (fun a b => befB a b = true)) {k : Nat} (hk : k < L.length) {y : List Int} (hy : y ∈ L) (hb : befB (L.getD k []) y = true) {r : Int} (h : PlaceIs L y r) :
    ∃ p : Nat, r = p ∧ k < p ∧ p < L.length ∧ L.getD p [] = y := by
  rcases h with ⟨_, hn⟩ | ⟨p, h1, h2, h3, _⟩
  · exact absurd hy hn
  · refine ⟨p, h1, ?_, h2, h3⟩
    apply Classical.byContradiction
    intro hle
    by_cases e : p = k
    · subst e
      rw [h3, befB_irrefl] at hb
      cases hb
    · have := (List.pairwise_iff_getElem.1 hp) p k h2 hk (by omega)
      have e1 : L.getD p [] = L[p] := by rw [List.getD_eq_getElem?_getD, List.getElem?_eq_getElem h2]; rfl
      have e2 : L.getD k [] = L[k] := by rw [List.getD_eq_getElem?_getD, List.getElem?_eq_getElem hk]; rfl
      rw [← e1, ← e2, h3] at this
      rw [befB_asymm this] at hb
      cases hb

theorem getD_setI {l : List Int} {k : Nat} (h : k < l.length) (v : Int) : (l.set k v).getD k 0 = v := by
  rw [List.getD_eq_getElem?_getD, List.getElem?_set_self h]; rfl
theorem getD_setJ {l : List Int} {k j : Nat} {v : Int} (h : k ≠ j) : (l.set k v).getD j 0 = l.getD j 0 := by
  rw [List.getD_eq_getElem?_getD, List.getElem?_set_ne h, ← List.getD_eq_getElem?_getD]
theorem IntsAt.drewR {w a n c xs} (h : IntsAt w a n c xs) : IntsAt w.drew a n c xs := ⟨h.length, h.le, h.max, h.isNil, h.cell⟩
set_option maxHeartbeats 12800000 in
set_option maxRecDepth 100000 in
theorem saPlays_any (ao : Option Addr) (m cap : Nat) (L : List (List Int)) (w : World) (h : RowsAt w ao m cap L) (hm : 0 < m) (hm4 : m ≤ 400) (hp : L.Pairwise (fun a b => befB a b = true)) (hs : ∀ s ∈ L, Sand s ∧ ∀ i : Nat, i < s.length → steepB s i = true → fallL s i ∈ L) :
    Calls Tryz.prog 35 #[.slice ao m cap] w fun e w' => e = .returned (.int .i64 (wL (L.getD 0 []) : Nat)) ∧ Below w.heap.size w w' := by
  have hl := h.length
  have hmi := h.lenInt
  obtain ⟨i0, hi, hz0, hz1, hz2⟩ := info_parts Tryz.infoInt
  have htop := waysT_top L
  rw [hl] at htop
  have hwl := fun K => waysT_length L K
  rw [hl] at hwl
  have Hl := Lib.hid hl; clear hl
  have Hp := Lib.hid hp; clear hp
  have Hs := Lib.hid hs; clear hs
  have Htop := Lib.hid htop; clear htop
  have Hwl := Lib.hid hwl; clear hwl
  go_enter Tryz.func35, Tryz.ntmps35
  go_wp2_with (at_make; refine wpList_make_full w rfl _ _ _ rfl w.heap.size 3 i0 _ 1 Tryz.underlying24 hi hz0 hz1 _ _ _ _ m rfl rfl rfl rfl ?_ ?_ (Nat.le_refl _) ?_)
  · rw [hz2]; omega
  · unfold maxLen; omega
  · intro w2 hown hgrow
    rw [madeZeros] at hown
    have ho : Own w.heap.size w2.heap.size w2 (some ⟨w.heap.size, 0, none⟩) m m (List.replicate m 0) := Own.of hown
    have hb2 : Below w.heap.size w w2 := (Below.refl _ _).grown hgrow (Nat.le_refl _) (fun k hk => by cases hk)
    rw [← Htop.out] at ho
    have hgw : w.heap.size < w2.heap.size := by
      rcases ho.cases with ⟨e, _⟩ | ⟨g, e, h1, h2, h3⟩
      · cases e
      · cases e; exact h3
    clear hi hz0 hz1 hz2 hgrow hown
    have Ho := Lib.hid ho; clear ho
    have Hb2 := Lib.hid hb2; clear hb2
    go_wp2_with fail
    go_loopw [4] (fun v wr => ∃ K : Nat, K ≤ m ∧ ((K = 0 ∧ v = .int .i64 (-1)) ∨ ∃ J : Nat, K = J + 1 ∧ v = .int .i64 J) ∧ Hid (Own w.heap.size w2.heap.size wr (some ⟨w.heap.size, 0, none⟩) m m (waysT L K)) ∧ Hid (Below w.heap.size w wr) ∧ w2.heap.size ≤ wr.heap.size) (fun v _ => (intOf v + 1).toNat)
    case atStart => exact ⟨m, Nat.le_refl _, .inr ⟨m - 1, by omega, by congr 1; omega⟩, Ho, Hb2, Nat.le_refl _⟩
    case round =>
      obtain ⟨K, hK, hv, Hor, Hbr, hsr⟩ := hrel
      clear Ho Hb2
      rcases hv with ⟨rfl, rfl⟩ | ⟨k, rfl, rfl⟩
      · have hc := getD_cells Hor.out 0 hm
        rw [waysT_at (by have := Hl.out; omega), if_pos (Nat.le_refl _)] at hc
        have hmi0 : (0 : Int) < (m : Int) := by omega
        clear Hor
        go_wp2
        first
          | go_ret
          | go_ret2
          | go_ret3
        exact ⟨rfl, Hbr.out⟩
      · have hkm : k < m := by omega
        have hkmi : (k : Int) < (m : Int) := by omega
        have hk0 : (0 : Int) ≤ (k : Int) := by omega
        have hkL : k < L.length := by have := Hl.out; omega
        obtain ⟨b0, o0, rfl, hbl0, hc0⟩ := h.cell k hkm
        obtain ⟨a3, n3, c3, x00, hI00⟩ := hc0 k hkm
        clear hc0
        have hxc := fun W (q : Below w.heap.size w W) => (q.cell (p := ⟨b0, o0 + k, none⟩) hbl0).trans x00
        have hIc := fun W (q : Below w.heap.size w W) => hI00.keep q
        have x0 := hxc wr Hbr.out
        have hI3 := hIc wr Hbr.out
        have hmem : L.getD k [] ∈ L := by rw [List.getD_eq_getElem?_getD, List.getElem?_eq_getElem hkL]; exact List.getElem_mem _
        obtain ⟨hsk, hsf⟩ := Hs.out _ hmem
        have hga := hsk.grains
        have hcon := saFalls_any a3 n3 c3 (L.getD k []) wr hI3 hga
        have hfl := falls_len (L.getD k [])
        have hfa := fun t (q : t < (behL (L.getD k [])).length) => falls_atW q
        have hpl := fun y r (q : y ∈ L) (q2 : befB (L.getD k []) y = true) (q3 : PlaceIs L y r) => place_later Hp.out hkL q q2 q3
        have hwe := fun q => wL_end hga q
        have hwm := fun q => wL_more hga q
        have hws := fun t (q : t < (behL (L.getD k [])).length) => wP_succ q
        have hset := fun v q => waysT_set hkL v q
        have hn24 := hga.len
        have hl3 := hI3.length
        have hgaH := Lib.hid hga
        have hwt : (waysT L (k + 1)).getD k 0 = 0 := by rw [waysT_at hkL, if_neg (by omega)]
        have hwP := fun t => wP_le (L.getD k []) t
        have hwaysp := fun p (q : p < L.length) (q2 : k < p) => (waysT_at (L := L) (K := k + 1) q).trans (if_pos (by omega))
        have hwLp := fun p (q : p < L.length) => wL_le (a := L.getD p []) ((Hs.out _ (by rw [List.getD_eq_getElem?_getD, List.getElem?_eq_getElem q]; exact List.getElem_mem _)).1.grains)
        have hfb := fun i (q : i < (L.getD k []).length) => fall_before q
        have hbl24 := behL_length hga
        generalize hAk : L.getD k [] = A at *
        clear hga hsk hmem x00 hI00
        have Hcon := Lib.hid hcon; clear hcon
        have Hfl := Lib.hid hfl; clear hfl
        have Hfa := Lib.hid hfa; clear hfa
        have Hpl := Lib.hid hpl; clear hpl
        have Hwe := Lib.hid hwe; clear hwe
        have Hwm := Lib.hid hwm; clear hwm
        have Hws := Lib.hid hws; clear hws
        have Hset := Lib.hid hset; clear hset
        have Hwt := Lib.hid hwt; clear hwt
        have HwP := Lib.hid hwP; clear hwP
        have Hwaysp := Lib.hid hwaysp; clear hwaysp
        have HwLp := Lib.hid hwLp; clear hwLp
        have Hfb := Lib.hid hfb; clear hfb
        have Hsf := Lib.hid hsf; clear hsf
        have HAk := Lib.hid hAk; clear hAk
        have HkL := Lib.hid hkL; clear hkL
        have HI3 := Lib.hid hI3; clear hI3
        have Hl3 := Lib.hid hl3; clear hl3
        have Hbl24 := Lib.hid hbl24; clear hbl24
        have Hxc := Lib.hid hxc; clear hxc
        have HIc := Lib.hid hIc; clear hIc
        go_wp2_with fail
        with_reducible refine (Hcon.out).mono ?_
        rintro e w4 ⟨a4, n4, c4, rfl, ho4, hb4⟩
        have hl4 := ho4.length
        have hor4 := Hor.out.keep hb4
        have hb5 := belowTrans Hbr.out hb4 (Nat.le_refl _)
        have hs4 := hb4.size
        clear Hcon Hor
        by_cases hb0 : behL A = []
        · have hn0 : n4 = 0 := by rw [← hl4, Hfl.out, hb0]; rfl
          subst hn0
          have hst := (hor4.set k 1).1
          rw [Hset.out 1 (by rw [Hwe.out hb0]; rfl)] at hst
          have hfz := hor4.frozenAt k
          have hck := getD_cells hor4 k hkm
          have hbs : Below w.heap.size w (w4.setCell ⟨w.heap.size, k, none⟩ (.int .i64 1)) := hb5.setCell (p := ⟨w.heap.size, k, none⟩) (Nat.le_refl _) _
          have hsz9 : (w4.setCell ⟨w.heap.size, k, none⟩ (.int .i64 1)).heap.size = w4.heap.size := by simp
          clear ho4 hor4 hb5 hb4 hl4
          have Hst := Lib.hid hst; clear hst
          have Hbs := Lib.hid hbs; clear hbs
          have Hsz9 := Lib.hid hsz9; clear hsz9
          obtain ⟨wo, hwo⟩ : ∃ wo : World, wo = wr := ⟨_, rfl⟩
          subst hwo
          obtain ⟨wi, hwi⟩ : ∃ wi : World, wi = w4 := ⟨_, rfl⟩
          subst hwi
          go_wp2_with fail
          go_loopw [31] (fun v wq => v = .int .i64 0 ∧ Hid (Own w.heap.size w2.heap.size wq (some ⟨w.heap.size, 0, none⟩) m m (waysT L k)) ∧ Hid (Below w.heap.size w wq) ∧ w2.heap.size ≤ wq.heap.size) (fun _ _ => 0)
          case atStart => exact ⟨rfl, Hst, Hbs, by have := Hsz9.out; omega⟩
          case round =>
            obtain ⟨rfl, Hst9, Hbs9, hs9⟩ := hrel
            clear Hst Hbs Hsz9 hck hfz
            cases k with
            | zero =>
              go_wp2
              go_roundw
              case rel => exact ⟨0, Nat.zero_le _, .inl ⟨rfl, by first | rfl | simp⟩, Hst9, Hbs9, by omega⟩
              case measure => simp [intOf] <;> omega
            | succ k =>
              go_wp2
              go_roundw
              case rel => exact ⟨k + 1, by omega, .inr ⟨k, rfl, by first | rfl | (congr 1; push_cast; omega)⟩, Hst9, Hbs9, by omega⟩
              case measure => simp [intOf] <;> omega
        · have hn0 : 0 < n4 := by rw [← hl4, Hfl.out]; exact List.length_pos_iff.2 hb0
          have hn0i : ¬ (n4 : Int) = 0 := by omega
          have hn0b : ((n4 : Int) == 0) = false := by simpa using hn0i
          have hnb : n4 = (behL A).length := by rw [← hl4]; exact Hfl.out
          have hn24b : n4 ≤ 24 := by rw [hnb]; exact Hbl24.out
          have hst0 : (waysT L (k + 1)).set k ((wP A 0 : Nat) : Int) = waysT L (k + 1) := by
            have hlen : k < (waysT L (k + 1)).length := by rw [Hwl.out]; exact hkm
            have e : (waysT L (k + 1))[k] = 0 := by have := Hwt.out; rw [List.getD_eq_getElem?_getD, List.getElem?_eq_getElem hlen] at this; simpa using this
            rw [wP_zero]
            conv => rhs; rw [← List.set_getElem_self hlen, e]
            rfl
          have hor5 : Own w.heap.size w2.heap.size w4 (some ⟨w.heap.size, 0, none⟩) m m ((waysT L (k + 1)).set k ((wP A 0 : Nat) : Int)) := by rw [hst0]; exact hor4
          clear hor4 hst0
          have Ho4 := Lib.hid ho4; clear ho4
          have Hor5 := Lib.hid hor5; clear hor5
          have Hb5 := Lib.hid hb5; clear hb5
          have Hnb := Lib.hid hnb; clear hnb
          have Hl4 := Lib.hid hl4; clear hl4
          have Hb0 := Lib.hid hb0; clear hb0
          obtain ⟨wo, hwo⟩ : ∃ wo : World, wo = wr := ⟨_, rfl⟩
          subst hwo
          obtain ⟨wi, hwi⟩ : ∃ wi : World, wi = w4 := ⟨_, rfl⟩
          subst hwi
          go_wp2_with fail
          go_loopw [31] (fun v wq => ∃ t : Nat, t ≤ n4 ∧ v = .int .i64 t ∧ Hid (Own w.heap.size w2.heap.size wq (some ⟨w.heap.size, 0, none⟩) m m ((waysT L (k + 1)).set k ((wP A t : Nat) : Int))) ∧ Hid (Own wo.heap.size wi.heap.size wq a4 n4 c4 (fallsL A)) ∧ Hid (Below w.heap.size w wq) ∧ wi.heap.size ≤ wq.heap.size) (fun v _ => n4 - (intOf v).toNat)
          case atStart => exact ⟨0, Nat.zero_le _, rfl, Hor5, Ho4, Hb5, Nat.le_refl _⟩
          case round =>
            obtain ⟨t, ht, rfl, Hoq, Hof, Hbq, hsq⟩ := hrel
            clear Hor5 Ho4 Hb5
            by_cases htn : t < n4
            · have htni : (t : Int) < (n4 : Int) := by omega
              have htb : t < (behL A).length := by have := Hnb.out; omega
              obtain ⟨i, hi1, hi2, hi3, hi4⟩ := Hfa.out t htb
              obtain ⟨b7, o7, rfl, hbl7, hc7⟩ := Hof.out.at.cell t htn
              have hf7 := hc7 t htn
              rw [hi1] at hf7
              clear hc7 hi1
              have hin : i < n3 := by rw [← Hl3.out]; exact hi2
              have hYL := Hsf.out i hi2 hi3
              have hYb := Hfb.out i hi2
              have hws := Hws.out t htb
              rw [hi4] at hws
              have hI7 := HIc.out wr Hbq.out
              have hfall := saFall_any a3 n3 c3 A i wr.drew hI7.drewR hgaH.out hin
              generalize hYd : fallL A i = Y at *
              have x7 := Hxc.out wr Hbq.out
              have y7 := getD_cells Hoq.out k hkm
              have hgk : ((waysT L (k + 1)).set k ((wP A t : Nat) : Int)).getD k 0 = ((wP A t : Nat) : Int) := getD_setI (by rw [Hwl.out]; exact hkm) _
              rw [hgk] at y7
              have z7 := Hoq.out.frozenAt k
              have hwPt := HwP.out t
              have hwY : wL Y ≤ 1000000001 := by
                obtain ⟨q, hq, e⟩ := List.getElem_of_mem hYL
                have := HwLp.out q hq
                rw [List.getD_eq_getElem?_getD, List.getElem?_eq_getElem hq] at this
                simp only [Option.getD_some] at this
                rw [e] at this
                exact this
              have hnew : min (1000000001 : Int) (((wP A t : Nat) : Int) + ((wL Y : Nat) : Int)) = ((wP A (t + 1) : Nat) : Int) := by rw [hws]; omega
              obtain ⟨WT, hWT⟩ : ∃ x : Int, x = ((wP A t : Nat) : Int) := ⟨_, rfl⟩
              obtain ⟨WY, hWY⟩ : ∃ x : Int, x = ((wL Y : Nat) : Int) := ⟨_, rfl⟩
              rw [← hWT] at y7
              rw [← hWT, ← hWY] at hnew
              have hT0 : 0 ≤ WT ∧ WT ≤ 1000000001 := by omega
              have hY0 : 0 ≤ WY ∧ WY ≤ 1000000001 := by omega
              obtain ⟨hwrap, hwrap2⟩ := wrap_small6 hT0 hY0
              clear hT0 hY0
              clear hi2 hi3 hi4 hws hwPt hwY hgk
              have Hfall := Lib.hid hfall; clear hfall
              have HYL := Lib.hid hYL; clear hYL
              have HYb := Lib.hid hYb; clear hYb
              have Hin := Lib.hid hin; clear hin
              have HYd := Lib.hid hYd; clear hYd
              have Hnew := Lib.hid hnew; clear hnew
              have HWT := Lib.hid hWT; clear hWT
              have HWY := Lib.hid hWY; clear hWY
              go_wp2_with fail
              refine' cutP6 (fun key => ?main) ?pf
              case main =>
                go_region_law (first
                  | (go_simp; with_reducible refine (Hfall.out).mono ?_; rintro e w5 ⟨a5, n5, c5, rfl, ho5, hb5⟩; have hy5 := belowTrans (Below.refl wr.heap.size wr).drew hb5 (Nat.le_refl _); have Hb5 := Lib.hid (belowTrans Hbq.out hy5 (Nat.le_refl _)); have Hoq5 := Lib.hid (Hoq.out.keep hy5); have Hof5 := Lib.hid (Hof.out.keep hy5); have x8 := Hxc.out w5 Hb5.out; have y8 := getD_cells Hoq5.out k hkm; rw [getD_setI (by rw [Hwl.out]; exact hkm), ← HWT.out] at y8; have z8 := Hoq5.out.frozenAt k; have Hop := Lib.hid (orPlace_any (some ⟨b0, o0, none⟩) a5 m n5 cap c5 L Y w5 (h.keep Hb5.out) ho5.at); have hs5 := hy5.size; clear ho5 hb5 hy5)
                  | (go_simp; with_reducible refine (Hop.out).mono ?_; rintro e w6 ⟨r, rfl, hr, hb6⟩; obtain ⟨p, rfl, hkp, hpL, hLp⟩ := Hpl.out Y r HYL.out HYb.out hr; have Hb6 := Lib.hid (belowTrans Hb5.out hb6 (Nat.le_refl _)); have Hoq6 := Lib.hid (Hoq5.out.keep hb6); have Hof6 := Lib.hid (Hof5.out.keep hb6); have y9 := getD_cells Hoq6.out k hkm; rw [getD_setI (by rw [Hwl.out]; exact hkm), ← HWT.out] at y9; have z9 := Hoq6.out.frozenAt k; have hpm : p < m := (by rw [← Hl.out]; exact hpL); have hpmi : (p : Int) < (m : Int) := (by omega); have y10 := getD_cells Hoq6.out p hpm; rw [getD_setJ (k := k) (j := p) (by omega), Hwaysp.out p hpL hkp, hLp, ← HWY.out] at y10; have hs6 := hb6.size; clear hb6 hr hLp hpL)
                  | (go_simp; with_reducible refine (l1Least_any _ _ _).mono ?_; rintro e w' ⟨rfl, rfl⟩))
                all_goals
                  clear x8 y8 z8 y9 z9 y10 hpmi hpm hkp
                  revert w5 a5 n5 c5 w6 p
                  exact key.out
              case pf =>
                intro w5 a5 n5 c5 Hb5 Hoq5 Hof5 Hop hs5 w6 p Hb6 Hoq6 Hof6 hs6
                have hfin := (Hoq6.out.set k (min 1000000001 (WT + WY))).1
                rw [set_set] at hfin
                have hfin2 : Own w.heap.size w2.heap.size (w6.setCell ⟨w.heap.size, k, none⟩ (.int .i64 (min 1000000001 (WT + WY)))) (some ⟨w.heap.size, 0, none⟩) m m ((waysT L (k + 1)).set k ((wP A (t + 1) : Nat) : Int)) := by rw [← Hnew.out]; exact hfin
                clear hfin
                have hchg := chgOne6 w6 w.heap.size k (.int .i64 (min 1000000001 (WT + WY)))
                have hof := (Hof6.out.chg hchg (fun q h1 _ _ e => by omega))
                have hbs : Below w.heap.size w (w6.setCell ⟨w.heap.size, k, none⟩ (.int .i64 (min 1000000001 (WT + WY)))) := Hb6.out.setCell (p := ⟨w.heap.size, k, none⟩) (Nat.le_refl _) _
                have hsz9 : (w6.setCell ⟨w.heap.size, k, none⟩ (.int .i64 (min 1000000001 (WT + WY)))).heap.size = w6.heap.size := by simp
                clear hchg
                have Hfin2 := Lib.hid hfin2; clear hfin2
                have Hof := Lib.hid hof; clear hof
                have Hbs := Lib.hid hbs; clear hbs
                have Hsz9 := Lib.hid hsz9; clear hsz9
                go_wp2
                go_roundw
                case rel => exact ⟨t + 1, by omega, by go_num, Hfin2, Hof, Hbs, by have := Hsz9.out; omega⟩
                case measure => simp [intOf] <;> omega
            · obtain rfl : t = n4 := by omega
              have hfin := Hoq.out
              rw [Hset.out _ (by rw [Hwm.out Hb0.out, Hnb.out])] at hfin
              clear Hoq Hof
              have Hfin := Lib.hid hfin; clear hfin
              cases k with
              | zero =>
                go_wp2
                go_roundw
                case rel => exact ⟨0, Nat.zero_le _, .inl ⟨rfl, by first | rfl | simp⟩, Hfin, Hbq, by omega⟩
                case measure => simp [intOf] <;> omega
              | succ k =>
                go_wp2
                go_roundw
                case rel => exact ⟨k + 1, by omega, .inr ⟨k, rfl, by first | rfl | (congr 1; push_cast; omega)⟩, Hfin, Hbq, by omega⟩
                case measure => simp [intOf] <;> omega
end
end Go.Proofs.YtdfmljkjidepeaaGreatDoor
namespace Go.Proofs.YtdfmljkjidepeaaGreatDoor
section
open Go.RowKit
set_option linter.unusedVariables false
set_option linter.unusedSimpArgs false
set_option maxRecDepth 20000

set_option maxHeartbeats 1600000 in
theorem spec_CountFallPlays (ao : Option Addr) (n cap : Nat) (xs : List Int) (w : World) (h : IntsAt w ao n cap xs) :
    Calls Tryz.prog 16 #[.slice ao n cap] w fun e w' => e = .returned (.tuple #[.int .i64 (mCountFallPlays xs).1, .bool (mCountFallPlays xs).2]) ∧ Below w.heap.size w w' := by
  cases hs : sandB xs
  · rw [mPlays_no1 hs]
    have hcon := saGood_no ao n cap xs w h hs
    clear hs
    have Hcon := Lib.hid hcon; clear hcon
    go_enter Tryz.func16, Tryz.ntmps16
    go_wp2_with fail
    with_reducible refine (Hcon.out).mono ?_
    rintro e w' ⟨rfl, rfl⟩
    go_wp2
    go_ret2
    exact ⟨rfl, Below.refl _ _⟩
  · have hsand := sand_iff.1 hs
    have hcon := saGood_yes ao n cap xs w h hsand
    have hre := saReach_any ao n cap xs w h hsand
    have hoks := ok_settle hsand
    by_cases hok : okR xs
    · obtain ⟨r1, r2, r3, r4, r5⟩ := rch_facts hsand.grains hok
      have hll := rchL_len xs
      have hWl := wL_le hsand.grains
      have hm1 := fun q => mPlays_yes hs (hoks.1 hok) q
      have hm2 := fun q => mPlays_no3 (a := xs) q
      have hpl := fun a m c W (q : RowsAt W a m c (rchL xs)) (q2 : 0 < m) (q3 : m ≤ 400) => saPlays_any a m c (rchL xs) W q q2 q3 r3 r5
      rw [r1] at hpl
      generalize wL xs = N at *
      generalize rchL xs = L at *
      clear hs hsand hoks hok r1 r2 r3 r5
      have Hcon := Lib.hid hcon; clear hcon
      have Hre := Lib.hid hre; clear hre
      have Hpl := Lib.hid hpl; clear hpl
      have Hm1 := Lib.hid hm1; clear hm1
      have Hm2 := Lib.hid hm2; clear hm2
      have R4 := Lib.hid r4; clear r4
      have Hll := Lib.hid hll; clear hll
      go_enter Tryz.func16, Tryz.ntmps16
      go_wp2_with fail
      with_reducible refine (Hcon.out).mono ?_
      rintro e w' ⟨rfl, rfl⟩
      go_wp2_with fail
      with_reducible refine (Hre.out).mono ?_
      rintro e w1 ⟨a1, m1, c1, vs, rfl, hsp, hb1⟩
      have hat := hsp.at
      have hlm := hat.length
      have hm0 : 0 < m1 := by rw [← hlm]; exact R4.out
      have hm4 : m1 ≤ 400 := by rw [← hlm]; exact Hll.out
      have hm0i : ¬ (m1 : Int) = 0 := by omega
      have hm0b : ((m1 : Int) == 0) = false := by simpa using hm0i
      have hp1 := Hpl.out _ _ _ _ hat hm0 hm4
      clear hsp hlm
      have Hp1 := Lib.hid hp1; clear hp1
      have Hat := Lib.hid hat; clear hat
      have Hb1 := Lib.hid hb1; clear hb1
      go_wp2_with fail
      with_reducible refine (Hp1.out).mono ?_
      rintro e w2 ⟨rfl, hb2⟩
      have hat2 := Hat.out.keep hb2
      have hb3 := belowTrans Hb1.out hb2 (Nat.le_refl _)
      have hp2 := Hpl.out _ _ _ _ hat2 hm0 hm4
      clear hb2 Hp1 Hat Hb1
      have Hp2 := Lib.hid hp2; clear hp2
      have Hb3 := Lib.hid hb3; clear hb3
      by_cases hN : N ≤ 1000000000
      · have hm := Hm1.out hN
        have hNi : ¬ (1000000000 : Int) < (N : Int) := by omega
        have Hm := Lib.hid hm; clear hm
        go_wp2_with fail
        with_reducible refine (Hp2.out).mono ?_
        rintro e w4 ⟨rfl, hb4⟩
        have hb5 := belowTrans Hb3.out hb4 (Nat.le_refl _)
        clear hb4
        have Hb5 := Lib.hid hb5; clear hb5
        go_wp2
        go_ret2
        rw [Hm.out]
        exact ⟨rfl, Hb5.out⟩
      · have hm := Hm2.out hN
        have hNi : (1000000000 : Int) < (N : Int) := by omega
        have Hm := Lib.hid hm; clear hm
        go_wp2
        go_ret2
        rw [Hm.out]
        exact ⟨rfl, Hb3.out⟩
    · have hq : (mSettleSand xs).2 = false := by
        cases h9 : (mSettleSand xs).2 with
        | false => rfl
        | true => exact absurd (hoks.2 h9) hok
      rw [mPlays_no2 hq]
      rw [rchL_no hok] at hre
      clear hs hsand hoks hok hq
      have Hcon := Lib.hid hcon; clear hcon
      have Hre := Lib.hid hre; clear hre
      go_enter Tryz.func16, Tryz.ntmps16
      go_wp2_with fail
      with_reducible refine (Hcon.out).mono ?_
      rintro e w' ⟨rfl, rfl⟩
      go_wp2_with fail
      with_reducible refine (Hre.out).mono ?_
      rintro e w1 ⟨a1, m1, c1, vs, rfl, hsp, hb1⟩
      have hlm := hsp.at.length
      simp only [List.length_nil] at hlm
      subst hlm
      clear hsp
      have Hb1 := Lib.hid hb1; clear hb1
      go_wp2
      go_ret2
      exact ⟨rfl, Hb1.out⟩
end
end Go.Proofs.YtdfmljkjidepeaaGreatDoor
