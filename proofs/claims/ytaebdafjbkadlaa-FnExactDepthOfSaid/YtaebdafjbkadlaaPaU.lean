/- Levels of trees by the model: TreeOf, TreeSize, DepthOf, FarthestPast, FirstPast, LineBack. No condition. -/
import Derived.Test.YtaebdafjbkadlaaPaT
namespace Go.Proofs.Ytaebdafjbkadlaa
open Go.RowKit
set_option linter.unusedVariables false
set_option linter.unusedSimpArgs false
set_option maxRecDepth 20000

theorem Try.infoIntss : (Try.prog.info? 25).map (fun i => (i.zero, i.size, i.bytes)) = some (some (.slice none 0 0), 1, 24) := by kernel_rfl
/-! ### Levels: each a spine with rows behind it -/
structure LvW (B E : Nat) (w : World) (lvs : List Value) (lss : List (List (List Int))) : Prop where
  length : lvs.length = lss.length
  lev : ∀ i, i < lss.length → ∃ a m c vs, lvs.getD i undef = .slice a m c ∧ Sp B E B E w a m c vs (lss.getD i [])
theorem LvW.mono {B B' E E' w lvs lss} (h : LvW B E w lvs lss) (hB : B' ≤ B) (hE : E ≤ E') : LvW B' E' w lvs lss :=
  ⟨h.length, fun i hi => by obtain ⟨a, m, c, vs, e, hs⟩ := h.lev i hi; exact ⟨a, m, c, vs, e, hs.mono hB hE hB hE⟩⟩
theorem LvW.keep {B E w w' lvs lss} (h : LvW B E w lvs lss) (hb : Below w.heap.size w w') : LvW B E w' lvs lss :=
  ⟨h.length, fun i hi => by obtain ⟨a, m, c, vs, e, hs⟩ := h.lev i hi; exact ⟨a, m, c, vs, e, hs.keep hb⟩⟩
theorem LvW.nil (B E : Nat) (w : World) : LvW B E w [] [] := ⟨rfl, fun i hi => absurd hi (Nat.not_lt_zero _)⟩
theorem LvW.snoc {B E w lvs lss a m c vs l} (h : LvW B E w lvs lss) (k : Sp B E B E w a m c vs l) : LvW B E w (lvs ++ [.slice a m c]) (lss ++ [l]) := by
  refine ⟨by simp [h.length], fun i hi => ?_⟩
  rw [List.length_append, List.length_singleton] at hi
  by_cases hlt : i < lss.length
  · obtain ⟨a', m', c', vs', e, hs⟩ := h.lev i hlt
    refine ⟨a', m', c', vs', ?_, ?_⟩
    · rw [List.getD_eq_getElem?_getD, List.getElem?_append_left (by rw [h.length]; exact hlt), ← List.getD_eq_getElem?_getD]; exact e
    · rw [List.getD_eq_getElem?_getD, List.getElem?_append_left hlt, ← List.getD_eq_getElem?_getD]; exact hs
  · obtain rfl : i = lss.length := by omega
    refine ⟨a, m, c, vs, ?_, ?_⟩
    · rw [List.getD_eq_getElem?_getD, List.getElem?_append_right (by rw [h.length]; exact Nat.le_refl _), h.length, Nat.sub_self]; rfl
    · rw [List.getD_eq_getElem?_getD, List.getElem?_append_right (Nat.le_refl _), Nat.sub_self]; exact k
theorem Sp.chgL {B E C D w w' ao n cap vs xss B' E' ao' n' cap' us} (h : Sp B E C D w ao n cap vs xss) (k : OwnRow B' E' w 25 ao' n' cap' us) (hc : Chg (fun q => (Value.slice ao' n' cap').ownBlock = some q) w w') : Sp B E C D w' ao n cap vs xss :=
  ⟨OwnRow.chg h.spine hc fun g _ _ hg hs => OwnRow.apart_ty h.spine k (by decide) hg hs, ⟨h.rows.length, fun i hi => by
    obtain ⟨a, m, c, e, ho⟩ := h.rows.row i hi
    exact ⟨a, m, c, e, ho.chg hc fun g _ _ hg hs => OwnRow.apart_ty ho k (by decide) hg hs⟩⟩⟩
theorem LvW.chgL {B E w w' lvs lss B' E' ao n cap us} (h : LvW B E w lvs lss) (k : OwnRow B' E' w 25 ao n cap us) (hc : Chg (fun q => (Value.slice ao n cap).ownBlock = some q) w w') : LvW B E w' lvs lss :=
  ⟨h.length, fun i hi => by obtain ⟨a, m, c, vs, e, hs⟩ := h.lev i hi; exact ⟨a, m, c, vs, e, hs.chgL k hc⟩⟩
/-- a level at a place -/
theorem lvRow {B E B' E' : Nat} {w : World} {ao : Option Addr} {n cap : Nat} {lvs : List Value} {lss : List (List (List Int))} (h : OwnRow B E w 25 ao n cap lvs) (k : LvW B' E' w lvs lss) {i : Nat} (hi : i < n) :
    ∃ b o a m c vs, ao = some ⟨b, o, none⟩ ∧ b < w.heap.size ∧ w.cell? ⟨b, o + i, none⟩ = some (.slice a m c) ∧ Sp B' E' B' E' w a m c vs (lss.getD i []) := by
  obtain ⟨b, o, e, hlt, hc⟩ := h.at.cell i hi
  obtain ⟨a, m, c, vs, e2, hs⟩ := k.lev i (by rw [← k.length, h.length]; exact hi)
  exact ⟨b, o, a, m, c, vs, e, hlt, by rw [hc i hi, e2], hs⟩

set_option maxHeartbeats 3200000 in
theorem paLevels_any (ao : Option Addr) (n cap : Nat) (xs : List Int) (w : World) (h : IntsAt w ao n cap xs) (hg : Good xs) :
    Calls Try.prog 97 #[.slice ao n cap] w fun e w' => ∃ a c, e = .returned (.slice a (depN xs) c) ∧ (∃ lvs, OwnRow w.heap.size w'.heap.size w' 25 a (depN xs) c lvs ∧ LvW w.heap.size w'.heap.size w' lvs (plevs xs (depN xs))) ∧ Below w.heap.size w w' := by
  have hlen := hg.len
  have hl0 := h.length
  have hcon := l1Own_any ao n cap xs w h (by omega)
  have Hg := Lib.hid hg; clear hg
  have Hl0 := Lib.hid hl0; clear hl0
  have Hcon := Lib.hid hcon; clear hcon
  go_enter Try.func97, Try.ntmps97
  go_wp2_with fail
  with_reducible refine (Hcon.out).mono ?_
  rintro e w1 ⟨a1, c1, rfl, ho1, hb1⟩
  have h1 := OwnRows.one ho1 w.heap.size (Nat.le_refl _) hb1.size (by omega)
  obtain ⟨vs1, hs1, _⟩ := h1.sp
  have hba := hb1.alloc hb1.size (.cells #[.slice a1 n c1] 31)
  have hs1' : Sp w.heap.size (w1.alloc (.cells #[.slice a1 n c1] 31)).heap.size w.heap.size (w1.alloc (.cells #[.slice a1 n c1] 31)).heap.size (w1.alloc (.cells #[.slice a1 n c1] 31)) (some ⟨w1.heap.size, 0, none⟩) 1 1 vs1 (plL xs 0) := hs1.mono (Nat.le_refl _) (by simp) (Nat.le_refl _) (by simp)
  clear h1 hs1 ho1 hb1
  go_wp2_with fail
  go_loopw [3, 4] (fun v o wr => ∃ (t : Nat) (a : Option Addr) (m c : Nat) (vs : List Value) (a2 : Option Addr) (c2 : Nat) (lvs : List Value), v = .slice a m c ∧ o = .slice a2 t c2 ∧ t ≤ 3719 ∧ (∀ u, u < t → levL [xs] u ≠ []) ∧ Sp w.heap.size wr.heap.size w.heap.size wr.heap.size wr a m c vs (plL xs t) ∧ OwnRow w.heap.size wr.heap.size wr 25 a2 t c2 lvs ∧ LvW w.heap.size wr.heap.size wr lvs (plevs xs t) ∧ Below w.heap.size w wr) (fun _ o _ => match o with | .slice _ t _ => 4000 - t | _ => 0)
  case atStart => exact ⟨0, _, _, _, _, none, 0, [], rfl, rfl, Nat.zero_le _, fun u hu => absurd hu (Nat.not_lt_zero _), hs1', OwnRow.nil _ _ _ _, LvW.nil _ _ _, hba⟩
  case round =>
    obtain ⟨t, a, m, c, vs, a2, c2, lvs, rfl, rfl, ht, hne, hv, hov, hlv, hb⟩ := hrel
    clear hs1' hba
    have hm := hv.length
    by_cases hlt : m = 0
    · subst hlt
      have hnil := (plL_nil xs t).1 (List.eq_nil_of_length_eq_zero hm)
      have hN := depN_unique Hg.out hnil hne
      subst hN
      have Hnil := Lib.hid hnil; clear hnil
      have Hm := Lib.hid hm; clear hm
      have Hne := Lib.hid hne; clear hne
      go_wp2
      go_ret
      exact ⟨_, _, rfl, ⟨_, hov, hlv⟩, hb⟩
    · have hne2 : ∀ u, u < t + 1 → levL [xs] u ≠ [] := fun u hu => by
        by_cases hut : u = t
        · subst hut; intro e; exact hlt (by rw [← hm, (plL_nil xs u).2 e]; rfl)
        · exact hne u (by omega)
      have ht2 : t + 1 ≤ 3719 := by
        have h1 := (depN_spec Hg.out).2
        rcases Nat.lt_or_ge (depN xs) (t + 1) with h2 | h2
        · exact absurd h1.2.1 (hne2 _ h2)
        · omega
      have hle := plL_le Hg.out t
      have hle2 := plL_le Hg.out (t + 1)
      have e : plL xs (t + 1) = srt ((plL xs t).flatMap loosePasts) := rfl
      have e2 := plevs_succ xs t
      have hGa : ∀ x ∈ plL xs t, Good x := fun x hx => plL_good Hg.out hx
      rw [e, srt_length] at hle2
      have hm8 : m ≤ 3718 := by omega
      have hmpos : (0 : Int) < m := by omega
      generalize plL xs t = A at *
      have E := Lib.hid e; clear e
      have E2 := Lib.hid e2; clear e2
      have Hm := Lib.hid hm; clear hm
      have HGa := Lib.hid hGa; clear hGa
      have Hne := Lib.hid hne; clear hne
      have Hne2 := Lib.hid hne2; clear hne2
      have hsz := hb.size
      go_wp2_with (at_builtin; refine wpList_pushVX wr rfl _ _ 68 rfl 25 _ 24 Try.underlying68 Try.infoIntss rfl (by decide) w.heap.size wr.heap.size a2 t c2 lvs rfl hov _ rfl rfl (by omega) hb.size ?_)
      intro a6 c6 wo hov6 hc6 _
      have hs6 := hc6.size
      have hlv6 : LvW w.heap.size wo.heap.size wo (lvs ++ [.slice a m c]) (plevs xs t ++ [A]) := ((hlv.snoc hv).chgL hov hc6).mono (Nat.le_refl _) hs6
      have hv6 := (hv.chgL hov hc6).mono (Nat.le_refl _) hs6 (Nat.le_refl _) hs6
      have hb6 := hb.trans (hov.chgBelow hc6 hb.size)
      rw [← E2.out] at hlv6
      clear hov hlv hv hb hc6
      have hwosz := hb6.size
      go_wp2
      go_loopw [5, 22] (fun v i wr => ∃ (q : Nat) (a' : Option Addr) (p c' : Nat) (us : List Value), q ≤ m ∧ i = .int .i64 q ∧ v = .slice a' p c' ∧ Sp w.heap.size wr.heap.size w.heap.size wr.heap.size wr a' p c' us (srt ((A.take q).flatMap loosePasts)) ∧ Below wo.heap.size wo wr) (fun _ i _ => m - (intOf i).toNat)
      case atStart => exact ⟨0, none, 0, 0, [], Nat.zero_le _, rfl, rfl, Sp.nil _ _ _ _ _, Below.refl _ _⟩
      case round =>
        obtain ⟨q, a', p, c', us, hq, rfl, rfl, hu, hb2⟩ := hrel
        by_cases hlt2 : q < m
        · obtain ⟨b, oo, a3, m3, c3, rfl, hbl, hck, _, hrow⟩ := (hv6.keep hb2).getRow hlt2
          have hg3 := HGa.out _ (getD_memR hlt2 Hm.out)
          have e3 := flatMap_snocX loosePasts hlt2 Hm.out
          have hle3 := flatMap_take_le loosePasts A (q + 1)
          rw [e3, List.length_append] at hle3
          generalize A.getD q [] = x at *
          have hcon := paFree_any a3 m3 c3 x wr hrow.at hg3
          generalize hP : loosePasts x = P at *
          generalize hL : (A.take q).flatMap loosePasts = L at *
          have Hcon := Lib.hid hcon; clear hcon
          have E3 := Lib.hid e3; clear e3
          have Hg3 := Lib.hid hg3; clear hg3
          have HP := Lib.hid hP; clear hP
          have HL := Lib.hid hL; clear hL
          clear hrow
          go_wp2_with fail
          with_reducible refine (Hcon.out).mono ?_
          rintro e wi ⟨a4, n4, c4, rfl, ⟨ps, hps⟩, hb4⟩
          have hn4 := hps.length
          have hu2 := (hu.keep hb4).mono (Nat.le_refl _) hb4.size (Nat.le_refl _) hb4.size
          have hwr := hb2.size
          have hwi := hb4.size
          have hb24 := belowTrans hb2 hb4 (Nat.le_refl _)
          clear hu hb2 hb4
          have Hn4 := Lib.hid hn4; clear hn4
          have hn48 : n4 ≤ 3718 := by have := Hn4.out; omega
          go_wp2_with fail
          go_loopw [5, 29] (fun v i wx => ∃ (r : Nat) (a5 : Option Addr) (p5 c5 : Nat) (us5 : List Value), r ≤ n4 ∧ i = .int .i64 r ∧ v = .slice a5 p5 c5 ∧ Sp w.heap.size wx.heap.size w.heap.size wx.heap.size wx a5 p5 c5 us5 (srt (L ++ P.take r)) ∧ Below wi.heap.size wi wx) (fun _ i _ => n4 - (intOf i).toNat)
          case atStart => exact ⟨0, a', p, c', us, Nat.zero_le _, rfl, rfl, by simpa using hu2, Below.refl _ _⟩
          case round =>
            obtain ⟨r, a5, p5, c5, us5, hr, rfl, rfl, h5, hb5⟩ := hrel
            clear hu2
            by_cases hlt3 : r < n4
            · obtain ⟨b6, o6, a6, m6, c6, rfl, hbl6, hck6, _, hrow6⟩ := (hps.keep hb5).getRow hlt3
              have e6 := srt_snoc (L ++ P.take r) (P.getD r [])
              rw [List.append_assoc, ← take_snocX hlt3 Hn4.out] at e6
              have hl5 := h5.length
              rw [srt_length, List.length_append, List.length_take] at hl5
              have hs5 := hb5.size
              have hp5 : p5 ≤ 1048576 := by have := Hn4.out; omega
              generalize P.getD r [] = y at *
              generalize srt (L ++ P.take r) = Z at *
              have hcon := piAddW_any _ _ _ _ _ _ _ _ _ a6 m6 c6 y _ h5 (hrow6.mono (by omega) (by omega)) hp5
              have Hcon := Lib.hid hcon; clear hcon
              have E6 := Lib.hid e6; clear e6
              have Hl5 := Lib.hid hl5; clear hl5
              go_wp2_with fail
              with_reducible refine (Hcon.out).mono ?_
              rintro e w7 ⟨a7, n7, c7, rfl, ⟨vs7, ho7⟩, hb7⟩
              have hs7 := hb7.size
              have h7 := ho7.mono (show w.heap.size ≤ _ by omega) (Nat.le_refl _) (Nat.le_refl _) hs7
              have hb57 := belowTrans hb5 hb7 (Nat.le_refl _)
              clear ho7 h5 hb5 hb7 hrow6
              go_wp2
              go_roundw
              case rel => exact ⟨r + 1, a7, n7, c7, vs7, by omega, by go_num, rfl, by rw [E6.out]; exact h7, hb57⟩
              case measure => simp [intOf]; omega
            · obtain rfl : n4 = r := by omega
              rw [take_allR Hn4.out, ← E3.out] at h5
              go_wp2
              go_roundw
              case rel => exact ⟨q + 1, a5, p5, c5, us5, by omega, by go_num, rfl, h5, belowTrans hb24 hb5 (Nat.le_refl _)⟩
              case measure => simp [intOf]; omega
        · obtain rfl : m = q := by omega
          rw [take_allR Hm.out, ← E.out] at hu
          have hs2 := hb2.size
          go_wp2
          go_roundw
          case rel => exact ⟨t + 1, a', p, c', us, a6, c6, _, rfl, rfl, ht2, Hne2.out, hu, (hov6.keep hb2).mono (Nat.le_refl _) hs2, (hlv6.keep hb2).mono (Nat.le_refl _) hs2, belowTrans hb6 hb2 (Nat.le_refl _)⟩
          case measure => simp; omega
theorem levs_take_len (A : List (List (List Int))) (q : Nat) : ((A.take q).flatten).length ≤ A.flatten.length := by
  have := congrArg (fun l => l.flatten.length) (List.take_append_drop q A)
  simp only [List.flatten_append, List.length_append] at this
  omega
theorem take_snocL {xs : List (List (List Int))} {k n : Nat} (hk : k < n) (hl : xs.length = n) : xs.take (k + 1) = xs.take k ++ [xs.getD k []] := by
  subst hl
  rw [List.take_add_one, List.getElem?_eq_getElem hk, List.getD_eq_getElem?_getD, List.getElem?_eq_getElem hk]; rfl

set_option maxHeartbeats 3200000 in
theorem spec_TreeOf (ao : Option Addr) (n cap : Nat) (xs : List Int) (w : World) (h : IntsAt w ao n cap xs) :
    Calls Try.prog 56 #[.slice ao n cap] w fun e w' => ∃ ao' n' cap', e = .returned (.tuple #[.slice ao' n' cap', .bool (mTreeOf xs).2]) ∧ RowsR w.heap.size w'.heap.size w' ao' n' cap' (mTreeOf xs).1 ∧ Below w.heap.size w w' := by
  cases hg : goodB xs
  · have hm := mTree_no hg
    have Hg := Lib.hid hg; clear hg
    have Hm := Lib.hid hm; clear hm
    go_enter Try.func56, Try.ntmps56
    go_wp2_with fail
    with_reducible refine (piGood_no _ _ _ _ _ h Hg.out).mono ?_
    rintro e w' ⟨rfl, rfl⟩
    go_wp2
    go_ret2
    rw [Hm.out]
    exact ⟨none, 0, 0, rfl, RowsR.nil _ _ _, Below.refl _ _⟩
  · have hG := good_iff.1 hg
    have hm := mTree_yes hg
    rw [treeL_plevs] at hm
    have hcon := paLevels_any ao n cap xs w h hG
    have hle := plevs_len hG (depN xs)
    have hpl := plevs_length xs (depN xs)
    have hN := (depN_spec hG).2.1
    generalize hA : plevs xs (depN xs) = A at *
    generalize depN xs = N at *
    have Hg := Lib.hid hg; clear hg
    have Hm := Lib.hid hm; clear hm
    have HG := Lib.hid hG; clear hG
    have Hcon := Lib.hid hcon; clear hcon
    have Hpl := Lib.hid hpl; clear hpl
    have HA := Lib.hid hA; clear hA
    go_enter Try.func56, Try.ntmps56
    go_wp2_with fail
    with_reducible refine (piGood_yes _ _ _ _ _ h HG.out).mono ?_
    rintro e w' ⟨rfl, rfl⟩
    go_wp2_with fail
    with_reducible refine (Hcon.out).mono ?_
    rintro e w1 ⟨a1, c1, rfl, ⟨lvs, hov, hlv⟩, hb1⟩
    have hsz1 := hb1.size
    go_wp2_with fail
    go_loopw [4, 15] (fun v i wr => ∃ (t : Nat) (a : Option Addr) (p c : Nat) (vs : List Value), t ≤ N ∧ i = .int .i64 t ∧ v = .slice a p c ∧ Sp w.heap.size wr.heap.size w.heap.size wr.heap.size wr a p c vs (srt (A.take t).flatten) ∧ Below w1.heap.size w1 wr) (fun _ i _ => N - (intOf i).toNat)
    case atStart => exact ⟨0, none, 0, 0, [], Nat.zero_le _, rfl, rfl, Sp.nil _ _ _ _ _, Below.refl _ _⟩
    case round =>
      obtain ⟨t, a, p, c, vs, ht, rfl, rfl, hv, hb⟩ := hrel
      by_cases hlt : t < N
      · obtain ⟨b, oo, a3, m3, c3, ps, rfl, hbl, hck, hps⟩ := lvRow (hov.keep hb) (hlv.keep hb) hlt
        have e3 : (A.take (t + 1)).flatten = (A.take t).flatten ++ A.getD t [] := by rw [take_snocL hlt Hpl.out, List.flatten_append]; simp
        have hle3 := levs_take_len A (t + 1)
        rw [e3, List.length_append] at hle3
        have hn4 := hps.length
        generalize A.getD t [] = P at *
        generalize hL : (A.take t).flatten = L at *
        have hn48 : m3 ≤ 3718 := by omega
        have E3 := Lib.hid e3; clear e3
        have Hn4 := Lib.hid hn4; clear hn4
        have HL := Lib.hid hL; clear hL
        obtain ⟨wi, hwi⟩ : ∃ wi : World, wi = wr := ⟨_, rfl⟩
        subst hwi
        have hwisz := hb.size
        go_wp2_with fail
        go_loopw [4, 21] (fun v i wx => ∃ (r : Nat) (a5 : Option Addr) (p5 c5 : Nat) (us5 : List Value), r ≤ m3 ∧ i = .int .i64 r ∧ v = .slice a5 p5 c5 ∧ Sp w.heap.size wx.heap.size w.heap.size wx.heap.size wx a5 p5 c5 us5 (srt (L ++ P.take r)) ∧ Below wi.heap.size wi wx) (fun _ i _ => m3 - (intOf i).toNat)
        case atStart => exact ⟨0, a, p, c, vs, Nat.zero_le _, rfl, rfl, by simpa using hv, Below.refl _ _⟩
        case round =>
          obtain ⟨r, a5, p5, c5, us5, hr, rfl, rfl, h5, hb5⟩ := hrel
          clear hv
          by_cases hlt3 : r < m3
          · obtain ⟨b6, o6, a6, m6, c6, rfl, hbl6, hck6, _, hrow6⟩ := (hps.keep hb5).getRow hlt3
            have e6 := srt_snoc (L ++ P.take r) (P.getD r [])
            rw [List.append_assoc, ← take_snocX hlt3 Hn4.out] at e6
            have hl5 := h5.length
            rw [srt_length, List.length_append, List.length_take] at hl5
            have hs5 := hb5.size
            have hp5 : p5 ≤ 1048576 := by have := Hn4.out; omega
            generalize P.getD r [] = y at *
            generalize srt (L ++ P.take r) = Z at *
            have hcon := piAddW_any _ _ _ _ _ _ _ _ _ a6 m6 c6 y _ h5 (hrow6.mono (by omega) (by omega)) hp5
            have Hcon := Lib.hid hcon; clear hcon
            have E6 := Lib.hid e6; clear e6
            have Hl5 := Lib.hid hl5; clear hl5
            go_wp2_with fail
            with_reducible refine (Hcon.out).mono ?_
            rintro e w7 ⟨a7, n7, c7, rfl, ⟨vs7, ho7⟩, hb7⟩
            have hs7 := hb7.size
            have h7 := ho7.mono (show w.heap.size ≤ _ by omega) (Nat.le_refl _) (Nat.le_refl _) hs7
            have hb57 := belowTrans hb5 hb7 (Nat.le_refl _)
            clear ho7 h5 hb5 hb7 hrow6
            go_wp2
            go_roundw
            case rel => exact ⟨r + 1, a7, n7, c7, vs7, by omega, by go_num, rfl, by rw [E6.out]; exact h7, hb57⟩
            case measure => simp [intOf]; omega
          · obtain rfl : m3 = r := by omega
            rw [take_allR Hn4.out, ← E3.out] at h5
            go_wp2
            go_roundw
            case rel => exact ⟨t + 1, a5, p5, c5, us5, by omega, by go_num, rfl, h5, belowTrans hb hb5 (Nat.le_refl _)⟩
            case measure => simp [intOf]; omega
      · obtain rfl : N = t := by omega
        have e : A.take N = A := List.take_of_length_le (by rw [Hpl.out]; exact Nat.le_refl _)
        rw [e] at hv
        go_wp2
        go_ret2
        rw [Hm.out]
        exact ⟨_, _, _, rfl, hv.toR (Nat.le_refl _) (Nat.le_refl _) (Nat.le_refl _) (Nat.le_refl _), belowTrans hb1 hb (Nat.le_refl _)⟩

set_option maxHeartbeats 1600000 in
theorem spec_TreeSize (ao : Option Addr) (n cap : Nat) (xs : List Int) (w : World) (h : IntsAt w ao n cap xs) :
    Calls Try.prog 58 #[.slice ao n cap] w fun e w' => e = .returned (.tuple #[.int .i64 (mTreeSize xs).1, .bool (mTreeSize xs).2]) ∧ Below w.heap.size w w' := by
  cases hg : goodB xs
  · have hm := mTSize_no hg
    have Hg := Lib.hid hg; clear hg
    have Hm := Lib.hid hm; clear hm
    go_enter Try.func58, Try.ntmps58
    go_wp2_with fail
    with_reducible refine (piGood_no _ _ _ _ _ h Hg.out).mono ?_
    rintro e w' ⟨rfl, rfl⟩
    go_wp2
    go_ret2
    rw [Hm.out]
    exact ⟨rfl, Below.refl _ _⟩
  · have hG := good_iff.1 hg
    have hm := mTSize_yes hg
    rw [tsize_eq] at hm
    have hcon := paLevels_any ao n cap xs w h hG
    have hle := plevs_len hG (depN xs)
    have hpl := plevs_length xs (depN xs)
    have hN := (depN_spec hG).2.1
    generalize hA : plevs xs (depN xs) = A at *
    generalize depN xs = N at *
    have Hg := Lib.hid hg; clear hg
    have Hm := Lib.hid hm; clear hm
    have HG := Lib.hid hG; clear hG
    have Hcon := Lib.hid hcon; clear hcon
    have Hpl := Lib.hid hpl; clear hpl
    have HA := Lib.hid hA; clear hA
    go_enter Try.func58, Try.ntmps58
    go_wp2_with fail
    with_reducible refine (piGood_yes _ _ _ _ _ h HG.out).mono ?_
    rintro e w' ⟨rfl, rfl⟩
    go_wp2_with fail
    with_reducible refine (Hcon.out).mono ?_
    rintro e w1 ⟨a1, c1, rfl, ⟨lvs, hov, hlv⟩, hb1⟩
    go_wp2_with fail
    go_loopw [4, 13] (fun s i wr => ∃ (t q : Nat), t ≤ N ∧ i = .int .i64 t ∧ s = .int .i64 q ∧ (A.take t).flatten.length = q ∧ wr = w1) (fun _ i _ => N - (intOf i).toNat)
    case atStart => exact ⟨0, 0, Nat.zero_le _, rfl, rfl, rfl, rfl⟩
    case round =>
      obtain ⟨t, q, ht, rfl, rfl, hq, rfl⟩ := hrel
      by_cases hlt : t < N
      · obtain ⟨b, oo, a3, m3, c3, ps, rfl, hbl, hck, hps⟩ := lvRow hov hlv hlt
        have e3 : (A.take (t + 1)).flatten.length = q + m3 := by have := hps.length; rw [take_snocL hlt Hpl.out, List.flatten_append, List.length_append, hq]; simp only [List.flatten_cons, List.flatten_nil, List.append_nil]; omega
        have hle3 := levs_take_len A (t + 1)
        rw [e3] at hle3
        have E3 := Lib.hid e3; clear e3
        have Hq := Lib.hid hq; clear hq
        go_wp2
        go_roundw
        case rel => exact ⟨t + 1, q + m3, by omega, by go_num, by go_num, E3.out, trivial⟩
        case measure => simp [intOf]; omega
      · obtain rfl : N = t := by omega
        have e : A.take N = A := List.take_of_length_le (by rw [Hpl.out]; exact Nat.le_refl _)
        rw [e] at hq
        have Hq := Lib.hid hq; clear hq
        go_wp2
        go_ret2
        rw [Hm.out]
        exact ⟨by rw [Hq.out]; rfl, hb1⟩
theorem spec_DepthOf (ao : Option Addr) (n cap : Nat) (xs : List Int) (w : World) (h : IntsAt w ao n cap xs) :
    Calls Try.prog 60 #[.slice ao n cap] w fun e w' => e = .returned (.tuple #[.int .i64 (mDepthOf xs).1, .bool (mDepthOf xs).2]) ∧ Below w.heap.size w w' := by
  cases hg : goodB xs
  · have hm := mDep_no hg
    have Hg := Lib.hid hg; clear hg
    have Hm := Lib.hid hm; clear hm
    go_enter Try.func60, Try.ntmps60
    go_wp2_with fail
    with_reducible refine (piGood_no _ _ _ _ _ h Hg.out).mono ?_
    rintro e w' ⟨rfl, rfl⟩
    go_wp2
    go_ret2
    rw [Hm.out]
    exact ⟨rfl, Below.refl _ _⟩
  · have hG := good_iff.1 hg
    have hm := mDep_yes hg
    have hcon := paLevels_any ao n cap xs w h hG
    have hN := (depN_spec hG).2.1
    generalize plevs xs (depN xs) = A at *
    generalize depN xs = N at *
    have Hg := Lib.hid hg; clear hg
    have Hm := Lib.hid hm; clear hm
    have HG := Lib.hid hG; clear hG
    have Hcon := Lib.hid hcon; clear hcon
    go_enter Try.func60, Try.ntmps60
    go_wp2_with fail
    with_reducible refine (piGood_yes _ _ _ _ _ h HG.out).mono ?_
    rintro e w' ⟨rfl, rfl⟩
    go_wp2_with fail
    with_reducible refine (Hcon.out).mono ?_
    rintro e w1 ⟨a1, c1, rfl, ⟨lvs, hov, hlv⟩, hb1⟩
    go_wp2
    go_ret2
    rw [Hm.out]
    exact ⟨rfl, hb1⟩
theorem headD_getD (A : List (List Int)) : A.headD [] = A.getD 0 [] := by cases A <;> rfl
set_option maxHeartbeats 1600000 in
theorem spec_FarthestPast (ao : Option Addr) (n cap : Nat) (xs : List Int) (w : World) (h : IntsAt w ao n cap xs) :
    Calls Try.prog 61 #[.slice ao n cap] w fun e w' => ∃ ao' n' cap', e = .returned (.tuple #[.slice ao' n' cap', .bool (mFarthestPast xs).2]) ∧ Own w.heap.size w'.heap.size w' ao' n' cap' (mFarthestPast xs).1 ∧ Below w.heap.size w w' := by
  cases hg : goodB xs
  · have hm := mFarP_no hg
    have Hg := Lib.hid hg; clear hg
    have Hm := Lib.hid hm; clear hm
    go_enter Try.func61, Try.ntmps61
    go_wp2_with fail
    with_reducible refine (piGood_no _ _ _ _ _ h Hg.out).mono ?_
    rintro e w' ⟨rfl, rfl⟩
    go_wp2
    go_ret2
    rw [Hm.out]
    exact ⟨none, 0, 0, rfl, Own.nil _ _ _, Below.refl _ _⟩
  · have hG := good_iff.1 hg
    have hm := mFarP_yes hg
    have hcon := paLevels_any ao n cap xs w h hG
    have hN := (depN_spec hG).2.1
    have hN1 := (depN_spec hG).1
    have hfm := far_mem hG
    have hA : (plevs xs (depN xs)).getD (depN xs - 1) [] = plL xs (depN xs - 1) := by
      unfold plevs
      rw [List.getD_eq_getElem?_getD, List.getElem?_map, List.getElem?_range (by omega)]; rfl
    have hfar : farL xs = (plL xs (depN xs - 1)).getD 0 [] := by unfold farL; exact headD_getD _
    rw [hfar] at hm
    rw [← hA] at hm hfm
    generalize plevs xs (depN xs) = A at *
    generalize depN xs = N at *
    have Hg := Lib.hid hg; clear hg
    have Hm := Lib.hid hm; clear hm
    have HG := Lib.hid hG; clear hG
    have Hcon := Lib.hid hcon; clear hcon
    have HA := Lib.hid hA; clear hA
    have Hfar := Lib.hid hfar; clear hfar
    have Hfm := Lib.hid hfm; clear hfm
    go_enter Try.func61, Try.ntmps61
    go_wp2_with fail
    with_reducible refine (piGood_yes _ _ _ _ _ h HG.out).mono ?_
    rintro e w' ⟨rfl, rfl⟩
    go_wp2_with fail
    with_reducible refine (Hcon.out).mono ?_
    rintro e w1 ⟨a1, c1, rfl, ⟨lvs, hov, hlv⟩, hb1⟩
    obtain ⟨b, oo, a3, m3, c3, ps, rfl, hbl, hck, hps⟩ := lvRow hov hlv (show N - 1 < N by omega)
    have hm3 : 0 < m3 := by
      have h1 := hps.length
      rcases Nat.eq_zero_or_pos m3 with h0 | h0
      · rw [h0] at h1; exact absurd (List.eq_nil_of_length_eq_zero h1) Hfm.out.2
      · exact h0
    obtain ⟨b6, o6, a6, m6, c6, rfl, hbl6, hck6, _, hrow6⟩ := hps.getRow hm3
    rw [Nat.add_zero] at hck6
    have eN : ((N - 1 : Nat) : Int) = (N : Int) - 1 := by omega
    go_wp2
    go_ret2
    rw [Hm.out]
    exact ⟨_, _, _, rfl, hrow6, hb1⟩
end Go.Proofs.Ytaebdafjbkadlaa
