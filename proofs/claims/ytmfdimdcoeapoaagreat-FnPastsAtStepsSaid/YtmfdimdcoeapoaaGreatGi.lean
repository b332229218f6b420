/- Several texts in one: PaD, PaE, PaF, PaG, PaL, PaH, PaK, PaN. No condition. -/
import Derived.Test.YtmfdimdcoeapoaaGreatGs
import Derived.Test.YtmfdimdcoeapoaaGreatTailI
import Derived.Test.YtmfdimdcoeapoaaGreatGy
import Derived.Lib.SliceRun
import Derived.Laws.EntriesVeiled
import Derived.Test.YtmfdimdcoeapoaaGreatGk
import Derived.Test.YtmfdimdcoeapoaaGreatGr
import Derived.Test.YtmfdimdcoeapoaaGreatPlay
import Derived.Test.YtmfdimdcoeapoaaGreatTail42
namespace Go.Proofs.YtmfdimdcoeapoaaGreat
section
open Go.RowKit
set_option linter.unusedVariables false
set_option linter.unusedSimpArgs false
set_option maxRecDepth 20000

theorem cycB_no {p : List Int} (h : ¬ Cyc p) : cycB p = false := by
  cases e : cycB p
  · rfl
  · exact absurd (cyc_iff.1 e) h
/-! ### Rows that are cut, and cells that are cleared -/
/-! ### Which piles are cyclic, as the way back asks it -/
set_option maxHeartbeats 800000 in
theorem loosePred_any (ao : Option Addr) (n cap : Nat) (xs : List Int) (w : World) (h : IntsAt w ao n cap xs) (hg : Good xs) :
    Calls Tryz.prog 40 #[.slice ao n cap] w fun e w' => e = .returned (.bool (cycB xs)) ∧ Below w.heap.size w w' := by
  have hcon := stateOf_any ao n cap xs w h hg
  have Hcon := Lib.hid hcon; clear hcon
  have Hg := Lib.hid hg; clear hg
  go_enter Tryz.func40, Tryz.ntmps40
  go_wp2_with fail
  with_reducible refine (Hcon.out).mono ?_
  rintro e w4 ⟨v4, rfl, hst, hb4⟩
  rcases hst with ⟨hcy, rfl⟩ | ⟨hcy, a5, m5, c5, rfl, hi5⟩
  · have hme := mRingCyc (bitsL xs)
    have hc := cyc_iff.2 hcy
    have Hcy := Lib.hid hcy; clear hcy
    have Hc := Lib.hid hc; clear hc
    go_wp2_with fail
    with_reducible refine (ringCyc _ _).mono ?_
    rintro e w6 ⟨rfl, hb6⟩
    go_wp2
    go_ret
    exact ⟨retB Hc.out.symm, belowTrans hb4 hb6 (Nat.le_refl _)⟩
  · have hme := mLooseCyc a5 m5 c5
    have hc := cycB_no hcy
    have Hcy := Lib.hid hcy; clear hcy
    have Hc := Lib.hid hc; clear hc
    go_wp2_with fail
    with_reducible refine (looseCyc _ _ _ _).mono ?_
    rintro e w' ⟨rfl, rfl⟩
    go_wp2
    go_ret
    exact ⟨retB Hc.out.symm, hb4⟩
def looseF : Value := .func (.func 40) #[] #[]
set_option maxHeartbeats 1600000 in
theorem indexLoose_any (ao : Option Addr) (n cap : Nat) (xss : List (List Int)) (w : World) (h : RowsAt w ao n cap xss) (hG : ∀ x ∈ xss, Good x) (hn : n ≤ 4000) :
    Calls Tryz.prog 56 #[.slice ao n cap, looseF] w fun e w' => ∃ r : Int, e = .returned (.int .i64 r) ∧ ((r = -1 ∧ ∀ x ∈ xss, cycB x = false) ∨ ∃ i : Nat, r = i ∧ i < n ∧ cycB (xss.getD i []) = true ∧ ∀ x ∈ xss.take i, cycB x = false) ∧ Below w.heap.size w w' := by
  have hl := h.length
  have HG := Lib.hid hG; clear hG
  have Hl := Lib.hid hl; clear hl
  unfold looseF
  go_enter Tryz.func56, Tryz.ntmps56
  go_wp2
  go_loopw [8] (fun i wr => ∃ j : Nat, j ≤ n ∧ i = .int .i64 j ∧ (∀ x ∈ xss.take j, cycB x = false) ∧ Below w.heap.size w wr) (fun i _ => n - (intOf i).toNat)
  case atStart => exact ⟨0, Nat.zero_le _, rfl, by simp, Below.refl _ _⟩
  case round =>
    obtain ⟨j, hj, rfl, hall, hb⟩ := hrel
    by_cases hlt : j < n
    · obtain ⟨b, oo, rfl, hbl, hc⟩ := (h.keep hb).cell j hlt
      obtain ⟨a3, m3, c3, hck, hi3⟩ := hc j hlt
      clear hc
      have hgx := HG.out _ (getD_memR hlt Hl.out)
      have htk := take_snocX hlt Hl.out
      generalize hx : xss.getD j [] = x at *
      have hcon := loosePred_any a3 m3 c3 x wr hi3 hgx
      cases hcb : cycB x
      · rw [hcb] at hcon
        have Hcon := Lib.hid hcon; clear hcon
        have Hx := Lib.hid hx; clear hx
        have Hgx := Lib.hid hgx; clear hgx
        have Hcb := Lib.hid hcb; clear hcb
        have Htk := Lib.hid htk; clear htk
        have Hall := Lib.hid hall; clear hall
        go_wp2_with fail
        with_reducible refine (Hcon.out).mono ?_
        rintro e w2 ⟨rfl, hb2⟩
        go_wp2
        go_roundw
        case rel =>
          refine ⟨j + 1, by omega, by go_num, fun y hy => ?_, belowTrans hb hb2 (Nat.le_refl _)⟩
          rw [Htk.out] at hy
          rcases List.mem_append.1 hy with h' | h'
          · exact Hall.out y h'
          · rw [List.mem_singleton.1 h']; exact Hcb.out
        case measure => simp [intOf]; omega
      · rw [hcb] at hcon
        have Hcon := Lib.hid hcon; clear hcon
        have Hx := Lib.hid hx; clear hx
        have Hgx := Lib.hid hgx; clear hgx
        have Hcb := Lib.hid hcb; clear hcb
        have Htk := Lib.hid htk; clear htk
        have Hall := Lib.hid hall; clear hall
        go_wp2_with fail
        with_reducible refine (Hcon.out).mono ?_
        rintro e w2 ⟨rfl, hb2⟩
        go_wp2
        go_ret
        exact ⟨_, rfl, .inr ⟨j, rfl, hlt, by rw [Hx.out]; exact Hcb.out, Hall.out⟩, belowTrans hb hb2 (Nat.le_refl _)⟩
    · obtain rfl : n = j := by omega
      rw [take_allR Hl.out] at hall
      have Hall := Lib.hid hall; clear hall
      go_wp2
      go_ret
      exact ⟨_, rfl, .inl ⟨rfl, Hall.out⟩, hb⟩

/-! ### slices.DeleteFunc -/
def filtV (vs : List Value) (xss : List (List Int)) : List Value := ((vs.zip xss).filter fun p => !cycB p.2).map Prod.fst
theorem zip_snoc {vs : List Value} {xss : List (List Int)} {v : Value} {x : List Int} (h : vs.length = xss.length) : (vs ++ [v]).zip (xss ++ [x]) = vs.zip xss ++ [(v, x)] := by
  rw [List.zip_append h]; rfl
theorem filtV_snoc {vs : List Value} {xss : List (List Int)} {v : Value} {x : List Int} (h : vs.length = xss.length) : filtV (vs ++ [v]) (xss ++ [x]) = filtV vs xss ++ if cycB x then [] else [v] := by
  unfold filtV
  rw [zip_snoc h, List.filter_append, List.map_append]
  cases hc : cycB x <;> simp [hc]
theorem filtV_sub (vs : List Value) (xss : List (List Int)) (h : vs.length = xss.length) : (filtV vs xss).Sublist vs := by
  unfold filtV
  have h1 : ((vs.zip xss).filter fun p => !cycB p.2).Sublist (vs.zip xss) := List.filter_sublist
  have h2 := h1.map Prod.fst
  rwa [List.map_fst_zip (by omega)] at h2
theorem filtV_rows {B E : Nat} {w : World} : ∀ (vs : List Value) (xss : List (List Int)), RowsW B E w vs xss → RowsW B E w (filtV vs xss) (xss.filter fun x => !cycB x) := by
  intro vs xss h
  have key : ∀ k, RowsW B E w (filtV (vs.take k) (xss.take k)) ((xss.take k).filter fun x => !cycB x) := by
    intro k
    induction k with
    | zero => exact RowsW.nil _ _ _
    | succ k ih =>
      by_cases hk : k < xss.length
      · have hkv : k < vs.length := by rw [h.length]; exact hk
        obtain ⟨a, m, c, e, ho⟩ := h.row k hk
        have e1 : vs.take (k + 1) = vs.take k ++ [.slice a m c] := by
          rw [List.take_add_one, List.getElem?_eq_getElem hkv]
          rw [List.getD_eq_getElem?_getD, List.getElem?_eq_getElem hkv] at e
          simp only [Option.getD_some] at e
          rw [e]; rfl
        have e2 := take_snocX (xs := xss) hk rfl
        rw [e1, e2, filtV_snoc (by rw [List.length_take, List.length_take, h.length]), List.filter_append]
        generalize xss.getD k [] = x at *
        cases hc : cycB x
        · simp only [hc, Bool.false_eq_true, if_false, List.filter_cons, Bool.not_false, if_true, List.filter_nil]
          exact ih.append (RowsW.one ho)
        · simpa [hc] using ih
      · have hl := h.length
        rw [List.take_of_length_le (l := vs) (by omega), List.take_of_length_le (l := xss) (by omega)]
        rw [List.take_of_length_le (l := vs) (by omega), List.take_of_length_le (l := xss) (by omega)] at ih
        exact ih
  have := key xss.length
  have hl := h.length
  rwa [List.take_of_length_le (l := vs) (by omega), List.take_of_length_le (l := xss) (by omega)] at this
end
end Go.Proofs.YtmfdimdcoeapoaaGreat
namespace Go.Proofs.YtmfdimdcoeapoaaGreat
section
open Go.RowKit
set_option linter.unusedVariables false
set_option linter.unusedSimpArgs false
set_option maxRecDepth 20000

theorem filtV_all {vs : List Value} {xss : List (List Int)} (hl : vs.length = xss.length) (h : ∀ x ∈ xss, cycB x = false) : filtV vs xss = vs := by
  unfold filtV
  have h1 : (vs.zip xss).filter (fun p => !cycB p.2) = vs.zip xss := by
    rw [List.filter_eq_self]
    intro p hp
    rw [h p.2 (List.of_mem_zip hp).2]; rfl
  rw [h1, List.map_fst_zip (by omega)]
theorem filter_loose_all {xss : List (List Int)} (h : ∀ x ∈ xss, cycB x = false) : xss.filter (fun x => !cycB x) = xss := by
  rw [List.filter_eq_self]; intro x hx; rw [h x hx]; rfl
set_option maxHeartbeats 3200000 in
theorem delLoose_any (B E : Nat) (ao : Option Addr) (n cap : Nat) (xss : List (List Int)) (w : World) (h : OwnRows B E w ao n cap xss) (hG : ∀ x ∈ xss, Good x) (hn : n ≤ 4000) (hE : E ≤ w.heap.size) (hB : B ≤ w.heap.size) :
    Calls Tryz.prog 39 #[.slice ao n cap, looseF] w fun e w' => ∃ m, e = .returned (.slice ao m cap) ∧ OwnRows B E w' ao m cap (xss.filter fun x => !cycB x) ∧ Below B w w' := by
  have hl := h.length
  have hcon := indexLoose_any ao n cap xss w h.at hG hn
  have Hcon := Lib.hid hcon; clear hcon
  have HG := Lib.hid hG; clear hG
  have Hl := Lib.hid hl; clear hl
  unfold looseF at *
  go_enter Tryz.func39, Tryz.ntmps39
  go_wp2_with fail
  with_reducible refine (Hcon.out).mono ?_
  rintro e w1 ⟨r, rfl, ⟨rfl, hall⟩ | ⟨i0, rfl, hi0, hc0, hall⟩, hb1⟩
  · have hfe := filter_loose_all hall
    have hk := h.keep hb1
    rw [← hfe] at hk
    have Hfe := Lib.hid hfe; clear hfe
    have Hall := Lib.hid hall; clear hall
    have Hk := Lib.hid hk; clear hk
    go_wp2
    go_ret
    exact ⟨_, rfl, Hk.out, hb1.mono hB⟩
  · obtain ⟨vs, hsp, hap⟩ := h.sp
    have hvl := hsp.spine.length
    obtain ⟨hz, hrest⟩ | ⟨g, rfl, hg, hgE, hgw⟩ := hsp.spine.cases
    · omega
    have hcap := hsp.spine.capLe
    have hne1 : ((i0 : Int) == -1) = false := by rw [beq_eq_false_iff_ne]; omega
    have hstart : vs.take i0 = filtV (vs.take (i0 + 1)) (xss.take (i0 + 1)) := by
      have e1 : vs.take (i0 + 1) = vs.take i0 ++ [vs.getD i0 undef] := by
        rw [List.take_add_one, List.getElem?_eq_getElem (by omega), List.getD_eq_getElem?_getD, List.getElem?_eq_getElem (by omega)]; rfl
      rw [e1, take_snocX hi0 Hl.out, filtV_snoc (by rw [List.length_take, List.length_take, hvl, Hl.out]), hc0, filtV_all (by rw [List.length_take, List.length_take, hvl, Hl.out]) hall]
      simp
    have hsp1 := hsp.keep hb1
    have hbB := hb1.mono hB
    have hi0I : (i0 : Int) + 1 ≤ 4000 := by omega
    clear hsp h hb1
    have Hall := Lib.hid hall; clear hall
    have Hc0 := Lib.hid hc0; clear hc0
    have Hap := Lib.hid hap; clear hap
    have Hstart := Lib.hid hstart; clear hstart
    have Hvl := Lib.hid hvl; clear hvl
    go_wp2_with fail
    go_loopw [5, 6] (fun a b wr => ∃ (i j : Nat) (us : List Value), i < j ∧ j ≤ n ∧ a = .int .i64 i ∧ b = .int .i64 j ∧ OwnRow B E wr 24 (some ⟨g, 0, none⟩) n cap us ∧ us.take i = filtV (vs.take j) (xss.take j) ∧ us.drop j = vs.drop j ∧ RowsW B E wr vs xss ∧ Below B w wr) (fun _ b _ => n - (intOf b).toNat)
    case atStart => exact ⟨i0, i0 + 1, vs, by omega, by omega, rfl, by go_num, hsp1.spine, Hstart.out, rfl, hsp1.rows, hbB⟩
    case round =>
      obtain ⟨i, j, us, hij, hj, rfl, rfl, hov, htk, hdr, hrv, hb⟩ := hrel
      clear hsp1 hbB
      have hul := hov.length
      have hsz := hb.size
      by_cases hlt : j < n
      · have hck := World.ownsRow.cellAt hov.1 j (by omega)
        have huj : us[j]? = vs[j]? := by
          have h1 := congrArg (fun l => l[0]?) hdr
          simpa [List.getElem?_drop] using h1
        obtain ⟨a3, m3, c3, e3, hrow⟩ := hrv.row j (by rw [Hl.out]; exact hlt)
        have hvj : vs[j]? = some (.slice a3 m3 c3) := by
          rw [List.getD_eq_getElem?_getD] at e3
          rw [List.getElem?_eq_getElem (by rw [Hvl.out]; exact hlt)] at e3 ⊢
          simpa using e3
        rw [huj, hvj] at hck
        have hgx := HG.out _ (getD_memR hlt Hl.out)
        have htx := take_snocX hlt Hl.out
        have htv : vs.take (j + 1) = vs.take j ++ [.slice a3 m3 c3] := by rw [List.take_add_one, hvj]; rfl
        have hfs := filtV_snoc (v := .slice a3 m3 c3) (x := xss.getD j []) (vs := vs.take j) (xss := xss.take j) (by rw [List.length_take, List.length_take, Hvl.out, Hl.out])
        rw [← htv, ← htx] at hfs
        have hdr1 : us.drop (j + 1) = vs.drop (j + 1) := by
          have := congrArg (List.drop 1) hdr
          rwa [List.drop_drop, List.drop_drop] at this
        generalize xss.getD j [] = x at *
        have hcon := loosePred_any a3 m3 c3 x wr hrow.at hgx
        cases hcb : cycB x
        · rw [hcb] at hcon hfs
          simp only [Bool.false_eq_true, if_false] at hfs
          have Hcon := Lib.hid hcon; clear hcon
          have Hgx := Lib.hid hgx; clear hgx
          have Hcb := Lib.hid hcb; clear hcb
          have Htx := Lib.hid htx; clear htx
          have Htv := Lib.hid htv; clear htv
          have Hfs := Lib.hid hfs; clear hfs
          have Huj := Lib.hid huj; clear huj
          have Hvj := Lib.hid hvj; clear hvj
          have E3 := Lib.hid e3; clear e3
          have Hdr := Lib.hid hdr; clear hdr
          have Hdr1 := Lib.hid hdr1; clear hdr1
          have Htk := Lib.hid htk; clear htk
          have Hul := Lib.hid hul; clear hul
          go_wp2_with fail
          with_reducible refine (Hcon.out).mono ?_
          rintro e w2 ⟨rfl, hb2⟩
          have hov2 := hov.keep hb2
          have hrv2 := hrv.keep hb2
          have hck2 := World.ownsRow.cellAt hov2.1 i (by omega)
          obtain ⟨u, hu⟩ : ∃ u, us[i]? = some u := ⟨_, List.getElem?_eq_getElem (by have := Hul.out; omega)⟩
          rw [hu] at hck2
          have hfz := World.ownsRow.frozenAt hov2.1 i
          obtain ⟨hst1, hst2⟩ := World.ownsRow.stored hov2.1 i (.slice a3 m3 c3)
          have hst : OwnRow B E (w2.setCell ⟨g, i, none⟩ (.slice a3 m3 c3)) 24 (some ⟨g, 0, none⟩) n cap (us.set i (.slice a3 m3 c3)) := ⟨hst1, hov2.2⟩
          have hch : Chg (fun q => (Value.slice (some ⟨g, 0, none⟩) n cap).ownBlock = some q) w2 (w2.setCell ⟨g, i, none⟩ (.slice a3 m3 c3)) := (Chg.ofGrown hst2).mono (fun k hk => by simpa [Value.ownBlock] using hk.symm)
          have hrv3 := hrv2.chgSpine hov2 hch
          have hb3 : Below B w (w2.setCell ⟨g, i, none⟩ (.slice a3 m3 c3)) := (belowTrans hb hb2 hB).setCell hg _
          have htk3 : (us.set i (.slice a3 m3 c3)).take (i + 1) = filtV (vs.take (j + 1)) (xss.take (j + 1)) := by
            rw [Hfs.out, ← Htk.out, List.take_add_one, List.take_set_of_le (Nat.le_refl _), List.getElem?_set_self (by have := Hul.out; omega)]; rfl
          have hdr3 : (us.set i (.slice a3 m3 c3)).drop (j + 1) = vs.drop (j + 1) := by rw [List.drop_set_of_lt (by omega)]; exact Hdr1.out
          have Hst := Lib.hid hst; clear hst
          have Htk3 := Lib.hid htk3; clear htk3
          have Hdr3 := Lib.hid hdr3; clear hdr3
          have Hrv3 := Lib.hid hrv3; clear hrv3
          have Hb3 := Lib.hid hb3; clear hb3
          have Hu := Lib.hid hu; clear hu
          clear hst1 hst2 hch hov hov2 hrv hrv2 hb hb2 hrow
          go_wp2
          go_roundw
          case rel => exact ⟨i + 1, j + 1, _, by omega, by omega, by go_num, by go_num, Hst.out, Htk3.out, Hdr3.out, Hrv3.out, Hb3.out⟩
          case measure => simp [intOf]; omega
        · rw [hcb] at hcon hfs
          simp only [if_true, List.append_nil] at hfs
          rw [← hfs] at htk
          have Hcon := Lib.hid hcon; clear hcon
          have Hgx := Lib.hid hgx; clear hgx
          have Hcb := Lib.hid hcb; clear hcb
          have Htx := Lib.hid htx; clear htx
          have Htv := Lib.hid htv; clear htv
          have Hfs := Lib.hid hfs; clear hfs
          have Huj := Lib.hid huj; clear huj
          have Hvj := Lib.hid hvj; clear hvj
          have E3 := Lib.hid e3; clear e3
          have Hdr := Lib.hid hdr; clear hdr
          have Hdr1 := Lib.hid hdr1; clear hdr1
          have Htk := Lib.hid htk; clear htk
          have Hul := Lib.hid hul; clear hul
          go_wp2_with fail
          with_reducible refine (Hcon.out).mono ?_
          rintro e w2 ⟨rfl, hb2⟩
          have hov2 := hov.keep hb2
          have hrv2 := hrv.keep hb2
          have hb3 := belowTrans hb hb2 hB
          clear hov hrv hb hb2 hrow
          go_wp2
          go_roundw
          case rel => exact ⟨i, j + 1, us, by omega, by omega, rfl, by go_num, hov2, Htk.out, Hdr1.out, hrv2, hb3⟩
          case measure => simp [intOf]; omega
      · obtain rfl : n = j := by omega
        rw [List.take_of_length_le (l := vs) (by rw [Hvl.out]; exact Nat.le_refl _), take_allR Hl.out] at htk
        have hs1 := slFromG g n cap i hij hcap .i64
        have hs2 := slUptoG g n cap i (by omega) hcap (by omega) .i64
        have hnm : n - i < 9223372036854775807 := by omega
        have Htk := Lib.hid htk; clear htk
        have Hdr := Lib.hid hdr; clear hdr
        have Hul := Lib.hid hul; clear hul
        obtain ⟨w3, hclr, hov3, hc3⟩ := clear_run wr B E g i n cap (cap - i) us hov hij 0
        have hch : Chg (fun q => (Value.slice (some ⟨g, 0, none⟩) n cap).ownBlock = some q) wr w3 := hc3.mono (fun k hk => by simp [hk, Value.ownBlock])
        have hrv3 := filtV_rows vs xss (hrv.chgSpine hov hch)
        have hb3 : Below B w w3 := hb.trans (hc3.below (by omega) (fun k hk => by omega))
        rw [Htk.out] at hov3
        have hfin : OwnRows B E w3 (some ⟨g, 0, none⟩) i cap (xss.filter fun x => !cycB x) := (Sp.mk hov3 hrv3).own (Hap.out.sublist (filtV_sub vs xss (by rw [Hvl.out, Hl.out]))) (Nat.le_refl _) (Nat.le_refl _) (Nat.le_refl _) (Nat.le_refl _)
        have Hfin := Lib.hid hfin; clear hfin
        clear hov hrv hrv3 hov3 hc3 hch
        go_wp2
        go_ret
        exact ⟨_, rfl, Hfin.out, hb3⟩

/-! ### The pasts on a way back -/
def wbV (b : Bool) : Value := .agg #[.bool b]
def wayL (b : Bool) (xs : List Int) : List (List Int) := if b then loosePasts xs else pastsL xs
theorem wayL_good {b : Bool} {xs p : List Int} (hg : Good xs) (h : p ∈ wayL b xs) : Good p := by
  cases b
  · exact ((mem_pastsG hg).1 h).1
  · exact loose_good hg h
theorem wayL_len (b : Bool) {xs : List Int} (hg : Good xs) : (wayL b xs).length ≤ 29 := by
  cases b
  · have := pastsL_length xs; have := hg.len; show (pastsL xs).length ≤ 29; omega
  · exact loose_len hg
set_option maxHeartbeats 1600000 in
theorem wayPasts_any (b : Bool) (ao : Option Addr) (n cap : Nat) (xs : List Int) (w : World) (h : IntsAt w ao n cap xs) (hg : Good xs) :
    Calls Tryz.prog 23 #[wbV b, .slice ao n cap] w fun e w' => ∃ ao' m c, e = .returned (.slice ao' m c) ∧ OwnRows w.heap.size w'.heap.size w' ao' m c (wayL b xs) ∧ Below w.heap.size w w' := by
  have hP : ∀ x ∈ pastsL xs, Good x := fun x hx => ((mem_pastsG hg).1 hx).1
  have hpl : (pastsL xs).length ≤ 29 := by have := pastsL_length xs; have := hg.len; omega
  have hy := mPasts_yes (good_iff.2 hg)
  unfold wbV
  cases b
  · have hw : wayL false xs = pastsL xs := rfl
    rw [hw]
    have hcon := fun W hh => impl_PastsOf ao n cap xs W hh
    rw [hy] at hcon
    generalize pastsL xs = P at *
    have Hcon := Lib.hid hcon; clear hcon
    have HP := Lib.hid hP; clear hP
    have Hg := Lib.hid hg; clear hg
    have Hy := Lib.hid hy; clear hy
    go_enter Tryz.func23, Tryz.ntmps23
    go_wp2_with fail
    with_reducible refine (Hcon.out _ (h.keep (belowAlloc w _))).mono ?_
    rintro e w1 ⟨a1, n1, c1, rfl, ho1, hb1⟩
    have hs1 := hb1.size
    have hba := belowAlloc w (.cells #[.bool false] 51)
    have hcell : w1.cell? ⟨w.heap.size, 0, none⟩ = some (.bool false) := by
      rw [hb1.cell (p := ⟨w.heap.size, 0, none⟩) (by simp), World.cell?_alloc_at _ _ _ _ rfl]; rfl
    go_wp2
    go_ret
    exact ⟨_, _, _, rfl, ho1.mono (by simp) (Nat.le_refl _), belowTrans hba hb1 (Nat.le_refl _)⟩
  · have hw : wayL true xs = (pastsL xs).filter fun p => !cycB p := rfl
    rw [hw]
    have hcon := fun W hh => impl_PastsOf ao n cap xs W hh
    rw [hy] at hcon
    generalize pastsL xs = P at *
    have Hcon := Lib.hid hcon; clear hcon
    have HP := Lib.hid hP; clear hP
    have Hg := Lib.hid hg; clear hg
    have Hy := Lib.hid hy; clear hy
    go_enter Tryz.func23, Tryz.ntmps23
    go_wp2_with fail
    with_reducible refine (Hcon.out _ (h.keep (belowAlloc w _))).mono ?_
    rintro e w1 ⟨a1, n1, c1, rfl, ho1, hb1⟩
    have hs1 := hb1.size
    have hn1 := ho1.length
    have hba := belowAlloc w (.cells #[.bool true] 51)
    have hcell : w1.cell? ⟨w.heap.size, 0, none⟩ = some (.bool true) := by
      rw [hb1.cell (p := ⟨w.heap.size, 0, none⟩) (by simp), World.cell?_alloc_at _ _ _ _ rfl]; rfl
    have hdel := delLoose_any _ _ a1 n1 c1 P w1 ho1 HP.out (by omega) (Nat.le_refl _) hb1.size
    unfold looseF at hdel
    have Hdel := Lib.hid hdel; clear hdel
    have Hn1 := Lib.hid hn1; clear hn1
    go_wp2_with fail
    with_reducible refine (Hdel.out).mono ?_
    rintro e w2 ⟨m2, rfl, ho2, hb2⟩
    have hs2 := hb2.size
    go_wp2
    go_ret
    exact ⟨_, _, _, rfl, ho2.mono (by simp) hs2, (belowTrans hba hb1 (Nat.le_refl _)).trans (hb2.mono (by simp))⟩
end
end Go.Proofs.YtmfdimdcoeapoaaGreat
namespace Go.Proofs.YtmfdimdcoeapoaaGreat
section
open Go.RowKit
set_option linter.unusedVariables false
set_option linter.unusedSimpArgs false
set_option maxRecDepth 20000

def wayF (b : Bool) : Value := .func (.func 23) #[wbV b] #[]
/-- trees with these roots -/
def treesV (b : Bool) (ao : Option Addr) (n cap : Nat) : Value := .agg #[.slice ao n cap, wayF b]
/-- a block that holds trees -/
def TreeAt (B E : Nat) (w : World) (g : Nat) (b : Bool) (ao : Option Addr) (n cap : Nat) : Prop := OwnRow B E w 53 (some ⟨g, 0, none⟩) 2 2 [.slice ao n cap, wayF b]
theorem heapPair (w : World) (a b : Obj) : ((w.alloc a).alloc b).heap[w.heap.size]? = some a ∧ ((w.alloc a).alloc b).heap[w.heap.size + 1]? = some b := heap2 w a b
structure TrSt (R : Nat) (w : World) (a : Option Addr) (k c : Nat) (vs : List Value) (xss : List (List Int)) : Prop where
  res : w.heap[R]? = some (.cells #[.slice none 0 0, .nilFunc] 53 (0, 0))
  tr : w.heap[R + 1]? = some (.cells #[.slice a k c, wayF true] 53 (0, 0))
  sp : Sp (R + 2) w.heap.size (R + 2) w.heap.size w a k c vs xss
  ap : vs.Pairwise apart
theorem cellOf {w : World} {g : Nat} {cs : Array Value} {ty : TypeId} (h : w.heap[g]? = some (.cells cs ty (0, 0))) (i : Nat) (v : Value) (hv : cs[i]? = some v) : w.cell? ⟨g, i, none⟩ = some v ∧ w.frozen? ⟨g, i, none⟩ = false := by
  constructor
  · simp [World.cell?, h, hv]
  · simp [World.frozen?, h]
theorem TrSt.size {R w a k c vs xss} (h : TrSt R w a k c vs xss) : R + 2 ≤ w.heap.size := by
  have := (Array.getElem?_eq_some_iff.1 h.tr).1
  omega
theorem TrSt.step {R : Nat} {wr w1 w4 : World} {a : Option Addr} {k c : Nat} {vs : List Value} {xss : List (List Int)} (h : TrSt R wr a k c vs xss) {a1 : Option Addr} {m c1 : Nat} {x : List Int} (ho1 : Own wr.heap.size w1.heap.size w1 a1 m c1 x) (hb1 : Below wr.heap.size wr w1)
    {a4 : Option Addr} {c4 : Nat} (ho4 : OwnRow (R + 2) w4.heap.size w4 24 a4 (k + 1) c4 (vs ++ [.slice a1 m c1])) (hc4 : Chg (fun q => (Value.slice a k c).ownBlock = some q) (w1.alloc (.cells #[.slice a1 m c1] 24)) w4) :
    w4.cell? ⟨R + 1, 0, none⟩ = some (.slice a k c) ∧ w4.frozen? ⟨R + 1, 0, none⟩ = false ∧ TrSt R (w4.setCell ⟨R + 1, 0, none⟩ (.slice a4 (k + 1) c4)) a4 (k + 1) c4 (vs ++ [.slice a1 m c1]) (xss ++ [x]) ∧ Below R wr (w4.setCell ⟨R + 1, 0, none⟩ (.slice a4 (k + 1) c4)) := by
  have hs := h.size
  have hs1 := hb1.size
  have hba := hb1.alloc hb1.size (.cells #[.slice a1 m c1] 24)
  have hs4 := hc4.size
  have hsa : (w1.alloc (.cells #[.slice a1 m c1] 24)).heap.size = w1.heap.size + 1 := by simp
  have hblk : ∀ q, q < R + 2 → w4.heap[q]? = wr.heap[q]? := fun q hq => by
    rw [hc4.block q (by omega) (fun hh => by have := (h.sp.spine.1.lt q hh).1; omega), (Chg.ofBelow (S := fun _ => False) hba).block q (by omega) id]
  have hT : w4.heap[R + 1]? = some (.cells #[.slice a k c, wayF true] 53 (0, 0)) := by rw [hblk _ (by omega)]; exact h.tr
  have hR : w4.heap[R]? = some (.cells #[.slice none 0 0, .nilFunc] 53 (0, 0)) := by rw [hblk _ (by omega)]; exact h.res
  obtain ⟨g1, g2⟩ := cellOf hT 0 (.slice a k c) rfl
  have hset : Chg (fun q => q = R + 1) w4 (w4.setCell ⟨R + 1, 0, none⟩ (.slice a4 (k + 1) c4)) := ⟨rfl, rfl, rfl, by simp, fun q _ hq => heap_setCell_other w4 ⟨R + 1, 0, none⟩ q _ (fun e => hq (by simp [e]))⟩
  have hrows : RowsW (R + 2) w4.heap.size w4 (vs ++ [.slice a1 m c1]) (xss ++ [x]) := by
    have r1 := (h.sp.rows.keep hba).mono (Nat.le_refl _) (show wr.heap.size ≤ w4.heap.size by omega)
    have r2 := RowsW.one ((ho1.keep (belowAlloc w1 (.cells #[.slice a1 m c1] 24))).mono (show R + 2 ≤ wr.heap.size by omega) (show w1.heap.size ≤ w4.heap.size by omega))
    exact (r1.append r2).chgSpine (h.sp.spine.keep hba) hc4
  have hap := apart_snoc h.sp.rows h.ap ho1
  refine ⟨g1, g2, ⟨?_, ?_, ⟨?_, ?_⟩, hap⟩, ?_⟩
  · rw [hset.block R (by omega) (by omega)]; exact hR
  · exact heap_setCell_same w4 (R + 1) 0 _ _ _ hT
  · exact (OwnRow.chg ho4 hset (fun g q1 q2 _ q4 => by omega)).mono (Nat.le_refl _) (by simp)
  · exact ⟨hrows.length, fun i hi => by
      obtain ⟨a', m', c', e, ho⟩ := hrows.row i hi
      exact ⟨a', m', c', e, (ho.chg hset (fun g q1 q2 _ q4 => by omega)).mono (Nat.le_refl _) (by simp)⟩⟩
  · refine (Below.mono hba (by omega : R ≤ wr.heap.size)).trans ((hc4.below (by omega) (fun q hq => by have := (h.sp.spine.1.lt q hq).1; omega)).trans (hset.below (by omega) (fun q hq => by omega)))

theorem TrSt.fin {R : Nat} {wr : World} {a : Option Addr} {n c : Nat} {vs : List Value} {xss : List (List Int)} (h : TrSt R wr a n c vs xss) :
    (((wr.setCell ⟨R, 0, none⟩ (.slice a n c)).setCell ⟨R, 1, none⟩ (wayF true)).cell? ⟨R, 0, none⟩ = some (.slice a n c) ∧ ((wr.setCell ⟨R, 0, none⟩ (.slice a n c)).setCell ⟨R, 1, none⟩ (wayF true)).cell? ⟨R, 1, none⟩ = some (wayF true)) ∧
    OwnRows R ((wr.setCell ⟨R, 0, none⟩ (.slice a n c)).setCell ⟨R, 1, none⟩ (wayF true)).heap.size ((wr.setCell ⟨R, 0, none⟩ (.slice a n c)).setCell ⟨R, 1, none⟩ (wayF true)) a n c xss ∧ Below R wr ((wr.setCell ⟨R, 0, none⟩ (.slice a n c)).setCell ⟨R, 1, none⟩ (wayF true)) := by
  have hs := h.size
  have h1 := heap_setCell_same wr R 0 _ _ (.slice a n c) h.res
  have h2 := heap_setCell_same (wr.setCell ⟨R, 0, none⟩ (.slice a n c)) R 1 _ _ (wayF true) h1
  have c1 : Chg (fun q => q = R) wr (wr.setCell ⟨R, 0, none⟩ (.slice a n c)) := ⟨rfl, rfl, rfl, by simp, fun q _ hq => heap_setCell_other wr ⟨R, 0, none⟩ q _ (fun e => hq (by simp [e]))⟩
  have c2 : Chg (fun q => q = R) (wr.setCell ⟨R, 0, none⟩ (.slice a n c)) ((wr.setCell ⟨R, 0, none⟩ (.slice a n c)).setCell ⟨R, 1, none⟩ (wayF true)) := ⟨rfl, rfl, rfl, by simp, fun q _ hq => heap_setCell_other _ ⟨R, 1, none⟩ q _ (fun e => hq (by simp [e]))⟩
  have c3 := c1.trans c2
  have hsp : Sp (R + 2) wr.heap.size (R + 2) wr.heap.size ((wr.setCell ⟨R, 0, none⟩ (.slice a n c)).setCell ⟨R, 1, none⟩ (wayF true)) a n c vs xss :=
    ⟨OwnRow.chg h.sp.spine c3 (fun g q1 q2 _ q4 => by omega), ⟨h.sp.rows.length, fun i hi => by
      obtain ⟨a', m', c', e, ho⟩ := h.sp.rows.row i hi
      exact ⟨a', m', c', e, ho.chg c3 (fun g q1 q2 _ q4 => by omega)⟩⟩⟩
  exact ⟨⟨(cellOf h2 0 _ rfl).1, (cellOf h2 1 _ rfl).1⟩, hsp.own h.ap (by omega) (by omega) c3.size c3.size, c3.below (by omega) (fun q hq => by omega)⟩

theorem treeCells (b : Bool) (a0 : Option Addr) (n0 c0 : Nat) (w W : World) (hW : Below (w.heap.size + 1) (w.alloc (.cells #[.slice a0 n0 c0, wayF b] 53)) W) :
    W.cell? ⟨w.heap.size, 0, none⟩ = some (.slice a0 n0 c0) ∧ W.cell? ⟨w.heap.size, 1, none⟩ = some (wayF b) := by
  constructor
  · rw [hW.cell (p := ⟨w.heap.size, 0, none⟩) (by show w.heap.size < _; omega), World.cell?_alloc_at _ _ _ _ rfl]; rfl
  · rw [hW.cell (p := ⟨w.heap.size, 1, none⟩) (by show w.heap.size < _; omega), World.cell?_alloc_at _ _ _ _ rfl]; rfl
theorem flatMap_len (b : Bool) (xss : List (List Int)) (hG : ∀ x ∈ xss, Good x) : (xss.flatMap (wayL b)).length ≤ 29 * xss.length := by
  induction xss with
  | nil => simp
  | cons x l ih =>
    have h1 := wayL_len b (hG x (by simp))
    have h2 := ih (fun y hy => hG y (by simp [hy]))
    rw [List.flatMap_cons, List.length_append, List.length_cons]
    omega

set_option maxHeartbeats 3200000 in
theorem before_any (b : Bool) (a0 : Option Addr) (n0 c0 : Nat) (ao : Option Addr) (n cap : Nat) (xss : List (List Int)) (w : World) (h : RowsAt w ao n cap xss) (hG : ∀ x ∈ xss, Good x) (hn : n ≤ 4000) :
    Calls Tryz.prog 45 #[treesV b a0 n0 c0, .slice ao n cap] w fun e w' => ∃ a m c, e = .returned (.slice a m c) ∧ OwnRows w.heap.size w'.heap.size w' a m c (xss.flatMap (wayL b)) ∧ Below w.heap.size w w' := by
  have hl := h.length
  have hba := belowAlloc w (.cells #[.slice a0 n0 c0, wayF b] 53)
  have hbr : Below (w.heap.size + 1) (w.alloc (.cells #[.slice a0 n0 c0, wayF b] 53)) (w.alloc (.cells #[.slice a0 n0 c0, wayF b] 53)) := Below.refl _ _
  have hwa : (w.alloc (.cells #[.slice a0 n0 c0, wayF b] 53)).heap.size = w.heap.size + 1 := by simp
  have hnI : (n : Int) ≤ 4000 := by omega
  have Hl := Lib.hid hl; clear hl
  have HG := Lib.hid hG; clear hG
  have Hba := Lib.hid hba; clear hba
  have Hbr := Lib.hid hbr; clear hbr
  have Hwa := Lib.hid hwa; clear hwa
  unfold treesV wayF at *
  go_enter Tryz.func45, Tryz.ntmps45
  go_wp2_with fail
  go_loopw [5, 10] (fun v i wr => ∃ (j : Nat) (a : Option Addr) (p c : Nat) (vs : List Value), j ≤ n ∧ p ≤ 29 * j ∧ i = .int .i64 j ∧ v = .slice a p c ∧ Sp (w.heap.size + 1) wr.heap.size (w.heap.size + 1) wr.heap.size wr a p c vs ((xss.take j).flatMap (wayL b)) ∧ vs.Pairwise apart ∧ Below (w.heap.size + 1) (w.alloc (.cells #[.slice a0 n0 c0, .func (.func 23) #[wbV b] #[]] 53)) wr) (fun _ i _ => n - (intOf i).toNat)
  case atStart => exact ⟨0, none, 0, 0, [], Nat.zero_le _, Nat.zero_le _, rfl, rfl, Sp.nil _ _ _ _ _, List.Pairwise.nil, Hbr.out⟩
  case round =>
    obtain ⟨j, a, p, c, vs, hj, hp, rfl, rfl, hv, hap, hb⟩ := hrel
    have hbw := (Hba.out).trans (hb.mono (by omega))
    have hsz := hb.size
    rw [Hwa.out] at hsz
    by_cases hlt : j < n
    · obtain ⟨bl, oo, rfl, hbl, hc⟩ := (h.keep hbw).cell j hlt
      obtain ⟨a3, m3, c3, hck, hi3⟩ := hc j hlt
      clear hc
      obtain ⟨t0, t1⟩ := treeCells b a0 n0 c0 w wr hb
      unfold wayF at t1
      have hg3 := HG.out _ (getD_memR hlt Hl.out)
      have e3 := flatMap_snocX (wayL b) hlt Hl.out
      generalize xss.getD j [] = x at *
      have hwl := wayL_len b hg3
      have hcon := wayPasts_any b a3 m3 c3 x wr hi3 hg3
      generalize wayL b x = P at *
      have Hcon := Lib.hid hcon; clear hcon
      have E3 := Lib.hid e3; clear e3
      have Hg3 := Lib.hid hg3; clear hg3
      have Hap := Lib.hid hap; clear hap
      go_wp2_with fail
      with_reducible refine (Hcon.out).mono ?_
      rintro e w2 ⟨a2, n2, c2, rfl, ho2, hb2⟩
      obtain ⟨us, hu, hup⟩ := ho2.sp
      have hn2 := hu.length
      have hs2 := hb2.size
      have hv2 := (hv.keep hb2).mono (Nat.le_refl _) hs2 (Nat.le_refl _) hs2
      have hap2 := apart_append hv.rows Hap.out hu.rows hup (Nat.le_refl _)
      have hur := hu.rows.mono (show w.heap.size + 1 ≤ wr.heap.size by omega) (Nat.le_refl _)
      have hbw2 := belowTrans hb hb2 (by rw [Hwa.out]; exact Nat.le_refl _)
      clear hv hb hb2 ho2
      have Hn2 := Lib.hid hn2; clear hn2
      have Hap2 := Lib.hid hap2; clear hap2
      go_wp2_with (at_builtin; refine wpList_catSp w2 rfl _ _ rfl (w.heap.size + 1) w2.heap.size (w.heap.size + 1) w2.heap.size a p c vs _ rfl hv2 a2 n2 c2 us P rfl hu.spine.at hur (by have := Hn2.out; omega) (by omega) ?_)
      intro a4 c4 w4 hv4 hc4
      have hs4 := hc4.size
      have hb4 := hbw2.trans (hv2.below hc4 (by omega))
      have hv4' := hv4.mono (Nat.le_refl _) (Nat.le_refl _) (Nat.le_refl _) hs4
      clear hv2 hv4 hc4 hbw2 hu hur
      go_wp2
      go_roundw
      case rel => exact ⟨j + 1, a4, p + n2, c4, _, by omega, by have := Hn2.out; omega, by go_num, rfl, by rw [E3.out]; exact hv4', Hap2.out, hb4⟩
      case measure => simp [intOf]; omega
    · obtain rfl : n = j := by omega
      rw [take_allR Hl.out] at hv
      have Hap := Lib.hid hap; clear hap
      go_wp2
      go_ret
      exact ⟨_, _, _, rfl, hv.own Hap.out (by omega) (by omega) (Nat.le_refl _) (Nat.le_refl _), hbw⟩
end
end Go.Proofs.YtmfdimdcoeapoaaGreat
namespace Go.Proofs.YtmfdimdcoeapoaaGreat
section
open Go.RowKit Go.Shelf
set_option linter.unusedVariables false
set_option linter.unusedSimpArgs false
set_option maxRecDepth 20000

/-! ### Levels whose rows lie apart -/
structure LvX (B E : Nat) (w : World) (lvs : List Value) (vss : List (List Value)) (lss : List (List (List Int))) : Prop where
  len1 : lvs.length = lss.length
  len2 : vss.length = lss.length
  lev : ∀ i, i < lss.length → ∃ a m c, lvs.getD i undef = .slice a m c ∧ Sp B E B E w a m c (vss.getD i []) (lss.getD i [])
  ap : vss.flatten.Pairwise apart
theorem LvX.mono {B B' E E' w lvs vss lss} (h : LvX B E w lvs vss lss) (hB : B' ≤ B) (hE : E ≤ E') : LvX B' E' w lvs vss lss :=
  ⟨h.len1, h.len2, fun i hi => by obtain ⟨a, m, c, e, hs⟩ := h.lev i hi; exact ⟨a, m, c, e, hs.mono hB hE hB hE⟩, h.ap⟩
theorem LvX.keep {B E w w' lvs vss lss} (h : LvX B E w lvs vss lss) (hb : Below w.heap.size w w') : LvX B E w' lvs vss lss :=
  ⟨h.len1, h.len2, fun i hi => by obtain ⟨a, m, c, e, hs⟩ := h.lev i hi; exact ⟨a, m, c, e, hs.keep hb⟩, h.ap⟩
theorem LvX.chgL {B E w w' lvs vss lss B' E' ao n cap us} (h : LvX B E w lvs vss lss) (k : OwnRow B' E' w 27 ao n cap us) (hc : Chg (fun q => (Value.slice ao n cap).ownBlock = some q) w w') : LvX B E w' lvs vss lss :=
  ⟨h.len1, h.len2, fun i hi => by obtain ⟨a, m, c, e, hs⟩ := h.lev i hi; exact ⟨a, m, c, e, hs.chgL k hc⟩, h.ap⟩
theorem getD_snocA {α : Type} (l : List α) (x d : α) (i : Nat) : (l ++ [x]).getD i d = if i < l.length then l.getD i d else if i = l.length then x else d := by
  rw [List.getD_eq_getElem?_getD]
  by_cases h : i < l.length
  · rw [if_pos h, List.getElem?_append_left h, ← List.getD_eq_getElem?_getD]
  · rw [if_neg h, List.getElem?_append_right (by omega)]
    by_cases h2 : i = l.length
    · subst h2; simp
    · rw [if_neg h2, List.getElem?_eq_none (by simp; omega)]; rfl
theorem LvX.take {B E w lvs vss lss} (h : LvX B E w lvs vss lss) (k : Nat) (hk : k ≤ lss.length) : RowsW B E w (vss.take k).flatten (lss.take k).flatten := by
  induction k with
  | zero => exact RowsW.nil _ _ _
  | succ k ih =>
    obtain ⟨a, m, c, e, hs⟩ := h.lev k (by omega)
    have e1 : vss.take (k + 1) = vss.take k ++ [vss.getD k []] := by
      rw [List.take_add_one, List.getElem?_eq_getElem (by rw [h.len2]; omega), List.getD_eq_getElem?_getD, List.getElem?_eq_getElem (by rw [h.len2]; omega)]; rfl
    have e2 := take_snocL (xs := lss) (show k < lss.length by omega) rfl
    rw [e1, e2, List.flatten_append, List.flatten_append]
    simp only [List.flatten_cons, List.flatten_nil, List.append_nil]
    exact (ih (by omega)).append hs.rows
theorem LvX.flat {B E w lvs vss lss} (h : LvX B E w lvs vss lss) : RowsW B E w vss.flatten lss.flatten := by
  have := h.take lss.length (Nat.le_refl _)
  have hl := h.len2
  rwa [List.take_of_length_le (l := vss) (by omega), List.take_of_length_le (l := lss) (by omega)] at this
theorem LvX.snoc {B E F w lvs vss lss a m c vs l} (h : LvX B E w lvs vss lss) (k : Sp E F E F w a m c vs l) (hp : vs.Pairwise apart) (hB : B ≤ E) (hE : E ≤ F) : LvX B F w (lvs ++ [.slice a m c]) (vss ++ [vs]) (lss ++ [l]) := by
  refine ⟨by simp [h.len1], by simp [h.len2], fun i hi => ?_, ?_⟩
  · rw [List.length_append, List.length_singleton] at hi
    rw [getD_snocA, getD_snocA, getD_snocA, h.len1, h.len2]
    by_cases hlt : i < lss.length
    · rw [if_pos hlt, if_pos hlt, if_pos hlt]
      obtain ⟨a', m', c', e, hs⟩ := h.lev i hlt
      exact ⟨a', m', c', e, hs.mono (Nat.le_refl _) hE (Nat.le_refl _) hE⟩
    · have : i = lss.length := by omega
      rw [if_neg hlt, if_neg hlt, if_neg hlt, if_pos this, if_pos this, if_pos this]
      exact ⟨a, m, c, rfl, k.mono hB (Nat.le_refl _) hB (Nat.le_refl _)⟩
  · rw [List.flatten_append]
    simp only [List.flatten_cons, List.flatten_nil, List.append_nil]
    exact apart_append h.flat h.ap k.rows hp (Nat.le_refl _)
theorem LvX.one {B E w a m c vs l} (k : Sp B E B E w a m c vs l) (hp : vs.Pairwise apart) : LvX B E w [.slice a m c] [vs] [l] :=
  ⟨rfl, rfl, fun i hi => by
    obtain rfl : i = 0 := by simpa using hi
    exact ⟨a, m, c, rfl, k⟩, by simpa using hp⟩
theorem lvXRow {B E B' E' : Nat} {w : World} {ao : Option Addr} {n cap : Nat} {lvs : List Value} {vss : List (List Value)} {lss : List (List (List Int))} (h : OwnRow B E w 27 ao n cap lvs) (k : LvX B' E' w lvs vss lss) {i : Nat} (hi : i < n) :
    ∃ b o a m c, ao = some ⟨b, o, none⟩ ∧ b < w.heap.size ∧ w.cell? ⟨b, o + i, none⟩ = some (.slice a m c) ∧ lvs.getD i undef = .slice a m c ∧ Sp B' E' B' E' w a m c (vss.getD i []) (lss.getD i []) := by
  obtain ⟨b, o, e, hlt, hc⟩ := h.at.cell i hi
  obtain ⟨a, m, c, e2, hs⟩ := k.lev i (by rw [← k.len1, h.length]; exact hi)
  exact ⟨b, o, a, m, c, e, hlt, by rw [hc i hi, e2], e2, hs⟩
def lvW (b : Bool) (c : List (List Int)) : Nat → List (List Int)
  | 0 => c
  | t + 1 => (lvW b c t).flatMap (wayL b)
theorem lvW_true (c : List (List Int)) (t : Nat) : lvW true c t = levL c t := by
  induction t with
  | zero => rfl
  | succ t ih => show (lvW true c t).flatMap (wayL true) = looseL (levL c t); rw [ih]; rfl
theorem lvW_false (a : List Int) (t : Nat) : lvW false [a] t = lvA a t := by
  induction t with
  | zero => rfl
  | succ t ih => show (lvW false [a] t).flatMap (wayL false) = (lvA a t).flatMap pastsL; rw [ih]; rfl

set_option maxHeartbeats 1600000 in
theorem level_any (b : Bool) (B0 : Nat) (a0 : Option Addr) (n0 c0 : Nat) (xss : List (List Int)) (k : Nat) (w : World) (h : OwnRows B0 w.heap.size w a0 n0 c0 xss) (hB : B0 ≤ w.heap.size) (hk : k ≤ 60) (hlv : ∀ j, j ≤ k → (∀ x ∈ lvW b xss j, Good x) ∧ (lvW b xss j).length ≤ 3718) :
    Calls Tryz.prog 25 #[treesV b a0 n0 c0, .int .i64 k] w fun e w' => ∃ a m c, e = .returned (.slice a m c) ∧ OwnRows B0 w'.heap.size w' a m c (lvW b xss k) ∧ Below w.heap.size w w' := by
  have hba := belowAlloc w (.cells #[.slice a0 n0 c0, wayF b] 53)
  have hbr : Below (w.heap.size + 1) (w.alloc (.cells #[.slice a0 n0 c0, wayF b] 53)) (w.alloc (.cells #[.slice a0 n0 c0, wayF b] 53)) := Below.refl _ _
  have hwa : (w.alloc (.cells #[.slice a0 n0 c0, wayF b] 53)).heap.size = w.heap.size + 1 := by simp
  have hk0 := h.keep hba
  have hk1 : OwnRows B0 (w.alloc (.cells #[.slice a0 n0 c0, wayF b] 53)).heap.size (w.alloc (.cells #[.slice a0 n0 c0, wayF b] 53)) a0 n0 c0 (lvW b xss 0) := hk0.mono (Nat.le_refl _) (by rw [hwa]; omega)
  clear hk0
  have hbf := fun a m c x W hh => before_any b a0 n0 c0 a m c x W hh
  have Hba := Lib.hid hba; clear hba
  have Hbr := Lib.hid hbr; clear hbr
  have Hwa := Lib.hid hwa; clear hwa
  have Hlv := Lib.hid hlv; clear hlv
  have Hk1 := Lib.hid hk1; clear hk1
  unfold treesV wayF at *
  have Hbf := Lib.hid hbf; clear hbf
  go_enter Tryz.func25, Tryz.ntmps25
  go_wp2_with fail
  go_loopw [5, 9] (fun v i wr => ∃ (j : Nat) (a : Option Addr) (m c : Nat), j ≤ k ∧ i = .int .i64 j ∧ v = .slice a m c ∧ OwnRows B0 wr.heap.size wr a m c (lvW b xss j) ∧ Below (w.heap.size + 1) (w.alloc (.cells #[.slice a0 n0 c0, .func (.func 23) #[wbV b] #[]] 53)) wr) (fun _ i _ => k - (intOf i).toNat)
  case atStart => exact ⟨0, a0, n0, c0, Nat.zero_le _, rfl, rfl, Hk1.out, Hbr.out⟩
  case round =>
    obtain ⟨j, a, m, c, hj, rfl, rfl, hown, hb⟩ := hrel
    have hsz := hb.size
    rw [Hwa.out] at hsz
    by_cases hlt : j < k
    · obtain ⟨t0, t1⟩ := treeCells b a0 n0 c0 w wr hb
      unfold wayF at t1
      have hG := (Hlv.out j hj).1
      have hle := (Hlv.out j hj).2
      have hm := hown.length
      have e : lvW b xss (j + 1) = (lvW b xss j).flatMap (wayL b) := rfl
      generalize lvW b xss j = A at *
      have hcon := Hbf.out a m c A wr hown.at hG (by omega)
      have Hcon := Lib.hid hcon; clear hcon
      have HG := Lib.hid hG; clear hG
      have E := Lib.hid e; clear e
      have Hm := Lib.hid hm; clear hm
      clear hown
      go_wp2_with fail
      with_reducible refine (Hcon.out).mono ?_
      rintro e w2 ⟨a2, n2, c2, rfl, ho2, hb2⟩
      have hb3 := belowTrans hb hb2 (by rw [Hwa.out]; exact Nat.le_refl _)
      clear hb hb2
      go_wp2
      go_roundw
      case rel => exact ⟨j + 1, a2, n2, c2, by omega, by go_num, rfl, by rw [E.out]; exact ho2.mono (by omega) (Nat.le_refl _), hb3⟩
      case measure => simp [intOf]; omega
    · obtain rfl : k = j := by omega
      go_wp2
      go_ret
      exact ⟨_, _, _, rfl, hown, (Hba.out).trans (hb.mono (by omega))⟩

/-! ### slices.Concat over levels -/
theorem take_snocV {vss : List (List Value)} {k n : Nat} (hk : k < n) (hl : vss.length = n) : vss.take (k + 1) = vss.take k ++ [vss.getD k []] := by
  subst hl
  rw [List.take_add_one, List.getElem?_eq_getElem hk, List.getD_eq_getElem?_getD, List.getElem?_eq_getElem hk]; rfl

/-- how many lists the first levels have -/
def catN (lss : List (List (List Int))) (k : Nat) : Nat := (lss.take k).flatten.length
theorem catN_le (lss : List (List (List Int))) (k : Nat) : catN lss k ≤ lss.flatten.length := levs_take_len lss k
theorem catN_zero (lss : List (List (List Int))) : catN lss 0 = 0 := rfl
end
end Go.Proofs.YtmfdimdcoeapoaaGreat
namespace Go.Proofs.YtmfdimdcoeapoaaGreat
section
open Go.RowKit
set_option linter.unusedVariables false
set_option linter.unusedSimpArgs false
set_option maxRecDepth 20000

end
end Go.Proofs.YtmfdimdcoeapoaaGreat
namespace Go.Proofs.YtmfdimdcoeapoaaGreat
section
open Go.RowKit
set_option linter.unusedVariables false
set_option linter.unusedSimpArgs false
set_option maxRecDepth 20000

/-! ### Pasts at some steps -/
set_option maxHeartbeats 1600000 in
theorem impl_PastsAt (ao : Option Addr) (n cap : Nat) (xs : List Int) (k : Int) (w : World) (h : IntsAt w ao n cap xs) :
    Calls Tryz.prog 6 #[.slice ao n cap, .int .i64 k] w fun e w' => ∃ ao' n' cap', e = .returned (.tuple #[.slice ao' n' cap', .bool (mPastsAt xs k).2]) ∧ OwnRows w.heap.size w'.heap.size w' ao' n' cap' (mPastsAt xs k).1 ∧ Below w.heap.size w w' := by
  cases hg : goodB xs
  · have hm := mPA_no1 (k := k) hg
    have Hg := Lib.hid hg; clear hg
    have Hm := Lib.hid hm; clear hm
    go_enter Tryz.func6, Tryz.ntmps6
    go_wp2_with fail
    with_reducible refine (isPiles_no _ _ _ _ _ h Hg.out).mono ?_
    rintro e w' ⟨rfl, rfl⟩
    go_wp2
    go_ret2
    rw [Hm.out]
    exact ⟨none, 0, 0, rfl, OwnRows.nil _ _ _, Below.refl _ _⟩
  · by_cases hk : 0 ≤ k ∧ k ≤ 60
    · obtain ⟨q, rfl⟩ := Int.eq_ofNat_of_zero_le hk.1
      have hq : q ≤ 60 := by omega
      have hm := mPA_yes hg hq
      have hG := good_iff.1 hg
      have hl := h.length
      have hlen := hG.len
      have hcp := copyOf_any ao n cap xs w h (by omega)
      have hlv : ∀ j, j ≤ q → (∀ x ∈ lvW false [xs] j, Good x) ∧ (lvW false [xs] j).length ≤ 3718 := fun j _ => by
        rw [lvW_false]
        exact ⟨fun x hx => ((mem_lvA hG j x).1 hx).1, lvA_length hG j⟩
      have Hg := Lib.hid hg; clear hg
      have Hm := Lib.hid hm; clear hm
      have Hk := Lib.hid hk; clear hk
      have HG := Lib.hid hG; clear hG
      have Hl := Lib.hid hl; clear hl
      have Hcp := Lib.hid hcp; clear hcp
      have Hlv := Lib.hid hlv; clear hlv
      go_enter Tryz.func6, Tryz.ntmps6
      go_wp2_with fail
      with_reducible refine (isPiles_yes _ _ _ _ _ h HG.out).mono ?_
      rintro e w' ⟨rfl, rfl⟩
      go_wp2_with fail
      with_reducible refine (inRange_yes _ _ _ Hk.out).mono ?_
      rintro e w' ⟨rfl, rfl⟩
      go_wp2_with fail
      with_reducible refine (Hcp.out).mono ?_
      rintro e w1 ⟨a1, c1, rfl, ho1, hb1⟩
      have h1 := OwnRows.one ho1 w.heap.size (Nat.le_refl _) hb1.size (by omega)
      have h2 := h1.keep (belowAlloc _ (.cells #[.slice (some ⟨w1.heap.size, 0, none⟩) 1 1, wayF false] 53))
      have hba := (hb1.alloc hb1.size (.cells #[.slice a1 n c1] 24)).alloc (by have := hb1.size; simp only [World.size_alloc]; omega) (.cells #[.slice (some ⟨w1.heap.size, 0, none⟩) 1 1, wayF false] 53)
      have hcon := level_any false w.heap.size (some ⟨w1.heap.size, 0, none⟩) 1 1 [xs] q _ (h2.mono (Nat.le_refl _) (by simp only [World.size_alloc]; omega)) hba.size hq Hlv.out
      rw [lvW_false] at hcon
      clear h1 h2 ho1 hb1
      unfold treesV wayF wbV at hcon
      unfold wayF wbV at hba
      have Hcon := Lib.hid hcon; clear hcon
      have Hba := Lib.hid hba; clear hba
      go_wp2_with fail
      with_reducible refine (Hcon.out).mono ?_
      rintro e w2 ⟨a2, m2, c2, rfl, ho2, hb2⟩
      have hs2 := Nat.le_trans (Hba.out).size hb2.size
      have hlen2 := ho2.length
      have hll := lvA_length HG.out q
      have hcon2 := greatestFirst_any _ _ a2 m2 c2 _ w2 ho2 (by omega) hs2
      have Hcon2 := Lib.hid hcon2; clear hcon2
      have Hlen2 := Lib.hid hlen2; clear hlen2
      clear ho2
      go_wp2_with fail
      with_reducible refine (Hcon2.out).mono ?_
      rintro e w3 ⟨rfl, ho3, hb3⟩
      have hs3 := hb3.size
      have hbf := (belowTrans (Hba.out) hb2 (Nat.le_refl _)).trans hb3
      have Hbf := Lib.hid hbf; clear hbf
      go_wp2
      go_ret2
      rw [Hm.out]
      exact ⟨_, _, _, rfl, ho3.mono (Nat.le_refl _) hs3, Hbf.out⟩
    · have hm := mPA_no2 (xs := xs) hk
      have Hg := Lib.hid hg; clear hg
      have Hm := Lib.hid hm; clear hm
      have Hk := Lib.hid hk; clear hk
      go_enter Tryz.func6, Tryz.ntmps6
      go_wp2_with fail
      with_reducible refine (isPiles_yes _ _ _ _ _ h (good_iff.1 Hg.out)).mono ?_
      rintro e w' ⟨rfl, rfl⟩
      go_wp2_with fail
      with_reducible refine (inRange_no _ _ _ Hk.out).mono ?_
      rintro e w' ⟨rfl, rfl⟩
      go_wp2
      go_ret2
      rw [Hm.out]
      exact ⟨none, 0, 0, rfl, OwnRows.nil _ _ _, Below.refl _ _⟩
theorem impl_CountAt (ao : Option Addr) (n cap : Nat) (xs : List Int) (k : Int) (w : World) (h : IntsAt w ao n cap xs) :
    Calls Tryz.prog 10 #[.slice ao n cap, .int .i64 k] w fun e w' => e = .returned (.tuple #[.int .i64 (mCountAt xs k).1, .bool (mCountAt xs k).2]) ∧ Below w.heap.size w w' := by
  have hcon := impl_PastsAt ao n cap xs k w h
  have hm : mCountAt xs k = ((((mPastsAt xs k).1.length : Nat) : Int), (mPastsAt xs k).2) := by
    unfold mCountAt mPastsAt
    split <;> rfl
  rw [hm]
  generalize mPastsAt xs k = M at *
  obtain ⟨M1, M2⟩ := M
  have Hcon := Lib.hid hcon; clear hcon
  have Hm := Lib.hid hm; clear hm
  go_enter Tryz.func10, Tryz.ntmps10
  go_wp2_with fail
  with_reducible refine (Hcon.out).mono ?_
  rintro e w1 ⟨a1, n1, c1, rfl, ho1, hb1⟩
  have hl1 := ho1.length
  have Hl1 := Lib.hid hl1; clear hl1
  go_wp2
  go_ret2
  exact ⟨by rw [← Hl1.out]; rfl, hb1⟩

/-! ### Trees -/
theorem one_len {xs : List Int} (hg : Good xs) : ∀ x ∈ [xs], x.length ≤ 28 := fun x hx => by rw [List.mem_singleton.1 hx]; exact hg.len
end
end Go.Proofs.YtmfdimdcoeapoaaGreat
namespace Go.Proofs.YtmfdimdcoeapoaaGreat
section
open Go.RowKit
set_option linter.unusedVariables false
set_option linter.unusedSimpArgs false
set_option maxRecDepth 20000

theorem treeField (b : Bool) (a : Option Addr) (n c : Nat) (W : World) : (Instr.field 53 (.agg #[.slice a n c, .func (.func 23) #[wbV b] #[]]) 1).run Tryz.prog W = .ok (.func (.func 23) #[wbV b] #[]) W := by kernel_rfl
theorem LvX.apart {B E w lvs vss lss} (h : LvX B E w lvs vss lss) {i : Nat} (hi : i < lss.length) : (vss.getD i []).Pairwise apart := by
  have hp := h.ap
  rw [List.pairwise_flatten] at hp
  refine hp.1 _ ?_
  rw [List.getD_eq_getElem?_getD, List.getElem?_eq_getElem (by rw [h.len2]; exact hi)]
  exact List.getElem_mem _
/-! ### Tables -/
theorem allC_ne : ∀ n, n < 29 → allC n ≠ [] := by decide +kernel
end
end Go.Proofs.YtmfdimdcoeapoaaGreat
namespace Go.Proofs.YtmfdimdcoeapoaaGreat
section
open Go.RowKit
set_option linter.unusedVariables false
set_option linter.unusedSimpArgs false
set_option maxRecDepth 20000

/-! ### IsPastOf -/
end
end Go.Proofs.YtmfdimdcoeapoaaGreat
