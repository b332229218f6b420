/- Several texts in one: PaD, PaE, PaF, PaG, PaL, SrtI, PaH, PaK, PaN. No condition. -/
import Derived.Test.YthppkfhhidlpiaaGreatGs
import Derived.Test.YthppkfhhidlpiaaGreatTailI
import Derived.Lib.SliceRun
import Derived.Laws.EntriesVeiled
import Derived.Test.YthppkfhhidlpiaaGreatCmp
import Derived.Test.YthppkfhhidlpiaaGreatRowsR
import Derived.Test.YthppkfhhidlpiaaGreatSort
import Derived.Test.YthppkfhhidlpiaaGreatGa
import Derived.Test.YthppkfhhidlpiaaGreatGk
import Derived.Test.YthppkfhhidlpiaaGreatGr
import Derived.Test.YthppkfhhidlpiaaGreatPlay
import Derived.Test.YthppkfhhidlpiaaGreatTail42
namespace Go.Proofs.YthppkfhhidlpiaaGreat
section
open Go.RowKit
set_option linter.unusedVariables false
set_option linter.unusedSimpArgs false
set_option maxRecDepth 20000

theorem cycB_no {p : List Int} (h : ¬ Cyc p) : cycB p = false := by
  cases e : cycB p
  · rfl
  · exact absurd (cyc_iff.1 e) h
/-! ### Rows that are cut, and cells that are cleared -/
theorem OwnRow.cut {B E w ty g n cap us} (h : OwnRow B E w ty (some ⟨g, 0, none⟩) n cap us) {k : Nat} (hk : k ≤ n) : OwnRow B E w ty (some ⟨g, 0, none⟩) k cap (us.take k) := by
  have hl := h.length
  rcases h.1.2 with ⟨hv, _⟩ | ⟨g', c', cur, hv, hg, hh, hnc, hcm, hcs, htake⟩
  · simp at hv
  · simp only [Value.slice.injEq, Option.some.injEq, Addr.mk.injEq, and_true, true_and] at hv
    obtain ⟨rfl, rfl⟩ := hv
    refine ⟨⟨by simp [hl]; omega, .inr ⟨g, cap, cur, rfl, hg, hh, by omega, hcm, hcs, ?_⟩⟩, h.2⟩
    rw [← htake, List.take_take]
    congr 1
    omega
theorem setCells_own {B E n cap : Nat} {ty : TypeId} (g : Nat) : ∀ (vs : List Value) (o : Nat) (w : World) (us : List Value), OwnRow B E w ty (some ⟨g, 0, none⟩) n cap us →
    ∃ us', OwnRow B E (w.setCells g o vs) ty (some ⟨g, 0, none⟩) n cap us' ∧ us'.take o = us.take o ∧ Chg (fun k => k = g) w (w.setCells g o vs)
  | [], o, w, us, h => ⟨us, h, rfl, Chg.refl _ _⟩
  | v :: r, o, w, us, h => by
    obtain ⟨h1, h2⟩ := World.ownsRow.stored h.1 o v
    obtain ⟨us', h3, h4, h5⟩ := setCells_own g r (o + 1) _ _ ⟨h1, h.2⟩
    refine ⟨us', h3, ?_, ((Chg.ofGrown h2).mono (fun k hk => by simpa using hk)).trans h5⟩
    have := congrArg (List.take o) h4
    rw [List.take_take, List.take_take, Nat.min_eq_left (by omega)] at this
    rw [this, List.take_set_of_le (by omega)]
theorem zeroInts (w : World) : (zeroValue 27).run Tryz.prog w = .ok (.slice none 0 0) w := by kernel_rfl
/-! ### Which piles are cyclic, as the way back asks it -/
set_option maxHeartbeats 800000 in
theorem loosePred_any (ao : Option Addr) (n cap : Nat) (xs : List Int) (w : World) (h : IntsAt w ao n cap xs) (hg : Good xs) :
    Calls Tryz.prog 122 #[.slice ao n cap] w fun e w' => e = .returned (.bool (cycB xs)) ∧ Below w.heap.size w w' := by
  have hcon := stateOf_any ao n cap xs w h hg
  have Hcon := Lib.hid hcon; clear hcon
  have Hg := Lib.hid hg; clear hg
  go_enter Tryz.func122, Tryz.ntmps122
  go_wp2_with fail
  with_reducible refine (Hcon.out).mono ?_
  rintro e w4 ⟨v4, rfl, hst, hb4⟩
  rcases hst with ⟨hcy, rfl⟩ | ⟨hcy, a5, m5, c5, rfl, hi5⟩
  · have hme := mRingCyc (bitsL xs)
    have hc := cyc_iff.2 hcy
    have Hcy := Lib.hid hcy; clear hcy
    have Hc := Lib.hid hc; clear hc
    go_wp2_with fail
    with_reducible refine (ringCyc _ _).mono ?_
    rintro e w6 ⟨rfl, hb6⟩
    go_wp2
    go_ret
    exact ⟨retB Hc.out.symm, belowTrans hb4 hb6 (Nat.le_refl _)⟩
  · have hme := mLooseCyc a5 m5 c5
    have hc := cycB_no hcy
    have Hcy := Lib.hid hcy; clear hcy
    have Hc := Lib.hid hc; clear hc
    go_wp2_with fail
    with_reducible refine (looseCyc _ _ _ _).mono ?_
    rintro e w' ⟨rfl, rfl⟩
    go_wp2
    go_ret
    exact ⟨retB Hc.out.symm, hb4⟩
def looseF : Value := .func (.func 122) #[] #[]
set_option maxHeartbeats 1600000 in
theorem indexLoose_any (ao : Option Addr) (n cap : Nat) (xss : List (List Int)) (w : World) (h : RowsAt w ao n cap xss) (hG : ∀ x ∈ xss, Good x) (hn : n ≤ 4000) :
    Calls Tryz.prog 77 #[.slice ao n cap, looseF] w fun e w' => ∃ r : Int, e = .returned (.int .i64 r) ∧ ((r = -1 ∧ ∀ x ∈ xss, cycB x = false) ∨ ∃ i : Nat, r = i ∧ i < n ∧ cycB (xss.getD i []) = true ∧ ∀ x ∈ xss.take i, cycB x = false) ∧ Below w.heap.size w w' := by
  have hl := h.length
  have HG := Lib.hid hG; clear hG
  have Hl := Lib.hid hl; clear hl
  unfold looseF
  go_enter Tryz.func77, Tryz.ntmps77
  go_wp2
  go_loopw [8] (fun i wr => ∃ j : Nat, j ≤ n ∧ i = .int .i64 j ∧ (∀ x ∈ xss.take j, cycB x = false) ∧ Below w.heap.size w wr) (fun i _ => n - (intOf i).toNat)
  case atStart => exact ⟨0, Nat.zero_le _, rfl, by simp, Below.refl _ _⟩
  case round =>
    obtain ⟨j, hj, rfl, hall, hb⟩ := hrel
    by_cases hlt : j < n
    · obtain ⟨b, oo, rfl, hbl, hc⟩ := (h.keep hb).cell j hlt
      obtain ⟨a3, m3, c3, hck, hi3⟩ := hc j hlt
      clear hc
      have hgx := HG.out _ (getD_memR hlt Hl.out)
      have htk := take_snocX hlt Hl.out
      generalize hx : xss.getD j [] = x at *
      have hcon := loosePred_any a3 m3 c3 x wr hi3 hgx
      cases hcb : cycB x
      · rw [hcb] at hcon
        have Hcon := Lib.hid hcon; clear hcon
        have Hx := Lib.hid hx; clear hx
        have Hgx := Lib.hid hgx; clear hgx
        have Hcb := Lib.hid hcb; clear hcb
        have Htk := Lib.hid htk; clear htk
        have Hall := Lib.hid hall; clear hall
        go_wp2_with fail
        with_reducible refine (Hcon.out).mono ?_
        rintro e w2 ⟨rfl, hb2⟩
        go_wp2
        go_roundw
        case rel =>
          refine ⟨j + 1, by omega, by go_num, fun y hy => ?_, belowTrans hb hb2 (Nat.le_refl _)⟩
          rw [Htk.out] at hy
          rcases List.mem_append.1 hy with h' | h'
          · exact Hall.out y h'
          · rw [List.mem_singleton.1 h']; exact Hcb.out
        case measure => simp [intOf]; omega
      · rw [hcb] at hcon
        have Hcon := Lib.hid hcon; clear hcon
        have Hx := Lib.hid hx; clear hx
        have Hgx := Lib.hid hgx; clear hgx
        have Hcb := Lib.hid hcb; clear hcb
        have Htk := Lib.hid htk; clear htk
        have Hall := Lib.hid hall; clear hall
        go_wp2_with fail
        with_reducible refine (Hcon.out).mono ?_
        rintro e w2 ⟨rfl, hb2⟩
        go_wp2
        go_ret
        exact ⟨_, rfl, .inr ⟨j, rfl, hlt, by rw [Hx.out]; exact Hcb.out, Hall.out⟩, belowTrans hb hb2 (Nat.le_refl _)⟩
    · obtain rfl : n = j := by omega
      rw [take_allR Hl.out] at hall
      have Hall := Lib.hid hall; clear hall
      go_wp2
      go_ret
      exact ⟨_, rfl, .inl ⟨rfl, Hall.out⟩, hb⟩

/-! ### slices.DeleteFunc -/
def filtV (vs : List Value) (xss : List (List Int)) : List Value := ((vs.zip xss).filter fun p => !cycB p.2).map Prod.fst
theorem zip_snoc {vs : List Value} {xss : List (List Int)} {v : Value} {x : List Int} (h : vs.length = xss.length) : (vs ++ [v]).zip (xss ++ [x]) = vs.zip xss ++ [(v, x)] := by
  rw [List.zip_append h]; rfl
theorem filtV_snoc {vs : List Value} {xss : List (List Int)} {v : Value} {x : List Int} (h : vs.length = xss.length) : filtV (vs ++ [v]) (xss ++ [x]) = filtV vs xss ++ if cycB x then [] else [v] := by
  unfold filtV
  rw [zip_snoc h, List.filter_append, List.map_append]
  cases hc : cycB x <;> simp [hc]
theorem filtV_sub (vs : List Value) (xss : List (List Int)) (h : vs.length = xss.length) : (filtV vs xss).Sublist vs := by
  unfold filtV
  have h1 : ((vs.zip xss).filter fun p => !cycB p.2).Sublist (vs.zip xss) := List.filter_sublist
  have h2 := h1.map Prod.fst
  rwa [List.map_fst_zip (by omega)] at h2
theorem filtV_rows {B E : Nat} {w : World} : ∀ (vs : List Value) (xss : List (List Int)), RowsW B E w vs xss → RowsW B E w (filtV vs xss) (xss.filter fun x => !cycB x) := by
  intro vs xss h
  have key : ∀ k, RowsW B E w (filtV (vs.take k) (xss.take k)) ((xss.take k).filter fun x => !cycB x) := by
    intro k
    induction k with
    | zero => exact RowsW.nil _ _ _
    | succ k ih =>
      by_cases hk : k < xss.length
      · have hkv : k < vs.length := by rw [h.length]; exact hk
        obtain ⟨a, m, c, e, ho⟩ := h.row k hk
        have e1 : vs.take (k + 1) = vs.take k ++ [.slice a m c] := by
          rw [List.take_add_one, List.getElem?_eq_getElem hkv]
          rw [List.getD_eq_getElem?_getD, List.getElem?_eq_getElem hkv] at e
          simp only [Option.getD_some] at e
          rw [e]; rfl
        have e2 := take_snocX (xs := xss) hk rfl
        rw [e1, e2, filtV_snoc (by rw [List.length_take, List.length_take, h.length]), List.filter_append]
        generalize xss.getD k [] = x at *
        cases hc : cycB x
        · simp only [hc, Bool.false_eq_true, if_false, List.filter_cons, Bool.not_false, if_true, List.filter_nil]
          exact ih.append (RowsW.one ho)
        · simpa [hc] using ih
      · have hl := h.length
        rw [List.take_of_length_le (l := vs) (by omega), List.take_of_length_le (l := xss) (by omega)]
        rw [List.take_of_length_le (l := vs) (by omega), List.take_of_length_le (l := xss) (by omega)] at ih
        exact ih
  have := key xss.length
  have hl := h.length
  rwa [List.take_of_length_le (l := vs) (by omega), List.take_of_length_le (l := xss) (by omega)] at this
end
end Go.Proofs.YthppkfhhidlpiaaGreat
namespace Go.Proofs.YthppkfhhidlpiaaGreat
section
open Go.RowKit
set_option linter.unusedVariables false
set_option linter.unusedSimpArgs false
set_option maxRecDepth 20000

theorem filtV_all {vs : List Value} {xss : List (List Int)} (hl : vs.length = xss.length) (h : ∀ x ∈ xss, cycB x = false) : filtV vs xss = vs := by
  unfold filtV
  have h1 : (vs.zip xss).filter (fun p => !cycB p.2) = vs.zip xss := by
    rw [List.filter_eq_self]
    intro p hp
    rw [h p.2 (List.of_mem_zip hp).2]; rfl
  rw [h1, List.map_fst_zip (by omega)]
theorem filter_loose_all {xss : List (List Int)} (h : ∀ x ∈ xss, cycB x = false) : xss.filter (fun x => !cycB x) = xss := by
  rw [List.filter_eq_self]; intro x hx; rw [h x hx]; rfl
theorem slFromG (g n cap lo : Nat) (h1 : lo < n) (h2 : n ≤ cap) (k : IntKind) (w : World) : (Instr.sliceAt 35 (.slice (some ⟨g, 0, none⟩) n cap) (some (.int k (lo : Int))) none none).run Tryz.prog w = .ok (.slice (some ⟨g, lo, none⟩) (n - lo) (cap - lo)) w := by
  have hrun := run_slice_l (P := Tryz.prog) (w := w) 35 (some ⟨g, 0, none⟩) n cap Tryz.underlying35 k (lo : Int) (by omega) (by omega)
  rw [sizeInts] at hrun
  rw [run_sliceAt_slice _ _ _ _ _ _ Tryz.underlying35, hrun]
  have : ¬ cap = lo := by omega
  simp [Result.andThen, sliced, this, Addr.add_lit]
theorem slUptoG (g n cap hi : Nat) (h1 : hi ≤ n) (h2 : n ≤ cap) (h3 : 0 < cap) (k : IntKind) (w : World) : (Instr.sliceAt 35 (.slice (some ⟨g, 0, none⟩) n cap) none (some (.int k (hi : Int))) none).run Tryz.prog w = .ok (.slice (some ⟨g, 0, none⟩) hi cap) w := by
  have hrun := run_slice_h (P := Tryz.prog) (w := w) 35 (some ⟨g, 0, none⟩) n cap Tryz.underlying35 k (hi : Int) (by omega) (by omega)
  rw [sizeInts] at hrun
  rw [run_sliceAt_slice _ _ _ _ _ _ Tryz.underlying35, hrun]
  have : ¬ cap = 0 := by omega
  simp [Result.andThen, sliced, this, Addr.add_lit]
theorem clear_run (w : World) (B E : Nat) (g i n cap c2 : Nat) (us : List Value) (hown : OwnRow B E w 27 (some ⟨g, 0, none⟩) n cap us) (hi : i < n) (ty : TypeId) :
    ∃ w', (Builtin.clear_ #[35] ty #[.slice (some ⟨g, i, none⟩) (n - i) c2]).run Tryz.prog w = .ok (.tuple #[]) w' ∧ OwnRow B E w' 27 (some ⟨g, 0, none⟩) i cap (us.take i) ∧ Chg (fun k => k = g) w w' := by
  obtain ⟨us', h1, h2, h3⟩ := setCells_own g (List.replicate (n - i) (Value.slice none 0 0)) i w us hown
  have hl := hown.length
  have hr := Lib.run_clear_slice (P := Tryz.prog) w 35 27 ty (.slice none 0 0) Tryz.underlying35 zeroInts rfl rfl g i (n - i) c2 (by omega) (fun j hj => by
      rw [World.ownsRow.cellAt hown.1 (i + j) (by omega), List.getElem?_eq_getElem (by omega)]; rfl) (fun j hj => World.ownsRow.frozenAt hown.1 (i + j))
  refine ⟨_, hr, ?_, h3⟩
  rw [← h2]
  exact h1.cut (by omega)
theorem OwnRow.capLe {B E w ty ao n cap vs} (h : OwnRow B E w ty ao n cap vs) : n ≤ cap := h.at.le

set_option maxHeartbeats 3200000 in
theorem delLoose_any (B E : Nat) (ao : Option Addr) (n cap : Nat) (xss : List (List Int)) (w : World) (h : OwnRows B E w ao n cap xss) (hG : ∀ x ∈ xss, Good x) (hn : n ≤ 4000) (hE : E ≤ w.heap.size) (hB : B ≤ w.heap.size) :
    Calls Tryz.prog 121 #[.slice ao n cap, looseF] w fun e w' => ∃ m, e = .returned (.slice ao m cap) ∧ OwnRows B E w' ao m cap (xss.filter fun x => !cycB x) ∧ Below B w w' := by
  have hl := h.length
  have hcon := indexLoose_any ao n cap xss w h.at hG hn
  have Hcon := Lib.hid hcon; clear hcon
  have HG := Lib.hid hG; clear hG
  have Hl := Lib.hid hl; clear hl
  unfold looseF at *
  go_enter Tryz.func121, Tryz.ntmps121
  go_wp2_with fail
  with_reducible refine (Hcon.out).mono ?_
  rintro e w1 ⟨r, rfl, ⟨rfl, hall⟩ | ⟨i0, rfl, hi0, hc0, hall⟩, hb1⟩
  · have hfe := filter_loose_all hall
    have hk := h.keep hb1
    rw [← hfe] at hk
    have Hfe := Lib.hid hfe; clear hfe
    have Hall := Lib.hid hall; clear hall
    have Hk := Lib.hid hk; clear hk
    go_wp2
    go_ret
    exact ⟨_, rfl, Hk.out, hb1.mono hB⟩
  · obtain ⟨vs, hsp, hap⟩ := h.sp
    have hvl := hsp.spine.length
    obtain ⟨hz, hrest⟩ | ⟨g, rfl, hg, hgE, hgw⟩ := hsp.spine.cases
    · omega
    have hcap := hsp.spine.capLe
    have hne1 : ((i0 : Int) == -1) = false := by rw [beq_eq_false_iff_ne]; omega
    have hstart : vs.take i0 = filtV (vs.take (i0 + 1)) (xss.take (i0 + 1)) := by
      have e1 : vs.take (i0 + 1) = vs.take i0 ++ [vs.getD i0 undef] := by
        rw [List.take_add_one, List.getElem?_eq_getElem (by omega), List.getD_eq_getElem?_getD, List.getElem?_eq_getElem (by omega)]; rfl
      rw [e1, take_snocX hi0 Hl.out, filtV_snoc (by rw [List.length_take, List.length_take, hvl, Hl.out]), hc0, filtV_all (by rw [List.length_take, List.length_take, hvl, Hl.out]) hall]
      simp
    have hsp1 := hsp.keep hb1
    have hbB := hb1.mono hB
    have hi0I : (i0 : Int) + 1 ≤ 4000 := by omega
    clear hsp h hb1
    have Hall := Lib.hid hall; clear hall
    have Hc0 := Lib.hid hc0; clear hc0
    have Hap := Lib.hid hap; clear hap
    have Hstart := Lib.hid hstart; clear hstart
    have Hvl := Lib.hid hvl; clear hvl
    go_wp2_with fail
    go_loopw [5, 6] (fun a b wr => ∃ (i j : Nat) (us : List Value), i < j ∧ j ≤ n ∧ a = .int .i64 i ∧ b = .int .i64 j ∧ OwnRow B E wr 27 (some ⟨g, 0, none⟩) n cap us ∧ us.take i = filtV (vs.take j) (xss.take j) ∧ us.drop j = vs.drop j ∧ RowsW B E wr vs xss ∧ Below B w wr) (fun _ b _ => n - (intOf b).toNat)
    case atStart => exact ⟨i0, i0 + 1, vs, by omega, by omega, rfl, by go_num, hsp1.spine, Hstart.out, rfl, hsp1.rows, hbB⟩
    case round =>
      obtain ⟨i, j, us, hij, hj, rfl, rfl, hov, htk, hdr, hrv, hb⟩ := hrel
      clear hsp1 hbB
      have hul := hov.length
      have hsz := hb.size
      by_cases hlt : j < n
      · have hck := World.ownsRow.cellAt hov.1 j (by omega)
        have huj : us[j]? = vs[j]? := by
          have h1 := congrArg (fun l => l[0]?) hdr
          simpa [List.getElem?_drop] using h1
        obtain ⟨a3, m3, c3, e3, hrow⟩ := hrv.row j (by rw [Hl.out]; exact hlt)
        have hvj : vs[j]? = some (.slice a3 m3 c3) := by
          rw [List.getD_eq_getElem?_getD] at e3
          rw [List.getElem?_eq_getElem (by rw [Hvl.out]; exact hlt)] at e3 ⊢
          simpa using e3
        rw [huj, hvj] at hck
        have hgx := HG.out _ (getD_memR hlt Hl.out)
        have htx := take_snocX hlt Hl.out
        have htv : vs.take (j + 1) = vs.take j ++ [.slice a3 m3 c3] := by rw [List.take_add_one, hvj]; rfl
        have hfs := filtV_snoc (v := .slice a3 m3 c3) (x := xss.getD j []) (vs := vs.take j) (xss := xss.take j) (by rw [List.length_take, List.length_take, Hvl.out, Hl.out])
        rw [← htv, ← htx] at hfs
        have hdr1 : us.drop (j + 1) = vs.drop (j + 1) := by
          have := congrArg (List.drop 1) hdr
          rwa [List.drop_drop, List.drop_drop] at this
        generalize xss.getD j [] = x at *
        have hcon := loosePred_any a3 m3 c3 x wr hrow.at hgx
        cases hcb : cycB x
        · rw [hcb] at hcon hfs
          simp only [Bool.false_eq_true, if_false] at hfs
          have Hcon := Lib.hid hcon; clear hcon
          have Hgx := Lib.hid hgx; clear hgx
          have Hcb := Lib.hid hcb; clear hcb
          have Htx := Lib.hid htx; clear htx
          have Htv := Lib.hid htv; clear htv
          have Hfs := Lib.hid hfs; clear hfs
          have Huj := Lib.hid huj; clear huj
          have Hvj := Lib.hid hvj; clear hvj
          have E3 := Lib.hid e3; clear e3
          have Hdr := Lib.hid hdr; clear hdr
          have Hdr1 := Lib.hid hdr1; clear hdr1
          have Htk := Lib.hid htk; clear htk
          have Hul := Lib.hid hul; clear hul
          go_wp2_with fail
          with_reducible refine (Hcon.out).mono ?_
          rintro e w2 ⟨rfl, hb2⟩
          have hov2 := hov.keep hb2
          have hrv2 := hrv.keep hb2
          have hck2 := World.ownsRow.cellAt hov2.1 i (by omega)
          obtain ⟨u, hu⟩ : ∃ u, us[i]? = some u := ⟨_, List.getElem?_eq_getElem (by have := Hul.out; omega)⟩
          rw [hu] at hck2
          have hfz := World.ownsRow.frozenAt hov2.1 i
          obtain ⟨hst1, hst2⟩ := World.ownsRow.stored hov2.1 i (.slice a3 m3 c3)
          have hst : OwnRow B E (w2.setCell ⟨g, i, none⟩ (.slice a3 m3 c3)) 27 (some ⟨g, 0, none⟩) n cap (us.set i (.slice a3 m3 c3)) := ⟨hst1, hov2.2⟩
          have hch : Chg (fun q => (Value.slice (some ⟨g, 0, none⟩) n cap).ownBlock = some q) w2 (w2.setCell ⟨g, i, none⟩ (.slice a3 m3 c3)) := (Chg.ofGrown hst2).mono (fun k hk => by simpa [Value.ownBlock] using hk.symm)
          have hrv3 := hrv2.chgSpine hov2 hch
          have hb3 : Below B w (w2.setCell ⟨g, i, none⟩ (.slice a3 m3 c3)) := (belowTrans hb hb2 hB).setCell hg _
          have htk3 : (us.set i (.slice a3 m3 c3)).take (i + 1) = filtV (vs.take (j + 1)) (xss.take (j + 1)) := by
            rw [Hfs.out, ← Htk.out, List.take_add_one, List.take_set_of_le (Nat.le_refl _), List.getElem?_set_self (by have := Hul.out; omega)]; rfl
          have hdr3 : (us.set i (.slice a3 m3 c3)).drop (j + 1) = vs.drop (j + 1) := by rw [List.drop_set_of_lt (by omega)]; exact Hdr1.out
          have Hst := Lib.hid hst; clear hst
          have Htk3 := Lib.hid htk3; clear htk3
          have Hdr3 := Lib.hid hdr3; clear hdr3
          have Hrv3 := Lib.hid hrv3; clear hrv3
          have Hb3 := Lib.hid hb3; clear hb3
          have Hu := Lib.hid hu; clear hu
          clear hst1 hst2 hch hov hov2 hrv hrv2 hb hb2 hrow
          go_wp2
          go_roundw
          case rel => exact ⟨i + 1, j + 1, _, by omega, by omega, by go_num, by go_num, Hst.out, Htk3.out, Hdr3.out, Hrv3.out, Hb3.out⟩
          case measure => simp [intOf]; omega
        · rw [hcb] at hcon hfs
          simp only [if_true, List.append_nil] at hfs
          rw [← hfs] at htk
          have Hcon := Lib.hid hcon; clear hcon
          have Hgx := Lib.hid hgx; clear hgx
          have Hcb := Lib.hid hcb; clear hcb
          have Htx := Lib.hid htx; clear htx
          have Htv := Lib.hid htv; clear htv
          have Hfs := Lib.hid hfs; clear hfs
          have Huj := Lib.hid huj; clear huj
          have Hvj := Lib.hid hvj; clear hvj
          have E3 := Lib.hid e3; clear e3
          have Hdr := Lib.hid hdr; clear hdr
          have Hdr1 := Lib.hid hdr1; clear hdr1
          have Htk := Lib.hid htk; clear htk
          have Hul := Lib.hid hul; clear hul
          go_wp2_with fail
          with_reducible refine (Hcon.out).mono ?_
          rintro e w2 ⟨rfl, hb2⟩
          have hov2 := hov.keep hb2
          have hrv2 := hrv.keep hb2
          have hb3 := belowTrans hb hb2 hB
          clear hov hrv hb hb2 hrow
          go_wp2
          go_roundw
          case rel => exact ⟨i, j + 1, us, by omega, by omega, rfl, by go_num, hov2, Htk.out, Hdr1.out, hrv2, hb3⟩
          case measure => simp [intOf]; omega
      · obtain rfl : n = j := by omega
        rw [List.take_of_length_le (l := vs) (by rw [Hvl.out]; exact Nat.le_refl _), take_allR Hl.out] at htk
        have hs1 := slFromG g n cap i hij hcap .i64
        have hs2 := slUptoG g n cap i (by omega) hcap (by omega) .i64
        have hnm : n - i < 9223372036854775807 := by omega
        have Htk := Lib.hid htk; clear htk
        have Hdr := Lib.hid hdr; clear hdr
        have Hul := Lib.hid hul; clear hul
        obtain ⟨w3, hclr, hov3, hc3⟩ := clear_run wr B E g i n cap (cap - i) us hov hij 0
        have hch : Chg (fun q => (Value.slice (some ⟨g, 0, none⟩) n cap).ownBlock = some q) wr w3 := hc3.mono (fun k hk => by simp [hk, Value.ownBlock])
        have hrv3 := filtV_rows vs xss (hrv.chgSpine hov hch)
        have hb3 : Below B w w3 := hb.trans (hc3.below (by omega) (fun k hk => by omega))
        rw [Htk.out] at hov3
        have hfin : OwnRows B E w3 (some ⟨g, 0, none⟩) i cap (xss.filter fun x => !cycB x) := (Sp.mk hov3 hrv3).own (Hap.out.sublist (filtV_sub vs xss (by rw [Hvl.out, Hl.out]))) (Nat.le_refl _) (Nat.le_refl _) (Nat.le_refl _) (Nat.le_refl _)
        have Hfin := Lib.hid hfin; clear hfin
        clear hov hrv hrv3 hov3 hc3 hch
        go_wp2
        go_ret
        exact ⟨_, rfl, Hfin.out, hb3⟩

/-! ### The pasts on a way back -/
def wbV (b : Bool) : Value := .agg #[.bool b]
def wayL (b : Bool) (xs : List Int) : List (List Int) := if b then loosePasts xs else pastsL xs
theorem wayL_good {b : Bool} {xs p : List Int} (hg : Good xs) (h : p ∈ wayL b xs) : Good p := by
  cases b
  · exact ((mem_pastsG hg).1 h).1
  · exact loose_good hg h
theorem wayL_len (b : Bool) {xs : List Int} (hg : Good xs) : (wayL b xs).length ≤ 29 := by
  cases b
  · have := pastsL_length xs; have := hg.len; show (pastsL xs).length ≤ 29; omega
  · exact loose_len hg
set_option maxHeartbeats 1600000 in
theorem wayPasts_any (b : Bool) (ao : Option Addr) (n cap : Nat) (xs : List Int) (w : World) (h : IntsAt w ao n cap xs) (hg : Good xs) :
    Calls Tryz.prog 93 #[wbV b, .slice ao n cap] w fun e w' => ∃ ao' m c, e = .returned (.slice ao' m c) ∧ OwnRows w.heap.size w'.heap.size w' ao' m c (wayL b xs) ∧ Below w.heap.size w w' := by
  have hP : ∀ x ∈ pastsL xs, Good x := fun x hx => ((mem_pastsG hg).1 hx).1
  have hpl : (pastsL xs).length ≤ 29 := by have := pastsL_length xs; have := hg.len; omega
  have hy := mPasts_yes (good_iff.2 hg)
  unfold wbV
  cases b
  · have hw : wayL false xs = pastsL xs := rfl
    rw [hw]
    have hcon := fun W hh => impl_PastsOf ao n cap xs W hh
    rw [hy] at hcon
    generalize pastsL xs = P at *
    have Hcon := Lib.hid hcon; clear hcon
    have HP := Lib.hid hP; clear hP
    have Hg := Lib.hid hg; clear hg
    have Hy := Lib.hid hy; clear hy
    go_enter Tryz.func93, Tryz.ntmps93
    go_wp2_with fail
    with_reducible refine (Hcon.out _ (h.keep (belowAlloc w _))).mono ?_
    rintro e w1 ⟨a1, n1, c1, rfl, ho1, hb1⟩
    have hs1 := hb1.size
    have hba := belowAlloc w (.cells #[.bool false] 96)
    have hcell : w1.cell? ⟨w.heap.size, 0, none⟩ = some (.bool false) := by
      rw [hb1.cell (p := ⟨w.heap.size, 0, none⟩) (by simp), World.cell?_alloc_at _ _ _ _ rfl]; rfl
    go_wp2
    go_ret
    exact ⟨_, _, _, rfl, ho1.mono (by simp) (Nat.le_refl _), belowTrans hba hb1 (Nat.le_refl _)⟩
  · have hw : wayL true xs = (pastsL xs).filter fun p => !cycB p := rfl
    rw [hw]
    have hcon := fun W hh => impl_PastsOf ao n cap xs W hh
    rw [hy] at hcon
    generalize pastsL xs = P at *
    have Hcon := Lib.hid hcon; clear hcon
    have HP := Lib.hid hP; clear hP
    have Hg := Lib.hid hg; clear hg
    have Hy := Lib.hid hy; clear hy
    go_enter Tryz.func93, Tryz.ntmps93
    go_wp2_with fail
    with_reducible refine (Hcon.out _ (h.keep (belowAlloc w _))).mono ?_
    rintro e w1 ⟨a1, n1, c1, rfl, ho1, hb1⟩
    have hs1 := hb1.size
    have hn1 := ho1.length
    have hba := belowAlloc w (.cells #[.bool true] 96)
    have hcell : w1.cell? ⟨w.heap.size, 0, none⟩ = some (.bool true) := by
      rw [hb1.cell (p := ⟨w.heap.size, 0, none⟩) (by simp), World.cell?_alloc_at _ _ _ _ rfl]; rfl
    have hdel := delLoose_any _ _ a1 n1 c1 P w1 ho1 HP.out (by omega) (Nat.le_refl _) hb1.size
    unfold looseF at hdel
    have Hdel := Lib.hid hdel; clear hdel
    have Hn1 := Lib.hid hn1; clear hn1
    go_wp2_with fail
    with_reducible refine (Hdel.out).mono ?_
    rintro e w2 ⟨m2, rfl, ho2, hb2⟩
    have hs2 := hb2.size
    go_wp2
    go_ret
    exact ⟨_, _, _, rfl, ho2.mono (by simp) hs2, (belowTrans hba hb1 (Nat.le_refl _)).trans (hb2.mono (by simp))⟩
end
end Go.Proofs.YthppkfhhidlpiaaGreat
namespace Go.Proofs.YthppkfhhidlpiaaGreat
section
open Go.RowKit
set_option linter.unusedVariables false
set_option linter.unusedSimpArgs false
set_option maxRecDepth 20000

def wayF (b : Bool) : Value := .func (.func 93) #[wbV b] #[]
/-- trees with these roots -/
def treesV (b : Bool) (ao : Option Addr) (n cap : Nat) : Value := .agg #[.slice ao n cap, wayF b]
/-- a block that holds trees -/
def TreeAt (B E : Nat) (w : World) (g : Nat) (b : Bool) (ao : Option Addr) (n cap : Nat) : Prop := OwnRow B E w 59 (some ⟨g, 0, none⟩) 2 2 [.slice ao n cap, wayF b]
theorem heapPair (w : World) (a b : Obj) : ((w.alloc a).alloc b).heap[w.heap.size]? = some a ∧ ((w.alloc a).alloc b).heap[w.heap.size + 1]? = some b := heap2 w a b
structure TrSt (R : Nat) (w : World) (a : Option Addr) (k c : Nat) (vs : List Value) (xss : List (List Int)) : Prop where
  res : w.heap[R]? = some (.cells #[.slice none 0 0, .nilFunc] 59 (0, 0))
  tr : w.heap[R + 1]? = some (.cells #[.slice a k c, wayF true] 59 (0, 0))
  sp : Sp (R + 2) w.heap.size (R + 2) w.heap.size w a k c vs xss
  ap : vs.Pairwise apart
theorem cellOf {w : World} {g : Nat} {cs : Array Value} {ty : TypeId} (h : w.heap[g]? = some (.cells cs ty (0, 0))) (i : Nat) (v : Value) (hv : cs[i]? = some v) : w.cell? ⟨g, i, none⟩ = some v ∧ w.frozen? ⟨g, i, none⟩ = false := by
  constructor
  · simp [World.cell?, h, hv]
  · simp [World.frozen?, h]
theorem TrSt.size {R w a k c vs xss} (h : TrSt R w a k c vs xss) : R + 2 ≤ w.heap.size := by
  have := (Array.getElem?_eq_some_iff.1 h.tr).1
  omega
theorem apart_snoc {vs : List Value} {B E F : Nat} {w w' : World} {xss : List (List Int)} (hr : RowsW B E w vs xss) (hp : vs.Pairwise apart) {a : Option Addr} {m c : Nat} {x : List Int} (ho : Own E F w' a m c x) : (vs ++ [Value.slice a m c]).Pairwise apart := by
  rw [List.pairwise_append]
  refine ⟨hp, by simp, fun v hv u hu => ?_⟩
  rw [List.mem_singleton.1 hu]
  obtain ⟨i, hi, rfl⟩ := List.getElem_of_mem hv
  obtain ⟨a', m', c', e, ho'⟩ := hr.row i (by rw [← hr.length]; exact hi)
  rw [List.getD_eq_getElem?_getD, List.getElem?_eq_getElem hi] at e
  simp only [Option.getD_some] at e
  rw [e]
  unfold apart
  cases h1 : (Value.slice a' m' c').ownBlock with
  | none => exact .inl rfl
  | some g =>
    right
    intro h2
    have h3 := ho'.2 g h1
    have h4 := (ho.1.lt g h2.symm).1
    omega
theorem TrSt.step {R : Nat} {wr w1 w4 : World} {a : Option Addr} {k c : Nat} {vs : List Value} {xss : List (List Int)} (h : TrSt R wr a k c vs xss) {a1 : Option Addr} {m c1 : Nat} {x : List Int} (ho1 : Own wr.heap.size w1.heap.size w1 a1 m c1 x) (hb1 : Below wr.heap.size wr w1)
    {a4 : Option Addr} {c4 : Nat} (ho4 : OwnRow (R + 2) w4.heap.size w4 27 a4 (k + 1) c4 (vs ++ [.slice a1 m c1])) (hc4 : Chg (fun q => (Value.slice a k c).ownBlock = some q) (w1.alloc (.cells #[.slice a1 m c1] 27)) w4) :
    w4.cell? ⟨R + 1, 0, none⟩ = some (.slice a k c) ∧ w4.frozen? ⟨R + 1, 0, none⟩ = false ∧ TrSt R (w4.setCell ⟨R + 1, 0, none⟩ (.slice a4 (k + 1) c4)) a4 (k + 1) c4 (vs ++ [.slice a1 m c1]) (xss ++ [x]) ∧ Below R wr (w4.setCell ⟨R + 1, 0, none⟩ (.slice a4 (k + 1) c4)) := by
  have hs := h.size
  have hs1 := hb1.size
  have hba := hb1.alloc hb1.size (.cells #[.slice a1 m c1] 27)
  have hs4 := hc4.size
  have hsa : (w1.alloc (.cells #[.slice a1 m c1] 27)).heap.size = w1.heap.size + 1 := by simp
  have hblk : ∀ q, q < R + 2 → w4.heap[q]? = wr.heap[q]? := fun q hq => by
    rw [hc4.block q (by omega) (fun hh => by have := (h.sp.spine.1.lt q hh).1; omega), (Chg.ofBelow (S := fun _ => False) hba).block q (by omega) id]
  have hT : w4.heap[R + 1]? = some (.cells #[.slice a k c, wayF true] 59 (0, 0)) := by rw [hblk _ (by omega)]; exact h.tr
  have hR : w4.heap[R]? = some (.cells #[.slice none 0 0, .nilFunc] 59 (0, 0)) := by rw [hblk _ (by omega)]; exact h.res
  obtain ⟨g1, g2⟩ := cellOf hT 0 (.slice a k c) rfl
  have hset : Chg (fun q => q = R + 1) w4 (w4.setCell ⟨R + 1, 0, none⟩ (.slice a4 (k + 1) c4)) := ⟨rfl, rfl, rfl, by simp, fun q _ hq => heap_setCell_other w4 ⟨R + 1, 0, none⟩ q _ (fun e => hq (by simp [e]))⟩
  have hrows : RowsW (R + 2) w4.heap.size w4 (vs ++ [.slice a1 m c1]) (xss ++ [x]) := by
    have r1 := (h.sp.rows.keep hba).mono (Nat.le_refl _) (show wr.heap.size ≤ w4.heap.size by omega)
    have r2 := RowsW.one ((ho1.keep (belowAlloc w1 (.cells #[.slice a1 m c1] 27))).mono (show R + 2 ≤ wr.heap.size by omega) (show w1.heap.size ≤ w4.heap.size by omega))
    exact (r1.append r2).chgSpine (h.sp.spine.keep hba) hc4
  have hap := apart_snoc h.sp.rows h.ap ho1
  refine ⟨g1, g2, ⟨?_, ?_, ⟨?_, ?_⟩, hap⟩, ?_⟩
  · rw [hset.block R (by omega) (by omega)]; exact hR
  · exact heap_setCell_same w4 (R + 1) 0 _ _ _ hT
  · exact (OwnRow.chg ho4 hset (fun g q1 q2 _ q4 => by omega)).mono (Nat.le_refl _) (by simp)
  · exact ⟨hrows.length, fun i hi => by
      obtain ⟨a', m', c', e, ho⟩ := hrows.row i hi
      exact ⟨a', m', c', e, (ho.chg hset (fun g q1 q2 _ q4 => by omega)).mono (Nat.le_refl _) (by simp)⟩⟩
  · refine (Below.mono hba (by omega : R ≤ wr.heap.size)).trans ((hc4.below (by omega) (fun q hq => by have := (h.sp.spine.1.lt q hq).1; omega)).trans (hset.below (by omega) (fun q hq => by omega)))

theorem TrSt.fin {R : Nat} {wr : World} {a : Option Addr} {n c : Nat} {vs : List Value} {xss : List (List Int)} (h : TrSt R wr a n c vs xss) :
    (((wr.setCell ⟨R, 0, none⟩ (.slice a n c)).setCell ⟨R, 1, none⟩ (wayF true)).cell? ⟨R, 0, none⟩ = some (.slice a n c) ∧ ((wr.setCell ⟨R, 0, none⟩ (.slice a n c)).setCell ⟨R, 1, none⟩ (wayF true)).cell? ⟨R, 1, none⟩ = some (wayF true)) ∧
    OwnRows R ((wr.setCell ⟨R, 0, none⟩ (.slice a n c)).setCell ⟨R, 1, none⟩ (wayF true)).heap.size ((wr.setCell ⟨R, 0, none⟩ (.slice a n c)).setCell ⟨R, 1, none⟩ (wayF true)) a n c xss ∧ Below R wr ((wr.setCell ⟨R, 0, none⟩ (.slice a n c)).setCell ⟨R, 1, none⟩ (wayF true)) := by
  have hs := h.size
  have h1 := heap_setCell_same wr R 0 _ _ (.slice a n c) h.res
  have h2 := heap_setCell_same (wr.setCell ⟨R, 0, none⟩ (.slice a n c)) R 1 _ _ (wayF true) h1
  have c1 : Chg (fun q => q = R) wr (wr.setCell ⟨R, 0, none⟩ (.slice a n c)) := ⟨rfl, rfl, rfl, by simp, fun q _ hq => heap_setCell_other wr ⟨R, 0, none⟩ q _ (fun e => hq (by simp [e]))⟩
  have c2 : Chg (fun q => q = R) (wr.setCell ⟨R, 0, none⟩ (.slice a n c)) ((wr.setCell ⟨R, 0, none⟩ (.slice a n c)).setCell ⟨R, 1, none⟩ (wayF true)) := ⟨rfl, rfl, rfl, by simp, fun q _ hq => heap_setCell_other _ ⟨R, 1, none⟩ q _ (fun e => hq (by simp [e]))⟩
  have c3 := c1.trans c2
  have hsp : Sp (R + 2) wr.heap.size (R + 2) wr.heap.size ((wr.setCell ⟨R, 0, none⟩ (.slice a n c)).setCell ⟨R, 1, none⟩ (wayF true)) a n c vs xss :=
    ⟨OwnRow.chg h.sp.spine c3 (fun g q1 q2 _ q4 => by omega), ⟨h.sp.rows.length, fun i hi => by
      obtain ⟨a', m', c', e, ho⟩ := h.sp.rows.row i hi
      exact ⟨a', m', c', e, ho.chg c3 (fun g q1 q2 _ q4 => by omega)⟩⟩⟩
  exact ⟨⟨(cellOf h2 0 _ rfl).1, (cellOf h2 1 _ rfl).1⟩, hsp.own h.ap (by omega) (by omega) c3.size c3.size, c3.below (by omega) (fun q hq => by omega)⟩

set_option maxHeartbeats 3200000 in
theorem treesFrom_any (ao : Option Addr) (n cap : Nat) (xss : List (List Int)) (w : World) (h : RowsAt w ao n cap xss) (hn : n ≤ 4000) (hx : ∀ x ∈ xss, x.length ≤ 28) :
    Calls Tryz.prog 48 #[.slice ao n cap] w fun e w' => ∃ a c, e = .returned (treesV true a n c) ∧ OwnRows w.heap.size w'.heap.size w' a n c xss ∧ Below w.heap.size w w' := by
  have hl := h.length
  have hst : TrSt w.heap.size ((w.alloc (.cells #[.slice none 0 0, .nilFunc] 59)).alloc (.cells #[.slice none 0 0, wayF true] 59)) none 0 0 [] (xss.take 0) := by
    obtain ⟨h1, h2⟩ := heapPair w (.cells #[.slice none 0 0, .nilFunc] 59) (.cells #[.slice none 0 0, wayF true] 59)
    exact ⟨h1, h2, Sp.nil _ _ _ _ _, List.Pairwise.nil⟩
  have hb0 : Below w.heap.size w ((w.alloc (.cells #[.slice none 0 0, .nilFunc] 59)).alloc (.cells #[.slice none 0 0, wayF true] 59)) := (belowAlloc w _).alloc (by simp) _
  have hnI : (n : Int) ≤ 4000 := by omega
  unfold wayF wbV at hst hb0
  have Hl := Lib.hid hl; clear hl
  have Hx := Lib.hid hx; clear hx
  have Hst := Lib.hid hst; clear hst
  have Hb0 := Lib.hid hb0; clear hb0
  unfold treesV wayF wbV
  go_enter Tryz.func48, Tryz.ntmps48
  go_wp2_with fail
  go_loopw [11] (fun i wr => ∃ (k : Nat) (a : Option Addr) (c : Nat) (vs : List Value), k ≤ n ∧ i = .int .i64 k ∧ TrSt w.heap.size wr a k c vs (xss.take k) ∧ Below w.heap.size w wr) (fun i _ => n - (intOf i).toNat)
  case atStart => exact ⟨0, none, 0, [], Nat.zero_le _, rfl, Hst.out, Hb0.out⟩
  case round =>
    obtain ⟨k, a, c, vs, hk, rfl, ht, hb⟩ := hrel
    have hsz := ht.size
    by_cases hlt : k < n
    · obtain ⟨b, oo, rfl, hbl, hc⟩ := (h.keep hb).cell k hlt
      obtain ⟨a3, m3, c3, hck, hi3⟩ := hc k hlt
      clear hc
      have hlx := Hx.out _ (getD_memR hlt Hl.out)
      have htk := take_snocX hlt Hl.out
      generalize xss.getD k [] = x at *
      have hil := hi3.length
      have hcp := copyOf_any a3 m3 c3 x wr.drew (hi3.drewN 1) (by omega)
      have hlate : ∀ W, Below wr.heap.size wr W → W.cell? ⟨w.heap.size + 1, 0, none⟩ = some (.slice a k c) := fun W hW => by
        rw [hW.cell (p := ⟨w.heap.size + 1, 0, none⟩) (by show w.heap.size + 1 < _; omega)]
        exact (cellOf ht.tr 0 _ rfl).1
      have hrefl : Below wr.heap.size wr wr.drew := belowDrewN (Below.refl _ _) 1
      have hc0 := hlate wr.drew hrefl
      have hfin := fun w1 a1 c1 (ho1 : Own wr.heap.size w1.heap.size w1 a1 m3 c1 x) (hb1 : Below wr.heap.size wr w1) a4 c4 w4 ho4 hc4 => ht.step (w4 := w4) (a4 := a4) (c4 := c4) ho1 hb1 ho4 hc4
      have hspn := ht.sp.spine
      have Hlx := Lib.hid hlx; clear hlx
      have Htk := Lib.hid htk; clear htk
      have Hil := Lib.hid hil; clear hil
      have Hcp := Lib.hid hcp; clear hcp
      have Hlate := Lib.hid hlate; clear hlate
      have Hfin := Lib.hid hfin; clear hfin
      have Hspn := Lib.hid hspn; clear hspn
      clear hi3 ht
      go_wp2_with fail
      go_region_law (first | (go_simp; with_reducible refine (Hcp.out).mono ?_; rintro e w1 ⟨a1, c1, rfl, ho1, hb1⟩; have hb1' : Below wr.heap.size wr w1 := belowTrans hrefl hb1 (Nat.le_refl _); have hc1 := Hlate.out w1 hb1'; have hc2 := Hlate.out (w1.alloc (.cells #[.slice a1 m3 c1] 27)) (hb1'.alloc hb1'.size _)) | (refine step_catVX (w1.alloc (.cells #[.slice a1 m3 c1] 27)) rfl (.tmp 16) (.tmp 19) 35 rfl 27 _ 24 Tryz.underlying35 Tryz.infoInts rfl (by decide) (w.heap.size + 2) wr.heap.size a k c vs rfl (Hspn.out.keep (hb1'.alloc hb1'.size _)) w1.heap.size (.slice a1 m3 c1) rfl (by rw [World.cell?_alloc_at _ _ _ _ rfl]; rfl) rfl (by omega) (by have := hb1'.size; simp; omega) ?_; intro a4 c4 w4 ho4 hc4 hn4 hr4; obtain ⟨hcT, hfT, hpost, hbelow⟩ := Hfin.out w1 a1 c1 ho1 hb1' a4 c4 w4 ho4 hc4; clear hc1 hc2 hc0))
      all_goals
        have Hpost := Lib.hid hpost
        have Hbelow := Lib.hid hbelow
        clear hpost hbelow ho4 hc4 hn4 hr4 ho1 hb1
        go_wp2
        go_roundw
        case rel => exact ⟨k + 1, a4, c4, _, by omega, by go_num, by rw [Htk.out]; exact Hpost.out, hb.trans Hbelow.out⟩
        case measure => simp [intOf]; omega
    · obtain rfl : n = k := by omega
      rw [take_allR Hl.out] at ht
      obtain ⟨t0, t1⟩ := cellOf ht.tr 0 _ rfl
      obtain ⟨t2, t3⟩ := cellOf ht.tr 1 _ rfl
      obtain ⟨r0, r1⟩ := cellOf ht.res 0 _ rfl
      obtain ⟨r2, r3⟩ := cellOf ht.res 1 _ rfl
      obtain ⟨hp, hown, hbelow⟩ := ht.fin
      replace hbelow := hb.trans hbelow
      unfold wayF wbV at t2 hp hown hbelow
      have Hp := Lib.hid hp; clear hp
      have Hown := Lib.hid hown; clear hown
      have Hbelow := Lib.hid hbelow; clear hbelow
      clear ht
      go_wp2
      refine bodyPost_ret (v := .agg #[.slice a n c, .func (.func 93) #[.agg #[.bool true]] #[]]) ?_ rfl ⟨a, c, rfl, Hown.out, Hbelow.out⟩
      obtain ⟨p0, p1⟩ := Hp.out
      rw [results_cell_one rfl]
      simp [go_sem, asAddr, Result.andThen, loadVar, p0, p1]

theorem treeCells (b : Bool) (a0 : Option Addr) (n0 c0 : Nat) (w W : World) (hW : Below (w.heap.size + 1) (w.alloc (.cells #[.slice a0 n0 c0, wayF b] 59)) W) :
    W.cell? ⟨w.heap.size, 0, none⟩ = some (.slice a0 n0 c0) ∧ W.cell? ⟨w.heap.size, 1, none⟩ = some (wayF b) := by
  constructor
  · rw [hW.cell (p := ⟨w.heap.size, 0, none⟩) (by show w.heap.size < _; omega), World.cell?_alloc_at _ _ _ _ rfl]; rfl
  · rw [hW.cell (p := ⟨w.heap.size, 1, none⟩) (by show w.heap.size < _; omega), World.cell?_alloc_at _ _ _ _ rfl]; rfl
theorem apart_append {vs us : List Value} {C D C' D' : Nat} {w w' : World} {xss yss : List (List Int)} (hr : RowsW C D w vs xss) (hp : vs.Pairwise apart) (kr : RowsW C' D' w' us yss) (kp : us.Pairwise apart) (hd : D ≤ C') : (vs ++ us).Pairwise apart := by
  rw [List.pairwise_append]
  refine ⟨hp, kp, fun v hv u hu => ?_⟩
  obtain ⟨i, hi, rfl⟩ := List.getElem_of_mem hv
  obtain ⟨j, hj, rfl⟩ := List.getElem_of_mem hu
  obtain ⟨a, m, c, e, ho⟩ := hr.row i (by rw [← hr.length]; exact hi)
  obtain ⟨a', m', c', e', ho'⟩ := kr.row j (by rw [← kr.length]; exact hj)
  rw [List.getD_eq_getElem?_getD, List.getElem?_eq_getElem hi] at e
  rw [List.getD_eq_getElem?_getD, List.getElem?_eq_getElem hj] at e'
  simp only [Option.getD_some] at e e'
  rw [e, e']
  unfold apart
  cases h1 : (Value.slice a m c).ownBlock with
  | none => exact .inl rfl
  | some g =>
    right
    intro h2
    have h3 := ho.2 g h1
    have h4 := (ho'.1.lt g h2.symm).1
    omega
theorem flatMap_len (b : Bool) (xss : List (List Int)) (hG : ∀ x ∈ xss, Good x) : (xss.flatMap (wayL b)).length ≤ 29 * xss.length := by
  induction xss with
  | nil => simp
  | cons x l ih =>
    have h1 := wayL_len b (hG x (by simp))
    have h2 := ih (fun y hy => hG y (by simp [hy]))
    rw [List.flatMap_cons, List.length_append, List.length_cons]
    omega

set_option maxHeartbeats 3200000 in
theorem before_any (b : Bool) (a0 : Option Addr) (n0 c0 : Nat) (ao : Option Addr) (n cap : Nat) (xss : List (List Int)) (w : World) (h : RowsAt w ao n cap xss) (hG : ∀ x ∈ xss, Good x) (hn : n ≤ 4000) :
    Calls Tryz.prog 94 #[treesV b a0 n0 c0, .slice ao n cap] w fun e w' => ∃ a m c, e = .returned (.slice a m c) ∧ OwnRows w.heap.size w'.heap.size w' a m c (xss.flatMap (wayL b)) ∧ Below w.heap.size w w' := by
  have hl := h.length
  have hba := belowAlloc w (.cells #[.slice a0 n0 c0, wayF b] 59)
  have hbr : Below (w.heap.size + 1) (w.alloc (.cells #[.slice a0 n0 c0, wayF b] 59)) (w.alloc (.cells #[.slice a0 n0 c0, wayF b] 59)) := Below.refl _ _
  have hwa : (w.alloc (.cells #[.slice a0 n0 c0, wayF b] 59)).heap.size = w.heap.size + 1 := by simp
  have hnI : (n : Int) ≤ 4000 := by omega
  have Hl := Lib.hid hl; clear hl
  have HG := Lib.hid hG; clear hG
  have Hba := Lib.hid hba; clear hba
  have Hbr := Lib.hid hbr; clear hbr
  have Hwa := Lib.hid hwa; clear hwa
  unfold treesV wayF at *
  go_enter Tryz.func94, Tryz.ntmps94
  go_wp2_with fail
  go_loopw [5, 10] (fun v i wr => ∃ (j : Nat) (a : Option Addr) (p c : Nat) (vs : List Value), j ≤ n ∧ p ≤ 29 * j ∧ i = .int .i64 j ∧ v = .slice a p c ∧ Sp (w.heap.size + 1) wr.heap.size (w.heap.size + 1) wr.heap.size wr a p c vs ((xss.take j).flatMap (wayL b)) ∧ vs.Pairwise apart ∧ Below (w.heap.size + 1) (w.alloc (.cells #[.slice a0 n0 c0, .func (.func 93) #[wbV b] #[]] 59)) wr) (fun _ i _ => n - (intOf i).toNat)
  case atStart => exact ⟨0, none, 0, 0, [], Nat.zero_le _, Nat.zero_le _, rfl, rfl, Sp.nil _ _ _ _ _, List.Pairwise.nil, Hbr.out⟩
  case round =>
    obtain ⟨j, a, p, c, vs, hj, hp, rfl, rfl, hv, hap, hb⟩ := hrel
    have hbw := (Hba.out).trans (hb.mono (by omega))
    have hsz := hb.size
    rw [Hwa.out] at hsz
    by_cases hlt : j < n
    · obtain ⟨bl, oo, rfl, hbl, hc⟩ := (h.keep hbw).cell j hlt
      obtain ⟨a3, m3, c3, hck, hi3⟩ := hc j hlt
      clear hc
      obtain ⟨t0, t1⟩ := treeCells b a0 n0 c0 w wr hb
      unfold wayF at t1
      have hg3 := HG.out _ (getD_memR hlt Hl.out)
      have e3 := flatMap_snocX (wayL b) hlt Hl.out
      generalize xss.getD j [] = x at *
      have hwl := wayL_len b hg3
      have hcon := wayPasts_any b a3 m3 c3 x wr hi3 hg3
      generalize wayL b x = P at *
      have Hcon := Lib.hid hcon; clear hcon
      have E3 := Lib.hid e3; clear e3
      have Hg3 := Lib.hid hg3; clear hg3
      have Hap := Lib.hid hap; clear hap
      go_wp2_with fail
      with_reducible refine (Hcon.out).mono ?_
      rintro e w2 ⟨a2, n2, c2, rfl, ho2, hb2⟩
      obtain ⟨us, hu, hup⟩ := ho2.sp
      have hn2 := hu.length
      have hs2 := hb2.size
      have hv2 := (hv.keep hb2).mono (Nat.le_refl _) hs2 (Nat.le_refl _) hs2
      have hap2 := apart_append hv.rows Hap.out hu.rows hup (Nat.le_refl _)
      have hur := hu.rows.mono (show w.heap.size + 1 ≤ wr.heap.size by omega) (Nat.le_refl _)
      have hbw2 := belowTrans hb hb2 (by rw [Hwa.out]; exact Nat.le_refl _)
      clear hv hb hb2 ho2
      have Hn2 := Lib.hid hn2; clear hn2
      have Hap2 := Lib.hid hap2; clear hap2
      go_wp2_with (at_builtin; refine wpList_catSp w2 rfl _ _ rfl (w.heap.size + 1) w2.heap.size (w.heap.size + 1) w2.heap.size a p c vs _ rfl hv2 a2 n2 c2 us P rfl hu.spine.at hur (by have := Hn2.out; omega) (by omega) ?_)
      intro a4 c4 w4 hv4 hc4
      have hs4 := hc4.size
      have hb4 := hbw2.trans (hv2.below hc4 (by omega))
      have hv4' := hv4.mono (Nat.le_refl _) (Nat.le_refl _) (Nat.le_refl _) hs4
      clear hv2 hv4 hc4 hbw2 hu hur
      go_wp2
      go_roundw
      case rel => exact ⟨j + 1, a4, p + n2, c4, _, by omega, by have := Hn2.out; omega, by go_num, rfl, by rw [E3.out]; exact hv4', Hap2.out, hb4⟩
      case measure => simp [intOf]; omega
    · obtain rfl : n = j := by omega
      rw [take_allR Hl.out] at hv
      have Hap := Lib.hid hap; clear hap
      go_wp2
      go_ret
      exact ⟨_, _, _, rfl, hv.own Hap.out (by omega) (by omega) (Nat.le_refl _) (Nat.le_refl _), hbw⟩
end
end Go.Proofs.YthppkfhhidlpiaaGreat
namespace Go.Proofs.YthppkfhhidlpiaaGreat
section
open Go.RowKit Go.Shelf
set_option linter.unusedVariables false
set_option linter.unusedSimpArgs false
set_option maxRecDepth 20000

/-! ### Levels whose rows lie apart -/
structure LvX (B E : Nat) (w : World) (lvs : List Value) (vss : List (List Value)) (lss : List (List (List Int))) : Prop where
  len1 : lvs.length = lss.length
  len2 : vss.length = lss.length
  lev : ∀ i, i < lss.length → ∃ a m c, lvs.getD i undef = .slice a m c ∧ Sp B E B E w a m c (vss.getD i []) (lss.getD i [])
  ap : vss.flatten.Pairwise apart
theorem LvX.mono {B B' E E' w lvs vss lss} (h : LvX B E w lvs vss lss) (hB : B' ≤ B) (hE : E ≤ E') : LvX B' E' w lvs vss lss :=
  ⟨h.len1, h.len2, fun i hi => by obtain ⟨a, m, c, e, hs⟩ := h.lev i hi; exact ⟨a, m, c, e, hs.mono hB hE hB hE⟩, h.ap⟩
theorem LvX.keep {B E w w' lvs vss lss} (h : LvX B E w lvs vss lss) (hb : Below w.heap.size w w') : LvX B E w' lvs vss lss :=
  ⟨h.len1, h.len2, fun i hi => by obtain ⟨a, m, c, e, hs⟩ := h.lev i hi; exact ⟨a, m, c, e, hs.keep hb⟩, h.ap⟩
theorem LvX.chgL {B E w w' lvs vss lss B' E' ao n cap us} (h : LvX B E w lvs vss lss) (k : OwnRow B' E' w 35 ao n cap us) (hc : Chg (fun q => (Value.slice ao n cap).ownBlock = some q) w w') : LvX B E w' lvs vss lss :=
  ⟨h.len1, h.len2, fun i hi => by obtain ⟨a, m, c, e, hs⟩ := h.lev i hi; exact ⟨a, m, c, e, hs.chgL k hc⟩, h.ap⟩
theorem getD_snocA {α : Type} (l : List α) (x d : α) (i : Nat) : (l ++ [x]).getD i d = if i < l.length then l.getD i d else if i = l.length then x else d := by
  rw [List.getD_eq_getElem?_getD]
  by_cases h : i < l.length
  · rw [if_pos h, List.getElem?_append_left h, ← List.getD_eq_getElem?_getD]
  · rw [if_neg h, List.getElem?_append_right (by omega)]
    by_cases h2 : i = l.length
    · subst h2; simp
    · rw [if_neg h2, List.getElem?_eq_none (by simp; omega)]; rfl
theorem LvX.take {B E w lvs vss lss} (h : LvX B E w lvs vss lss) (k : Nat) (hk : k ≤ lss.length) : RowsW B E w (vss.take k).flatten (lss.take k).flatten := by
  induction k with
  | zero => exact RowsW.nil _ _ _
  | succ k ih =>
    obtain ⟨a, m, c, e, hs⟩ := h.lev k (by omega)
    have e1 : vss.take (k + 1) = vss.take k ++ [vss.getD k []] := by
      rw [List.take_add_one, List.getElem?_eq_getElem (by rw [h.len2]; omega), List.getD_eq_getElem?_getD, List.getElem?_eq_getElem (by rw [h.len2]; omega)]; rfl
    have e2 := take_snocL (xs := lss) (show k < lss.length by omega) rfl
    rw [e1, e2, List.flatten_append, List.flatten_append]
    simp only [List.flatten_cons, List.flatten_nil, List.append_nil]
    exact (ih (by omega)).append hs.rows
theorem LvX.flat {B E w lvs vss lss} (h : LvX B E w lvs vss lss) : RowsW B E w vss.flatten lss.flatten := by
  have := h.take lss.length (Nat.le_refl _)
  have hl := h.len2
  rwa [List.take_of_length_le (l := vss) (by omega), List.take_of_length_le (l := lss) (by omega)] at this
theorem LvX.snoc {B E F w lvs vss lss a m c vs l} (h : LvX B E w lvs vss lss) (k : Sp E F E F w a m c vs l) (hp : vs.Pairwise apart) (hB : B ≤ E) (hE : E ≤ F) : LvX B F w (lvs ++ [.slice a m c]) (vss ++ [vs]) (lss ++ [l]) := by
  refine ⟨by simp [h.len1], by simp [h.len2], fun i hi => ?_, ?_⟩
  · rw [List.length_append, List.length_singleton] at hi
    rw [getD_snocA, getD_snocA, getD_snocA, h.len1, h.len2]
    by_cases hlt : i < lss.length
    · rw [if_pos hlt, if_pos hlt, if_pos hlt]
      obtain ⟨a', m', c', e, hs⟩ := h.lev i hlt
      exact ⟨a', m', c', e, hs.mono (Nat.le_refl _) hE (Nat.le_refl _) hE⟩
    · have : i = lss.length := by omega
      rw [if_neg hlt, if_neg hlt, if_neg hlt, if_pos this, if_pos this, if_pos this]
      exact ⟨a, m, c, rfl, k.mono hB (Nat.le_refl _) hB (Nat.le_refl _)⟩
  · rw [List.flatten_append]
    simp only [List.flatten_cons, List.flatten_nil, List.append_nil]
    exact apart_append h.flat h.ap k.rows hp (Nat.le_refl _)
theorem LvX.one {B E w a m c vs l} (k : Sp B E B E w a m c vs l) (hp : vs.Pairwise apart) : LvX B E w [.slice a m c] [vs] [l] :=
  ⟨rfl, rfl, fun i hi => by
    obtain rfl : i = 0 := by simpa using hi
    exact ⟨a, m, c, rfl, k⟩, by simpa using hp⟩
theorem lvXRow {B E B' E' : Nat} {w : World} {ao : Option Addr} {n cap : Nat} {lvs : List Value} {vss : List (List Value)} {lss : List (List (List Int))} (h : OwnRow B E w 35 ao n cap lvs) (k : LvX B' E' w lvs vss lss) {i : Nat} (hi : i < n) :
    ∃ b o a m c, ao = some ⟨b, o, none⟩ ∧ b < w.heap.size ∧ w.cell? ⟨b, o + i, none⟩ = some (.slice a m c) ∧ lvs.getD i undef = .slice a m c ∧ Sp B' E' B' E' w a m c (vss.getD i []) (lss.getD i []) := by
  obtain ⟨b, o, e, hlt, hc⟩ := h.at.cell i hi
  obtain ⟨a, m, c, e2, hs⟩ := k.lev i (by rw [← k.len1, h.length]; exact hi)
  exact ⟨b, o, a, m, c, e, hlt, by rw [hc i hi, e2], e2, hs⟩
def lvW (b : Bool) (c : List (List Int)) : Nat → List (List Int)
  | 0 => c
  | t + 1 => (lvW b c t).flatMap (wayL b)
theorem lvW_true (c : List (List Int)) (t : Nat) : lvW true c t = levL c t := by
  induction t with
  | zero => rfl
  | succ t ih => show (lvW true c t).flatMap (wayL true) = looseL (levL c t); rw [ih]; rfl
theorem lvW_false (a : List Int) (t : Nat) : lvW false [a] t = lvA a t := by
  induction t with
  | zero => rfl
  | succ t ih => show (lvW false [a] t).flatMap (wayL false) = (lvA a t).flatMap pastsL; rw [ih]; rfl

set_option maxHeartbeats 3200000 in
theorem levels_any (B0 : Nat) (a0 : Option Addr) (n0 c0 : Nat) (xss : List (List Int)) (s : Nat) (w : World) (h : OwnRows B0 w.heap.size w a0 n0 c0 xss) (hB : B0 ≤ w.heap.size) (hr : Roots xss s) (hne0 : xss ≠ []) :
    Calls Tryz.prog 49 #[treesV true a0 n0 c0] w fun e w' => ∃ a c, e = .returned (.slice a (levN xss) c) ∧ (∃ lvs vss, OwnRow w.heap.size w'.heap.size w' 35 a (levN xss) c lvs ∧ LvX B0 w'.heap.size w' lvs vss (levs xss (levN xss))) ∧ Below w.heap.size w w' := by
  have hba := belowAlloc w (.cells #[.slice a0 n0 c0, wayF true] 59)
  have hwa : (w.alloc (.cells #[.slice a0 n0 c0, wayF true] 59)).heap.size = w.heap.size + 1 := by simp
  have hbb : Below (w.heap.size + 1) (w.alloc (.cells #[.slice a0 n0 c0, wayF true] 59)) ((w.alloc (.cells #[.slice a0 n0 c0, wayF true] 59)).alloc (.cells #[.slice a0 n0 c0] 35)) := (Below.refl _ _).alloc (by rw [hwa]; exact Nat.le_refl _) _
  have hsp1 : OwnRow (w.heap.size + 1) (w.heap.size + 2) ((w.alloc (.cells #[.slice a0 n0 c0, wayF true] 59)).alloc (.cells #[.slice a0 n0 c0] 35)) 35 (some ⟨w.heap.size + 1, 0, none⟩) 1 1 [.slice a0 n0 c0] := by
    have := World.ownsRow_lit (base := w.heap.size + 1) (size := 1) (e := 35) (w.alloc (.cells #[.slice a0 n0 c0, wayF true] 59)) #[.slice a0 n0 c0] 1 (by rw [hwa]; exact Nat.le_refl _) (by unfold maxLen; omega) rfl
    rw [hwa] at this
    exact ⟨this, fun g hg => by simp [Value.ownBlock] at hg; omega⟩
  obtain ⟨rvs, hrs, hrp⟩ := h.sp
  have hx1 : LvX B0 w.heap.size ((w.alloc (.cells #[.slice a0 n0 c0, wayF true] 59)).alloc (.cells #[.slice a0 n0 c0] 35)) [.slice a0 n0 c0] [rvs] (levs xss 1) := LvX.one ((hrs.keep hba).keep (belowAlloc _ _)) hrp
  have hat2 : RowsAt ((w.alloc (.cells #[.slice a0 n0 c0, wayF true] 59)).alloc (.cells #[.slice a0 n0 c0] 35)) a0 n0 c0 xss := ((hrs.keep hba).keep (belowAlloc _ _)).at
  have hn0 := h.length
  have hlen0 := levR_length hr 0
  have hbf := before_any true a0 n0 c0 a0 n0 c0 xss _ hat2 hr.good (by show n0 ≤ 4000; rw [← hn0]; exact Nat.le_trans hlen0 (by omega))
  have hbg := fun a m c x W hh => before_any true a0 n0 c0 a m c x W hh
  have hL1 : xss.flatMap (wayL true) = levL xss 1 := rfl
  rw [hL1] at hbf
  clear hat2 hrs h
  have Hba := Lib.hid hba; clear hba
  have Hwa := Lib.hid hwa; clear hwa
  have Hbb := Lib.hid hbb; clear hbb
  have Hsp1 := Lib.hid hsp1; clear hsp1
  have Hx1 := Lib.hid hx1; clear hx1
  have Hr := Lib.hid hr; clear hr
  have Hne0 := Lib.hid hne0; clear hne0
  have Hrp := Lib.hid hrp; clear hrp
  have HL1 := Lib.hid hL1; clear hL1
  have Hn0 := Lib.hid hn0; clear hn0
  unfold treesV wayF at *
  have Hbf := Lib.hid hbf; clear hbf
  have Hbg := Lib.hid hbg; clear hbg
  go_enter Tryz.func49, Tryz.ntmps49
  go_wp2_with fail
  with_reducible refine (Hbf.out).mono ?_
  rintro e w1 ⟨a1, n1, c1, rfl, ho1, hb1⟩
  obtain ⟨vs1, hs1, hp1⟩ := ho1.sp
  have hsa : ((w.alloc (.cells #[.slice a0 n0 c0, .func (.func 93) #[wbV true] #[]] 59)).alloc (.cells #[.slice a0 n0 c0] 35)).heap.size = w.heap.size + 2 := by simp
  have hsz1 := hb1.size
  rw [hsa] at hsz1 hs1
  have hx1' := (Hx1.out).keep hb1
  have hsp1' := OwnRow.keep (Hsp1.out) hb1
  have hb1' := belowTrans (Hbb.out) hb1 (by rw [Hwa.out]; exact Nat.le_refl _)
  clear ho1 hb1
  have Hp1 := Lib.hid hp1; clear hp1
  have Hsa := Lib.hid hsa; clear hsa
  go_wp2_with fail
  go_loopw [3, 4] (fun v l wr => ∃ (t E : Nat) (a2 : Option Addr) (c2 : Nat) (lvs : List Value) (vss : List (List Value)) (a : Option Addr) (m c : Nat) (vs : List Value), v = .slice a2 (t + 1) c2 ∧ l = .slice a m c ∧ t ≤ 3719 ∧ (∀ u, u < t + 1 → levL xss u ≠ []) ∧ w.heap.size + 1 ≤ E ∧ E ≤ wr.heap.size ∧ OwnRow (w.heap.size + 1) wr.heap.size wr 35 a2 (t + 1) c2 lvs ∧ LvX B0 E wr lvs vss (levs xss (t + 1)) ∧ Sp E wr.heap.size E wr.heap.size wr a m c vs (levL xss (t + 1)) ∧ vs.Pairwise apart ∧ Below (w.heap.size + 1) (w.alloc (.cells #[.slice a0 n0 c0, .func (.func 93) #[wbV true] #[]] 59)) wr) (fun v _ _ => match v with | .slice _ t _ => 4000 - t | _ => 0)
  case atStart => exact ⟨0, w.heap.size + 2, _, _, _, _, a1, n1, c1, vs1, rfl, rfl, Nat.zero_le _, fun u hu => by (obtain rfl : u = 0 := by omega); exact Hne0.out, by omega, hsz1, hsp1'.mono (Nat.le_refl _) hsz1, hx1'.mono (Nat.le_refl _) (by omega), hs1, Hp1.out, hb1'⟩
  case round =>
    obtain ⟨t, E, a2, c2, lvs, vss, a, m, c, vs, rfl, rfl, ht, hne, hE1, hE2, hov, hlv, hv, hap, hb⟩ := hrel
    clear hx1' hsp1' hb1' hs1
    have hm := hv.length
    have hsz := hb.size
    rw [show (w.alloc (.cells #[.slice a0 n0 c0, .func (.func 93) #[wbV true] #[]] 59)).heap.size = w.heap.size + 1 from Hwa.out] at hsz
    by_cases hlt : m = 0
    · subst hlt
      have hnil := List.eq_nil_of_length_eq_zero hm
      have hN := levN_unique Hr.out hnil hne
      have Hnil := Lib.hid hnil; clear hnil
      have Hm := Lib.hid hm; clear hm
      have Hne := Lib.hid hne; clear hne
      have Hap := Lib.hid hap; clear hap
      have HN := Lib.hid hN; clear hN
      go_wp2
      go_ret
      rw [← HN.out]
      exact ⟨_, _, rfl, ⟨_, _, hov.mono (by omega) (Nat.le_refl _), hlv.mono (Nat.le_refl _) hE2⟩, (Hba.out).trans (hb.mono (by omega))⟩
    · have hne2 : ∀ u, u < t + 1 + 1 → levL xss u ≠ [] := fun u hu => by
        by_cases hut : u = t + 1
        · subst hut; intro e; rw [e] at hm; exact hlt hm.symm
        · exact hne u (by omega)
      have ht2 : t + 1 ≤ 3718 := levR_some Hr.out (hne2 (t + 1) (by omega))
      have hle := levR_length Hr.out (t + 1)
      have hGa : ∀ x ∈ levL xss (t + 1), Good x := fun x hx => levR_good Hr.out hx
      have e2 := levs_succ xss (t + 1)
      have e : levL xss (t + 1 + 1) = (levL xss (t + 1)).flatMap (wayL true) := rfl
      generalize levL xss (t + 1) = A at *
      have hm8 : m ≤ 3718 := by omega
      have hmpos : (0 : Int) < m := by omega
      obtain ⟨t0, t1⟩ := treeCells true a0 n0 c0 w wr hb
      have hnew := hlv.snoc hv hap (by omega) hE2
      rw [← e2] at hnew
      clear t0 t1
      have E := Lib.hid e; clear e
      have E2 := Lib.hid e2; clear e2
      have Hm := Lib.hid hm; clear hm
      have HGa := Lib.hid hGa; clear hGa
      have Hne := Lib.hid hne; clear hne
      have Hne2 := Lib.hid hne2; clear hne2
      have Hap := Lib.hid hap; clear hap
      go_wp2_with (at_builtin; refine wpList_pushVX wr rfl _ _ 56 rfl 35 _ 24 Tryz.underlying56 Tryz.infoLists rfl (by decide) (w.heap.size + 1) wr.heap.size a2 (t + 1) c2 lvs rfl hov _ rfl rfl (by omega) (by omega) ?_)
      intro a6 c6 w6 hov6 hc6 _
      have hs6 := hc6.size
      have hlv6 := (hnew.chgL hov hc6).mono (Nat.le_refl B0) hs6
      have hv6 := hv.chgL hov hc6
      have hb6 := hb.trans (hov.chgBelow hc6 (by omega))
      clear hov hlv hv hb hc6 hnew
      obtain ⟨t0, t1⟩ := treeCells true a0 n0 c0 w w6 hb6
      unfold wayF at t1
      have hcon := Hbg.out a m c A w6 hv6.at HGa.out (by omega)
      have Hcon := Lib.hid hcon; clear hcon
      clear hv6
      go_wp2_with fail
      with_reducible refine (Hcon.out).mono ?_
      rintro e w8 ⟨a8, n8, c8, rfl, ho8, hb8⟩
      obtain ⟨vs8, hs8, hp8⟩ := ho8.sp
      have hsz8 := hb8.size
      have hov8 := (OwnRow.keep hov6 hb8).mono (Nat.le_refl (w.heap.size + 1)) hsz8
      have hlv8 := hlv6.keep hb8
      have hb9 := belowTrans hb6 hb8 (by rw [show (w.alloc (.cells #[.slice a0 n0 c0, .func (.func 93) #[wbV true] #[]] 59)).heap.size = w.heap.size + 1 from Hwa.out]; exact Nat.le_refl _)
      have Hp8 := Lib.hid hp8; clear hp8
      clear hov6 hlv6 hb6 hb8 ho8
      go_wp2
      go_roundw
      case rel => exact ⟨t + 1, w6.heap.size, a6, c6, _, _, a8, n8, c8, vs8, rfl, rfl, by omega, Hne2.out, by omega, hsz8, hov8, hlv8, by rw [E.out]; exact hs8, Hp8.out, hb9⟩
      case measure => simp; omega

/-! ### slices.Concat over levels -/
set_option maxHeartbeats 400000 in
theorem growL_any (n : Nat) (w : World) (hn : n ≤ 1048576) :
    Calls Tryz.prog 109 #[.slice none 0 0, .int .i64 n] w fun e w' => ∃ ao cap, e = .returned (.slice ao 0 cap) ∧ OwnRow w.heap.size w'.heap.size w' 27 ao 0 cap [] ∧ Below w.heap.size w w' := by
  by_cases hz : n = 0
  · subst hz
    go_enter Tryz.func109, Tryz.ntmps109
    go_wp2
    go_ret
    exact ⟨none, 0, rfl, OwnRow.nil _ _ _ _, Below.refl _ _⟩
  · obtain ⟨i0, hi, hz0, hz1, hz2⟩ := info_parts Tryz.infoInts
    have := Any8.slices_Grow_grow Tryz.growLL i0 _ hi hz0 (by omega) none 0 0 n [] w (Nat.le_refl _) (by omega) (by rw [hz2]; omega) (by omega) (by simp) (fun _ => rfl) (fun a ha => by cases ha)
    change Calls Tryz.prog 109 _ _ _ at this
    refine this.mono fun e w' ⟨he, hw⟩ => ⟨_, _, he, ?_, ?_⟩
    · rw [hw]
      change OwnRow w.heap.size (w.drew.alloc _).heap.size (w.drew.alloc _) 27 (some ⟨w.drew.heap.size, 0, none⟩) 0 _ []
      have hcap := grownCap_le_maxLen w (0 + n) 0 27 (by unfold maxLen; omega)
      have hge := grownCap_ge w (0 + n) 0 27
      refine OwnRow.of (World.ownsRow_made w.drew _ _ (Nat.le_refl _) hcap ?_)
      simp [Builtin.zeroCells, Value.cells]
      change n + (grownCap w n 0 27 - n) = grownCap w n 0 27
      simp only [Nat.zero_add] at hge
      omega
    · rw [hw]; exact (Below.refl _ _).drew.alloc (Nat.le_refl _) _
theorem take_snocV {vss : List (List Value)} {k n : Nat} (hk : k < n) (hl : vss.length = n) : vss.take (k + 1) = vss.take k ++ [vss.getD k []] := by
  subst hl
  rw [List.take_add_one, List.getElem?_eq_getElem hk, List.getD_eq_getElem?_getD, List.getElem?_eq_getElem hk]; rfl

/-- how many lists the first levels have -/
def catN (lss : List (List (List Int))) (k : Nat) : Nat := (lss.take k).flatten.length
theorem catN_le (lss : List (List (List Int))) (k : Nat) : catN lss k ≤ lss.flatten.length := levs_take_len lss k
theorem catN_zero (lss : List (List (List Int))) : catN lss 0 = 0 := rfl
set_option maxHeartbeats 1600000 in
theorem concatL_any (B E B' E' : Nat) (ao : Option Addr) (n cap : Nat) (lvs : List Value) (vss : List (List Value)) (lss : List (List (List Int))) (w : World) (h : OwnRow B E w 35 ao n cap lvs) (hx : LvX B' E' w lvs vss lss) (hn : lss.flatten.length ≤ 4000) (hB : B' ≤ w.heap.size) (hE : E' ≤ w.heap.size) :
    Calls Tryz.prog 71 #[.slice ao n cap] w fun e w' => ∃ ao' n' cap', e = .returned (.slice ao' n' cap') ∧ OwnRows B' w'.heap.size w' ao' n' cap' lss.flatten ∧ Below w.heap.size w w' := by
  have hl : lss.length = n := by rw [← hx.len1]; exact h.length
  have hl2 : vss.length = n := by rw [hx.len2]; exact hl
  have hnI : (n : Int) ≤ 9223372036854775807 := h.at.le |> fun q => maxLen_le (Nat.le_trans q h.at.max)
  have Hl := Lib.hid hl; clear hl
  have Hl2 := Lib.hid hl2; clear hl2
  go_enter Tryz.func71, Tryz.ntmps71
  go_wp2
  go_loop [3, 11] (fun s i => ∃ k : Nat, k ≤ n ∧ i = .int .i64 k ∧ s = .int .i64 (catN lss k : Nat)) (fun _ i => n - (intOf i).toNat)
  case atStart => exact ⟨0, Nat.zero_le _, rfl, rfl⟩
  case round =>
    obtain ⟨k, hk, rfl, rfl⟩ := hrel
    have hle := catN_le lss k
    have hle1 := catN_le lss (k + 1)
    by_cases hlt : k < n
    · obtain ⟨b, oo, a, m, c, rfl, hb, hck, _, hs⟩ := lvXRow h hx hlt
      have e := take_snocL hlt Hl.out
      have hm := hs.length
      have e1 : catN lss (k + 1) = catN lss k + m := by unfold catN; rw [e, List.flatten_append, List.length_append]; simp only [List.flatten_cons, List.flatten_nil, List.append_nil]; omega
      rw [e1] at hle1
      generalize catN lss k = p at *
      have E := Lib.hid e; clear e
      have Hm := Lib.hid hm; clear hm
      have E1 := Lib.hid e1; clear e1
      go_wp2
      go_round
      case rel => exact ⟨k + 1, by omega, by go_num, by rw [E1.out]; go_num⟩
      case measure => simp [intOf]; omega
    · obtain rfl : n = k := by omega
      have hcon := growL_any (catN lss n) w (by omega)
      have hge : ¬ ((catN lss n : Int) < 0) := by omega
      have Hcon := Lib.hid hcon; clear hcon
      go_wp2_with (go_at_call 109; refine (Hcon.out).mono ?_; rintro e w1 ⟨ao1, cap1, rfl, ho1, hb1⟩)
      go_loopw [6, 27] (fun v i wr => ∃ (k : Nat) (a : Option Addr) (m c : Nat), k ≤ n ∧ i = .int .i64 k ∧ v = .slice a m c ∧ Sp w.heap.size wr.heap.size B' E' wr a m c (vss.take k).flatten (lss.take k).flatten ∧ Below w.heap.size w wr) (fun _ i _ => n - (intOf i).toNat)
      case atStart => exact ⟨0, ao1, 0, cap1, Nat.zero_le _, rfl, rfl, ⟨ho1, RowsW.nil _ _ _⟩, hb1⟩
      case round =>
        obtain ⟨j, a1, m1, c1, hj, rfl, rfl, hown, hb⟩ := hrel
        clear ho1 hb1
        by_cases hlt2 : j < n
        · obtain ⟨b, oo, a, m, c, rfl, hbl, hck, _, hs⟩ := lvXRow (h.keep hb) (hx.keep hb) hlt2
          have e := take_snocL hlt2 Hl.out
          have ev := take_snocV hlt2 Hl2.out
          have hle2 := levs_take_len lss (j + 1)
          have hm := hs.length
          have hm1 := hown.length
          have e1 : (lss.take (j + 1)).flatten = (lss.take j).flatten ++ lss.getD j [] := by rw [e, List.flatten_append]; simp
          have e2 : (vss.take (j + 1)).flatten = (vss.take j).flatten ++ vss.getD j [] := by rw [ev, List.flatten_append]; simp
          rw [e1, List.length_append] at hle2
          have hmm : m1 + m ≤ 4000 := by omega
          have E := Lib.hid e; clear e
          have Ev := Lib.hid ev; clear ev
          have Hm := Lib.hid hm; clear hm
          have Hm1 := Lib.hid hm1; clear hm1
          have E1 := Lib.hid e1; clear e1
          have E2 := Lib.hid e2; clear e2
          go_wp2_with (at_builtin; refine wpList_catSp wr rfl _ _ rfl w.heap.size wr.heap.size B' E' a1 m1 c1 _ _ rfl hown a m c (vss.getD j []) (lss.getD j []) rfl hs.spine.at hs.rows (by omega) hb.size ?_)
          intro ao2 cap2 w2 ho2 hc2
          have hb2 := hown.below hc2 hb.size
          clear hown
          go_wp2
          go_roundw
          case rel => exact ⟨j + 1, ao2, _, cap2, by omega, by go_num, rfl, by rw [E1.out, E2.out]; exact ho2, hb.trans hb2⟩
          case measure => simp [intOf]; omega
        · obtain rfl : n = j := by omega
          rw [List.take_of_length_le (l := vss) (by rw [Hl2.out]; exact Nat.le_refl _), List.take_of_length_le (l := lss) (by rw [Hl.out]; exact Nat.le_refl _)] at hown
          have hs := hb.size
          go_wp2
          go_ret
          exact ⟨_, _, _, rfl, hown.own hx.ap hB (Nat.le_refl _) (Nat.le_refl _) (by omega), hb⟩
end
end Go.Proofs.YthppkfhhidlpiaaGreat
namespace Go.Proofs.YthppkfhhidlpiaaGreat
section
open Go.RowKit
set_option linter.unusedVariables false
set_option linter.unusedSimpArgs false
set_option maxRecDepth 20000

end
end Go.Proofs.YthppkfhhidlpiaaGreat
namespace Go.Proofs.YthppkfhhidlpiaaGreat
section
open Go.RowKit Go.Shelf Go.Lib Go.Sort
set_option linter.unusedVariables false
set_option linter.unusedSimpArgs false
set_option maxRecDepth 20000

theorem cmpL_neg (a b : List Int) : cmpL a b < 0 ↔ befB b a = true := by
  induction a generalizing b with
  | nil => cases b <;> simp [befB, cmpL]
  | cons x l ih =>
    cases b with
    | nil => simp [befB, cmpL]
    | cons y m =>
      show (if x = y then cmpL l m else if x < y then -1 else 1) < 0 ↔ (if y = x then befB m l else decide (x < y)) = true
      by_cases h : x = y
      · rw [if_pos h, if_pos h.symm]; exact ih m
      · have h' : ¬ y = x := fun e => h e.symm
        rw [if_neg h, if_neg h']
        by_cases h2 : x < y
        · rw [if_pos h2]; simp; omega
        · rw [if_neg h2]; simp; omega
set_option maxHeartbeats 400000 in
theorem cmpFirst_any (ao bo : Option Addr) (n m cap cap' : Nat) (xs ys : List Int) (w : World) (hx : IntsAt w ao n cap xs) (hy : IntsAt w bo m cap' ys) :
    Calls Tryz.prog 97 #[.slice ao n cap, .slice bo m cap'] w fun e w' => e = .returned (.int .i64 (cmpL ys xs)) ∧ w = w' := by
  have hcon := compare_any bo ao m n cap' cap ys xs w hy hx
  have Hcon := Lib.hid hcon; clear hcon
  go_enter Tryz.func97, Tryz.ntmps97
  go_wp2_with fail
  with_reducible refine (Hcon.out).mono ?_
  rintro e w' ⟨rfl, rfl⟩
  go_wp2
  go_ret
  exact ⟨rfl, rfl⟩
theorem apart_symm {v u : Value} (h : apart v u) : apart u v := by
  unfold apart at *
  cases e : u.ownBlock with
  | none => exact .inl rfl
  | some g =>
    right
    intro e2
    rcases h with h | h
    · rw [h] at e2; cases e2
    · exact h (e2.symm.trans e.symm)
def encR (vs : List Value) (m : Nat) (i : Fin (m + 1)) : Value := vs.getD i.val undef
def cfR (xss : List (List Int)) (m : Nat) (i j : Fin (m + 1)) : Int := cmpL (xss.getD j.val []) (xss.getD i.val [])
theorem ltR (xss : List (List Int)) (m : Nat) (i j : Fin (m + 1)) : ltOf (cfR xss m) i j = befB (xss.getD i.val []) (xss.getD j.val []) := by
  unfold ltOf cfR
  have := cmpL_neg (xss.getD j.val []) (xss.getD i.val [])
  cases h : befB (xss.getD i.val []) (xss.getD j.val [])
  · rw [decide_eq_false_iff_not]; rw [h] at this; simpa using this
  · rw [decide_eq_true_iff]; exact this.2 h
theorem swoR (xss : List (List Int)) (m : Nat) : SWO (ltOf (cfR xss m)) where
  irrefl x := by rw [ltR]; exact befB_irrefl _
  trans x y z h1 h2 := by rw [ltR] at *; exact bef_trans h1 h2
  ntrans x y z h1 h2 := by rw [ltR] at *; exact befN_trans h2 h1
theorem extract_all {α : Type} (d : Array α) (n : Nat) (h : d.size = n) : d.extract 0 n = d := by subst h; exact Array.extract_size
theorem ofFn_map {α : Type} (l : List α) (m : Nat) (d : α) (hl : l.length = m + 1) : (List.ofFn (fun i : Fin (m + 1) => i)).map (fun i => l.getD i.val d) = l := by
  apply List.ext_getElem
  · simp [hl]
  · intro i h1 h2
    rw [List.getElem_map, List.getElem_ofFn, List.getD_eq_getElem?_getD, List.getElem?_eq_getElem h2]; rfl

set_option maxHeartbeats 1600000 in
theorem sortRows_any (B E C D g m cap : Nat) (vs : List Value) (xss : List (List Int)) (w : World) (h : Sp B E C D w (some ⟨g, 0, none⟩) (m + 1) cap vs xss) (hap : vs.Pairwise apart) (hm : m ≤ 1048576) :
    Calls Tryz.prog 96 #[.slice (some ⟨g, 0, none⟩) (m + 1) cap, .func (.func 97) #[] #[]] w fun e w' =>
      e = .returned (.tuple #[]) ∧ ∃ us, Sp B E C D w' (some ⟨g, 0, none⟩) (m + 1) cap us (srt xss) ∧ us.Pairwise apart ∧ Chg (fun k => k = g) w w' := by
  have hxl := h.length
  have hvl := h.spine.length
  rcases h.spine.1.2 with ⟨hv, _⟩ | ⟨g', cap', cur, hv, hg, hh, hnc, hcm, hcs, htake⟩
  · simp at hv
  simp only [Value.slice.injEq, Option.some.injEq, Addr.mk.injEq, and_true, true_and] at hv
  obtain ⟨rfl, rfl⟩ := hv
  have hgw : g < w.heap.size := (Array.getElem?_eq_some_iff.1 hh).1
  obtain ⟨d, hd⟩ : ∃ d : Array (Fin (m + 1)), d.toList = List.ofFn (fun i : Fin (m + 1) => i) := ⟨⟨List.ofFn fun i => i⟩, rfl⟩
  have hds : d.size = m + 1 := by rw [← Array.length_toList, hd]; simp
  have hdj : ∀ j, (hj : j < m + 1) → d[j]! = ⟨j, hj⟩ := fun j hj => by
    have h1 : d.toList[j]? = some ⟨j, hj⟩ := by rw [hd, List.getElem?_ofFn, dif_pos hj]
    rw [Array.getElem?_toList, Array.getElem?_eq_getElem (by omega)] at h1
    rw [getElem!_pos d j (by omega)]
    exact Option.some.inj h1
  have hrow : ∀ i : Fin (m + 1), ∃ a k c, encR vs m i = .slice a k c ∧ Own C D w a k c (xss.getD i.val []) := fun i => h.rows.row i.val (by rw [hxl]; exact i.isLt)
  have hH : Holds (encR vs m) w g 0 d := by
    intro j hj
    rw [hds] at hj
    refine ⟨?_, ?_⟩
    · have h1 := World.ownsRow.cellAt h.spine.1 j (by omega)
      simp only [Nat.zero_add]
      rw [h1, hdj j hj]
      show vs[j]? = some (vs.getD j undef)
      rw [List.getD_eq_getElem?_getD, List.getElem?_eq_getElem (by omega)]; rfl
    · simp only [Nat.zero_add]; exact World.ownsRow.frozenAt h.spine.1 j
  have h1c : OneCell (encR vs m) := fun i => by
    obtain ⟨a, k, c, e, _⟩ := hrow i
    rw [e]; rfl
  have eg : ∀ args w, (callFunc 97 args).run Tryz.prog w = .ok (.enter 97 args) w := enters_of Tryz.func97 (by kernel_rfl) rfl
  have hchg : ∀ (q : Nat) (os : Array Obj) (dk : Array (Fin (m + 1))), Chg (fun k => k = g) w (sortWorld (encR vs m) w g 0 q dk os) := fun q os dk => by
    unfold sortWorld
    refine ⟨rfl, rfl, rfl, by simp [ahead], fun k hk hs => ?_⟩
    rw [heap_grow_old _ _ (by simp [ahead]; exact hk)]
    have : ¬ g = k := fun e => hs e.symm
    simp [putRow, mapBlock, ahead, Array.getElem?_modify, this]
  have hkeep : ∀ {w' : World} {a : Option Addr} {k c : Nat} {x : List Int}, Own C D w a k c x → Chg (fun k => k = g) w w' → Own C D w' a k c x := fun ho hc =>
    ho.chg hc (fun q h1 h2 h3 h4 => OwnRow.apart_ty ho h.spine (by decide) h3 (by simp [Value.ownBlock, h4]))
  have hcmp : CmpReads Tryz.prog 97 #[] (encR vs m) (cfR xss m) g 0 d.size w := fun q os dk _ x y => by
    obtain ⟨a, k, c, e, ho⟩ := hrow x
    obtain ⟨a', k', c', e', ho'⟩ := hrow y
    have hc := hchg q os dk
    rw [e, e']
    exact (cmpFirst_any a a' k k' c c' _ _ _ (hkeep ho hc).at (hkeep ho' hc).at).mono fun _ _ ⟨h1, h2⟩ => ⟨h1, 0, h2.symm⟩
  have hS := Any.slices_SortFunc Tryz.sortLL (encR vs m) h1c (cfR xss m) (swoR xss m) 97 #[] g 0 cap d w eg hcmp.lays hH hgw (by rw [hds]; omega)
  change Calls Tryz.prog 96 _ _ _ at hS
  rw [hds] at hS
  refine hS.mono fun e w' ⟨he, d', q, os, hp, hs, hw⟩ => ⟨he, ?_⟩
  obtain ⟨hp1, _, hp3⟩ := hp
  rw [hds] at hp1
  have hperm : d'.toList.Perm (List.ofFn fun i : Fin (m + 1) => i) := by
    have e1 : d'.extract 0 (m + 1) = d' := extract_all d' _ hp1
    have e2 : d.extract 0 (m + 1) = d := extract_all d _ hds
    rw [e1, e2, hd] at hp3
    exact hp3
  have hvs := ofFn_map vs m undef hvl
  have hxs := ofFn_map xss m [] hxl
  have hpv : (d'.toList.map (encR vs m)).Perm vs := by
    have := hperm.map (fun i : Fin (m + 1) => vs.getD i.val undef)
    rw [hvs] at this; exact this
  have hpx : (d'.toList.map (fun i => xss.getD i.val [])).Perm xss := by
    have := hperm.map (fun i : Fin (m + 1) => xss.getD i.val [])
    rw [hxs] at this; exact this
  have hsr : srtd (d'.toList.map (fun i => xss.getD i.val [])) := by
    unfold srtd
    rw [List.pairwise_map, List.pairwise_iff_getElem]
    intro i j hi hj hij
    have hi' : i < m + 1 := by rw [Array.length_toList, hp1] at hi; exact hi
    have hj' : j < m + 1 := by rw [Array.length_toList, hp1] at hj; exact hj
    have := hs i j (Nat.zero_le _) hij (by omega)
    rw [ltR, getElem!_pos d' j (by omega), getElem!_pos d' i (by omega)] at this
    simpa using this
  rw [← srt_unique hsr hpx]
  have hc := hchg q os d'
  rw [← hw] at hc
  refine ⟨d'.toList.map (encR vs m), ⟨?_, ?_⟩, ?_, hc⟩
  · have hheap : w'.heap[g]? = some (.cells (putCells (encR vs m) 0 d' cur) 27 (0, 0)) := by
      rw [hw]
      unfold sortWorld
      rw [heap_grow_old _ _ (by simp [ahead]; exact hgw)]
      simp [putRow, mapBlock, ahead, Array.getElem?_modify, hh, onCells]
    refine ⟨⟨by simp [hp1], .inr ⟨g, cap, _, rfl, hg, hheap, hnc, hcm, by simp [putCells, hcs], ?_⟩⟩, h.spine.2⟩
    apply List.ext_getElem
    · simp [putCells, hp1, hcs]; omega
    · intro i h1 h2
      simp [hp1] at h2
      simp [putCells, hp1, h2, getElem!_pos d' i (by omega)]
  · refine ⟨by simp, fun i hi => ?_⟩
    rw [List.length_map, Array.length_toList, hp1] at hi
    obtain ⟨a, k, c, e, ho⟩ := hrow (d'[i]'(by omega))
    refine ⟨a, k, c, ?_, ?_⟩
    · rw [List.getD_eq_getElem?_getD, List.getElem?_map, List.getElem?_eq_getElem (by rw [Array.length_toList, hp1]; exact hi)]
      simpa using e
    · rw [List.getD_eq_getElem?_getD, List.getElem?_map, List.getElem?_eq_getElem (by rw [Array.length_toList, hp1]; exact hi)]
      simpa using hkeep ho hc
  · exact (hpv.symm.pairwise_iff (fun {a b} h => apart_symm h)).1 hap
set_option maxHeartbeats 800000 in
theorem greatestFirst_any (B E : Nat) (ao : Option Addr) (n cap : Nat) (xss : List (List Int)) (w : World) (h : OwnRows B E w ao n cap xss) (hn : n ≤ 1048576) (hB : B ≤ w.heap.size) :
    Calls Tryz.prog 52 #[.slice ao n cap] w fun e w' => e = .returned (.slice ao n cap) ∧ OwnRows B E w' ao n cap (srt xss) ∧ Below B w w' := by
  obtain ⟨vs, hsp, hap⟩ := h.sp
  rcases hsp.spine.cases with ⟨rfl, rfl, rfl, hnil⟩ | ⟨g, rfl, hg, hgE, hgw⟩
  · have hx : xss = [] := List.eq_nil_of_length_eq_zero h.length
    subst hx
    have hcon := AnyF.slices_SortFunc_none (P := Tryz.prog) (ρ := Tryz.sortLL_ren) { Tryz.sortLL with } none 0 (.func (.func 97) #[] #[]) w
    change Calls Tryz.prog 96 _ _ _ at hcon
    have Hcon := Lib.hid hcon; clear hcon
    have Hnil := Lib.hid hnil; clear hnil
    go_enter Tryz.func52, Tryz.ntmps52
    go_wp2_with fail
    with_reducible refine (Hcon.out).mono ?_
    rintro e w' ⟨rfl, rfl⟩
    go_wp2
    go_ret
    exact ⟨rfl, h, Below.refl _ _⟩
  · by_cases hz : n = 0
    · subst hz
      have hx : xss = [] := List.eq_nil_of_length_eq_zero h.length
      subst hx
      have hcon := AnyF.slices_SortFunc_none (P := Tryz.prog) (ρ := Tryz.sortLL_ren) { Tryz.sortLL with } (some ⟨g, 0, none⟩) cap (.func (.func 97) #[] #[]) w
      change Calls Tryz.prog 96 _ _ _ at hcon
      have Hcon := Lib.hid hcon; clear hcon
      go_enter Tryz.func52, Tryz.ntmps52
      go_wp2_with fail
      with_reducible refine (Hcon.out).mono ?_
      rintro e w' ⟨rfl, rfl⟩
      go_wp2
      go_ret
      exact ⟨rfl, h, Below.refl _ _⟩
    · obtain ⟨m, rfl⟩ : ∃ m, n = m + 1 := ⟨n - 1, by omega⟩
      have hcon := sortRows_any B E B E g m cap vs xss w hsp hap (by omega)
      generalize hM : m + 1 = M at *
      have Hcon := Lib.hid hcon; clear hcon
      have Hap := Lib.hid hap; clear hap
      have HM := Lib.hid hM; clear hM
      clear hsp h
      go_enter Tryz.func52, Tryz.ntmps52
      go_wp2_with fail
      with_reducible refine (Hcon.out).mono ?_
      rintro e w' ⟨rfl, us, hs2, hap2, hc2⟩
      go_wp2
      go_ret
      exact ⟨rfl, hs2.own hap2 (Nat.le_refl _) (Nat.le_refl _) (Nat.le_refl _) (Nat.le_refl _), hc2.below hB (fun k hk => by omega)⟩
end
end Go.Proofs.YthppkfhhidlpiaaGreat
namespace Go.Proofs.YthppkfhhidlpiaaGreat
section
open Go.RowKit
set_option linter.unusedVariables false
set_option linter.unusedSimpArgs false
set_option maxRecDepth 20000

/-! ### Pasts at some steps -/
/-! ### Trees -/
theorem one_len {xs : List Int} (hg : Good xs) : ∀ x ∈ [xs], x.length ≤ 28 := fun x hx => by rw [List.mem_singleton.1 hx]; exact hg.len
/-- the levels of the tree of these piles, as each function makes them -/
theorem oneLevels (ao : Option Addr) (n cap : Nat) (xs : List Int) (w : World) (h : IntsAt w ao n cap xs) (hg : Good xs) :
    (Calls Tryz.prog 48 #[.slice (some ⟨w.heap.size, 0, none⟩) 1 1] (w.alloc (.cells #[.slice ao n cap] 27)) fun e w' => ∃ a c, e = .returned (treesV true a 1 c) ∧ OwnRows w.heap.size w'.heap.size w' a 1 c [xs] ∧ Below w.heap.size w w') ∧
    (∀ (w1 : World) (a : Option Addr) (c : Nat), OwnRows w.heap.size w1.heap.size w1 a 1 c [xs] → Below w.heap.size w w1 → Calls Tryz.prog 49 #[treesV true a 1 c] w1 fun e w' => ∃ a2 c2, e = .returned (.slice a2 (depN xs) c2) ∧ (∃ lvs vss, OwnRow w1.heap.size w'.heap.size w' 35 a2 (depN xs) c2 lvs ∧ LvX w.heap.size w'.heap.size w' lvs vss (levs [xs] (depN xs))) ∧ Below w.heap.size w w') := by
  obtain ⟨s, _, _, hr⟩ := roots_one hg
  constructor
  · refine (treesFrom_any _ _ _ [xs] _ (rowsAt_one h) (by omega) (one_len hg)).mono ?_
    rintro e w' ⟨a, c, he, ho, hb⟩
    exact ⟨a, c, he, ho.mono (by simp) (Nat.le_refl _), belowTrans (belowAlloc w _) hb (Nat.le_refl _)⟩
  · intro w1 a c ho hb
    refine (levels_any w.heap.size a 1 c [xs] s w1 ho hb.size hr (by simp)).mono ?_
    rintro e w' ⟨a2, c2, he, hx, hb2⟩
    exact ⟨a2, c2, he, hx, belowTrans hb hb2 (Nat.le_refl _)⟩
set_option maxHeartbeats 1600000 in
theorem impl_TreeOf (ao : Option Addr) (n cap : Nat) (xs : List Int) (w : World) (h : IntsAt w ao n cap xs) :
    Calls Tryz.prog 28 #[.slice ao n cap] w fun e w' => ∃ ao' n' cap', e = .returned (.tuple #[.slice ao' n' cap', .bool (mTreeOf xs).2]) ∧ OwnRows w.heap.size w'.heap.size w' ao' n' cap' (mTreeOf xs).1 ∧ Below w.heap.size w w' := by
  cases hg : goodB xs
  · have hm := mTree_no hg
    have Hg := Lib.hid hg; clear hg
    have Hm := Lib.hid hm; clear hm
    go_enter Tryz.func28, Tryz.ntmps28
    go_wp2_with fail
    with_reducible refine (isPiles_no _ _ _ _ _ h Hg.out).mono ?_
    rintro e w' ⟨rfl, rfl⟩
    go_wp2
    go_ret2
    rw [Hm.out]
    exact ⟨none, 0, 0, rfl, OwnRows.nil _ _ _, Below.refl _ _⟩
  · have hG := good_iff.1 hg
    have hm := mTree_yes hg
    obtain ⟨h1, h2⟩ := oneLevels ao n cap xs w h hG
    have hll := tree_len hG (depN xs)
    unfold treeL at hm
    generalize depN xs = N at *
    have Hg := Lib.hid hg; clear hg
    have Hm := Lib.hid hm; clear hm
    have HG := Lib.hid hG; clear hG
    have H1 := Lib.hid h1; clear h1
    have H2 := Lib.hid h2; clear h2
    go_enter Tryz.func28, Tryz.ntmps28
    go_wp2_with fail
    with_reducible refine (isPiles_yes _ _ _ _ _ h HG.out).mono ?_
    rintro e w' ⟨rfl, rfl⟩
    go_wp2_with fail
    with_reducible refine (H1.out).mono ?_
    rintro e w1 ⟨a1, c1, rfl, ho1, hb1⟩
    have hcon := H2.out w1 a1 c1 ho1 hb1
    have hs1 := hb1.size
    have Hcon := Lib.hid hcon; clear hcon
    clear ho1 hb1
    go_wp2_with fail
    with_reducible refine (Hcon.out).mono ?_
    rintro e w2 ⟨a2, c2, rfl, ⟨lvs, vss, hov, hlv⟩, hb2⟩
    have hs2 := hb2.size
    have hcon2 := concatL_any _ _ _ _ a2 N c2 lvs vss _ w2 hov hlv (by omega) hs2 (Nat.le_refl _)
    have Hcon2 := Lib.hid hcon2; clear hcon2
    clear hov hlv
    go_wp2_with fail
    with_reducible refine (Hcon2.out).mono ?_
    rintro e w3 ⟨a3, n3, c3, rfl, ho3, hb3⟩
    have hs3 := hb3.size
    have hl3 := ho3.length
    have hcon3 := greatestFirst_any _ _ a3 n3 c3 _ w3 ho3 (by omega) (by omega)
    have Hcon3 := Lib.hid hcon3; clear hcon3
    have Hl3 := Lib.hid hl3; clear hl3
    clear ho3
    go_wp2_with fail
    with_reducible refine (Hcon3.out).mono ?_
    rintro e w4 ⟨rfl, ho4, hb4⟩
    have hs4 := hb4.size
    have hbf := (belowTrans hb2 hb3 (Nat.le_refl _)).trans hb4
    have Hbf := Lib.hid hbf; clear hbf
    go_wp2
    go_ret2
    rw [Hm.out]
    exact ⟨_, _, _, rfl, ho4.mono (Nat.le_refl _) hs4, Hbf.out⟩
theorem impl_TreeSize (ao : Option Addr) (n cap : Nat) (xs : List Int) (w : World) (h : IntsAt w ao n cap xs) :
    Calls Tryz.prog 32 #[.slice ao n cap] w fun e w' => e = .returned (.tuple #[.int .i64 (mTreeSize xs).1, .bool (mTreeSize xs).2]) ∧ Below w.heap.size w w' := by
  have hcon := impl_TreeOf ao n cap xs w h
  have hm : mTreeSize xs = ((((mTreeOf xs).1.length : Nat) : Int), (mTreeOf xs).2) := by
    unfold mTreeSize mTreeOf
    split <;> rfl
  rw [hm]
  generalize mTreeOf xs = M at *
  obtain ⟨M1, M2⟩ := M
  have Hcon := Lib.hid hcon; clear hcon
  have Hm := Lib.hid hm; clear hm
  go_enter Tryz.func32, Tryz.ntmps32
  go_wp2_with fail
  with_reducible refine (Hcon.out).mono ?_
  rintro e w1 ⟨a1, n1, c1, rfl, ho1, hb1⟩
  have hl1 := ho1.length
  have Hl1 := Lib.hid hl1; clear hl1
  go_wp2
  go_ret2
  exact ⟨by rw [← Hl1.out]; rfl, hb1⟩
theorem impl_DepthOf (ao : Option Addr) (n cap : Nat) (xs : List Int) (w : World) (h : IntsAt w ao n cap xs) :
    Calls Tryz.prog 27 #[.slice ao n cap] w fun e w' => e = .returned (.tuple #[.int .i64 (mDepthOf xs).1, .bool (mDepthOf xs).2]) ∧ Below w.heap.size w w' := by
  cases hg : goodB xs
  · have hm := mDep_no hg
    have Hg := Lib.hid hg; clear hg
    have Hm := Lib.hid hm; clear hm
    go_enter Tryz.func27, Tryz.ntmps27
    go_wp2_with fail
    with_reducible refine (isPiles_no _ _ _ _ _ h Hg.out).mono ?_
    rintro e w' ⟨rfl, rfl⟩
    go_wp2
    go_ret2
    rw [Hm.out]
    exact ⟨rfl, Below.refl _ _⟩
  · have hG := good_iff.1 hg
    have hm := mDep_yes hg
    obtain ⟨h1, h2⟩ := oneLevels ao n cap xs w h hG
    have hN := (depN_spec hG).2.1
    generalize depN xs = N at *
    have Hg := Lib.hid hg; clear hg
    have Hm := Lib.hid hm; clear hm
    have HG := Lib.hid hG; clear hG
    have H1 := Lib.hid h1; clear h1
    have H2 := Lib.hid h2; clear h2
    go_enter Tryz.func27, Tryz.ntmps27
    go_wp2_with fail
    with_reducible refine (isPiles_yes _ _ _ _ _ h HG.out).mono ?_
    rintro e w' ⟨rfl, rfl⟩
    go_wp2_with fail
    with_reducible refine (H1.out).mono ?_
    rintro e w1 ⟨a1, c1, rfl, ho1, hb1⟩
    have hcon := H2.out w1 a1 c1 ho1 hb1
    have Hcon := Lib.hid hcon; clear hcon
    clear ho1 hb1
    go_wp2_with fail
    with_reducible refine (Hcon.out).mono ?_
    rintro e w2 ⟨a2, c2, rfl, ⟨lvs, vss, hov, hlv⟩, hb2⟩
    go_wp2
    go_ret2
    rw [Hm.out]
    exact ⟨rfl, hb2⟩
end
end Go.Proofs.YthppkfhhidlpiaaGreat
namespace Go.Proofs.YthppkfhhidlpiaaGreat
section
open Go.RowKit
set_option linter.unusedVariables false
set_option linter.unusedSimpArgs false
set_option maxRecDepth 20000

theorem treeField (b : Bool) (a : Option Addr) (n c : Nat) (W : World) : (Instr.field 59 (.agg #[.slice a n c, .func (.func 93) #[wbV b] #[]]) 1).run Tryz.prog W = .ok (.func (.func 93) #[wbV b] #[]) W := by kernel_rfl
theorem LvX.apart {B E w lvs vss lss} (h : LvX B E w lvs vss lss) {i : Nat} (hi : i < lss.length) : (vss.getD i []).Pairwise apart := by
  have hp := h.ap
  rw [List.pairwise_flatten] at hp
  refine hp.1 _ ?_
  rw [List.getD_eq_getElem?_getD, List.getElem?_eq_getElem (by rw [h.len2]; exact hi)]
  exact List.getElem_mem _
set_option maxHeartbeats 1600000 in
theorem impl_FarthestPast (ao : Option Addr) (n cap : Nat) (xs : List Int) (w : World) (h : IntsAt w ao n cap xs) :
    Calls Tryz.prog 34 #[.slice ao n cap] w fun e w' => ∃ ao' n' cap', e = .returned (.tuple #[.slice ao' n' cap', .bool (mFarthestPast xs).2]) ∧ Own w.heap.size w'.heap.size w' ao' n' cap' (mFarthestPast xs).1 ∧ Below w.heap.size w w' := by
  cases hg : goodB xs
  · have hm := mFarP_no hg
    have Hg := Lib.hid hg; clear hg
    have Hm := Lib.hid hm; clear hm
    go_enter Tryz.func34, Tryz.ntmps34
    go_wp2_with fail
    with_reducible refine (isPiles_no _ _ _ _ _ h Hg.out).mono ?_
    rintro e w' ⟨rfl, rfl⟩
    go_wp2
    go_ret2
    rw [Hm.out]
    exact ⟨none, 0, 0, rfl, Own.nil _ _ _, Below.refl _ _⟩
  · have hG := good_iff.1 hg
    have hm := mFarP_yes hg
    obtain ⟨h1, h2⟩ := oneLevels ao n cap xs w h hG
    obtain ⟨hN1, hN, _, _⟩ := depN_spec hG
    have hfm := far_mem hG
    have hfar : farL xs = (plL xs (depN xs - 1)).getD 0 [] := by unfold farL; exact headD_getD _
    rw [hfar] at hm
    rw [plL_eq] at hm hfm
    have hA : (levs [xs] (depN xs)).getD (depN xs - 1) [] = levL [xs] (depN xs - 1) := levs_getD _ _ _ (by omega)
    have hle : (levL [xs] (depN xs - 1)).length ≤ 3718 := by
      have := plL_le hG (depN xs - 1)
      rw [plL_eq, srt_length] at this; exact this
    have hll := levs_length [xs] (depN xs)
    rw [← hA] at hm hfm hle
    generalize levs [xs] (depN xs) = A at *
    generalize depN xs = N at *
    have Hg := Lib.hid hg; clear hg
    have Hm := Lib.hid hm; clear hm
    have HG := Lib.hid hG; clear hG
    have H1 := Lib.hid h1; clear h1
    have H2 := Lib.hid h2; clear h2
    have Hfar := Lib.hid hfar; clear hfar
    have Hfm := Lib.hid hfm; clear hfm
    have HA := Lib.hid hA; clear hA
    have Hll := Lib.hid hll; clear hll
    go_enter Tryz.func34, Tryz.ntmps34
    go_wp2_with fail
    with_reducible refine (isPiles_yes _ _ _ _ _ h HG.out).mono ?_
    rintro e w' ⟨rfl, rfl⟩
    go_wp2_with fail
    with_reducible refine (H1.out).mono ?_
    rintro e w1 ⟨a1, c1, rfl, ho1, hb1⟩
    have hcon := H2.out w1 a1 c1 ho1 hb1
    have Hcon := Lib.hid hcon; clear hcon
    clear ho1 hb1
    go_wp2_with fail
    with_reducible refine (Hcon.out).mono ?_
    rintro e w2 ⟨a2, c2, rfl, ⟨lvs, vss, hov, hlv⟩, hb2⟩
    have hs2 := hb2.size
    obtain ⟨b, oo, a3, m3, c3, rfl, hbl, hck, _, hs⟩ := lvXRow hov hlv (show N - 1 < N by omega)
    have hap := hlv.apart (i := N - 1) (by rw [Hll.out]; omega)
    have hown := hs.own hap (Nat.le_refl _) (Nat.le_refl _) (Nat.le_refl _) (Nat.le_refl _)
    have hm3 := hown.length
    have eN : ((N - 1 : Nat) : Int) = (N : Int) - 1 := by omega
    have hcon3 := greatestFirst_any _ _ a3 m3 c3 _ w2 hown (by omega) hs2
    generalize hZ : A.getD (N - 1) [] = Z at *
    have Hcon3 := Lib.hid hcon3; clear hcon3
    have Hm3 := Lib.hid hm3; clear hm3
    have Hap := Lib.hid hap; clear hap
    have HZ := Lib.hid hZ; clear hZ
    clear hov hlv hs hown
    go_wp2_with fail
    with_reducible refine (Hcon3.out).mono ?_
    rintro e w4 ⟨rfl, ho4, hb4⟩
    obtain ⟨zs, hz, _⟩ := ho4.sp
    have hpos : 0 < m3 := by
      have h1 := hz.length
      rcases Nat.eq_zero_or_pos m3 with h0 | h0
      · rw [h0] at h1; exact absurd (List.eq_nil_of_length_eq_zero h1) Hfm.out.2
      · exact h0
    obtain ⟨b6, o6, a6, m6, c6, rfl, hbl6, hck6, _, hrow6⟩ := hz.getRow hpos
    rw [Nat.add_zero] at hck6
    have hs4 := hb4.size
    have hbf := hb2.trans hb4
    have Hbf := Lib.hid hbf; clear hbf
    go_wp2
    go_ret2
    rw [Hm.out]
    exact ⟨_, _, _, rfl, hrow6.mono (Nat.le_refl _) hs4, Hbf.out⟩
/-! ### Tables -/
theorem allC_ne : ∀ n, n < 29 → allC n ≠ [] := by decide +kernel
set_option maxHeartbeats 1600000 in
theorem impl_DepthTable (n : Int) (w : World) :
    Calls Tryz.prog 43 #[.int .i64 n] w fun e w' => ∃ ao' n' cap', e = .returned (.tuple #[.slice ao' n' cap', .bool (mDepthTable n).2]) ∧ Own w.heap.size w'.heap.size w' ao' n' cap' (mDepthTable n).1 ∧ Below w.heap.size w w' := by
  have hcon := impl_CyclicPiles n w
  by_cases hn : 0 ≤ n ∧ n ≤ 28
  · obtain ⟨m, rfl⟩ := Int.eq_ofNat_of_zero_le hn.1
    have hm := mDT_yes m (by omega)
    rw [mCyc_yes m (by omega)] at hcon
    have hall := allC_all m (by omega)
    have hne := allC_ne m (by omega)
    rw [depT_levs hall hne] at hm
    have hr := hall.toCyclics.roots
    have hlen0 := levR_length hr 0
    obtain ⟨hN, _, _⟩ := levN_spec hr
    have hlv : ∀ t, t < levN (allC m) → ((levs (allC m) (levN (allC m))).getD t []).length ≤ 3718 := fun t ht => by rw [levs_getD _ _ _ ht]; exact levR_length hr t
    have hll := levs_length (allC m) (levN (allC m))
    have hlev := fun (w1 : World) (a : Option Addr) (k c : Nat) (ho : OwnRows w.heap.size w1.heap.size w1 a k c (allC m)) (hb : w.heap.size ≤ w1.heap.size) => levels_any w.heap.size a k c (allC m) m w1 ho hb hr hne
    have hcl : (allC m).length ≤ 3718 := hlen0
    have hgd : ∀ x ∈ allC m, x.length ≤ 28 := fun x hx => (hr.good x hx).len
    generalize levs (allC m) (levN (allC m)) = A at *
    generalize levN (allC m) = N at *
    generalize allC m = C at *
    have Hn := Lib.hid hn; clear hn
    have Hm := Lib.hid hm; clear hm
    have Hcon := Lib.hid hcon; clear hcon
    have Hall := Lib.hid hall; clear hall
    have Hne := Lib.hid hne; clear hne
    have Hr := Lib.hid hr; clear hr
    have Hlv := Lib.hid hlv; clear hlv
    have Hlev := Lib.hid hlev; clear hlev
    have Hgd := Lib.hid hgd; clear hgd
    have Hll := Lib.hid hll; clear hll
    go_enter Tryz.func43, Tryz.ntmps43
    go_wp2_with fail
    with_reducible refine (Hcon.out).mono ?_
    rintro e w1 ⟨a1, n1, c1, rfl, ho1, hb1⟩
    have hn1 := ho1.length
    have hs1 := hb1.size
    have hcon2 := treesFrom_any a1 n1 c1 C w1 ho1.at (by omega) Hgd.out
    clear ho1
    have Hcon2 := Lib.hid hcon2; clear hcon2
    have Hn1 := Lib.hid hn1; clear hn1
    go_wp2_with fail
    with_reducible refine (Hcon2.out).mono ?_
    rintro e w2 ⟨a2, c2, rfl, ho2, hb2⟩
    have hb12 := belowTrans hb1 hb2 (Nat.le_refl _)
    have hcon3 := Hlev.out w2 a2 n1 c2 (ho2.mono hs1 (Nat.le_refl _)) hb12.size
    clear ho2
    have Hcon3 := Lib.hid hcon3; clear hcon3
    go_wp2_with fail
    with_reducible refine (Hcon3.out).mono ?_
    rintro e w3 ⟨a3, c3, rfl, ⟨lvs, vss, hov, hlvx⟩, hb3⟩
    have hb13 := belowTrans hb12 hb3 (Nat.le_refl _)
    have hs3 := hb13.size
    go_wp2_with fail
    go_loopw [6, 20] (fun v i wr => ∃ (j : Nat) (a : Option Addr) (c : Nat), j ≤ N ∧ i = .int .i64 j ∧ v = .slice a j c ∧ Own w3.heap.size wr.heap.size wr a j c ((A.take j).map (fun l => ((l.length : Nat) : Int))) ∧ Below w3.heap.size w3 wr) (fun _ i _ => N - (intOf i).toNat)
    case atStart => exact ⟨0, none, 0, Nat.zero_le _, rfl, rfl, Own.nil _ _ _, Below.refl _ _⟩
    case round =>
      obtain ⟨j, a, c, hj, rfl, rfl, hv, hb⟩ := hrel
      by_cases hlt : j < N
      · obtain ⟨b, oo, a4, m4, c4, rfl, hbl, hck, _, hs⟩ := lvXRow (hov.keep hb) (hlvx.keep hb) hlt
        have hml := hs.length
        have hl4 := Hlv.out j hlt
        have e := take_snocL hlt Hll.out
        have e2 : (A.take (j + 1)).map (fun l => ((l.length : Nat) : Int)) = (A.take j).map (fun l => ((l.length : Nat) : Int)) ++ [(m4 : Int)] := by rw [e, List.map_append, ← hml]; rfl
        have Hml := Lib.hid hml; clear hml
        have Hl4 := Lib.hid hl4; clear hl4
        have E := Lib.hid e; clear e
        have E2 := Lib.hid e2; clear e2
        clear hs
        go_wp2_with (at_builtin; refine wpList_push wr rfl _ _ rfl w3.heap.size wr.heap.size a j c _ rfl hv _ rfl (by omega) hb.size ?_)
        intro a5 c5 w5 ho5 hc5
        have hb5 := hb.trans (hv.chgBelow hc5 hb.size)
        clear hv hc5
        go_wp2
        go_roundw
        case rel => exact ⟨j + 1, a5, c5, by omega, by go_num, rfl, by rw [E2.out, List.map_take]; exact ho5, hb5⟩
        case measure => simp [intOf]; omega
      · obtain rfl : N = j := by omega
        rw [List.take_of_length_le (by rw [Hll.out]; exact Nat.le_refl _)] at hv
        have hbf := belowTrans hb13 hb (Nat.le_refl _)
        go_wp2
        go_ret2
        rw [Hm.out]
        exact ⟨_, _, _, rfl, hv.mono hs3 (Nat.le_refl _), hbf⟩
  · have hm := mDT_no n hn
    rw [mCyc_no n hn] at hcon
    have Hn := Lib.hid hn; clear hn
    have Hm := Lib.hid hm; clear hm
    have Hcon := Lib.hid hcon; clear hcon
    go_enter Tryz.func43, Tryz.ntmps43
    go_wp2_with fail
    with_reducible refine (Hcon.out).mono ?_
    rintro e w1 ⟨a1, n1, c1, rfl, ho1, hb1⟩
    go_wp2
    go_ret2
    rw [Hm.out]
    exact ⟨none, 0, 0, rfl, Own.nil _ _ _, hb1⟩
end
end Go.Proofs.YthppkfhhidlpiaaGreat
namespace Go.Proofs.YthppkfhhidlpiaaGreat
section
open Go.RowKit
set_option linter.unusedVariables false
set_option linter.unusedSimpArgs false
set_option maxRecDepth 20000

/-! ### IsPastOf -/
set_option maxHeartbeats 800000 in
theorem eqPred_any (ao bo : Option Addr) (n m cap cap' B : Nat) (xs ys : List Int) (w : World) (hx : IntsAt w ao n cap xs) (hy : IntsAt w bo m cap' ys) (hc : w.cell? ⟨B, 0, none⟩ = some (.slice bo m cap')) :
    Calls Tryz.prog 78 #[.slice ao n cap, .pointer (some ⟨B, 0, none⟩)] w fun e w' => e = .returned (.bool (decide (xs = ys))) ∧ Below w.heap.size w w' := by
  have hcon := equal_any ao bo n m cap cap' xs ys w hx hy
  have Hcon := Lib.hid hcon; clear hcon
  go_enter Tryz.func78, Tryz.ntmps78
  go_wp2_with fail
  with_reducible refine (Hcon.out).mono ?_
  rintro e w' ⟨rfl, q, rfl⟩
  go_wp2
  go_ret
  exact ⟨rfl, belowDrewN (Below.refl _ _) q⟩
set_option maxHeartbeats 1600000 in
theorem indexEq_any (ao bo : Option Addr) (n m cap cap' B : Nat) (xss : List (List Int)) (ys : List Int) (w : World) (h : RowsAt w ao n cap xss) (hy : IntsAt w bo m cap' ys) (hB : B < w.heap.size) (hc : w.cell? ⟨B, 0, none⟩ = some (.slice bo m cap')) (hn : n ≤ 4000) :
    Calls Tryz.prog 77 #[.slice ao n cap, .func (.func 78) #[] #[.pointer (some ⟨B, 0, none⟩)]] w fun e w' => ∃ r : Int, e = .returned (.int .i64 r) ∧ ((r = -1 ∧ ∀ j, j < n → xss.getD j [] ≠ ys) ∨ ∃ i : Nat, r = i ∧ i < n ∧ xss.getD i [] = ys ∧ ∀ j, j < i → xss.getD j [] ≠ ys) ∧ Below w.heap.size w w' := by
  have hl := h.length
  have Hl := Lib.hid hl; clear hl
  go_enter Tryz.func77, Tryz.ntmps77
  go_wp2
  go_loopw [8] (fun i wr => ∃ j : Nat, j ≤ n ∧ i = .int .i64 j ∧ (∀ q, q < j → xss.getD q [] ≠ ys) ∧ Below w.heap.size w wr) (fun i _ => n - (intOf i).toNat)
  case atStart => exact ⟨0, Nat.zero_le _, rfl, fun q hq => absurd hq (Nat.not_lt_zero _), Below.refl _ _⟩
  case round =>
    obtain ⟨j, hj, rfl, hall, hb⟩ := hrel
    by_cases hlt : j < n
    · obtain ⟨b, oo, rfl, hbl, hcc⟩ := (h.keep hb).cell j hlt
      obtain ⟨a3, m3, c3, hck, hi3⟩ := hcc j hlt
      clear hcc
      have hcB : wr.cell? ⟨B, 0, none⟩ = some (.slice bo m cap') := by rw [hb.cell (p := ⟨B, 0, none⟩) hB]; exact hc
      generalize hx : xss.getD j [] = x at *
      have hcon := eqPred_any a3 bo m3 m c3 cap' B x ys wr hi3 (hy.keep hb) hcB
      by_cases he : x = ys
      · rw [decide_eq_true he] at hcon
        have Hcon := Lib.hid hcon; clear hcon
        have Hx := Lib.hid hx; clear hx
        have He := Lib.hid he; clear he
        have Hall := Lib.hid hall; clear hall
        go_wp2_with fail
        with_reducible refine (Hcon.out).mono ?_
        rintro e w2 ⟨rfl, hb2⟩
        have hbf := belowTrans hb hb2 (Nat.le_refl _)
        go_wp2
        go_ret
        exact ⟨_, rfl, .inr ⟨j, rfl, hlt, by rw [Hx.out]; exact He.out, Hall.out⟩, hbf⟩
      · rw [decide_eq_false he] at hcon
        have Hcon := Lib.hid hcon; clear hcon
        have Hx := Lib.hid hx; clear hx
        have He := Lib.hid he; clear he
        have Hall := Lib.hid hall; clear hall
        go_wp2_with fail
        with_reducible refine (Hcon.out).mono ?_
        rintro e w2 ⟨rfl, hb2⟩
        have hbf := belowTrans hb hb2 (Nat.le_refl _)
        go_wp2
        go_roundw
        case rel =>
          refine ⟨j + 1, by omega, by go_num, fun q hq => ?_, hbf⟩
          by_cases e : q = j
          · subst e; rw [Hx.out]; exact He.out
          · exact Hall.out q (by omega)
        case measure => simp [intOf]; omega
    · obtain rfl : n = j := by omega
      have Hall := Lib.hid hall; clear hall
      go_wp2
      go_ret
      exact ⟨_, rfl, .inl ⟨rfl, Hall.out⟩, hb⟩
set_option maxHeartbeats 3200000 in
theorem impl_IsPastOf (ao : Option Addr) (n cap : Nat) (xs : List Int) (bo : Option Addr) (m cap' : Nat) (ys : List Int) (w : World) (hx : IntsAt w ao n cap xs) (hy : IntsAt w bo m cap' ys) :
    Calls Tryz.prog 38 #[.slice ao n cap, .slice bo m cap'] w fun e w' => e = .returned (.tuple #[.int .i64 (mIsPastOf xs ys).1, .bool (mIsPastOf xs ys).2]) ∧ Below w.heap.size w w' := by
  have hba := belowAlloc w (.cells #[.slice bo m cap'] 27)
  have hxa := hx.keep hba
  have hya := hy.keep hba
  have hsz : (w.alloc (.cells #[.slice bo m cap'] 27)).heap.size = w.heap.size + 1 := by simp
  have hcell : ∀ W, Below (w.heap.size + 1) (w.alloc (.cells #[.slice bo m cap'] 27)) W → W.cell? ⟨w.heap.size, 0, none⟩ = some (.slice bo m cap') := fun W hW => by
    rw [hW.cell (p := ⟨w.heap.size, 0, none⟩) (by show w.heap.size < _; omega), World.cell?_alloc_at _ _ _ _ rfl]; rfl
  have hc0 := hcell _ (Below.refl _ _)
  cases hg : goodB xs
  · have hm := mIPO_no1 (y := ys) hg
    have Hg := Lib.hid hg; clear hg
    have Hm := Lib.hid hm; clear hm
    have Hba := Lib.hid hba; clear hba
    have Hcell := Lib.hid hcell; clear hcell
    have Hsz := Lib.hid hsz; clear hsz
    go_enter Tryz.func38, Tryz.ntmps38
    go_wp2_with fail
    with_reducible refine (isPiles_no _ _ _ _ _ hxa Hg.out).mono ?_
    rintro e w' ⟨rfl, rfl⟩
    go_wp2
    go_ret2
    rw [Hm.out]
    exact ⟨rfl, Hba.out⟩
  cases hg2 : goodB ys
  · have hm := mIPO_no2 (x := xs) hg2
    have Hg := Lib.hid hg; clear hg
    have Hg2 := Lib.hid hg2; clear hg2
    have Hm := Lib.hid hm; clear hm
    have Hba := Lib.hid hba; clear hba
    have Hcell := Lib.hid hcell; clear hcell
    have Hsz := Lib.hid hsz; clear hsz
    go_enter Tryz.func38, Tryz.ntmps38
    go_wp2_with fail
    with_reducible refine (isPiles_yes _ _ _ _ _ hxa (good_iff.1 Hg.out)).mono ?_
    rintro e w' ⟨rfl, rfl⟩
    go_wp2_with fail
    with_reducible refine (isPiles_no _ _ _ _ _ hya Hg2.out).mono ?_
    rintro e w' ⟨rfl, rfl⟩
    go_wp2
    go_ret2
    rw [Hm.out]
    exact ⟨rfl, Hba.out⟩
  have hG := good_iff.1 hg
  have hG2 := good_iff.1 hg2
  have hyes := fun k => mIPO_yes (x := xs) (y := ys) (k := k) hg hg2
  have hno := mIPO_none (x := xs) (y := ys) hg hg2
  have hcon := impl_TailOf ao n cap xs _ hxa
  rw [mTail_yes hg] at hcon
  have hcon2 := fun W hh => impl_CycleLength ao n cap xs W hh
  have hcl : (cycL xs).length = perL (endL xs) := by unfold cycL; rw [runL_length]
  rw [mCycleL_yes hg, hcl] at hcon2
  have hper := perL_spec (endL_good hG) (endL_cyc hG)
  have hh7 := hL_le (endL xs)
  have h42 := tail42 hG
  have hp1 := hper.1
  have hp2 := hper.2.1
  have hplay := fun (k : Nat) (hk : k ≤ 1000) W hh => by have := impl_PlayOf ao n cap xs (k : Int) W hh; rw [mPlay_yes hg hk] at this; exact this
  generalize tailL xs = T at *
  generalize perL (endL xs) = Pe at *
  have hTP : T + Pe - 1 ≤ 1000 := by omega
  have ecast : ((T + Pe - 1 : Nat) : Int) = (T : Int) + Pe - 1 := by omega
  have hpl := hplay (T + Pe - 1) hTP
  rw [ecast] at hpl
  have hgd : ∀ i, i < T + Pe → (playL (T + Pe - 1) xs).getD i [] = stepsL i xs := fun i hi => playL_getD _ i xs (by omega)
  have hll : (playL (T + Pe - 1) xs).length = T + Pe := by rw [playL_length]; omega
  generalize playL (T + Pe - 1) xs = Q at *
  clear hplay hper ecast
  have Hg := Lib.hid hg; clear hg
  have Hg2 := Lib.hid hg2; clear hg2
  have HG := Lib.hid hG; clear hG
  have HG2 := Lib.hid hG2; clear hG2
  have Hcon := Lib.hid hcon; clear hcon
  have Hcon2 := Lib.hid hcon2; clear hcon2
  have Hyes := Lib.hid hyes; clear hyes
  have Hno := Lib.hid hno; clear hno
  have Hcl := Lib.hid hcl; clear hcl
  have Hpl := Lib.hid hpl; clear hpl
  have Hgd := Lib.hid hgd; clear hgd
  have Hll := Lib.hid hll; clear hll
  have Hba := Lib.hid hba; clear hba
  have Hcell := Lib.hid hcell; clear hcell
  have Hsz := Lib.hid hsz; clear hsz
  go_enter Tryz.func38, Tryz.ntmps38
  go_wp2_with fail
  with_reducible refine (isPiles_yes _ _ _ _ _ hxa HG.out).mono ?_
  rintro e w' ⟨rfl, rfl⟩
  go_wp2_with fail
  with_reducible refine (isPiles_yes _ _ _ _ _ hya HG2.out).mono ?_
  rintro e w' ⟨rfl, rfl⟩
  go_wp2_with fail
  with_reducible refine (Hcon.out).mono ?_
  rintro e w1 ⟨rfl, hb1⟩
  have hx1 := hxa.keep hb1
  have hy1 := hya.keep hb1
  have hk2 := Hcon2.out w1 hx1
  have hb1' := hb1.mono (show w.heap.size + 1 ≤ _ by rw [Hsz.out]; exact Nat.le_refl _)
  clear hb1 hc0
  have Hk2 := Lib.hid hk2; clear hk2
  go_wp2_with fail
  with_reducible refine (Hk2.out).mono ?_
  rintro e w2 ⟨rfl, hb2⟩
  have hx2 := hx1.keep hb2
  have hy2 := hy1.keep hb2
  have hk3 := Hpl.out w2 hx2
  have hb2' := belowTrans hb1' hb2 (by rw [Hsz.out]; exact Nat.le_refl _)
  clear hb1' hb2
  have Hk3 := Lib.hid hk3; clear hk3
  go_wp2_with fail
  with_reducible refine (Hk3.out).mono ?_
  rintro e w3 ⟨a3, n3, c3, rfl, ho3, hb3⟩
  have hn3 := ho3.length
  have hb3' := belowTrans hb2' hb3 (by rw [Hsz.out]; exact Nat.le_refl _)
  have hcB := (Hcell.out) w3 hb3'
  have hB3 : w.heap.size < w3.heap.size := by have := hb3'.size; rw [Hsz.out] at this; omega
  have hn4 : n3 = T + Pe := by rw [← hn3]; exact Hll.out
  have hk4 := indexEq_any a3 bo n3 m c3 cap' w.heap.size Q ys w3 ho3.at (hy2.keep hb3) hB3 hcB (by omega)
  clear hb2' hb3 ho3
  have Hk4 := Lib.hid hk4; clear hk4
  have Hn3 := Lib.hid hn3; clear hn3
  have Hn4 := Lib.hid hn4; clear hn4
  go_wp2_with fail
  with_reducible refine (Hk4.out).mono ?_
  rintro e w4 ⟨r, rfl, hr, hb4⟩
  have hbf := (Hba.out).trans ((belowTrans hb3' hb4 (by rw [Hsz.out]; exact Nat.le_refl _)).mono (by omega))
  rcases hr with ⟨rfl, hnone⟩ | ⟨i, rfl, hi, he, hbe⟩
  · have hm := Hno.out fun k hk => by rw [← Hgd.out k hk]; exact hnone k (by rw [Hn4.out]; exact hk)
    have Hm := Lib.hid hm; clear hm
    have Hnone := Lib.hid hnone; clear hnone
    have Hbf := Lib.hid hbf; clear hbf
    go_wp2
    go_ret2
    rw [Hm.out]
    exact ⟨rfl, Hbf.out⟩
  · have hi' : i < T + Pe := by rw [← Hn4.out]; exact hi
    have hm := Hyes.out i (by rw [← Hgd.out i hi']; exact he) (fun j hj => by rw [← Hgd.out j (by omega)]; exact hbe j hj) hi'
    have Hm := Lib.hid hm; clear hm
    have He := Lib.hid he; clear he
    have Hbe := Lib.hid hbe; clear hbe
    have Hbf := Lib.hid hbf; clear hbf
    go_wp2
    go_ret2
    rw [Hm.out]
    exact ⟨rfl, Hbf.out⟩
end
end Go.Proofs.YthppkfhhidlpiaaGreat
