/- slices.DeleteFunc over piles, and the pasts on a way back. No condition. -/
import Derived.Test.YtaebdafjbkadlaaPaD
namespace Go.Proofs.Ytaebdafjbkadlaa
open Go.RowKit
set_option linter.unusedVariables false
set_option linter.unusedSimpArgs false
set_option maxRecDepth 20000

theorem filtV_all {vs : List Value} {xss : List (List Int)} (hl : vs.length = xss.length) (h : ∀ x ∈ xss, cycB x = false) : filtV vs xss = vs := by
  unfold filtV
  have h1 : (vs.zip xss).filter (fun p => !cycB p.2) = vs.zip xss := by
    rw [List.filter_eq_self]
    intro p hp
    rw [h p.2 (List.of_mem_zip hp).2]; rfl
  rw [h1, List.map_fst_zip (by omega)]
theorem filter_loose_all {xss : List (List Int)} (h : ∀ x ∈ xss, cycB x = false) : xss.filter (fun x => !cycB x) = xss := by
  rw [List.filter_eq_self]; intro x hx; rw [h x hx]; rfl
theorem slFromG (g n cap lo : Nat) (h1 : lo < n) (h2 : n ≤ cap) (k : IntKind) (w : World) : (Instr.sliceAt 25 (.slice (some ⟨g, 0, none⟩) n cap) (some (.int k (lo : Int))) none none).run Try.prog w = .ok (.slice (some ⟨g, lo, none⟩) (n - lo) (cap - lo)) w := by
  have hrun := run_slice_l (P := Try.prog) (w := w) 25 (some ⟨g, 0, none⟩) n cap Try.underlying25 k (lo : Int) (by omega) (by omega)
  rw [sizeInts] at hrun
  rw [run_sliceAt_slice _ _ _ _ _ _ Try.underlying25, hrun]
  have : ¬ cap = lo := by omega
  simp [Result.andThen, sliced, this, Addr.add_lit]
theorem slUptoG (g n cap hi : Nat) (h1 : hi ≤ n) (h2 : n ≤ cap) (h3 : 0 < cap) (k : IntKind) (w : World) : (Instr.sliceAt 25 (.slice (some ⟨g, 0, none⟩) n cap) none (some (.int k (hi : Int))) none).run Try.prog w = .ok (.slice (some ⟨g, 0, none⟩) hi cap) w := by
  have hrun := run_slice_h (P := Try.prog) (w := w) 25 (some ⟨g, 0, none⟩) n cap Try.underlying25 k (hi : Int) (by omega) (by omega)
  rw [sizeInts] at hrun
  rw [run_sliceAt_slice _ _ _ _ _ _ Try.underlying25, hrun]
  have : ¬ cap = 0 := by omega
  simp [Result.andThen, sliced, this, Addr.add_lit]
theorem clear_run (w : World) (B E : Nat) (g i n cap c2 : Nat) (us : List Value) (hown : OwnRow B E w 31 (some ⟨g, 0, none⟩) n cap us) (hi : i < n) (ty : TypeId) :
    ∃ w', (Builtin.clear_ #[25] ty #[.slice (some ⟨g, i, none⟩) (n - i) c2]).run Try.prog w = .ok (.tuple #[]) w' ∧ OwnRow B E w' 31 (some ⟨g, 0, none⟩) i cap (us.take i) ∧ Chg (fun k => k = g) w w' := by
  obtain ⟨us', h1, h2, h3⟩ := setCells_own g (List.replicate (n - i) (Value.slice none 0 0)) i w us hown
  have hl := hown.length
  have hr := Lib.run_clear_slice (P := Try.prog) w 25 31 ty (.slice none 0 0) Try.underlying25 zeroInts rfl rfl g i (n - i) c2 (by omega) (fun j hj => by
      rw [World.ownsRow.cellAt hown.1 (i + j) (by omega), List.getElem?_eq_getElem (by omega)]; rfl) (fun j hj => World.ownsRow.frozenAt hown.1 (i + j))
  refine ⟨_, hr, ?_, h3⟩
  rw [← h2]
  exact h1.cut (by omega)
theorem OwnRow.capLe {B E w ty ao n cap vs} (h : OwnRow B E w ty ao n cap vs) : n ≤ cap := h.at.le

set_option maxHeartbeats 3200000 in
theorem delLoose_any (B E : Nat) (ao : Option Addr) (n cap : Nat) (xss : List (List Int)) (w : World) (h : OwnRows B E w ao n cap xss) (hG : ∀ x ∈ xss, Good x) (hn : n ≤ 4000) (hE : E ≤ w.heap.size) (hB : B ≤ w.heap.size) :
    Calls Try.prog 128 #[.slice ao n cap, looseF] w fun e w' => ∃ m, e = .returned (.slice ao m cap) ∧ OwnRows B E w' ao m cap (xss.filter fun x => !cycB x) ∧ Below B w w' := by
  have hl := h.length
  have hcon := indexLoose_any ao n cap xss w h.at hG hn
  have Hcon := Lib.hid hcon; clear hcon
  have HG := Lib.hid hG; clear hG
  have Hl := Lib.hid hl; clear hl
  unfold looseF at *
  go_enter Try.func128, Try.ntmps128
  go_wp2_with fail
  with_reducible refine (Hcon.out).mono ?_
  rintro e w1 ⟨r, rfl, ⟨rfl, hall⟩ | ⟨i0, rfl, hi0, hc0, hall⟩, hb1⟩
  · have hfe := filter_loose_all hall
    have hk := h.keep hb1
    rw [← hfe] at hk
    have Hfe := Lib.hid hfe; clear hfe
    have Hall := Lib.hid hall; clear hall
    have Hk := Lib.hid hk; clear hk
    go_wp2
    go_ret
    exact ⟨_, rfl, Hk.out, hb1.mono hB⟩
  · obtain ⟨vs, hsp, hap⟩ := h.sp
    have hvl := hsp.spine.length
    obtain ⟨hz, hrest⟩ | ⟨g, rfl, hg, hgE, hgw⟩ := hsp.spine.cases
    · omega
    have hcap := hsp.spine.capLe
    have hne1 : ((i0 : Int) == -1) = false := by rw [beq_eq_false_iff_ne]; omega
    have hstart : vs.take i0 = filtV (vs.take (i0 + 1)) (xss.take (i0 + 1)) := by
      have e1 : vs.take (i0 + 1) = vs.take i0 ++ [vs.getD i0 undef] := by
        rw [List.take_add_one, List.getElem?_eq_getElem (by omega), List.getD_eq_getElem?_getD, List.getElem?_eq_getElem (by omega)]; rfl
      rw [e1, take_snocX hi0 Hl.out, filtV_snoc (by rw [List.length_take, List.length_take, hvl, Hl.out]), hc0, filtV_all (by rw [List.length_take, List.length_take, hvl, Hl.out]) hall]
      simp
    have hsp1 := hsp.keep hb1
    have hbB := hb1.mono hB
    have hi0I : (i0 : Int) + 1 ≤ 4000 := by omega
    clear hsp h hb1
    have Hall := Lib.hid hall; clear hall
    have Hc0 := Lib.hid hc0; clear hc0
    have Hap := Lib.hid hap; clear hap
    have Hstart := Lib.hid hstart; clear hstart
    have Hvl := Lib.hid hvl; clear hvl
    go_wp2_with fail
    go_loopw [5, 6] (fun a b wr => ∃ (i j : Nat) (us : List Value), i < j ∧ j ≤ n ∧ a = .int .i64 i ∧ b = .int .i64 j ∧ OwnRow B E wr 31 (some ⟨g, 0, none⟩) n cap us ∧ us.take i = filtV (vs.take j) (xss.take j) ∧ us.drop j = vs.drop j ∧ RowsW B E wr vs xss ∧ Below B w wr) (fun _ b _ => n - (intOf b).toNat)
    case atStart => exact ⟨i0, i0 + 1, vs, by omega, by omega, rfl, by go_num, hsp1.spine, Hstart.out, rfl, hsp1.rows, hbB⟩
    case round =>
      obtain ⟨i, j, us, hij, hj, rfl, rfl, hov, htk, hdr, hrv, hb⟩ := hrel
      clear hsp1 hbB
      have hul := hov.length
      have hsz := hb.size
      by_cases hlt : j < n
      · have hck := World.ownsRow.cellAt hov.1 j (by omega)
        have huj : us[j]? = vs[j]? := by
          have h1 := congrArg (fun l => l[0]?) hdr
          simpa [List.getElem?_drop] using h1
        obtain ⟨a3, m3, c3, e3, hrow⟩ := hrv.row j (by rw [Hl.out]; exact hlt)
        have hvj : vs[j]? = some (.slice a3 m3 c3) := by
          rw [List.getD_eq_getElem?_getD] at e3
          rw [List.getElem?_eq_getElem (by rw [Hvl.out]; exact hlt)] at e3 ⊢
          simpa using e3
        rw [huj, hvj] at hck
        have hgx := HG.out _ (getD_memR hlt Hl.out)
        have htx := take_snocX hlt Hl.out
        have htv : vs.take (j + 1) = vs.take j ++ [.slice a3 m3 c3] := by rw [List.take_add_one, hvj]; rfl
        have hfs := filtV_snoc (v := .slice a3 m3 c3) (x := xss.getD j []) (vs := vs.take j) (xss := xss.take j) (by rw [List.length_take, List.length_take, Hvl.out, Hl.out])
        rw [← htv, ← htx] at hfs
        have hdr1 : us.drop (j + 1) = vs.drop (j + 1) := by
          have := congrArg (List.drop 1) hdr
          rwa [List.drop_drop, List.drop_drop] at this
        generalize xss.getD j [] = x at *
        have hcon := loosePred_any a3 m3 c3 x wr hrow.at hgx
        cases hcb : cycB x
        · rw [hcb] at hcon hfs
          simp only [Bool.false_eq_true, if_false] at hfs
          have Hcon := Lib.hid hcon; clear hcon
          have Hgx := Lib.hid hgx; clear hgx
          have Hcb := Lib.hid hcb; clear hcb
          have Htx := Lib.hid htx; clear htx
          have Htv := Lib.hid htv; clear htv
          have Hfs := Lib.hid hfs; clear hfs
          have Huj := Lib.hid huj; clear huj
          have Hvj := Lib.hid hvj; clear hvj
          have E3 := Lib.hid e3; clear e3
          have Hdr := Lib.hid hdr; clear hdr
          have Hdr1 := Lib.hid hdr1; clear hdr1
          have Htk := Lib.hid htk; clear htk
          have Hul := Lib.hid hul; clear hul
          go_wp2_with fail
          with_reducible refine (Hcon.out).mono ?_
          rintro e w2 ⟨rfl, hb2⟩
          have hov2 := hov.keep hb2
          have hrv2 := hrv.keep hb2
          have hck2 := World.ownsRow.cellAt hov2.1 i (by omega)
          obtain ⟨u, hu⟩ : ∃ u, us[i]? = some u := ⟨_, List.getElem?_eq_getElem (by have := Hul.out; omega)⟩
          rw [hu] at hck2
          have hfz := World.ownsRow.frozenAt hov2.1 i
          obtain ⟨hst1, hst2⟩ := World.ownsRow.stored hov2.1 i (.slice a3 m3 c3)
          have hst : OwnRow B E (w2.setCell ⟨g, i, none⟩ (.slice a3 m3 c3)) 31 (some ⟨g, 0, none⟩) n cap (us.set i (.slice a3 m3 c3)) := ⟨hst1, hov2.2⟩
          have hch : Chg (fun q => (Value.slice (some ⟨g, 0, none⟩) n cap).ownBlock = some q) w2 (w2.setCell ⟨g, i, none⟩ (.slice a3 m3 c3)) := (Chg.ofGrown hst2).mono (fun k hk => by simpa [Value.ownBlock] using hk.symm)
          have hrv3 := hrv2.chgSpine hov2 hch
          have hb3 : Below B w (w2.setCell ⟨g, i, none⟩ (.slice a3 m3 c3)) := (belowTrans hb hb2 hB).setCell hg _
          have htk3 : (us.set i (.slice a3 m3 c3)).take (i + 1) = filtV (vs.take (j + 1)) (xss.take (j + 1)) := by
            rw [Hfs.out, ← Htk.out, List.take_add_one, List.take_set_of_le (Nat.le_refl _), List.getElem?_set_self (by have := Hul.out; omega)]; rfl
          have hdr3 : (us.set i (.slice a3 m3 c3)).drop (j + 1) = vs.drop (j + 1) := by rw [List.drop_set_of_lt (by omega)]; exact Hdr1.out
          have Hst := Lib.hid hst; clear hst
          have Htk3 := Lib.hid htk3; clear htk3
          have Hdr3 := Lib.hid hdr3; clear hdr3
          have Hrv3 := Lib.hid hrv3; clear hrv3
          have Hb3 := Lib.hid hb3; clear hb3
          have Hu := Lib.hid hu; clear hu
          clear hst1 hst2 hch hov hov2 hrv hrv2 hb hb2 hrow
          go_wp2
          go_roundw
          case rel => exact ⟨i + 1, j + 1, _, by omega, by omega, by go_num, by go_num, Hst.out, Htk3.out, Hdr3.out, Hrv3.out, Hb3.out⟩
          case measure => simp [intOf]; omega
        · rw [hcb] at hcon hfs
          simp only [if_true, List.append_nil] at hfs
          rw [← hfs] at htk
          have Hcon := Lib.hid hcon; clear hcon
          have Hgx := Lib.hid hgx; clear hgx
          have Hcb := Lib.hid hcb; clear hcb
          have Htx := Lib.hid htx; clear htx
          have Htv := Lib.hid htv; clear htv
          have Hfs := Lib.hid hfs; clear hfs
          have Huj := Lib.hid huj; clear huj
          have Hvj := Lib.hid hvj; clear hvj
          have E3 := Lib.hid e3; clear e3
          have Hdr := Lib.hid hdr; clear hdr
          have Hdr1 := Lib.hid hdr1; clear hdr1
          have Htk := Lib.hid htk; clear htk
          have Hul := Lib.hid hul; clear hul
          go_wp2_with fail
          with_reducible refine (Hcon.out).mono ?_
          rintro e w2 ⟨rfl, hb2⟩
          have hov2 := hov.keep hb2
          have hrv2 := hrv.keep hb2
          have hb3 := belowTrans hb hb2 hB
          clear hov hrv hb hb2 hrow
          go_wp2
          go_roundw
          case rel => exact ⟨i, j + 1, us, by omega, by omega, rfl, by go_num, hov2, Htk.out, Hdr1.out, hrv2, hb3⟩
          case measure => simp [intOf]; omega
      · obtain rfl : n = j := by omega
        rw [List.take_of_length_le (l := vs) (by rw [Hvl.out]; exact Nat.le_refl _), take_allR Hl.out] at htk
        have hs1 := slFromG g n cap i hij hcap .i64
        have hs2 := slUptoG g n cap i (by omega) hcap (by omega) .i64
        have hnm : n - i < 9223372036854775807 := by omega
        have Htk := Lib.hid htk; clear htk
        have Hdr := Lib.hid hdr; clear hdr
        have Hul := Lib.hid hul; clear hul
        obtain ⟨w3, hclr, hov3, hc3⟩ := clear_run wr B E g i n cap (cap - i) us hov hij 0
        have hch : Chg (fun q => (Value.slice (some ⟨g, 0, none⟩) n cap).ownBlock = some q) wr w3 := hc3.mono (fun k hk => by simp [hk, Value.ownBlock])
        have hrv3 := filtV_rows vs xss (hrv.chgSpine hov hch)
        have hb3 : Below B w w3 := hb.trans (hc3.below (by omega) (fun k hk => by omega))
        rw [Htk.out] at hov3
        have hfin : OwnRows B E w3 (some ⟨g, 0, none⟩) i cap (xss.filter fun x => !cycB x) := (Sp.mk hov3 hrv3).own (Hap.out.sublist (filtV_sub vs xss (by rw [Hvl.out, Hl.out]))) (Nat.le_refl _) (Nat.le_refl _) (Nat.le_refl _) (Nat.le_refl _)
        have Hfin := Lib.hid hfin; clear hfin
        clear hov hrv hrv3 hov3 hc3 hch
        go_wp2
        go_ret
        exact ⟨_, rfl, Hfin.out, hb3⟩

/-! ### The pasts on a way back -/
def wbV (b : Bool) : Value := .agg #[.bool b]
def wayL (b : Bool) (xs : List Int) : List (List Int) := if b then loosePasts xs else pastsL xs
theorem wayL_good {b : Bool} {xs p : List Int} (hg : Good xs) (h : p ∈ wayL b xs) : Good p := by
  cases b
  · exact ((mem_pastsG hg).1 h).1
  · exact loose_good hg h
theorem wayL_len (b : Bool) {xs : List Int} (hg : Good xs) : (wayL b xs).length ≤ 29 := by
  cases b
  · have := pastsL_length xs; have := hg.len; show (pastsL xs).length ≤ 29; omega
  · exact loose_len hg
set_option maxHeartbeats 1600000 in
theorem wayPasts_any (b : Bool) (ao : Option Addr) (n cap : Nat) (xs : List Int) (w : World) (h : IntsAt w ao n cap xs) (hg : Good xs) :
    Calls Try.prog 94 #[wbV b, .slice ao n cap] w fun e w' => ∃ ao' m c, e = .returned (.slice ao' m c) ∧ OwnRows w.heap.size w'.heap.size w' ao' m c (wayL b xs) ∧ Below w.heap.size w w' := by
  have hP : ∀ x ∈ pastsL xs, Good x := fun x hx => ((mem_pastsG hg).1 hx).1
  have hpl : (pastsL xs).length ≤ 29 := by have := pastsL_length xs; have := hg.len; omega
  have hy := mPasts_yes (good_iff.2 hg)
  unfold wbV
  cases b
  · have hw : wayL false xs = pastsL xs := rfl
    rw [hw]
    have hcon := fun W hh => impl_PastsOf ao n cap xs W hh
    rw [hy] at hcon
    generalize pastsL xs = P at *
    have Hcon := Lib.hid hcon; clear hcon
    have HP := Lib.hid hP; clear hP
    have Hg := Lib.hid hg; clear hg
    have Hy := Lib.hid hy; clear hy
    go_enter Try.func94, Try.ntmps94
    go_wp2_with fail
    with_reducible refine (Hcon.out _ (h.keep (belowAlloc w _))).mono ?_
    rintro e w1 ⟨a1, n1, c1, rfl, ho1, hb1⟩
    have hs1 := hb1.size
    have hba := belowAlloc w (.cells #[.bool false] 74)
    have hcell : w1.cell? ⟨w.heap.size, 0, none⟩ = some (.bool false) := by
      rw [hb1.cell (p := ⟨w.heap.size, 0, none⟩) (by simp), World.cell?_alloc_at _ _ _ _ rfl]; rfl
    go_wp2
    go_ret
    exact ⟨_, _, _, rfl, ho1.mono (by simp) (Nat.le_refl _), belowTrans hba hb1 (Nat.le_refl _)⟩
  · have hw : wayL true xs = (pastsL xs).filter fun p => !cycB p := rfl
    rw [hw]
    have hcon := fun W hh => impl_PastsOf ao n cap xs W hh
    rw [hy] at hcon
    generalize pastsL xs = P at *
    have Hcon := Lib.hid hcon; clear hcon
    have HP := Lib.hid hP; clear hP
    have Hg := Lib.hid hg; clear hg
    have Hy := Lib.hid hy; clear hy
    go_enter Try.func94, Try.ntmps94
    go_wp2_with fail
    with_reducible refine (Hcon.out _ (h.keep (belowAlloc w _))).mono ?_
    rintro e w1 ⟨a1, n1, c1, rfl, ho1, hb1⟩
    have hs1 := hb1.size
    have hn1 := ho1.length
    have hba := belowAlloc w (.cells #[.bool true] 74)
    have hcell : w1.cell? ⟨w.heap.size, 0, none⟩ = some (.bool true) := by
      rw [hb1.cell (p := ⟨w.heap.size, 0, none⟩) (by simp), World.cell?_alloc_at _ _ _ _ rfl]; rfl
    have hdel := delLoose_any _ _ a1 n1 c1 P w1 ho1 HP.out (by omega) (Nat.le_refl _) hb1.size
    unfold looseF at hdel
    have Hdel := Lib.hid hdel; clear hdel
    have Hn1 := Lib.hid hn1; clear hn1
    go_wp2_with fail
    with_reducible refine (Hdel.out).mono ?_
    rintro e w2 ⟨m2, rfl, ho2, hb2⟩
    have hs2 := hb2.size
    go_wp2
    go_ret
    exact ⟨_, _, _, rfl, ho2.mono (by simp) hs2, (belowTrans hba hb1 (Nat.le_refl _)).trans (hb2.mono (by simp))⟩
end Go.Proofs.Ytaebdafjbkadlaa
