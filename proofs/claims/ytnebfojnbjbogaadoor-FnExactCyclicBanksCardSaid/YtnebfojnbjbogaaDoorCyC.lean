/- The values of a map of bank states, in order; what a step makes of bank states, each only once. No condition. -/
import Derived.Test.YtnebfojnbjbogaaDoorCyB
namespace Go.Proofs.YtnebfojnbjbogaaDoor
open Go.RowKit Go.Maps Go.Sort
set_option linter.unusedVariables false
set_option linter.unusedSimpArgs false
set_option maxRecDepth 20000

theorem sortNone_any (p : Option Addr) (cap : Nat) (w : World) :
    Calls Tryd.prog 76 #[.slice p 0 cap, .func (.func 63) #[] #[]] w fun e w' => e = .returned (.tuple #[]) ∧ w = w' := by
  have hcon := AnyF.slices_SortFunc_none (P := Tryd.prog) (ρ := Tryd.sortB_ren) Tryd.sortB p cap (.func (.func 63) #[] #[]) w
  change Calls Tryd.prog 76 _ _ _ at hcon
  exact hcon.mono fun e w' ⟨h1, h2⟩ => ⟨h1, h2.symm⟩
/-- sorted, at any length -/
theorem sortAny_any (B E C D : Nat) (ao : Option Addr) (p cap : Nat) (V : Bk → Value) (bs : List Bk) (w : World) (h : Row3 B E w ao p cap (cellsB V bs)) (hl : bs.length = p) (hV : ∀ b ∈ bs, ∃ a k c, V b = .slice a k c ∧ Own C D w a k c b.p) (hm : p ≤ 1048576) :
    Calls Tryd.prog 76 #[.slice ao p cap, .func (.func 63) #[] #[]] w fun e w' =>
      e = .returned (.tuple #[]) ∧ ∃ cs, cs.Perm bs ∧ srtK cs ∧ Row3 B E w' ao p cap (cellsB V cs) ∧ Chg (fun k => (Value.slice ao p cap).ownBlock = some k) w w' := by
  cases p with
  | zero =>
    have hb : bs = [] := List.eq_nil_of_length_eq_zero hl
    subst hb
    exact (sortNone_any ao cap w).mono fun e w' ⟨h1, h2⟩ => ⟨h1, [], List.Perm.refl _, List.Pairwise.nil, by rw [← h2]; exact h, by rw [← h2]; exact ⟨rfl, rfl, rfl, Nat.le_refl _, fun _ _ _ => rfl⟩⟩
  | succ m =>
    rcases h.cases with ⟨_, h0, _⟩ | ⟨g, rfl, _⟩
    · omega
    · exact (sortBanks_any B E C D g m cap V bs w h hl hV (by omega)).mono fun e w' ⟨h1, cs, h2, h3, h4, h5⟩ => ⟨h1, cs, h2, h3, h4, h5.mono fun k hk => by subst hk; rfl⟩
set_option maxHeartbeats 3200000 in
set_option maxRecDepth 100000 in
theorem valuesInOrder_any (B E g n : Nat) (D : DataW Value) (S : List Bk) (V : Bk → Value) (w : World) (h : MapB B E w g n D S V) (hn : n ≤ 4000) (hB : B ≤ w.heap.size) (hE : E ≤ w.heap.size) :
    Calls Tryd.prog 62 #[.map (some g), .func (.func 63) #[] #[]] w fun e w' => ∃ ao m cap cs, e = .returned (.slice ao m cap) ∧ srtK cs ∧ cs.Nodup ∧ (∀ b, b ∈ cs ↔ b ∈ S) ∧ BksOwn B w'.heap.size w' ao m cap cs ∧ Below w.heap.size w w' := by
  have hgl := h.own.lt
  have hown := h.own
  have hsz := hown.size_le
  have hyes := h.yes
  have hno := h.no
  have hok := h.ok
  have hrows := h.rows
  have hfar := h.far
  clear h
  have Hyes := Lib.hid hyes; clear hyes
  have Hno := Lib.hid hno; clear hno
  have Hok := Lib.hid hok; clear hok
  have Hrows := Lib.hid hrows; clear hrows
  have Hfar := Lib.hid hfar; clear hfar
  go_enter Tryd.func62, Tryd.ntmps62
  go_wp2_with (first | (at_range; refine wpList_range_own _ rfl _ 79 rfl 9 26 mapKS Tryd.underlying79 Rv g n D rfl hown ?_; intro w0 hrg0 hg0 hs0) | go_in)
  go_frame
  have hc0 := Chg.ofGrown hg0
  have hb0 : Below w.heap.size w w0 := hc0.below (Nat.le_refl _) (fun k e => by cases e)
  have hV0 : ∀ b ∈ S, ∃ a m c, V b = .slice a m c ∧ Own B E w0 a m c b.p := fun b hb => by
    obtain ⟨a, m, c, e, ho⟩ := Hrows.out b hb
    exact ⟨a, m, c, e, ho.keep hb0⟩
  have hd0 : DoneIs (Maps.has D) S [] := ⟨List.nodup_nil, fun b hb => (by cases hb), fun b hb => ⟨fun _ q => (by cases q), fun _ => (Hyes.out b hb).1⟩, Hno.out⟩
  clear hg0 hc0 hown
  have Hrg0 := Lib.hid hrg0; clear hrg0
  have Hb0 := Lib.hid hb0; clear hb0
  have HV0 := Lib.hid hV0; clear hV0
  have Hd0 := Lib.hid hd0; clear hd0
  go_loopw [5] (fun v wr => ∃ (left : Lit → Bool) (cnt : Nat) (ao : Option Addr) (p cap : Nat) (done : List Bk), v = .slice ao p cap ∧ p + cnt ≤ n ∧ done.length = p ∧ Hid (wr.ranges Tryd.prog 9 Rv g w.heap.size n D left cnt) ∧ Hid (Row3 (w.heap.size + 1) wr.heap.size wr ao p cap (cellsB V done)) ∧ Hid (DoneIs left S done) ∧ Hid (∀ b ∈ S, ∃ a m c, V b = .slice a m c ∧ Own B E wr a m c b.p) ∧ Hid (Below w.heap.size w wr) ∧ w.heap.size + 1 ≤ wr.heap.size) (fun _ wr => wr.rangeLeft g w.heap.size)
  case atStart => exact ⟨_, _, none, 0, 0, [], rfl, by omega, rfl, Hrg0, Lib.hid (Row3.nil _ _ _), Hd0, HV0, Hb0, by omega⟩
  case round =>
    obtain ⟨left, cnt, ao, p, cap, done, rfl, hpc, hdl, Hrg, Hrow, Hd, HV, Hbr, hsr⟩ := hrel
    clear Hrg0 Hb0 HV0 Hd0 hs0
    go_wp2_with (first | (at_next; refine wpList_next_ranges _ rfl _ rfl 9 mapKS Rv id id (fun key kl _ => ⟨key, rfl⟩) (fun v y _ => ⟨v, rfl⟩) g w.heap.size n D left cnt rfl Hrg.out ?_ ?_) | go_in)
    · intro hc0 hl0
      have hall := Hd.out.all hl0
      have hnd := Hd.out.nodup
      have hcon := sortAny_any _ _ B E ao p cap V done wr Hrow.out hdl (fun b hb => HV.out b ((hall b).1 hb)) (by omega)
      have hbse : ∀ cs w', Row3 (w.heap.size + 1) wr.heap.size w' ao p cap (cellsB V cs) → cs.Perm done → Chg (fun k => (Value.slice ao p cap).ownBlock = some k) wr w' → BksOwn B w'.heap.size w' ao p cap cs ∧ Below w.heap.size w w' ∧ cs.Nodup ∧ ∀ b, b ∈ cs ↔ b ∈ S := fun cs w' hr hp hc => by
        have hmem : ∀ b, b ∈ cs ↔ b ∈ S := fun b => hp.mem_iff.trans (hall b)
        have hge : ∀ k, (Value.slice ao p cap).ownBlock = some k → w.heap.size + 1 ≤ k := fun k e => (Hrow.out.1.lt k e).1
        refine ⟨bks_of_cells (E := E) hr (by rw [hp.length_eq]; exact hdl) (by omega) (by have := hc.size; omega) hc.size (fun b hb => ?_) (fun b hb c hc' => Hfar.out b ((hmem b).1 hb) c ((hmem c).1 hc')) (hp.nodup_iff.2 hnd), Hbr.out.trans (hc.below (by omega) (fun k e => by have := hge k e; omega)), hp.nodup_iff.2 hnd, hmem⟩
        obtain ⟨a, m, c, e, ho⟩ := HV.out b ((hmem b).1 hb)
        exact ⟨a, m, c, e, ho.chg hc (fun k h1 h2 _ q => by have := hge k q; omega)⟩
      clear hall hnd hl0 Hrg Hrow Hd HV
      have Hcon := Lib.hid hcon; clear hcon
      have Hbse := Lib.hid hbse; clear hbse
      go_wp2_with fail
      with_reducible refine (Hcon.out).mono ?_
      rintro e w' ⟨rfl, cs, hp, hs, hr, hc⟩
      obtain ⟨f1, f2, f3, f4⟩ := Hbse.out cs w' hr hp hc
      clear hp hr hc Hcon Hbse
      have F1 := Lib.hid f1; clear f1
      have F2 := Lib.hid f2; clear f2
      have F3 := Lib.hid f3; clear f3
      have F4 := Lib.hid f4; clear f4
      have Hs := Lib.hid hs; clear hs
      go_wp2
      first
        | go_ret
        | go_ret2
        | go_ret3
      exact ⟨_, _, _, cs, rfl, Hs.out, F3.out, F4.out, F1.out, F2.out⟩
    · intro x c kl yd yp w2 cnt2 hkey hlk hv hat hrg2 hlt hg2 hs2 hen
      try simp only [id] at hen
      try simp only [id] at hv
      obtain ⟨b, hbS, rfl⟩ := Hd.out.keys kl hlk
      obtain ⟨pa, pm, pc, hVb, hob⟩ := HV.out b hbS
      have hcv : c = .agg #[.int .i64 b.h, .int .i64 b.l, .slice pa pm pc] := by
        have e1 := hat .nil
        rw [(Hyes.out b hbS).2] at e1
        have e2 : yd = .held c := by
          unfold Rv at hv
          simp at hv
          exact hv.1.symm
        rw [e2] at e1
        injection e1 with e1
        rw [← e1]
        unfold aggB
        rw [hVb]
      subst hcv
      have hc2 := Chg.ofGrown hg2
      have hrow2 := Hrow.out.chg hc2 (fun k h1 _ _ e => by simp only [Option.some.injEq] at e; omega)
      have hV2 : ∀ b ∈ S, ∃ a m c, V b = .slice a m c ∧ Own B E w2 a m c b.p := fun b hb => by
        obtain ⟨a, m, c, e, ho⟩ := HV.out b hb
        exact ⟨a, m, c, e, ho.chg hc2 (fun k h1 h2 _ q => by simp only [Option.some.injEq] at q; omega)⟩
      have hb2 : Below w.heap.size w w2 := Hbr.out.trans (hc2.below (by omega) (fun k e => by simp only [Option.some.injEq] at e; omega))
      have hds := Hd.out.step Hok.out hbS hlk
      have hsz2 : wr.heap.size ≤ w2.heap.size := by omega
      have hba := belowAlloc w2 (.cells #[.int .i64 b.h, .int .i64 b.l, .slice pa pm pc] 26)
      have hrow3 := (hrow2.chg (S := fun _ => False) (Chg.ofBelow hba) (fun _ _ _ _ q => q)).mono (Nat.le_refl _) (show wr.heap.size ≤ (w2.alloc (.cells #[.int .i64 b.h, .int .i64 b.l, .slice pa pm pc] 26)).heap.size by have := hba.size; omega)
      have hb3 := belowTrans hb2 hba (Nat.le_refl _)
      have hrg3 := hrg2.alloc (.cells #[.int .i64 b.h, .int .i64 b.l, .slice pa pm pc] 26)
      have hV3 : ∀ b' ∈ S, ∃ a m c, V b' = .slice a m c ∧ Own B E (w2.alloc (.cells #[.int .i64 b.h, .int .i64 b.l, .slice pa pm pc] 26)) a m c b'.p := fun b' hb' => by
        obtain ⟨a, m, c, e, ho⟩ := hV2 b' hb'
        exact ⟨a, m, c, e, ho.keep hba⟩
      have hszX : w.heap.size + 1 ≤ (w2.alloc (.cells #[.int .i64 b.h, .int .i64 b.l, .slice pa pm pc] 26)).heap.size := by have := hba.size; omega
      have hp8 : p ≤ 1048576 := by omega
      have hcl := hrg2.left_eq
      clear hat hv hkey hlk hrg2 hg2 hs2 hc2 hrow2 hV2 hb2 hob Hrow Hd HV Hbr hba
      obtain ⟨bh, hbh⟩ : ∃ x, x = b.h := ⟨_, rfl⟩
      obtain ⟨bl, hbl2⟩ : ∃ x, x = b.l := ⟨_, rfl⟩
      rw [← hbh, ← hbl2] at hen hrow3 hb3 hrg3 hV3 hszX
      have hsX2 : (w2.alloc (.cells #[.int .i64 bh, .int .i64 bl, .slice pa pm pc] 26)).heap.size = w2.heap.size + 1 := by simp
      have Hrow3 := Lib.hid hrow3; clear hrow3
      have Hb3 := Lib.hid hb3; clear hb3
      have Hrg3 := Lib.hid hrg3; clear hrg3
      have HV3 := Lib.hid hV3; clear hV3
      have Hds := Lib.hid hds; clear hds
      have HVb := Lib.hid hVb; clear hVb
      have HszX := Lib.hid hszX; clear hszX
      have Hbh := Lib.hid hbh; clear hbh
      have Hbl2 := Lib.hid hbl2; clear hbl2
      have HbS := Lib.hid hbS; clear hbS
      have HsX2 := Lib.hid hsX2; clear hsX2
      go_wp2_with (at_builtin; refine wpList_pushB (w2.alloc (.cells #[.int .i64 bh, .int .i64 bl, .slice pa pm pc] 26)) rfl _ _ rfl (w.heap.size + 1) _ ao p cap _ rfl Hrow3.out bh bl pa pm pc (by rw [HsX2.out]; rfl) hp8 HszX.out ?_; intro ao' cap' w4 hrow4 hch4)
      have hge : ∀ k, (Value.slice ao p cap).ownBlock = some k → w.heap.size + 1 ≤ k := fun k e => (Hrow3.out.1.lt k e).1
      have hrg4 := ranges_chg Hrg3.out hch4 (fun e => by have := hge _ e; omega) (fun e => by have := hge _ e; omega)
      have hb4 : Below w.heap.size w w4 := Hb3.out.trans (hch4.below (by have := HszX.out; omega) (fun k e => by have := hge _ e; omega))
      have hV4 : ∀ b' ∈ S, ∃ a m c, V b' = .slice a m c ∧ Own B E w4 a m c b'.p := fun b' hb' => by
        obtain ⟨a, m, c, e, ho⟩ := HV3.out b' hb'
        exact ⟨a, m, c, e, ho.chg hch4 (fun k h1 h2 _ q => by have := hge _ q; omega)⟩
      have hs4 : w.heap.size + 1 ≤ w4.heap.size := by have := hch4.size; have := HszX.out; omega
      have hle := hrg4.left_eq
      have hrl := Hrg.out.left_eq
      have Hrg4 := Lib.hid hrg4; clear hrg4
      have Hb4 := Lib.hid hb4; clear hb4
      have HV4 := Lib.hid hV4; clear hV4
      have Hrow4 := Lib.hid hrow4; clear hrow4
      have Hle := Lib.hid hle; clear hle
      have Hrl := Lib.hid hrl; clear hrl
      clear hch4 hge
      go_roundw
      case rel => exact ⟨_, cnt2, ao', p + 1, cap', done ++ [b], rfl, by omega, by simp [hdl], Hrg4, Lib.hid (by rw [cellsB_snoc, HVb.out, ← Hbh.out, ← Hbl2.out]; exact Hrow4.out), Hds, HV4, Hb4, hs4⟩
      case measure => rw [Hle.out, Hrl.out]; exact hlt
end Go.Proofs.YtnebfojnbjbogaaDoor
