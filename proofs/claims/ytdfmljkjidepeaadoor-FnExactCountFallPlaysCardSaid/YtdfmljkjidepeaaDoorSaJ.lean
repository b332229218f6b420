/- Chapter 6 by the program: a slide, how it falls and how falls are noted. No condition. -/
import Derived.Test.YtdfmljkjidepeaaDoorSaI
import Derived.Deep.LoopGhost
namespace Go.Proofs.YtdfmljkjidepeaaDoor
open Go.RowKit
set_option linter.unusedVariables false
set_option linter.unusedSimpArgs false
set_option maxRecDepth 20000

/-- a slide in the block R: its columns, its counts -/
structure Sl (B E R : Nat) (w : World) (a : Option Addr) (n c : Nat) (xs : List Int) (a2 : Option Addr) (n2 c2 : Nat) (zs : List Int) : Prop where
  blk : w.heap[R]? = some (.cells #[.slice a n c, .slice a2 n2 c2] 50 (0, 0))
  hR : B ≤ R
  cols : Sep B E w (.slice a2 n2 c2) a n c xs
  cnts : Own B E w a2 n2 c2 zs
theorem cellOfS {w : World} {g : Nat} {cs : Array Value} {ty : TypeId} (h : w.heap[g]? = some (.cells cs ty (0, 0))) (i : Nat) (v : Value) (hv : cs[i]? = some v) : w.cell? ⟨g, i, none⟩ = some v ∧ w.frozen? ⟨g, i, none⟩ = false := by
  constructor
  · simp [World.cell?, h, hv]
  · simp [World.frozen?, h]
theorem Sl.c0 {B E R w a n c xs a2 n2 c2 zs} (h : Sl B E R w a n c xs a2 n2 c2 zs) : w.cell? ⟨R, 0, none⟩ = some (.slice a n c) ∧ w.frozen? ⟨R, 0, none⟩ = false := cellOfS h.blk 0 _ rfl
theorem Sl.c1 {B E R w a n c xs a2 n2 c2 zs} (h : Sl B E R w a n c xs a2 n2 c2 zs) : w.cell? ⟨R, 1, none⟩ = some (.slice a2 n2 c2) ∧ w.frozen? ⟨R, 1, none⟩ = false := cellOfS h.blk 1 _ rfl
theorem Sl.size {B E R w a n c xs a2 n2 c2 zs} (h : Sl B E R w a n c xs a2 n2 c2 zs) : R < w.heap.size := (Array.getElem?_eq_some_iff.1 h.blk).1
theorem Sl.mono {B E E' R w a n c xs a2 n2 c2 zs} (h : Sl B E R w a n c xs a2 n2 c2 zs) (hE : E ≤ E') : Sl B E' R w a n c xs a2 n2 c2 zs :=
  ⟨h.blk, h.hR, h.cols.mono (Nat.le_refl _) hE, h.cnts.mono (Nat.le_refl _) hE⟩
theorem Sl.keep {B E R w w' a n c xs a2 n2 c2 zs} (h : Sl B E R w a n c xs a2 n2 c2 zs) (hb : Below w.heap.size w w') : Sl B E R w' a n c xs a2 n2 c2 zs :=
  ⟨by rw [(Chg.ofBelow (S := fun _ => False) hb).block R h.size id]; exact h.blk, h.hR, h.cols.keep hb, h.cnts.keep hb⟩
theorem Sl.drewN {B E R w a n c xs a2 n2 c2 zs} (h : Sl B E R w a n c xs a2 n2 c2 zs) (q : Nat) : Sl B E R (w.drewN q) a n c xs a2 n2 c2 zs := h.keep (belowDrewN (Below.refl _ _) q)
theorem notR {B E R w a n c zs cs} (h : Own B E w a n c zs) (hR : w.heap[R]? = some (.cells cs 50 (0, 0))) : (Value.slice a n c).ownBlock ≠ some R := fun hg => by
  obtain ⟨cur, e⟩ := OwnRow.typed h hg
  rw [hR] at e
  simp only [Option.some.injEq, Obj.cells.injEq] at e
  exact absurd e.2.1 (by decide)
theorem chgField (w : World) (R i : Nat) (v : Value) : Chg (fun k => k = R) w (w.setCell ⟨R, i, none⟩ v) :=
  ⟨rfl, rfl, rfl, by simp, fun q _ hq => heap_setCell_other w ⟨R, i, none⟩ q _ (fun e => hq (by simp [e]))⟩
theorem ownField {B E R w a n c zs cs i v} (h : Own B E w a n c zs) (hR : w.heap[R]? = some (.cells cs 50 (0, 0))) : Own B E (w.setCell ⟨R, i, none⟩ v) a n c zs :=
  h.chg (chgField w R i v) fun g _ _ hg e => notR h hR (e ▸ hg)

/-- other counts -/
theorem Sl.cnt {B R w w1 a n c xs a2 n2 c2 zs a3 n3 c3 us} (h : Sl B w.heap.size R w a n c xs a2 n2 c2 zs) (ho : Own B w1.heap.size w1 a3 n3 c3 us) (hc : Chg (fun k => (Value.slice a2 n2 c2).ownBlock = some k) w w1) (hn : NewOr w (.slice a2 n2 c2) (.slice a3 n3 c3)) (hB : B ≤ w.heap.size) :
    (w1.cell? ⟨R, 1, none⟩ = some (.slice a2 n2 c2) ∧ w1.frozen? ⟨R, 1, none⟩ = false) ∧ Sl B (w1.setCell ⟨R, 1, none⟩ (.slice a3 n3 c3)).heap.size R (w1.setCell ⟨R, 1, none⟩ (.slice a3 n3 c3)) a n c xs a3 n3 c3 us ∧ Below B w (w1.setCell ⟨R, 1, none⟩ (.slice a3 n3 c3)) := by
  have hb1 : w1.heap[R]? = some (.cells #[.slice a n c, .slice a2 n2 c2] 50 (0, 0)) := by
    rw [hc.block R h.size (notR h.cnts h.blk)]; exact h.blk
  have hs : (w1.setCell ⟨R, 1, none⟩ (.slice a3 n3 c3)).heap.size = w1.heap.size := by simp
  have hcol := (h.cols.push (Nat.le_refl _) hc hn).mono (Nat.le_refl B) hc.size
  refine ⟨cellOfS hb1 1 _ rfl, ⟨heap_setCell_same w1 R 1 _ _ _ hb1, h.hR, ?_, ?_⟩, ?_⟩
  · rw [hs]; exact ⟨ownField hcol.own hb1, hcol.ap⟩
  · rw [hs]; exact ownField ho hb1
  · exact (h.cnts.chgBelow hc hB).trans ((chgField w1 R 1 _).below (Nat.le_trans hB hc.size) (fun k hk => by rw [hk]; exact h.hR))
theorem Sl.cntSet {B R w a n c xs g n2 c2 zs} (h : Sl B w.heap.size R w a n c xs (some ⟨g, 0, none⟩) n2 c2 zs) (i : Nat) (x : Int) (hB : B ≤ w.heap.size) :
    Sl B (w.setCell ⟨g, i, none⟩ (.int .i64 x)).heap.size R (w.setCell ⟨g, i, none⟩ (.int .i64 x)) a n c xs (some ⟨g, 0, none⟩) n2 c2 (zs.set i x) ∧ Below B w (w.setCell ⟨g, i, none⟩ (.int .i64 x)) := by
  have hc := chgCell w g i n2 c2 (.int .i64 x)
  have hs : (w.setCell ⟨g, i, none⟩ (.int .i64 x)).heap.size = w.heap.size := by simp
  rw [hs]
  refine ⟨⟨?_, h.hR, h.cols.chg hc, (h.cnts.set i x).1⟩, h.cnts.chgBelow hc hB⟩
  rw [hc.block R h.size (notR h.cnts h.blk)]; exact h.blk
/-- other columns -/
theorem Sl.colSet {B R w g n c xs a2 n2 c2 zs} (h : Sl B w.heap.size R w (some ⟨g, 0, none⟩) n c xs a2 n2 c2 zs) (i : Nat) (x : Int) (hB : B ≤ w.heap.size) :
    Sl B (w.setCell ⟨g, i, none⟩ (.int .i64 x)).heap.size R (w.setCell ⟨g, i, none⟩ (.int .i64 x)) (some ⟨g, 0, none⟩) n c (xs.set i x) a2 n2 c2 zs ∧ Below B w (w.setCell ⟨g, i, none⟩ (.int .i64 x)) := by
  have hc := chgCell w g i n c (.int .i64 x)
  have hs : (w.setCell ⟨g, i, none⟩ (.int .i64 x)).heap.size = w.heap.size := by simp
  rw [hs]
  refine ⟨⟨?_, h.hR, ⟨(h.cols.own.set i x).1, h.cols.ap⟩, h.cnts.chg hc fun g' _ _ h1 h2 => h.cols.ap g' h1 h2⟩, h.cols.own.chgBelow hc hB⟩
  rw [hc.block R h.size (notR h.cols.own h.blk)]; exact h.blk
theorem Sl.col {B R w w1 a n c xs a2 n2 c2 zs a3 n3 c3 us} (h : Sl B w.heap.size R w a n c xs a2 n2 c2 zs) (ho : Own B w1.heap.size w1 a3 n3 c3 us) (hc : Chg (fun k => (Value.slice a n c).ownBlock = some k) w w1) (hn : NewOr w (.slice a n c) (.slice a3 n3 c3)) (hB : B ≤ w.heap.size) :
    (w1.cell? ⟨R, 0, none⟩ = some (.slice a n c) ∧ w1.frozen? ⟨R, 0, none⟩ = false) ∧ Sl B (w1.setCell ⟨R, 0, none⟩ (.slice a3 n3 c3)).heap.size R (w1.setCell ⟨R, 0, none⟩ (.slice a3 n3 c3)) a3 n3 c3 us a2 n2 c2 zs ∧ Below B w (w1.setCell ⟨R, 0, none⟩ (.slice a3 n3 c3)) := by
  have hb1 : w1.heap[R]? = some (.cells #[.slice a n c, .slice a2 n2 c2] 50 (0, 0)) := by
    rw [hc.block R h.size (notR h.cols.own h.blk)]; exact h.blk
  have hs : (w1.setCell ⟨R, 0, none⟩ (.slice a3 n3 c3)).heap.size = w1.heap.size := by simp
  have hcn : Own B w1.heap.size w1 a2 n2 c2 zs := (h.cnts.chg hc fun g' _ _ h1 h2 => h.cols.ap g' h1 h2).mono (Nat.le_refl _) hc.size
  have hap : ∀ g, (Value.slice a2 n2 c2).ownBlock = some g → (Value.slice a3 n3 c3).ownBlock ≠ some g := fun g hg h1 => by
    rcases hn g h1 with h2 | h2
    · exact h.cols.ap g hg h2
    · have := h.cnts.2 g hg; omega
  refine ⟨cellOfS hb1 0 _ rfl, ⟨heap_setCell_same w1 R 0 _ _ _ hb1, h.hR, ?_, ?_⟩, ?_⟩
  · rw [hs]; exact ⟨ownField ho hb1, hap⟩
  · rw [hs]; exact ownField hcn hb1
  · exact (h.cols.own.chgBelow hc hB).trans ((chgField w1 R 0 _).below (Nat.le_trans hB hc.size) (fun k hk => by rw [hk]; exact h.hR))

set_option maxHeartbeats 3200000 in
theorem note_any (B R : Nat) (a : Option Addr) (n c : Nat) (xs : List Int) (a2 : Option Addr) (n2 c2 : Nat) (zs : List Int) (i : Nat) (u : FrameMode) (w : World) (h : Sl B w.heap.size R w a n c xs a2 n2 c2 zs) (hB : B ≤ w.heap.size) (hn2 : n2 ≤ 24) (hi : i < 24) (hz : ∀ j, 0 ≤ zs.getD j 0 ∧ zs.getD j 0 ≤ 576) :
    CallsD Tryd.prog 42 #[.pointer (some ⟨R, 0, none⟩), .int .i64 i] u w fun e u' w' => u' = u ∧ (e = .returned (.tuple #[]) ∧ ∃ a3 n3 c3, Sl B w'.heap.size R w' a n c xs a3 n3 c3 (bump zs i) ∧ Below B w w') := by
  have hzl := h.cnts.length
  have hiI : (i : Int) < 24 := by omega
  have Hz := Lib.hid hz; clear hz
  have Hzl := Lib.hid hzl; clear hzl
  go_enter_d Tryd.func42, Tryd.ntmps42
  go_wp2_with fail
  go_loopg [] 30 (fun k wr => ∃ (q : Nat) (a3 : Option Addr) (c3 : Nat), n2 ≤ q ∧ q ≤ max n2 (i + 1) ∧ k + q = 30 + n2 ∧ Sl B wr.heap.size R wr a n c xs a3 q c3 (zs ++ List.replicate (q - n2) 0) ∧ Below B w wr)
  case atStart => exact ⟨n2, a2, c2, Nat.le_refl _, by omega, rfl, by simpa using h, Below.refl _ _⟩
  case round =>
    obtain ⟨q, a3, c3, hq1, hq2, hk, hs, hb⟩ := hrel
    have hBr := Nat.le_trans hB hb.size
    obtain ⟨k0, k1⟩ := hs.c1
    by_cases hlt : q ≤ i
    · have hlI : (q : Int) ≤ i := by omega
      have hcn := hs.cnts
      have Hk := Lib.hid hk; clear hk
      have Hs := Lib.hid hs; clear hs
      go_wp2_with (at_builtin; refine wpList_pushI wr rfl _ _ rfl B wr.heap.size a3 q c3 _ rfl hcn 0 rfl (by omega) hBr ?_)
      intro a4 c4 w4 ho4 hc4 hn4
      obtain ⟨⟨k2, k3⟩, hsl, hbl⟩ := Hs.out.cnt ho4 hc4 hn4 hBr
      have hbb := hb.trans hbl
      clear hcn hc4 hn4 ho4 hb hbl k0 k1
      have Hsl := Lib.hid hsl; clear hsl
      have Hbb := Lib.hid hbb; clear hbb
      go_wp2
      go_roundg (29 + n2 - q)
      case measure => have := Hk.out; omega
      case rel => exact ⟨q + 1, a4, c4, by omega, by omega, by have := Hk.out; omega, by rw [show q + 1 - n2 = (q - n2) + 1 by omega, List.replicate_succ']; simpa using Hsl.out, Hbb.out⟩
    · have hpe : q - n2 = i + 1 - zs.length := by rw [Hzl.out]; omega
      obtain ⟨_, hz', _⟩ | ⟨g, rfl, hg, hgE, hgw⟩ := hs.cnts.cases
      · omega
      · have hck2 := getD_cells hs.cnts i (by omega)
        have hval : (zs ++ List.replicate (q - n2) 0).getD i 0 = zs.getD i 0 := getD_pad zs _ i
        have hfz := hs.cnts.frozenAt i
        rw [hval] at hck2
        have hxk := Hz.out i
        have hbm : (zs ++ List.replicate (q - n2) 0).set i (zs.getD i 0 + 1) = bump zs i := by unfold bump; rw [← hpe, hval]
        obtain ⟨hset, hbl⟩ := hs.cntSet i (zs.getD i 0 + 1) hBr
        rw [hbm] at hset
        have hbb := hb.trans hbl
        have hiq : (i : Int) < q := by omega
        have hiq2 : ¬ ((q : Int) ≤ i) := by omega
        generalize zs.getD i 0 = y at *
        clear hs hb hbl hval hbm hpe
        have Hset := Lib.hid hset; clear hset
        have Hbb := Lib.hid hbb; clear hbb
        have Hk := Lib.hid hk; clear hk
        go_wp2
        go_end0
        refine ⟨rfl, ⟨some ⟨g, 0, none⟩, q, c3, ?_⟩, Hbb.out⟩
        first | exact Hset.out | simpa using Hset.out

/-! ### let -/
theorem mColV (b : Bool) (i : Nat) : ∃ (T : TypeId) (f : FuncId), fallV b i = .iface T (.int .i64 i) ∧ (∀ w, (method 208 T (.int .i64 i) "loop.example/g01114/impl.column").run Tryd.prog w = .ok (f, .int .i64 i) w) ∧ ((∀ args w, (callFunc f args).run Tryd.prog w = .ok (.enter f args) w)) ∧ (∀ w, Calls Tryd.prog f #[.int .i64 i] w fun e w' => e = .returned (.int .i64 i) ∧ w = w') := by
  cases b
  · exact ⟨_, _, rfl, mColC _, (fun _ _ => by kernel_rfl), fun w => colC_any _ w⟩
  · exact ⟨_, _, rfl, mColG _, (fun _ _ => by kernel_rfl), fun w => colG_any _ w⟩

set_option maxHeartbeats 6400000 in
theorem letIn_any (B R : Nat) (a : Option Addr) (n c : Nat) (xs : List Int) (a2 : Option Addr) (n2 c2 : Nat) (zs : List Int) (i : Nat) (w : World) (h : Sl B w.heap.size R w a n c xs a2 n2 c2 zs) (hB : B ≤ w.heap.size) (hg : Grains xs) (hi : i + 1 < n) (hn2 : n2 ≤ 24) (hz : ∀ j, 0 ≤ zs.getD j 0 ∧ zs.getD j 0 ≤ 576) :
    Calls Tryd.prog 35 #[.pointer (some ⟨R, 0, none⟩), fallV false i] w fun e w' => e = .returned (.tuple #[]) ∧ ∃ a' n' c' a3 n3 c3, Sl B w'.heap.size R w' a' n' c' (fallL xs i) a3 n3 c3 (bump zs i) ∧ Below B w w' := by
  have hl := h.cols.own.length
  have hlen := hg.len
  have hn24 : (n : Int) ≤ 24 := by omega
  have hm := mColC (.int .i64 i)
  have hx1 := grains_at hg i
  have hy1 := grains_at hg (i + 1)
  have hfl := fallL_in (xs := xs) (i := i) (by omega)
  rcases h.cols.own.cases with ⟨_, hz0, _⟩ | ⟨g, rfl, hgB, hgE, hgs⟩
  · omega
  have hck := getD_cells h.cols.own i (by omega)
  have hfz := h.cols.own.frozenAt i
  obtain ⟨hs1, hb1⟩ := h.colSet i (xs.getD i 0 - 1) hB
  have hB1 := Nat.le_trans hB hb1.size
  have hck1 := getD_cells hs1.cols.own (i + 1) hi
  rw [getD_set_neM _ _ _ _ _ (by omega)] at hck1
  have hfz1 := hs1.cols.own.frozenAt (i + 1)
  obtain ⟨hs2, hb2⟩ := hs1.colSet (i + 1) (xs.getD (i + 1) 0 + 1) hB1
  have hB2 := Nat.le_trans hB1 hb2.size
  rw [← hfl] at hs2
  obtain ⟨k0, k1⟩ := h.c0
  obtain ⟨k2, k3⟩ := hs1.c0
  have hbb := hb1.trans hb2
  have hcon := fun u => note_any B R _ n c (fallL xs i) a2 n2 c2 zs i u _ hs2 hB2 hn2 (by omega) hz
  generalize fallL xs i = L at *
  generalize xs.getD i 0 = x at *
  generalize xs.getD (i + 1) 0 = y at *
  have hi1 : (i : Int) + 1 < n := by omega
  clear h hs1 hs2 hb1 hb2 hfl
  have Hcon := Lib.hid hcon; clear hcon
  have Hbb := Lib.hid hbb; clear hbb
  have Hl := Lib.hid hl; clear hl
  have Hg := Lib.hid hg; clear hg
  have Hz := Lib.hid hz; clear hz
  have hta : ∀ w, (Instr.typeAssert (.iface 62 (.int .i64 i)) 53 62 true).run Tryd.prog w = .ok (.tuple #[.int .i64 i, .bool true]) w := fun _ => by kernel_rfl
  unfold fallV
  go_enter_defers Tryd.func35, Tryd.ntmps35
  go_wp2_with fail
  with_reducible refine (colC_any _ _).mono ?_
  rintro e w' ⟨rfl, rfl⟩
  go_wp2_with fail
  refine leaves_cons (f := 42) (args := #[.pointer (some ⟨R, 0, none⟩), .int .i64 i]) (by simp) (by simp [go_sem]) ?_
  refine (Hcon.out _).mono ?_
  rintro e u' w'' ⟨rfl, rfl, a3, n3, c3, hs, hb⟩
  exact ⟨_, results_none rfl _ _ _, rfl, _, _, _, a3, n3, c3, hs, Hbb.out.trans hb⟩

set_option maxHeartbeats 6400000 in
theorem letEnd_any (B R : Nat) (a : Option Addr) (n c : Nat) (xs : List Int) (a2 : Option Addr) (n2 c2 : Nat) (zs : List Int) (i : Nat) (w : World) (h : Sl B w.heap.size R w a n c xs a2 n2 c2 zs) (hB : B ≤ w.heap.size) (hg : Grains xs) (hi : i + 1 = n) (hn2 : n2 ≤ 24) (hz : ∀ j, 0 ≤ zs.getD j 0 ∧ zs.getD j 0 ≤ 576) :
    Calls Tryd.prog 35 #[.pointer (some ⟨R, 0, none⟩), fallV true i] w fun e w' => e = .returned (.tuple #[]) ∧ ∃ a' n' c' a3 n3 c3, Sl B w'.heap.size R w' a' n' c' (fallL xs i) a3 n3 c3 (bump zs i) ∧ Below B w w' := by
  have hl := h.cols.own.length
  have hlen := hg.len
  have hn24 : (n : Int) ≤ 24 := by omega
  have hm := mColG (.int .i64 i)
  have hx1 := grains_at hg i
  have hfl := fallL_end (xs := xs) (i := i) (by omega)
  rcases h.cols.own.cases with ⟨_, hz0, _⟩ | ⟨g, rfl, hgB, hgE, hgs⟩
  · omega
  have hck := getD_cells h.cols.own i (by omega)
  have hfz := h.cols.own.frozenAt i
  obtain ⟨hs1, hb1⟩ := h.colSet i (xs.getD i 0 - 1) hB
  have hB1 := Nat.le_trans hB hb1.size
  have hsz : (w.setCell ⟨g, i, none⟩ (.int .i64 (xs.getD i 0 - 1))).heap.size = w.heap.size := by simp
  obtain ⟨k0, k1⟩ := h.c0
  obtain ⟨k2, k3⟩ := hs1.c0
  have hown := hs1.cols.own
  have hcon := fun a3 n3 c3 W (hs : Sl B W.heap.size R W a3 n3 c3 (fallL xs i) a2 n2 c2 zs) (hW : B ≤ W.heap.size) u => note_any B R a3 n3 c3 (fallL xs i) a2 n2 c2 zs i u W hs hW hn2 (by omega) hz
  rw [hfl] at hcon
  rw [hfl]
  generalize xs.getD i 0 = x at *
  have hta : ∀ w, (Instr.typeAssert (.iface 63 (.int .i64 i)) 53 62 true).run Tryd.prog w = .ok (.tuple #[.int .i64 0, .bool false]) w := fun _ => by kernel_rfl
  have hta2 : ∀ w, (Instr.typeAssert (.iface 63 (.int .i64 i)) 53 63 true).run Tryd.prog w = .ok (.tuple #[.int .i64 i, .bool true]) w := fun _ => by kernel_rfl
  have hiI : (i : Int) < n := by omega
  clear h hfl
  have Hcon := Lib.hid hcon; clear hcon
  have Hb1 := Lib.hid hb1; clear hb1
  have Hl := Lib.hid hl; clear hl
  have Hg := Lib.hid hg; clear hg
  have Hz := Lib.hid hz; clear hz
  have Hs1 := Lib.hid hs1; clear hs1
  have Hsz := Lib.hid hsz; clear hsz
  have Hown := Lib.hid hown; clear hown
  unfold fallV
  go_enter_defers Tryd.func35, Tryd.ntmps35
  go_wp2_with fail
  with_reducible refine (colG_any _ _).mono ?_
  rintro e w' ⟨rfl, rfl⟩
  go_wp2_with (at_builtin; refine wpList_pushI (w.setCell ⟨g, i, none⟩ (.int .i64 (x - 1))) rfl _ _ rfl B _ _ n _ _ rfl Hown.out 1 (by rw [Hsz.out]; rfl) (by omega) hB1 ?_)
  intro a4 c4 w4 ho4 hc4 hn4
  obtain ⟨⟨k4, k5⟩, hsl, hbl⟩ := Hs1.out.col ho4 hc4 hn4 hB1
  have hbb := Hb1.out.trans hbl
  have hBf := Nat.le_trans hB hbb.size
  have hcon2 := Hcon.out _ _ _ _ hsl hBf
  clear hc4 hn4 ho4 hbl hsl
  have Hbb := Lib.hid hbb; clear hbb
  have Hcon2 := Lib.hid hcon2; clear hcon2
  go_wp2_with fail
  refine leaves_cons (f := 42) (args := #[.pointer (some ⟨R, 0, none⟩), .int .i64 i]) (by simp) (by simp [go_sem]) ?_
  refine (Hcon2.out _).mono ?_
  rintro e u' w'' ⟨rfl, rfl, a3, n3, c3, hs, hb⟩
  exact ⟨_, results_none rfl _ _ _, rfl, _, _, _, a3, n3, c3, hs, Hbb.out.trans hb⟩
end Go.Proofs.YtdfmljkjidepeaaDoor
