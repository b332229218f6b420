/- Several texts in one: SaI, SaJ, SaK, SaL. No condition. -/
import Derived.Test.YtdfmljkjidepeaaGreatDoorSaB
import Derived.Defers
import Derived.Laws.EntriesVeiled
import Derived.Deep.LoopGhost
import Derived.Test.YtdfmljkjidepeaaGreatDoorGh
namespace Go.Proofs.YtdfmljkjidepeaaGreatDoor
section
open Go.RowKit
set_option linter.unusedVariables false
set_option linter.unusedSimpArgs false
set_option maxRecDepth 20000

set_option maxHeartbeats 800000 in
theorem isSand_any (ao : Option Addr) (n cap : Nat) (xs : List Int) (w : World) (h : IntsAt w ao n cap xs) :
    Calls Tryz.prog 26 #[.slice ao n cap] w fun e w' => e = .returned (.bool (sandB xs)) ∧ w = w' := by
  have hn := h.lenInt
  have hl := h.length
  by_cases h12 : n ≤ 12
  · cases hg : goodB xs
    · have hm := sandB_bad hg
      have Hg := Lib.hid hg; clear hg
      have Hm := Lib.hid hm; clear hm
      have Hl := Lib.hid hl; clear hl
      go_enter Tryz.func26, Tryz.ntmps26
      go_wp2_with fail
      with_reducible refine (isPiles_no _ _ _ _ _ h Hg.out).mono ?_
      rintro e w' ⟨rfl, rfl⟩
      go_wp2
      go_ret
      exact ⟨by rw [Hm.out]; rfl, rfl⟩
    · have hG := good_iff.1 hg
      have hm := sandB_of hG (by omega)
      have hs := sumOf_any ao n cap xs w h hG
      generalize xs.sum = S at *
      have Hg := Lib.hid hg; clear hg
      have Hm := Lib.hid hm; clear hm
      have HG := Lib.hid hG; clear hG
      have Hl := Lib.hid hl; clear hl
      have Hs := Lib.hid hs; clear hs
      go_enter Tryz.func26, Tryz.ntmps26
      go_wp2_with fail
      with_reducible refine (isPiles_yes _ _ _ _ _ h HG.out).mono ?_
      rintro e w' ⟨rfl, rfl⟩
      go_wp2_with fail
      with_reducible refine (Hs.out).mono ?_
      rintro e w' ⟨rfl, rfl⟩
      go_wp2
      go_ret
      exact ⟨by rw [Hm.out]; rfl, rfl⟩
  · have hm := sandB_far (xs := xs) (by omega)
    have Hm := Lib.hid hm; clear hm
    have Hl := Lib.hid hl; clear hl
    go_enter Tryz.func26, Tryz.ntmps26
    go_wp2
    go_ret
    exact ⟨by rw [Hm.out]; rfl, rfl⟩
theorem isSand_yes (ao : Option Addr) (n cap : Nat) (xs : List Int) (w : World) (h : IntsAt w ao n cap xs) (hg : Sand xs) :
    Calls Tryz.prog 26 #[.slice ao n cap] w fun e w' => e = .returned (.bool true) ∧ w = w' := by
  have := isSand_any ao n cap xs w h; rw [sand_iff.2 hg] at this; exact this
theorem isSand_no (ao : Option Addr) (n cap : Nat) (xs : List Int) (w : World) (h : IntsAt w ao n cap xs) (hg : sandB xs = false) :
    Calls Tryz.prog 26 #[.slice ao n cap] w fun e w' => e = .returned (.bool false) ∧ w = w' := by
  have := isSand_any ao n cap xs w h; rw [hg] at this; exact this
theorem impl_IsSand (ao : Option Addr) (n cap : Nat) (xs : List Int) (w : World) (h : IntsAt w ao n cap xs) :
    Calls Tryz.prog 26 #[.slice ao n cap] w fun e w' => e = .returned (.bool (mIsSand xs)) ∧ Below w.heap.size w w' := callsBelow (isSand_any ao n cap xs w h)

/-- a fall of a column, the last one or another one -/
def fallV : Bool → Nat → Value
  | true, i => .iface 85 (.int .i64 i)
  | false, i => .iface 84 (.int .i64 i)
theorem fallV_one (b : Bool) (i : Nat) : (fallV b i).oneCell' = true := by cases b <;> rfl
def fallsV (xs : List Int) (k : Nat) : List Value := (fallsN xs k).map fun i => fallV (decide (i + 1 = xs.length)) i
theorem fallsV_yes {xs : List Int} {k : Nat} (h : steepB xs k = true) : fallsV xs (k + 1) = fallsV xs k ++ [fallV (decide (k + 1 = xs.length)) k] := by
  unfold fallsV fallsN
  rw [List.range_succ, List.filter_append, List.map_append]
  simp [h]
theorem fallsV_no {xs : List Int} {k : Nat} (h : steepB xs k = false) : fallsV xs (k + 1) = fallsV xs k := by
  unfold fallsV fallsN
  rw [List.range_succ, List.filter_append, List.map_append]
  simp [h]
theorem fallsV_length (xs : List Int) (k : Nat) : (fallsV xs k).length = (fallsT xs k).length := by unfold fallsV fallsT; simp

set_option maxHeartbeats 1600000 in
theorem fallAt_in (ao : Option Addr) (n cap : Nat) (xs : List Int) (i : Nat) (w : World) (h : IntsAt w ao n cap xs) (hg : Grains xs) (hi : i < n) :
    Calls Tryz.prog 62 #[.slice ao n cap, .int .i64 i] w fun e w' => e = .returned (.tuple #[fallV (decide (i + 1 = n)) i, .bool (steepB xs i)]) ∧ ∃ q, w' = w.drewN q := by
  have hl := h.length
  have hlen := hg.len
  have hn24 : (n : Int) ≤ 24 := by omega
  obtain ⟨b, o, rfl, hb, hc⟩ := h.cell i hi
  have hci := hc i hi
  have hx1 := grains_at hg i
  have hy1 := grains_at hg (i + 1)
  have hst : steepB xs i = decide (xs.getD (i + 1) 0 + 2 ≤ xs.getD i 0) := rfl
  have hin := inRange_yes (i : Int) ((n : Int) - 1) w (by omega)
  by_cases hlt : i + 1 = n
  · have hy : xs.getD (i + 1) 0 = 0 := getD_past (by omega)
    rw [hy] at hst
    have hd : ((i : Int) == (n : Int) - 1) = true := by simp; omega
    have hv : fallV (decide (i + 1 = n)) i = .iface 85 (.int .i64 i) := by rw [decide_eq_true hlt]; rfl
    generalize xs.getD i 0 = x at *
    clear h hc hg hy1 hy hlt
    have Hst := Lib.hid hst; clear hst
    have Hl := Lib.hid hl; clear hl
    have Hv := Lib.hid hv; clear hv
    have Hin := Lib.hid hin; clear hin
    go_enter Tryz.func62, Tryz.ntmps62
    go_wp2_with fail
    with_reducible refine (Hin.out).mono ?_
    rintro e w' ⟨rfl, rfl⟩
    go_wp2
    go_quiet (fail)
    go_wp2
    go_ret2
    exact ⟨by rw [Hv.out, Hst.out]; simp, _, rfl⟩
  · have hc1 := hc (i + 1) (by omega)
    have hd : ((i : Int) == (n : Int) - 1) = false := by simp; omega
    have hv : fallV (decide (i + 1 = n)) i = .iface 84 (.int .i64 i) := by rw [decide_eq_false hlt]; rfl
    have hst2 : steepB xs i = decide (2 ≤ xs.getD i 0 - xs.getD (i + 1) 0) := by rw [hst, decide_eq_decide]; omega
    have hi1 : i + 1 < n := by omega
    generalize xs.getD i 0 = x at *
    generalize xs.getD (i + 1) 0 = y at *
    clear h hc hg hst hlt
    have Hst2 := Lib.hid hst2; clear hst2
    have Hl := Lib.hid hl; clear hl
    have Hv := Lib.hid hv; clear hv
    have Hin := Lib.hid hin; clear hin
    go_enter Tryz.func62, Tryz.ntmps62
    go_wp2_with fail
    with_reducible refine (Hin.out).mono ?_
    rintro e w' ⟨rfl, rfl⟩
    go_wp2
    go_quiet (fail)
    go_wp2
    go_ret2
    exact ⟨by rw [Hv.out, Hst2.out]; rfl, _, rfl⟩
theorem fallAt_out (ao : Option Addr) (n cap : Nat) (i : Int) (w : World) (hn : (n : Int) ≤ 24) (hi : ¬ (0 ≤ i ∧ i ≤ (n : Int) - 1)) :
    Calls Tryz.prog 62 #[.slice ao n cap, .int .i64 i] w fun e w' => e = .returned (.tuple #[.nilIface, .bool false]) ∧ w' = w := by
  have hin := inRange_no i ((n : Int) - 1) w hi
  have Hin := Lib.hid hin; clear hin
  have Hi := Lib.hid hi; clear hi
  go_enter Tryz.func62, Tryz.ntmps62
  go_wp2_with fail
  with_reducible refine (Hin.out).mono ?_
  rintro e w' ⟨rfl, rfl⟩
  go_wp2
  go_ret2
  exact ⟨rfl, rfl⟩

theorem Tryz.infoFall : (Tryz.prog.info? 61).map (fun i => (i.zero, i.size, i.bytes)) = some (some .nilIface, 1, 16) := by kernel_rfl
set_option maxHeartbeats 1600000 in
theorem fallsOf_any (ao : Option Addr) (n cap : Nat) (xs : List Int) (w : World) (h : IntsAt w ao n cap xs) (hg : Grains xs) :
    Calls Tryz.prog 36 #[.slice ao n cap] w fun e w' => ∃ ao' n' cap', e = .returned (.slice ao' n' cap') ∧ OwnRow w.heap.size w'.heap.size w' 61 ao' n' cap' (fallsV xs n) ∧ Below w.heap.size w w' := by
  have hl := h.length
  have hlen := hg.len
  have hn : (n : Int) ≤ 24 := by omega
  have Hg := Lib.hid hg; clear hg
  have Hl := Lib.hid hl; clear hl
  go_enter Tryz.func36, Tryz.ntmps36
  go_wp2
  go_loopw [3, 9] (fun v i wr => ∃ (k : Nat) (a : Option Addr) (m c : Nat), k ≤ n ∧ i = .int .i64 k ∧ v = .slice a m c ∧ OwnRow w.heap.size wr.heap.size wr 61 a m c (fallsV xs k) ∧ Below w.heap.size w wr) (fun _ i _ => n - (intOf i).toNat)
  case atStart => exact ⟨0, none, 0, 0, Nat.zero_le _, rfl, rfl, OwnRow.nil _ _ _ _, Below.refl _ _⟩
  case round =>
    obtain ⟨k, a, m, c, hk, rfl, rfl, hown, hb⟩ := hrel
    have hm := hown.length
    have hml := fallsT_length xs k
    rw [fallsV_length] at hm
    rw [hm] at hml
    have Hm := Lib.hid hm; clear hm
    by_cases hlt : k < n
    · have hcon := fallAt_in ao n cap xs k wr (h.keep hb) Hg.out hlt
      have hone := fallV_one (decide (k + 1 = n)) k
      cases hs : steepB xs k
      · rw [hs] at hcon
        have e := fallsV_no hs
        generalize fallV (decide (k + 1 = n)) k = fv at *
        have Hcon := Lib.hid hcon; clear hcon
        have Hs := Lib.hid hs; clear hs
        have E := Lib.hid e; clear e
        go_wp2_with fail
        with_reducible refine (Hcon.out).mono ?_
        rintro e w' ⟨rfl, q, rfl⟩
        go_wp2
        go_roundw
        case rel => exact ⟨k + 1, a, m, c, by omega, by go_num, rfl, by rw [E.out]; exact hown, belowDrewN hb q⟩
        case measure => simp [intOf]; omega
      · rw [hs] at hcon
        have e := fallsV_yes hs
        rw [Hl.out] at e
        have hb1 := fun q => belowDrewN hb q
        have hown1 : ∀ q, OwnRow w.heap.size wr.heap.size (wr.drewN q) 61 a m c (fallsV xs k) := fun q => hown
        clear hown hb
        cases hd : decide (k + 1 = n)
        all_goals
          rw [hd] at hcon e hone
          dsimp only [fallV] at hcon e hone
          have Hcon := Lib.hid hcon; clear hcon
          have Hs := Lib.hid hs; clear hs
          have E := Lib.hid e; clear e
          have Hd := Lib.hid hd; clear hd
          have Hone := Lib.hid hone; clear hone
          go_wp2_with fail
          with_reducible refine (Hcon.out).mono ?_
          rintro e w' ⟨rfl, q, rfl⟩
          have hb2 := hb1 q
          have hown2 := hown1 q
          clear hb1 hown1
          go_wp2_with (at_builtin; refine wpList_pushVX (wr.drewN q) rfl _ _ 58 rfl 61 .nilIface 16 Tryz.underlying58 Tryz.infoFall rfl (by decide) w.heap.size wr.heap.size a m c _ rfl hown2 _ Hone.out rfl (by omega) hb2.size ?_)
          intro ao2 cap2 w2 ho2 hc2 _
          have hb3 := hown2.chgBelow hc2 hb2.size
          clear hown2
          go_wp2
          go_roundw
          case rel => exact ⟨k + 1, ao2, _, cap2, by omega, by go_num, rfl, by rw [E.out]; exact ho2, hb2.trans hb3⟩
          case measure => simp [intOf]; omega
    · obtain rfl : n = k := by omega
      go_wp2
      go_ret
      exact ⟨_, _, _, rfl, hown, hb⟩

/-! ### What a fall is asked -/
theorem mColG (v : Value) (w : World) : (method 247 85 v "loop.example/g01114/impl.column").run Tryz.prog w = .ok (136, v) w := by kernel_rfl
theorem mColC (v : Value) (w : World) : (method 247 84 v "loop.example/g01114/impl.column").run Tryz.prog w = .ok (135, v) w := by kernel_rfl
theorem colG_any (i : Int) (w : World) : Calls Tryz.prog 136 #[.int .i64 i] w fun e w' => e = .returned (.int .i64 i) ∧ w = w' := by
  go_enter Tryz.func136, Tryz.ntmps136
  go_wp2
  go_ret
  exact ⟨rfl, rfl⟩
theorem colC_any (i : Int) (w : World) : Calls Tryz.prog 135 #[.int .i64 i] w fun e w' => e = .returned (.int .i64 i) ∧ w = w' := by
  go_enter Tryz.func135, Tryz.ntmps135
  go_wp2
  go_ret
  exact ⟨rfl, rfl⟩
end
end Go.Proofs.YtdfmljkjidepeaaGreatDoor
namespace Go.Proofs.YtdfmljkjidepeaaGreatDoor
section
open Go.RowKit
set_option linter.unusedVariables false
set_option linter.unusedSimpArgs false
set_option maxRecDepth 20000

/-- a slide in the block R: its columns, its counts -/
structure Sl (B E R : Nat) (w : World) (a : Option Addr) (n c : Nat) (xs : List Int) (a2 : Option Addr) (n2 c2 : Nat) (zs : List Int) : Prop where
  blk : w.heap[R]? = some (.cells #[.slice a n c, .slice a2 n2 c2] 50 (0, 0))
  hR : B ≤ R
  cols : Sep B E w (.slice a2 n2 c2) a n c xs
  cnts : Own B E w a2 n2 c2 zs
theorem cellOfS {w : World} {g : Nat} {cs : Array Value} {ty : TypeId} (h : w.heap[g]? = some (.cells cs ty (0, 0))) (i : Nat) (v : Value) (hv : cs[i]? = some v) : w.cell? ⟨g, i, none⟩ = some v ∧ w.frozen? ⟨g, i, none⟩ = false := by
  constructor
  · simp [World.cell?, h, hv]
  · simp [World.frozen?, h]
theorem Sl.c0 {B E R w a n c xs a2 n2 c2 zs} (h : Sl B E R w a n c xs a2 n2 c2 zs) : w.cell? ⟨R, 0, none⟩ = some (.slice a n c) ∧ w.frozen? ⟨R, 0, none⟩ = false := cellOfS h.blk 0 _ rfl
theorem Sl.c1 {B E R w a n c xs a2 n2 c2 zs} (h : Sl B E R w a n c xs a2 n2 c2 zs) : w.cell? ⟨R, 1, none⟩ = some (.slice a2 n2 c2) ∧ w.frozen? ⟨R, 1, none⟩ = false := cellOfS h.blk 1 _ rfl
theorem Sl.size {B E R w a n c xs a2 n2 c2 zs} (h : Sl B E R w a n c xs a2 n2 c2 zs) : R < w.heap.size := (Array.getElem?_eq_some_iff.1 h.blk).1
theorem Sl.mono {B E E' R w a n c xs a2 n2 c2 zs} (h : Sl B E R w a n c xs a2 n2 c2 zs) (hE : E ≤ E') : Sl B E' R w a n c xs a2 n2 c2 zs :=
  ⟨h.blk, h.hR, h.cols.mono (Nat.le_refl _) hE, h.cnts.mono (Nat.le_refl _) hE⟩
theorem Sl.keep {B E R w w' a n c xs a2 n2 c2 zs} (h : Sl B E R w a n c xs a2 n2 c2 zs) (hb : Below w.heap.size w w') : Sl B E R w' a n c xs a2 n2 c2 zs :=
  ⟨by rw [(Chg.ofBelow (S := fun _ => False) hb).block R h.size id]; exact h.blk, h.hR, h.cols.keep hb, h.cnts.keep hb⟩
theorem Sl.drewN {B E R w a n c xs a2 n2 c2 zs} (h : Sl B E R w a n c xs a2 n2 c2 zs) (q : Nat) : Sl B E R (w.drewN q) a n c xs a2 n2 c2 zs := h.keep (belowDrewN (Below.refl _ _) q)
theorem notR {B E R w a n c zs cs} (h : Own B E w a n c zs) (hR : w.heap[R]? = some (.cells cs 50 (0, 0))) : (Value.slice a n c).ownBlock ≠ some R := fun hg => by
  obtain ⟨cur, e⟩ := OwnRow.typed h hg
  rw [hR] at e
  simp only [Option.some.injEq, Obj.cells.injEq] at e
  exact absurd e.2.1 (by decide)
theorem chgField (w : World) (R i : Nat) (v : Value) : Chg (fun k => k = R) w (w.setCell ⟨R, i, none⟩ v) :=
  ⟨rfl, rfl, rfl, by simp, fun q _ hq => heap_setCell_other w ⟨R, i, none⟩ q _ (fun e => hq (by simp [e]))⟩
theorem ownField {B E R w a n c zs cs i v} (h : Own B E w a n c zs) (hR : w.heap[R]? = some (.cells cs 50 (0, 0))) : Own B E (w.setCell ⟨R, i, none⟩ v) a n c zs :=
  h.chg (chgField w R i v) fun g _ _ hg e => notR h hR (e ▸ hg)

/-- other counts -/
theorem Sl.cnt {B R w w1 a n c xs a2 n2 c2 zs a3 n3 c3 us} (h : Sl B w.heap.size R w a n c xs a2 n2 c2 zs) (ho : Own B w1.heap.size w1 a3 n3 c3 us) (hc : Chg (fun k => (Value.slice a2 n2 c2).ownBlock = some k) w w1) (hn : NewOr w (.slice a2 n2 c2) (.slice a3 n3 c3)) (hB : B ≤ w.heap.size) :
    (w1.cell? ⟨R, 1, none⟩ = some (.slice a2 n2 c2) ∧ w1.frozen? ⟨R, 1, none⟩ = false) ∧ Sl B (w1.setCell ⟨R, 1, none⟩ (.slice a3 n3 c3)).heap.size R (w1.setCell ⟨R, 1, none⟩ (.slice a3 n3 c3)) a n c xs a3 n3 c3 us ∧ Below B w (w1.setCell ⟨R, 1, none⟩ (.slice a3 n3 c3)) := by
  have hb1 : w1.heap[R]? = some (.cells #[.slice a n c, .slice a2 n2 c2] 50 (0, 0)) := by
    rw [hc.block R h.size (notR h.cnts h.blk)]; exact h.blk
  have hs : (w1.setCell ⟨R, 1, none⟩ (.slice a3 n3 c3)).heap.size = w1.heap.size := by simp
  have hcol := (h.cols.push (Nat.le_refl _) hc hn).mono (Nat.le_refl B) hc.size
  refine ⟨cellOfS hb1 1 _ rfl, ⟨heap_setCell_same w1 R 1 _ _ _ hb1, h.hR, ?_, ?_⟩, ?_⟩
  · rw [hs]; exact ⟨ownField hcol.own hb1, hcol.ap⟩
  · rw [hs]; exact ownField ho hb1
  · exact (h.cnts.chgBelow hc hB).trans ((chgField w1 R 1 _).below (Nat.le_trans hB hc.size) (fun k hk => by rw [hk]; exact h.hR))
theorem Sl.cntSet {B R w a n c xs g n2 c2 zs} (h : Sl B w.heap.size R w a n c xs (some ⟨g, 0, none⟩) n2 c2 zs) (i : Nat) (x : Int) (hB : B ≤ w.heap.size) :
    Sl B (w.setCell ⟨g, i, none⟩ (.int .i64 x)).heap.size R (w.setCell ⟨g, i, none⟩ (.int .i64 x)) a n c xs (some ⟨g, 0, none⟩) n2 c2 (zs.set i x) ∧ Below B w (w.setCell ⟨g, i, none⟩ (.int .i64 x)) := by
  have hc := chgCell w g i n2 c2 (.int .i64 x)
  have hs : (w.setCell ⟨g, i, none⟩ (.int .i64 x)).heap.size = w.heap.size := by simp
  rw [hs]
  refine ⟨⟨?_, h.hR, h.cols.chg hc, (h.cnts.set i x).1⟩, h.cnts.chgBelow hc hB⟩
  rw [hc.block R h.size (notR h.cnts h.blk)]; exact h.blk
/-- other columns -/
theorem Sl.colSet {B R w g n c xs a2 n2 c2 zs} (h : Sl B w.heap.size R w (some ⟨g, 0, none⟩) n c xs a2 n2 c2 zs) (i : Nat) (x : Int) (hB : B ≤ w.heap.size) :
    Sl B (w.setCell ⟨g, i, none⟩ (.int .i64 x)).heap.size R (w.setCell ⟨g, i, none⟩ (.int .i64 x)) (some ⟨g, 0, none⟩) n c (xs.set i x) a2 n2 c2 zs ∧ Below B w (w.setCell ⟨g, i, none⟩ (.int .i64 x)) := by
  have hc := chgCell w g i n c (.int .i64 x)
  have hs : (w.setCell ⟨g, i, none⟩ (.int .i64 x)).heap.size = w.heap.size := by simp
  rw [hs]
  refine ⟨⟨?_, h.hR, ⟨(h.cols.own.set i x).1, h.cols.ap⟩, h.cnts.chg hc fun g' _ _ h1 h2 => h.cols.ap g' h1 h2⟩, h.cols.own.chgBelow hc hB⟩
  rw [hc.block R h.size (notR h.cols.own h.blk)]; exact h.blk
theorem Sl.col {B R w w1 a n c xs a2 n2 c2 zs a3 n3 c3 us} (h : Sl B w.heap.size R w a n c xs a2 n2 c2 zs) (ho : Own B w1.heap.size w1 a3 n3 c3 us) (hc : Chg (fun k => (Value.slice a n c).ownBlock = some k) w w1) (hn : NewOr w (.slice a n c) (.slice a3 n3 c3)) (hB : B ≤ w.heap.size) :
    (w1.cell? ⟨R, 0, none⟩ = some (.slice a n c) ∧ w1.frozen? ⟨R, 0, none⟩ = false) ∧ Sl B (w1.setCell ⟨R, 0, none⟩ (.slice a3 n3 c3)).heap.size R (w1.setCell ⟨R, 0, none⟩ (.slice a3 n3 c3)) a3 n3 c3 us a2 n2 c2 zs ∧ Below B w (w1.setCell ⟨R, 0, none⟩ (.slice a3 n3 c3)) := by
  have hb1 : w1.heap[R]? = some (.cells #[.slice a n c, .slice a2 n2 c2] 50 (0, 0)) := by
    rw [hc.block R h.size (notR h.cols.own h.blk)]; exact h.blk
  have hs : (w1.setCell ⟨R, 0, none⟩ (.slice a3 n3 c3)).heap.size = w1.heap.size := by simp
  have hcn : Own B w1.heap.size w1 a2 n2 c2 zs := (h.cnts.chg hc fun g' _ _ h1 h2 => h.cols.ap g' h1 h2).mono (Nat.le_refl _) hc.size
  have hap : ∀ g, (Value.slice a2 n2 c2).ownBlock = some g → (Value.slice a3 n3 c3).ownBlock ≠ some g := fun g hg h1 => by
    rcases hn g h1 with h2 | h2
    · exact h.cols.ap g hg h2
    · have := h.cnts.2 g hg; omega
  refine ⟨cellOfS hb1 0 _ rfl, ⟨heap_setCell_same w1 R 0 _ _ _ hb1, h.hR, ?_, ?_⟩, ?_⟩
  · rw [hs]; exact ⟨ownField ho hb1, hap⟩
  · rw [hs]; exact ownField hcn hb1
  · exact (h.cols.own.chgBelow hc hB).trans ((chgField w1 R 0 _).below (Nat.le_trans hB hc.size) (fun k hk => by rw [hk]; exact h.hR))

set_option maxHeartbeats 3200000 in
theorem note_any (B R : Nat) (a : Option Addr) (n c : Nat) (xs : List Int) (a2 : Option Addr) (n2 c2 : Nat) (zs : List Int) (i : Nat) (u : FrameMode) (w : World) (h : Sl B w.heap.size R w a n c xs a2 n2 c2 zs) (hB : B ≤ w.heap.size) (hn2 : n2 ≤ 24) (hi : i < 24) (hz : ∀ j, 0 ≤ zs.getD j 0 ∧ zs.getD j 0 ≤ 576) :
    CallsD Tryz.prog 72 #[.pointer (some ⟨R, 0, none⟩), .int .i64 i] u w fun e u' w' => u' = u ∧ (e = .returned (.tuple #[]) ∧ ∃ a3 n3 c3, Sl B w'.heap.size R w' a n c xs a3 n3 c3 (bump zs i) ∧ Below B w w') := by
  have hzl := h.cnts.length
  have hiI : (i : Int) < 24 := by omega
  have Hz := Lib.hid hz; clear hz
  have Hzl := Lib.hid hzl; clear hzl
  go_enter_d Tryz.func72, Tryz.ntmps72
  go_wp2_with fail
  go_loopg [] 30 (fun k wr => ∃ (q : Nat) (a3 : Option Addr) (c3 : Nat), n2 ≤ q ∧ q ≤ max n2 (i + 1) ∧ k + q = 30 + n2 ∧ Sl B wr.heap.size R wr a n c xs a3 q c3 (zs ++ List.replicate (q - n2) 0) ∧ Below B w wr)
  case atStart => exact ⟨n2, a2, c2, Nat.le_refl _, by omega, rfl, by simpa using h, Below.refl _ _⟩
  case round =>
    obtain ⟨q, a3, c3, hq1, hq2, hk, hs, hb⟩ := hrel
    have hBr := Nat.le_trans hB hb.size
    obtain ⟨k0, k1⟩ := hs.c1
    by_cases hlt : q ≤ i
    · have hlI : (q : Int) ≤ i := by omega
      have hcn := hs.cnts
      have Hk := Lib.hid hk; clear hk
      have Hs := Lib.hid hs; clear hs
      go_wp2_with (at_builtin; refine wpList_pushI wr rfl _ _ rfl B wr.heap.size a3 q c3 _ rfl hcn 0 rfl (by omega) hBr ?_)
      intro a4 c4 w4 ho4 hc4 hn4
      obtain ⟨⟨k2, k3⟩, hsl, hbl⟩ := Hs.out.cnt ho4 hc4 hn4 hBr
      have hbb := hb.trans hbl
      clear hcn hc4 hn4 ho4 hb hbl k0 k1
      have Hsl := Lib.hid hsl; clear hsl
      have Hbb := Lib.hid hbb; clear hbb
      go_wp2
      go_roundg (29 + n2 - q)
      case measure => have := Hk.out; omega
      case rel => exact ⟨q + 1, a4, c4, by omega, by omega, by have := Hk.out; omega, by rw [show q + 1 - n2 = (q - n2) + 1 by omega, List.replicate_succ']; simpa using Hsl.out, Hbb.out⟩
    · have hpe : q - n2 = i + 1 - zs.length := by rw [Hzl.out]; omega
      obtain ⟨_, hz', _⟩ | ⟨g, rfl, hg, hgE, hgw⟩ := hs.cnts.cases
      · omega
      · have hck2 := getD_cells hs.cnts i (by omega)
        have hval : (zs ++ List.replicate (q - n2) 0).getD i 0 = zs.getD i 0 := getD_pad zs _ i
        have hfz := hs.cnts.frozenAt i
        rw [hval] at hck2
        have hxk := Hz.out i
        have hbm : (zs ++ List.replicate (q - n2) 0).set i (zs.getD i 0 + 1) = bump zs i := by unfold bump; rw [← hpe, hval]
        obtain ⟨hset, hbl⟩ := hs.cntSet i (zs.getD i 0 + 1) hBr
        rw [hbm] at hset
        have hbb := hb.trans hbl
        have hiq : (i : Int) < q := by omega
        have hiq2 : ¬ ((q : Int) ≤ i) := by omega
        generalize zs.getD i 0 = y at *
        clear hs hb hbl hval hbm hpe
        have Hset := Lib.hid hset; clear hset
        have Hbb := Lib.hid hbb; clear hbb
        have Hk := Lib.hid hk; clear hk
        go_wp2
        go_end0
        refine ⟨rfl, ⟨some ⟨g, 0, none⟩, q, c3, ?_⟩, Hbb.out⟩
        first | exact Hset.out | simpa using Hset.out

/-! ### let -/
theorem mColV (b : Bool) (i : Nat) : ∃ (T : TypeId) (f : FuncId), fallV b i = .iface T (.int .i64 i) ∧ (∀ w, (method 247 T (.int .i64 i) "loop.example/g01114/impl.column").run Tryz.prog w = .ok (f, .int .i64 i) w) ∧ ((∀ args w, (callFunc f args).run Tryz.prog w = .ok (.enter f args) w)) ∧ (∀ w, Calls Tryz.prog f #[.int .i64 i] w fun e w' => e = .returned (.int .i64 i) ∧ w = w') := by
  cases b
  · exact ⟨_, _, rfl, mColC _, (fun _ _ => by kernel_rfl), fun w => colC_any _ w⟩
  · exact ⟨_, _, rfl, mColG _, (fun _ _ => by kernel_rfl), fun w => colG_any _ w⟩

set_option maxHeartbeats 6400000 in
theorem letIn_any (B R : Nat) (a : Option Addr) (n c : Nat) (xs : List Int) (a2 : Option Addr) (n2 c2 : Nat) (zs : List Int) (i : Nat) (w : World) (h : Sl B w.heap.size R w a n c xs a2 n2 c2 zs) (hB : B ≤ w.heap.size) (hg : Grains xs) (hi : i + 1 < n) (hn2 : n2 ≤ 24) (hz : ∀ j, 0 ≤ zs.getD j 0 ∧ zs.getD j 0 ≤ 576) :
    Calls Tryz.prog 54 #[.pointer (some ⟨R, 0, none⟩), fallV false i] w fun e w' => e = .returned (.tuple #[]) ∧ ∃ a' n' c' a3 n3 c3, Sl B w'.heap.size R w' a' n' c' (fallL xs i) a3 n3 c3 (bump zs i) ∧ Below B w w' := by
  have hl := h.cols.own.length
  have hlen := hg.len
  have hn24 : (n : Int) ≤ 24 := by omega
  have hm := mColC (.int .i64 i)
  have hx1 := grains_at hg i
  have hy1 := grains_at hg (i + 1)
  have hfl := fallL_in (xs := xs) (i := i) (by omega)
  rcases h.cols.own.cases with ⟨_, hz0, _⟩ | ⟨g, rfl, hgB, hgE, hgs⟩
  · omega
  have hck := getD_cells h.cols.own i (by omega)
  have hfz := h.cols.own.frozenAt i
  obtain ⟨hs1, hb1⟩ := h.colSet i (xs.getD i 0 - 1) hB
  have hB1 := Nat.le_trans hB hb1.size
  have hck1 := getD_cells hs1.cols.own (i + 1) hi
  rw [getD_set_neM _ _ _ _ _ (by omega)] at hck1
  have hfz1 := hs1.cols.own.frozenAt (i + 1)
  obtain ⟨hs2, hb2⟩ := hs1.colSet (i + 1) (xs.getD (i + 1) 0 + 1) hB1
  have hB2 := Nat.le_trans hB1 hb2.size
  rw [← hfl] at hs2
  obtain ⟨k0, k1⟩ := h.c0
  obtain ⟨k2, k3⟩ := hs1.c0
  have hbb := hb1.trans hb2
  have hcon := fun u => note_any B R _ n c (fallL xs i) a2 n2 c2 zs i u _ hs2 hB2 hn2 (by omega) hz
  generalize fallL xs i = L at *
  generalize xs.getD i 0 = x at *
  generalize xs.getD (i + 1) 0 = y at *
  have hi1 : (i : Int) + 1 < n := by omega
  clear h hs1 hs2 hb1 hb2 hfl
  have Hcon := Lib.hid hcon; clear hcon
  have Hbb := Lib.hid hbb; clear hbb
  have Hl := Lib.hid hl; clear hl
  have Hg := Lib.hid hg; clear hg
  have Hz := Lib.hid hz; clear hz
  have hta : ∀ w, (Instr.typeAssert (.iface 84 (.int .i64 i)) 61 84 true).run Tryz.prog w = .ok (.tuple #[.int .i64 i, .bool true]) w := fun _ => by kernel_rfl
  unfold fallV
  go_enter_defers Tryz.func54, Tryz.ntmps54
  go_wp2_with fail
  with_reducible refine (colC_any _ _).mono ?_
  rintro e w' ⟨rfl, rfl⟩
  go_wp2_with fail
  refine leaves_cons (f := 72) (args := #[.pointer (some ⟨R, 0, none⟩), .int .i64 i]) (by simp) (by simp [go_sem]) ?_
  refine (Hcon.out _).mono ?_
  rintro e u' w'' ⟨rfl, rfl, a3, n3, c3, hs, hb⟩
  exact ⟨_, results_none rfl _ _ _, rfl, _, _, _, a3, n3, c3, hs, Hbb.out.trans hb⟩

set_option maxHeartbeats 6400000 in
theorem letEnd_any (B R : Nat) (a : Option Addr) (n c : Nat) (xs : List Int) (a2 : Option Addr) (n2 c2 : Nat) (zs : List Int) (i : Nat) (w : World) (h : Sl B w.heap.size R w a n c xs a2 n2 c2 zs) (hB : B ≤ w.heap.size) (hg : Grains xs) (hi : i + 1 = n) (hn2 : n2 ≤ 24) (hz : ∀ j, 0 ≤ zs.getD j 0 ∧ zs.getD j 0 ≤ 576) :
    Calls Tryz.prog 54 #[.pointer (some ⟨R, 0, none⟩), fallV true i] w fun e w' => e = .returned (.tuple #[]) ∧ ∃ a' n' c' a3 n3 c3, Sl B w'.heap.size R w' a' n' c' (fallL xs i) a3 n3 c3 (bump zs i) ∧ Below B w w' := by
  have hl := h.cols.own.length
  have hlen := hg.len
  have hn24 : (n : Int) ≤ 24 := by omega
  have hm := mColG (.int .i64 i)
  have hx1 := grains_at hg i
  have hfl := fallL_end (xs := xs) (i := i) (by omega)
  rcases h.cols.own.cases with ⟨_, hz0, _⟩ | ⟨g, rfl, hgB, hgE, hgs⟩
  · omega
  have hck := getD_cells h.cols.own i (by omega)
  have hfz := h.cols.own.frozenAt i
  obtain ⟨hs1, hb1⟩ := h.colSet i (xs.getD i 0 - 1) hB
  have hB1 := Nat.le_trans hB hb1.size
  have hsz : (w.setCell ⟨g, i, none⟩ (.int .i64 (xs.getD i 0 - 1))).heap.size = w.heap.size := by simp
  obtain ⟨k0, k1⟩ := h.c0
  obtain ⟨k2, k3⟩ := hs1.c0
  have hown := hs1.cols.own
  have hcon := fun a3 n3 c3 W (hs : Sl B W.heap.size R W a3 n3 c3 (fallL xs i) a2 n2 c2 zs) (hW : B ≤ W.heap.size) u => note_any B R a3 n3 c3 (fallL xs i) a2 n2 c2 zs i u W hs hW hn2 (by omega) hz
  rw [hfl] at hcon
  rw [hfl]
  generalize xs.getD i 0 = x at *
  have hta : ∀ w, (Instr.typeAssert (.iface 85 (.int .i64 i)) 61 84 true).run Tryz.prog w = .ok (.tuple #[.int .i64 0, .bool false]) w := fun _ => by kernel_rfl
  have hta2 : ∀ w, (Instr.typeAssert (.iface 85 (.int .i64 i)) 61 85 true).run Tryz.prog w = .ok (.tuple #[.int .i64 i, .bool true]) w := fun _ => by kernel_rfl
  have hiI : (i : Int) < n := by omega
  clear h hfl
  have Hcon := Lib.hid hcon; clear hcon
  have Hb1 := Lib.hid hb1; clear hb1
  have Hl := Lib.hid hl; clear hl
  have Hg := Lib.hid hg; clear hg
  have Hz := Lib.hid hz; clear hz
  have Hs1 := Lib.hid hs1; clear hs1
  have Hsz := Lib.hid hsz; clear hsz
  have Hown := Lib.hid hown; clear hown
  unfold fallV
  go_enter_defers Tryz.func54, Tryz.ntmps54
  go_wp2_with fail
  with_reducible refine (colG_any _ _).mono ?_
  rintro e w' ⟨rfl, rfl⟩
  go_wp2_with (at_builtin; refine wpList_pushI (w.setCell ⟨g, i, none⟩ (.int .i64 (x - 1))) rfl _ _ rfl B _ _ n _ _ rfl Hown.out 1 (by rw [Hsz.out]; rfl) (by omega) hB1 ?_)
  intro a4 c4 w4 ho4 hc4 hn4
  obtain ⟨⟨k4, k5⟩, hsl, hbl⟩ := Hs1.out.col ho4 hc4 hn4 hB1
  have hbb := Hb1.out.trans hbl
  have hBf := Nat.le_trans hB hbb.size
  have hcon2 := Hcon.out _ _ _ _ hsl hBf
  clear hc4 hn4 ho4 hbl hsl
  have Hbb := Lib.hid hbb; clear hbb
  have Hcon2 := Lib.hid hcon2; clear hcon2
  go_wp2_with fail
  refine leaves_cons (f := 72) (args := #[.pointer (some ⟨R, 0, none⟩), .int .i64 i]) (by simp) (by simp [go_sem]) ?_
  refine (Hcon2.out _).mono ?_
  rintro e u' w'' ⟨rfl, rfl, a3, n3, c3, hs, hb⟩
  exact ⟨_, results_none rfl _ _ _, rfl, _, _, _, a3, n3, c3, hs, Hbb.out.trans hb⟩
end
end Go.Proofs.YtdfmljkjidepeaaGreatDoor
namespace Go.Proofs.YtdfmljkjidepeaaGreatDoor
section
open Go.RowKit
set_option linter.unusedVariables false
set_option linter.unusedSimpArgs false
set_option maxRecDepth 20000

theorem slideFrom_any (ao : Option Addr) (n cap : Nat) (xs : List Int) (w : World) (h : IntsAt w ao n cap xs) (hn : n ≤ 1048576) :
    Calls Tryz.prog 53 #[.slice ao n cap] w fun e w' => ∃ R a c, e = .returned (.pointer (some ⟨R, 0, none⟩)) ∧ Sl w.heap.size w'.heap.size R w' a n c xs none 0 0 [] ∧ Below w.heap.size w w' := by
  have hcp := copyOf_any ao n cap xs w h hn
  have Hcp := Lib.hid hcp; clear hcp
  go_enter Tryz.func53, Tryz.ntmps53
  go_wp2_with fail
  with_reducible refine (Hcp.out).mono ?_
  rintro e w1 ⟨a1, c1, rfl, ho1, hb1⟩
  have hs1 := hb1.size
  have hblk : (w1.alloc (.cells #[.slice a1 n c1, .slice none 0 0] 50)).heap[w1.heap.size]? = some (.cells #[.slice a1 n c1, .slice none 0 0] 50 (0, 0)) := by rw [heap_alloc_new]
  have hsl : Sl w.heap.size (w1.alloc (.cells #[.slice a1 n c1, .slice none 0 0] 50)).heap.size w1.heap.size (w1.alloc (.cells #[.slice a1 n c1, .slice none 0 0] 50)) a1 n c1 xs none 0 0 [] :=
    ⟨hblk, hs1, Sep.nil ((ho1.keep (belowAlloc w1 _)).mono (Nat.le_refl _) (by simp)), Own.nil _ _ _⟩
  have hbb := hb1.alloc hs1 (.cells #[.slice a1 n c1, .slice none 0 0] 50)
  clear ho1 hb1 hblk
  have Hsl := Lib.hid hsl; clear hsl
  have Hbb := Lib.hid hbb; clear hbb
  go_wp2
  go_ret
  exact ⟨_, _, _, rfl, Hsl.out, Hbb.out⟩

theorem sandS_any (B E R : Nat) (a : Option Addr) (n c : Nat) (xs : List Int) (a2 : Option Addr) (n2 c2 : Nat) (zs : List Int) (w : World) (h : Sl B E R w a n c xs a2 n2 c2 zs) :
    Calls Tryz.prog 56 #[.pointer (some ⟨R, 0, none⟩)] w fun e w' => ∃ ao' n' cap', e = .returned (.tuple #[.slice ao' n' cap', .bool (ifSand (some xs)).2]) ∧ Own B E w' ao' n' cap' (ifSand (some xs)).1 ∧ w = w' := by
  obtain ⟨k0, k1⟩ := h.c0
  have hown := h.cols.own
  cases hg : sandB xs
  · have hm := ifSand_no hg
    have Hg := Lib.hid hg; clear hg
    have Hm := Lib.hid hm; clear hm
    go_enter Tryz.func56, Tryz.ntmps56
    go_wp2_with fail
    with_reducible refine (isSand_no _ _ _ _ _ hown.at Hg.out).mono ?_
    rintro e w' ⟨rfl, rfl⟩
    go_wp2
    go_ret2
    rw [Hm.out]
    exact ⟨none, 0, 0, rfl, Own.nil _ _ _, rfl⟩
  · have hm := ifSand_yes hg
    have Hg := Lib.hid hg; clear hg
    have Hm := Lib.hid hm; clear hm
    go_enter Tryz.func56, Tryz.ntmps56
    go_wp2_with fail
    with_reducible refine (isSand_yes _ _ _ _ _ hown.at (sand_iff.1 Hg.out)).mono ?_
    rintro e w' ⟨rfl, rfl⟩
    go_wp2
    go_ret2
    rw [Hm.out]
    exact ⟨_, _, _, rfl, hown, rfl⟩

theorem let_any (B R : Nat) (a : Option Addr) (n c : Nat) (xs : List Int) (a2 : Option Addr) (n2 c2 : Nat) (zs : List Int) (i : Nat) (w : World) (h : Sl B w.heap.size R w a n c xs a2 n2 c2 zs) (hB : B ≤ w.heap.size) (hg : Grains xs) (hi : i < n) (hn2 : n2 ≤ 24) (hz : ∀ j, 0 ≤ zs.getD j 0 ∧ zs.getD j 0 ≤ 576) :
    Calls Tryz.prog 54 #[.pointer (some ⟨R, 0, none⟩), fallV (decide (i + 1 = n)) i] w fun e w' => e = .returned (.tuple #[]) ∧ ∃ a' n' c' a3 n3 c3, Sl B w'.heap.size R w' a' n' c' (fallL xs i) a3 n3 c3 (bump zs i) ∧ Below B w w' := by
  by_cases he : i + 1 = n
  · rw [decide_eq_true he]; exact letEnd_any B R a n c xs a2 n2 c2 zs i w h hB hg he hn2 hz
  · rw [decide_eq_false he]; exact letIn_any B R a n c xs a2 n2 c2 zs i w h hB hg (by omega) hn2 hz

theorem fallsV_first {xs : List Int} {i : Nat} (h : firstN xs = some i) : (fallsV xs xs.length)[0]? = some (fallV (decide (i + 1 = xs.length)) i) := by
  unfold firstN at h
  unfold fallsV
  rw [List.getElem?_map, ← List.head?_eq_getElem?, h]
  rfl

set_option maxHeartbeats 6400000 in
theorem settled_any (ao : Option Addr) (n cap : Nat) (xs : List Int) (w : World) (h : IntsAt w ao n cap xs) (hg : Grains xs) :
    Calls Tryz.prog 30 #[.slice ao n cap] w fun e w' => ∃ R a1 n1 c1 a2 n2 c2, e = .returned (.pointer (some ⟨R, 0, none⟩)) ∧ Sl w.heap.size w'.heap.size R w' a1 n1 c1 (settleL xs) a2 n2 c2 (countsL xs) ∧ Below w.heap.size w w' := by
  have hl := h.length
  have hlen := hg.len
  have hcp := slideFrom_any ao n cap xs w h (by omega)
  have Hl := Lib.hid hl; clear hl
  have Hg := Lib.hid hg; clear hg
  have Hcp := Lib.hid hcp; clear hcp
  go_enter Tryz.func30, Tryz.ntmps30
  go_wp2_with fail
  with_reducible refine (Hcp.out).mono ?_
  rintro e w1 ⟨R, a1, c1, rfl, hs1, hb1⟩
  obtain ⟨k0, k1⟩ := hs1.c0
  go_wp2_with fail
  with_reducible refine (fallsOf_any _ _ _ _ _ hs1.cols.own.at Hg.out).mono ?_
  rintro e w2 ⟨a3, n3, c3, rfl, ho3, hb3⟩
  have hsz3 := hb3.size
  have hs2 := (hs1.keep hb3).mono hsz3
  have hb2 := belowTrans hb1 hb3 (Nat.le_refl _)
  clear hs1 hb1 hb3 k0 k1
  go_wp2_with fail
  go_loopg [4] 577 (fun k f wr => ∃ (t : Nat) (a1 : Option Addr) (n1 c1 : Nat) (a2 : Option Addr) (n2 c2 : Nat) (a3 : Option Addr) (n3 c3 B3 E3 : Nat), f = .slice a3 n3 c3 ∧ k + t = 577 ∧ Hid (∀ q, q < t → firstN (stepsS xs q) ≠ none) ∧
      Sl w.heap.size wr.heap.size R wr a1 n1 c1 (stepsS xs t) a2 n2 c2 (cntS xs t) ∧ OwnRow B3 E3 wr 61 a3 n3 c3 (fallsV (stepsS xs t) n1) ∧ Below w.heap.size w wr)
  case atStart => exact ⟨0, a1, n, c1, none, 0, 0, a3, n3, c3, _, _, rfl, rfl, Lib.hid (fun q hq => absurd hq (Nat.not_lt_zero _)), hs2, ho3, hb2⟩
  case round =>
    obtain ⟨t, a1, n1, c1, a2, n2, c2, a3, n3, c3, B3, E3, rfl, hk, Hno, hsl, hfa, hb⟩ := hrel
    clear hs2 ho3 hb2
    have hgo := steps_go Hg.out Hno.out
    have hfew := steps_few Hg.out Hno.out
    have hn3 := hfa.length
    rw [fallsV_length] at hn3
    have hn1 := hsl.cols.own.length
    have hn2 := hsl.cnts.length
    have hcv := cnts_go Hg.out Hno.out
    have hfl : fallsT (stepsS xs t) n1 = fallsL (stepsS xs t) := by unfold fallsL; rw [hn1]
    rw [hfl] at hn3
    by_cases hz : n3 = 0
    · have hnil : firstN (stepsS xs t) = none := firstN_nil.2 (List.eq_nil_of_length_eq_zero (by omega))
      obtain ⟨e1, e2⟩ := settle_at Hg.out Hno.out hnil
      rw [← e1, ← e2] at hsl
      subst hz
      clear hfa hgo hcv hn1 hn2 hn3 hfl
      have Hsl := Lib.hid hsl; clear hsl
      have Hnil := Lib.hid hnil; clear hnil
      have E1 := Lib.hid e1; clear e1
      have E2 := Lib.hid e2; clear e2
      go_wp2
      go_ret
      exact ⟨_, _, _, _, _, _, _, rfl, Hsl.out, hb⟩
    · have hpos : (0 : Int) < n3 := by omega
      obtain ⟨x, l, hxl⟩ : ∃ x l, fallsL (stepsS xs t) = x :: l := by
        cases hh : fallsL (stepsS xs t) with
        | nil => rw [hh] at hn3; exact absurd hn3.symm hz
        | cons x l => exact ⟨x, l, rfl⟩
      obtain ⟨i, rfl, hfi, hilt, _⟩ := firstN_cons hxl
      obtain ⟨e1, e2⟩ := step_fall hfi
      have hno2 : ∀ q, q < t + 1 → firstN (stepsS xs q) ≠ none := fun q hq => by
        by_cases e : q = t
        · subst e; rw [hfi]; simp
        · exact Hno.out q (by omega)
      have hfew2 := steps_few Hg.out hno2
      have hgr2 := (steps_go Hg.out hno2).1
      have hz24 := hgo.2.2.1
      have hG := hgo.1
      have hv0 := fallsV_first hfi
      rw [hn1] at hv0
      rcases hfa.cases with ⟨_, hz', _⟩ | ⟨g3, rfl, _, _, hg3⟩
      · exact absurd hz' hz
      have hck := World.ownsRow.cellAt hfa.1 0 (by omega)
      have hvl : (fallsV (stepsS xs t) n1)[0]'(by rw [fallsV_length, hfl]; omega) = fallV (decide (i + 1 = n1)) i := by
        rw [List.getElem?_eq_getElem (by rw [fallsV_length, hfl]; omega)] at hv0
        simpa using hv0
      rw [List.getElem?_eq_getElem (by rw [fallsV_length, hfl]; omega), hvl] at hck
      have hcon := let_any w.heap.size R a1 n1 c1 (stepsS xs t) a2 n2 c2 (cntS xs t) i wr hsl hb.size hG (by omega) (by omega) hcv
      rw [← e1, ← e2] at hcon
      have hcon2 := fun a n c W hh => fallsOf_any a n c (stepsS xs (t + 1)) W hh hgr2
      generalize fallV (decide (i + 1 = n1)) i = fv at *
      clear hfa hvl hv0 hgo hcv hsl hn1 hn2 hn3 hfl
      have Hxl := Lib.hid hxl; clear hxl
      have Hfi := Lib.hid hfi; clear hfi
      have E1 := Lib.hid e1; clear e1
      have E2 := Lib.hid e2; clear e2
      have Hno2 := Lib.hid hno2; clear hno2
      have Hgr2 := Lib.hid hgr2; clear hgr2
      have HG := Lib.hid hG; clear hG
      have Hcon := Lib.hid hcon; clear hcon
      have Hcon2 := Lib.hid hcon2; clear hcon2
      have Hk := Lib.hid hk; clear hk
      have Hfew := Lib.hid hfew; clear hfew
      have Hfew2 := Lib.hid hfew2; clear hfew2
      have Hz24 := Lib.hid hz24; clear hz24
      go_wp2_with fail
      with_reducible refine (Hcon.out).mono ?_
      rintro e w4 ⟨rfl, a4, n4, c4, a5, n5, c5, hs4, hb4⟩
      obtain ⟨k0, k1⟩ := hs4.c0
      go_wp2_with fail
      with_reducible refine (Hcon2.out _ _ _ _ hs4.cols.own.at).mono ?_
      rintro e w6 ⟨a6, n6, c6, rfl, ho6, hb6⟩
      have hsz6 := hb6.size
      have hs6 := (hs4.keep hb6).mono hsz6
      have hbw := belowTrans (hb.trans hb4) hb6 (Nat.le_refl _)
      have hrow : OwnRow w4.heap.size w6.heap.size w6 61 a6 n6 c6 (fallsV (stepsS xs (t + 1)) n4) := ho6
      clear hs4 hb4 hb6 ho6 hck k0 k1
      have Hs6 := Lib.hid hs6; clear hs6
      have Hrow := Lib.hid hrow; clear hrow
      go_wp2
      go_roundg (576 - t)
      case measure => have := Hk.out; have := Hfew2.out; omega
      case rel => exact ⟨t + 1, a4, n4, c4, a5, n5, c5, a6, n6, c6, _, _, rfl, by have := Hk.out; have := Hfew2.out; omega, Lib.hid Hno2.out, Hs6.out, Hrow.out, hbw⟩
end
end Go.Proofs.YtdfmljkjidepeaaGreatDoor
namespace Go.Proofs.YtdfmljkjidepeaaGreatDoor
section
open Go.RowKit
set_option linter.unusedVariables false
set_option linter.unusedSimpArgs false
set_option maxRecDepth 20000

theorem fallsV_at {xs : List Int} {k n : Nat} (hk : k < (fallsV xs n).length) : ∃ (b : Bool) (i : Nat), (fallsV xs n)[k]? = some (fallV b i) ∧ (fallsT xs n).getD k 0 = (i : Int) := by
  unfold fallsV fallsT at *
  rw [List.length_map] at hk
  refine ⟨decide ((fallsN xs n)[k] + 1 = xs.length), (fallsN xs n)[k], ?_, ?_⟩
  · rw [List.getElem?_map, List.getElem?_eq_getElem hk]; rfl
  · rw [List.getD_eq_getElem?_getD, List.getElem?_map, List.getElem?_eq_getElem hk]; rfl

set_option maxHeartbeats 3200000 in
theorem impl_FallsOf (ao : Option Addr) (n cap : Nat) (xs : List Int) (w : World) (h : IntsAt w ao n cap xs) :
    Calls Tryz.prog 17 #[.slice ao n cap] w fun e w' => ∃ ao' n' cap', e = .returned (.tuple #[.slice ao' n' cap', .bool (mFallsOf xs).2]) ∧ Own w.heap.size w'.heap.size w' ao' n' cap' (mFallsOf xs).1 ∧ Below w.heap.size w w' := by
  cases hg : sandB xs
  · have hm := mFallsOf_no hg
    have Hg := Lib.hid hg; clear hg
    have Hm := Lib.hid hm; clear hm
    go_enter Tryz.func17, Tryz.ntmps17
    go_wp2_with fail
    with_reducible refine (isSand_no _ _ _ _ _ h Hg.out).mono ?_
    rintro e w' ⟨rfl, rfl⟩
    go_wp2
    go_ret2
    rw [Hm.out]
    exact ⟨none, 0, 0, rfl, Own.nil _ _ _, Below.refl _ _⟩
  · have hm := mFallsOf_yes hg
    have hG := sand_iff.1 hg
    have hl := h.length
    have hlen := hG.grains.len
    have hem := Own.empty w
    have hba := belowAlloc w (.cells #[] 3)
    have hwa : (w.alloc (.cells #[] 3)).heap.size = w.heap.size + 1 := by simp
    have hcp := fallsOf_any ao n cap xs _ (h.keep hba) hG.grains
    have hff : fallsT xs n = fallsL xs := by unfold fallsL; rw [hl]
    have Hg := Lib.hid hg; clear hg
    have Hm := Lib.hid hm; clear hm
    have HG := Lib.hid hG; clear hG
    have Hl := Lib.hid hl; clear hl
    have Hcp := Lib.hid hcp; clear hcp
    have Hba := Lib.hid hba; clear hba
    have Hem := Lib.hid hem; clear hem
    have Hwa := Lib.hid hwa; clear hwa
    have Hff := Lib.hid hff; clear hff
    go_enter Tryz.func17, Tryz.ntmps17
    go_wp2_with fail
    with_reducible refine (isSand_yes _ _ _ _ _ h HG.out).mono ?_
    rintro e w' ⟨rfl, rfl⟩
    go_wp2_with fail
    with_reducible refine (Hcp.out).mono ?_
    rintro e w1 ⟨a1, n1, c1, rfl, ho1, hb1⟩
    have hs1 := hb1.size
    rw [Hwa.out] at hs1
    have hn1 := ho1.length
    have hn2 := fallsT_length xs n
    rw [fallsV_length] at hn1
    have hem1 := (Hem.out.keep hb1).mono (Nat.le_refl _) (by rw [Hwa.out]; exact hs1)
    have hb2 := belowTrans (Hba.out) hb1 (Nat.le_refl _)
    have hsep : Sep w.heap.size w1.heap.size w1 (.slice none 0 0) (some ⟨w.heap.size, 0, none⟩) 0 0 [] := Sep.nil hem1
    rw [hn1] at hn2
    have hn3 : n1 ≤ 24 := by have := Hl.out; omega
    clear hb1 hsep
    have Hn1 := Lib.hid hn1; clear hn1
    have Hn2 := Lib.hid hn2; clear hn2
    go_wp2_with fail
    go_loopw [4, 14] (fun v i wr => ∃ (k : Nat) (a : Option Addr) (c : Nat), k ≤ n1 ∧ i = .int .i64 k ∧ v = .slice a k c ∧ Own w.heap.size wr.heap.size wr a k c ((fallsT xs n).take k) ∧ OwnRow (w.heap.size + 1) w1.heap.size wr 61 a1 n1 c1 (fallsV xs n) ∧ Below w.heap.size w wr) (fun _ i _ => n1 - (intOf i).toNat)
    case atStart => exact ⟨0, _, 0, Nat.zero_le _, rfl, rfl, by simpa using hem1, ho1.mono (by rw [Hwa.out]; exact Nat.le_refl _) (Nat.le_refl _), hb2⟩
    case round =>
      obtain ⟨k, a, c, hk, rfl, rfl, hown, hrow, hb⟩ := hrel
      clear ho1 hem1 hb2
      by_cases hlt : k < n1
      · obtain ⟨bb, i, hv1, hv2⟩ := fallsV_at (xs := xs) (k := k) (n := n) (by rw [fallsV_length, Hn1.out]; exact hlt)
        rcases hrow.cases with ⟨_, hz', _⟩ | ⟨g3, rfl, _, _, hg3⟩
        · omega
        have hck := World.ownsRow.cellAt hrow.1 k (by omega)
        rw [hv1] at hck
        have e := take_snoc hv2 hlt Hn1.out
        obtain ⟨T, f, hfv, hme, hent, hcol⟩ := mColV bb i
        rw [hfv] at hck
        clear hv1 hfv
        have E := Lib.hid e; clear e
        have Hv2 := Lib.hid hv2; clear hv2
        have Hcol := Lib.hid hcol; clear hcol
        go_wp2_with fail
        with_reducible refine (Hcol.out _).mono ?_
        rintro e w' ⟨rfl, rfl⟩
        go_wp2_with (at_builtin; refine wpList_pushI wr rfl _ _ rfl w.heap.size wr.heap.size a k c _ rfl hown _ rfl (by omega) hb.size ?_)
        intro ao2 cap2 w2 ho2 hc2 _
        have hb3 := hb.trans (hown.chgBelow hc2 hb.size)
        have hrow2 := hrow.chg hc2 (fun g _ _ h1 h2 => OwnRow.apart_ty hrow hown (by decide) h1 h2)
        clear hown hrow hc2 hck hb
        go_wp2
        go_roundw
        case rel => exact ⟨k + 1, ao2, cap2, by omega, by go_num, rfl, by rw [E.out]; exact ho2, hrow2, hb3⟩
        case measure => simp [intOf]; omega
      · obtain rfl : n1 = k := by omega
        rw [take_all Hn1.out, Hff.out] at hown
        clear hrow
        go_wp2
        go_ret2
        rw [Hm.out]
        exact ⟨_, _, _, rfl, hown, hb⟩

set_option maxHeartbeats 1600000 in
theorem impl_WeightOf (ao : Option Addr) (n cap : Nat) (xs : List Int) (w : World) (h : IntsAt w ao n cap xs) :
    Calls Tryz.prog 23 #[.slice ao n cap] w fun e w' => e = .returned (.tuple #[.int .i64 (mWeightOf xs).1, .bool (mWeightOf xs).2]) ∧ Below w.heap.size w w' := by
  cases hg : sandB xs
  · have hm := mWeight_no hg
    have Hg := Lib.hid hg; clear hg
    have Hm := Lib.hid hm; clear hm
    go_enter Tryz.func23, Tryz.ntmps23
    go_wp2_with fail
    with_reducible refine (isSand_no _ _ _ _ _ h Hg.out).mono ?_
    rintro e w' ⟨rfl, rfl⟩
    go_wp2
    go_ret2
    rw [Hm.out]
    exact ⟨rfl, Below.refl _ _⟩
  · have hm := mWeight_yes hg
    have hG := sand_iff.1 hg
    have hn := h.lenInt
    have hl := h.length
    have hlen := hG.grains.len
    have hn24 : (n : Int) ≤ 24 := by omega
    have Hg := Lib.hid hg; clear hg
    have Hl := Lib.hid hl; clear hl
    have Hm := Lib.hid hm; clear hm
    have HG := Lib.hid hG; clear hG
    go_enter Tryz.func23, Tryz.ntmps23
    go_wp2_with fail
    with_reducible refine (isSand_yes _ _ _ _ _ h HG.out).mono ?_
    rintro e w' ⟨rfl, rfl⟩
    go_wp2
    go_loop [4, 12] (fun s i => ∃ k : Nat, ∃ t : Int, k ≤ n ∧ i = .int .i64 k ∧ s = .int .i64 t ∧ wt 0 (xs.take k) = t) (fun _ i => n - (intOf i).toNat)
    case atStart => exact ⟨0, 0, Nat.zero_le _, rfl, rfl, rfl⟩
    case round =>
      obtain ⟨k, t, hk, rfl, rfl, ht⟩ := hrel
      have hb := (HG.out.grains.take k).wt
      rw [ht] at hb
      have Ht := Lib.hid ht; clear ht
      by_cases hlt : k < n
      · obtain ⟨b, o, rfl, hb, hc⟩ := h.cell k hlt
        have hck := hc k hlt
        clear hc
        generalize hx : xs.getD k 0 = x at hck
        have Hx := Lib.hid hx; clear hx
        have e := take_snoc Hx.out hlt Hl.out
        have hx := grains_at HG.out.grains k
        rw [Hx.out] at hx
        have e2 : wt 0 (xs.take (k + 1)) = t + (k : Int) * x := by
          rw [e, wt_snoc, Ht.out, List.length_take, Nat.min_eq_left (by have := Hl.out; omega)]
          simp
        have hq : 0 ≤ (k : Int) * x ∧ (k : Int) * x ≤ 576 := by
          refine ⟨Int.mul_nonneg (by omega) (by omega), ?_⟩
          have h1 : (k : Int) * x ≤ (k : Int) * 24 := Int.mul_le_mul_of_nonneg_left (by omega) (by omega)
          omega
        have E2 := Lib.hid e2; clear e2
        have E := Lib.hid e; clear e
        go_wp2
        go_round
        case rel => exact ⟨k + 1, t + (k : Int) * x, by omega, by go_num, rfl, E2.out⟩
        case measure => simp [intOf]; omega
      · obtain rfl : n = k := by omega
        have hh := Ht.out
        rw [take_all Hl.out] at hh
        have Hh := Lib.hid hh; clear hh
        go_wp2
        go_ret2
        rw [Hm.out, Hh.out]
        exact ⟨rfl, Below.refl _ _⟩

theorem impl_SettleSand (ao : Option Addr) (n cap : Nat) (xs : List Int) (w : World) (h : IntsAt w ao n cap xs) :
    Calls Tryz.prog 32 #[.slice ao n cap] w fun e w' => ∃ ao' n' cap', e = .returned (.tuple #[.slice ao' n' cap', .bool (mSettleSand xs).2]) ∧ Own w.heap.size w'.heap.size w' ao' n' cap' (mSettleSand xs).1 ∧ Below w.heap.size w w' := by
  cases hg : sandB xs
  · have hm := mSettle_no hg
    have Hg := Lib.hid hg; clear hg
    have Hm := Lib.hid hm; clear hm
    go_enter Tryz.func32, Tryz.ntmps32
    go_wp2_with fail
    with_reducible refine (isSand_no _ _ _ _ _ h Hg.out).mono ?_
    rintro e w' ⟨rfl, rfl⟩
    go_wp2
    go_ret2
    rw [Hm.out]
    exact ⟨none, 0, 0, rfl, Own.nil _ _ _, Below.refl _ _⟩
  · have hm := mSettle_yes hg
    have hG := sand_iff.1 hg
    have hst := settled_any ao n cap xs w h hG.grains
    generalize settleL xs = S at *
    generalize countsL xs = C at *
    have Hg := Lib.hid hg; clear hg
    have Hm := Lib.hid hm; clear hm
    have HG := Lib.hid hG; clear hG
    have Hst := Lib.hid hst; clear hst
    go_enter Tryz.func32, Tryz.ntmps32
    go_wp2_with fail
    with_reducible refine (isSand_yes _ _ _ _ _ h HG.out).mono ?_
    rintro e w' ⟨rfl, rfl⟩
    go_wp2_with fail
    with_reducible refine (Hst.out).mono ?_
    rintro e w1 ⟨R, a1, n1, c1, a2, n2, c2, rfl, hs1, hb⟩
    go_wp2_with fail
    with_reducible refine (sandS_any _ _ _ _ _ _ _ _ _ _ _ _ hs1).mono ?_
    rintro e w2 ⟨a3, n3, c3, rfl, ho3, rfl⟩
    go_wp2
    go_ret2
    rw [Hm.out]
    exact ⟨_, _, _, rfl, ho3, hb⟩
theorem impl_FallCounts (ao : Option Addr) (n cap : Nat) (xs : List Int) (w : World) (h : IntsAt w ao n cap xs) :
    Calls Tryz.prog 12 #[.slice ao n cap] w fun e w' => ∃ ao' n' cap', e = .returned (.tuple #[.slice ao' n' cap', .bool (mFallCounts xs).2]) ∧ Own w.heap.size w'.heap.size w' ao' n' cap' (mFallCounts xs).1 ∧ Below w.heap.size w w' := by
  cases hg : sandB xs
  · have hm := mCounts_no hg
    have Hg := Lib.hid hg; clear hg
    have Hm := Lib.hid hm; clear hm
    go_enter Tryz.func12, Tryz.ntmps12
    go_wp2_with fail
    with_reducible refine (isSand_no _ _ _ _ _ h Hg.out).mono ?_
    rintro e w' ⟨rfl, rfl⟩
    go_wp2
    go_ret2
    rw [Hm.out]
    exact ⟨none, 0, 0, rfl, Own.nil _ _ _, Below.refl _ _⟩
  · have hm := mCounts_yes hg
    have hG := sand_iff.1 hg
    have hst := settled_any ao n cap xs w h hG.grains
    generalize settleL xs = S at *
    generalize countsL xs = C at *
    have Hg := Lib.hid hg; clear hg
    have Hm := Lib.hid hm; clear hm
    have HG := Lib.hid hG; clear hG
    have Hst := Lib.hid hst; clear hst
    go_enter Tryz.func12, Tryz.ntmps12
    go_wp2_with fail
    with_reducible refine (isSand_yes _ _ _ _ _ h HG.out).mono ?_
    rintro e w' ⟨rfl, rfl⟩
    go_wp2_with fail
    with_reducible refine (Hst.out).mono ?_
    rintro e w1 ⟨R, a1, n1, c1, a2, n2, c2, rfl, hs1, hb⟩
    obtain ⟨k0, k1⟩ := hs1.c1
    have hown := hs1.cnts
    clear hs1
    go_wp2
    go_ret2
    rw [Hm.out]
    exact ⟨_, _, _, rfl, hown, hb⟩

theorem bump_ok {zs : List Int} {t i : Nat} (hl : zs.length ≤ 24) (hz : ∀ j, 0 ≤ zs.getD j 0 ∧ zs.getD j 0 ≤ t) (hi : i < 24) : (bump zs i).length ≤ 24 ∧ ∀ j, 0 ≤ (bump zs i).getD j 0 ∧ (bump zs i).getD j 0 ≤ ((t + 1 : Nat) : Int) := by
  refine ⟨by rw [bump_length]; omega, fun k => ?_⟩
  have hb := hz k
  have hbi := hz i
  unfold bump
  by_cases hk : k = i
  · subst hk
    rw [getD_set_eqM _ _ _ _ (by simp; omega), getD_pad]
    push_cast
    omega
  · rw [getD_set_neM _ _ _ _ _ (by omega), getD_pad]
    push_cast
    omega

set_option maxHeartbeats 6400000 in
theorem impl_PlayFalls (ao : Option Addr) (n cap : Nat) (xs : List Int) (bo : Option Addr) (m cap' : Nat) (fs : List Int) (w : World) (h : IntsAt w ao n cap xs) (h' : IntsAt w bo m cap' fs) :
    Calls Tryz.prog 37 #[.slice ao n cap, .slice bo m cap'] w fun e w' => ∃ ao' n' cap', e = .returned (.tuple #[.slice ao' n' cap', .bool (mPlayFalls xs fs).2]) ∧ Own w.heap.size w'.heap.size w' ao' n' cap' (mPlayFalls xs fs).1 ∧ Below w.heap.size w w' := by
  have hlm := h'.length
  have hmI := h'.lenInt
  cases hg : sandB xs
  · have hm : mPlayFalls xs fs = ([], false) := mPlayF_no1 hg
    have Hg := Lib.hid hg; clear hg
    have Hm := Lib.hid hm; clear hm
    have Hlm := Lib.hid hlm; clear hlm
    go_enter Tryz.func37, Tryz.ntmps37
    go_wp2_with fail
    with_reducible refine (isSand_no _ _ _ _ _ h Hg.out).mono ?_
    rintro e w' ⟨rfl, rfl⟩
    go_wp2
    go_ret2
    rw [Hm.out]
    exact ⟨none, 0, 0, rfl, Own.nil _ _ _, Below.refl _ _⟩
  have hG := sand_iff.1 hg
  have hl := h.length
  have hlen := hG.grains.len
  by_cases h300 : m ≤ 300
  · have hm := mPlayF_yes (fs := fs) hg (by omega)
    have hcp := slideFrom_any ao n cap xs w h (by omega)
    have hstop := fun k hk => playF_stop (xs := xs) (fs := fs) (k := k) hk
    have hgr := fun k ys hk => playF_grains (xs := xs) (fs := fs.take k) (ys := ys) hG.grains hk
    have h300I : (m : Int) ≤ 300 := by omega
    have Hg := Lib.hid hg; clear hg
    have Hm := Lib.hid hm; clear hm
    have HG := Lib.hid hG; clear hG
    have Hl := Lib.hid hl; clear hl
    have Hlm := Lib.hid hlm; clear hlm
    have Hcp := Lib.hid hcp; clear hcp
    have Hstop := Lib.hid hstop; clear hstop
    have Hgr := Lib.hid hgr; clear hgr
    go_enter Tryz.func37, Tryz.ntmps37
    go_wp2_with fail
    with_reducible refine (isSand_yes _ _ _ _ _ h HG.out).mono ?_
    rintro e w' ⟨rfl, rfl⟩
    go_wp2_with fail
    with_reducible refine (Hcp.out).mono ?_
    rintro e w1 ⟨R, a1, c1, rfl, hs1, hb1⟩
    go_wp2_with fail
    go_loopw [23] (fun i wr => ∃ (k : Nat) (a : Option Addr) (p c : Nat) (ys : List Int) (a2 : Option Addr) (n2 c2 : Nat) (zs : List Int), k ≤ m ∧ i = .int .i64 k ∧ Hid (playF xs (fs.take k) = some ys) ∧ Sl w.heap.size wr.heap.size R wr a p c ys a2 n2 c2 zs ∧ Hid (zs.length ≤ 24 ∧ ∀ j, 0 ≤ zs.getD j 0 ∧ zs.getD j 0 ≤ (k : Int)) ∧ Below w.heap.size w wr) (fun i _ => m - (intOf i).toNat)
    case atStart => exact ⟨0, a1, n, c1, xs, none, 0, 0, [], Nat.zero_le _, rfl, Lib.hid rfl, hs1, Lib.hid ⟨by simp, fun j => by simp⟩, hb1⟩
    case round =>
      obtain ⟨k, a, p, c, ys, a2, n2, c2, zs, hk, rfl, Hp, hsl, Hzs, hb⟩ := hrel
      have hgy := Hgr.out k ys Hp.out
      have hpl := hsl.cols.own.length
      have hy24 := hgy.len
      have hpI : (p : Int) ≤ 24 := by omega
      have hn2 := hsl.cnts.length
      obtain ⟨k0, k1⟩ := hsl.c0
      clear hs1 hb1
      by_cases hlt : k < m
      · have h1 := h'.keep hb
        obtain ⟨b1, o1, rfl, hb1, hc1⟩ := h1.cell k hlt
        have hck1 := hc1 k hlt
        clear hc1
        generalize hx1 : fs.getD k 0 = x at hck1
        have Hx1 := Lib.hid hx1; clear hx1
        have e := take_snoc Hx1.out hlt Hlm.out
        have e2 : playF xs (fs.take (k + 1)) = fall1 ys x := by rw [e, playF_snoc, Hp.out]; rfl
        by_cases hin : 0 ≤ x ∧ x ≤ (p : Int) - 1
        · obtain ⟨i, rfl⟩ := Int.eq_ofNat_of_zero_le hin.1
          have hi : i < p := by omega
          have hcon := fallAt_in a p c ys i wr hsl.cols.own.at hgy hi
          have hzz : ∀ j, 0 ≤ zs.getD j 0 ∧ zs.getD j 0 ≤ 576 := fun j => by have := Hzs.out.2 j; omega
          have hlet := fun q => let_any w.heap.size R a p c ys a2 n2 c2 zs i (wr.drewN q) (hsl.drewN q) hb.size hgy hi (by have := Hzs.out.1; omega) hzz
          have hzb := bump_ok Hzs.out.1 Hzs.out.2 (show i < 24 by omega)
          generalize fallV (decide (i + 1 = p)) i = fv at *
          cases hs : steepB ys i
          · rw [hs] at hcon
            have hf : fall1 ys (i : Int) = none := by unfold fall1; rw [if_neg (fun hh => by have := hh.2.2; simp at this; rw [hs] at this; cases this)]
            rw [hf] at e2
            have hend := Hstop.out _ e2
            have hm2 : mPlayFalls xs fs = ([], false) := by rw [Hm.out, hend]; rfl
            clear hlet hsl hzz
            have E := Lib.hid e; clear e
            have E2 := Lib.hid e2; clear e2
            have Hf := Lib.hid hf; clear hf
            have Hs := Lib.hid hs; clear hs
            have Hin := Lib.hid hin; clear hin
            have Hcon := Lib.hid hcon; clear hcon
            have Hend := Lib.hid hend; clear hend
            have Hm2 := Lib.hid hm2; clear hm2
            have Hgy := Lib.hid hgy; clear hgy
            have Hpl := Lib.hid hpl; clear hpl
            have Hzb := Lib.hid hzb; clear hzb
            have Hn2 := Lib.hid hn2; clear hn2
            go_wp2_with fail
            with_reducible refine (Hcon.out).mono ?_
            rintro e w' ⟨rfl, q, rfl⟩
            go_wp2
            go_ret2
            rw [Hm2.out]
            exact ⟨none, 0, 0, rfl, Own.nil _ _ _, belowDrewN hb q⟩
          · rw [hs] at hcon
            have hf : fall1 ys (i : Int) = some (fallL ys i) := by unfold fall1; rw [if_pos ⟨by omega, by omega, by simpa using hs⟩]; simp
            rw [hf] at e2
            clear hsl hzz
            have E := Lib.hid e; clear e
            have E2 := Lib.hid e2; clear e2
            have Hf := Lib.hid hf; clear hf
            have Hs := Lib.hid hs; clear hs
            have Hin := Lib.hid hin; clear hin
            have Hcon := Lib.hid hcon; clear hcon
            have Hlet := Lib.hid hlet; clear hlet
            have Hgy := Lib.hid hgy; clear hgy
            have Hpl := Lib.hid hpl; clear hpl
            have Hzb := Lib.hid hzb; clear hzb
            have Hn2 := Lib.hid hn2; clear hn2
            go_wp2_with fail
            with_reducible refine (Hcon.out).mono ?_
            rintro e w' ⟨rfl, q, rfl⟩
            go_wp2_with fail
            with_reducible refine (Hlet.out q).mono ?_
            rintro e w2 ⟨rfl, a4, n4, c4, a5, n5, c5, hs4, hb4⟩
            have hb5 := (belowDrewN hb q).trans hb4
            clear k0 k1
            have Hs4 := Lib.hid hs4; clear hs4
            go_wp2
            go_roundw
            case rel => exact ⟨k + 1, a4, n4, c4, _, a5, n5, c5, _, by omega, by go_num, Lib.hid E2.out, Hs4.out, Lib.hid Hzb.out, hb5⟩
            case measure => simp [intOf]; omega
        · have hf : fall1 ys x = none := by unfold fall1; rw [if_neg (fun hh => hin ⟨hh.1, by have := hh.2.1; omega⟩)]
          rw [hf] at e2
          have hend := Hstop.out _ e2
          have hm2 : mPlayFalls xs fs = ([], false) := by rw [Hm.out, hend]; rfl
          have hcon := fallAt_out a p c x wr hpI hin
          clear hsl
          have E := Lib.hid e; clear e
          have E2 := Lib.hid e2; clear e2
          have Hf := Lib.hid hf; clear hf
          have Hin := Lib.hid hin; clear hin
          have Hend := Lib.hid hend; clear hend
          have Hm2 := Lib.hid hm2; clear hm2
          have Hgy := Lib.hid hgy; clear hgy
          have Hpl := Lib.hid hpl; clear hpl
          have Hcon := Lib.hid hcon; clear hcon
          have Hn2 := Lib.hid hn2; clear hn2
          go_wp2_with fail
          with_reducible refine (Hcon.out).mono ?_
          rintro e w' ⟨rfl, rfl⟩
          go_wp2
          go_ret2
          rw [Hm2.out]
          exact ⟨none, 0, 0, rfl, Own.nil _ _ _, hb⟩
      · obtain rfl : m = k := by omega
        have hp := Hp.out
        rw [take_all Hlm.out] at hp
        have hm2 : mPlayFalls xs fs = ifSand (some ys) := by rw [Hm.out, hp]
        have hcon := sandS_any _ _ _ _ _ _ _ _ _ _ _ _ hsl
        clear hsl
        have Hp := Lib.hid hp; clear hp
        have Hm2 := Lib.hid hm2; clear hm2
        have Hgy := Lib.hid hgy; clear hgy
        have Hpl := Lib.hid hpl; clear hpl
        have Hcon := Lib.hid hcon; clear hcon
        have Hn2 := Lib.hid hn2; clear hn2
        go_wp2_with fail
        with_reducible refine (Hcon.out).mono ?_
        rintro e w2 ⟨a3, n3, c3, rfl, ho3, rfl⟩
        go_wp2
        go_ret2
        rw [Hm2.out]
        exact ⟨_, _, _, rfl, ho3, hb⟩
  · have hm := mPlayF_no2 (xs := xs) (fs := fs) (by omega)
    have h300I : (300 : Int) < m := by omega
    have Hg := Lib.hid hg; clear hg
    have Hm := Lib.hid hm; clear hm
    have HG := Lib.hid hG; clear hG
    have Hl := Lib.hid hl; clear hl
    have Hlm := Lib.hid hlm; clear hlm
    go_enter Tryz.func37, Tryz.ntmps37
    go_wp2_with fail
    with_reducible refine (isSand_yes _ _ _ _ _ h HG.out).mono ?_
    rintro e w' ⟨rfl, rfl⟩
    go_wp2
    go_ret2
    rw [Hm.out]
    exact ⟨none, 0, 0, rfl, Own.nil _ _ _, Below.refl _ _⟩

theorem impl_FallGrain (ao : Option Addr) (n cap : Nat) (xs : List Int) (i : Int) (w : World) (h : IntsAt w ao n cap xs) :
    Calls Tryz.prog 18 #[.slice ao n cap, .int .i64 i] w fun e w' => ∃ ao' n' cap', e = .returned (.tuple #[.slice ao' n' cap', .bool (mFallGrain xs i).2]) ∧ Own w.heap.size w'.heap.size w' ao' n' cap' (mFallGrain xs i).1 ∧ Below w.heap.size w w' := by
  have hba := belowAlloc w (.cells #[.int .i64 i] 3)
  have hcon := impl_PlayFalls ao n cap xs _ _ _ [i] _ (h.keep hba) (Own.single w i).at
  have hwa : w.heap.size ≤ (w.alloc (.cells #[.int .i64 i] 3)).heap.size := by simp
  have hm : mFallGrain xs i = mPlayFalls xs [i] := rfl
  have Hba := Lib.hid hba; clear hba
  have Hcon := Lib.hid hcon; clear hcon
  have Hwa := Lib.hid hwa; clear hwa
  have Hm := Lib.hid hm; clear hm
  go_enter Tryz.func18, Tryz.ntmps18
  go_wp2_with fail
  with_reducible refine (Hcon.out).mono ?_
  rintro e w1 ⟨a1, n1, c1, rfl, ho1, hb1⟩
  have hbf := belowTrans Hba.out hb1 (Nat.le_refl _)
  go_wp2
  go_ret2
  rw [Hm.out]
  exact ⟨_, _, _, rfl, ho1.mono Hwa.out (Nat.le_refl _), hbf⟩

end
end Go.Proofs.YtdfmljkjidepeaaGreatDoor
