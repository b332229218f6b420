/- Chapter 2: the ring of bits that were given, and of piles. No condition. -/
import Derived.Test.YthppkfhhidlpiaaGreatRingC
import Derived.Laws.ResultCell
namespace Go.Proofs.YthppkfhhidlpiaaGreat
open Go.RowKit
set_option linter.unusedVariables false
set_option linter.unusedSimpArgs false
set_option maxRecDepth 20000

/-- a ring's cells, the first k numbers given -/
def withT (bs : List Int) (n k : Nat) : List Int := ((List.range 8).map fun j => if j < k then bs.getD j 0 else 0) ++ [(n : Int)]
theorem withT_length (bs : List Int) (n k : Nat) : (withT bs n k).length = 9 := by simp [withT]
theorem withT_getD (bs : List Int) (n k j : Nat) (hj : j < 8) : (withT bs n k).getD j 0 = if j < k then bs.getD j 0 else 0 := by
  unfold withT
  rw [List.getD_eq_getElem?_getD, List.getElem?_append_left (by simp; omega), List.getElem?_map, List.getElem?_range hj]; rfl
theorem withT_last (bs : List Int) (n k : Nat) : (withT bs n k).getD 8 0 = n := by
  unfold withT
  rw [List.getD_eq_getElem?_getD, List.getElem?_append_right (by simp)]; simp
theorem withT_zero (bs : List Int) (n : Nat) : withT bs n 0 = [0, 0, 0, 0, 0, 0, 0, 0, (n : Int)] := by
  unfold withT
  simp only [Nat.not_lt_zero, if_false]
  rfl
theorem withT_set (bs : List Int) (n k : Nat) (hk : k < 8) : (withT bs n k).set k (bs.getD k 0) = withT bs n (k + 1) := by
  apply list_ext_getD
  · rw [List.length_set, withT_length, withT_length]
  · intro j hj
    rw [withT_length] at hj
    by_cases hj8 : j < 8
    · by_cases hjr : j = k
      · subst hjr
        rw [getD_set_eq _ _ _ _ (by rw [withT_length]; omega), withT_getD _ _ _ _ hj8, if_pos (by omega)]
      · rw [getD_set_ne _ _ _ _ _ (fun e => hjr e.symm), withT_getD _ _ _ _ hj8, withT_getD _ _ _ _ hj8]
        by_cases hlt : j < k
        · rw [if_pos hlt, if_pos (by omega)]
        · rw [if_neg hlt, if_neg (by omega)]
    · have : j = 8 := by omega
      subst this
      rw [getD_set_ne _ _ _ _ _ (by omega), withT_last, withT_last]
theorem withT_all (bs : List Int) (n : Nat) (hn : bs.length = n) (j : Nat) (hj : j < 8) : (withT bs n n).getD j 0 = bs.getD j 0 := by
  rw [withT_getD _ _ _ _ hj]
  by_cases h : j < n
  · rw [if_pos h]
  · rw [if_neg h, List.getD_eq_getElem?_getD, List.getElem?_eq_none (by omega)]; rfl

/-- no ring -/
def ring0 : Value := .agg #[.int .i64 0, .int .i64 0, .int .i64 0, .int .i64 0, .int .i64 0, .int .i64 0, .int .i64 0, .int .i64 0, .int .i64 0]

def withV (bs : List Int) : Value := if bitsB bs = true then ringV bs else ring0
theorem withV_yes {bs : List Int} (h : bitsB bs = true) : withV bs = ringV bs := by unfold withV; rw [if_pos h]
theorem withV_no {bs : List Int} (h : bitsB bs = false) : withV bs = ring0 := by unfold withV; rw [if_neg (by rw [h]; simp)]
abbrev zer9 : Array Value := #[.int .i64 0, .int .i64 0, .int .i64 0, .int .i64 0, .int .i64 0, .int .i64 0, .int .i64 0, .int .i64 0, .int .i64 0]
set_option maxHeartbeats 1600000 in
theorem ringWith_any (ao : Option Addr) (n cap : Nat) (bs : List Int) (w : World) (h : IntsAt w ao n cap bs) :
    Calls Tryz.prog 68 #[.slice ao n cap] w fun e w' => e = .returned (.tuple #[withV bs, .bool (bitsB bs)]) ∧ Below w.heap.size w w' := by
  have hn := h.lenInt
  have hl0 := h.length
  have hcon := contains_any ao n cap bs 0 (w.alloc (.cells #[.int .i64 0, .int .i64 0, .int .i64 0, .int .i64 0, .int .i64 0, .int .i64 0, .int .i64 0, .int .i64 0, .int .i64 0] 79)) (h.keep (belowAlloc w _))
  have hba := belowAlloc w (.cells #[.int .i64 0, .int .i64 0, .int .i64 0, .int .i64 0, .int .i64 0, .int .i64 0, .int .i64 0, .int .i64 0, .int .i64 0] 79)
  by_cases hlong : 8 < n
  · have hb : bitsB bs = false := by cases hb : bitsB bs with
      | false => rfl
      | true => have := (bits_iff.1 hb).1; omega
    rw [hb, withV_no hb]
    have Hb := Lib.hid hb; clear hb
    have Hcon := Lib.hid hcon; clear hcon
    have Hl0 := Lib.hid hl0; clear hl0
    have Hba := Lib.hid hba; clear hba
    go_enter Tryz.func68, Tryz.ntmps68
    go_wp2
    refine bodyPost_ret (v := .tuple #[ring0, .bool false]) ?_ rfl ⟨rfl, Hba.out⟩
    rw [results_cell_tmp rfl]
    simp [go_sem, asAddr, Result.andThen, loadVar]
    rfl
  by_cases hzero : 0 ∈ bs
  · rw [decide_eq_true hzero] at hcon
    have hb2 := hba.alloc (by simp only [World.size_alloc]; omega) (.cells #[.int .i64 0, .int .i64 0, .int .i64 0, .int .i64 0, .int .i64 0, .int .i64 0, .int .i64 0, .int .i64 0, .int .i64 n] 79)
    have h3 := heap2 w (.cells #[.int .i64 0, .int .i64 0, .int .i64 0, .int .i64 0, .int .i64 0, .int .i64 0, .int .i64 0, .int .i64 0, .int .i64 0] 79)
      (.cells #[.int .i64 0, .int .i64 0, .int .i64 0, .int .i64 0, .int .i64 0, .int .i64 0, .int .i64 0, .int .i64 0, .int .i64 n] 79)
    have hr0 := rowNew [0, 0, 0, 0, 0, 0, 0, 0, 0] _ 9 h3.1 rfl rfl (by omega)
    have hr1 : OwnRow (w.heap.size + 1) (w.heap.size + 2) _ 79 (some ⟨w.heap.size + 1, 0, none⟩) 9 9 ((withT bs n 0).map (Value.int .i64)) := rowNew (withT bs n 0) _ 9 h3.2 (by rw [withT_zero]; rfl) (withT_length _ _ _) (by omega)
    have hx := h.keep hb2
    have hlt : ∀ b o, ao = some ⟨b, o, none⟩ → 0 < n → b < w.heap.size := fun b o e hp => by
      obtain ⟨b', o', e', hb', _⟩ := h.cell 0 hp
      rw [e] at e'
      simp at e'
      omega
    have hsz : ((w.alloc (.cells #[.int .i64 0, .int .i64 0, .int .i64 0, .int .i64 0, .int .i64 0, .int .i64 0, .int .i64 0, .int .i64 0, .int .i64 0] 79)).alloc
      (.cells #[.int .i64 0, .int .i64 0, .int .i64 0, .int .i64 0, .int .i64 0, .int .i64 0, .int .i64 0, .int .i64 0, .int .i64 n] 79)).heap.size = w.heap.size + 2 := by simp
    clear h3 h
    have Hcon := Lib.hid hcon; clear hcon
    have Hl0 := Lib.hid hl0; clear hl0
    have Hba := Lib.hid hba; clear hba
    have Hzero := Lib.hid hzero; clear hzero
    go_enter Tryz.func68, Tryz.ntmps68
    go_wp2_with (go_at_call 108; with_reducible refine (Hcon.out).mono ?_; rintro e w' ⟨rfl, rfl⟩)
    generalize ((w.alloc (.cells #[.int .i64 0, .int .i64 0, .int .i64 0, .int .i64 0, .int .i64 0, .int .i64 0, .int .i64 0, .int .i64 0, .int .i64 0] 79)).alloc
      (.cells #[.int .i64 0, .int .i64 0, .int .i64 0, .int .i64 0, .int .i64 0, .int .i64 0, .int .i64 0, .int .i64 0, .int .i64 n] 79)) = w2 at *
    generalize hBe : w.heap.size = B at *
    have HBe := Lib.hid hBe; clear hBe
    go_loopw [21] (fun i wr => ∃ k : Nat, k ≤ n ∧ i = .int .i64 k ∧ (∀ b ∈ bs.take k, 0 ≤ b ∧ b ≤ 1) ∧ OwnRow (B + 1) (B + 2) wr 79 (some ⟨B + 1, 0, none⟩) 9 9 ((withT bs n k).map (Value.int .i64)) ∧ Chg (fun q => q = B + 1) w2 wr) (fun i _ => n - (intOf i).toNat)
    case atStart => exact ⟨0, Nat.zero_le _, rfl, by simp, hr1, Chg.refl _ _⟩
    case round =>
      obtain ⟨k, hk, rfl, hall, hrow, hchg⟩ := hrel
      have hls := hchg.size
      have hres := hr0.chg hchg (fun g h1 h2 h3 => by omega)
      by_cases hltk : k < n
      · have hat := hx.chg hchg (fun b o e hq => by have := hlt b o e (by omega); omega)
        obtain ⟨bl, oo, rfl, hbl, hc⟩ := hat.cell k hltk
        have hck := hc k hltk
        clear hc hat hlt
        have hset := withT_set bs n k (by omega)
        have hcJ := rowCells hrow k (by omega)
        have hfJ := hrow.frozenI k
        generalize hxv : bs.getD k 0 = x at hck hset
        generalize hy : (withT bs n k).getD k 0 = y at hcJ
        by_cases hbit : 0 ≤ x ∧ x ≤ 1
        · have hbc : x = 0 ∨ x = 1 := by omega
          obtain ⟨hst, hgr⟩ := hrow.setI k x
          rw [hset] at hst
          have hall2 : ∀ b ∈ bs.take (k + 1), 0 ≤ b ∧ b ≤ 1 := fun b hb => by
            rw [take_snoc hxv hltk Hl0.out] at hb
            rcases List.mem_append.1 hb with h' | h'
            · exact hall b h'
            · rw [List.mem_singleton.1 h']; exact hbit
          have hn1 : (x != 0 && x != 1) = false := by rcases hbc with rfl | rfl <;> rfl
          have Hxv := Lib.hid hxv; clear hxv
          have Hy := Lib.hid hy; clear hy
          have Hset := Lib.hid hset; clear hset
          have Hst := Lib.hid hst; clear hst
          have Hgr := Lib.hid hgr; clear hgr
          have Hchg := Lib.hid hchg; clear hchg
          have Hrow := Lib.hid hrow; clear hrow
          have Hres := Lib.hid hres; clear hres
          have Hall := Lib.hid hall; clear hall
          have Hall2 := Lib.hid hall2; clear hall2
          have Hn1 := Lib.hid hn1; clear hn1
          have Hbit := Lib.hid hbit; clear hbit
          rcases hbc with rfl | rfl
          all_goals
            go_wp2
            go_roundw
            case rel => exact ⟨k + 1, by omega, by go_num, Hall2.out, Hst.out, Hchg.out.trans ((Chg.ofGrown Hgr.out).mono (fun q hq => by simpa using hq))⟩
            case measure => simp [intOf]; omega
        · have hb : bitsB bs = false := by cases hb : bitsB bs with
            | false => rfl
            | true => exact absurd ((bits_iff.1 hb).2.1 x (getD_mem hxv hltk Hl0.out)) hbit
          have hx0 : (x != 0) = true := by simp; omega
          have hx1 : (x != 1) = true := by simp; omega
          obtain ⟨g0, g1, g2, g3, g4, g5, g6, g7, g8⟩ := put9_cells hres
          obtain ⟨f0, f1, f2, f3, f4, f5, f6, f7, f8⟩ := frozen9 hres
          obtain ⟨hput, hbp⟩ := put9_row (B := B) hres (by omega) (by omega) 0 0 0 0 0 0 0 0 0
          obtain ⟨p0, p1, p2, p3, p4, p5, p6, p7, p8⟩ := put9_cells hput
          have hbelow : Below B w (put9 wr B 0 0 0 0 0 0 0 0 0) := (hb2.trans (hchg.below (by omega) (fun q hq => by omega))).trans hbp
          unfold put9 at hput hbp p0 p1 p2 p3 p4 p5 p6 p7 p8 hbelow
          have P := Lib.hid (And.intro p0 (And.intro p1 (And.intro p2 (And.intro p3 (And.intro p4 (And.intro p5 (And.intro p6 (And.intro p7 p8))))))))
          clear p0 p1 p2 p3 p4 p5 p6 p7 p8
          have Hxv := Lib.hid hxv; clear hxv
          have Hy := Lib.hid hy; clear hy
          have Hset := Lib.hid hset; clear hset
          have Hchg := Lib.hid hchg; clear hchg
          have Hrow := Lib.hid hrow; clear hrow
          have Hres := Lib.hid hres; clear hres
          have Hall := Lib.hid hall; clear hall
          have Hput := Lib.hid hput; clear hput
          have Hbp := Lib.hid hbp; clear hbp
          have Hbelow := Lib.hid hbelow; clear hbelow
          have Hb := Lib.hid hb; clear hb
          have Hbit := Lib.hid hbit; clear hbit
          go_wp2
          refine bodyPost_ret (v := .tuple #[ring0, .bool false]) ?_ rfl ⟨by rw [withV_no Hb.out, Hb.out], ?_⟩
          · obtain ⟨p0, p1, p2, p3, p4, p5, p6, p7, p8⟩ := P.out
            rw [results_cell_tmp rfl]
            simp [go_sem, asAddr, Result.andThen, loadVar, p0, p1, p2, p3, p4, p5, p6, p7, p8]
            rfl
          · rw [HBe.out]; exact Hbelow.out
      · obtain rfl : n = k := by omega
        rw [take_all Hl0.out] at hall
        have hb : bitsB bs = true := bits_iff.2 ⟨⟨by have := List.length_pos_of_mem Hzero.out; omega, by rw [Hl0.out]; omega⟩, hall, Hzero.out⟩
        obtain ⟨d0, d1, d2, d3, d4, d5, d6, d7, n', hr'⟩ := R9.of (bs := bs) (by rw [Hl0.out]; omega)
        have hnn : n' = n := hr'.1.symm.trans Hl0.out
        subst hnn
        have hv : ∀ j, j < 8 → (withT bs n' n').getD j 0 = bs.getD j 0 := withT_all bs n' Hl0.out
        have e0 := (hv 0 (by omega)).trans hr'.2.2.1
        have e1 := (hv 1 (by omega)).trans hr'.2.2.2.1
        have e2 := (hv 2 (by omega)).trans hr'.2.2.2.2.1
        have e3 := (hv 3 (by omega)).trans hr'.2.2.2.2.2.1
        have e4 := (hv 4 (by omega)).trans hr'.2.2.2.2.2.2.1
        have e5 := (hv 5 (by omega)).trans hr'.2.2.2.2.2.2.2.1
        have e6 := (hv 6 (by omega)).trans hr'.2.2.2.2.2.2.2.2.1
        have e7 := (hv 7 (by omega)).trans hr'.2.2.2.2.2.2.2.2.2
        have e8 := withT_last bs n' n'
        have c0 := rowCells hrow 0 (by omega)
        have c1 := rowCells hrow 1 (by omega)
        have c2 := rowCells hrow 2 (by omega)
        have c3 := rowCells hrow 3 (by omega)
        have c4 := rowCells hrow 4 (by omega)
        have c5 := rowCells hrow 5 (by omega)
        have c6 := rowCells hrow 6 (by omega)
        have c7 := rowCells hrow 7 (by omega)
        have c8 := rowCells hrow 8 (by omega)
        rw [e0] at c0
        rw [e1] at c1
        rw [e2] at c2
        rw [e3] at c3
        rw [e4] at c4
        rw [e5] at c5
        rw [e6] at c6
        rw [e7] at c7
        rw [e8] at c8
        obtain ⟨g0, g1, g2, g3, g4, g5, g6, g7, g8⟩ := put9_cells hres
        obtain ⟨f0, f1, f2, f3, f4, f5, f6, f7, f8⟩ := frozen9 hres
        obtain ⟨hput, hbp⟩ := put9_row (B := B) hres (by omega) (by omega) d0 d1 d2 d3 d4 d5 d6 d7 (n' : Int)
        obtain ⟨p0, p1, p2, p3, p4, p5, p6, p7, p8⟩ := put9_cells hput
        have hbelow : Below B w (put9 wr B d0 d1 d2 d3 d4 d5 d6 d7 n') := (hb2.trans (hchg.below (by omega) (fun q hq => by omega))).trans hbp
        unfold put9 at hput hbp p0 p1 p2 p3 p4 p5 p6 p7 p8 hbelow
        have P := Lib.hid (And.intro p0 (And.intro p1 (And.intro p2 (And.intro p3 (And.intro p4 (And.intro p5 (And.intro p6 (And.intro p7 p8))))))))
        clear p0 p1 p2 p3 p4 p5 p6 p7 p8
        have E0 := Lib.hid e0; clear e0
        have E1 := Lib.hid e1; clear e1
        have E2 := Lib.hid e2; clear e2
        have E3 := Lib.hid e3; clear e3
        have E4 := Lib.hid e4; clear e4
        have E5 := Lib.hid e5; clear e5
        have E6 := Lib.hid e6; clear e6
        have E7 := Lib.hid e7; clear e7
        have E8 := Lib.hid e8; clear e8
        have Hv := Lib.hid hv; clear hv
        have Hrow := Lib.hid hrow; clear hrow
        have Hres := Lib.hid hres; clear hres
        have Hchg := Lib.hid hchg; clear hchg
        have Hr0 := Lib.hid hr0; clear hr0
        have Hr1 := Lib.hid hr1; clear hr1
        have Hput := Lib.hid hput; clear hput
        have Hbp := Lib.hid hbp; clear hbp
        have Hbelow := Lib.hid hbelow; clear hbelow
        have Hall := Lib.hid hall; clear hall
        have Hb := Lib.hid hb; clear hb
        have Hr' := Lib.hid hr'; clear hr'
        go_wp2
        refine bodyPost_ret (v := .tuple #[.agg #[.int .i64 d0, .int .i64 d1, .int .i64 d2, .int .i64 d3, .int .i64 d4, .int .i64 d5, .int .i64 d6, .int .i64 d7, .int .i64 n'], .bool true]) ?_ rfl ⟨by rw [withV_yes Hb.out, Hb.out, Hr'.out.v], ?_⟩
        · obtain ⟨p0, p1, p2, p3, p4, p5, p6, p7, p8⟩ := P.out
          rw [results_cell_tmp rfl]
          simp [go_sem, asAddr, Result.andThen, loadVar, p0, p1, p2, p3, p4, p5, p6, p7, p8]
        · rw [HBe.out]; exact Hbelow.out
  · rw [decide_eq_false hzero] at hcon
    have hb : bitsB bs = false := by cases hb : bitsB bs with
      | false => rfl
      | true => exact absurd (bits_iff.1 hb).2.2 hzero
    rw [hb, withV_no hb]
    have Hb := Lib.hid hb; clear hb
    have Hcon := Lib.hid hcon; clear hcon
    have Hl0 := Lib.hid hl0; clear hl0
    have Hba := Lib.hid hba; clear hba
    have Hzero := Lib.hid hzero; clear hzero
    go_enter Tryz.func68, Tryz.ntmps68
    go_wp2_with (go_at_call 108; with_reducible refine (Hcon.out).mono ?_; rintro e w' ⟨rfl, rfl⟩)
    refine bodyPost_ret (v := .tuple #[ring0, .bool false]) ?_ rfl ⟨rfl, Hba.out⟩
    rw [results_cell_tmp rfl]
    simp [go_sem, asAddr, Result.andThen, loadVar]
    rfl
end Go.Proofs.YthppkfhhidlpiaaGreat
