/- Trees by the program: treesFrom, before, level, levels, lineFrom. No condition. -/
import Derived.Test.YtaebdafjbkadlaaPaE
import Derived.Test.YtaebdafjbkadlaaPaU
namespace Go.Proofs.Ytaebdafjbkadlaa
open Go.RowKit
set_option linter.unusedVariables false
set_option linter.unusedSimpArgs false
set_option maxRecDepth 20000

def wayF (b : Bool) : Value := .func (.func 94) #[wbV b] #[]
/-- trees with these roots -/
def treesV (b : Bool) (ao : Option Addr) (n cap : Nat) : Value := .agg #[.slice ao n cap, wayF b]
/-- a block that holds trees -/
def TreeAt (B E : Nat) (w : World) (g : Nat) (b : Bool) (ao : Option Addr) (n cap : Nat) : Prop := OwnRow B E w 66 (some ⟨g, 0, none⟩) 2 2 [.slice ao n cap, wayF b]
theorem heapPair (w : World) (a b : Obj) : ((w.alloc a).alloc b).heap[w.heap.size]? = some a ∧ ((w.alloc a).alloc b).heap[w.heap.size + 1]? = some b := heap2 w a b
structure TrSt (R : Nat) (w : World) (a : Option Addr) (k c : Nat) (vs : List Value) (xss : List (List Int)) : Prop where
  res : w.heap[R]? = some (.cells #[.slice none 0 0, .nilFunc] 66 (0, 0))
  tr : w.heap[R + 1]? = some (.cells #[.slice a k c, wayF true] 66 (0, 0))
  sp : Sp (R + 2) w.heap.size (R + 2) w.heap.size w a k c vs xss
  ap : vs.Pairwise apart
theorem cellOf {w : World} {g : Nat} {cs : Array Value} {ty : TypeId} (h : w.heap[g]? = some (.cells cs ty (0, 0))) (i : Nat) (v : Value) (hv : cs[i]? = some v) : w.cell? ⟨g, i, none⟩ = some v ∧ w.frozen? ⟨g, i, none⟩ = false := by
  constructor
  · simp [World.cell?, h, hv]
  · simp [World.frozen?, h]
theorem TrSt.size {R w a k c vs xss} (h : TrSt R w a k c vs xss) : R + 2 ≤ w.heap.size := by
  have := (Array.getElem?_eq_some_iff.1 h.tr).1
  omega
theorem apart_snoc {vs : List Value} {B E F : Nat} {w w' : World} {xss : List (List Int)} (hr : RowsW B E w vs xss) (hp : vs.Pairwise apart) {a : Option Addr} {m c : Nat} {x : List Int} (ho : Own E F w' a m c x) : (vs ++ [Value.slice a m c]).Pairwise apart := by
  rw [List.pairwise_append]
  refine ⟨hp, by simp, fun v hv u hu => ?_⟩
  rw [List.mem_singleton.1 hu]
  obtain ⟨i, hi, rfl⟩ := List.getElem_of_mem hv
  obtain ⟨a', m', c', e, ho'⟩ := hr.row i (by rw [← hr.length]; exact hi)
  rw [List.getD_eq_getElem?_getD, List.getElem?_eq_getElem hi] at e
  simp only [Option.getD_some] at e
  rw [e]
  unfold apart
  cases h1 : (Value.slice a' m' c').ownBlock with
  | none => exact .inl rfl
  | some g =>
    right
    intro h2
    have h3 := ho'.2 g h1
    have h4 := (ho.1.lt g h2.symm).1
    omega
theorem TrSt.step {R : Nat} {wr w1 w4 : World} {a : Option Addr} {k c : Nat} {vs : List Value} {xss : List (List Int)} (h : TrSt R wr a k c vs xss) {a1 : Option Addr} {m c1 : Nat} {x : List Int} (ho1 : Own wr.heap.size w1.heap.size w1 a1 m c1 x) (hb1 : Below wr.heap.size wr w1)
    {a4 : Option Addr} {c4 : Nat} (ho4 : OwnRow (R + 2) w4.heap.size w4 31 a4 (k + 1) c4 (vs ++ [.slice a1 m c1])) (hc4 : Chg (fun q => (Value.slice a k c).ownBlock = some q) (w1.alloc (.cells #[.slice a1 m c1] 31)) w4) :
    w4.cell? ⟨R + 1, 0, none⟩ = some (.slice a k c) ∧ w4.frozen? ⟨R + 1, 0, none⟩ = false ∧ TrSt R (w4.setCell ⟨R + 1, 0, none⟩ (.slice a4 (k + 1) c4)) a4 (k + 1) c4 (vs ++ [.slice a1 m c1]) (xss ++ [x]) ∧ Below R wr (w4.setCell ⟨R + 1, 0, none⟩ (.slice a4 (k + 1) c4)) := by
  have hs := h.size
  have hs1 := hb1.size
  have hba := hb1.alloc hb1.size (.cells #[.slice a1 m c1] 31)
  have hs4 := hc4.size
  have hsa : (w1.alloc (.cells #[.slice a1 m c1] 31)).heap.size = w1.heap.size + 1 := by simp
  have hblk : ∀ q, q < R + 2 → w4.heap[q]? = wr.heap[q]? := fun q hq => by
    rw [hc4.block q (by omega) (fun hh => by have := (h.sp.spine.1.lt q hh).1; omega), (Chg.ofBelow (S := fun _ => False) hba).block q (by omega) id]
  have hT : w4.heap[R + 1]? = some (.cells #[.slice a k c, wayF true] 66 (0, 0)) := by rw [hblk _ (by omega)]; exact h.tr
  have hR : w4.heap[R]? = some (.cells #[.slice none 0 0, .nilFunc] 66 (0, 0)) := by rw [hblk _ (by omega)]; exact h.res
  obtain ⟨g1, g2⟩ := cellOf hT 0 (.slice a k c) rfl
  have hset : Chg (fun q => q = R + 1) w4 (w4.setCell ⟨R + 1, 0, none⟩ (.slice a4 (k + 1) c4)) := ⟨rfl, rfl, rfl, by simp, fun q _ hq => heap_setCell_other w4 ⟨R + 1, 0, none⟩ q _ (fun e => hq (by simp [e]))⟩
  have hrows : RowsW (R + 2) w4.heap.size w4 (vs ++ [.slice a1 m c1]) (xss ++ [x]) := by
    have r1 := (h.sp.rows.keep hba).mono (Nat.le_refl _) (show wr.heap.size ≤ w4.heap.size by omega)
    have r2 := RowsW.one ((ho1.keep (belowAlloc w1 (.cells #[.slice a1 m c1] 31))).mono (show R + 2 ≤ wr.heap.size by omega) (show w1.heap.size ≤ w4.heap.size by omega))
    exact (r1.append r2).chgSpine (h.sp.spine.keep hba) hc4
  have hap := apart_snoc h.sp.rows h.ap ho1
  refine ⟨g1, g2, ⟨?_, ?_, ⟨?_, ?_⟩, hap⟩, ?_⟩
  · rw [hset.block R (by omega) (by omega)]; exact hR
  · exact heap_setCell_same w4 (R + 1) 0 _ _ _ hT
  · exact (OwnRow.chg ho4 hset (fun g q1 q2 _ q4 => by omega)).mono (Nat.le_refl _) (by simp)
  · exact ⟨hrows.length, fun i hi => by
      obtain ⟨a', m', c', e, ho⟩ := hrows.row i hi
      exact ⟨a', m', c', e, (ho.chg hset (fun g q1 q2 _ q4 => by omega)).mono (Nat.le_refl _) (by simp)⟩⟩
  · refine (Below.mono hba (by omega : R ≤ wr.heap.size)).trans ((hc4.below (by omega) (fun q hq => by have := (h.sp.spine.1.lt q hq).1; omega)).trans (hset.below (by omega) (fun q hq => by omega)))

theorem TrSt.fin {R : Nat} {wr : World} {a : Option Addr} {n c : Nat} {vs : List Value} {xss : List (List Int)} (h : TrSt R wr a n c vs xss) :
    (((wr.setCell ⟨R, 0, none⟩ (.slice a n c)).setCell ⟨R, 1, none⟩ (wayF true)).cell? ⟨R, 0, none⟩ = some (.slice a n c) ∧ ((wr.setCell ⟨R, 0, none⟩ (.slice a n c)).setCell ⟨R, 1, none⟩ (wayF true)).cell? ⟨R, 1, none⟩ = some (wayF true)) ∧
    OwnRows R ((wr.setCell ⟨R, 0, none⟩ (.slice a n c)).setCell ⟨R, 1, none⟩ (wayF true)).heap.size ((wr.setCell ⟨R, 0, none⟩ (.slice a n c)).setCell ⟨R, 1, none⟩ (wayF true)) a n c xss ∧ Below R wr ((wr.setCell ⟨R, 0, none⟩ (.slice a n c)).setCell ⟨R, 1, none⟩ (wayF true)) := by
  have hs := h.size
  have h1 := heap_setCell_same wr R 0 _ _ (.slice a n c) h.res
  have h2 := heap_setCell_same (wr.setCell ⟨R, 0, none⟩ (.slice a n c)) R 1 _ _ (wayF true) h1
  have c1 : Chg (fun q => q = R) wr (wr.setCell ⟨R, 0, none⟩ (.slice a n c)) := ⟨rfl, rfl, rfl, by simp, fun q _ hq => heap_setCell_other wr ⟨R, 0, none⟩ q _ (fun e => hq (by simp [e]))⟩
  have c2 : Chg (fun q => q = R) (wr.setCell ⟨R, 0, none⟩ (.slice a n c)) ((wr.setCell ⟨R, 0, none⟩ (.slice a n c)).setCell ⟨R, 1, none⟩ (wayF true)) := ⟨rfl, rfl, rfl, by simp, fun q _ hq => heap_setCell_other _ ⟨R, 1, none⟩ q _ (fun e => hq (by simp [e]))⟩
  have c3 := c1.trans c2
  have hsp : Sp (R + 2) wr.heap.size (R + 2) wr.heap.size ((wr.setCell ⟨R, 0, none⟩ (.slice a n c)).setCell ⟨R, 1, none⟩ (wayF true)) a n c vs xss :=
    ⟨OwnRow.chg h.sp.spine c3 (fun g q1 q2 _ q4 => by omega), ⟨h.sp.rows.length, fun i hi => by
      obtain ⟨a', m', c', e, ho⟩ := h.sp.rows.row i hi
      exact ⟨a', m', c', e, ho.chg c3 (fun g q1 q2 _ q4 => by omega)⟩⟩⟩
  exact ⟨⟨(cellOf h2 0 _ rfl).1, (cellOf h2 1 _ rfl).1⟩, hsp.own h.ap (by omega) (by omega) c3.size c3.size, c3.below (by omega) (fun q hq => by omega)⟩

set_option maxHeartbeats 3200000 in
theorem treesFrom_any (ao : Option Addr) (n cap : Nat) (xss : List (List Int)) (w : World) (h : RowsAt w ao n cap xss) (hn : n ≤ 4000) (hx : ∀ x ∈ xss, x.length ≤ 28) :
    Calls Try.prog 84 #[.slice ao n cap] w fun e w' => ∃ a c, e = .returned (treesV true a n c) ∧ OwnRows w.heap.size w'.heap.size w' a n c xss ∧ Below w.heap.size w w' := by
  have hl := h.length
  have hst : TrSt w.heap.size ((w.alloc (.cells #[.slice none 0 0, .nilFunc] 66)).alloc (.cells #[.slice none 0 0, wayF true] 66)) none 0 0 [] (xss.take 0) := by
    obtain ⟨h1, h2⟩ := heapPair w (.cells #[.slice none 0 0, .nilFunc] 66) (.cells #[.slice none 0 0, wayF true] 66)
    exact ⟨h1, h2, Sp.nil _ _ _ _ _, List.Pairwise.nil⟩
  have hb0 : Below w.heap.size w ((w.alloc (.cells #[.slice none 0 0, .nilFunc] 66)).alloc (.cells #[.slice none 0 0, wayF true] 66)) := (belowAlloc w _).alloc (by simp) _
  have hnI : (n : Int) ≤ 4000 := by omega
  unfold wayF wbV at hst hb0
  have Hl := Lib.hid hl; clear hl
  have Hx := Lib.hid hx; clear hx
  have Hst := Lib.hid hst; clear hst
  have Hb0 := Lib.hid hb0; clear hb0
  unfold treesV wayF wbV
  go_enter Try.func84, Try.ntmps84
  go_wp2_with fail
  go_loopw [11] (fun i wr => ∃ (k : Nat) (a : Option Addr) (c : Nat) (vs : List Value), k ≤ n ∧ i = .int .i64 k ∧ TrSt w.heap.size wr a k c vs (xss.take k) ∧ Below w.heap.size w wr) (fun i _ => n - (intOf i).toNat)
  case atStart => exact ⟨0, none, 0, [], Nat.zero_le _, rfl, Hst.out, Hb0.out⟩
  case round =>
    obtain ⟨k, a, c, vs, hk, rfl, ht, hb⟩ := hrel
    have hsz := ht.size
    by_cases hlt : k < n
    · obtain ⟨b, oo, rfl, hbl, hc⟩ := (h.keep hb).cell k hlt
      obtain ⟨a3, m3, c3, hck, hi3⟩ := hc k hlt
      clear hc
      have hlx := Hx.out _ (getD_memR hlt Hl.out)
      have htk := take_snocX hlt Hl.out
      generalize xss.getD k [] = x at *
      have hil := hi3.length
      have hcp := copyOf_any a3 m3 c3 x wr.drew (hi3.drewN 1) (by omega)
      have hlate : ∀ W, Below wr.heap.size wr W → W.cell? ⟨w.heap.size + 1, 0, none⟩ = some (.slice a k c) := fun W hW => by
        rw [hW.cell (p := ⟨w.heap.size + 1, 0, none⟩) (by show w.heap.size + 1 < _; omega)]
        exact (cellOf ht.tr 0 _ rfl).1
      have hrefl : Below wr.heap.size wr wr.drew := belowDrewN (Below.refl _ _) 1
      have hc0 := hlate wr.drew hrefl
      have hfin := fun w1 a1 c1 (ho1 : Own wr.heap.size w1.heap.size w1 a1 m3 c1 x) (hb1 : Below wr.heap.size wr w1) a4 c4 w4 ho4 hc4 => ht.step (w4 := w4) (a4 := a4) (c4 := c4) ho1 hb1 ho4 hc4
      have hspn := ht.sp.spine
      have Hlx := Lib.hid hlx; clear hlx
      have Htk := Lib.hid htk; clear htk
      have Hil := Lib.hid hil; clear hil
      have Hcp := Lib.hid hcp; clear hcp
      have Hlate := Lib.hid hlate; clear hlate
      have Hfin := Lib.hid hfin; clear hfin
      have Hspn := Lib.hid hspn; clear hspn
      clear hi3 ht
      go_wp2_with fail
      go_region_law (first | (go_simp; with_reducible refine (Hcp.out).mono ?_; rintro e w1 ⟨a1, c1, rfl, ho1, hb1⟩; have hb1' : Below wr.heap.size wr w1 := belowTrans hrefl hb1 (Nat.le_refl _); have hc1 := Hlate.out w1 hb1'; have hc2 := Hlate.out (w1.alloc (.cells #[.slice a1 m3 c1] 31)) (hb1'.alloc hb1'.size _)) | (refine step_catVX (w1.alloc (.cells #[.slice a1 m3 c1] 31)) rfl (.tmp 16) (.tmp 19) 25 rfl 31 _ 24 Try.underlying25 Try.infoInts rfl (by decide) (w.heap.size + 2) wr.heap.size a k c vs rfl (Hspn.out.keep (hb1'.alloc hb1'.size _)) w1.heap.size (.slice a1 m3 c1) rfl (by rw [World.cell?_alloc_at _ _ _ _ rfl]; rfl) rfl (by omega) (by have := hb1'.size; simp; omega) ?_; intro a4 c4 w4 ho4 hc4 hn4 hr4; obtain ⟨hcT, hfT, hpost, hbelow⟩ := Hfin.out w1 a1 c1 ho1 hb1' a4 c4 w4 ho4 hc4; clear hc1 hc2 hc0))
      all_goals
        have Hpost := Lib.hid hpost
        have Hbelow := Lib.hid hbelow
        clear hpost hbelow ho4 hc4 hn4 hr4 ho1 hb1
        go_wp2
        go_roundw
        case rel => exact ⟨k + 1, a4, c4, _, by omega, by go_num, by rw [Htk.out]; exact Hpost.out, hb.trans Hbelow.out⟩
        case measure => simp [intOf]; omega
    · obtain rfl : n = k := by omega
      rw [take_allR Hl.out] at ht
      obtain ⟨t0, t1⟩ := cellOf ht.tr 0 _ rfl
      obtain ⟨t2, t3⟩ := cellOf ht.tr 1 _ rfl
      obtain ⟨r0, r1⟩ := cellOf ht.res 0 _ rfl
      obtain ⟨r2, r3⟩ := cellOf ht.res 1 _ rfl
      obtain ⟨hp, hown, hbelow⟩ := ht.fin
      replace hbelow := hb.trans hbelow
      unfold wayF wbV at t2 hp hown hbelow
      have Hp := Lib.hid hp; clear hp
      have Hown := Lib.hid hown; clear hown
      have Hbelow := Lib.hid hbelow; clear hbelow
      clear ht
      go_wp2
      refine bodyPost_ret (v := .agg #[.slice a n c, .func (.func 94) #[.agg #[.bool true]] #[]]) ?_ rfl ⟨a, c, rfl, Hown.out, Hbelow.out⟩
      obtain ⟨p0, p1⟩ := Hp.out
      rw [results_cell_one rfl]
      simp [go_sem, asAddr, Result.andThen, loadVar, p0, p1]

theorem treeCells (b : Bool) (a0 : Option Addr) (n0 c0 : Nat) (w W : World) (hW : Below (w.heap.size + 1) (w.alloc (.cells #[.slice a0 n0 c0, wayF b] 66)) W) :
    W.cell? ⟨w.heap.size, 0, none⟩ = some (.slice a0 n0 c0) ∧ W.cell? ⟨w.heap.size, 1, none⟩ = some (wayF b) := by
  constructor
  · rw [hW.cell (p := ⟨w.heap.size, 0, none⟩) (by show w.heap.size < _; omega), World.cell?_alloc_at _ _ _ _ rfl]; rfl
  · rw [hW.cell (p := ⟨w.heap.size, 1, none⟩) (by show w.heap.size < _; omega), World.cell?_alloc_at _ _ _ _ rfl]; rfl
theorem apart_append {vs us : List Value} {C D C' D' : Nat} {w w' : World} {xss yss : List (List Int)} (hr : RowsW C D w vs xss) (hp : vs.Pairwise apart) (kr : RowsW C' D' w' us yss) (kp : us.Pairwise apart) (hd : D ≤ C') : (vs ++ us).Pairwise apart := by
  rw [List.pairwise_append]
  refine ⟨hp, kp, fun v hv u hu => ?_⟩
  obtain ⟨i, hi, rfl⟩ := List.getElem_of_mem hv
  obtain ⟨j, hj, rfl⟩ := List.getElem_of_mem hu
  obtain ⟨a, m, c, e, ho⟩ := hr.row i (by rw [← hr.length]; exact hi)
  obtain ⟨a', m', c', e', ho'⟩ := kr.row j (by rw [← kr.length]; exact hj)
  rw [List.getD_eq_getElem?_getD, List.getElem?_eq_getElem hi] at e
  rw [List.getD_eq_getElem?_getD, List.getElem?_eq_getElem hj] at e'
  simp only [Option.getD_some] at e e'
  rw [e, e']
  unfold apart
  cases h1 : (Value.slice a m c).ownBlock with
  | none => exact .inl rfl
  | some g =>
    right
    intro h2
    have h3 := ho.2 g h1
    have h4 := (ho'.1.lt g h2.symm).1
    omega
theorem flatMap_len (b : Bool) (xss : List (List Int)) (hG : ∀ x ∈ xss, Good x) : (xss.flatMap (wayL b)).length ≤ 29 * xss.length := by
  induction xss with
  | nil => simp
  | cons x l ih =>
    have h1 := wayL_len b (hG x (by simp))
    have h2 := ih (fun y hy => hG y (by simp [hy]))
    rw [List.flatMap_cons, List.length_append, List.length_cons]
    omega

set_option maxHeartbeats 3200000 in
theorem before_any (b : Bool) (a0 : Option Addr) (n0 c0 : Nat) (ao : Option Addr) (n cap : Nat) (xss : List (List Int)) (w : World) (h : RowsAt w ao n cap xss) (hG : ∀ x ∈ xss, Good x) (hn : n ≤ 4000) :
    Calls Try.prog 125 #[treesV b a0 n0 c0, .slice ao n cap] w fun e w' => ∃ a m c, e = .returned (.slice a m c) ∧ OwnRows w.heap.size w'.heap.size w' a m c (xss.flatMap (wayL b)) ∧ Below w.heap.size w w' := by
  have hl := h.length
  have hba := belowAlloc w (.cells #[.slice a0 n0 c0, wayF b] 66)
  have hbr : Below (w.heap.size + 1) (w.alloc (.cells #[.slice a0 n0 c0, wayF b] 66)) (w.alloc (.cells #[.slice a0 n0 c0, wayF b] 66)) := Below.refl _ _
  have hwa : (w.alloc (.cells #[.slice a0 n0 c0, wayF b] 66)).heap.size = w.heap.size + 1 := by simp
  have hnI : (n : Int) ≤ 4000 := by omega
  have Hl := Lib.hid hl; clear hl
  have HG := Lib.hid hG; clear hG
  have Hba := Lib.hid hba; clear hba
  have Hbr := Lib.hid hbr; clear hbr
  have Hwa := Lib.hid hwa; clear hwa
  unfold treesV wayF at *
  go_enter Try.func125, Try.ntmps125
  go_wp2_with fail
  go_loopw [5, 10] (fun v i wr => ∃ (j : Nat) (a : Option Addr) (p c : Nat) (vs : List Value), j ≤ n ∧ p ≤ 29 * j ∧ i = .int .i64 j ∧ v = .slice a p c ∧ Sp (w.heap.size + 1) wr.heap.size (w.heap.size + 1) wr.heap.size wr a p c vs ((xss.take j).flatMap (wayL b)) ∧ vs.Pairwise apart ∧ Below (w.heap.size + 1) (w.alloc (.cells #[.slice a0 n0 c0, .func (.func 94) #[wbV b] #[]] 66)) wr) (fun _ i _ => n - (intOf i).toNat)
  case atStart => exact ⟨0, none, 0, 0, [], Nat.zero_le _, Nat.zero_le _, rfl, rfl, Sp.nil _ _ _ _ _, List.Pairwise.nil, Hbr.out⟩
  case round =>
    obtain ⟨j, a, p, c, vs, hj, hp, rfl, rfl, hv, hap, hb⟩ := hrel
    have hbw := (Hba.out).trans (hb.mono (by omega))
    have hsz := hb.size
    rw [Hwa.out] at hsz
    by_cases hlt : j < n
    · obtain ⟨bl, oo, rfl, hbl, hc⟩ := (h.keep hbw).cell j hlt
      obtain ⟨a3, m3, c3, hck, hi3⟩ := hc j hlt
      clear hc
      obtain ⟨t0, t1⟩ := treeCells b a0 n0 c0 w wr hb
      unfold wayF at t1
      have hg3 := HG.out _ (getD_memR hlt Hl.out)
      have e3 := flatMap_snocX (wayL b) hlt Hl.out
      generalize xss.getD j [] = x at *
      have hwl := wayL_len b hg3
      have hcon := wayPasts_any b a3 m3 c3 x wr hi3 hg3
      generalize wayL b x = P at *
      have Hcon := Lib.hid hcon; clear hcon
      have E3 := Lib.hid e3; clear e3
      have Hg3 := Lib.hid hg3; clear hg3
      have Hap := Lib.hid hap; clear hap
      go_wp2_with fail
      with_reducible refine (Hcon.out).mono ?_
      rintro e w2 ⟨a2, n2, c2, rfl, ho2, hb2⟩
      obtain ⟨us, hu, hup⟩ := ho2.sp
      have hn2 := hu.length
      have hs2 := hb2.size
      have hv2 := (hv.keep hb2).mono (Nat.le_refl _) hs2 (Nat.le_refl _) hs2
      have hap2 := apart_append hv.rows Hap.out hu.rows hup (Nat.le_refl _)
      have hur := hu.rows.mono (show w.heap.size + 1 ≤ wr.heap.size by omega) (Nat.le_refl _)
      have hbw2 := belowTrans hb hb2 (by rw [Hwa.out]; exact Nat.le_refl _)
      clear hv hb hb2 ho2
      have Hn2 := Lib.hid hn2; clear hn2
      have Hap2 := Lib.hid hap2; clear hap2
      go_wp2_with (at_builtin; refine wpList_catSp w2 rfl _ _ rfl (w.heap.size + 1) w2.heap.size (w.heap.size + 1) w2.heap.size a p c vs _ rfl hv2 a2 n2 c2 us P rfl hu.spine.at hur (by have := Hn2.out; omega) (by omega) ?_)
      intro a4 c4 w4 hv4 hc4
      have hs4 := hc4.size
      have hb4 := hbw2.trans (hv2.below hc4 (by omega))
      have hv4' := hv4.mono (Nat.le_refl _) (Nat.le_refl _) (Nat.le_refl _) hs4
      clear hv2 hv4 hc4 hbw2 hu hur
      go_wp2
      go_roundw
      case rel => exact ⟨j + 1, a4, p + n2, c4, _, by omega, by have := Hn2.out; omega, by go_num, rfl, by rw [E3.out]; exact hv4', Hap2.out, hb4⟩
      case measure => simp [intOf]; omega
    · obtain rfl : n = j := by omega
      rw [take_allR Hl.out] at hv
      have Hap := Lib.hid hap; clear hap
      go_wp2
      go_ret
      exact ⟨_, _, _, rfl, hv.own Hap.out (by omega) (by omega) (Nat.le_refl _) (Nat.le_refl _), hbw⟩
end Go.Proofs.Ytaebdafjbkadlaa
