/- CyclicBanks by the program. No condition. -/
import Derived.Test.YtnebfojnbjbogaaDoorCyC
import Derived.Test.YtnebfojnbjbogaaDoorBoP
import Derived.Test.YtnebfojnbjbogaaDoorBbU
namespace Go.Proofs.YtnebfojnbjbogaaDoor
open Go.RowKit Go.Maps
set_option linter.unusedVariables false
set_option linter.unusedSimpArgs false
set_option maxRecDepth 20000

theorem step_mapUpdateB {ops : Array Oper} {o : Oper} {a : Act} {K : Act → World → Prop} {Q : Exit → Act → World → Prop} {E0 : Prop} (w : World) (hgd : o.guard = none) (m x v : Operand) (t : TypeId) (hop : o.op = Op.mapUpdate t m x v)
    (k e : TypeId) (Kd : Keyed Tryd.prog k) (ht : Tryd.prog.underlying t = some (.map k e)) (R : Value → Option (DataW Value × List MemPlace)) (b n : Nat) (D : DataW Value)
    (hm : a.eval m = .map (some b)) (hown : w.ownsMap Tryd.prog k R b n D) (hn : n < maxLen) (key val : Value) (kl : Lit) (hx : a.eval x = key) (hv : a.eval v = val) (hkey : keyOf Tryd.prog k key = some kl)
    (d : DataW Value) (ps : List MemPlace) (hval : R val = some (d, ps))
    (hK : ∀ w', w'.ownsMap Tryd.prog k R b (n + 1) (D.put kl d) → w.grownBy w' (some b) → K (a.put o.dst undef) w') :
    if Region.wanted o (yielded ops a.tmps) = true then Oper.wp Tryd.prog o a w K Q else E0 := by
  have hw : Region.wanted o (yielded ops a.tmps) = true := by simp [Region.wanted, hgd]
  rw [if_pos hw]
  obtain ⟨w', hrun, r1, r2⟩ := hown.update Kd ht hn hkey hval
  unfold Oper.wp
  simp [execOp, hop, hm, hx, hv, hrun, Result.andThen]
  exact hK _ r1 r2
theorem take_rowK {bs : List Bk} {j : Nat} (hj : j < bs.length) : bs.take (j + 1) = bs.take j ++ [bs.getD j noBank] := by
  rw [List.take_add_one, List.getElem?_eq_getElem hj, List.getD_eq_getElem?_getD, List.getElem?_eq_getElem hj]
  rfl
set_option maxHeartbeats 3200000 in
set_option maxRecDepth 100000 in
theorem allBehind_any (ao : Option Addr) (n cap : Nat) (bs : List Bk) (w : World) (hA : BanksAt w ao n cap bs) (hok : ∀ b ∈ bs, BankOk b) (hn : n ≤ 4000) :
    Calls Tryd.prog 38 #[.slice ao n cap] w fun e w' => ∃ a m c cs, e = .returned (.slice a m c) ∧ srtK cs ∧ cs.Nodup ∧ (∀ b, b ∈ cs ↔ ∃ x ∈ bs, stepB x = b) ∧ BksOwn w.heap.size w'.heap.size w' a m c cs ∧ Below w.heap.size w w' := by
  have hlen := hA.length
  have hni := hA.lenInt
  have Hok := Lib.hid hok; clear hok
  have Hlen := Lib.hid hlen; clear hlen
  have hmm := @run_makeMap Tryd.prog
  go_enter Tryd.func38, Tryd.ntmps38
  go_wp2_with fail
  clear hmm
  go_loopw [11] (fun i wr => ∃ (k : Nat) (D : DataW Value) (V : Bk → Value), k ≤ n ∧ i = .int .i64 k ∧ Hid (MapB (w.heap.size + 1) wr.heap.size wr w.heap.size k D ((bs.take k).map stepB) V) ∧ Hid (Below w.heap.size w wr) ∧ w.heap.size + 1 ≤ wr.heap.size) (fun i _ => n - (intOf i).toNat)
  case atStart => exact ⟨0, .map [], fun _ => .slice none 0 0, Nat.zero_le _, rfl, Lib.hid (MapB.made _ _ _ _), Lib.hid (belowAlloc w _), by simp⟩
  case round =>
    obtain ⟨k, D, V, hk, rfl, Hm, Hbr, hsr⟩ := hrel
    by_cases hlt : k < n
    · have hlti : (k : Int) < (n : Int) := by omega
      obtain ⟨b0, o0, rfl, hbl0, hc0⟩ := (hA.keep Hbr.out).cell (by omega)
      obtain ⟨a3, m3, d3, x0, x1, x2, hI⟩ := hc0 k hlt
      clear hc0
      have hjb : k < bs.length := by rw [Hlen.out]; exact hlt
      have hbk := Hok.out (bs.getD k noBank) (by rw [List.getD_eq_getElem?_getD, List.getElem?_eq_getElem hjb]; exact List.getElem_mem _)
      have htk : (bs.take (k + 1)).map stepB = (bs.take k).map stepB ++ [stepB (bs.getD k noBank)] := by rw [take_rowK hjb, List.map_append]; rfl
      generalize bs.getD k noBank = A at *
      obtain ⟨h3, l3, p3⟩ := A
      simp only at x0 x1 x2 hI
      have hba := belowAlloc wr (.cells #[.int .i64 h3, .int .i64 l3, .slice a3 m3 d3] 26)
      have kb := Blk.new wr h3 l3 a3 m3 d3 26
      obtain ⟨X, hX⟩ : ∃ X, X = wr.alloc (.cells #[.int .i64 h3, .int .i64 l3, .slice a3 m3 d3] 26) := ⟨_, rfl⟩
      rw [← hX] at hba kb
      have hsX : X.heap.size = wr.heap.size + 1 := by rw [hX]; simp
      have hst := stepOfBank_any h3 l3 a3 m3 d3 p3 X (hI.keep hba) hbk
      have hok5 := (step_ok hbk).1
      have hm1 := Hm.out.keep hba
      have hb1 := belowTrans Hbr.out hba (Nat.le_refl _)
      generalize hnx : stepB ⟨h3, l3, p3⟩ = nx at *
      obtain ⟨h5, l5, p5⟩ := nx
      simp only at hst
      obtain ⟨⟨u0, u1, u2⟩, v0, v1, v2⟩ := kb.cells
      clear hI kb hba Hm Hbr
      have Htk := Lib.hid htk; clear htk
      have HX := Lib.hid hX; clear hX
      have HsX := Lib.hid hsX; clear hsX
      have Hst := Lib.hid hst; clear hst
      have Hok5 := Lib.hid hok5; clear hok5
      have Hm1 := Lib.hid hm1; clear hm1
      have Hb1 := Lib.hid hb1; clear hb1
      have Hnx := Lib.hid hnx; clear hnx
      have Hbk := Lib.hid hbk; clear hbk
      have Hjb := Lib.hid hjb; clear hjb
      go_wp2_with fail
      rw [← HX.out]
      with_reducible refine (Hst.out).mono ?_
      rintro e w5 ⟨a5, m5, c5, rfl, ho5, hb5⟩
      clear u0 u1 u2 v0 v1 v2 x0 x1 x2
      have hs5 : wr.heap.size + 1 ≤ w5.heap.size := by have := hb5.size; rw [HsX.out] at this; exact this
      have hbc := belowAlloc w5 (.cells #[.int .i64 h5, .int .i64 l5, .slice a5 m5 c5] 26)
      have kc := Blk.new w5 h5 l5 a5 m5 c5 26
      obtain ⟨Y, hY⟩ : ∃ Y, Y = w5.alloc (.cells #[.int .i64 h5, .int .i64 l5, .slice a5 m5 c5] 26) := ⟨_, rfl⟩
      rw [← hY] at hbc kc
      have hm5 := (Hm1.out.keep hb5).keep hbc
      have hb6 := belowTrans (belowTrans Hb1.out hb5 (Nat.le_refl _)) hbc (Nat.le_refl _)
      have ho6 := (ho5.keep hbc).mono (show wr.heap.size ≤ X.heap.size by rw [HsX.out]; omega) hbc.size
      have htx := textOfBank_any h5 l5 a5 m5 c5 p5 Y.drew ho6.at.drewB Hok5.out
      have hkey := textKey Hok5.out
      have hsY : w5.heap.size ≤ Y.heap.size := hbc.size
      generalize hT : bankL (⟨h5, l5, p5⟩ : Bk) = T at *
      obtain ⟨⟨u0, u1, u2⟩, v0, v1, v2⟩ := kc.cells
      clear ho5 hb5 hbc Hst Hm1 Hb1
      have HY := Lib.hid hY; clear hY
      have Hm5 := Lib.hid hm5; clear hm5
      have Hb6 := Lib.hid hb6; clear hb6
      have Ho6 := Lib.hid ho6; clear ho6
      have Htx := Lib.hid htx; clear htx
      have Hkey := Lib.hid hkey; clear hkey
      have HT := Lib.hid hT; clear hT
      have Kc := Lib.hid kc; clear kc
      go_wp2_with fail
      rw [← HY.out]
      refine' cutP3 (fun key => ?main) ?pf
      case main =>
        go_region_law (first | (go_simp; with_reducible refine (Htx.out).mono ?_; rintro e w6 ⟨rfl, hb7⟩; have hy6 := belowTrans (Below.refl Y.heap.size Y).drew hb7 (Nat.le_refl _); have Hm6 := Lib.hid (Hm5.out.keep hy6); have Hb7 := Lib.hid (belowTrans Hb6.out hy6 (Nat.le_refl _)); have Ho7 := Lib.hid ((Ho6.out.keep hy6).mono (Nat.le_refl _) hy6.size); have hs6 := hy6.size; obtain ⟨⟨u0, u1, u2⟩, v0, v1, v2⟩ := (Kc.out.keep hy6).cells; obtain ⟨w7, hrun7, hown7, hg7⟩ := Hm6.out.own.update mapKS Tryd.underlying79 (by unfold maxLen; omega) Hkey.out (val := .agg #[.int .i64 h5, .int .i64 l5, .slice a5 m5 c5]) rfl; have Hown7 := Lib.hid hown7; have Hg7 := Lib.hid hg7; clear hb7 hy6 hown7 hg7))
        all_goals
          clear hrun7 u0 u1 u2 v0 v1 v2
          revert w6 w7
          exact key.out
      case pf =>
        intro w6 Hm6 Hb7 Ho7 hs6 w7 Hown7 Hg7
        clear u0 u1 u2 v0 v1 v2
        have hc7 := Chg.ofGrown Hg7.out
        have hs7 := hc7.size
        have hown8 := Hown7.out
        rw [← HT.out] at hown8
        have hk5 : BankOk ⟨h5, l5, p5⟩ := Hok5.out
        have hm8 := Hm6.out.put hk5 (a := a5) (m := m5) (c := c5) (w' := w7) (E' := w7.heap.size) ((Ho7.out.chg hc7 (fun q h1 _ _ e => by simp only [Option.some.injEq] at e; omega)).mono (Nat.le_refl _) hs7) (by omega) hsr hown8 (fun x hx => by
          obtain ⟨a, m, c, e, ho⟩ := Hm6.out.rows x hx
          exact ⟨a, m, c, e, ho.chg hc7 (fun q h1 _ _ e => by simp only [Option.some.injEq] at e; omega)⟩)
        have hb8 : Below w.heap.size w w7 := Hb7.out.trans (hc7.below (by omega) (fun q e => by simp only [Option.some.injEq] at e; omega))
        clear hc7 hown8 hk5
        have Hm8 := Lib.hid hm8; clear hm8
        have Hb8 := Lib.hid hb8; clear hb8
        go_wp2
        go_roundw
        case rel => exact ⟨k + 1, _, _, by omega, by go_num, Lib.hid (by rw [Htk.out]; exact Hm8.out), Hb8, by omega⟩
        case measure => simp [intOf] <;> omega
    · obtain rfl : n = k := by omega
      have hall : bs.take n = bs := List.take_of_length_le (by rw [Hlen.out]; exact Nat.le_refl _)
      have hm9 := Hm.out
      rw [hall] at hm9
      have hcon := valuesInOrder_any _ _ _ _ D (bs.map stepB) V wr hm9 hn hsr (Nat.le_refl _)
      have hb9 := Hbr.out
      clear hm9 hall Hm Hbr
      have Hcon := Lib.hid hcon; clear hcon
      have Hb9 := Lib.hid hb9; clear hb9
      go_wp2_with fail
      with_reducible refine (Hcon.out).mono ?_
      rintro e w9 ⟨a, m, c, cs, rfl, f1, f2, f3, f4, f5⟩
      have f6 := f4.mono (show w.heap.size ≤ w.heap.size + 1 by omega) (Nat.le_refl _)
      have f7 := belowTrans Hb9.out f5 (Nat.le_refl _)
      have f8 : ∀ b, b ∈ cs ↔ ∃ x ∈ bs, stepB x = b := fun b => (f3 b).trans List.mem_map
      clear f3 f4 f5 Hcon Hb9
      have F1 := Lib.hid f1; clear f1
      have F2 := Lib.hid f2; clear f2
      have F6 := Lib.hid f6; clear f6
      have F7 := Lib.hid f7; clear f7
      have F8 := Lib.hid f8; clear f8
      go_wp2
      first
        | go_ret
        | go_ret2
        | go_ret3
      exact ⟨_, _, _, cs, rfl, F1.out, F2.out, F8.out, F6.out, F7.out⟩
def mCyclicBanks (h n : Int) : List Bk × Bool := if (1 ≤ h ∧ h ≤ 10) ∧ 0 ≤ n ∧ n ≤ 14 then (cycBk h.toNat n.toNat, true) else ([], false)
theorem mCyc_yes (H N : Nat) (h : (1 ≤ (H : Int) ∧ (H : Int) ≤ 10) ∧ 0 ≤ (N : Int) ∧ (N : Int) ≤ 14) : mCyclicBanks H N = (cycBk H N, true) := by unfold mCyclicBanks; rw [if_pos h]; rfl
theorem mCyc_no {h n : Int} (q : ¬ ((1 ≤ h ∧ h ≤ 10) ∧ 0 ≤ n ∧ n ≤ 14)) : mCyclicBanks h n = ([], false) := by unfold mCyclicBanks; rw [if_neg q]
def lenV : Value → Nat
  | .slice _ m _ => m
  | _ => 0
theorem img_is {H N : Nat} (hH : 1 ≤ H ∧ H ≤ 10) (hN : N ≤ 14) {k : Nat} {cs : List Bk} (hs : srtK cs) (hn : cs.Nodup) (hm : ∀ b, b ∈ cs ↔ ∃ x ∈ imgB H N k, stepB x = b) : cs = imgB H N (k + 1) := by
  have hmem : ∀ b, b ∈ cs ↔ b ∈ imgB H N (k + 1) := fun b => (hm b).trans (imgB_succ hH hN k).symm
  have hp : cs.Perm (imgB H N (k + 1)) := (List.perm_ext_iff_of_nodup hn (imgB_nodup H N (k + 1))).2 hmem
  exact srtK_unique hs (srtK_of (imgB_up H N (k + 1))) hp (H := (H : Int)) (fun b hb => (imgB_in hH hN ((hmem b).1 hb)).2.1)
set_option maxHeartbeats 3200000 in
set_option maxRecDepth 100000 in
theorem impl_CyclicBanks (h n : Int) (w : World) :
    Calls Tryd.prog 20 #[.int .i64 h, .int .i64 n] w fun e w' => ∃ ao m cap, e = .returned (.tuple #[.slice ao m cap, .bool (mCyclicBanks h n).2]) ∧ BksOwn w.heap.size w'.heap.size w' ao m cap (mCyclicBanks h n).1 ∧ Below w.heap.size w w' := by
  have hcon := impl_AllBanks h n w
  by_cases q : (1 ≤ h ∧ h ≤ 10) ∧ 0 ≤ n ∧ n ≤ 14
  · obtain ⟨H, rfl⟩ := Int.eq_ofNat_of_zero_le (show 0 ≤ h by omega)
    obtain ⟨N, rfl⟩ := Int.eq_ofNat_of_zero_le q.2.1
    rw [mAllBanks_yes H N q] at hcon
    rw [mCyc_yes H N q]
    have hH : 1 ≤ H ∧ H ≤ 10 := by omega
    have hN : N ≤ 14 := by omega
    have h0 := imgB_zero H N
    have hsm := fun k => Nat.le_trans (List.length_filter_le (fun b => decide (b ∈ (allB H N).map (stepsB k))) (allB H N)) (allB_small hH hN)
    have hsm2 : ∀ k, (imgB H N k).length ≤ 1000 := hsm
    have hle := fun k => imgB_le hH hN k
    have hcy := fun k => img_cyc hH hN (k := k)
    have his := fun k cs => img_is hH hN (k := k) (cs := cs)
    have hin := fun k b (hb : b ∈ imgB H N k) => (imgB_in hH hN hb).1
    change Calls Tryd.prog 37 _ w (fun e w' => ∃ ao m cap, e = .returned (.tuple #[.slice ao m cap, .bool true]) ∧ BksOwn w.heap.size w'.heap.size w' ao m cap (allB H N) ∧ Below w.heap.size w w') at hcon
    rw [← h0] at hcon
    clear hsm h0 q
    have Hcon := Lib.hid hcon; clear hcon
    have Hsm2 := Lib.hid hsm2; clear hsm2
    have Hle := Lib.hid hle; clear hle
    have Hcy := Lib.hid hcy; clear hcy
    have His := Lib.hid his; clear his
    have Hin := Lib.hid hin; clear hin
    have HH := Lib.hid hH; clear hH
    have HN := Lib.hid hN; clear hN
    go_enter Tryd.func20, Tryd.ntmps20
    go_wp2_with fail
    with_reducible refine (Hcon.out).mono ?_
    rintro e w1 ⟨a1, m1, c1, rfl, ho1, hb1⟩
    clear Hcon
    have Ho1 := Lib.hid ho1; clear ho1
    have Hb1 := Lib.hid hb1; clear hb1
    go_wp2_with fail
    go_loopw [6] (fun v wr => ∃ (k : Nat) (a : Option Addr) (m c : Nat), v = .slice a m c ∧ Hid (BksOwn w.heap.size wr.heap.size wr a m c (imgB H N k)) ∧ Hid (Below w.heap.size w wr)) (fun v _ => lenV v)
    case atStart => exact ⟨0, a1, m1, c1, rfl, Ho1, Hb1⟩
    case round =>
      obtain ⟨k, a, m, c, rfl, Ho, Hbr⟩ := hrel
      clear Ho1 Hb1
      have hlen := Ho.out.length
      have hsml := Hsm2.out k
      have hbe := allBehind_any a m c (imgB H N k) wr Ho.out.at (Hin.out k) (by omega)
      have hszr := Hbr.out.size
      have Hbe := Lib.hid hbe; clear hbe
      go_wp2_with fail
      with_reducible refine (Hbe.out).mono ?_
      rintro e w2 ⟨a2, m2, c2, cs, rfl, f1, f2, f3, f4, f5⟩
      have hcs := His.out k cs f1 f2 f3
      subst hcs
      have hlen2 := f4.length
      have hle2 := Hle.out k
      have f6 := f4.mono hszr (Nat.le_refl _)
      have f7 := belowTrans Hbr.out f5 (Nat.le_refl _)
      clear f1 f2 f3 f4 f5 Hbe Ho Hbr
      by_cases hq : m2 = m
      · subst hq
        have hfin := Hcy.out k (by omega)
        rw [hfin] at f6
        clear hlen hlen2 hfin hle2 hsml
        have F6 := Lib.hid f6; clear f6
        have F7 := Lib.hid f7; clear f7
        go_wp2
        first
          | go_ret
          | go_ret2
          | go_ret3
        exact ⟨_, _, _, rfl, F6.out, F7.out⟩
      · have hqi : ¬ (m2 : Int) = (m : Int) := by omega
        have hms : m2 < m := by omega
        clear hlen hlen2 hle2 hsml
        have F6 := Lib.hid f6; clear f6
        have F7 := Lib.hid f7; clear f7
        have Hms := Lib.hid hms; clear hms
        go_wp2
        go_roundw
        case rel => exact ⟨k + 1, a2, m2, c2, rfl, F6, F7⟩
        case measure => exact Hms.out
  · rw [mAllBanks_no h n q] at hcon
    rw [mCyc_no q]
    clear q
    have Hcon := Lib.hid hcon; clear hcon
    go_enter Tryd.func20, Tryd.ntmps20
    go_wp2_with fail
    with_reducible refine (Hcon.out).mono ?_
    rintro e w1 ⟨a1, m1, c1, rfl, ho1, hb1⟩
    clear ho1
    have Hb1 := Lib.hid hb1; clear hb1
    go_wp2
    first
      | go_ret2
      | go_ret3
    exact ⟨none, 0, 0, rfl, BksOwn.nil _ _ _, Hb1.out⟩
end Go.Proofs.YtnebfojnbjbogaaDoor
