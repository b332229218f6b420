/- BankOrbit by the program: a map from texts to steps. No condition. -/
import Derived.Test.YtnebfojnbjbogaaGreatDoorGw
import Derived.Test.YtnebfojnbjbogaaGreatDoorGj
import Derived.Test.YtnebfojnbjbogaaGreatDoorGe
import Derived.Test.YtnebfojnbjbogaaGreatDoorBaP
import Derived.Maps.OwnSet
import Derived.Maps.OwnOps
import Derived.StringKeys
namespace Go.Proofs.YtnebfojnbjbogaaGreatDoor
open Go.RowKit Go.Maps
set_option linter.unusedVariables false
set_option linter.unusedSimpArgs false
set_option maxRecDepth 20000

theorem mapKS : Keyed Tryz.prog 9 := string_keyed Tryz.underlying9
theorem mapZI (w : World) : (zeroValue 3).run Tryz.prog w = .ok (.int .i64 0) w := by kernel_rfl
theorem litI2 {a b : Int} (h : (DataW.lit (.int .i64 a) : DataW Unit) = .lit (.int .i64 b)) : a = b := by injection h with h; injection h
/-- a map from the first K of some texts to their places -/
structure RepT (D : DataW Unit) (f : Nat → List UInt8) (K : Nat) : Prop where
  tidy : Maps.Tidy D
  yes : ∀ i, i < K → Maps.has D (.string (f i)) = true ∧ D.atKey (.string (f i)) (.lit (.int .i64 0)) = .lit (.int .i64 i)
  no : ∀ t, (∀ i, i < K → f i ≠ t) → Maps.has D (.string t) = false
theorem repT_empty (f : Nat → List UInt8) : RepT (.map []) f 0 := ⟨Maps.tidy_empty, fun i hi => absurd hi (Nat.not_lt_zero _), fun _ _ => by simp [Maps.has]⟩
theorem RepT.put {D : DataW Unit} {f : Nat → List UInt8} {K : Nat} (h : RepT D f K) (hn : ∀ i, i < K → f i ≠ f K) : RepT (D.put (.string (f K)) (.lit (.int .i64 K))) f (K + 1) := by
  have hk : WideAt.IsKeyLit (.string (f K)) := trivial
  have hne : ∀ t, t ≠ f K → (Lit.string t) ≠ .string (f K) := fun t ht e => by
    injection e with e
    exact ht e
  refine ⟨h.tidy.put hk _, fun i hi => ?_, fun t ht => ?_⟩
  · by_cases hiK : i = K
    · subst hiK
      exact ⟨Maps.has_put_same h.tidy.isMap hk _, Maps.atKey_put_same h.tidy.isMap hk _ _⟩
    · have hi' : i < K := by omega
      obtain ⟨h1, h2⟩ := h.yes i hi'
      rw [Maps.has_put_other (hne _ (hn i hi')), Maps.atKey_put_other (hne _ (hn i hi'))]
      exact ⟨h1, h2⟩
  · have h1 := fun e => ht K (by omega) e
    rw [Maps.has_put_other (hne t (fun e => h1 e.symm))]
    exact h.no t (fun i hi => ht i (by omega))
def MapT (w : World) (g : Nat) (f : Nat → List UInt8) (K : Nat) : Prop := ∃ D, w.ownsMap Tryz.prog 9 (plainElem (H := Unit) Tryz.prog 3) g K D ∧ RepT D f K
theorem MapT.made (w : World) (f : Nat → List UInt8) : MapT (w.alloc (.map #[] 0)) w.heap.size f 0 := ⟨.map [], World.ownsMap_made _ _ _ _, repT_empty f⟩
theorem MapT.lt {w : World} {g K : Nat} {f : Nat → List UInt8} (h : MapT w g f K) : g < w.heap.size := by
  obtain ⟨D, h, _⟩ := h; exact h.lt
theorem MapT.keep {w w' : World} {g K : Nat} {f : Nat → List UInt8} (h : MapT w g f K) (hb : Below w.heap.size w w') : MapT w' g f K := by
  have hB := h.lt
  obtain ⟨D, ⟨es, clock, h1, h2⟩, hr⟩ := h
  exact ⟨D, ⟨es, clock, (hb.block g hB).trans h1, h2⟩, hr⟩
theorem MapT.setCell {w : World} {g K : Nat} {f : Nat → List UInt8} (h : MapT w g f K) {a : Addr} (ha : g ≠ a.block) (u : Value) : MapT (w.setCell a u) g f K := by
  obtain ⟨D, h, hr⟩ := h
  exact ⟨D, h.setCell ha u, hr⟩
theorem bankL_length {b : Bk} (h : BankOk b) : (bankL b).length ≤ 200 := by
  have h1 := textL_length h.2.2.1
  have h2 := dd_length b.h (by have := h.1; omega)
  have h3 := dd_length b.l (by have := h.1; have := h.2.1; omega)
  unfold bankL
  simp only [List.length_append, List.length_cons, List.length_nil]
  omega
theorem textKey {b : Bk} (h : BankOk b) : keyOf Tryz.prog 9 (.string ⟨(bankL b).toArray⟩) = some (.string (bankL b)) := by
  have hl := bankL_length h
  have := WideMaps.keyOf_string_mk (P := Tryz.prog) (k := 9) Tryz.underlying9 (s := ⟨(bankL b).toArray⟩) (by show (bankL b).toArray.size ≤ maxLen; rw [List.size_toArray]; unfold maxLen; omega)
  simpa using this

set_option maxHeartbeats 3200000 in
set_option maxRecDepth 100000 in
theorem impl_BankOrbit (h l : Int) (ao : Option Addr) (n cap : Nat) (xs : List Int) (w : World) (hA : IntsAt w ao n cap xs) :
    Calls Tryz.prog 22 #[.agg #[.int .i64 h, .int .i64 l, .slice ao n cap]] w fun e w' => e = .returned (.tuple #[.int .i64 (mBankOrbit ⟨h, l, xs⟩).1, .int .i64 (mBankOrbit ⟨h, l, xs⟩).2.1, .bool (mBankOrbit ⟨h, l, xs⟩).2.2]) ∧ Below w.heap.size w w' := by
  have hb0 := belowAlloc w (.cells #[.int .i64 h, .int .i64 l, .slice ao n cap] 32)
  have hA0 := hA.keep hb0
  have k0 := Blk.new w h l ao n cap 32
  have hcon := isBank_any h l ao n cap xs (w.alloc (.cells #[.int .i64 h, .int .i64 l, .slice ao n cap] 32)) hA0
  unfold bankV at hcon
  obtain ⟨⟨x0, x1, x2⟩, y0, y1, y2⟩ := k0.cells
  by_cases hk : BankOk ⟨h, l, xs⟩
  · rw [bank_iff.2 hk] at hcon
    have hm := mOrbit_yes hk
    have hok := fun K => steps_okB hk K
    have hnx := stepsB_next ⟨h, l, xs⟩
    have hgo := fun K => orb_go (b := ⟨h, l, xs⟩) (K := K)
    have hhit := fun K i => orb_hit (b := ⟨h, l, xs⟩) (K := K) (i := i)
    have hend := fun K => orb_end ⟨h, l, xs⟩ (K := K)
    have hst0 : mOrb ⟨h, l, xs⟩ = orbF ⟨h, l, xs⟩ (1001 - 0) 0 := rfl
    have hz0 : stepsB 0 (⟨h, l, xs⟩ : Bk) = ⟨h, l, xs⟩ := rfl
    generalize hB : (⟨h, l, xs⟩ : Bk) = B at *
    generalize hM : mOrb B = M at *
    clear hk
    have Hcon := Lib.hid hcon; clear hcon
    have Hm := Lib.hid hm; clear hm
    have Hok := Lib.hid hok; clear hok
    have Hnx := Lib.hid hnx; clear hnx
    have Hgo := Lib.hid hgo; clear hgo
    have Hhit := Lib.hid hhit; clear hhit
    have Hend := Lib.hid hend; clear hend
    have Hst0 := Lib.hid hst0; clear hst0
    have Hz0 := Lib.hid hz0; clear hz0
    have HB := Lib.hid hB; clear hB
    have HM := Lib.hid hM; clear hM
    have Hb0 := Lib.hid hb0; clear hb0
    have HA0 := Lib.hid hA0; clear hA0
    have K0 := Lib.hid k0; clear k0
    go_enter Tryz.func22, Tryz.ntmps22
    go_wp2_with fail
    with_reducible refine ((Hcon.out)).mono ?_
    rintro e w1 ⟨rfl, hb1⟩
    have k1 := K0.out.keep hb1
    have hbb1 := belowTrans Hb0.out hb1 (Nat.le_refl _)
    have hsz1 : w.heap.size < w1.heap.size := k1.size
    have hba := belowAlloc w1 (.map #[] 0)
    have hmp := MapT.made w1 (fun i => bankL (stepsB i B))
    have k2 := k1.keep hba
    have hbb2 := belowTrans hbb1 hba (Nat.le_refl _)
    have hsz2 : (w1.alloc (.map #[] 0)).heap.size = w1.heap.size + 1 := by simp
    have hk3 : Blk (w1.alloc (.map #[] 0)) w.heap.size (stepsB 0 B).h (stepsB 0 B).l ao n cap 32 := by rw [Hz0.out, ← HB.out]; exact k2
    have hI3 : IntsAt w ao n cap (stepsB 0 B).p := by rw [Hz0.out, ← HB.out]; exact hA
    clear x0 x1 x2 y0 y1 y2 hb1 k1 hbb1 hba k2 hA
    have Hmp := Lib.hid hmp; clear hmp
    have Hbb2 := Lib.hid hbb2; clear hbb2
    have Hsz2 := Lib.hid hsz2; clear hsz2
    have Hk3 := Lib.hid hk3; clear hk3
    have HI3 := Lib.hid hI3; clear hI3
    have hmm := @run_makeMap Tryz.prog
    go_wp2_with fail
    clear hmm
    go_loopw [6] (fun i wr => ∃ (K : Nat) (a : Option Addr) (m c : Nat), i = .int .i64 K ∧ K ≤ 1001 ∧ Hid (M = orbF B (1001 - K) K) ∧ Hid (Blk wr w.heap.size (stepsB K B).h (stepsB K B).l a m c 32) ∧ Hid (IntsAt w a m c (stepsB K B).p ∨ Own (w1.heap.size + 1) wr.heap.size wr a m c (stepsB K B).p) ∧ Hid (MapT wr w1.heap.size (fun i => bankL (stepsB i B)) K) ∧ Hid (∀ i j, i < j → j < K → stepsB i B ≠ stepsB j B) ∧ Hid (Below w.heap.size w wr) ∧ w1.heap.size + 1 ≤ wr.heap.size) (fun i _ => 1001 - (intOf i).toNat)
    case atStart => exact ⟨0, ao, n, cap, rfl, by omega, Hst0, Hk3, Lib.hid (.inl HI3.out), Hmp, Lib.hid (fun i j _ hj => absurd hj (Nat.not_lt_zero _)), Hbb2, by rw [Hsz2.out]; exact Nat.le_refl _⟩
    case round =>
      obtain ⟨K, a, m, c, rfl, hK, Horb, Kr, HIr, Hmr, Hdr, Hbr, hsr⟩ := hrel
      clear Hk3 HI3 Hmp Hbb2 Hsz2 Hst0
      by_cases hlt : K ≤ 1000
      · have hlti : (K : Int) ≤ 1000 := by omega
        have hokK := Hok.out K
        have hnK := Hnx.out K
        have hI : IntsAt wr a m c (stepsB K B).p := by
          rcases HIr.out with q | q
          · exact q.keep Hbr.out
          · exact q.at
        have kr := Kr.out
        have hir := HIr.out
        have hkey := textKey hokK
        have hinj := fun i (e : bankL (stepsB i B) = bankL (stepsB K B)) => bankL_inj (Hok.out i) hokK e
        generalize hX : stepsB K B = X at *
        obtain ⟨h1, l1, p1⟩ := X
        simp only at kr hir hI
        obtain ⟨⟨x0, x1, x2⟩, y0, y1, y2⟩ := kr.cells
        have htx := textOfBank_any h1 l1 a m c p1 wr hI hokK
        generalize hT : bankL (⟨h1, l1, p1⟩ : Bk) = T at *
        clear Kr HIr
        have Htx := Lib.hid htx; clear htx
        have Hkey := Lib.hid hkey; clear hkey
        have Hinj := Lib.hid hinj; clear hinj
        have HX := Lib.hid hX; clear hX
        have HT := Lib.hid hT; clear hT
        have HnK := Lib.hid hnK; clear hnK
        have HokK := Lib.hid hokK; clear hokK
        have Kr := Lib.hid kr; clear kr
        have Hir := Lib.hid hir; clear hir
        have HI := Lib.hid hI; clear hI
        go_wp2_with fail
        with_reducible refine (Htx.out).mono ?_
        rintro e w2 ⟨rfl, hb2⟩
        have kr2 := Kr.out.keep hb2
        have hI2 := HI.out.keep hb2
        have hm2 := Hmr.out.keep hb2
        have hbb := belowTrans Hbr.out hb2 (Nat.le_refl _)
        have hs2 := hb2.size
        have hir2 : IntsAt w a m c p1 ∨ Own (w1.heap.size + 1) w2.heap.size w2 a m c p1 := Hir.out.imp id (fun q => (q.keep hb2).mono (Nat.le_refl _) hs2)
        obtain ⟨D, hown, hrep⟩ := hm2
        clear x0 x1 x2 y0 y1 y2 Kr HI Hmr hb2 Hir
        by_cases hq : ∃ i, i < K ∧ stepsB i B = stepsB K B
        · obtain ⟨i, hi, he⟩ := hq
          obtain ⟨hh1, hh2⟩ := hrep.yes i hi
          simp only [he] at hh1 hh2
          have hM2 := Hhit.out K i hlt hi he (fun j hj => by
            intro e
            exact Hdr.out j i hj hi (e.trans he.symm))
          rw [← Horb.out] at hM2
          have hTT : bankL (stepsB K B) = T := by rw [HX.out]; exact HT.out
          rw [hTT] at hh1 hh2
          have Hh1 := Lib.hid hh1; clear hh1
          have Hh2 := Lib.hid hh2; clear hh2
          have HM2 := Lib.hid hM2; clear hM2
          have He := Lib.hid he; clear he
          have HTT := Lib.hid hTT; clear hTT
          have Kr2 := Lib.hid kr2; clear kr2
          have HI2 := Lib.hid hI2; clear hI2
          have Hbb := Lib.hid hbb; clear hbb
          have Hrep := Lib.hid hrep; clear hrep
          have Hir2 := Lib.hid hir2; clear hir2
          go_wp2_with (at_lookup; refine wpList_lookup_own_ok_int w2 rfl _ _ 68 rfl 9 3 .i64 mapKS Tryz.underlying68 Tryz.underlying3 (mapZI _) w1.heap.size _ _ rfl hown _ _ rfl Hkey.out ?_; intro c9 hat hwc; rw [Hh1.out]; obtain rfl : (i : Int) = c9 := litI2 (Hh2.out.symm.trans hat); clear hat hwc)
          go_wp2
          go_ret3
          rw [Hm.out, HM2.out]
          exact ⟨rfl, Hbb.out⟩
        · have hTT : bankL (stepsB K B) = T := by rw [HX.out]; exact HT.out
          have hne : ∀ i, i < K → bankL (stepsB i B) ≠ T := fun i hi e => hq ⟨i, hi, (Hinj.out i e).trans HX.out.symm⟩
          have hno := hrep.no T hne
          have hput : RepT (D.put (.string T) (.lit (.int .i64 K))) (fun i => bankL (stepsB i B)) (K + 1) := by
            have := hrep.put (fun i hi => by
              show bankL (stepsB i B) ≠ bankL (stepsB K B)
              rw [hTT]
              exact hne i hi)
            simp only [hTT] at this
            exact this
          have hdn : ∀ i j, i < j → j < K + 1 → stepsB i B ≠ stepsB j B := fun i j hij hj e => by
            by_cases hjK : j < K
            · exact Hdr.out i j hij hjK e
            · obtain rfl : j = K := by omega
              exact hq ⟨i, hij, e⟩
          have hM2 := Hgo.out K hlt (fun i hi e => hq ⟨i, hi, e⟩)
          rw [← Horb.out] at hM2
          have hst := fun U (q : IntsAt U a m c p1) => stepOfBank_any h1 l1 a m c p1 U q HokK.out
          rw [← HnK.out] at hst
          have hwf : (Lit.int .i64 (K : Int)).wf = true := WalkArith.wf_i64 (by omega)
          generalize hY : stepsB (K + 1) B = Y at *
          obtain ⟨h5, l5, p5⟩ := Y
          simp only at hst
          clear hrep hq
          have HTT := Lib.hid hTT; clear hTT
          have Hne := Lib.hid hne; clear hne
          have Hno := Lib.hid hno; clear hno
          have Hput := Lib.hid hput; clear hput
          have Hdn := Lib.hid hdn; clear hdn
          have HM2 := Lib.hid hM2; clear hM2
          have Hst := Lib.hid hst; clear hst
          have Hwf := Lib.hid hwf; clear hwf
          have HY := Lib.hid hY; clear hY
          have Kr2 := Lib.hid kr2; clear kr2
          have HI2 := Lib.hid hI2; clear hI2
          have Hbb := Lib.hid hbb; clear hbb
          have Hir2 := Lib.hid hir2; clear hir2
          go_wp2_with (first
            | (at_lookup; refine wpList_lookup_own_ok_int w2 rfl _ _ 68 rfl 9 3 .i64 mapKS Tryz.underlying68 Tryz.underlying3 (mapZI _) w1.heap.size _ _ rfl hown _ _ rfl Hkey.out ?_; intro c9 hat hwc; rw [Hno.out]; clear hat hwc)
            | (at_mapUpdate; refine wpList_mapUpdate_own w2 rfl _ _ _ 68 rfl 9 3 mapKS Tryz.underlying68 _ w1.heap.size _ _ rfl hown (by unfold maxLen; omega) _ _ _ rfl rfl Hkey.out _ [] (plainElem_int Tryz.underlying3 Hwf.out) ?_; intro w3 hown3 hgrow3; have kr3 := Kr2.out.chg (Chg.ofGrown hgrow3) (fun e => by simp only [Option.some.injEq] at e; omega); obtain ⟨⟨z0, z1, z2⟩, q0, q1, q2⟩ := kr3.cells; have Kr3 := Lib.hid kr3; clear kr3))
          have hbb3 : Below w.heap.size w w3 := Hbb.out.grown hgrow3 Hbb.out.size (fun j hj => by cases hj; omega)
          have hs3 : w2.heap.size ≤ w3.heap.size := (Chg.ofGrown hgrow3).size
          have hir3 : IntsAt w a m c p1 ∨ Own (w1.heap.size + 1) w2.heap.size w3 a m c p1 := Hir2.out.imp id (fun q => q.chg (Chg.ofGrown hgrow3) (fun g h1 _ _ e => by cases e; omega))
          have hI3 : IntsAt w3 a m c p1 := by
            rcases hir3 with q | q
            · exact q.keep hbb3
            · exact q.at
          have hm3 : MapT w3 w1.heap.size (fun i => bankL (stepsB i B)) (K + 1) := ⟨_, hown3, Hput.out⟩
          clear hown hown3 hgrow3 hir3
          have Hbb3 := Lib.hid hbb3; clear hbb3
          have HI3 := Lib.hid hI3; clear hI3
          have Hm3 := Lib.hid hm3; clear hm3
          with_reducible refine (Hst.out w3 HI3.out).mono ?_
          rintro e w4 ⟨a4, m4, c4, rfl, ho4, hb4⟩
          have k4 := Kr3.out.keep hb4
          have m4' := Hm3.out.keep hb4
          have hb5 := belowTrans Hbb3.out hb4 (Nat.le_refl _)
          have hs4 := hb4.size
          clear z0 z1 z2 q0 q1 q2 hb4
          obtain ⟨⟨z0, z1, z2⟩, q0, q1, q2⟩ := k4.cells
          have k6 := k4.set3 h5 l5 a4 m4 c4
          have m6 := ((m4'.setCell (a := ⟨w.heap.size, 0, none⟩) (by show w1.heap.size ≠ w.heap.size; omega) (.int .i64 h5)).setCell (a := ⟨w.heap.size, 1, none⟩) (by show w1.heap.size ≠ w.heap.size; omega) (.int .i64 l5)).setCell (a := ⟨w.heap.size, 2, none⟩) (by show w1.heap.size ≠ w.heap.size; omega) (.slice a4 m4 c4)
          have ho6 := (((ho4.offCell (R := w.heap.size) (by omega) 0 (.int .i64 h5)).offCell (R := w.heap.size) (by omega) 1 (.int .i64 l5)).offCell (R := w.heap.size) (by omega) 2 (.slice a4 m4 c4)).mono (show w1.heap.size + 1 ≤ w3.heap.size by omega) (Nat.le_refl _)
          have hb6 := ((hb5.setCell (p := ⟨w.heap.size, 0, none⟩) (Nat.le_refl _) (.int .i64 h5)).setCell (p := ⟨w.heap.size, 1, none⟩) (Nat.le_refl _) (.int .i64 l5)).setCell (p := ⟨w.heap.size, 2, none⟩) (Nat.le_refl _) (.slice a4 m4 c4)
          have hs5 : w1.heap.size + 1 ≤ w4.heap.size := by omega
          clear k4 m4' ho4 hb5
          have K6 := Lib.hid k6; clear k6
          have M6 := Lib.hid m6; clear m6
          have Ho6 := Lib.hid ho6; clear ho6
          have Hb6 := Lib.hid hb6; clear hb6
          go_wp2
          go_roundw
          case rel => exact ⟨K + 1, a4, m4, c4, by go_num, by omega, HM2, by rw [HY.out]; exact K6, Lib.hid (.inr (by rw [HY.out]; have := Ho6.out; simpa using this)), M6, Hdn, Hb6, by simpa using hs5⟩
          case measure => simp [intOf] <;> omega
      · have hd : ¬ (K : Int) ≤ 1000 := by omega
        have hM2 := Hend.out K (by omega)
        rw [← Horb.out] at hM2
        have HM2 := Lib.hid hM2; clear hM2
        go_wp2
        go_ret3
        rw [Hm.out, HM2.out]
        exact ⟨rfl, Hbr.out⟩
  · have hm := mOrbit_no hk
    rw [bank_no.2 hk] at hcon
    have Hcon := Lib.hid hcon; clear hcon
    have Hm := Lib.hid hm; clear hm
    have Hb0 := Lib.hid hb0; clear hb0
    have HA0 := Lib.hid hA0; clear hA0
    have K0 := Lib.hid k0; clear k0
    have Hk := Lib.hid hk; clear hk
    go_enter Tryz.func22, Tryz.ntmps22
    go_wp2_with fail
    with_reducible refine ((Hcon.out)).mono ?_
    rintro e w1 ⟨rfl, hb1⟩
    have hbb1 := belowTrans Hb0.out hb1 (Nat.le_refl _)
    go_wp2
    go_ret3
    rw [Hm.out]
    exact ⟨rfl, hbb1⟩
theorem impl_IsCyclicBank (h l : Int) (ao : Option Addr) (n cap : Nat) (xs : List Int) (w : World) (hA : IntsAt w ao n cap xs) :
    Calls Tryz.prog 9 #[.agg #[.int .i64 h, .int .i64 l, .slice ao n cap]] w fun e w' => e = .returned (.tuple #[.bool (mIsCyclicBank ⟨h, l, xs⟩).1, .bool (mIsCyclicBank ⟨h, l, xs⟩).2]) ∧ Below w.heap.size w w' := by
  have hb0 := belowAlloc w (.cells #[.int .i64 h, .int .i64 l, .slice ao n cap] 32)
  have hcon := impl_BankOrbit h l ao n cap xs (w.alloc (.cells #[.int .i64 h, .int .i64 l, .slice ao n cap] 32)) (hA.keep hb0)
  obtain ⟨⟨x0, x1, x2⟩, y0, y1, y2⟩ := (Blk.new w h l ao n cap 32).cells
  have hm := mIsCyclicBank.eq_1 ⟨h, l, xs⟩
  generalize mBankOrbit ⟨h, l, xs⟩ = M at *
  obtain ⟨u, v, b⟩ := M
  simp only at hcon hm
  cases b
  · have Hcon := Lib.hid hcon; clear hcon
    have Hm := Lib.hid hm; clear hm
    have Hb0 := Lib.hid hb0; clear hb0
    go_enter Tryz.func9, Tryz.ntmps9
    go_wp2_with fail
    with_reducible refine ((Hcon.out)).mono ?_
    rintro e w1 ⟨rfl, hb1⟩
    have hbb1 := belowTrans Hb0.out hb1 (Nat.le_refl _)
    go_wp2
    go_ret2
    rw [Hm.out]
    exact ⟨by simp, hbb1⟩
  · by_cases hu : u = 0
    · subst hu
      have Hcon := Lib.hid hcon; clear hcon
      have Hm := Lib.hid hm; clear hm
      have Hb0 := Lib.hid hb0; clear hb0
      go_enter Tryz.func9, Tryz.ntmps9
      go_wp2_with fail
      with_reducible refine ((Hcon.out)).mono ?_
      rintro e w1 ⟨rfl, hb1⟩
      have hbb1 := belowTrans Hb0.out hb1 (Nat.le_refl _)
      go_wp2
      go_ret2
      rw [Hm.out]
      exact ⟨by simp, hbb1⟩
    · have hd : decide (u = 0) = false := decide_eq_false hu
      have Hcon := Lib.hid hcon; clear hcon
      have Hm := Lib.hid hm; clear hm
      have Hb0 := Lib.hid hb0; clear hb0
      go_enter Tryz.func9, Tryz.ntmps9
      go_wp2_with fail
      with_reducible refine ((Hcon.out)).mono ?_
      rintro e w1 ⟨rfl, hb1⟩
      have hbb1 := belowTrans Hb0.out hb1 (Nat.le_refl _)
      go_wp2
      go_ret2
      rw [Hm.out]
      exact ⟨by simp [hu], hbb1⟩
end Go.Proofs.YtnebfojnbjbogaaGreatDoor
