/- Chapter 5: RowOrbit, IsCyclicRow by the model. No condition. -/
import Derived.Test.YtbneibpakopllaaRowB
import Derived.Test.YtbneibpakopllaaRowsR
import Derived.Test.YtbneibpakopllaaGu
import Derived.Test.YtbneibpakopllaaTail
import Derived.Test.YtbneibpakopllaaAppX
namespace Go.Proofs.Ytbneibpakopllaa
open Go.RowKit
set_option linter.unusedVariables false
set_option linter.unusedSimpArgs false
set_option maxRecDepth 20000

/-- rows behind a spine: each one lies below R or was made here -/
structure RowsB (R B E : Nat) (w : World) (vs : List Value) (xss : List (List Int)) : Prop where
  length : vs.length = xss.length
  row : ∀ i, i < xss.length → ∃ a m c, vs.getD i undef = .slice a m c ∧ IntsAt w a m c (xss.getD i []) ∧ ((0 < m → ∀ b o, a = some ⟨b, o, none⟩ → b < R) ∨ Own B E w a m c (xss.getD i []))
theorem RowsB.keep {R B E w w' vs xss} (h : RowsB R B E w vs xss) (hb : Below w.heap.size w w') : RowsB R B E w' vs xss :=
  ⟨h.length, fun i hi => by
    obtain ⟨a, m, c, e, h1, h2⟩ := h.row i hi
    exact ⟨a, m, c, e, h1.keep hb, h2.imp id (fun h => h.keep hb)⟩⟩
theorem RowsB.mono {R B E E' w vs xss} (h : RowsB R B E w vs xss) (hE : E ≤ E') : RowsB R B E' w vs xss :=
  ⟨h.length, fun i hi => by
    obtain ⟨a, m, c, e, h1, h2⟩ := h.row i hi
    exact ⟨a, m, c, e, h1, h2.imp id (fun h => h.mono (Nat.le_refl _) hE)⟩⟩
theorem RowsB.chgSpine {R B E w w' vs xss B' E' ao n cap us} (h : RowsB R B E w vs xss) (k : OwnRow B' E' w 22 ao n cap us) (hR : R ≤ B') (hc : Chg (fun q => (Value.slice ao n cap).ownBlock = some q) w w') : RowsB R B E w' vs xss :=
  ⟨h.length, fun i hi => by
    obtain ⟨a, m, c, e, h1, h2⟩ := h.row i hi
    rcases h2 with h2 | h2
    · by_cases hm : m = 0
      · exact ⟨a, m, c, e, ⟨h1.length, h1.le, h1.max, h1.isNil, fun j hj => by omega⟩, .inl h2⟩
      refine ⟨a, m, c, e, h1.chg hc (fun b o e1 hs => ?_), .inl h2⟩
      have := h2 (by omega) b o e1
      rcases k.cases with ⟨rfl, _⟩ | ⟨g, rfl, hg, _⟩
      · simp [Value.ownBlock] at hs
      · simp [Value.ownBlock] at hs; omega
    · have h3 : Own B E w' a m c (xss.getD i []) := h2.chg hc (fun g _ _ g1 g2 => OwnRow.apart_ty h2 k (by decide) g1 g2)
      exact ⟨a, m, c, e, h3.at, .inr h3⟩⟩
theorem getD_last {α : Type} (l : List α) (x d : α) : (l ++ [x]).getD l.length d = x := by simp
theorem getD_left {α : Type} (l : List α) (x d : α) {i : Nat} (h : i < l.length) : (l ++ [x]).getD i d = l.getD i d := by
  rw [List.getD_eq_getElem?_getD, List.getElem?_append_left h, ← List.getD_eq_getElem?_getD]
theorem RowsB.snoc {R B E w vs xss a m c x} (h : RowsB R B E w vs xss) (ho : Own B E w a m c x) : RowsB R B E w (vs ++ [.slice a m c]) (xss ++ [x]) :=
  ⟨by simp [h.length], fun i hi => by
    simp only [List.length_append, List.length_singleton] at hi
    by_cases hlt : i < xss.length
    · obtain ⟨a2, m2, c2, e, h1, h2⟩ := h.row i hlt
      rw [getD_left _ _ _ hlt, getD_left _ _ _ (by rw [h.length]; exact hlt)]
      exact ⟨a2, m2, c2, e, h1, h2⟩
    · obtain rfl : i = xss.length := by omega
      rw [getD_last]
      have e2 : (vs ++ [Value.slice a m c]).getD xss.length undef = .slice a m c := by rw [← h.length]; exact getD_last _ _ _
      exact ⟨a, m, c, e2, ho.at, .inr ho⟩⟩
theorem RowsB.at {R B E w vs xss ao n cap} (h : RowsB R B E w vs xss) (hv : ValsAt w ao n cap vs) : RowsAt w ao n cap xss :=
  ⟨by rw [← h.length]; exact hv.length, hv.le, hv.max, hv.isNil, fun j hj => by
    obtain ⟨b, o, e, hlt, hc⟩ := hv.cell j hj
    refine ⟨b, o, e, hlt, fun i hi => ?_⟩
    obtain ⟨a, m, c, e2, h1, _⟩ := h.row i (by rw [← h.length, hv.length]; exact hi)
    exact ⟨a, m, c, by rw [hc i hi, e2], h1⟩⟩
theorem RowsB.one {R B E w a m c x} (h : IntsAt w a m c x) (hR : 0 < m → ∀ b o, a = some ⟨b, o, none⟩ → b < R) : RowsB R B E w [.slice a m c] [x] :=
  ⟨rfl, fun i hi => by
    obtain rfl : i = 0 := by simp at hi; omega
    exact ⟨a, m, c, rfl, h, .inl hR⟩⟩
theorem intsBlock {w : World} {a : Option Addr} {n c : Nat} {xs : List Int} (h : IntsAt w a n c xs) (hn : 0 < n) : ∀ b o, a = some ⟨b, o, none⟩ → b < w.heap.size := fun b o e => by
  obtain ⟨b2, o2, e2, hlt, _⟩ := h.cell 0 hn
  rw [e] at e2; cases e2; exact hlt

def seenR (xs : List Int) (j : Nat) : List (List Int) := (List.range j).map fun i => rowsL i xs
theorem seenR_length (xs : List Int) (j : Nat) : (seenR xs j).length = j := by simp [seenR]
theorem seenR_succ (xs : List Int) (j : Nat) : seenR xs (j + 1) = seenR xs j ++ [rowsL j xs] := by unfold seenR; rw [List.range_succ, List.map_append]; rfl
theorem seenR_getD (xs : List Int) (j i : Nat) (h : i < j) : (seenR xs j).getD i [] = rowsL i xs := by
  unfold seenR
  rw [List.getD_eq_getElem?_getD, List.getElem?_map, List.getElem?_range h]; rfl
/-- one row more behind: at an append -/
theorem wpList_pushB {ops : Array Oper} {rest : List Oper} {o : Oper} {a : Act} {Q : Exit → Act → World → Prop} (w : World) (hgd : o.guard = none) (s x : Operand)
    (ho : o.op = .call { callee := .builtin .append, args := #[s, x], argTypes := #[59, 59] })
    (R B E D : Nat) (ao : Option Addr) (n cap : Nat) (vs : List Value) (xss : List (List Int)) (hs : a.eval s = .slice ao n cap) (hown : OwnRow B E w 22 ao n cap vs) (hrows : RowsB R B D w vs xss) (hR : R ≤ B)
    (a2 : Option Addr) (m c : Nat) (ys : List Int) (hy : Own B D w a2 m c ys)
    (hx : a.eval x = .slice (some ⟨w.heap.size, 0, none⟩) 1 1) (hn : n ≤ 67108863) (hB : B ≤ w.heap.size)
    (h : ∀ ao' cap' w', OwnRow B w'.heap.size w' 22 ao' (n + 1) cap' (vs ++ [.slice a2 m c]) → RowsB R B D w' (vs ++ [.slice a2 m c]) (xss ++ [ys]) → Chg (fun k => (Value.slice ao n cap).ownBlock = some k) w w' → wpList Try.prog ops Q rest (a.put o.dst (.slice ao' (n + 1) cap')) w') :
    wpList Try.prog ops Q (o :: rest) a (w.alloc (.cells #[.slice a2 m c] 22)) := by
  refine wpList_pushVX w hgd s x 59 ho 22 _ 24 Try.underlying59 Try.infoInts rfl (by decide) B E ao n cap vs hs hown _ rfl hx hn hB (fun ao' cap' w' ho' hc hnew => h ao' cap' w' ho' ?_ hc)
  exact (hrows.snoc hy).chgSpine hown hR hc

set_option maxHeartbeats 3200000 in
theorem roOrbit_any (ao : Option Addr) (n cap : Nat) (xs : List Int) (w : World) (h : IntsAt w ao n cap xs) (hg : RowOk xs) :
    Calls Try.prog 125 #[.slice ao n cap] w fun e w' => e = .returned (.tuple #[.int .i64 (orbR xs).1, .int .i64 (orbR xs).2.1, .bool (orbR xs).2.2]) ∧ Below w.heap.size w w' := by
  have hba := belowAlloc w (.cells #[.slice ao n cap] 22)
  have hsp : OwnRow w.heap.size (w.heap.size + 1) (w.alloc (.cells #[.slice ao n cap] 22)) 22 (some ⟨w.heap.size, 0, none⟩) 1 1 [.slice ao n cap] := by
    have := World.ownsRow_lit (base := w.heap.size) (size := 1) (e := 22) w #[.slice ao n cap] 1 (Nat.le_refl _) (by unfold maxLen; omega) rfl
    exact ⟨this, fun g hg => by simp [Value.ownBlock] at hg; omega⟩
  have hrw : RowsB w.heap.size w.heap.size (w.heap.size + 1) (w.alloc (.cells #[.slice ao n cap] 22)) [.slice ao n cap] (seenR xs 1) := RowsB.one (h.keep hba) (fun h0 => intsBlock h h0)
  have hR : ∀ j, RowOk (rowsL j xs) := rowsL_row hg
  have hno0 : ∀ k, k ≤ 0 → metR xs k = none := fun k hk => by
    obtain rfl : k = 0 := by omega
    rfl
  have HR := Lib.hid hR; clear hR
  clear h hg
  go_enter Try.func125, Try.ntmps125
  go_wp2_with fail
  go_loopw [5] (fun v wr => ∃ (j : Nat) (a : Option Addr) (c : Nat) (vs : List Value), v = .slice a (j + 1) c ∧ j ≤ 1000 ∧ OwnRow w.heap.size wr.heap.size wr 22 a (j + 1) c vs ∧ RowsB w.heap.size w.heap.size wr.heap.size wr vs (seenR xs (j + 1)) ∧ Hid (∀ k, k ≤ j → metR xs k = none) ∧ Below w.heap.size w wr) (fun v _ => 1002 - lenOf v)
  case atStart => exact ⟨0, _, 1, _, rfl, by omega, by simpa using hsp, by simpa using hrw, Lib.hid hno0, hba⟩
  case round =>
    obtain ⟨j, a, c, vs, rfl, hj, hov, hrv, Hno, hb⟩ := hrel
    clear hsp hrw hba
    have hj8 : (j : Int) ≤ 1000 := by omega
    by_cases hlt : j < 1000
    · have hat := hrv.at hov.at
      obtain ⟨b, oo, rfl, hbl, hc⟩ := hat.cell j (by omega)
      obtain ⟨a2, m2, c2, hck, hi⟩ := hc j (by omega)
      rw [seenR_getD _ _ _ (by omega)] at hi
      have ej : (((j + 1 : Nat)) : Int) - 1 = (j : Int) := by omega
      have hcon := roStep_any a2 m2 c2 _ wr hi (HR.out j)
      rw [← rowsL_add] at hcon
      have Hcon := Lib.hid hcon; clear hcon
      clear hc hat
      go_wp2_with fail
      with_reducible refine (Hcon.out).mono ?_
      rintro e w2 ⟨a3, m3, c3, rfl, ho3, hb3⟩
      have hs3 := hb3.size
      have hov2 := (OwnRow.keep hov hb3).mono (Nat.le_refl _) hs3
      have hrv2 := (hrv.keep hb3).mono hs3
      have hbw := belowTrans hb hb3 (Nat.le_refl _)
      have hs := hb.size
      have ho4 := ho3.mono hs (Nat.le_refl _)
      clear hov hrv hck hi hb hb3 ho3 ej
      obtain ⟨wi, hwi⟩ : ∃ wi : World, wi = wr := ⟨_, rfl⟩
      subst hwi
      go_wp2_with fail
      go_loopw [23] (fun i wq => ∃ k : Nat, k ≤ j + 1 ∧ i = .int .i64 k ∧ Hid (∀ i, i < k → rowsL i xs ≠ rowsL (j + 1) xs) ∧ ∃ q, wq = w2.drewN q) (fun i _ => j + 1 - (intOf i).toNat)
      case atStart => exact ⟨0, Nat.zero_le _, rfl, Lib.hid (fun i hi => by omega), 0, rfl⟩
      case round =>
        obtain ⟨k, hk, rfl, Hall, q, rfl⟩ := hrel
        by_cases hkt : k < j + 1
        · have hat := hrv2.at hov2.at
          obtain ⟨b5, o5, e5, hb5, hc5⟩ := hat.cell k hkt
          cases e5
          obtain ⟨a6, m6, c6, hck6, hi6⟩ := hc5 k hkt
          rw [seenR_getD _ _ _ hkt] at hi6
          clear hc5 hat
          have hsame := l1Same_any a6 a3 m6 m3 c6 c3 _ _ (w2.drewN q) (hi6.drewN q) (ho4.at.drewN q)
          by_cases heq : rowsL k xs = rowsL (j + 1) xs
          · rw [decide_eq_true heq] at hsame
            have horb := orbR_some (xs := xs) (i := k) (j := j + 1) (by omega) hkt (metR_some hkt heq Hall.out) (fun k hk => Hno.out k (by omega))
            have Hsame := Lib.hid hsame; clear hsame
            have Heq := Lib.hid heq; clear heq
            have Horb := Lib.hid horb; clear horb
            have Hi6 := Lib.hid hi6; clear hi6
            go_wp2_with fail
            with_reducible refine (Hsame.out).mono ?_
            rintro e w7 ⟨rfl, q2, rfl⟩
            go_wp2_with fail
            go_ret3
            rw [Horb.out]
            exact ⟨rfl, belowDrewN hbw _⟩
          · rw [decide_eq_false heq] at hsame
            have hall2 : ∀ i, i < k + 1 → rowsL i xs ≠ rowsL (j + 1) xs := fun i hi => by
              by_cases hik : i = k
              · subst hik; exact heq
              · exact Hall.out i (by omega)
            have Hsame := Lib.hid hsame; clear hsame
            have Heq := Lib.hid heq; clear heq
            have Hi6 := Lib.hid hi6; clear hi6
            have Hall2 := Lib.hid hall2; clear hall2
            go_wp2_with fail
            with_reducible refine (Hsame.out).mono ?_
            rintro e w7 ⟨rfl, q2, rfl⟩
            go_wp2_with fail
            go_roundw
            case rel => exact ⟨k + 1, by omega, by go_num, Hall2, _, rfl⟩
            case measure => simp [intOf]; omega
        · obtain rfl : k = j + 1 := by omega
          have hno2 : ∀ k, k ≤ j + 1 → metR xs k = none := fun k hk => by
            by_cases hkj : k = j + 1
            · subst hkj; exact metR_none Hall.out
            · exact Hno.out k (by omega)
          have hsucc := seenR_succ xs (j + 1)
          have hov3 : OwnRow w.heap.size (w2.drewN q).heap.size (w2.drewN q) 22 (some ⟨b, oo, none⟩) (j + 1) c vs := hov2.keep (belowDrewN (Below.refl _ _) q)
          have hrv3 : RowsB w.heap.size w.heap.size (w2.drewN q).heap.size (w2.drewN q) vs (seenR xs (j + 1)) := hrv2.keep (belowDrewN (Below.refl _ _) q)
          have ho5 : Own w.heap.size (w2.drewN q).heap.size (w2.drewN q) a3 m3 c3 (rowsL (j + 1) xs) := ho4.keep (belowDrewN (Below.refl _ _) q)
          have hbw3 : Below w.heap.size w (w2.drewN q) := belowDrewN hbw q
          have hsz : w.heap.size ≤ (w2.drewN q).heap.size := by have := hbw.size; exact this
          clear hov2 hrv2 ho4 hbw Hall
          generalize w2.drewN q = W at *
          have Hno2 := Lib.hid hno2; clear hno2
          have Hsucc := Lib.hid hsucc; clear hsucc
          go_wp2_with (at_builtin; refine wpList_pushB W rfl _ _ rfl w.heap.size w.heap.size W.heap.size W.heap.size _ (j + 1) c vs _ rfl hov3 hrv3 (Nat.le_refl _) a3 m3 c3 _ ho5 rfl (by omega) hsz ?_)
          intro a8 c8 w8 ho8 hr8 hc8
          have hb8 := hbw3.trans (hov3.chgBelow hc8 hsz)
          have hs8 := hc8.size
          clear hov3 hrv3 ho5 hbw3
          go_wp2_with fail
          go_roundw
          case rel => exact ⟨j + 1, a8, c8, _, rfl, by omega, ho8, by rw [Hsucc.out]; exact hr8.mono hs8, Hno2, hb8⟩
          case measure => simp [lenOf]; omega
    · obtain rfl : j = 1000 := by omega
      have horb := orbR_none (xs := xs) (fun k hk => Hno.out k (by omega))
      have Horb := Lib.hid horb; clear horb
      go_wp2_with fail
      go_ret3
      rw [Horb.out]
      exact ⟨rfl, hb⟩
theorem spec_RowOrbit (ao : Option Addr) (n cap : Nat) (xs : List Int) (w : World) (h : IntsAt w ao n cap xs) :
    Calls Try.prog 65 #[.slice ao n cap] w fun e w' => e = .returned (.tuple #[.int .i64 (mRowOrbit xs).1, .int .i64 (mRowOrbit xs).2.1, .bool (mRowOrbit xs).2.2]) ∧ Below w.heap.size w w' := by
  cases hg : rowB xs
  · have hm := mRO_no hg
    have Hg := Lib.hid hg; clear hg
    have Hm := Lib.hid hm; clear hm
    go_enter Try.func65, Try.ntmps65
    go_wp2_with fail
    with_reducible refine (roGood_no _ _ _ _ _ h Hg.out).mono ?_
    rintro e w' ⟨rfl, rfl⟩
    go_wp2
    go_ret3
    rw [Hm.out]
    exact ⟨rfl, Below.refl _ _⟩
  · have hm := mRO_yes hg
    have hG := row_iff.1 hg
    have hcon := roOrbit_any ao n cap xs w h hG
    have Hg := Lib.hid hg; clear hg
    have Hm := Lib.hid hm; clear hm
    have HG := Lib.hid hG; clear hG
    have Hcon := Lib.hid hcon; clear hcon
    go_enter Try.func65, Try.ntmps65
    go_wp2_with fail
    with_reducible refine (roGood_yes _ _ _ _ _ h HG.out).mono ?_
    rintro e w' ⟨rfl, rfl⟩
    go_wp2_with fail
    with_reducible refine (Hcon.out).mono ?_
    rintro e w' ⟨rfl, hb⟩
    go_wp2
    go_ret3
    rw [Hm.out]
    exact ⟨rfl, hb⟩
end Go.Proofs.Ytbneibpakopllaa
