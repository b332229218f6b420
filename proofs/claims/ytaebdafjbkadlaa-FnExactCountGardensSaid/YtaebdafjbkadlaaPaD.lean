/- Chapter 4 by the program: loose piles, slices.IndexFunc and slices.DeleteFunc over piles, the pasts on a way back. No condition. -/
import Derived.Test.YtaebdafjbkadlaaPaT
import Derived.Test.YtaebdafjbkadlaaTailI
import Derived.Lib.SliceRun
import Derived.Laws.EntriesVeiled
namespace Go.Proofs.Ytaebdafjbkadlaa
open Go.RowKit
set_option linter.unusedVariables false
set_option linter.unusedSimpArgs false
set_option maxRecDepth 20000

theorem cycB_no {p : List Int} (h : ¬ Cyc p) : cycB p = false := by
  cases e : cycB p
  · rfl
  · exact absurd (cyc_iff.1 e) h
/-! ### Rows that are cut, and cells that are cleared -/
theorem OwnRow.cut {B E w ty g n cap us} (h : OwnRow B E w ty (some ⟨g, 0, none⟩) n cap us) {k : Nat} (hk : k ≤ n) : OwnRow B E w ty (some ⟨g, 0, none⟩) k cap (us.take k) := by
  have hl := h.length
  rcases h.1.2 with ⟨hv, _⟩ | ⟨g', c', cur, hv, hg, hh, hnc, hcm, hcs, htake⟩
  · simp at hv
  · simp only [Value.slice.injEq, Option.some.injEq, Addr.mk.injEq, and_true, true_and] at hv
    obtain ⟨rfl, rfl⟩ := hv
    refine ⟨⟨by simp [hl]; omega, .inr ⟨g, cap, cur, rfl, hg, hh, by omega, hcm, hcs, ?_⟩⟩, h.2⟩
    rw [← htake, List.take_take]
    congr 1
    omega
theorem setCells_own {B E n cap : Nat} {ty : TypeId} (g : Nat) : ∀ (vs : List Value) (o : Nat) (w : World) (us : List Value), OwnRow B E w ty (some ⟨g, 0, none⟩) n cap us →
    ∃ us', OwnRow B E (w.setCells g o vs) ty (some ⟨g, 0, none⟩) n cap us' ∧ us'.take o = us.take o ∧ Chg (fun k => k = g) w (w.setCells g o vs)
  | [], o, w, us, h => ⟨us, h, rfl, Chg.refl _ _⟩
  | v :: r, o, w, us, h => by
    obtain ⟨h1, h2⟩ := World.ownsRow.stored h.1 o v
    obtain ⟨us', h3, h4, h5⟩ := setCells_own g r (o + 1) _ _ ⟨h1, h.2⟩
    refine ⟨us', h3, ?_, ((Chg.ofGrown h2).mono (fun k hk => by simpa using hk)).trans h5⟩
    have := congrArg (List.take o) h4
    rw [List.take_take, List.take_take, Nat.min_eq_left (by omega)] at this
    rw [this, List.take_set_of_le (by omega)]
theorem zeroInts (w : World) : (zeroValue 31).run Try.prog w = .ok (.slice none 0 0) w := by kernel_rfl
/-! ### Which piles are cyclic, as the way back asks it -/
set_option maxHeartbeats 800000 in
theorem loosePred_any (ao : Option Addr) (n cap : Nat) (xs : List Int) (w : World) (h : IntsAt w ao n cap xs) (hg : Good xs) :
    Calls Try.prog 129 #[.slice ao n cap] w fun e w' => e = .returned (.bool (cycB xs)) ∧ Below w.heap.size w w' := by
  have hcon := stateOf_any ao n cap xs w h hg
  have Hcon := Lib.hid hcon; clear hcon
  have Hg := Lib.hid hg; clear hg
  go_enter Try.func129, Try.ntmps129
  go_wp2_with fail
  with_reducible refine (Hcon.out).mono ?_
  rintro e w4 ⟨v4, rfl, hst, hb4⟩
  rcases hst with ⟨hcy, rfl⟩ | ⟨hcy, a5, m5, c5, rfl, hi5⟩
  · have hme := mRingCyc (bitsL xs)
    have hc := cyc_iff.2 hcy
    have Hcy := Lib.hid hcy; clear hcy
    have Hc := Lib.hid hc; clear hc
    go_wp2_with fail
    with_reducible refine (ringCyc _ _).mono ?_
    rintro e w6 ⟨rfl, hb6⟩
    go_wp2
    go_ret
    exact ⟨retB Hc.out.symm, belowTrans hb4 hb6 (Nat.le_refl _)⟩
  · have hme := mLooseCyc a5 m5 c5
    have hc := cycB_no hcy
    have Hcy := Lib.hid hcy; clear hcy
    have Hc := Lib.hid hc; clear hc
    go_wp2_with fail
    with_reducible refine (looseCyc _ _ _ _).mono ?_
    rintro e w' ⟨rfl, rfl⟩
    go_wp2
    go_ret
    exact ⟨retB Hc.out.symm, hb4⟩
def looseF : Value := .func (.func 129) #[] #[]
set_option maxHeartbeats 1600000 in
theorem indexLoose_any (ao : Option Addr) (n cap : Nat) (xss : List (List Int)) (w : World) (h : RowsAt w ao n cap xss) (hG : ∀ x ∈ xss, Good x) (hn : n ≤ 4000) :
    Calls Try.prog 108 #[.slice ao n cap, looseF] w fun e w' => ∃ r : Int, e = .returned (.int .i64 r) ∧ ((r = -1 ∧ ∀ x ∈ xss, cycB x = false) ∨ ∃ i : Nat, r = i ∧ i < n ∧ cycB (xss.getD i []) = true ∧ ∀ x ∈ xss.take i, cycB x = false) ∧ Below w.heap.size w w' := by
  have hl := h.length
  have HG := Lib.hid hG; clear hG
  have Hl := Lib.hid hl; clear hl
  unfold looseF
  go_enter Try.func108, Try.ntmps108
  go_wp2
  go_loopw [8] (fun i wr => ∃ j : Nat, j ≤ n ∧ i = .int .i64 j ∧ (∀ x ∈ xss.take j, cycB x = false) ∧ Below w.heap.size w wr) (fun i _ => n - (intOf i).toNat)
  case atStart => exact ⟨0, Nat.zero_le _, rfl, by simp, Below.refl _ _⟩
  case round =>
    obtain ⟨j, hj, rfl, hall, hb⟩ := hrel
    by_cases hlt : j < n
    · obtain ⟨b, oo, rfl, hbl, hc⟩ := (h.keep hb).cell j hlt
      obtain ⟨a3, m3, c3, hck, hi3⟩ := hc j hlt
      clear hc
      have hgx := HG.out _ (getD_memR hlt Hl.out)
      have htk := take_snocX hlt Hl.out
      generalize hx : xss.getD j [] = x at *
      have hcon := loosePred_any a3 m3 c3 x wr hi3 hgx
      cases hcb : cycB x
      · rw [hcb] at hcon
        have Hcon := Lib.hid hcon; clear hcon
        have Hx := Lib.hid hx; clear hx
        have Hgx := Lib.hid hgx; clear hgx
        have Hcb := Lib.hid hcb; clear hcb
        have Htk := Lib.hid htk; clear htk
        have Hall := Lib.hid hall; clear hall
        go_wp2_with fail
        with_reducible refine (Hcon.out).mono ?_
        rintro e w2 ⟨rfl, hb2⟩
        go_wp2
        go_roundw
        case rel =>
          refine ⟨j + 1, by omega, by go_num, fun y hy => ?_, belowTrans hb hb2 (Nat.le_refl _)⟩
          rw [Htk.out] at hy
          rcases List.mem_append.1 hy with h' | h'
          · exact Hall.out y h'
          · rw [List.mem_singleton.1 h']; exact Hcb.out
        case measure => simp [intOf]; omega
      · rw [hcb] at hcon
        have Hcon := Lib.hid hcon; clear hcon
        have Hx := Lib.hid hx; clear hx
        have Hgx := Lib.hid hgx; clear hgx
        have Hcb := Lib.hid hcb; clear hcb
        have Htk := Lib.hid htk; clear htk
        have Hall := Lib.hid hall; clear hall
        go_wp2_with fail
        with_reducible refine (Hcon.out).mono ?_
        rintro e w2 ⟨rfl, hb2⟩
        go_wp2
        go_ret
        exact ⟨_, rfl, .inr ⟨j, rfl, hlt, by rw [Hx.out]; exact Hcb.out, Hall.out⟩, belowTrans hb hb2 (Nat.le_refl _)⟩
    · obtain rfl : n = j := by omega
      rw [take_allR Hl.out] at hall
      have Hall := Lib.hid hall; clear hall
      go_wp2
      go_ret
      exact ⟨_, rfl, .inl ⟨rfl, Hall.out⟩, hb⟩

/-! ### slices.DeleteFunc -/
def filtV (vs : List Value) (xss : List (List Int)) : List Value := ((vs.zip xss).filter fun p => !cycB p.2).map Prod.fst
theorem zip_snoc {vs : List Value} {xss : List (List Int)} {v : Value} {x : List Int} (h : vs.length = xss.length) : (vs ++ [v]).zip (xss ++ [x]) = vs.zip xss ++ [(v, x)] := by
  rw [List.zip_append h]; rfl
theorem filtV_snoc {vs : List Value} {xss : List (List Int)} {v : Value} {x : List Int} (h : vs.length = xss.length) : filtV (vs ++ [v]) (xss ++ [x]) = filtV vs xss ++ if cycB x then [] else [v] := by
  unfold filtV
  rw [zip_snoc h, List.filter_append, List.map_append]
  cases hc : cycB x <;> simp [hc]
theorem filtV_sub (vs : List Value) (xss : List (List Int)) (h : vs.length = xss.length) : (filtV vs xss).Sublist vs := by
  unfold filtV
  have h1 : ((vs.zip xss).filter fun p => !cycB p.2).Sublist (vs.zip xss) := List.filter_sublist
  have h2 := h1.map Prod.fst
  rwa [List.map_fst_zip (by omega)] at h2
theorem filtV_rows {B E : Nat} {w : World} : ∀ (vs : List Value) (xss : List (List Int)), RowsW B E w vs xss → RowsW B E w (filtV vs xss) (xss.filter fun x => !cycB x) := by
  intro vs xss h
  have key : ∀ k, RowsW B E w (filtV (vs.take k) (xss.take k)) ((xss.take k).filter fun x => !cycB x) := by
    intro k
    induction k with
    | zero => exact RowsW.nil _ _ _
    | succ k ih =>
      by_cases hk : k < xss.length
      · have hkv : k < vs.length := by rw [h.length]; exact hk
        obtain ⟨a, m, c, e, ho⟩ := h.row k hk
        have e1 : vs.take (k + 1) = vs.take k ++ [.slice a m c] := by
          rw [List.take_add_one, List.getElem?_eq_getElem hkv]
          rw [List.getD_eq_getElem?_getD, List.getElem?_eq_getElem hkv] at e
          simp only [Option.getD_some] at e
          rw [e]; rfl
        have e2 := take_snocX (xs := xss) hk rfl
        rw [e1, e2, filtV_snoc (by rw [List.length_take, List.length_take, h.length]), List.filter_append]
        generalize xss.getD k [] = x at *
        cases hc : cycB x
        · simp only [hc, Bool.false_eq_true, if_false, List.filter_cons, Bool.not_false, if_true, List.filter_nil]
          exact ih.append (RowsW.one ho)
        · simpa [hc] using ih
      · have hl := h.length
        rw [List.take_of_length_le (l := vs) (by omega), List.take_of_length_le (l := xss) (by omega)]
        rw [List.take_of_length_le (l := vs) (by omega), List.take_of_length_le (l := xss) (by omega)] at ih
        exact ih
  have := key xss.length
  have hl := h.length
  rwa [List.take_of_length_le (l := vs) (by omega), List.take_of_length_le (l := xss) (by omega)] at this
end Go.Proofs.Ytaebdafjbkadlaa
