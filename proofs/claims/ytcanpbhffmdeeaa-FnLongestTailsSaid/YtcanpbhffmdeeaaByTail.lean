/- Chapter 2: all piles by their tails, by the program. No condition but what the first list has. -/
import Derived.Test.YtcanpbhffmdeeaaLoose
namespace Go.Proofs.Ytcanpbhffmdeeaa
open Go.RowKit
set_option linter.unusedVariables false
set_option linter.unusedSimpArgs false
set_option maxRecDepth 20000

theorem Try.infoIntss : (Try.prog.info? 27).map (fun i => (i.zero, i.size, i.bytes)) = some (some (.slice none 0 0), 1, 24) := by kernel_rfl
/-- a list of lists behind a value -/
def LevAt (B E : Nat) (w : World) (v : Value) (xss : List (List Int)) : Prop :=
  ∃ a m c vs, v = .slice a m c ∧ OwnRow B E w 24 a m c vs ∧ RowsX B E w vs xss
theorem LevAt.keep {B E w w' v xss} (h : LevAt B E w v xss) (hb : Below w.heap.size w w') : LevAt B E w' v xss := by
  obtain ⟨a, m, c, vs, e, h1, h2⟩ := h; exact ⟨a, m, c, vs, e, h1.keep hb, h2.keep hb⟩
theorem LevAt.mono {B B' E E' w v xss} (h : LevAt B E w v xss) (hB : B' ≤ B) (hE : E ≤ E') : LevAt B' E' w v xss := by
  obtain ⟨a, m, c, vs, e, h1, h2⟩ := h; exact ⟨a, m, c, vs, e, h1.mono hB hE, h2.mono hB hE⟩
theorem LevAt.chg {B E w w' v xss B' E' ao n cap us} (h : LevAt B E w v xss) (k : OwnRow B' E' w 27 ao n cap us) (hc : Chg (fun q => (Value.slice ao n cap).ownBlock = some q) w w') : LevAt B E w' v xss := by
  obtain ⟨a, m, c, vs, e, h1, h2⟩ := h
  exact ⟨a, m, c, vs, e, h1.chg hc (fun g _ _ hg hs => OwnRow.apart_ty h1 k (by decide) hg hs), h2.chgSpine k (by decide) hc⟩
theorem LevAt.at {B E w a m c xss} (h : LevAt B E w (.slice a m c) xss) : RowsAt w a m c xss ∧ xss.length = m := by
  obtain ⟨a', m', c', vs, e, h1, h2⟩ := h
  simp only [Value.slice.injEq] at e
  obtain ⟨rfl, rfl, rfl⟩ := e
  have := h2.at h1.at
  exact ⟨this, this.length⟩
theorem oneTail (w : World) (v : Value) : OwnRow w.heap.size (w.heap.size + 1) (w.alloc (.cells #[v] 27)) 27 (some ⟨w.heap.size, 0, none⟩) 1 1 [v] :=
  ⟨⟨by simp, .inr ⟨w.heap.size, 1, #[v], rfl, Nat.le_refl _, heap_alloc_new w _, Nat.le_refl _, by unfold maxLen; omega, rfl, rfl⟩⟩, fun g hg => by simp [Value.ownBlock] at hg; omega⟩

set_option maxHeartbeats 1600000 in
theorem byTail_any (B0 : Nat) (ao : Option Addr) (n cap : Nat) (xss : List (List Int)) (s : Nat) (w : World) (h : LevAt B0 w.heap.size w (.slice ao n cap) xss) (hc : Cyclics xss s) (hB0 : B0 ≤ w.heap.size) :
    Calls Try.prog 145 #[.slice ao n cap] w fun e w' => ∃ (a : Option Addr) (N c : Nat) (tvs : List Value), e = .returned (.slice a N c) ∧ OwnRow w.heap.size w'.heap.size w' 27 a N c tvs ∧
      (1 ≤ N ∧ N ≤ 3719 ∧ (∀ i, 1 ≤ i → i < N → levL xss i ≠ []) ∧ levL xss N = []) ∧ (∀ i, i < N → LevAt B0 w'.heap.size w' (tvs.getD i undef) (levL xss i)) ∧ Below w.heap.size w w' := by
  have hone := oneTail w (.slice ao n cap)
  have hba := belowAlloc w (.cells #[.slice ao n cap] 27)
  have hl0 := h.keep hba
  have hsa : (w.alloc (.cells #[.slice ao n cap] 27)).heap.size = w.heap.size + 1 := by simp
  have Hc := Lib.hid hc; clear hc
  go_enter Try.func145, Try.ntmps145
  go_wp2_with fail
  go_loopw [3, 4] (fun v lv wr => ∃ (t : Nat) (a : Option Addr) (c : Nat) (tvs : List Value), v = .slice a (t + 1) c ∧ lv = tvs.getD t undef ∧ OwnRow w.heap.size wr.heap.size wr 27 a (t + 1) c tvs ∧
    (∀ i, i ≤ t → LevAt B0 wr.heap.size wr (tvs.getD i undef) (levL xss i)) ∧ (∀ i, 1 ≤ i → i ≤ t → levL xss i ≠ []) ∧ Below w.heap.size w wr) (fun v _ _ => 3720 - lenOf v)
  case atStart => exact ⟨0, _, 1, [.slice ao n cap], rfl, rfl, hone.mono (Nat.le_refl _) (by omega), fun i hi => by
    obtain rfl : i = 0 := by omega
    exact hl0.mono (Nat.le_refl _) (by omega), fun i h1 h2 => by omega, hba⟩
  case round =>
    obtain ⟨t, a, c, tvs, rfl, rfl, hot, hlev, hne, hb⟩ := hrel
    have ht := hlev t (Nat.le_refl _)
    obtain ⟨a2, m2, c2, vs2, e2, hov2, hrv2⟩ := id ht
    have hlen := lev_length Hc.out t
    have hr2 := hrv2.at hov2.at
    have hm2 := hr2.length
    rw [hm2] at hlen
    have hcon := loosePastsOf_any a2 m2 c2 (levL xss t) wr hr2 (fun x hx => lev_good Hc.out hx) hlen
    rw [show looseL (levL xss t) = levL xss (t + 1) from rfl] at hcon
    have htl := hot.length
    have hlast : tvs.getD t undef = .slice a2 m2 c2 := e2
    rw [hlast]
    have Hcon := Lib.hid hcon; clear hcon
    have Hm2 := Lib.hid hm2; clear hm2
    have Hlev := Lib.hid hlev; clear hlev
    have Hne := Lib.hid hne; clear hne
    have Hlast := Lib.hid hlast; clear hlast
    have Htl := Lib.hid htl; clear htl
    have Ht := Lib.hid ht; clear ht
    clear hone hba hl0 hov2 hrv2 hr2 e2
    go_wp2_with fail
    with_reducible refine (Hcon.out).mono ?_
    rintro e w3 ⟨a3, l3, c3, vs3, rfl, hov3, hrv3, hb3⟩
    have hs3 := hb3.size
    have hot3 := (OwnRow.keep hot hb3).mono (Nat.le_refl _) hs3
    have hlev3 : ∀ i, i ≤ t → LevAt B0 w3.heap.size w3 (tvs.getD i undef) (levL xss i) := fun i hi => ((Hlev.out i hi).keep hb3).mono (Nat.le_refl _) hs3
    have hbw3 := belowTrans hb hb3 (Nat.le_refl _)
    have hl3 : (levL xss (t + 1)).length = l3 := by rw [← hrv3.length]; exact hov3.length
    by_cases hz : l3 = 0
    · subst hz
      have hnil : levL xss (t + 1) = [] := List.eq_nil_of_length_eq_zero hl3
      have ht8 : t + 1 ≤ 3719 := by
        by_cases h0 : t = 0
        · omega
        · have := lev_some Hc.out (Hne.out t (by omega) (Nat.le_refl _)); omega
      have Hnil := Lib.hid hnil; clear hnil
      have Hl3 := Lib.hid hl3; clear hl3
      have Hlev3 := Lib.hid hlev3; clear hlev3
      go_wp2_with fail
      go_ret
      exact ⟨_, _, _, _, rfl, hot3, ⟨by omega, ht8, fun i h1 h2 => Hne.out i h1 (by omega), Hnil.out⟩, fun i hi => Hlev3.out i (by omega), hbw3⟩
    · have hne3 : levL xss (t + 1) ≠ [] := fun e => hz (by rw [← hl3, e]; rfl)
      have ht8 := lev_some Hc.out hne3
      have hlz : ((l3 : Int) == 0) = false := by simp; omega
      have hnew : LevAt B0 w3.heap.size w3 (.slice a3 l3 c3) (levL xss (t + 1)) := ⟨a3, l3, c3, vs3, rfl, hov3.mono (by have := hb.size; omega) (Nat.le_refl _), hrv3.mono (by have := hb.size; omega) (Nat.le_refl _)⟩
      have Hl3 := Lib.hid hl3; clear hl3
      have Hlev3 := Lib.hid hlev3; clear hlev3
      have Hne3 := Lib.hid hne3; clear hne3
      have Hnew := Lib.hid hnew; clear hnew
      clear hot hov3 hrv3
      go_wp2_with (at_builtin; refine wpList_pushVX w3 rfl _ _ 94 rfl 27 _ 24 Try.underlying94 Try.infoIntss rfl (by decide) w.heap.size w3.heap.size a (t + 1) c tvs rfl hot3 (.slice a3 l3 c3) rfl rfl (by omega) hbw3.size ?_)
      intro a6 c6 w6 ho6 hc6 hnew6
      have hs6 := hc6.size
      have hb6 := hbw3.trans (hot3.chgBelow hc6 hbw3.size)
      have hlev6 : ∀ i, i ≤ t + 1 → LevAt B0 w6.heap.size w6 ((tvs ++ [Value.slice a3 l3 c3]).getD i undef) (levL xss i) := fun i hi => by
        by_cases hit : i ≤ t
        · rw [List.getD_eq_getElem?_getD, List.getElem?_append_left (by rw [Htl.out]; omega), ← List.getD_eq_getElem?_getD]
          exact ((Hlev3.out i hit).chg hot3 hc6).mono (Nat.le_refl _) hs6
        · obtain rfl : i = t + 1 := by omega
          rw [List.getD_eq_getElem?_getD, List.getElem?_append_right (by rw [Htl.out]; exact Nat.le_refl _), Htl.out, Nat.sub_self]
          exact (Hnew.out.chg hot3 hc6).mono (Nat.le_refl _) hs6
      have hlast6 : (Value.slice a3 l3 c3) = (tvs ++ [Value.slice a3 l3 c3]).getD (t + 1) undef := by
        rw [List.getD_eq_getElem?_getD, List.getElem?_append_right (by rw [Htl.out]; exact Nat.le_refl _), Htl.out, Nat.sub_self]; rfl
      clear hot3 hc6 hnew6
      have Hlev6 := Lib.hid hlev6; clear hlev6
      have Hlast6 := Lib.hid hlast6; clear hlast6
      go_wp2_with fail
      go_roundw
      case rel => exact ⟨t + 1, a6, c6, _, rfl, Hlast6.out, ho6, Hlev6.out, fun i h1 h2 => by
        by_cases hit : i ≤ t
        · exact Hne.out i h1 hit
        · obtain rfl : i = t + 1 := by omega
          exact Hne3.out, hb6⟩
      case measure => simp [lenOf]; omega
end Go.Proofs.Ytcanpbhffmdeeaa
