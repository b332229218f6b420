/- Several texts in one: DsM, DsR. No condition. -/
import Derived.Test.YtimmjimeldejjaaGreatDoorDk0
import Derived.Test.YtimmjimeldejjaaGreatDoorDe
import Derived.Test.YtimmjimeldejjaaGreatDoorSt
namespace Go.Proofs.YtimmjimeldejjaaGreatDoor
section
set_option linter.unusedVariables false
set_option linter.unusedSimpArgs false
set_option maxRecDepth 20000

def spl (st : List (List UInt8) × List UInt8) (c : UInt8) : List (List UInt8) × List UInt8 := if c = 10 then (st.1 ++ [st.2], []) else (st.1, st.2 ++ [c])
def spF (p : List UInt8) : List (List UInt8) × List UInt8 := p.foldl spl ([], [])
theorem spF_snoc (p : List UInt8) (c : UInt8) : spF (p ++ [c]) = spl (spF p) c := by unfold spF; rw [List.foldl_append]; rfl
def headOn (cur : List UInt8) : List (List UInt8) → List (List UInt8)
  | [] => [cur]
  | h :: t => (cur ++ h) :: t
theorem spl_on (l : List UInt8) : ∀ D cur, (l.foldl spl (D, cur)).1 ++ [(l.foldl spl (D, cur)).2] = D ++ headOn cur (splitL 10 l) := by
  induction l with
  | nil => intro D cur; simp [splitL, headOn]
  | cons c l ih =>
    intro D cur
    rw [List.foldl_cons]
    by_cases h : c = 10
    · have e : spl (D, cur) c = (D ++ [cur], []) := by unfold spl; rw [if_pos h]
      rw [e, ih]
      have e2 : splitL 10 (c :: l) = [] :: splitL 10 l := by
        conv => lhs; unfold splitL
        rw [if_pos h]
      rw [e2]
      cases hq : splitL 10 l with
      | nil => exact absurd hq (splitL_ne _ _)
      | cons x t => simp [headOn]
    · have e : spl (D, cur) c = (D, cur ++ [c]) := by unfold spl; rw [if_neg h]
      rw [e, ih]
      cases hq : splitL 10 l with
      | nil => exact absurd hq (splitL_ne _ _)
      | cons x t =>
        have e2 : splitL 10 (c :: l) = (c :: x) :: t := by
          conv => lhs; unfold splitL
          rw [if_neg h, hq]
        rw [e2]
        simp [headOn]
theorem spF_split (l : List UInt8) : (spF l).1 ++ [(spF l).2] = splitL 10 l := by
  unfold spF
  rw [spl_on]
  cases hq : splitL 10 l with
  | nil => exact absurd hq (splitL_ne _ _)
  | cons x t => simp [headOn]
theorem spl_grow (l : List UInt8) : ∀ D cur, ∃ E, (l.foldl spl (D, cur)).1 = D ++ E := by
  induction l with
  | nil => intro D cur; exact ⟨[], by simp⟩
  | cons c l ih =>
    intro D cur
    rw [List.foldl_cons]
    unfold spl
    split
    · obtain ⟨E, hE⟩ := ih (D ++ [cur]) []
      exact ⟨[cur] ++ E, by unfold spl at hE; rw [hE, List.append_assoc]⟩
    · obtain ⟨E, hE⟩ := ih D (cur ++ [c])
      exact ⟨E, by unfold spl at hE; exact hE⟩
theorem spF_pre (p q : List UInt8) : ∃ E, (spF (p ++ q)).1 = (spF p).1 ++ E := by
  unfold spF
  rw [List.foldl_append]
  exact spl_grow q _ _
theorem spl_cur (l : List UInt8) : ∀ D cur, (10 : UInt8) ∉ cur → (10 : UInt8) ∉ (l.foldl spl (D, cur)).2 ∧ (l.foldl spl (D, cur)).2.length ≤ cur.length + l.length ∧ (l.foldl spl (D, cur)).1.length ≤ D.length + l.length := by
  induction l with
  | nil => intro D cur h; exact ⟨h, by simp, by simp⟩
  | cons c l ih =>
    intro D cur h
    rw [List.foldl_cons]
    by_cases q : c = 10
    · have e : spl (D, cur) c = (D ++ [cur], []) := by unfold spl; rw [if_pos q]
      rw [e]
      obtain ⟨i1, i2, i3⟩ := ih (D ++ [cur]) [] (by simp)
      refine ⟨i1, ?_, ?_⟩
      · simp only [List.length_cons, List.length_nil] at *; omega
      · simp only [List.length_append, List.length_cons, List.length_nil] at *; omega
    · have e : spl (D, cur) c = (D, cur ++ [c]) := by unfold spl; rw [if_neg q]
      rw [e]
      obtain ⟨i1, i2, i3⟩ := ih D (cur ++ [c]) (by
        intro hm
        rcases List.mem_append.1 hm with h' | h'
        · exact h h'
        · exact q (List.mem_singleton.1 h').symm)
      refine ⟨i1, ?_, ?_⟩
      · simp only [List.length_append, List.length_cons, List.length_nil] at *; omega
      · simp only [List.length_append, List.length_cons, List.length_nil] at *; omega
theorem spF_cur (p : List UInt8) : (10 : UInt8) ∉ (spF p).2 ∧ (spF p).2.length ≤ p.length ∧ (spF p).1.length ≤ p.length := by
  have h := spl_cur p [] [] (by simp)
  simp only [List.length_nil] at h
  exact ⟨h.1, by have := h.2.1; unfold spF; omega, by have := h.2.2; unfold spF; omega⟩
theorem linesS_spF {s : List UInt8} {ls : List (List UInt8)} (h : linesS s = some ls) : ls = (spF s).1 ∧ (spF s).2 = [] ∧ s.length ≤ 3000 := by
  unfold linesS at h
  split at h
  · next q =>
    obtain ⟨q1, q2, q3⟩ := q
    rw [← spF_split s] at h q2
    rw [List.length_append, List.length_singleton, Nat.add_sub_cancel] at h q2
    have e1 : ((spF s).1 ++ [(spF s).2]).getD (spF s).1.length [] = (spF s).2 := by simp [List.getD_eq_getElem?_getD]
    rw [e1] at q2
    have e2 : ((spF s).1 ++ [(spF s).2]).take (spF s).1.length = (spF s).1 := by simp
    rw [e2] at h
    exact ⟨(Option.some.inj h).symm, q2, q1⟩
  · cases h
theorem scr_app (A : List (List UInt8)) : ∀ n (B : List (List UInt8)), B.length = n → ∃ F, (scrL (A ++ B)).2 = (scrL A).2 ++ F := by
  intro n
  induction n with
  | zero => intro B h; have : B = [] := List.length_eq_zero_iff.1 h; subst this; exact ⟨[], by simp⟩
  | succ n ih =>
    intro B h
    have hne : B ≠ [] := fun e => by rw [e] at h; simp at h
    have hw := List.dropLast_concat_getLast hne
    obtain ⟨F, hF⟩ := ih B.dropLast (by rw [List.length_dropLast]; omega)
    rw [← hw, ← List.append_assoc, scr_snoc]
    exact ⟨F ++ [(lineA (scrL (A ++ B.dropLast)).1 (B.getLast hne)).2], by show _ ++ _ = _; rw [hF, List.append_assoc]⟩
theorem failF_app (l m : List Ans) : ∀ k, failF k (l ++ m) = failF k l ++ failF (k + l.length) m := by
  induction l with
  | nil => intro k; simp [failF]
  | cons y l ih =>
    intro k
    show (if badA y = true then _ else _) ++ failF (k + 1) (l ++ m) = ((if badA y = true then _ else _) ++ failF (k + 1) l) ++ _
    rw [ih (k + 1), List.append_assoc, show k + 1 + l.length = k + (y :: l).length by simp; omega]
/-- what stands at a line's end -/
theorem at_nl {s : List UInt8} {ls : List (List UInt8)} (h : linesS s = some ls) (p q : List UInt8) (hs : s = (p ++ [10]) ++ q) :
    (spF p).1.length < ((scrL ls).2.map repA).length ∧ ((scrL ls).2.map repA).getD (spF p).1.length [] = repA (lineA (scrL (spF p).1).1 (spF p).2).2 ∧
    (badA (lineA (scrL (spF p).1).1 (spF p).2).2 = true → (failF 0 (scrL (spF p).1).2).length < (failF 0 (scrL ls).2).length ∧ (failF 0 (scrL ls).2).getD (failF 0 (scrL (spF p).1).2).length 0 = ((spF p).1.length : Int) + 1) := by
  obtain ⟨e1, _, _⟩ := linesS_spF h
  obtain ⟨E, hE⟩ := spF_pre (p ++ [10]) q
  rw [← hs, ← e1, spF_snoc] at hE
  have e2 : spl (spF p) 10 = ((spF p).1 ++ [(spF p).2], []) := by unfold spl; rw [if_pos rfl]
  rw [e2] at hE
  obtain ⟨F, hF⟩ := scr_app ((spF p).1 ++ [(spF p).2]) _ E rfl
  have hE' : ls = ((spF p).1 ++ [(spF p).2]) ++ E := hE
  rw [← hE', scr_snoc] at hF
  have hF' : (scrL ls).2 = ((scrL (spF p).1).2 ++ [(lineA (scrL (spF p).1).1 (spF p).2).2]) ++ F := hF
  have hlen := scr_length (spF p).1
  generalize lineA (scrL (spF p).1).1 (spF p).2 = X at hF' ⊢
  rw [hF']
  refine ⟨by simp only [List.length_map, List.length_append, List.length_singleton]; omega, ?_, fun hb => ?_⟩
  · rw [← hlen, List.map_append, List.map_append, List.getD_eq_getElem?_getD, List.append_assoc, List.getElem?_append_right (by simp)]
    simp
  · rw [failF_app, failF_snoc, if_pos hb]
    constructor
    · simp only [List.length_append, List.length_singleton]; omega
    · rw [List.getD_eq_getElem?_getD, List.append_assoc, List.getElem?_append_right (Nat.le_refl _), Nat.sub_self]
      rw [hlen]
      simp
theorem fail_step (D : List (List UInt8)) (cur : List UInt8) : (failF 0 (scrL (D ++ [cur])).2).length = (failF 0 (scrL D).2).length + if badA (lineA (scrL D).1 cur).2 = true then 1 else 0 := by
  rw [scr_snoc]
  show (failF 0 ((scrL D).2 ++ [_])).length = _
  rw [failF_snoc, List.length_append]
  split <;> simp
theorem spF_nl (p : List UInt8) : spF (p ++ [10]) = ((spF p).1 ++ [(spF p).2], []) := by rw [spF_snoc]; unfold spl; rw [if_pos rfl]
theorem spF_ch (p : List UInt8) (c : UInt8) (h : c ≠ 10) : spF (p ++ [c]) = ((spF p).1, (spF p).2 ++ [c]) := by rw [spF_snoc]; unfold spl; rw [if_neg h]
end
end Go.Proofs.YtimmjimeldejjaaGreatDoor
namespace Go.Proofs.YtimmjimeldejjaaGreatDoor
section
open Go.RowKit
set_option linter.unusedVariables false
set_option linter.unusedSimpArgs false
set_option maxRecDepth 20000

set_option maxHeartbeats 3200000 in
set_option maxRecDepth 100000 in
theorem spoiltB_any (t v : ByteArray) (w : World) (g A : Nat) (h : Cur w g A) (hA : A ≤ 800000000) (ht : t.size ≤ 70000) (hv1 : 1 ≤ v.size) (hv : v.size ≤ 100) :
    Calls Tryz.prog 77 #[.pointer (some ⟨g, 0, none⟩), .string t, .string v] w fun e w' => ∃ s : ByteArray, e = .returned (.string s) ∧ s.size ≤ 70004 ∧ Cur w' g (A + 40) ∧ Chg (fun k => k = g) w w' := by
  have hcon := pick_any 2 w g A h (by omega) (by omega) (by omega)
  rw [show ((2 : Nat) : Int) = 2 from rfl] at hcon
  have hg := h.lt
  have Hcon := Lib.hid hcon; clear hcon
  go_enter Tryz.func77, Tryz.ntmps77
  go_wp2_with fail
  with_reducible refine (Hcon.out).mono ?_
  rintro e w1 ⟨N, hN, rfl, hc1, hg1⟩
  have hN8 : (N : Int) ≤ 1 := by omega
  clear Hcon
  go_wp2_with fail
  go_loopw [1, 7] (fun u i wr => ∃ (s : ByteArray) (m : Nat), u = .string s ∧ i = .int .i64 m ∧ m ≤ 2 ∧ s.size + m ≤ 70003 ∧ Cur wr g (A + 40 - 8 * m) ∧ Chg (fun k => k = g) w wr) (fun _ i _ => (intOf i).toNat)
  case atStart => exact ⟨t, 1 + N, rfl, by go_num, by omega, by omega, hc1.le (by omega), hg1⟩
  case round =>
    obtain ⟨s, m, rfl, rfl, hm2, hsm, hc, hgw⟩ := hrel
    clear hc1 hg1
    by_cases hm : 0 < m
    · obtain ⟨M, rfl⟩ : ∃ M, m = M + 1 := ⟨m - 1, by omega⟩
      have hmi : (0 : Int) < (M : Int) + 1 := by omega
      by_cases hs0 : 0 < s.size
      · have hs0i : (0 : Int) < (s.size : Int) := by omega
        have hs8 : (s.size : Int) ≤ 70003 := by omega
        have hp1 := fun W q => pick_any s.size W g (A + 40 - 8 * (M + 1)) q (by omega) (by omega) (by omega)
        have hp2 := fun W q => pick_any v.size W g (A + 40 - 8 * (M + 1) + 2) q (by omega) (by omega) (by omega)
        have hp3 := fun W q => pick_any 3 W g (A + 40 - 8 * (M + 1) + 4) q (by omega) (by omega) (by omega)
        rw [show ((3 : Nat) : Int) = 3 from rfl] at hp3
        have hv8 : (v.size : Int) ≤ 100 := by omega
        have Hp1 := Lib.hid hp1; clear hp1
        have Hp2 := Lib.hid hp2; clear hp2
        have Hp3 := Lib.hid hp3; clear hp3
        go_wp2_with fail
        with_reducible refine (Hp1.out _ hc).mono ?_
        rintro e w2 ⟨i, hi, rfl, hc2, hg2⟩
        have hgw2 := hgw.trans hg2
        clear hc hgw hg2
        go_wp2_with fail
        with_reducible refine (Hp2.out _ hc2).mono ?_
        rintro e w3 ⟨j, hj, rfl, hc3, hg3⟩
        have hgw3 := hgw2.trans hg3
        have hji : (j : Int) < (v.size : Int) := by omega
        have hbk := byte_back w3 v[j]
        clear hc2 hgw2 hg3
        go_wp2_with fail
        with_reducible refine (Hp3.out _ (hc3.keep (belAlloc w3 _))).mono ?_
        rintro e w4 ⟨b, hb, rfl, hc4, hg4⟩
        have hgw4 := hgw3.trans hg4.allocFirst
        have hc5 := hc4.le (show _ ≤ A + 40 - 8 * M by omega)
        have hii : (i : Int) < (s.size : Int) := by omega
        have hb3 : (b : Int) < 3 := by omega
        generalize v[j] = c at *
        clear hc3 hgw3 hg4 hc4 hbk
        have e1 : (s.extract 0 i).size = i := by simp; omega
        have e2 : (s.extract i s.size).size = s.size - i := by simp
        have e3 : (s.extract (i + 1) s.size).size = s.size - (i + 1) := by simp
        have e4 : (⟨#[c]⟩ : ByteArray).size = 1 := rfl
        by_cases hb0 : b = 0
        · subst hb0
          have Hc5 := Lib.hid hc5; clear hc5
          have Hgw4 := Lib.hid hgw4; clear hgw4
          go_wp2_with fail
          go_quiet (fail)
          go_wp2
          go_roundw
          case rel => exact ⟨_, M, rfl, by go_num, by omega, by simp only [ByteArray.size_append]; omega, Hc5.out, Hgw4.out.drewN _⟩
          case measure => simp [intOf] <;> omega
        · by_cases hb1 : b = 1
          · subst hb1
            have Hc5 := Lib.hid hc5; clear hc5
            have Hgw4 := Lib.hid hgw4; clear hgw4
            go_wp2_with fail
            go_quiet (fail)
            go_wp2
            go_roundw
            case rel => exact ⟨_, M, rfl, by go_num, by omega, by simp only [ByteArray.size_append]; omega, Hc5.out, Hgw4.out.drewN _⟩
            case measure => simp [intOf] <;> omega
          · have hd0 : ((b : Int) == 0) = false := by simp; omega
            have hd1 : ((b : Int) == 1) = false := by simp; omega
            have hd2 : decide ((b : Int) = 0) = false := decide_eq_false (by omega)
            have hd3 : decide ((b : Int) = 1) = false := decide_eq_false (by omega)
            have hd4 : ¬ (b : Int) = 0 := by omega
            have hd5 : ¬ (b : Int) = 1 := by omega
            have Hc5 := Lib.hid hc5; clear hc5
            have Hgw4 := Lib.hid hgw4; clear hgw4
            have Hb0 := Lib.hid hb0; clear hb0
            have Hb1 := Lib.hid hb1; clear hb1
            go_wp2_with fail
            go_quiet (fail)
            go_wp2
            go_roundw
            case rel => exact ⟨_, M, rfl, by go_num, by omega, by simp only [ByteArray.size_append]; omega, Hc5.out, Hgw4.out.drewN _⟩
            case measure => simp [intOf] <;> omega
      · have hd : ¬ (0 : Int) < (s.size : Int) := by omega
        have hc5 := hc.le (show _ ≤ A + 40 by omega)
        have Hc5 := Lib.hid hc5; clear hc5
        have Hgw := Lib.hid hgw; clear hgw
        go_wp2
        go_ret
        exact ⟨_, rfl, by omega, Hc5.out, Hgw.out⟩
    · obtain rfl : m = 0 := by omega
      have hc5 := hc.le (show _ ≤ A + 40 by omega)
      have Hc5 := Lib.hid hc5; clear hc5
      have Hgw := Lib.hid hgw; clear hgw
      go_wp2
      go_ret
      exact ⟨_, rfl, by omega, Hc5.out, Hgw.out⟩

set_option maxHeartbeats 800000 in
theorem xTexts_any (ao bo : Option Addr) (n m cap cap' : Nat) (O P : List (List UInt8)) (w : World) (hx : ValsAt w ao n cap (strVs O)) (hy : ValsAt w bo m cap' (strVs P)) :
    Calls Tryz.prog 23 #[.slice ao n cap, .slice bo m cap'] w fun e w' => e = .returned (.bool (decide (O = P))) ∧ Below w.heap.size w w' := by
  have hn' : (n : Int) ≤ 9223372036854775807 := maxLen_le (Nat.le_trans hx.le hx.max)
  have hm' : (m : Int) ≤ 9223372036854775807 := maxLen_le (Nat.le_trans hy.le hy.max)
  have hxl : O.length = n := by have := hx.length; rw [strVs_length] at this; exact this
  have hyl : P.length = m := by have := hy.length; rw [strVs_length] at this; exact this
  by_cases hnm : n = m
  · subst hnm
    have Hxl := Lib.hid hxl; clear hxl
    have Hyl := Lib.hid hyl; clear hyl
    go_enter Tryz.func23, Tryz.ntmps23
    go_wp2
    go_loopw [13] (fun i wr => ∃ k : Nat, k ≤ n ∧ i = .int .i64 k ∧ O.take k = P.take k ∧ ∃ q, wr = w.drewN q)
      (fun i _ => n - (intOf i).toNat)
    case atStart => exact ⟨0, Nat.zero_le _, rfl, rfl, 0, rfl⟩
    case round =>
      obtain ⟨k, hk, rfl, heq, q, rfl⟩ := hrel
      have Heq := Lib.hid heq; clear heq
      by_cases hlt : k < n
      · obtain ⟨b1, o1, rfl, hb1, hc1⟩ := hx.cell k hlt
        obtain ⟨b2, o2, rfl, hb2, hc2⟩ := hy.cell k hlt
        have h1 := hc1 k hlt
        have h2 := hc2 k hlt
        rw [strVs_getD (by rw [Hxl.out]; exact hlt)] at h1
        rw [strVs_getD (by rw [Hyl.out]; exact hlt)] at h2
        clear hc1 hc2
        generalize hx1 : O.getD k [] = x at h1
        generalize hy1 : P.getD k [] = y at h2
        by_cases hxy : x = y
        · subst hxy
          have hcf := str_same x
          have Hx1 := Lib.hid hx1; clear hx1
          have Hy1 := Lib.hid hy1; clear hy1
          go_wp2
          go_quiet (fail)
          go_wp2
          exact ⟨⟨k + 1, by omega, by go_num, by rw [take_snocT Hx1.out hlt Hxl.out, take_snocT Hy1.out hlt Hyl.out, Heq.out], _, rfl⟩, by simp [intOf]; omega⟩
        · have hct := str_other hxy
          have hce := str_otherE hxy
          have hcx : (x == y) = false := by simpa using hxy
          have hne : O ≠ P := fun e => hxy (by rw [← hx1, ← hy1, e])
          have Hx1 := Lib.hid hx1; clear hx1
          have Hy1 := Lib.hid hy1; clear hy1
          have Hne := Lib.hid hne; clear hne
          have Hxy := Lib.hid hxy; clear hxy
          go_wp2
          go_quiet (fail)
          go_wp2
          go_ret
          exact ⟨by simp [Hne.out], belowDrewN (belowDrewN (Below.refl _ _) _) _⟩
      · go_wp2
        go_ret
        obtain rfl : n = k := by omega
        have e := Heq.out
        rw [List.take_of_length_le (Nat.le_of_eq Hxl.out), List.take_of_length_le (Nat.le_of_eq Hyl.out)] at e
        exact ⟨by simp [e], belowDrewN (Below.refl _ _) _⟩
  · have hne : ((n : Int) != (m : Int)) = true := by simp; omega
    have hxy : O ≠ P := fun e => hnm (by rw [← hxl, ← hyl, e])
    go_enter Tryz.func23, Tryz.ntmps23
    go_wp2
    go_ret
    exact ⟨by simp [hxy], Below.refl _ _⟩

/-! ### Marks -/
theorem num_of7 {i : Nat} (hi : i < 7) : ∃ n : Nat, n ≤ 51 ∧ ([0, 1, 5, 10, 20, 50, 51] : List Int).getD i 0 = (n : Int) := by
  have hall : ∀ i : Fin 7, ∃ n : Fin 52, ([0, 1, 5, 10, 20, 50, 51] : List Int).getD i.val 0 = ((n.val : Nat) : Int) := by
    intro i
    match i with
    | ⟨0, _⟩ => exact ⟨⟨0, by omega⟩, rfl⟩
    | ⟨1, _⟩ => exact ⟨⟨1, by omega⟩, rfl⟩
    | ⟨2, _⟩ => exact ⟨⟨5, by omega⟩, rfl⟩
    | ⟨3, _⟩ => exact ⟨⟨10, by omega⟩, rfl⟩
    | ⟨4, _⟩ => exact ⟨⟨20, by omega⟩, rfl⟩
    | ⟨5, _⟩ => exact ⟨⟨50, by omega⟩, rfl⟩
    | ⟨6, _⟩ => exact ⟨⟨51, by omega⟩, rfl⟩
  obtain ⟨n, hn⟩ := hall ⟨i, hi⟩
  exact ⟨n.val, by have := n.isLt; omega, hn⟩
set_option maxHeartbeats 3200000 in
theorem script8_any (w : World) (g A : Nat) (h : Cur w g A) (hA : A ≤ 500000000) :
    Calls Tryz.prog 47 #[.pointer (some ⟨g, 0, none⟩)] w fun e w' => ∃ s : ByteArray, e = .returned (.string s) ∧ s.size ≤ 70004 ∧ Cur w' g (A + 41000) ∧ Chg (fun k => k = g) w w' := by
  have hgl := h.lt
  have hbA := belowAlloc w (.cells (([0, 1, 5, 10, 20, 50, 51] : List Int).map (Value.int .i64)).toArray 3)
  have hcon := among_any 7 7 (some ⟨w.heap.size, 0, none⟩) [0, 1, 5, 10, 20, 50, 51] _ g A (intsAt_new w _ (by unfold maxLen; decide)) (fun b o e => by cases e; omega) (h.keep hbA) (by omega) (by omega) (by omega)
  have hcon2 : Calls Tryz.prog 54 #[.pointer (some ⟨g, 0, none⟩), .slice (some ⟨w.heap.size, 0, none⟩) 7 7] (w.alloc (.cells #[.int .i64 0, .int .i64 1, .int .i64 5, .int .i64 10, .int .i64 20, .int .i64 50, .int .i64 51] 3)) (fun e w1 => ∃ n : Nat, n ≤ 51 ∧ e = .returned (.int .i64 (n : Int)) ∧ Cur w1 g (A + 2) ∧ Chg (fun k => k = g) w w1) := hcon.mono (fun e w1 ⟨i, hi, e1, e2, e3⟩ => by
    obtain ⟨n, h1, h2⟩ := num_of7 hi
    exact ⟨n, h1, by rw [e1, h2], e2, e3.allocFirst⟩)
  clear hcon hbA h
  have Hcon2 := Lib.hid hcon2; clear hcon2
  go_enter Tryz.func47, Tryz.ntmps47
  go_wp2_with fail
  with_reducible refine (Hcon2.out).mono ?_
  rintro e w1 ⟨N, hN, rfl, hc1, hg1⟩
  clear Hcon2
  go_wp2_with fail
  go_loopw [3, 4] (fun u i wr => ∃ (s : ByteArray) (m : Nat), u = .string s ∧ i = .int .i64 m ∧ m ≤ 51 ∧ s.size + 1201 * m ≤ 61251 ∧ Cur wr g (A + 2 + 800 * (51 - m)) ∧ Chg (fun k => k = g) w wr) (fun _ i _ => (intOf i).toNat)
  case atStart => exact ⟨⟨#[]⟩, N, rfl, rfl, hN, by show 0 + _ ≤ _; omega, hc1.le (by omega), hg1⟩
  case round =>
    obtain ⟨s, m, rfl, rfl, hm, hs, hc, hg⟩ := hrel
    clear hc1 hg1
    by_cases hm0 : 0 < m
    · obtain ⟨M, rfl⟩ : ∃ M, m = M + 1 := ⟨m - 1, by omega⟩
      have hmi : (0 : Int) < (M : Int) + 1 := by omega
      have hln := line8_any wr g _ hc (by omega)
      have Hln := Lib.hid hln; clear hln
      go_wp2_with fail
      with_reducible refine (Hln.out).mono ?_
      rintro e w2 ⟨t, rfl, ht, hc2, hg2⟩
      have hno : ¬ (9223372036854775807 < t.size + 1) := by omega
      have hno2 : ¬ (9223372036854775807 < s.size + (t.size + 1)) := by omega
      have hg3 := hg.trans hg2
      have hc3 := hc2.le (show _ ≤ A + 2 + 800 * (51 - M) by omega)
      clear hc hg hg2 hc2 Hln
      have Hc3 := Lib.hid hc3; clear hc3
      have Hg3 := Lib.hid hg3; clear hg3
      go_wp2
      go_roundw
      case rel => exact ⟨_, M, rfl, by go_num, by omega, by simp only [ByteArray.size_append, bsz, List.size_toArray, List.length_cons, List.length_nil]; omega, Hc3.out, Hg3.out⟩
      case measure => simp [intOf] <;> omega
    · obtain rfl : m = 0 := by omega
      have hone := one_any 12 wr g _ hc (by omega) (by omega) (by omega)
      rw [show ((12 : Nat) : Int) = 12 from rfl] at hone
      have hsz : (s ++ ⟨#[115, 116, 101, 112]⟩ : ByteArray).size ≤ 70000 := by simp only [ByteArray.size_append, bsz, List.size_toArray, List.length_cons, List.length_nil]; omega
      have hno : ¬ (9223372036854775807 < s.size + 4) := by omega
      have hsp := fun W q => spoiltB_any (s ++ ⟨#[115, 116, 101, 112]⟩) ⟨#[48, 49, 50, 51, 43, 44, 58, 32, 45, 97, 98, 120, 10]⟩ W g (A + 2 + 800 * (51 - 0) + 2) q (by omega) hsz (by decide) (by decide)
      have Hone := Lib.hid hone; clear hone
      have Hsp := Lib.hid hsp; clear hsp
      go_wp2_with fail
      with_reducible refine (Hone.out).mono ?_
      rintro e w2 ⟨b, rfl, hc2, hg2⟩
      have hg3 := hg.trans hg2
      clear hc hg hg2 Hone
      cases b
      · have Hc2 := Lib.hid hc2; clear hc2
        have Hg3 := Lib.hid hg3; clear hg3
        go_wp2
        go_ret
        exact ⟨s, rfl, by omega, (Hc2.out).le (by omega), Hg3.out⟩
      · go_wp2_with fail
        with_reducible refine (Hsp.out _ hc2).mono ?_
        rintro e w3 ⟨u, rfl, hu, hc4, hg4⟩
        have hg5 := hg3.trans hg4
        clear hg3 hg4 hc2 Hsp
        have Hc4 := Lib.hid hc4; clear hc4
        have Hg5 := Lib.hid hg5; clear hg5
        go_wp2
        go_ret
        exact ⟨u, rfl, hu, (Hc4.out).le (by omega), Hg5.out⟩
theorem DrawRunScript_any (ac : Option Addr) (nc cc : Nat) (w : World) (hnc : nc ≤ 1048576) (hby : ByteIn w w.heap.size ac nc) :
    Calls Tryz.prog 18 #[.slice ac nc cc] w fun e w' => ∃ s : ByteArray, e = .returned (.string s) ∧ s.size ≤ 70004 ∧ Below w.heap.size w w' := by
  have hcon := script8_any _ _ 0 (cur_new w ac nc cc hnc hby) (by omega)
  have Hcon := Lib.hid hcon; clear hcon
  have Hby := Lib.hid hby; clear hby
  go_enter Tryz.func18, Tryz.ntmps18
  go_wp2_with fail
  with_reducible refine (Hcon.out).mono ?_
  rintro e w1 ⟨s, rfl, hs, hc, hg⟩
  have hb := hg.drawn
  clear hc hg Hcon
  have Hb := Lib.hid hb; clear hb
  go_wp2
  go_ret
  exact ⟨s, rfl, hs, Hb.out⟩
end
end Go.Proofs.YtimmjimeldejjaaGreatDoor
