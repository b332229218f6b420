/- Levels of trees by the program, lines back, and slices.Concat over levels. No condition. -/
import Derived.Test.YtaebdafjbkadlaaPaF
namespace Go.Proofs.Ytaebdafjbkadlaa
open Go.RowKit Go.Shelf
set_option linter.unusedVariables false
set_option linter.unusedSimpArgs false
set_option maxRecDepth 20000

/-! ### Levels whose rows lie apart -/
structure LvX (B E : Nat) (w : World) (lvs : List Value) (vss : List (List Value)) (lss : List (List (List Int))) : Prop where
  len1 : lvs.length = lss.length
  len2 : vss.length = lss.length
  lev : ∀ i, i < lss.length → ∃ a m c, lvs.getD i undef = .slice a m c ∧ Sp B E B E w a m c (vss.getD i []) (lss.getD i [])
  ap : vss.flatten.Pairwise apart
theorem LvX.mono {B B' E E' w lvs vss lss} (h : LvX B E w lvs vss lss) (hB : B' ≤ B) (hE : E ≤ E') : LvX B' E' w lvs vss lss :=
  ⟨h.len1, h.len2, fun i hi => by obtain ⟨a, m, c, e, hs⟩ := h.lev i hi; exact ⟨a, m, c, e, hs.mono hB hE hB hE⟩, h.ap⟩
theorem LvX.keep {B E w w' lvs vss lss} (h : LvX B E w lvs vss lss) (hb : Below w.heap.size w w') : LvX B E w' lvs vss lss :=
  ⟨h.len1, h.len2, fun i hi => by obtain ⟨a, m, c, e, hs⟩ := h.lev i hi; exact ⟨a, m, c, e, hs.keep hb⟩, h.ap⟩
theorem LvX.chgL {B E w w' lvs vss lss B' E' ao n cap us} (h : LvX B E w lvs vss lss) (k : OwnRow B' E' w 25 ao n cap us) (hc : Chg (fun q => (Value.slice ao n cap).ownBlock = some q) w w') : LvX B E w' lvs vss lss :=
  ⟨h.len1, h.len2, fun i hi => by obtain ⟨a, m, c, e, hs⟩ := h.lev i hi; exact ⟨a, m, c, e, hs.chgL k hc⟩, h.ap⟩
theorem getD_snocA {α : Type} (l : List α) (x d : α) (i : Nat) : (l ++ [x]).getD i d = if i < l.length then l.getD i d else if i = l.length then x else d := by
  rw [List.getD_eq_getElem?_getD]
  by_cases h : i < l.length
  · rw [if_pos h, List.getElem?_append_left h, ← List.getD_eq_getElem?_getD]
  · rw [if_neg h, List.getElem?_append_right (by omega)]
    by_cases h2 : i = l.length
    · subst h2; simp
    · rw [if_neg h2, List.getElem?_eq_none (by simp; omega)]; rfl
theorem LvX.take {B E w lvs vss lss} (h : LvX B E w lvs vss lss) (k : Nat) (hk : k ≤ lss.length) : RowsW B E w (vss.take k).flatten (lss.take k).flatten := by
  induction k with
  | zero => exact RowsW.nil _ _ _
  | succ k ih =>
    obtain ⟨a, m, c, e, hs⟩ := h.lev k (by omega)
    have e1 : vss.take (k + 1) = vss.take k ++ [vss.getD k []] := by
      rw [List.take_add_one, List.getElem?_eq_getElem (by rw [h.len2]; omega), List.getD_eq_getElem?_getD, List.getElem?_eq_getElem (by rw [h.len2]; omega)]; rfl
    have e2 := take_snocL (xs := lss) (show k < lss.length by omega) rfl
    rw [e1, e2, List.flatten_append, List.flatten_append]
    simp only [List.flatten_cons, List.flatten_nil, List.append_nil]
    exact (ih (by omega)).append hs.rows
theorem LvX.flat {B E w lvs vss lss} (h : LvX B E w lvs vss lss) : RowsW B E w vss.flatten lss.flatten := by
  have := h.take lss.length (Nat.le_refl _)
  have hl := h.len2
  rwa [List.take_of_length_le (l := vss) (by omega), List.take_of_length_le (l := lss) (by omega)] at this
theorem LvX.snoc {B E F w lvs vss lss a m c vs l} (h : LvX B E w lvs vss lss) (k : Sp E F E F w a m c vs l) (hp : vs.Pairwise apart) (hB : B ≤ E) (hE : E ≤ F) : LvX B F w (lvs ++ [.slice a m c]) (vss ++ [vs]) (lss ++ [l]) := by
  refine ⟨by simp [h.len1], by simp [h.len2], fun i hi => ?_, ?_⟩
  · rw [List.length_append, List.length_singleton] at hi
    rw [getD_snocA, getD_snocA, getD_snocA, h.len1, h.len2]
    by_cases hlt : i < lss.length
    · rw [if_pos hlt, if_pos hlt, if_pos hlt]
      obtain ⟨a', m', c', e, hs⟩ := h.lev i hlt
      exact ⟨a', m', c', e, hs.mono (Nat.le_refl _) hE (Nat.le_refl _) hE⟩
    · have : i = lss.length := by omega
      rw [if_neg hlt, if_neg hlt, if_neg hlt, if_pos this, if_pos this, if_pos this]
      exact ⟨a, m, c, rfl, k.mono hB (Nat.le_refl _) hB (Nat.le_refl _)⟩
  · rw [List.flatten_append]
    simp only [List.flatten_cons, List.flatten_nil, List.append_nil]
    exact apart_append h.flat h.ap k.rows hp (Nat.le_refl _)
theorem LvX.one {B E w a m c vs l} (k : Sp B E B E w a m c vs l) (hp : vs.Pairwise apart) : LvX B E w [.slice a m c] [vs] [l] :=
  ⟨rfl, rfl, fun i hi => by
    obtain rfl : i = 0 := by simpa using hi
    exact ⟨a, m, c, rfl, k⟩, by simpa using hp⟩
theorem lvXRow {B E B' E' : Nat} {w : World} {ao : Option Addr} {n cap : Nat} {lvs : List Value} {vss : List (List Value)} {lss : List (List (List Int))} (h : OwnRow B E w 25 ao n cap lvs) (k : LvX B' E' w lvs vss lss) {i : Nat} (hi : i < n) :
    ∃ b o a m c, ao = some ⟨b, o, none⟩ ∧ b < w.heap.size ∧ w.cell? ⟨b, o + i, none⟩ = some (.slice a m c) ∧ lvs.getD i undef = .slice a m c ∧ Sp B' E' B' E' w a m c (vss.getD i []) (lss.getD i []) := by
  obtain ⟨b, o, e, hlt, hc⟩ := h.at.cell i hi
  obtain ⟨a, m, c, e2, hs⟩ := k.lev i (by rw [← k.len1, h.length]; exact hi)
  exact ⟨b, o, a, m, c, e, hlt, by rw [hc i hi, e2], e2, hs⟩
def lvW (b : Bool) (c : List (List Int)) : Nat → List (List Int)
  | 0 => c
  | t + 1 => (lvW b c t).flatMap (wayL b)
theorem lvW_true (c : List (List Int)) (t : Nat) : lvW true c t = levL c t := by
  induction t with
  | zero => rfl
  | succ t ih => show (lvW true c t).flatMap (wayL true) = looseL (levL c t); rw [ih]; rfl
theorem lvW_false (a : List Int) (t : Nat) : lvW false [a] t = lvA a t := by
  induction t with
  | zero => rfl
  | succ t ih => show (lvW false [a] t).flatMap (wayL false) = (lvA a t).flatMap pastsL; rw [ih]; rfl

set_option maxHeartbeats 1600000 in
theorem level_any (b : Bool) (B0 : Nat) (a0 : Option Addr) (n0 c0 : Nat) (xss : List (List Int)) (k : Nat) (w : World) (h : OwnRows B0 w.heap.size w a0 n0 c0 xss) (hB : B0 ≤ w.heap.size) (hk : k ≤ 60) (hlv : ∀ j, j ≤ k → (∀ x ∈ lvW b xss j, Good x) ∧ (lvW b xss j).length ≤ 3718) :
    Calls Try.prog 96 #[treesV b a0 n0 c0, .int .i64 k] w fun e w' => ∃ a m c, e = .returned (.slice a m c) ∧ OwnRows B0 w'.heap.size w' a m c (lvW b xss k) ∧ Below w.heap.size w w' := by
  have hba := belowAlloc w (.cells #[.slice a0 n0 c0, wayF b] 66)
  have hbr : Below (w.heap.size + 1) (w.alloc (.cells #[.slice a0 n0 c0, wayF b] 66)) (w.alloc (.cells #[.slice a0 n0 c0, wayF b] 66)) := Below.refl _ _
  have hwa : (w.alloc (.cells #[.slice a0 n0 c0, wayF b] 66)).heap.size = w.heap.size + 1 := by simp
  have hk0 := h.keep hba
  have hk1 : OwnRows B0 (w.alloc (.cells #[.slice a0 n0 c0, wayF b] 66)).heap.size (w.alloc (.cells #[.slice a0 n0 c0, wayF b] 66)) a0 n0 c0 (lvW b xss 0) := hk0.mono (Nat.le_refl _) (by rw [hwa]; omega)
  clear hk0
  have hbf := fun a m c x W hh => before_any b a0 n0 c0 a m c x W hh
  have Hba := Lib.hid hba; clear hba
  have Hbr := Lib.hid hbr; clear hbr
  have Hwa := Lib.hid hwa; clear hwa
  have Hlv := Lib.hid hlv; clear hlv
  have Hk1 := Lib.hid hk1; clear hk1
  unfold treesV wayF at *
  have Hbf := Lib.hid hbf; clear hbf
  go_enter Try.func96, Try.ntmps96
  go_wp2_with fail
  go_loopw [5, 9] (fun v i wr => ∃ (j : Nat) (a : Option Addr) (m c : Nat), j ≤ k ∧ i = .int .i64 j ∧ v = .slice a m c ∧ OwnRows B0 wr.heap.size wr a m c (lvW b xss j) ∧ Below (w.heap.size + 1) (w.alloc (.cells #[.slice a0 n0 c0, .func (.func 94) #[wbV b] #[]] 66)) wr) (fun _ i _ => k - (intOf i).toNat)
  case atStart => exact ⟨0, a0, n0, c0, Nat.zero_le _, rfl, rfl, Hk1.out, Hbr.out⟩
  case round =>
    obtain ⟨j, a, m, c, hj, rfl, rfl, hown, hb⟩ := hrel
    have hsz := hb.size
    rw [Hwa.out] at hsz
    by_cases hlt : j < k
    · obtain ⟨t0, t1⟩ := treeCells b a0 n0 c0 w wr hb
      unfold wayF at t1
      have hG := (Hlv.out j hj).1
      have hle := (Hlv.out j hj).2
      have hm := hown.length
      have e : lvW b xss (j + 1) = (lvW b xss j).flatMap (wayL b) := rfl
      generalize lvW b xss j = A at *
      have hcon := Hbf.out a m c A wr hown.at hG (by omega)
      have Hcon := Lib.hid hcon; clear hcon
      have HG := Lib.hid hG; clear hG
      have E := Lib.hid e; clear e
      have Hm := Lib.hid hm; clear hm
      clear hown
      go_wp2_with fail
      with_reducible refine (Hcon.out).mono ?_
      rintro e w2 ⟨a2, n2, c2, rfl, ho2, hb2⟩
      have hb3 := belowTrans hb hb2 (by rw [Hwa.out]; exact Nat.le_refl _)
      clear hb hb2
      go_wp2
      go_roundw
      case rel => exact ⟨j + 1, a2, n2, c2, by omega, by go_num, rfl, by rw [E.out]; exact ho2.mono (by omega) (Nat.le_refl _), hb3⟩
      case measure => simp [intOf]; omega
    · obtain rfl : k = j := by omega
      go_wp2
      go_ret
      exact ⟨_, _, _, rfl, hown, (Hba.out).trans (hb.mono (by omega))⟩

set_option maxHeartbeats 3200000 in
theorem levels_any (B0 : Nat) (a0 : Option Addr) (n0 c0 : Nat) (xss : List (List Int)) (s : Nat) (w : World) (h : OwnRows B0 w.heap.size w a0 n0 c0 xss) (hB : B0 ≤ w.heap.size) (hr : Roots xss s) (hne0 : xss ≠ []) :
    Calls Try.prog 89 #[treesV true a0 n0 c0] w fun e w' => ∃ a c, e = .returned (.slice a (levN xss) c) ∧ (∃ lvs vss, OwnRow w.heap.size w'.heap.size w' 25 a (levN xss) c lvs ∧ LvX B0 w'.heap.size w' lvs vss (levs xss (levN xss))) ∧ Below w.heap.size w w' := by
  have hba := belowAlloc w (.cells #[.slice a0 n0 c0, wayF true] 66)
  have hwa : (w.alloc (.cells #[.slice a0 n0 c0, wayF true] 66)).heap.size = w.heap.size + 1 := by simp
  have hbb : Below (w.heap.size + 1) (w.alloc (.cells #[.slice a0 n0 c0, wayF true] 66)) ((w.alloc (.cells #[.slice a0 n0 c0, wayF true] 66)).alloc (.cells #[.slice a0 n0 c0] 25)) := (Below.refl _ _).alloc (by rw [hwa]; exact Nat.le_refl _) _
  have hsp1 : OwnRow (w.heap.size + 1) (w.heap.size + 2) ((w.alloc (.cells #[.slice a0 n0 c0, wayF true] 66)).alloc (.cells #[.slice a0 n0 c0] 25)) 25 (some ⟨w.heap.size + 1, 0, none⟩) 1 1 [.slice a0 n0 c0] := by
    have := World.ownsRow_lit (base := w.heap.size + 1) (size := 1) (e := 25) (w.alloc (.cells #[.slice a0 n0 c0, wayF true] 66)) #[.slice a0 n0 c0] 1 (by rw [hwa]; exact Nat.le_refl _) (by unfold maxLen; omega) rfl
    rw [hwa] at this
    exact ⟨this, fun g hg => by simp [Value.ownBlock] at hg; omega⟩
  obtain ⟨rvs, hrs, hrp⟩ := h.sp
  have hx1 : LvX B0 w.heap.size ((w.alloc (.cells #[.slice a0 n0 c0, wayF true] 66)).alloc (.cells #[.slice a0 n0 c0] 25)) [.slice a0 n0 c0] [rvs] (levs xss 1) := LvX.one ((hrs.keep hba).keep (belowAlloc _ _)) hrp
  have hat2 : RowsAt ((w.alloc (.cells #[.slice a0 n0 c0, wayF true] 66)).alloc (.cells #[.slice a0 n0 c0] 25)) a0 n0 c0 xss := ((hrs.keep hba).keep (belowAlloc _ _)).at
  have hn0 := h.length
  have hlen0 := levR_length hr 0
  have hbf := before_any true a0 n0 c0 a0 n0 c0 xss _ hat2 hr.good (by show n0 ≤ 4000; rw [← hn0]; exact Nat.le_trans hlen0 (by omega))
  have hbg := fun a m c x W hh => before_any true a0 n0 c0 a m c x W hh
  have hL1 : xss.flatMap (wayL true) = levL xss 1 := rfl
  rw [hL1] at hbf
  clear hat2 hrs h
  have Hba := Lib.hid hba; clear hba
  have Hwa := Lib.hid hwa; clear hwa
  have Hbb := Lib.hid hbb; clear hbb
  have Hsp1 := Lib.hid hsp1; clear hsp1
  have Hx1 := Lib.hid hx1; clear hx1
  have Hr := Lib.hid hr; clear hr
  have Hne0 := Lib.hid hne0; clear hne0
  have Hrp := Lib.hid hrp; clear hrp
  have HL1 := Lib.hid hL1; clear hL1
  have Hn0 := Lib.hid hn0; clear hn0
  unfold treesV wayF at *
  have Hbf := Lib.hid hbf; clear hbf
  have Hbg := Lib.hid hbg; clear hbg
  go_enter Try.func89, Try.ntmps89
  go_wp2_with fail
  with_reducible refine (Hbf.out).mono ?_
  rintro e w1 ⟨a1, n1, c1, rfl, ho1, hb1⟩
  obtain ⟨vs1, hs1, hp1⟩ := ho1.sp
  have hsa : ((w.alloc (.cells #[.slice a0 n0 c0, .func (.func 94) #[wbV true] #[]] 66)).alloc (.cells #[.slice a0 n0 c0] 25)).heap.size = w.heap.size + 2 := by simp
  have hsz1 := hb1.size
  rw [hsa] at hsz1 hs1
  have hx1' := (Hx1.out).keep hb1
  have hsp1' := OwnRow.keep (Hsp1.out) hb1
  have hb1' := belowTrans (Hbb.out) hb1 (by rw [Hwa.out]; exact Nat.le_refl _)
  clear ho1 hb1
  have Hp1 := Lib.hid hp1; clear hp1
  have Hsa := Lib.hid hsa; clear hsa
  go_wp2_with fail
  go_loopw [3, 4] (fun v l wr => ∃ (t E : Nat) (a2 : Option Addr) (c2 : Nat) (lvs : List Value) (vss : List (List Value)) (a : Option Addr) (m c : Nat) (vs : List Value), v = .slice a2 (t + 1) c2 ∧ l = .slice a m c ∧ t ≤ 3719 ∧ (∀ u, u < t + 1 → levL xss u ≠ []) ∧ w.heap.size + 1 ≤ E ∧ E ≤ wr.heap.size ∧ OwnRow (w.heap.size + 1) wr.heap.size wr 25 a2 (t + 1) c2 lvs ∧ LvX B0 E wr lvs vss (levs xss (t + 1)) ∧ Sp E wr.heap.size E wr.heap.size wr a m c vs (levL xss (t + 1)) ∧ vs.Pairwise apart ∧ Below (w.heap.size + 1) (w.alloc (.cells #[.slice a0 n0 c0, .func (.func 94) #[wbV true] #[]] 66)) wr) (fun v _ _ => match v with | .slice _ t _ => 4000 - t | _ => 0)
  case atStart => exact ⟨0, w.heap.size + 2, _, _, _, _, a1, n1, c1, vs1, rfl, rfl, Nat.zero_le _, fun u hu => by (obtain rfl : u = 0 := by omega); exact Hne0.out, by omega, hsz1, hsp1'.mono (Nat.le_refl _) hsz1, hx1'.mono (Nat.le_refl _) (by omega), hs1, Hp1.out, hb1'⟩
  case round =>
    obtain ⟨t, E, a2, c2, lvs, vss, a, m, c, vs, rfl, rfl, ht, hne, hE1, hE2, hov, hlv, hv, hap, hb⟩ := hrel
    clear hx1' hsp1' hb1' hs1
    have hm := hv.length
    have hsz := hb.size
    rw [show (w.alloc (.cells #[.slice a0 n0 c0, .func (.func 94) #[wbV true] #[]] 66)).heap.size = w.heap.size + 1 from Hwa.out] at hsz
    by_cases hlt : m = 0
    · subst hlt
      have hnil := List.eq_nil_of_length_eq_zero hm
      have hN := levN_unique Hr.out hnil hne
      have Hnil := Lib.hid hnil; clear hnil
      have Hm := Lib.hid hm; clear hm
      have Hne := Lib.hid hne; clear hne
      have Hap := Lib.hid hap; clear hap
      have HN := Lib.hid hN; clear hN
      go_wp2
      go_ret
      rw [← HN.out]
      exact ⟨_, _, rfl, ⟨_, _, hov.mono (by omega) (Nat.le_refl _), hlv.mono (Nat.le_refl _) hE2⟩, (Hba.out).trans (hb.mono (by omega))⟩
    · have hne2 : ∀ u, u < t + 1 + 1 → levL xss u ≠ [] := fun u hu => by
        by_cases hut : u = t + 1
        · subst hut; intro e; rw [e] at hm; exact hlt hm.symm
        · exact hne u (by omega)
      have ht2 : t + 1 ≤ 3718 := levR_some Hr.out (hne2 (t + 1) (by omega))
      have hle := levR_length Hr.out (t + 1)
      have hGa : ∀ x ∈ levL xss (t + 1), Good x := fun x hx => levR_good Hr.out hx
      have e2 := levs_succ xss (t + 1)
      have e : levL xss (t + 1 + 1) = (levL xss (t + 1)).flatMap (wayL true) := rfl
      generalize levL xss (t + 1) = A at *
      have hm8 : m ≤ 3718 := by omega
      have hmpos : (0 : Int) < m := by omega
      obtain ⟨t0, t1⟩ := treeCells true a0 n0 c0 w wr hb
      have hnew := hlv.snoc hv hap (by omega) hE2
      rw [← e2] at hnew
      clear t0 t1
      have E := Lib.hid e; clear e
      have E2 := Lib.hid e2; clear e2
      have Hm := Lib.hid hm; clear hm
      have HGa := Lib.hid hGa; clear hGa
      have Hne := Lib.hid hne; clear hne
      have Hne2 := Lib.hid hne2; clear hne2
      have Hap := Lib.hid hap; clear hap
      go_wp2_with (at_builtin; refine wpList_pushVX wr rfl _ _ 68 rfl 25 _ 24 Try.underlying68 Try.infoIntss rfl (by decide) (w.heap.size + 1) wr.heap.size a2 (t + 1) c2 lvs rfl hov _ rfl rfl (by omega) (by omega) ?_)
      intro a6 c6 w6 hov6 hc6 _
      have hs6 := hc6.size
      have hlv6 := (hnew.chgL hov hc6).mono (Nat.le_refl B0) hs6
      have hv6 := hv.chgL hov hc6
      have hb6 := hb.trans (hov.chgBelow hc6 (by omega))
      clear hov hlv hv hb hc6 hnew
      obtain ⟨t0, t1⟩ := treeCells true a0 n0 c0 w w6 hb6
      unfold wayF at t1
      have hcon := Hbg.out a m c A w6 hv6.at HGa.out (by omega)
      have Hcon := Lib.hid hcon; clear hcon
      clear hv6
      go_wp2_with fail
      with_reducible refine (Hcon.out).mono ?_
      rintro e w8 ⟨a8, n8, c8, rfl, ho8, hb8⟩
      obtain ⟨vs8, hs8, hp8⟩ := ho8.sp
      have hsz8 := hb8.size
      have hov8 := (OwnRow.keep hov6 hb8).mono (Nat.le_refl (w.heap.size + 1)) hsz8
      have hlv8 := hlv6.keep hb8
      have hb9 := belowTrans hb6 hb8 (by rw [show (w.alloc (.cells #[.slice a0 n0 c0, .func (.func 94) #[wbV true] #[]] 66)).heap.size = w.heap.size + 1 from Hwa.out]; exact Nat.le_refl _)
      have Hp8 := Lib.hid hp8; clear hp8
      clear hov6 hlv6 hb6 hb8 ho8
      go_wp2
      go_roundw
      case rel => exact ⟨t + 1, w6.heap.size, a6, c6, _, _, a8, n8, c8, vs8, rfl, rfl, by omega, Hne2.out, by omega, hsz8, hov8, hlv8, by rw [E.out]; exact hs8, Hp8.out, hb9⟩
      case measure => simp; omega

/-! ### slices.Concat over levels -/
set_option maxHeartbeats 400000 in
theorem growL_any (n : Nat) (w : World) (hn : n ≤ 1048576) :
    Calls Try.prog 134 #[.slice none 0 0, .int .i64 n] w fun e w' => ∃ ao cap, e = .returned (.slice ao 0 cap) ∧ OwnRow w.heap.size w'.heap.size w' 31 ao 0 cap [] ∧ Below w.heap.size w w' := by
  by_cases hz : n = 0
  · subst hz
    go_enter Try.func134, Try.ntmps134
    go_wp2
    go_ret
    exact ⟨none, 0, rfl, OwnRow.nil _ _ _ _, Below.refl _ _⟩
  · obtain ⟨i0, hi, hz0, hz1, hz2⟩ := info_parts Try.infoInts
    have := Any8.slices_Grow_grow Try.growLL i0 _ hi hz0 (by omega) none 0 0 n [] w (Nat.le_refl _) (by omega) (by rw [hz2]; omega) (by omega) (by simp) (fun _ => rfl) (fun a ha => by cases ha)
    change Calls Try.prog 134 _ _ _ at this
    refine this.mono fun e w' ⟨he, hw⟩ => ⟨_, _, he, ?_, ?_⟩
    · rw [hw]
      change OwnRow w.heap.size (w.drew.alloc _).heap.size (w.drew.alloc _) 31 (some ⟨w.drew.heap.size, 0, none⟩) 0 _ []
      have hcap := grownCap_le_maxLen w (0 + n) 0 31 (by unfold maxLen; omega)
      have hge := grownCap_ge w (0 + n) 0 31
      refine OwnRow.of (World.ownsRow_made w.drew _ _ (Nat.le_refl _) hcap ?_)
      simp [Builtin.zeroCells, Value.cells]
      change n + (grownCap w n 0 31 - n) = grownCap w n 0 31
      simp only [Nat.zero_add] at hge
      omega
    · rw [hw]; exact (Below.refl _ _).drew.alloc (Nat.le_refl _) _
theorem take_snocV {vss : List (List Value)} {k n : Nat} (hk : k < n) (hl : vss.length = n) : vss.take (k + 1) = vss.take k ++ [vss.getD k []] := by
  subst hl
  rw [List.take_add_one, List.getElem?_eq_getElem hk, List.getD_eq_getElem?_getD, List.getElem?_eq_getElem hk]; rfl

/-- how many lists the first levels have -/
def catN (lss : List (List (List Int))) (k : Nat) : Nat := (lss.take k).flatten.length
theorem catN_le (lss : List (List (List Int))) (k : Nat) : catN lss k ≤ lss.flatten.length := levs_take_len lss k
theorem catN_zero (lss : List (List (List Int))) : catN lss 0 = 0 := rfl
set_option maxHeartbeats 1600000 in
theorem concatL_any (B E B' E' : Nat) (ao : Option Addr) (n cap : Nat) (lvs : List Value) (vss : List (List Value)) (lss : List (List (List Int))) (w : World) (h : OwnRow B E w 25 ao n cap lvs) (hx : LvX B' E' w lvs vss lss) (hn : lss.flatten.length ≤ 4000) (hB : B' ≤ w.heap.size) (hE : E' ≤ w.heap.size) :
    Calls Try.prog 99 #[.slice ao n cap] w fun e w' => ∃ ao' n' cap', e = .returned (.slice ao' n' cap') ∧ OwnRows B' w'.heap.size w' ao' n' cap' lss.flatten ∧ Below w.heap.size w w' := by
  have hl : lss.length = n := by rw [← hx.len1]; exact h.length
  have hl2 : vss.length = n := by rw [hx.len2]; exact hl
  have hnI : (n : Int) ≤ 9223372036854775807 := h.at.le |> fun q => maxLen_le (Nat.le_trans q h.at.max)
  have Hl := Lib.hid hl; clear hl
  have Hl2 := Lib.hid hl2; clear hl2
  go_enter Try.func99, Try.ntmps99
  go_wp2
  go_loop [3, 11] (fun s i => ∃ k : Nat, k ≤ n ∧ i = .int .i64 k ∧ s = .int .i64 (catN lss k : Nat)) (fun _ i => n - (intOf i).toNat)
  case atStart => exact ⟨0, Nat.zero_le _, rfl, rfl⟩
  case round =>
    obtain ⟨k, hk, rfl, rfl⟩ := hrel
    have hle := catN_le lss k
    have hle1 := catN_le lss (k + 1)
    by_cases hlt : k < n
    · obtain ⟨b, oo, a, m, c, rfl, hb, hck, _, hs⟩ := lvXRow h hx hlt
      have e := take_snocL hlt Hl.out
      have hm := hs.length
      have e1 : catN lss (k + 1) = catN lss k + m := by unfold catN; rw [e, List.flatten_append, List.length_append]; simp only [List.flatten_cons, List.flatten_nil, List.append_nil]; omega
      rw [e1] at hle1
      generalize catN lss k = p at *
      have E := Lib.hid e; clear e
      have Hm := Lib.hid hm; clear hm
      have E1 := Lib.hid e1; clear e1
      go_wp2
      go_round
      case rel => exact ⟨k + 1, by omega, by go_num, by rw [E1.out]; go_num⟩
      case measure => simp [intOf]; omega
    · obtain rfl : n = k := by omega
      have hcon := growL_any (catN lss n) w (by omega)
      have hge : ¬ ((catN lss n : Int) < 0) := by omega
      have Hcon := Lib.hid hcon; clear hcon
      go_wp2_with (go_at_call 134; refine (Hcon.out).mono ?_; rintro e w1 ⟨ao1, cap1, rfl, ho1, hb1⟩)
      go_loopw [6, 27] (fun v i wr => ∃ (k : Nat) (a : Option Addr) (m c : Nat), k ≤ n ∧ i = .int .i64 k ∧ v = .slice a m c ∧ Sp w.heap.size wr.heap.size B' E' wr a m c (vss.take k).flatten (lss.take k).flatten ∧ Below w.heap.size w wr) (fun _ i _ => n - (intOf i).toNat)
      case atStart => exact ⟨0, ao1, 0, cap1, Nat.zero_le _, rfl, rfl, ⟨ho1, RowsW.nil _ _ _⟩, hb1⟩
      case round =>
        obtain ⟨j, a1, m1, c1, hj, rfl, rfl, hown, hb⟩ := hrel
        clear ho1 hb1
        by_cases hlt2 : j < n
        · obtain ⟨b, oo, a, m, c, rfl, hbl, hck, _, hs⟩ := lvXRow (h.keep hb) (hx.keep hb) hlt2
          have e := take_snocL hlt2 Hl.out
          have ev := take_snocV hlt2 Hl2.out
          have hle2 := levs_take_len lss (j + 1)
          have hm := hs.length
          have hm1 := hown.length
          have e1 : (lss.take (j + 1)).flatten = (lss.take j).flatten ++ lss.getD j [] := by rw [e, List.flatten_append]; simp
          have e2 : (vss.take (j + 1)).flatten = (vss.take j).flatten ++ vss.getD j [] := by rw [ev, List.flatten_append]; simp
          rw [e1, List.length_append] at hle2
          have hmm : m1 + m ≤ 4000 := by omega
          have E := Lib.hid e; clear e
          have Ev := Lib.hid ev; clear ev
          have Hm := Lib.hid hm; clear hm
          have Hm1 := Lib.hid hm1; clear hm1
          have E1 := Lib.hid e1; clear e1
          have E2 := Lib.hid e2; clear e2
          go_wp2_with (at_builtin; refine wpList_catSp wr rfl _ _ rfl w.heap.size wr.heap.size B' E' a1 m1 c1 _ _ rfl hown a m c (vss.getD j []) (lss.getD j []) rfl hs.spine.at hs.rows (by omega) hb.size ?_)
          intro ao2 cap2 w2 ho2 hc2
          have hb2 := hown.below hc2 hb.size
          clear hown
          go_wp2
          go_roundw
          case rel => exact ⟨j + 1, ao2, _, cap2, by omega, by go_num, rfl, by rw [E1.out, E2.out]; exact ho2, hb.trans hb2⟩
          case measure => simp [intOf]; omega
        · obtain rfl : n = j := by omega
          rw [List.take_of_length_le (l := vss) (by rw [Hl2.out]; exact Nat.le_refl _), List.take_of_length_le (l := lss) (by rw [Hl.out]; exact Nat.le_refl _)] at hown
          have hs := hb.size
          go_wp2
          go_ret
          exact ⟨_, _, _, rfl, hown.own hx.ap hB (Nat.le_refl _) (Nat.le_refl _) (by omega), hb⟩
end Go.Proofs.Ytaebdafjbkadlaa
