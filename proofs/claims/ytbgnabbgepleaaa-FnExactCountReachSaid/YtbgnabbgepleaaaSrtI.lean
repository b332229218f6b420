/- slices.SortFunc over lists of piles, the greatest first: the shelf's contract in this seat's words. No condition. -/
import Derived.Test.YtbgnabbgepleaaaCmp
import Derived.Test.YtbgnabbgepleaaaRowsR
import Derived.Test.YtbgnabbgepleaaaSort
import Derived.Test.YtbgnabbgepleaaaGa
namespace Go.Proofs.Ytbgnabbgepleaaa
open Go.RowKit Go.Shelf Go.Lib Go.Sort
set_option linter.unusedVariables false
set_option linter.unusedSimpArgs false
set_option maxRecDepth 20000

theorem cmpL_neg (a b : List Int) : cmpL a b < 0 ↔ befB b a = true := by
  induction a generalizing b with
  | nil => cases b <;> simp [befB, cmpL]
  | cons x l ih =>
    cases b with
    | nil => simp [befB, cmpL]
    | cons y m =>
      show (if x = y then cmpL l m else if x < y then -1 else 1) < 0 ↔ (if y = x then befB m l else decide (x < y)) = true
      by_cases h : x = y
      · rw [if_pos h, if_pos h.symm]; exact ih m
      · have h' : ¬ y = x := fun e => h e.symm
        rw [if_neg h, if_neg h']
        by_cases h2 : x < y
        · rw [if_pos h2]; simp; omega
        · rw [if_neg h2]; simp; omega
set_option maxHeartbeats 400000 in
theorem cmpFirst_any (ao bo : Option Addr) (n m cap cap' : Nat) (xs ys : List Int) (w : World) (hx : IntsAt w ao n cap xs) (hy : IntsAt w bo m cap' ys) :
    Calls Try.prog 97 #[.slice ao n cap, .slice bo m cap'] w fun e w' => e = .returned (.int .i64 (cmpL ys xs)) ∧ w = w' := by
  have hcon := compare_any bo ao m n cap' cap ys xs w hy hx
  have Hcon := Lib.hid hcon; clear hcon
  go_enter Try.func97, Try.ntmps97
  go_wp2_with fail
  with_reducible refine (Hcon.out).mono ?_
  rintro e w' ⟨rfl, rfl⟩
  go_wp2
  go_ret
  exact ⟨rfl, rfl⟩
theorem apart_symm {v u : Value} (h : apart v u) : apart u v := by
  unfold apart at *
  cases e : u.ownBlock with
  | none => exact .inl rfl
  | some g =>
    right
    intro e2
    rcases h with h | h
    · rw [h] at e2; cases e2
    · exact h (e2.symm.trans e.symm)
def encR (vs : List Value) (m : Nat) (i : Fin (m + 1)) : Value := vs.getD i.val undef
def cfR (xss : List (List Int)) (m : Nat) (i j : Fin (m + 1)) : Int := cmpL (xss.getD j.val []) (xss.getD i.val [])
theorem ltR (xss : List (List Int)) (m : Nat) (i j : Fin (m + 1)) : ltOf (cfR xss m) i j = befB (xss.getD i.val []) (xss.getD j.val []) := by
  unfold ltOf cfR
  have := cmpL_neg (xss.getD j.val []) (xss.getD i.val [])
  cases h : befB (xss.getD i.val []) (xss.getD j.val [])
  · rw [decide_eq_false_iff_not]; rw [h] at this; simpa using this
  · rw [decide_eq_true_iff]; exact this.2 h
theorem swoR (xss : List (List Int)) (m : Nat) : SWO (ltOf (cfR xss m)) where
  irrefl x := by rw [ltR]; exact befB_irrefl _
  trans x y z h1 h2 := by rw [ltR] at *; exact bef_trans h1 h2
  ntrans x y z h1 h2 := by rw [ltR] at *; exact befN_trans h2 h1
theorem extract_all {α : Type} (d : Array α) (n : Nat) (h : d.size = n) : d.extract 0 n = d := by subst h; exact Array.extract_size
theorem ofFn_map {α : Type} (l : List α) (m : Nat) (d : α) (hl : l.length = m + 1) : (List.ofFn (fun i : Fin (m + 1) => i)).map (fun i => l.getD i.val d) = l := by
  apply List.ext_getElem
  · simp [hl]
  · intro i h1 h2
    rw [List.getElem_map, List.getElem_ofFn, List.getD_eq_getElem?_getD, List.getElem?_eq_getElem h2]; rfl

set_option maxHeartbeats 1600000 in
theorem sortRows_any (B E C D g m cap : Nat) (vs : List Value) (xss : List (List Int)) (w : World) (h : Sp B E C D w (some ⟨g, 0, none⟩) (m + 1) cap vs xss) (hap : vs.Pairwise apart) (hm : m ≤ 1048576) :
    Calls Try.prog 96 #[.slice (some ⟨g, 0, none⟩) (m + 1) cap, .func (.func 97) #[] #[]] w fun e w' =>
      e = .returned (.tuple #[]) ∧ ∃ us, Sp B E C D w' (some ⟨g, 0, none⟩) (m + 1) cap us (srt xss) ∧ us.Pairwise apart ∧ Chg (fun k => k = g) w w' := by
  have hxl := h.length
  have hvl := h.spine.length
  rcases h.spine.1.2 with ⟨hv, _⟩ | ⟨g', cap', cur, hv, hg, hh, hnc, hcm, hcs, htake⟩
  · simp at hv
  simp only [Value.slice.injEq, Option.some.injEq, Addr.mk.injEq, and_true, true_and] at hv
  obtain ⟨rfl, rfl⟩ := hv
  have hgw : g < w.heap.size := (Array.getElem?_eq_some_iff.1 hh).1
  obtain ⟨d, hd⟩ : ∃ d : Array (Fin (m + 1)), d.toList = List.ofFn (fun i : Fin (m + 1) => i) := ⟨⟨List.ofFn fun i => i⟩, rfl⟩
  have hds : d.size = m + 1 := by rw [← Array.length_toList, hd]; simp
  have hdj : ∀ j, (hj : j < m + 1) → d[j]! = ⟨j, hj⟩ := fun j hj => by
    have h1 : d.toList[j]? = some ⟨j, hj⟩ := by rw [hd, List.getElem?_ofFn, dif_pos hj]
    rw [Array.getElem?_toList, Array.getElem?_eq_getElem (by omega)] at h1
    rw [getElem!_pos d j (by omega)]
    exact Option.some.inj h1
  have hrow : ∀ i : Fin (m + 1), ∃ a k c, encR vs m i = .slice a k c ∧ Own C D w a k c (xss.getD i.val []) := fun i => h.rows.row i.val (by rw [hxl]; exact i.isLt)
  have hH : Holds (encR vs m) w g 0 d := by
    intro j hj
    rw [hds] at hj
    refine ⟨?_, ?_⟩
    · have h1 := World.ownsRow.cellAt h.spine.1 j (by omega)
      simp only [Nat.zero_add]
      rw [h1, hdj j hj]
      show vs[j]? = some (vs.getD j undef)
      rw [List.getD_eq_getElem?_getD, List.getElem?_eq_getElem (by omega)]; rfl
    · simp only [Nat.zero_add]; exact World.ownsRow.frozenAt h.spine.1 j
  have h1c : OneCell (encR vs m) := fun i => by
    obtain ⟨a, k, c, e, _⟩ := hrow i
    rw [e]; rfl
  have eg : ∀ args w, (callFunc 97 args).run Try.prog w = .ok (.enter 97 args) w := enters_of Try.func97 (by kernel_rfl) rfl
  have hchg : ∀ (q : Nat) (os : Array Obj) (dk : Array (Fin (m + 1))), Chg (fun k => k = g) w (sortWorld (encR vs m) w g 0 q dk os) := fun q os dk => by
    unfold sortWorld
    refine ⟨rfl, rfl, rfl, by simp [ahead], fun k hk hs => ?_⟩
    rw [heap_grow_old _ _ (by simp [ahead]; exact hk)]
    have : ¬ g = k := fun e => hs e.symm
    simp [putRow, mapBlock, ahead, Array.getElem?_modify, this]
  have hkeep : ∀ {w' : World} {a : Option Addr} {k c : Nat} {x : List Int}, Own C D w a k c x → Chg (fun k => k = g) w w' → Own C D w' a k c x := fun ho hc =>
    ho.chg hc (fun q h1 h2 h3 h4 => OwnRow.apart_ty ho h.spine (by decide) h3 (by simp [Value.ownBlock, h4]))
  have hcmp : CmpReads Try.prog 97 #[] (encR vs m) (cfR xss m) g 0 d.size w := fun q os dk _ x y => by
    obtain ⟨a, k, c, e, ho⟩ := hrow x
    obtain ⟨a', k', c', e', ho'⟩ := hrow y
    have hc := hchg q os dk
    rw [e, e']
    exact (cmpFirst_any a a' k k' c c' _ _ _ (hkeep ho hc).at (hkeep ho' hc).at).mono fun _ _ ⟨h1, h2⟩ => ⟨h1, 0, h2.symm⟩
  have hS := Any.slices_SortFunc Try.sortLL (encR vs m) h1c (cfR xss m) (swoR xss m) 97 #[] g 0 cap d w eg hcmp.lays hH hgw (by rw [hds]; omega)
  change Calls Try.prog 96 _ _ _ at hS
  rw [hds] at hS
  refine hS.mono fun e w' ⟨he, d', q, os, hp, hs, hw⟩ => ⟨he, ?_⟩
  obtain ⟨hp1, _, hp3⟩ := hp
  rw [hds] at hp1
  have hperm : d'.toList.Perm (List.ofFn fun i : Fin (m + 1) => i) := by
    have e1 : d'.extract 0 (m + 1) = d' := extract_all d' _ hp1
    have e2 : d.extract 0 (m + 1) = d := extract_all d _ hds
    rw [e1, e2, hd] at hp3
    exact hp3
  have hvs := ofFn_map vs m undef hvl
  have hxs := ofFn_map xss m [] hxl
  have hpv : (d'.toList.map (encR vs m)).Perm vs := by
    have := hperm.map (fun i : Fin (m + 1) => vs.getD i.val undef)
    rw [hvs] at this; exact this
  have hpx : (d'.toList.map (fun i => xss.getD i.val [])).Perm xss := by
    have := hperm.map (fun i : Fin (m + 1) => xss.getD i.val [])
    rw [hxs] at this; exact this
  have hsr : srtd (d'.toList.map (fun i => xss.getD i.val [])) := by
    unfold srtd
    rw [List.pairwise_map, List.pairwise_iff_getElem]
    intro i j hi hj hij
    have hi' : i < m + 1 := by rw [Array.length_toList, hp1] at hi; exact hi
    have hj' : j < m + 1 := by rw [Array.length_toList, hp1] at hj; exact hj
    have := hs i j (Nat.zero_le _) hij (by omega)
    rw [ltR, getElem!_pos d' j (by omega), getElem!_pos d' i (by omega)] at this
    simpa using this
  rw [← srt_unique hsr hpx]
  have hc := hchg q os d'
  rw [← hw] at hc
  refine ⟨d'.toList.map (encR vs m), ⟨?_, ?_⟩, ?_, hc⟩
  · have hheap : w'.heap[g]? = some (.cells (putCells (encR vs m) 0 d' cur) 22 (0, 0)) := by
      rw [hw]
      unfold sortWorld
      rw [heap_grow_old _ _ (by simp [ahead]; exact hgw)]
      simp [putRow, mapBlock, ahead, Array.getElem?_modify, hh, onCells]
    refine ⟨⟨by simp [hp1], .inr ⟨g, cap, _, rfl, hg, hheap, hnc, hcm, by simp [putCells, hcs], ?_⟩⟩, h.spine.2⟩
    apply List.ext_getElem
    · simp [putCells, hp1, hcs]; omega
    · intro i h1 h2
      simp [hp1] at h2
      simp [putCells, hp1, h2, getElem!_pos d' i (by omega)]
  · refine ⟨by simp, fun i hi => ?_⟩
    rw [List.length_map, Array.length_toList, hp1] at hi
    obtain ⟨a, k, c, e, ho⟩ := hrow (d'[i]'(by omega))
    refine ⟨a, k, c, ?_, ?_⟩
    · rw [List.getD_eq_getElem?_getD, List.getElem?_map, List.getElem?_eq_getElem (by rw [Array.length_toList, hp1]; exact hi)]
      simpa using e
    · rw [List.getD_eq_getElem?_getD, List.getElem?_map, List.getElem?_eq_getElem (by rw [Array.length_toList, hp1]; exact hi)]
      simpa using hkeep ho hc
  · exact (hpv.symm.pairwise_iff (fun {a b} h => apart_symm h)).1 hap
set_option maxHeartbeats 800000 in
theorem greatestFirst_any (B E : Nat) (ao : Option Addr) (n cap : Nat) (xss : List (List Int)) (w : World) (h : OwnRows B E w ao n cap xss) (hn : n ≤ 1048576) (hB : B ≤ w.heap.size) :
    Calls Try.prog 82 #[.slice ao n cap] w fun e w' => e = .returned (.slice ao n cap) ∧ OwnRows B E w' ao n cap (srt xss) ∧ Below B w w' := by
  obtain ⟨vs, hsp, hap⟩ := h.sp
  rcases hsp.spine.cases with ⟨rfl, rfl, rfl, hnil⟩ | ⟨g, rfl, hg, hgE, hgw⟩
  · have hx : xss = [] := List.eq_nil_of_length_eq_zero h.length
    subst hx
    have hcon := AnyF.slices_SortFunc_none (P := Try.prog) (ρ := Try.sortLL_ren) { Try.sortLL with } none 0 (.func (.func 97) #[] #[]) w
    change Calls Try.prog 96 _ _ _ at hcon
    have Hcon := Lib.hid hcon; clear hcon
    have Hnil := Lib.hid hnil; clear hnil
    go_enter Try.func82, Try.ntmps82
    go_wp2_with fail
    with_reducible refine (Hcon.out).mono ?_
    rintro e w' ⟨rfl, rfl⟩
    go_wp2
    go_ret
    exact ⟨rfl, h, Below.refl _ _⟩
  · by_cases hz : n = 0
    · subst hz
      have hx : xss = [] := List.eq_nil_of_length_eq_zero h.length
      subst hx
      have hcon := AnyF.slices_SortFunc_none (P := Try.prog) (ρ := Try.sortLL_ren) { Try.sortLL with } (some ⟨g, 0, none⟩) cap (.func (.func 97) #[] #[]) w
      change Calls Try.prog 96 _ _ _ at hcon
      have Hcon := Lib.hid hcon; clear hcon
      go_enter Try.func82, Try.ntmps82
      go_wp2_with fail
      with_reducible refine (Hcon.out).mono ?_
      rintro e w' ⟨rfl, rfl⟩
      go_wp2
      go_ret
      exact ⟨rfl, h, Below.refl _ _⟩
    · obtain ⟨m, rfl⟩ : ∃ m, n = m + 1 := ⟨n - 1, by omega⟩
      have hcon := sortRows_any B E B E g m cap vs xss w hsp hap (by omega)
      generalize hM : m + 1 = M at *
      have Hcon := Lib.hid hcon; clear hcon
      have Hap := Lib.hid hap; clear hap
      have HM := Lib.hid hM; clear hM
      clear hsp h
      go_enter Try.func82, Try.ntmps82
      go_wp2_with fail
      with_reducible refine (Hcon.out).mono ?_
      rintro e w' ⟨rfl, us, hs2, hap2, hc2⟩
      go_wp2
      go_ret
      exact ⟨rfl, hs2.own hap2 (Nat.le_refl _) (Nat.le_refl _) (Nat.le_refl _) (Nat.le_refl _), hc2.below hB (fun k hk => by omega)⟩
end Go.Proofs.Ytbgnabbgepleaaa
