/- slices.SortFunc over bank states: the shelf's contract in this seat's words. No condition. -/
import Derived.Test.YtnebfojnbjbogaaDoorCyM
import Derived.Test.YtnebfojnbjbogaaDoorCmp
import Derived.Test.YtnebfojnbjbogaaDoorGa
import Derived.Test.YtnebfojnbjbogaaDoorShelfS
import Derived.Shelf.SlSortCmp.WholeK
namespace Go.Proofs.YtnebfojnbjbogaaDoor
open Go.RowKit Go.Shelf Go.Lib Go.Sort
set_option linter.unusedVariables false
set_option linter.unusedSimpArgs false
set_option maxRecDepth 20000

/-! ### The order -/
def cmpI (x y : Int) : Int := if x = y then 0 else if x < y then -1 else 1
def cmpK (a b : Bk) : Int := if cmpI a.l b.l = 0 then cmpL b.p a.p else cmpI a.l b.l
theorem cmpL_negK (a b : List Int) : cmpL a b < 0 ↔ befB b a = true := by
  induction a generalizing b with
  | nil => cases b <;> simp [befB, cmpL]
  | cons x l ih =>
    cases b with
    | nil => simp [befB, cmpL]
    | cons y m =>
      show (if x = y then cmpL l m else if x < y then -1 else 1) < 0 ↔ (if y = x then befB m l else decide (x < y)) = true
      by_cases h : x = y
      · rw [if_pos h, if_pos h.symm]; exact ih m
      · have h' : ¬ y = x := fun e => h e.symm
        rw [if_neg h, if_neg h']
        by_cases h2 : x < y
        · rw [if_pos h2]; simp; omega
        · rw [if_neg h2]; simp; omega
theorem cmpK_neg (a b : Bk) : decide (cmpK a b < 0) = befK a b := by
  unfold cmpK cmpI befK
  by_cases h : a.l = b.l
  · rw [if_pos h, if_pos rfl]
    have h1 : decide (a.l < b.l) = false := decide_eq_false (by omega)
    have h2 := cmpL_negK b.p a.p
    rw [h1, decide_eq_true h]
    cases h3 : befB a.p b.p
    · simp [h2, h3]
    · simp [h2, h3]
  · rw [if_neg h]
    have h0 : decide (a.l = b.l) = false := decide_eq_false h
    by_cases h2 : a.l < b.l
    · rw [if_pos h2, if_neg (by decide), decide_eq_true h2]; rfl
    · rw [if_neg h2, if_neg (by decide), decide_eq_false h2, h0]; rfl
theorem befK_iff (a b : Bk) : befK a b = true ↔ a.l < b.l ∨ (a.l = b.l ∧ befB a.p b.p = true) := by unfold befK; simp
theorem befK_off (a b : Bk) : befK a b = false ↔ b.l < a.l ∨ (a.l = b.l ∧ befB a.p b.p = false) := by
  cases h : befK a b with
  | true =>
    have := (befK_iff a b).1 h
    constructor
    · intro q; cases q
    · rintro (q | ⟨q1, q2⟩)
      · rcases this with r | ⟨r1, r2⟩ <;> omega
      · rcases this with r | ⟨r1, r2⟩
        · omega
        · rw [q2] at r2; cases r2
  | false =>
    have : ¬ (a.l < b.l ∨ (a.l = b.l ∧ befB a.p b.p = true)) := fun q => by rw [(befK_iff a b).2 q] at h; cases h
    refine ⟨fun _ => ?_, fun _ => rfl⟩
    by_cases q : a.l = b.l
    · refine .inr ⟨q, ?_⟩
      cases h3 : befB a.p b.p
      · rfl
      · exact absurd (.inr ⟨q, h3⟩) this
    · left; have := fun r => this (.inl r); omega
/-- in order, where the same may come again -/
def srtK (l : List Bk) : Prop := l.Pairwise (fun a b => befK b a = false)
theorem srtK_of {l : List Bk} (h : l.Pairwise (fun a b => befK a b = true)) : srtK l := h.imp fun {a b} h => by
  rcases (befK_iff a b).1 h with q | ⟨q1, q2⟩
  · exact (befK_off b a).2 (.inl q)
  · exact (befK_off b a).2 (.inr ⟨q1.symm, befB_asymm q2⟩)
theorem srtK_unique {l m : List Bk} {H : Int} (hl : srtK l) (hm : srtK m) (hp : l.Perm m) (hh : ∀ b ∈ l, b.h = H) : l = m := by
  refine List.Perm.eq_of_pairwise (fun a b ha hb h h' => ?_) hl hm hp
  have e1 := hh a ha
  have e2 := hh b (hp.mem_iff.2 hb)
  have h3 := (befK_off _ _).1 h
  have h4 := (befK_off _ _).1 h'
  have hl : a.l = b.l := by
    rcases h3 with q | ⟨q, _⟩
    · rcases h4 with r | ⟨r, _⟩ <;> omega
    · exact q.symm
  have hpp : a.p = b.p := by
    rcases h3 with q | ⟨_, q⟩
    · omega
    · rcases h4 with r | ⟨_, r⟩
      · omega
      · exact befN_antisymm r q
  obtain ⟨h1, l1, p1⟩ := a
  obtain ⟨h2, l2, p2⟩ := b
  simp only at e1 e2 hl hpp
  subst hl hpp
  rw [e1, e2]
def cfK (bs : List Bk) (m : Nat) (i j : Fin (m + 1)) : Int := cmpK (bs.getD i.val noBank) (bs.getD j.val noBank)
theorem ltK (bs : List Bk) (m : Nat) (i j : Fin (m + 1)) : ltOf (cfK bs m) i j = befK (bs.getD i.val noBank) (bs.getD j.val noBank) := by
  unfold ltOf cfK
  exact cmpK_neg _ _
theorem swoK (bs : List Bk) (m : Nat) : SWO (ltOf (cfK bs m)) where
  irrefl x := by rw [ltK]; exact befK_irrefl _
  trans x y z h1 h2 := by
    rw [ltK] at *
    generalize bs.getD x.val noBank = a at *
    generalize bs.getD y.val noBank = b at *
    generalize bs.getD z.val noBank = c at *
    rcases (befK_iff a b).1 h1 with q | ⟨q1, q2⟩ <;> rcases (befK_iff b c).1 h2 with r | ⟨r1, r2⟩
    · exact (befK_iff a c).2 (.inl (by omega))
    · exact (befK_iff a c).2 (.inl (by omega))
    · exact (befK_iff a c).2 (.inl (by omega))
    · exact (befK_iff a c).2 (.inr ⟨by omega, bef_trans q2 r2⟩)
  ntrans x y z h1 h2 := by
    rw [ltK] at *
    generalize bs.getD x.val noBank = a at *
    generalize bs.getD y.val noBank = b at *
    generalize bs.getD z.val noBank = c at *
    rcases (befK_off a b).1 h1 with q | ⟨q1, q2⟩ <;> rcases (befK_off b c).1 h2 with r | ⟨r1, r2⟩
    · exact (befK_off a c).2 (.inl (by omega))
    · exact (befK_off a c).2 (.inl (by omega))
    · exact (befK_off a c).2 (.inl (by omega))
    · exact (befK_off a c).2 (.inr ⟨by omega, befN_trans r2 q2⟩)

/-! ### The cells of a slice of bank states, by the slices of their piles -/
def cellB (V : Bk → Value) (b : Bk) : List Value := [.int .i64 b.h, .int .i64 b.l, V b]
def cellsB (V : Bk → Value) (bs : List Bk) : List Value := bs.flatMap (cellB V)
theorem cellsB_length (V : Bk → Value) (bs : List Bk) : (cellsB V bs).length = bs.length * 3 := by
  induction bs with
  | nil => rfl
  | cons b bs ih => show (cellB V b ++ cellsB V bs).length = _; rw [List.length_append, ih, List.length_cons]; show 3 + _ = _; omega
theorem cellsB_snoc (V : Bk → Value) (bs : List Bk) (b : Bk) : cellsB V (bs ++ [b]) = cellsB V bs ++ [.int .i64 b.h, .int .i64 b.l, V b] := by
  unfold cellsB
  rw [List.flatMap_append]
  simp [cellB]
theorem cellsB_getD (V : Bk → Value) : ∀ (bs : List Bk) (i k : Nat), i < bs.length → k < 3 → (cellsB V bs).getD (i * 3 + k) undef = (cellB V (bs.getD i noBank)).getD k undef
  | [], i, k, h, _ => absurd h (Nat.not_lt_zero _)
  | b :: bs, 0, k, _, hk => by
    show (cellB V b ++ cellsB V bs).getD (0 * 3 + k) undef = _
    rw [Nat.zero_mul, Nat.zero_add, List.getD_eq_getElem?_getD, List.getElem?_append_left (by show k < 3; exact hk), ← List.getD_eq_getElem?_getD]
    rfl
  | b :: bs, i + 1, k, h, hk => by
    show (cellB V b ++ cellsB V bs).getD ((i + 1) * 3 + k) undef = _
    rw [List.getD_eq_getElem?_getD, List.getElem?_append_right (by show 3 ≤ _; omega)]
    have e : (i + 1) * 3 + k - (cellB V b).length = i * 3 + k := by show (i + 1) * 3 + k - 3 = _; omega
    rw [e, ← List.getD_eq_getElem?_getD, cellsB_getD V bs i k (by simpa using h) hk]
    rfl
theorem getD_div (bs : List Bk) (V : Bk → Value) (t : Nat) (h : t < bs.length * 3) : (cellsB V bs).getD t undef = (cellB V (bs.getD (t / 3) noBank)).getD (t % 3) undef := by
  have := cellsB_getD V bs (t / 3) (t % 3) (by omega) (by omega)
  rw [show t / 3 * 3 + t % 3 = t by omega] at this
  exact this

/-! ### The comparison -/
/-- draws and new blocks -/
def Grew (W w' : World) : Prop := ∃ q os', w' = grow (W.drewN q) os'
theorem Grew.refl (W : World) : Grew W W := ⟨0, #[], by rw [grow_empty]; rfl⟩
theorem Grew.alloc {W w' : World} (h : Grew W w') (o : Obj) : Grew W (w'.alloc o) := by
  obtain ⟨q, os, rfl⟩ := h
  exact ⟨q, os ++ #[o], by rw [alloc_eq_grow, grow_grow]⟩
theorem Grew.drew {W w' : World} (h : Grew W w') : Grew W w'.drew := by
  obtain ⟨q, os, rfl⟩ := h
  exact ⟨q + 1, os, rfl⟩
theorem Grew.drewN {W w' : World} (h : Grew W w') (n : Nat) : Grew W (w'.drewN n) := by
  obtain ⟨q, os, rfl⟩ := h
  exact ⟨q + n, os, by show World.drewN (grow _ _) n = _; unfold grow World.drewN; simp [Nat.add_assoc]⟩
theorem intsAt_two (w : World) (X Y : Int) : IntsAt (w.alloc (.cells #[.int .i64 X, .int .i64 Y] 3)) (some ⟨w.heap.size, 0, none⟩) 2 2 [X, Y] := by
  refine ⟨rfl, Nat.le_refl _, by unfold maxLen; omega, (fun e => by cases e), fun j hj => ⟨w.heap.size, 0, rfl, by simp, fun i hi => ?_⟩⟩
  rw [World.cell?_alloc_at _ _ _ _ rfl, Nat.zero_add]
  match i, hi with
  | 0, _ => rfl
  | 1, _ => rfl
def orI (x y : Int) : Int := if x = 0 then y else x
theorem cmpOr_any (X Y : Int) (a : Option Addr) (cap : Nat) (w : World) (h : IntsAt w a 2 cap [X, Y]) :
    Calls Tryd.prog 77 #[.slice a 2 cap] w fun e w' => e = .returned (.int .i64 (orI X Y)) ∧ w = w' := by
  obtain ⟨b, o, rfl, hbl, hc⟩ := h.cell 0 (by omega)
  have h0 : w.cell? ⟨b, o, none⟩ = some (.int .i64 X) := hc 0 (by omega)
  have h1 : w.cell? ⟨b, o + 1, none⟩ = some (.int .i64 Y) := hc 1 (by omega)
  clear hc h
  go_enter Tryd.func77, Tryd.ntmps77
  go_wp2
  go_loop [8] (fun i => (i = .int .i64 0) ∨ (i = .int .i64 1 ∧ X = 0) ∨ (i = .int .i64 2 ∧ X = 0 ∧ Y = 0)) (fun i => 2 - (intOf i).toNat)
  case atStart => exact .inl rfl
  case round =>
    rcases hrel with rfl | ⟨rfl, hX⟩ | ⟨rfl, hX, hY⟩
    · by_cases hX : X = 0
      · subst hX
        go_wp2
        go_round
        case rel => exact .inr (.inl (by simp))
        case measure => simp [intOf]
      · have hr : orI X Y = X := by unfold orI; rw [if_neg hX]
        have hX2 : (X != 0) = true := by simp [hX]
        have Hr := Lib.hid hr; clear hr
        go_wp2
        go_ret
        exact ⟨by rw [Hr.out]; rfl, rfl⟩
    · by_cases hY : Y = 0
      · subst hY
        go_wp2
        go_round
        case rel => exact .inr (.inr (by simp [hX]))
        case measure => simp [intOf]
      · have hr : orI X Y = Y := by unfold orI; rw [if_pos hX]
        have hY2 : (Y != 0) = true := by simp [hY]
        have Hr := Lib.hid hr; clear hr
        have HX := Lib.hid hX; clear hX
        go_wp2
        go_ret
        exact ⟨by rw [Hr.out]; rfl, rfl⟩
    · have hr : orI X Y = 0 := by unfold orI; rw [if_pos hX, hY]
      have Hr := Lib.hid hr; clear hr
      have HX := Lib.hid hX; clear hX
      have HY := Lib.hid hY; clear hY
      go_wp2
      go_ret
      exact ⟨by rw [Hr.out]; rfl, rfl⟩
set_option maxHeartbeats 1600000 in
theorem compareBanks_any (h l h' l' : Int) (a a' : Option Addr) (n n' c c' : Nat) (xs ys : List Int) (w : World) (hx : IntsAt w a n c xs) (hy : IntsAt w a' n' c' ys) :
    Calls Tryd.prog 63 #[.agg #[.int .i64 h, .int .i64 l, .slice a n c], .agg #[.int .i64 h', .int .i64 l', .slice a' n' c']] w fun e w' => e = .returned (.int .i64 (cmpK ⟨h, l, xs⟩ ⟨h', l', ys⟩)) ∧ Grew w w' := by
  have hb0 := belowAlloc w (.cells #[.int .i64 h, .int .i64 l, .slice a n c] 26)
  have hb1 := belowAlloc (w.alloc (.cells #[.int .i64 h, .int .i64 l, .slice a n c] 26)) (.cells #[.int .i64 h', .int .i64 l', .slice a' n' c'] 26)
  have k0 := (Blk.new w h l a n c 26).keep hb1
  have k1 := Blk.new (w.alloc (.cells #[.int .i64 h, .int .i64 l, .slice a n c] 26)) h' l' a' n' c' 26
  have hx2 := ((hx.keep hb0).keep hb1).drewB
  have hy2 := ((hy.keep hb0).keep hb1).drewB
  have hsz : (w.alloc (.cells #[.int .i64 h, .int .i64 l, .slice a n c] 26)).heap.size = w.heap.size + 1 := by simp
  rw [hsz] at k1
  have hG : Grew w ((w.alloc (.cells #[.int .i64 h, .int .i64 l, .slice a n c] 26)).alloc (.cells #[.int .i64 h', .int .i64 l', .slice a' n' c'] 26)) := ((Grew.refl w).alloc _).alloc _
  obtain ⟨W, hW⟩ : ∃ W, W = (w.alloc (.cells #[.int .i64 h, .int .i64 l, .slice a n c] 26)).alloc (.cells #[.int .i64 h', .int .i64 l', .slice a' n' c'] 26) := ⟨_, rfl⟩
  rw [← hW] at k0 k1 hx2 hy2 hG
  have hc1 : Calls Tryd.prog 78 #[.int .i64 l, .int .i64 l'] W.drew fun e w' => e = .returned (.int .i64 (cmpI l l')) ∧ W.drew = w' := cmpInt_any l l' W.drew
  have hc2 := compare_any a' a n' n c' c ys xs W.drew hy2 hx2
  have hv : cmpK ⟨h, l, xs⟩ ⟨h', l', ys⟩ = orI (cmpI l l') (cmpL ys xs) := rfl
  rw [hv]
  generalize cmpI l l' = X at *
  generalize cmpL ys xs = Y at *
  have hc3 := cmpOr_any X Y _ _ _ (intsAt_two W.drew X Y)
  have hc4 : Calls Tryd.prog 77 #[.slice (some ⟨W.heap.size, 0, none⟩) 2 2] ((W.alloc (.cells #[.int .i64 X, .int .i64 Y] 3)).drew) fun e w' => e = .returned (.int .i64 (orI X Y)) ∧ ((W.alloc (.cells #[.int .i64 X, .int .i64 Y] 3)).drew) = w' := hc3
  generalize orI X Y = Z at *
  clear hc3
  have hG2 : Grew w (W.drew.alloc (.cells #[.int .i64 X, .int .i64 Y] 3)) := hG.drew.alloc _
  obtain ⟨⟨x0, x1, x2⟩, y0, y1, y2⟩ := k0.cells
  obtain ⟨⟨z0, z1, z2⟩, q0, q1, q2⟩ := k1.cells
  clear hb0 hb1 k0 k1 hx hy hx2 hy2 hsz hG hv
  have Hc1 := Lib.hid hc1; clear hc1
  have Hc2 := Lib.hid hc2; clear hc2
  have Hc4 := Lib.hid hc4; clear hc4
  have HG2 := Lib.hid hG2; clear hG2
  have HW := Lib.hid hW; clear hW
  go_enter Tryd.func63, Tryd.ntmps63
  go_wp2_with fail
  rw [← HW.out]
  go_region_law (first | (go_simp; with_reducible refine (Hc1.out).mono ?_; rintro e w' ⟨rfl, rfl⟩) | (go_simp; with_reducible refine (Hc2.out).mono ?_; rintro e w' ⟨rfl, rfl⟩) | (go_simp; with_reducible refine (Hc4.out).mono ?_; rintro e w' ⟨rfl, rfl⟩))
  all_goals
    go_wp2
    go_ret
    exact ⟨rfl, HG2.out⟩

theorem extract_allK {α : Type} (d : Array α) (n : Nat) (h : d.size = n) : d.extract 0 n = d := by subst h; exact Array.extract_size
theorem ofFn_mapK {α : Type} (l : List α) (m : Nat) (d : α) (hl : l.length = m + 1) : (List.ofFn (fun i : Fin (m + 1) => i)).map (fun i => l.getD i.val d) = l := by
  apply List.ext_getElem
  · simp [hl]
  · intro i h1 h2
    rw [List.getElem_map, List.getElem_ofFn, List.getD_eq_getElem?_getD, List.getElem?_eq_getElem h2]; rfl
set_option maxHeartbeats 1600000 in
theorem sortBanks_any (B E C D g m cap : Nat) (V : Bk → Value) (bs : List Bk) (w : World) (h : Row3 B E w (some ⟨g, 0, none⟩) (m + 1) cap (cellsB V bs)) (hl : bs.length = m + 1) (hV : ∀ b ∈ bs, ∃ a k c, V b = .slice a k c ∧ Own C D w a k c b.p) (hm : m ≤ 1048576) :
    Calls Tryd.prog 76 #[.slice (some ⟨g, 0, none⟩) (m + 1) cap, .func (.func 63) #[] #[]] w fun e w' =>
      e = .returned (.tuple #[]) ∧ ∃ cs, cs.Perm bs ∧ srtK cs ∧ Row3 B E w' (some ⟨g, 0, none⟩) (m + 1) cap (cellsB V cs) ∧ Chg (fun k => k = g) w w' := by
  rcases h.1.2 with ⟨hv, _⟩ | ⟨g', cap', cur, hv, hg, hh, hnc, hcm, hcs, htake⟩
  · simp at hv
  simp only [Value.slice.injEq, Option.some.injEq, Addr.mk.injEq, and_true, true_and] at hv
  obtain ⟨rfl, rfl⟩ := hv
  have hgw : g < w.heap.size := (Array.getElem?_eq_some_iff.1 hh).1
  obtain ⟨d, hd⟩ : ∃ d : Array (Fin (m + 1)), d.toList = List.ofFn (fun i : Fin (m + 1) => i) := ⟨⟨List.ofFn fun i => i⟩, rfl⟩
  have hds : d.size = m + 1 := by rw [← Array.length_toList, hd]; simp
  have hdj : ∀ j, (hj : j < m + 1) → d[j]! = ⟨j, hj⟩ := fun j hj => by
    have h1 : d.toList[j]? = some ⟨j, hj⟩ := by rw [hd, List.getElem?_ofFn, dif_pos hj]
    rw [Array.getElem?_toList, Array.getElem?_eq_getElem (by omega)] at h1
    rw [getElem!_pos d j (by omega)]
    exact Option.some.inj h1
  obtain ⟨enc, henc⟩ : ∃ enc : Fin (m + 1) → List Value, enc = fun i => cellB V (bs.getD i.val noBank) := ⟨_, rfl⟩
  have hmem : ∀ i : Fin (m + 1), bs.getD i.val noBank ∈ bs := fun i => by
    rw [List.getD_eq_getElem?_getD, List.getElem?_eq_getElem (by omega)]
    exact List.getElem_mem _
  have hrow : ∀ i : Fin (m + 1), ∃ a k c, enc i = [.int .i64 (bs.getD i.val noBank).h, .int .i64 (bs.getD i.val noBank).l, .slice a k c] ∧ Own C D w a k c (bs.getD i.val noBank).p := fun i => by
    obtain ⟨a, k, c, e, ho⟩ := hV _ (hmem i)
    exact ⟨a, k, c, by rw [henc]; show [_, _, V _] = _; rw [e], ho⟩
  have hk3 : ∀ x, (enc x).length = 3 := fun x => by rw [henc]; rfl
  have hflat : ∀ (dk : Array (Fin (m + 1))) (t : Nat), dk.size = m + 1 → t < (m + 1) * 3 → (flatK enc 3 dk)[t]! = (cellsB V (dk.toList.map fun i => bs.getD i.val noBank)).getD t undef := fun dk t hs ht => by
    rw [get_flatK enc 3 dk t (by rw [hs]; exact ht), getD_div _ _ t (by rw [List.length_map, Array.length_toList, hs]; exact ht)]
    have e1 : (dk.toList.map fun i => bs.getD i.val noBank).getD (t / 3) noBank = bs.getD (dk[t / 3]!).val noBank := by
      rw [List.getD_eq_getElem?_getD, List.getElem?_map, List.getElem?_eq_getElem (by rw [Array.length_toList, hs]; omega), getElem!_pos dk (t / 3) (by omega)]
      rfl
    rw [e1, henc]
    show (cellB V _)[t % 3]! = _
    have h3 : t % 3 < 3 := by omega
    generalize t % 3 = r at *
    match r, h3 with
    | 0, _ => rfl
    | 1, _ => rfl
    | 2, _ => rfl
    | r + 3, h => omega
  have hdall : (d.toList.map fun i => bs.getD i.val noBank) = bs := by rw [hd]; exact ofFn_mapK bs m noBank hl
  have hH : HoldsK enc 3 w g 0 d := by
    intro j hj
    rw [size_flatK, hds] at hj
    refine ⟨?_, ?_⟩
    · simp only [Nat.zero_add]
      rw [h.cell j hj, hflat d j hds hj, hdall]
      rfl
    · simp only [Nat.zero_add]; exact World.ownsRow.frozenAt h.1 j
  have h1c : ∀ x, ∀ v ∈ enc x, v.oneCell' = true := fun x v hv => by
    obtain ⟨a, k, c, e, _⟩ := hrow x
    rw [e] at hv
    simp only [List.mem_cons, List.mem_nil_iff, or_false] at hv
    rcases hv with rfl | rfl | rfl <;> rfl
  have eg : ∀ args w, (callFunc 63 args).run Tryd.prog w = .ok (.enter 63 args) w := enters_of Tryd.func63 (by kernel_rfl) rfl
  have hchg : ∀ (q : Nat) (os : Array Obj) (dk : Array (Fin (m + 1))), Chg (fun k => k = g) w (sortWorldK enc 3 w g 0 q dk os) := fun q os dk => by
    unfold sortWorldK putRowK
    refine ⟨rfl, rfl, rfl, by simp [ahead], fun k hk hs => ?_⟩
    rw [heap_grow_old _ _ (by simp [ahead]; exact hk)]
    have : ¬ g = k := fun e => hs e.symm
    simp [putRow, mapBlock, ahead, Array.getElem?_modify, this]
  have hkeep : ∀ {w' : World} {a : Option Addr} {k c : Nat} {x : List Int}, Own C D w a k c x → Chg (fun k => k = g) w w' → Own C D w' a k c x := fun ho hc =>
    ho.chg hc (fun q h1 h2 h3 h4 => h.apartInt ho h3 (by simp [Value.ownBlock, h4]))
  have hcmp : CmpLays Tryd.prog 63 #[] enc 3 (cfK bs m) g 0 d.size w := fun q os dk _ x y => by
    obtain ⟨a, k, c, e, ho⟩ := hrow x
    obtain ⟨a', k', c', e', ho'⟩ := hrow y
    have hc := hchg q os dk
    rw [e, e']
    exact (compareBanks_any _ _ _ _ a a' k k' c c' _ _ _ (hkeep ho hc).at (hkeep ho' hc).at).mono fun _ _ ⟨h1, h2⟩ => ⟨h1, h2⟩
  have hS := AnyQ.slices_SortFunc Tryd.sortB 3 Tryd.isAgg26 Tryd.sizeOf26 enc hk3 h1c (cfK bs m) (swoK bs m) 63 #[] g 0 cap d w eg hcmp hH hgw (by rw [hds]; omega)
  change Calls Tryd.prog 76 _ _ _ at hS
  rw [hds] at hS
  refine hS.mono fun e w' ⟨he, d', q, os, hp, hs, hw⟩ => ⟨he, ?_⟩
  obtain ⟨hp1, _, hp3⟩ := hp
  rw [hds] at hp1
  have hperm : d'.toList.Perm (List.ofFn fun i : Fin (m + 1) => i) := by
    have e1 : d'.extract 0 (m + 1) = d' := extract_allK d' _ hp1
    have e2 : d.extract 0 (m + 1) = d := extract_allK d _ hds
    rw [e1, e2, hd] at hp3
    exact hp3
  have hpx : (d'.toList.map (fun i => bs.getD i.val noBank)).Perm bs := by
    have := hperm.map (fun i : Fin (m + 1) => bs.getD i.val noBank)
    rw [ofFn_mapK bs m noBank hl] at this; exact this
  have hsr : srtK (d'.toList.map (fun i => bs.getD i.val noBank)) := by
    unfold srtK
    rw [List.pairwise_map, List.pairwise_iff_getElem]
    intro i j hi hj hij
    have hi' : i < m + 1 := by rw [Array.length_toList, hp1] at hi; exact hi
    have hj' : j < m + 1 := by rw [Array.length_toList, hp1] at hj; exact hj
    have := hs i j (Nat.zero_le _) hij (by omega)
    rw [ltK, getElem!_pos d' j (by omega), getElem!_pos d' i (by omega)] at this
    simpa using this
  have hc := hchg q os d'
  rw [← hw] at hc
  refine ⟨_, hpx, hsr, ⟨⟨by rw [cellsB_length, List.length_map, Array.length_toList, hp1], .inr ⟨g, cap, putCells id 0 (flatK enc 3 d') cur, rfl, hg, ?_, hnc, hcm, by simp [putCells, hcs], ?_⟩⟩, h.2⟩, hc⟩
  · rw [hw]
    unfold sortWorldK putRowK
    rw [heap_grow_old _ _ (by simp [ahead]; exact hgw)]
    simp [putRow, mapBlock, ahead, Array.getElem?_modify, hh, onCells]
  · apply List.ext_getElem
    · simp [putCells, hp1, hcs, cellsB_length]
      omega
    · intro i h1 h2
      have hi : i < (m + 1) * 3 := by rw [cellsB_length, List.length_map, Array.length_toList, hp1] at h2; exact h2
      have e := hflat d' i hp1 hi
      rw [List.getD_eq_getElem?_getD, List.getElem?_eq_getElem h2] at e
      simp only [Option.getD_some] at e
      rw [← e]
      simp [putCells, hp1, hi]
end Go.Proofs.YtnebfojnbjbogaaDoor
