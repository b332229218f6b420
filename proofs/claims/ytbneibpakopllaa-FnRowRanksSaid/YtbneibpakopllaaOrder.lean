/- slices.Concat, inOrder, and a step of piles by the program. No condition but sizes. -/
import Derived.Test.YtbneibpakopllaaSort
import Derived.Test.YtbneibpakopllaaPileF
namespace Go.Proofs.Ytbneibpakopllaa
open Go.RowKit Go.Shelf
set_option linter.unusedVariables false
set_option maxRecDepth 20000
set_option linter.unusedSimpArgs false

set_option maxHeartbeats 400000 in
theorem grow_any (n : Nat) (w : World) (hn : n ≤ 1048576) :
    Calls Try.prog 155 #[.slice none 0 0, .int .i64 n] w fun e w' => ∃ ao cap, e = .returned (.slice ao 0 cap) ∧ Own w.heap.size w'.heap.size w' ao 0 cap [] ∧ Below w.heap.size w w' := by
  by_cases hz : n = 0
  · subst hz
    go_enter Try.func155, Try.ntmps155
    go_wp2
    go_ret
    exact ⟨none, 0, rfl, Own.nil _ _ _, Below.refl _ _⟩
  · obtain ⟨i0, hi, hz0, hz1, hz2⟩ := info_parts Try.infoInt
    have := Any8.slices_Grow_grow Try.growL i0 _ hi hz0 (by omega) none 0 0 n [] w (Nat.le_refl _) (by omega) (by rw [hz2]; omega) (by omega) (by simp) (fun _ => rfl) (fun a ha => by cases ha)
    change Calls Try.prog 155 _ _ _ at this
    refine this.mono fun e w' ⟨he, hw⟩ => ⟨_, _, he, ?_, ?_⟩
    · rw [hw]
      change Own w.heap.size (w.drew.alloc _).heap.size (w.drew.alloc _) (some ⟨w.drew.heap.size, 0, none⟩) 0 _ []
      have hcap := grownCap_le_maxLen w (0 + n) 0 3 (by unfold maxLen; omega)
      have hge := grownCap_ge w (0 + n) 0 3
      refine Own.of (World.ownsRow_made w.drew _ _ (Nat.le_refl _) hcap ?_)
      simp [Builtin.zeroCells, Value.cells]
      change n + (grownCap w n 0 3 - n) = grownCap w n 0 3
      simp only [Nat.zero_add] at hge
      omega
    · rw [hw]; exact (Below.refl _ _).drew.alloc (Nat.le_refl _) _

def catTo (xss : List (List Int)) (k : Nat) : List Int := (xss.take k).flatten
theorem catTo_succ (xss : List (List Int)) (k n : Nat) (x : List Int) (hk : k < n) (hl : xss.length = n) (hx : xss.getD k [] = x) : catTo xss (k + 1) = catTo xss k ++ x := by
  unfold catTo
  rw [take_snocR hx hk hl, List.flatten_append]
  simp
theorem catTo_all (xss : List (List Int)) (n : Nat) (hl : xss.length = n) : catTo xss n = xss.flatten := by unfold catTo; rw [take_allR hl]
theorem catTo_le (xss : List (List Int)) (k : Nat) : (catTo xss k).length ≤ xss.flatten.length := by
  unfold catTo
  have := congrArg List.flatten (List.take_append_drop k xss)
  rw [List.flatten_append] at this
  have := congrArg List.length this
  simp at this ⊢
  omega

set_option maxHeartbeats 800000 in
theorem concat_any (ao : Option Addr) (n cap : Nat) (xss : List (List Int)) (w : World) (h : RowsAt w ao n cap xss) (hn : xss.flatten.length ≤ 1048576) :
    Calls Try.prog 145 #[.slice ao n cap] w fun e w' => ∃ ao' n' cap', e = .returned (.slice ao' n' cap') ∧ Own w.heap.size w'.heap.size w' ao' n' cap' xss.flatten ∧ Below w.heap.size w w' := by
  have hnI := h.lenInt
  have hl := Lib.hid h.length
  go_enter Try.func145, Try.ntmps145
  go_wp2
  go_loop [3, 11] (fun s i => ∃ k : Nat, k ≤ n ∧ i = .int .i64 k ∧ s = .int .i64 ((catTo xss k).length : Nat)) (fun _ i => n - (intOf i).toNat)
  case atStart => exact ⟨0, Nat.zero_le _, rfl, rfl⟩
  case round =>
    obtain ⟨k, hk, rfl, rfl⟩ := hrel
    have hle := catTo_le xss k
    have hle1 := catTo_le xss (k + 1)
    by_cases hlt : k < n
    · obtain ⟨b, oo, rfl, hb, hc⟩ := h.cell k hlt
      obtain ⟨a, m, c, hck, hi⟩ := hc k hlt
      generalize hx : xss.getD k [] = x at hi
      have e := catTo_succ xss k n x hlt hl.out hx
      have hm := hi.length
      rw [e, List.length_append, hm] at hle1
      generalize hp : (catTo xss k).length = p at *
      have hq : (catTo xss (k + 1)).length = p + m := by rw [e, List.length_append, hp, hm]
      have Hx := Lib.hid hx; clear hx
      have E := Lib.hid e; clear e
      have Hm := Lib.hid hm; clear hm
      have Hp := Lib.hid hp; clear hp
      have Hq := Lib.hid hq; clear hq
      clear hc
      go_wp2
      go_round
      case rel => exact ⟨k + 1, by omega, by go_num, by rw [Hq.out]; go_num⟩
      case measure => simp [intOf]; omega
    · obtain rfl : n = k := by omega
      have hcon := grow_any (catTo xss n).length w (by omega)
      have hge : ¬ (((catTo xss n).length : Int) < 0) := by omega
      have Hcon := Lib.hid hcon; clear hcon
      go_wp2_with (go_at_call 155; refine (Hcon.out).mono ?_; rintro e w1 ⟨ao1, cap1, rfl, ho1, hb1⟩)
      go_loopw [6, 27] (fun v i wr => ∃ (k : Nat) (a : Option Addr) (m c : Nat), k ≤ n ∧ i = .int .i64 k ∧ v = .slice a m c ∧ Own w.heap.size wr.heap.size wr a m c (catTo xss k) ∧ Below w.heap.size w wr) (fun _ i _ => n - (intOf i).toNat)
      case atStart => exact ⟨0, ao1, 0, cap1, Nat.zero_le _, rfl, rfl, ho1, hb1⟩
      case round =>
        obtain ⟨j, a1, m1, c1, hj, rfl, rfl, hown, hb⟩ := hrel
        clear ho1 hb1
        by_cases hlt2 : j < n
        · have h1 := h.keep hb
          obtain ⟨b, oo, rfl, hbl, hc⟩ := h1.cell j hlt2
          obtain ⟨a, m, c, hck, hi⟩ := hc j hlt2
          generalize hx : xss.getD j [] = x at hi
          have e := catTo_succ xss j n x hlt2 hl.out hx
          have hle2 := catTo_le xss (j + 1)
          have hm := hi.length
          have hm1 := hown.length
          rw [e, List.length_append, hm, hm1] at hle2
          have Hx := Lib.hid hx; clear hx
          have E := Lib.hid e; clear e
          have Hm := Lib.hid hm; clear hm
          have Hm1 := Lib.hid hm1; clear hm1
          clear hc
          go_wp2_with (at_builtin; refine wpList_cat wr rfl _ _ rfl w.heap.size wr.heap.size a1 m1 c1 _ rfl hown a m c x rfl hi (by omega) hb.size ?_)
          intro ao2 cap2 w2 ho2 hc2
          have hb2 := hown.chgBelow hc2 hb.size
          clear hown
          go_wp2
          go_roundw
          case rel => exact ⟨j + 1, ao2, _, cap2, by omega, by go_num, rfl, by rw [E.out]; exact ho2, hb.trans hb2⟩
          case measure => simp [intOf]; omega
        · obtain rfl : n = j := by omega
          rw [catTo_all xss n hl.out] at hown
          go_wp2
          go_ret
          exact ⟨_, _, _, rfl, hown, hb⟩

set_option maxHeartbeats 800000 in
theorem inOrder_any (ao : Option Addr) (n cap : Nat) (xss : List (List Int)) (w : World) (h : RowsAt w ao n cap xss) (hn : xss.flatten.length ≤ 1048576) (hx : ∀ x ∈ xss.flatten, 0 ≤ x ∧ x < 64) :
    Calls Try.prog 118 #[.slice ao n cap] w fun e w' => ∃ ao' n' cap', e = .returned (.slice ao' n' cap') ∧ Own w.heap.size w'.heap.size w' ao' n' cap' (sortD xss.flatten) ∧ Below w.heap.size w w' := by
  go_enter Try.func118, Try.ntmps118
  go_wp2_with fail
  refine (concat_any ao n cap xss w h hn).mono ?_
  rintro e w1 ⟨a1, m1, c1, rfl, ho1, hb1⟩
  have hl := ho1.length
  rcases ho1.cases with ⟨rfl, rfl, rfl, hnil⟩ | ⟨g, rfl, hg, hgE, hgw⟩
  · have hcon := AnyF.slices_SortFunc_none (P := Try.prog) (ρ := Try.sortL_ren) { Try.sortL with } none 0 (.func (.func 147) #[] #[]) w1
    change Calls Try.prog 146 _ _ _ at hcon
    have Hcon := Lib.hid hcon; clear hcon
    have Hnil := Lib.hid hnil; clear hnil
    have Hl := Lib.hid hl; clear hl
    go_wp2_with (go_at_call 146; refine (Hcon.out).mono ?_; rintro e w2 ⟨rfl, rfl⟩)
    go_ret
    rw [Hnil.out, sortD_nil]
    exact ⟨none, 0, 0, rfl, Own.nil _ _ _, hb1⟩
  · have hcon := sortFunc_any w.heap.size w1.heap.size g m1 c1 _ w1 ho1 hx (by omega)
    have Hcon := Lib.hid hcon; clear hcon
    have Hl := Lib.hid hl; clear hl
    go_wp2_with (go_at_call 146; refine (Hcon.out).mono ?_; rintro e w2 ⟨rfl, ys, hoy, hp, hsrt, hc2⟩)
    go_ret
    rw [← sortD_unique hsrt hp]
    exact ⟨_, _, _, rfl, hoy.mono (Nat.le_refl _) hc2.size, hb1.trans (hc2.below hb1.size (fun k hk => by omega))⟩

theorem intsAt_one (w : World) (x : Int) : IntsAt (w.alloc (.cells #[.int .i64 x] 3)) (some ⟨w.heap.size, 0, none⟩) 1 1 [x] :=
  ⟨rfl, Nat.le_refl _, by unfold maxLen; omega, (fun e => by cases e), fun j hj => ⟨_, _, rfl, by simp, fun i hi => by
    obtain rfl : i = 0 := by omega
    rw [World.cell?_alloc_at _ _ _ _ rfl]; rfl⟩⟩
theorem rowsAt_pair {w : World} {a m c xs a2 m2 c2 ys} (h1 : IntsAt w a m c xs) (h2 : IntsAt w a2 m2 c2 ys) :
    RowsAt (w.alloc (.cells #[.slice a m c, .slice a2 m2 c2] 22)) (some ⟨w.heap.size, 0, none⟩) 2 2 [xs, ys] :=
  ⟨rfl, Nat.le_refl _, by unfold maxLen; omega, (fun e => by cases e), fun j hj => ⟨_, _, rfl, by simp, fun i hi => by
    have hb := belowAlloc w (.cells #[.slice a m c, .slice a2 m2 c2] 22)
    have hi' : i = 0 ∨ i = 1 := by omega
    rcases hi' with rfl | rfl
    · exact ⟨a, m, c, by rw [World.cell?_alloc_at _ _ _ _ rfl]; rfl, h1.keep hb⟩
    · exact ⟨a2, m2, c2, by rw [World.cell?_alloc_at _ _ _ _ rfl]; rfl, h2.keep hb⟩⟩⟩

theorem rowsAt_one {w : World} {a m c xs} (h1 : IntsAt w a m c xs) :
    RowsAt (w.alloc (.cells #[.slice a m c] 22)) (some ⟨w.heap.size, 0, none⟩) 1 1 [xs] :=
  ⟨rfl, Nat.le_refl _, by unfold maxLen; omega, (fun e => by cases e), fun j hj => ⟨_, _, rfl, by simp, fun i hi => by
    have hb := belowAlloc w (.cells #[.slice a m c] 22)
    obtain rfl : i = 0 := by omega
    exact ⟨a, m, c, by rw [World.cell?_alloc_at _ _ _ _ rfl]; rfl, h1.keep hb⟩⟩⟩

/-- a row of one number that the call made -/
theorem Own.single (w : World) (x : Int) : Own w.heap.size (w.alloc (.cells #[.int .i64 x] 3)).heap.size (w.alloc (.cells #[.int .i64 x] 3)) (some ⟨w.heap.size, 0, none⟩) 1 1 [x] :=
  Own.of (World.ownsRow_lit w #[.int .i64 x] 1 (Nat.le_refl _) (by unfold maxLen; omega) rfl)

set_option maxHeartbeats 1600000 in
theorem stepOfRow_any (ao : Option Addr) (n cap : Nat) (xs : List Int) (w : World) (h : IntsAt w ao n cap xs) (hg : RowOk xs) :
    Calls Try.prog 150 #[.slice ao n cap] w fun e w' => ∃ ao' n' cap', e = .returned (.slice ao' n' cap') ∧ Own w.heap.size w'.heap.size w' ao' n' cap' (rowStepL xs) ∧ Below w.heap.size w w' := by
  have hlen := hg.len
  have hl0 := h.length
  by_cases hz : n = 0
  · have hxs : xs = [] := List.eq_nil_of_length_eq_zero (by omega)
    subst hz
    subst hxs
    go_enter Try.func150, Try.ntmps150
    go_wp2
    go_ret
    exact ⟨_, _, _, rfl, Own.empty w, belowAlloc w _⟩
  · have hn : (n : Int) ≤ 28 := by omega
    have hne : ((n : Int) == 0) = false := by simp; omega
    have hxs : xs ≠ [] := fun e => hz (by rw [← hl0, e]; rfl)
    have hsg := Own.single w (n : Int)
    have hba := belowAlloc w (.cells #[.int .i64 (n : Int)] 3)
    have Hxs := Lib.hid hxs; clear hxs
    have Hg := Lib.hid hg; clear hg
    have Hl0 := Lib.hid hl0; clear hl0
    have Hsg := Lib.hid hsg; clear hsg
    have Hba := Lib.hid hba; clear hba
    go_enter Try.func150, Try.ntmps150
    go_wp2
    go_loopw [3, 15] (fun v i wr => ∃ (k : Nat) (a : Option Addr) (m c : Nat), k ≤ n ∧ i = .int .i64 k ∧ v = .slice a m c ∧ Own w.heap.size wr.heap.size wr a m c ((n : Int) :: lowL (xs.take k)) ∧ Below w.heap.size w wr) (fun _ i _ => n - (intOf i).toNat)
    case atStart => exact ⟨0, _, _, _, Nat.zero_le _, rfl, rfl, Hsg.out, Hba.out⟩
    case round =>
      obtain ⟨k, a, m, c, hk, rfl, rfl, hown, hb⟩ := hrel
      have hm := hown.length
      have hml := lowL_length (xs.take k)
      have htl : (xs.take k).length ≤ 28 := by rw [List.length_take]; omega
      rw [List.length_cons] at hm
      have Hm := Lib.hid hm; clear hm
      by_cases hlt : k < n
      · have h1 := h.keep hb
        obtain ⟨b, oo, rfl, hbl, hc⟩ := h1.cell k hlt
        have hck := hc k hlt
        clear hc h1
        generalize hx : xs.getD k 0 = x at hck
        have hxm := Hg.out.mem (getD_mem hx hlt Hl0.out)
        have e := lowL_snoc (xs.take k) x
        rw [← take_snoc hx hlt Hl0.out] at e
        have hm28 : m ≤ 29 := by have := Hm.out; omega
        have Hx := Lib.hid hx; clear hx
        by_cases hx1 : 1 < x
        · rw [if_pos hx1] at e
          have E := Lib.hid e; clear e
          go_wp2_with (at_builtin; refine wpList_push wr rfl _ _ rfl w.heap.size wr.heap.size a m c _ rfl hown _ rfl (by omega) hb.size ?_)
          intro ao2 cap2 w2 ho2 hc2
          have hb2 := hown.chgBelow hc2 hb.size
          clear hown
          go_wp2
          go_roundw
          case rel => exact ⟨k + 1, ao2, _, cap2, by omega, by go_num, rfl, by rw [E.out]; exact ho2, hb.trans hb2⟩
          case measure => simp [intOf]; omega
        · rw [if_neg hx1, List.append_nil] at e
          have E := Lib.hid e; clear e
          go_wp2
          go_roundw
          case rel => exact ⟨k + 1, a, m, c, by omega, by go_num, rfl, by rw [E.out]; exact hown, hb⟩
          case measure => simp [intOf]; omega
      · obtain rfl : n = k := by omega
        rw [take_all Hl0.out] at hown
        go_wp2
        go_ret
        refine ⟨_, _, _, rfl, ?_, hb⟩
        rw [rowStepL_cons Hxs.out, Hl0.out]
        exact hown

set_option maxHeartbeats 1600000 in
theorem stepOf_any (ao : Option Addr) (n cap : Nat) (xs : List Int) (w : World) (h : IntsAt w ao n cap xs) (hg : Good xs) :
    Calls Try.prog 123 #[.slice ao n cap] w fun e w' => ∃ ao' n' cap', e = .returned (.slice ao' n' cap') ∧ Own w.heap.size w'.heap.size w' ao' n' cap' (stepL xs) ∧ Below w.heap.size w w' := by
  have hcon := stepOfRow_any ao n cap xs w h hg.row
  have hR := rowStepL_row hg.row
  have hE := stepL_row xs
  have Hcon := Lib.hid hcon; clear hcon
  have Hg := Lib.hid hg; clear hg
  have HR := Lib.hid hR; clear hR
  have HE := Lib.hid hE; clear hE
  go_enter Try.func123, Try.ntmps123
  go_wp2_with fail
  with_reducible refine (Hcon.out).mono ?_
  rintro e w1 ⟨a1, n1, c1, rfl, ho1, hb1⟩
  have hr := rowsAt_one ho1.at
  have hcon2 := inOrder_any _ _ _ _ _ hr (by simp only [List.flatten_cons, List.flatten_nil, List.append_nil]; have := HR.out.len; omega) (by
    intro x hx
    simp only [List.flatten_cons, List.flatten_nil, List.append_nil] at hx
    have := HR.out.mem hx
    omega)
  simp only [List.flatten_cons, List.flatten_nil, List.append_nil] at hcon2
  rw [← HE.out] at hcon2
  have Hcon2 := Lib.hid hcon2; clear hcon2
  go_wp2_with fail
  refine (Hcon2.out).mono ?_
  rintro e w2 ⟨a2, m2, c2, rfl, ho2, hb2⟩
  go_wp2
  go_ret
  have hs := hb1.size
  exact ⟨_, _, _, rfl, ho2.mono (Nat.le_trans hs (by simp)) (Nat.le_refl _), belowTrans (hb1.alloc hs _) hb2 (Nat.le_refl _)⟩
end Go.Proofs.Ytbneibpakopllaa
