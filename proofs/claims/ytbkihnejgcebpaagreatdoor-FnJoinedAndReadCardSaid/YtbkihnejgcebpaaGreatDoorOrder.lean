/- slices.Concat, inOrder, and a step of piles by the program. No condition but sizes. -/
import Derived.Test.YtbkihnejgcebpaaGreatDoorSort
import Derived.Test.YtbkihnejgcebpaaGreatDoorPileF
namespace Go.Proofs.YtbkihnejgcebpaaGreatDoor
open Go.RowKit Go.Shelf
set_option linter.unusedVariables false
set_option maxRecDepth 20000
set_option linter.unusedSimpArgs false

set_option maxHeartbeats 400000 in
theorem grow_any (n : Nat) (w : World) (hn : n ≤ 1048576) :
    Calls Tryz.prog 149 #[.slice none 0 0, .int .i64 n] w fun e w' => ∃ ao cap, e = .returned (.slice ao 0 cap) ∧ Own w.heap.size w'.heap.size w' ao 0 cap [] ∧ Below w.heap.size w w' := by
  by_cases hz : n = 0
  · subst hz
    go_enter Tryz.func149, Tryz.ntmps149
    go_wp2
    go_ret
    exact ⟨none, 0, rfl, Own.nil _ _ _, Below.refl _ _⟩
  · obtain ⟨i0, hi, hz0, hz1, hz2⟩ := info_parts Tryz.infoInt
    have := Any8.slices_Grow_grow Tryz.growL i0 _ hi hz0 (by omega) none 0 0 n [] w (Nat.le_refl _) (by omega) (by rw [hz2]; omega) (by omega) (by simp) (fun _ => rfl) (fun a ha => by cases ha)
    change Calls Tryz.prog 149 _ _ _ at this
    refine this.mono fun e w' ⟨he, hw⟩ => ⟨_, _, he, ?_, ?_⟩
    · rw [hw]
      change Own w.heap.size (w.drew.alloc _).heap.size (w.drew.alloc _) (some ⟨w.drew.heap.size, 0, none⟩) 0 _ []
      have hcap := grownCap_le_maxLen w (0 + n) 0 3 (by unfold maxLen; omega)
      have hge := grownCap_ge w (0 + n) 0 3
      refine Own.of (World.ownsRow_made w.drew _ _ (Nat.le_refl _) hcap ?_)
      simp [Builtin.zeroCells, Value.cells]
      change n + (grownCap w n 0 3 - n) = grownCap w n 0 3
      simp only [Nat.zero_add] at hge
      omega
    · rw [hw]; exact (Below.refl _ _).drew.alloc (Nat.le_refl _) _

def catTo (xss : List (List Int)) (k : Nat) : List Int := (xss.take k).flatten
theorem catTo_succ (xss : List (List Int)) (k n : Nat) (x : List Int) (hk : k < n) (hl : xss.length = n) (hx : xss.getD k [] = x) : catTo xss (k + 1) = catTo xss k ++ x := by
  unfold catTo
  rw [take_snocR hx hk hl, List.flatten_append]
  simp
theorem catTo_all (xss : List (List Int)) (n : Nat) (hl : xss.length = n) : catTo xss n = xss.flatten := by unfold catTo; rw [take_allR hl]
theorem catTo_le (xss : List (List Int)) (k : Nat) : (catTo xss k).length ≤ xss.flatten.length := by
  unfold catTo
  have := congrArg List.flatten (List.take_append_drop k xss)
  rw [List.flatten_append] at this
  have := congrArg List.length this
  simp at this ⊢
  omega

set_option maxHeartbeats 800000 in
theorem concat_any (ao : Option Addr) (n cap : Nat) (xss : List (List Int)) (w : World) (h : RowsAt w ao n cap xss) (hn : xss.flatten.length ≤ 1048576) :
    Calls Tryz.prog 115 #[.slice ao n cap] w fun e w' => ∃ ao' n' cap', e = .returned (.slice ao' n' cap') ∧ Own w.heap.size w'.heap.size w' ao' n' cap' xss.flatten ∧ Below w.heap.size w w' := by
  have hnI := h.lenInt
  have hl := Lib.hid h.length
  go_enter Tryz.func115, Tryz.ntmps115
  go_wp2
  go_loop [3, 11] (fun s i => ∃ k : Nat, k ≤ n ∧ i = .int .i64 k ∧ s = .int .i64 ((catTo xss k).length : Nat)) (fun _ i => n - (intOf i).toNat)
  case atStart => exact ⟨0, Nat.zero_le _, rfl, rfl⟩
  case round =>
    obtain ⟨k, hk, rfl, rfl⟩ := hrel
    have hle := catTo_le xss k
    have hle1 := catTo_le xss (k + 1)
    by_cases hlt : k < n
    · obtain ⟨b, oo, rfl, hb, hc⟩ := h.cell k hlt
      obtain ⟨a, m, c, hck, hi⟩ := hc k hlt
      generalize hx : xss.getD k [] = x at hi
      have e := catTo_succ xss k n x hlt hl.out hx
      have hm := hi.length
      rw [e, List.length_append, hm] at hle1
      generalize hp : (catTo xss k).length = p at *
      have hq : (catTo xss (k + 1)).length = p + m := by rw [e, List.length_append, hp, hm]
      have Hx := Lib.hid hx; clear hx
      have E := Lib.hid e; clear e
      have Hm := Lib.hid hm; clear hm
      have Hp := Lib.hid hp; clear hp
      have Hq := Lib.hid hq; clear hq
      clear hc
      go_wp2
      go_round
      case rel => exact ⟨k + 1, by omega, by go_num, by rw [Hq.out]; go_num⟩
      case measure => simp [intOf]; omega
    · obtain rfl : n = k := by omega
      have hcon := grow_any (catTo xss n).length w (by omega)
      have hge : ¬ (((catTo xss n).length : Int) < 0) := by omega
      have Hcon := Lib.hid hcon; clear hcon
      go_wp2_with (go_at_call 149; refine (Hcon.out).mono ?_; rintro e w1 ⟨ao1, cap1, rfl, ho1, hb1⟩)
      go_loopw [6, 27] (fun v i wr => ∃ (k : Nat) (a : Option Addr) (m c : Nat), k ≤ n ∧ i = .int .i64 k ∧ v = .slice a m c ∧ Own w.heap.size wr.heap.size wr a m c (catTo xss k) ∧ Below w.heap.size w wr) (fun _ i _ => n - (intOf i).toNat)
      case atStart => exact ⟨0, ao1, 0, cap1, Nat.zero_le _, rfl, rfl, ho1, hb1⟩
      case round =>
        obtain ⟨j, a1, m1, c1, hj, rfl, rfl, hown, hb⟩ := hrel
        clear ho1 hb1
        by_cases hlt2 : j < n
        · have h1 := h.keep hb
          obtain ⟨b, oo, rfl, hbl, hc⟩ := h1.cell j hlt2
          obtain ⟨a, m, c, hck, hi⟩ := hc j hlt2
          generalize hx : xss.getD j [] = x at hi
          have e := catTo_succ xss j n x hlt2 hl.out hx
          have hle2 := catTo_le xss (j + 1)
          have hm := hi.length
          have hm1 := hown.length
          rw [e, List.length_append, hm, hm1] at hle2
          have Hx := Lib.hid hx; clear hx
          have E := Lib.hid e; clear e
          have Hm := Lib.hid hm; clear hm
          have Hm1 := Lib.hid hm1; clear hm1
          clear hc
          go_wp2_with (at_builtin; refine wpList_cat wr rfl _ _ rfl w.heap.size wr.heap.size a1 m1 c1 _ rfl hown a m c x rfl hi (by omega) hb.size ?_)
          intro ao2 cap2 w2 ho2 hc2
          have hb2 := hown.chgBelow hc2 hb.size
          clear hown
          go_wp2
          go_roundw
          case rel => exact ⟨j + 1, ao2, _, cap2, by omega, by go_num, rfl, by rw [E.out]; exact ho2, hb.trans hb2⟩
          case measure => simp [intOf]; omega
        · obtain rfl : n = j := by omega
          rw [catTo_all xss n hl.out] at hown
          go_wp2
          go_ret
          exact ⟨_, _, _, rfl, hown, hb⟩

set_option maxHeartbeats 800000 in
theorem inOrder_any (ao : Option Addr) (n cap : Nat) (xss : List (List Int)) (w : World) (h : RowsAt w ao n cap xss) (hn : xss.flatten.length ≤ 1048576) (hx : ∀ x ∈ xss.flatten, 0 ≤ x ∧ x < 64) :
    Calls Tryz.prog 59 #[.slice ao n cap] w fun e w' => ∃ ao' n' cap', e = .returned (.slice ao' n' cap') ∧ Own w.heap.size w'.heap.size w' ao' n' cap' (sortD xss.flatten) ∧ Below w.heap.size w w' := by
  go_enter Tryz.func59, Tryz.ntmps59
  go_wp2_with fail
  refine (concat_any ao n cap xss w h hn).mono ?_
  rintro e w1 ⟨a1, m1, c1, rfl, ho1, hb1⟩
  have hl := ho1.length
  rcases ho1.cases with ⟨rfl, rfl, rfl, hnil⟩ | ⟨g, rfl, hg, hgE, hgw⟩
  · have hcon := AnyF.slices_SortFunc_none (P := Tryz.prog) (ρ := Tryz.sortL_ren) { Tryz.sortL with } none 0 (.func (.func 117) #[] #[]) w1
    change Calls Tryz.prog 116 _ _ _ at hcon
    have Hcon := Lib.hid hcon; clear hcon
    have Hnil := Lib.hid hnil; clear hnil
    have Hl := Lib.hid hl; clear hl
    go_wp2_with (go_at_call 116; refine (Hcon.out).mono ?_; rintro e w2 ⟨rfl, rfl⟩)
    go_ret
    rw [Hnil.out, sortD_nil]
    exact ⟨none, 0, 0, rfl, Own.nil _ _ _, hb1⟩
  · have hcon := sortFunc_any w.heap.size w1.heap.size g m1 c1 _ w1 ho1 hx (by omega)
    have Hcon := Lib.hid hcon; clear hcon
    have Hl := Lib.hid hl; clear hl
    go_wp2_with (go_at_call 116; refine (Hcon.out).mono ?_; rintro e w2 ⟨rfl, ys, hoy, hp, hsrt, hc2⟩)
    go_ret
    rw [← sortD_unique hsrt hp]
    exact ⟨_, _, _, rfl, hoy.mono (Nat.le_refl _) hc2.size, hb1.trans (hc2.below hb1.size (fun k hk => by omega))⟩

theorem intsAt_one (w : World) (x : Int) : IntsAt (w.alloc (.cells #[.int .i64 x] 3)) (some ⟨w.heap.size, 0, none⟩) 1 1 [x] :=
  ⟨rfl, Nat.le_refl _, by unfold maxLen; omega, (fun e => by cases e), fun j hj => ⟨_, _, rfl, by simp, fun i hi => by
    obtain rfl : i = 0 := by omega
    rw [World.cell?_alloc_at _ _ _ _ rfl]; rfl⟩⟩
theorem rowsAt_pair {w : World} {a m c xs a2 m2 c2 ys} (h1 : IntsAt w a m c xs) (h2 : IntsAt w a2 m2 c2 ys) :
    RowsAt (w.alloc (.cells #[.slice a m c, .slice a2 m2 c2] 24)) (some ⟨w.heap.size, 0, none⟩) 2 2 [xs, ys] :=
  ⟨rfl, Nat.le_refl _, by unfold maxLen; omega, (fun e => by cases e), fun j hj => ⟨_, _, rfl, by simp, fun i hi => by
    have hb := belowAlloc w (.cells #[.slice a m c, .slice a2 m2 c2] 24)
    have hi' : i = 0 ∨ i = 1 := by omega
    rcases hi' with rfl | rfl
    · exact ⟨a, m, c, by rw [World.cell?_alloc_at _ _ _ _ rfl]; rfl, h1.keep hb⟩
    · exact ⟨a2, m2, c2, by rw [World.cell?_alloc_at _ _ _ _ rfl]; rfl, h2.keep hb⟩⟩⟩

theorem rowsAt_one {w : World} {a m c xs} (h1 : IntsAt w a m c xs) :
    RowsAt (w.alloc (.cells #[.slice a m c] 24)) (some ⟨w.heap.size, 0, none⟩) 1 1 [xs] :=
  ⟨rfl, Nat.le_refl _, by unfold maxLen; omega, (fun e => by cases e), fun j hj => ⟨_, _, rfl, by simp, fun i hi => by
    have hb := belowAlloc w (.cells #[.slice a m c] 24)
    obtain rfl : i = 0 := by omega
    exact ⟨a, m, c, by rw [World.cell?_alloc_at _ _ _ _ rfl]; rfl, h1.keep hb⟩⟩⟩

/-- a row of one number that the call made -/
theorem Own.single (w : World) (x : Int) : Own w.heap.size (w.alloc (.cells #[.int .i64 x] 3)).heap.size (w.alloc (.cells #[.int .i64 x] 3)) (some ⟨w.heap.size, 0, none⟩) 1 1 [x] :=
  Own.of (World.ownsRow_lit w #[.int .i64 x] 1 (Nat.le_refl _) (by unfold maxLen; omega) rfl)

end Go.Proofs.YtbkihnejgcebpaaGreatDoor
