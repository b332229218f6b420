/- Several texts in one: Order, Put, Step, Steps, Past. No condition. -/
import Derived.Test.YtimmjimeldejjaaGreatDoorSort
import Derived.Test.YtimmjimeldejjaaGreatDoorGb
import Derived.Test.YtimmjimeldejjaaGreatDoorGa
import Derived.Test.YtimmjimeldejjaaGreatDoorHelp
import Derived.Lib.Slices
import Derived.IntWalk
namespace Go.Proofs.YtimmjimeldejjaaGreatDoor
section
open Go.RowKit Go.Shelf
set_option linter.unusedVariables false
set_option maxRecDepth 20000
set_option linter.unusedSimpArgs false

set_option maxHeartbeats 400000 in
theorem grow_any (n : Nat) (w : World) (hn : n ≤ 1048576) :
    Calls Tryz.prog 216 #[.slice none 0 0, .int .i64 n] w fun e w' => ∃ ao cap, e = .returned (.slice ao 0 cap) ∧ Own w.heap.size w'.heap.size w' ao 0 cap [] ∧ Below w.heap.size w w' := by
  by_cases hz : n = 0
  · subst hz
    go_enter Tryz.func216, Tryz.ntmps216
    go_wp2
    go_ret
    exact ⟨none, 0, rfl, Own.nil _ _ _, Below.refl _ _⟩
  · obtain ⟨i0, hi, hz0, hz1, hz2⟩ := info_parts Tryz.infoInt
    have := Any8.slices_Grow_grow Tryz.growL i0 _ hi hz0 (by omega) none 0 0 n [] w (Nat.le_refl _) (by omega) (by rw [hz2]; omega) (by omega) (by simp) (fun _ => rfl) (fun a ha => by cases ha)
    change Calls Tryz.prog 216 _ _ _ at this
    refine this.mono fun e w' ⟨he, hw⟩ => ⟨_, _, he, ?_, ?_⟩
    · rw [hw]
      change Own w.heap.size (w.drew.alloc _).heap.size (w.drew.alloc _) (some ⟨w.drew.heap.size, 0, none⟩) 0 _ []
      have hcap := grownCap_le_maxLen w (0 + n) 0 3 (by unfold maxLen; omega)
      have hge := grownCap_ge w (0 + n) 0 3
      refine Own.of (World.ownsRow_made w.drew _ _ (Nat.le_refl _) hcap ?_)
      simp [Builtin.zeroCells, Value.cells]
      change n + (grownCap w n 0 3 - n) = grownCap w n 0 3
      simp only [Nat.zero_add] at hge
      omega
    · rw [hw]; exact (Below.refl _ _).drew.alloc (Nat.le_refl _) _

def catTo (xss : List (List Int)) (k : Nat) : List Int := (xss.take k).flatten
theorem catTo_succ (xss : List (List Int)) (k n : Nat) (x : List Int) (hk : k < n) (hl : xss.length = n) (hx : xss.getD k [] = x) : catTo xss (k + 1) = catTo xss k ++ x := by
  unfold catTo
  rw [take_snocR hx hk hl, List.flatten_append]
  simp
theorem catTo_all (xss : List (List Int)) (n : Nat) (hl : xss.length = n) : catTo xss n = xss.flatten := by unfold catTo; rw [take_allR hl]
theorem catTo_le (xss : List (List Int)) (k : Nat) : (catTo xss k).length ≤ xss.flatten.length := by
  unfold catTo
  have := congrArg List.flatten (List.take_append_drop k xss)
  rw [List.flatten_append] at this
  have := congrArg List.length this
  simp at this ⊢
  omega

set_option maxHeartbeats 800000 in
theorem concat_any (ao : Option Addr) (n cap : Nat) (xss : List (List Int)) (w : World) (h : RowsAt w ao n cap xss) (hn : xss.flatten.length ≤ 1048576) :
    Calls Tryz.prog 188 #[.slice ao n cap] w fun e w' => ∃ ao' n' cap', e = .returned (.slice ao' n' cap') ∧ Own w.heap.size w'.heap.size w' ao' n' cap' xss.flatten ∧ Below w.heap.size w w' := by
  have hnI := h.lenInt
  have hl := Lib.hid h.length
  go_enter Tryz.func188, Tryz.ntmps188
  go_wp2
  go_loop [3, 11] (fun s i => ∃ k : Nat, k ≤ n ∧ i = .int .i64 k ∧ s = .int .i64 ((catTo xss k).length : Nat)) (fun _ i => n - (intOf i).toNat)
  case atStart => exact ⟨0, Nat.zero_le _, rfl, rfl⟩
  case round =>
    obtain ⟨k, hk, rfl, rfl⟩ := hrel
    have hle := catTo_le xss k
    have hle1 := catTo_le xss (k + 1)
    by_cases hlt : k < n
    · obtain ⟨b, oo, rfl, hb, hc⟩ := h.cell k hlt
      obtain ⟨a, m, c, hck, hi⟩ := hc k hlt
      generalize hx : xss.getD k [] = x at hi
      have e := catTo_succ xss k n x hlt hl.out hx
      have hm := hi.length
      rw [e, List.length_append, hm] at hle1
      generalize hp : (catTo xss k).length = p at *
      have hq : (catTo xss (k + 1)).length = p + m := by rw [e, List.length_append, hp, hm]
      have Hx := Lib.hid hx; clear hx
      have E := Lib.hid e; clear e
      have Hm := Lib.hid hm; clear hm
      have Hp := Lib.hid hp; clear hp
      have Hq := Lib.hid hq; clear hq
      clear hc
      go_wp2
      go_round
      case rel => exact ⟨k + 1, by omega, by go_num, by rw [Hq.out]; go_num⟩
      case measure => simp [intOf]; omega
    · obtain rfl : n = k := by omega
      have hcon := grow_any (catTo xss n).length w (by omega)
      have hge : ¬ (((catTo xss n).length : Int) < 0) := by omega
      have Hcon := Lib.hid hcon; clear hcon
      go_wp2_with (go_at_call 216; refine (Hcon.out).mono ?_; rintro e w1 ⟨ao1, cap1, rfl, ho1, hb1⟩)
      go_loopw [6, 27] (fun v i wr => ∃ (k : Nat) (a : Option Addr) (m c : Nat), k ≤ n ∧ i = .int .i64 k ∧ v = .slice a m c ∧ Own w.heap.size wr.heap.size wr a m c (catTo xss k) ∧ Below w.heap.size w wr) (fun _ i _ => n - (intOf i).toNat)
      case atStart => exact ⟨0, ao1, 0, cap1, Nat.zero_le _, rfl, rfl, ho1, hb1⟩
      case round =>
        obtain ⟨j, a1, m1, c1, hj, rfl, rfl, hown, hb⟩ := hrel
        clear ho1 hb1
        by_cases hlt2 : j < n
        · have h1 := h.keep hb
          obtain ⟨b, oo, rfl, hbl, hc⟩ := h1.cell j hlt2
          obtain ⟨a, m, c, hck, hi⟩ := hc j hlt2
          generalize hx : xss.getD j [] = x at hi
          have e := catTo_succ xss j n x hlt2 hl.out hx
          have hle2 := catTo_le xss (j + 1)
          have hm := hi.length
          have hm1 := hown.length
          rw [e, List.length_append, hm, hm1] at hle2
          have Hx := Lib.hid hx; clear hx
          have E := Lib.hid e; clear e
          have Hm := Lib.hid hm; clear hm
          have Hm1 := Lib.hid hm1; clear hm1
          clear hc
          go_wp2_with (at_builtin; refine wpList_cat wr rfl _ _ rfl w.heap.size wr.heap.size a1 m1 c1 _ rfl hown a m c x rfl hi (by omega) hb.size ?_)
          intro ao2 cap2 w2 ho2 hc2
          have hb2 := hown.chgBelow hc2 hb.size
          clear hown
          go_wp2
          go_roundw
          case rel => exact ⟨j + 1, ao2, _, cap2, by omega, by go_num, rfl, by rw [E.out]; exact ho2, hb.trans hb2⟩
          case measure => simp [intOf]; omega
        · obtain rfl : n = j := by omega
          rw [catTo_all xss n hl.out] at hown
          go_wp2
          go_ret
          exact ⟨_, _, _, rfl, hown, hb⟩

set_option maxHeartbeats 800000 in
theorem inOrder_any (ao : Option Addr) (n cap : Nat) (xss : List (List Int)) (w : World) (h : RowsAt w ao n cap xss) (hn : xss.flatten.length ≤ 1048576) (hx : ∀ x ∈ xss.flatten, 0 ≤ x ∧ x < 64) :
    Calls Tryz.prog 141 #[.slice ao n cap] w fun e w' => ∃ ao' n' cap', e = .returned (.slice ao' n' cap') ∧ Own w.heap.size w'.heap.size w' ao' n' cap' (sortD xss.flatten) ∧ Below w.heap.size w w' := by
  go_enter Tryz.func141, Tryz.ntmps141
  go_wp2_with fail
  refine (concat_any ao n cap xss w h hn).mono ?_
  rintro e w1 ⟨a1, m1, c1, rfl, ho1, hb1⟩
  have hl := ho1.length
  rcases ho1.cases with ⟨rfl, rfl, rfl, hnil⟩ | ⟨g, rfl, hg, hgE, hgw⟩
  · have hcon := AnyF.slices_SortFunc_none (P := Tryz.prog) (ρ := Tryz.sortL_ren) { Tryz.sortL with } none 0 (.func (.func 190) #[] #[]) w1
    change Calls Tryz.prog 189 _ _ _ at hcon
    have Hcon := Lib.hid hcon; clear hcon
    have Hnil := Lib.hid hnil; clear hnil
    have Hl := Lib.hid hl; clear hl
    go_wp2_with (go_at_call 189; refine (Hcon.out).mono ?_; rintro e w2 ⟨rfl, rfl⟩)
    go_ret
    rw [Hnil.out, sortD_nil]
    exact ⟨none, 0, 0, rfl, Own.nil _ _ _, hb1⟩
  · have hcon := sortFunc_any w.heap.size w1.heap.size g m1 c1 _ w1 ho1 hx (by omega)
    have Hcon := Lib.hid hcon; clear hcon
    have Hl := Lib.hid hl; clear hl
    go_wp2_with (go_at_call 189; refine (Hcon.out).mono ?_; rintro e w2 ⟨rfl, ys, hoy, hp, hsrt, hc2⟩)
    go_ret
    rw [← sortD_unique hsrt hp]
    exact ⟨_, _, _, rfl, hoy.mono (Nat.le_refl _) hc2.size, hb1.trans (hc2.below hb1.size (fun k hk => by omega))⟩

theorem intsAt_one (w : World) (x : Int) : IntsAt (w.alloc (.cells #[.int .i64 x] 3)) (some ⟨w.heap.size, 0, none⟩) 1 1 [x] :=
  ⟨rfl, Nat.le_refl _, by unfold maxLen; omega, (fun e => by cases e), fun j hj => ⟨_, _, rfl, by simp, fun i hi => by
    obtain rfl : i = 0 := by omega
    rw [World.cell?_alloc_at _ _ _ _ rfl]; rfl⟩⟩
theorem rowsAt_pair {w : World} {a m c xs a2 m2 c2 ys} (h1 : IntsAt w a m c xs) (h2 : IntsAt w a2 m2 c2 ys) :
    RowsAt (w.alloc (.cells #[.slice a m c, .slice a2 m2 c2] 24)) (some ⟨w.heap.size, 0, none⟩) 2 2 [xs, ys] :=
  ⟨rfl, Nat.le_refl _, by unfold maxLen; omega, (fun e => by cases e), fun j hj => ⟨_, _, rfl, by simp, fun i hi => by
    have hb := belowAlloc w (.cells #[.slice a m c, .slice a2 m2 c2] 24)
    have hi' : i = 0 ∨ i = 1 := by omega
    rcases hi' with rfl | rfl
    · exact ⟨a, m, c, by rw [World.cell?_alloc_at _ _ _ _ rfl]; rfl, h1.keep hb⟩
    · exact ⟨a2, m2, c2, by rw [World.cell?_alloc_at _ _ _ _ rfl]; rfl, h2.keep hb⟩⟩⟩

theorem rowsAt_one {w : World} {a m c xs} (h1 : IntsAt w a m c xs) :
    RowsAt (w.alloc (.cells #[.slice a m c] 24)) (some ⟨w.heap.size, 0, none⟩) 1 1 [xs] :=
  ⟨rfl, Nat.le_refl _, by unfold maxLen; omega, (fun e => by cases e), fun j hj => ⟨_, _, rfl, by simp, fun i hi => by
    have hb := belowAlloc w (.cells #[.slice a m c] 24)
    obtain rfl : i = 0 := by omega
    exact ⟨a, m, c, by rw [World.cell?_alloc_at _ _ _ _ rfl]; rfl, h1.keep hb⟩⟩⟩

/-- a row of one number that the call made -/
theorem Own.single (w : World) (x : Int) : Own w.heap.size (w.alloc (.cells #[.int .i64 x] 3)).heap.size (w.alloc (.cells #[.int .i64 x] 3)) (some ⟨w.heap.size, 0, none⟩) 1 1 [x] :=
  Own.of (World.ownsRow_lit w #[.int .i64 x] 1 (Nat.le_refl _) (by unfold maxLen; omega) rfl)

set_option maxHeartbeats 1600000 in
theorem stepOfRow_any (ao : Option Addr) (n cap : Nat) (xs : List Int) (w : World) (h : IntsAt w ao n cap xs) (hg : RowOk xs) :
    Calls Tryz.prog 142 #[.slice ao n cap] w fun e w' => ∃ ao' n' cap', e = .returned (.slice ao' n' cap') ∧ Own w.heap.size w'.heap.size w' ao' n' cap' (rowStepL xs) ∧ Below w.heap.size w w' := by
  have hlen := hg.len
  have hl0 := h.length
  by_cases hz : n = 0
  · have hxs : xs = [] := List.eq_nil_of_length_eq_zero (by omega)
    subst hz
    subst hxs
    go_enter Tryz.func142, Tryz.ntmps142
    go_wp2
    go_ret
    exact ⟨_, _, _, rfl, Own.empty w, belowAlloc w _⟩
  · have hn : (n : Int) ≤ 28 := by omega
    have hne : ((n : Int) == 0) = false := by simp; omega
    have hxs : xs ≠ [] := fun e => hz (by rw [← hl0, e]; rfl)
    have hsg := Own.single w (n : Int)
    have hba := belowAlloc w (.cells #[.int .i64 (n : Int)] 3)
    have Hxs := Lib.hid hxs; clear hxs
    have Hg := Lib.hid hg; clear hg
    have Hl0 := Lib.hid hl0; clear hl0
    have Hsg := Lib.hid hsg; clear hsg
    have Hba := Lib.hid hba; clear hba
    go_enter Tryz.func142, Tryz.ntmps142
    go_wp2
    go_loopw [3, 15] (fun v i wr => ∃ (k : Nat) (a : Option Addr) (m c : Nat), k ≤ n ∧ i = .int .i64 k ∧ v = .slice a m c ∧ Own w.heap.size wr.heap.size wr a m c ((n : Int) :: lowL (xs.take k)) ∧ Below w.heap.size w wr) (fun _ i _ => n - (intOf i).toNat)
    case atStart => exact ⟨0, _, _, _, Nat.zero_le _, rfl, rfl, Hsg.out, Hba.out⟩
    case round =>
      obtain ⟨k, a, m, c, hk, rfl, rfl, hown, hb⟩ := hrel
      have hm := hown.length
      have hml := lowL_length (xs.take k)
      have htl : (xs.take k).length ≤ 28 := by rw [List.length_take]; omega
      rw [List.length_cons] at hm
      have Hm := Lib.hid hm; clear hm
      by_cases hlt : k < n
      · have h1 := h.keep hb
        obtain ⟨b, oo, rfl, hbl, hc⟩ := h1.cell k hlt
        have hck := hc k hlt
        clear hc h1
        generalize hx : xs.getD k 0 = x at hck
        have hxm := Hg.out.mem (getD_mem hx hlt Hl0.out)
        have e := lowL_snoc (xs.take k) x
        rw [← take_snoc hx hlt Hl0.out] at e
        have hm28 : m ≤ 29 := by have := Hm.out; omega
        have Hx := Lib.hid hx; clear hx
        by_cases hx1 : 1 < x
        · rw [if_pos hx1] at e
          have E := Lib.hid e; clear e
          go_wp2_with (at_builtin; refine wpList_push wr rfl _ _ rfl w.heap.size wr.heap.size a m c _ rfl hown _ rfl (by omega) hb.size ?_)
          intro ao2 cap2 w2 ho2 hc2
          have hb2 := hown.chgBelow hc2 hb.size
          clear hown
          go_wp2
          go_roundw
          case rel => exact ⟨k + 1, ao2, _, cap2, by omega, by go_num, rfl, by rw [E.out]; exact ho2, hb.trans hb2⟩
          case measure => simp [intOf]; omega
        · rw [if_neg hx1, List.append_nil] at e
          have E := Lib.hid e; clear e
          go_wp2
          go_roundw
          case rel => exact ⟨k + 1, a, m, c, by omega, by go_num, rfl, by rw [E.out]; exact hown, hb⟩
          case measure => simp [intOf]; omega
      · obtain rfl : n = k := by omega
        rw [take_all Hl0.out] at hown
        go_wp2
        go_ret
        refine ⟨_, _, _, rfl, ?_, hb⟩
        rw [rowStepL_cons Hxs.out, Hl0.out]
        exact hown

set_option maxHeartbeats 1600000 in
theorem stepOf_any (ao : Option Addr) (n cap : Nat) (xs : List Int) (w : World) (h : IntsAt w ao n cap xs) (hg : Good xs) :
    Calls Tryz.prog 73 #[.slice ao n cap] w fun e w' => ∃ ao' n' cap', e = .returned (.slice ao' n' cap') ∧ Own w.heap.size w'.heap.size w' ao' n' cap' (stepL xs) ∧ Below w.heap.size w w' := by
  have hcon := stepOfRow_any ao n cap xs w h hg.row
  have hR := rowStepL_row hg.row
  have hE := stepL_row xs
  have Hcon := Lib.hid hcon; clear hcon
  have Hg := Lib.hid hg; clear hg
  have HR := Lib.hid hR; clear hR
  have HE := Lib.hid hE; clear hE
  go_enter Tryz.func73, Tryz.ntmps73
  go_wp2_with fail
  with_reducible refine (Hcon.out).mono ?_
  rintro e w1 ⟨a1, n1, c1, rfl, ho1, hb1⟩
  have hr := rowsAt_one ho1.at
  have hcon2 := inOrder_any _ _ _ _ _ hr (by simp only [List.flatten_cons, List.flatten_nil, List.append_nil]; have := HR.out.len; omega) (by
    intro x hx
    simp only [List.flatten_cons, List.flatten_nil, List.append_nil] at hx
    have := HR.out.mem hx
    omega)
  simp only [List.flatten_cons, List.flatten_nil, List.append_nil] at hcon2
  rw [← HE.out] at hcon2
  have Hcon2 := Lib.hid hcon2; clear hcon2
  go_wp2_with fail
  refine (Hcon2.out).mono ?_
  rintro e w2 ⟨a2, m2, c2, rfl, ho2, hb2⟩
  go_wp2
  go_ret
  have hs := hb1.size
  exact ⟨_, _, _, rfl, ho2.mono (Nat.le_trans hs (by simp)) (Nat.le_refl _), belowTrans (hb1.alloc hs _) hb2 (Nat.le_refl _)⟩
end
end Go.Proofs.YtimmjimeldejjaaGreatDoor
namespace Go.Proofs.YtimmjimeldejjaaGreatDoor
section
open Go.RowKit Go.Shelf
set_option linter.unusedVariables false
set_option linter.unusedSimpArgs false

set_option maxHeartbeats 3200000 in
set_option maxRecDepth 100000 in
theorem piPut_any (ao : Option Addr) (n cap : Nat) (xs : List Int) (x : Int) (w : World) (h : IntsAt w ao n cap xs) (hs : xs.Pairwise (· ≥ ·)) (hn : n ≤ 1048576) :
    Calls Tryz.prog 88 #[.slice ao n cap, .int .i64 x] w fun e w' => ∃ ao' n' cap', e = .returned (.slice ao' n' cap') ∧ Own w.heap.size w'.heap.size w' ao' n' cap' (sortD (xs ++ [x])) ∧ Below w.heap.size w w' := by
  have hn' : (n : Int) ≤ 1048576 := by omega
  have hl := Lib.hid h.length
  have Hs := Lib.hid hs; clear hs
  go_enter Tryz.func88, Tryz.ntmps88
  go_wp2
  go_loop [5] (fun i => ∃ k : Nat, k ≤ n ∧ i = .int .i64 k ∧ ∀ y ∈ xs.take k, x ≤ y) (fun i => n - (intOf i).toNat)
  case atStart => exact ⟨0, Nat.zero_le _, rfl, by simp⟩
  case round =>
    obtain ⟨k, hk, rfl, hall⟩ := hrel
    have Hall := Lib.hid hall; clear hall
    by_cases hgo : k < n ∧ x ≤ xs.getD k 0
    · obtain ⟨hlt, hge⟩ := hgo
      generalize hx : xs.getD k 0 = y at hge
      obtain ⟨b, oo, rfl, hb, hc⟩ := h.cell k hlt
      have hck := hc k hlt
      rw [hx] at hck
      have Hx := Lib.hid hx; clear hx
      clear hc
      go_wp2
      go_round
      case rel =>
        refine ⟨k + 1, by omega, by go_num, fun z hz => ?_⟩
        rw [take_snoc Hx.out hlt hl.out] at hz
        rcases List.mem_append.1 hz with h' | h'
        · exact Hall.out z h'
        · rw [List.mem_singleton.1 h']; omega
      case measure => simp [intOf]; omega
    · have hput : xs.take k ++ [x] ++ xs.drop k = sortD (xs ++ [x]) := by
        refine put_eq Hs.out Hall.out fun z hz => ?_
        by_cases hlt : k < n
        · have hlt' : ¬ x ≤ xs.getD k 0 := fun hh => hgo ⟨hlt, hh⟩
          rw [List.drop_eq_getElem_cons (by rw [hl.out]; exact hlt)] at hz
          rw [List.getD_eq_getElem?_getD, List.getElem?_eq_getElem (by rw [hl.out]; exact hlt)] at hlt'
          simp only [Option.getD_some] at hlt'
          rcases List.mem_cons.1 hz with rfl | hz
          · omega
          · have hp := Hs.out
            rw [← List.take_append_drop k xs, List.pairwise_append, List.drop_eq_getElem_cons (by rw [hl.out]; exact hlt), List.pairwise_cons] at hp
            have := hp.2.1.1 z hz
            omega
        · rw [List.drop_of_length_le (by rw [hl.out]; omega)] at hz
          cases hz
      have Hput := Lib.hid hput; clear hput
      have hstop : k < n → xs.getD k 0 < x := fun hh => by
        have : ¬ x ≤ xs.getD k 0 := fun h2 => hgo ⟨hh, h2⟩
        omega
      clear hgo
      obtain ⟨a2, hsl2, hi2⟩ := slUpto w xs h k (by omega) .i64
      obtain ⟨a3, hsl3, hi3⟩ := slFrom w xs h k (by omega) .i64
      have hblk := intsAt_one w x
      have hal := belowAlloc w (.cells #[.int .i64 x] 3)
      have hi2' : IntsAt (w.alloc (.cells #[.int .i64 x] 3)).drew a2 k cap (xs.take k) := (hi2.keep hal).drewN 1
      have hi2'' : IntsAt w.drew a2 k cap (xs.take k) := hi2.drewN 1
      have hal' : Below w.heap.size w (w.alloc (.cells #[.int .i64 x] 3)).drew := belowDrewN hal 1
      have hrefl : Below w.heap.size w w.drew := belowDrewN (Below.refl w.heap.size w) 1
      have hblk' : IntsAt (w.alloc (.cells #[.int .i64 x] 3)).drew (some ⟨w.heap.size, 0, none⟩) 1 1 [x] := hblk.drewN 1
      clear hblk hal
      by_cases hlt : k < n
      · have hst := hstop hlt
        clear hstop
        obtain ⟨b, oo, rfl, hb, hc⟩ := h.cell k hlt
        have hck := hc k hlt
        generalize hx : xs.getD k 0 = y at hck hst
        have Hx := Lib.hid hx; clear hx
        clear hc
        go_wp2
        clear hck
        go_region_law (first | (go_simp; with_reducible refine (l1Own_any _ _ _ (xs.take k) _ hi2'' (by omega)).mono ?_; rintro e w1 ⟨a1, c1, rfl, ho1, hb1⟩; have hac1 : Below w.heap.size w w1 := belowTrans hrefl hb1 (Nat.le_refl _); have ho1' : Own w.heap.size w1.heap.size w1 a1 k c1 (xs.take k) := ho1.mono hrefl.size (Nat.le_refl _); have tokA : True := trivial) | (go_simp; with_reducible refine (l1Own_any _ _ _ (xs.take k) _ hi2' (by omega)).mono ?_; rintro e w1 ⟨a1, c1, rfl, ho1, hb1⟩; have hac1 : Below w.heap.size w w1 := belowTrans hal' hb1 (Nat.le_refl _); have ho1' : Own w.heap.size w1.heap.size w1 a1 k c1 (xs.take k) := ho1.mono hal'.size (Nat.le_refl _); have tokB : True := trivial; have hx1 := hblk'.keep hb1) | (have _t := tokA; refine step_catB w (w1.alloc (.cells #[.int .i64 x] 3)) rfl (.tmp 23) (.tmp 25) rfl w1.heap.size a1 k c1 (xs.take k) rfl (some ⟨w1.heap.size, 0, none⟩) 1 1 [x] rfl (hac1.alloc hac1.size _) (ho1'.keep (belowAlloc _ _)) (intsAt_one w1 x) (by omega) ?_; intro a4 c4 w4 ho4 hac4) | (have _t := tokB; refine step_catB w w1 rfl (.tmp 23) (.tmp 25) rfl w1.heap.size a1 k c1 (xs.take k) rfl (some ⟨w.heap.size, 0, none⟩) 1 1 [x] rfl hac1 ho1' hx1 (by omega) ?_; intro a4 c4 w4 ho4 hac4) | (refine step_catB w w4 rfl (.tmp 26) (.tmp 29) rfl w4.heap.size a4 (k + 1) c4 (xs.take k ++ [x]) rfl a3 (n - k) (cap - k) (xs.drop k) rfl hac4 ho4 (hi3.keep hac4) (by omega) ?_; intro a5 c5 w5 ho5 hac5))
        all_goals
          go_wp2
          go_ret
          rw [← Hput.out]
          exact ⟨_, _, _, rfl, ho5, hac5⟩
      · go_wp2
        go_region_law (first | (go_simp; with_reducible refine (l1Own_any _ _ _ (xs.take k) _ hi2'' (by omega)).mono ?_; rintro e w1 ⟨a1, c1, rfl, ho1, hb1⟩; have hac1 : Below w.heap.size w w1 := belowTrans hrefl hb1 (Nat.le_refl _); have ho1' : Own w.heap.size w1.heap.size w1 a1 k c1 (xs.take k) := ho1.mono hrefl.size (Nat.le_refl _); have tokA : True := trivial) | (go_simp; with_reducible refine (l1Own_any _ _ _ (xs.take k) _ hi2' (by omega)).mono ?_; rintro e w1 ⟨a1, c1, rfl, ho1, hb1⟩; have hac1 : Below w.heap.size w w1 := belowTrans hal' hb1 (Nat.le_refl _); have ho1' : Own w.heap.size w1.heap.size w1 a1 k c1 (xs.take k) := ho1.mono hal'.size (Nat.le_refl _); have tokB : True := trivial; have hx1 := hblk'.keep hb1) | (have _t := tokA; refine step_catB w (w1.alloc (.cells #[.int .i64 x] 3)) rfl (.tmp 23) (.tmp 25) rfl w1.heap.size a1 k c1 (xs.take k) rfl (some ⟨w1.heap.size, 0, none⟩) 1 1 [x] rfl (hac1.alloc hac1.size _) (ho1'.keep (belowAlloc _ _)) (intsAt_one w1 x) (by omega) ?_; intro a4 c4 w4 ho4 hac4) | (have _t := tokB; refine step_catB w w1 rfl (.tmp 23) (.tmp 25) rfl w1.heap.size a1 k c1 (xs.take k) rfl (some ⟨w.heap.size, 0, none⟩) 1 1 [x] rfl hac1 ho1' hx1 (by omega) ?_; intro a4 c4 w4 ho4 hac4) | (refine step_catB w w4 rfl (.tmp 26) (.tmp 29) rfl w4.heap.size a4 (k + 1) c4 (xs.take k ++ [x]) rfl a3 (n - k) (cap - k) (xs.drop k) rfl hac4 ho4 (hi3.keep hac4) (by omega) ?_; intro a5 c5 w5 ho5 hac5))
        all_goals
          go_wp2
          go_ret
          rw [← Hput.out]
          exact ⟨_, _, _, rfl, ho5, hac5⟩
end
end Go.Proofs.YtimmjimeldejjaaGreatDoor
namespace Go.Proofs.YtimmjimeldejjaaGreatDoor
section
open Go.RowKit
set_option linter.unusedVariables false
set_option maxRecDepth 20000
set_option linter.unusedSimpArgs false

set_option maxHeartbeats 1600000 in
theorem piStep_any (ao : Option Addr) (n cap : Nat) (xs : List Int) (w : World) (h : IntsAt w ao n cap xs) (hg : Good xs) :
    Calls Tryz.prog 176 #[.slice ao n cap] w fun e w' => ∃ ao' n' cap', e = .returned (.slice ao' n' cap') ∧ Own w.heap.size w'.heap.size w' ao' n' cap' (stepL xs) ∧ Below w.heap.size w w' := by
  have hlen := hg.len
  have hl0 := h.length
  have hn : (n : Int) ≤ 28 := by omega
  have Hg := Lib.hid hg; clear hg
  have Hl0 := Lib.hid hl0; clear hl0
  go_enter Tryz.func176, Tryz.ntmps176
  go_wp2
  go_loopw [3, 8] (fun v i wr => ∃ (k : Nat) (a : Option Addr) (m c : Nat), k ≤ n ∧ i = .int .i64 k ∧ v = .slice a m c ∧ Own w.heap.size wr.heap.size wr a m c (lowL (xs.take k)) ∧ Below w.heap.size w wr) (fun _ i _ => n - (intOf i).toNat)
  case atStart => exact ⟨0, none, 0, 0, Nat.zero_le _, rfl, rfl, Own.nil _ _ _, Below.refl _ _⟩
  case round =>
    obtain ⟨k, a, m, c, hk, rfl, rfl, hown, hb⟩ := hrel
    have hm := hown.length
    have hml := lowL_length (xs.take k)
    have htl : (xs.take k).length ≤ 28 := by rw [List.length_take]; omega
    rw [hm] at hml
    have Hm := Lib.hid hm; clear hm
    by_cases hlt : k < n
    · have h1 := h.keep hb
      obtain ⟨b, oo, rfl, hbl, hc⟩ := h1.cell k hlt
      have hck := hc k hlt
      clear hc h1
      generalize hx : xs.getD k 0 = x at hck
      have hxm := Hg.out.mem (getD_mem hx hlt Hl0.out)
      have e := lowL_snoc (xs.take k) x
      rw [← take_snoc hx hlt Hl0.out] at e
      have Hx := Lib.hid hx; clear hx
      by_cases hx1 : 1 < x
      · rw [if_pos hx1] at e
        have E := Lib.hid e; clear e
        go_wp2_with (at_builtin; refine wpList_push wr rfl _ _ rfl w.heap.size wr.heap.size a m c _ rfl hown _ rfl (by omega) hb.size ?_)
        intro ao2 cap2 w2 ho2 hc2
        have hb2 := hown.chgBelow hc2 hb.size
        clear hown
        go_wp2
        go_roundw
        case rel => exact ⟨k + 1, ao2, _, cap2, by omega, by go_num, rfl, by rw [E.out]; exact ho2, hb.trans hb2⟩
        case measure => simp [intOf]; omega
      · rw [if_neg hx1, List.append_nil] at e
        have E := Lib.hid e; clear e
        go_wp2
        go_roundw
        case rel => exact ⟨k + 1, a, m, c, by omega, by go_num, rfl, by rw [E.out]; exact hown, hb⟩
        case measure => simp [intOf]; omega
    · obtain rfl : n = k := by omega
      rw [take_all Hl0.out] at hown
      by_cases hz : n = 0
      · subst hz
        have hxs : xs = [] := List.eq_nil_of_length_eq_zero Hl0.out
        subst hxs
        go_wp2
        go_ret
        exact ⟨none, 0, 0, rfl, Own.nil _ _ _, hb⟩
      · have hne : ((n : Int) == 0) = false := by simp; omega
        have hxs : xs ≠ [] := fun e => hz (by rw [← Hl0.out, e]; rfl)
        have hcon := piPut_any a m c (lowL xs) (n : Int) wr hown.at (lowL_sorted Hg.out.2.1) (by omega)
        have e := stepL_cons hxs
        rw [Hl0.out] at e
        rw [← e] at hcon
        have Hcon := Lib.hid hcon; clear hcon
        have E := Lib.hid e; clear e
        have Hxs := Lib.hid hxs; clear hxs
        go_wp2_with fail
        with_reducible refine (Hcon.out).mono ?_
        rintro e w2 ⟨a2, m2, c2, rfl, ho2, hb2⟩
        go_wp2
        go_ret
        exact ⟨_, _, _, rfl, ho2.mono hb.size (Nat.le_refl _), belowTrans hb hb2 (Nat.le_refl _)⟩

set_option maxHeartbeats 800000 in
theorem piSteps_any (ao : Option Addr) (n cap : Nat) (xs : List Int) (k : Nat) (w : World) (h : IntsAt w ao n cap xs) (hg : Good xs) (hk : k ≤ 1000) :
    Calls Tryz.prog 177 #[.slice ao n cap, .int .i64 k] w fun e w' => ∃ ao' n' cap', e = .returned (.slice ao' n' cap') ∧ Own w.heap.size w'.heap.size w' ao' n' cap' (stepsL k xs) ∧ Below w.heap.size w w' := by
  have hlen := hg.len
  have hl0 := h.length
  have hcon := l1Own_any ao n cap xs w h (by omega)
  have Hg := Lib.hid hg; clear hg
  have Hl0 := Lib.hid hl0; clear hl0
  have Hcon := Lib.hid hcon; clear hcon
  go_enter Tryz.func177, Tryz.ntmps177
  go_wp2_with fail
  with_reducible refine (Hcon.out).mono ?_
  rintro e w1 ⟨a1, c1, rfl, ho1, hb1⟩
  go_wp2_with fail
  go_loopw [1, 5] (fun i v wr => ∃ (j : Nat) (a : Option Addr) (m c : Nat), j ≤ k ∧ i = .int .i64 (k - j : Nat) ∧ v = .slice a m c ∧ Own w.heap.size wr.heap.size wr a m c (stepsL j xs) ∧ Below w.heap.size w wr) (fun i _ _ => (intOf i).toNat)
  case atStart => exact ⟨0, a1, n, c1, Nat.zero_le _, rfl, rfl, ho1, hb1⟩
  case round =>
    obtain ⟨j, a, m, c, hj, rfl, rfl, hown, hb⟩ := hrel
    have hG := stepsL_good Hg.out j
    by_cases hlt : j < k
    · have hkj : 0 < k - j := by omega
      have hcon := piStep_any a m c _ wr hown.at hG
      have Hcon := Lib.hid hcon; clear hcon
      have HG := Lib.hid hG; clear hG
      go_wp2_with fail
      with_reducible refine (Hcon.out).mono ?_
      rintro e w2 ⟨a2, m2, c2, rfl, ho2, hb2⟩
      go_wp2
      go_roundw
      case rel => exact ⟨j + 1, a2, m2, c2, by omega, valI (by omega), rfl, ho2.mono hb.size (Nat.le_refl _), belowTrans hb hb2 (Nat.le_refl _)⟩
      case measure => simp [intOf]; omega
    · obtain rfl : k = j := by omega
      go_wp2
      go_ret
      exact ⟨_, _, _, rfl, hown, hb⟩
end
end Go.Proofs.YtimmjimeldejjaaGreatDoor
namespace Go.Proofs.YtimmjimeldejjaaGreatDoor
section
open Go.RowKit
set_option linter.unusedVariables false
set_option maxRecDepth 20000
set_option linter.unusedSimpArgs false

def mStepPiles (xs : List Int) : List Int × Bool := (if goodB xs then stepL xs else [], goodB xs)
theorem mStep_yes {xs : List Int} (h : goodB xs = true) : mStepPiles xs = (stepL xs, true) := by unfold mStepPiles; rw [h]; rfl
theorem mStep_no {xs : List Int} (h : goodB xs = false) : mStepPiles xs = ([], false) := by unfold mStepPiles; rw [h]; rfl
def mStepsFrom (xs : List Int) (k : Int) : List Int × Bool := if goodB xs = true ∧ 0 ≤ k ∧ k ≤ 1000 then (stepsL k.toNat xs, true) else ([], false)
theorem mSteps_yes {xs : List Int} {k : Nat} (h : goodB xs = true) (hk : k ≤ 1000) : mStepsFrom xs k = (stepsL k xs, true) := by unfold mStepsFrom; rw [if_pos ⟨h, by omega, by omega⟩]; rfl
theorem mSteps_no1 {xs : List Int} {k : Int} (h : goodB xs = false) : mStepsFrom xs k = ([], false) := by unfold mStepsFrom; rw [if_neg (by rw [h]; simp)]
theorem mSteps_no2 {xs : List Int} {k : Int} (h : ¬ (0 ≤ k ∧ k ≤ 1000)) : mStepsFrom xs k = ([], false) := by unfold mStepsFrom; rw [if_neg (fun hh => h hh.2)]
theorem l1In_yes (n lo hi : Int) (w : World) (h : lo ≤ n ∧ n ≤ hi) : Calls Tryz.prog 89 #[.int .i64 n, .int .i64 lo, .int .i64 hi] w fun e w' => e = .returned (.bool true) ∧ w = w' := by
  have := l1In_any n lo hi w; rw [decide_eq_true h] at this; exact this
theorem l1In_no (n lo hi : Int) (w : World) (h : ¬ (lo ≤ n ∧ n ≤ hi)) : Calls Tryz.prog 89 #[.int .i64 n, .int .i64 lo, .int .i64 hi] w fun e w' => e = .returned (.bool false) ∧ w = w' := by
  have := l1In_any n lo hi w; rw [decide_eq_false h] at this; exact this

theorem spec_StepPiles (ao : Option Addr) (n cap : Nat) (xs : List Int) (w : World) (h : IntsAt w ao n cap xs) :
    Calls Tryz.prog 127 #[.slice ao n cap] w fun e w' => ∃ ao' n' cap', e = .returned (.tuple #[.slice ao' n' cap', .bool (mStepPiles xs).2]) ∧ Own w.heap.size w'.heap.size w' ao' n' cap' (mStepPiles xs).1 ∧ Below w.heap.size w w' := by
  cases hg : goodB xs
  · have hm := mStep_no hg
    have Hg := Lib.hid hg; clear hg
    have Hm := Lib.hid hm; clear hm
    go_enter Tryz.func127, Tryz.ntmps127
    go_wp2_with fail
    with_reducible refine (piGood_no _ _ _ _ _ h Hg.out).mono ?_
    rintro e w' ⟨rfl, rfl⟩
    go_wp2
    go_ret2
    rw [Hm.out]
    exact ⟨none, 0, 0, rfl, Own.nil _ _ _, Below.refl _ _⟩
  · have hm := mStep_yes hg
    have Hg := Lib.hid hg; clear hg
    have Hm := Lib.hid hm; clear hm
    go_enter Tryz.func127, Tryz.ntmps127
    go_wp2_with fail
    with_reducible refine (piGood_yes _ _ _ _ _ h (good_iff.1 Hg.out)).mono ?_
    rintro e w' ⟨rfl, rfl⟩
    go_wp2_with fail
    with_reducible refine (piStep_any _ _ _ _ _ h (good_iff.1 Hg.out)).mono ?_
    rintro e w' ⟨ao', n', cap', rfl, ho, hb⟩
    go_wp2
    go_ret2
    rw [Hm.out]
    exact ⟨_, _, _, rfl, ho, hb⟩

theorem spec_StepsFrom (ao : Option Addr) (n cap : Nat) (xs : List Int) (k : Int) (w : World) (h : IntsAt w ao n cap xs) :
    Calls Tryz.prog 128 #[.slice ao n cap, .int .i64 k] w fun e w' => ∃ ao' n' cap', e = .returned (.tuple #[.slice ao' n' cap', .bool (mStepsFrom xs k).2]) ∧ Own w.heap.size w'.heap.size w' ao' n' cap' (mStepsFrom xs k).1 ∧ Below w.heap.size w w' := by
  cases hg : goodB xs
  · have hm := mSteps_no1 (k := k) hg
    have Hg := Lib.hid hg; clear hg
    have Hm := Lib.hid hm; clear hm
    go_enter Tryz.func128, Tryz.ntmps128
    go_wp2_with fail
    with_reducible refine (piGood_no _ _ _ _ _ h Hg.out).mono ?_
    rintro e w' ⟨rfl, rfl⟩
    go_wp2
    go_ret2
    rw [Hm.out]
    exact ⟨none, 0, 0, rfl, Own.nil _ _ _, Below.refl _ _⟩
  · by_cases hk : 0 ≤ k ∧ k ≤ 1000
    · obtain ⟨q, rfl⟩ := Int.eq_ofNat_of_zero_le hk.1
      have hq : q ≤ 1000 := by omega
      have hm := mSteps_yes hg hq
      have Hg := Lib.hid hg; clear hg
      have Hm := Lib.hid hm; clear hm
      have Hk := Lib.hid hk; clear hk
      go_enter Tryz.func128, Tryz.ntmps128
      go_wp2_with fail
      with_reducible refine (piGood_yes _ _ _ _ _ h (good_iff.1 Hg.out)).mono ?_
      rintro e w' ⟨rfl, rfl⟩
      go_wp2_with fail
      with_reducible refine (l1In_yes _ _ _ _ Hk.out).mono ?_
      rintro e w' ⟨rfl, rfl⟩
      go_wp2_with fail
      with_reducible refine (piSteps_any _ _ _ _ _ _ h (good_iff.1 Hg.out) hq).mono ?_
      rintro e w' ⟨ao', n', cap', rfl, ho, hb⟩
      go_wp2
      go_ret2
      rw [Hm.out]
      exact ⟨_, _, _, rfl, ho, hb⟩
    · have hm := mSteps_no2 (xs := xs) hk
      have Hg := Lib.hid hg; clear hg
      have Hm := Lib.hid hm; clear hm
      have Hk := Lib.hid hk; clear hk
      go_enter Tryz.func128, Tryz.ntmps128
      go_wp2_with fail
      with_reducible refine (piGood_yes _ _ _ _ _ h (good_iff.1 Hg.out)).mono ?_
      rintro e w' ⟨rfl, rfl⟩
      go_wp2_with fail
      with_reducible refine (l1In_no _ _ _ _ Hk.out).mono ?_
      rintro e w' ⟨rfl, rfl⟩
      go_wp2
      go_ret2
      rw [Hm.out]
      exact ⟨none, 0, 0, rfl, Own.nil _ _ _, Below.refl _ _⟩

set_option maxHeartbeats 800000 in
theorem impl_StepsFrom (ao : Option Addr) (n cap : Nat) (xs : List Int) (k : Int) (w : World) (h : IntsAt w ao n cap xs) :
    Calls Tryz.prog 44 #[.slice ao n cap, .int .i64 k] w fun e w' => ∃ ao' n' cap', e = .returned (.tuple #[.slice ao' n' cap', .bool (mStepsFrom xs k).2]) ∧ Own w.heap.size w'.heap.size w' ao' n' cap' (mStepsFrom xs k).1 ∧ Below w.heap.size w w' := by
  cases hg : goodB xs
  · have hm := mSteps_no1 (k := k) hg
    have Hg := Lib.hid hg; clear hg
    have Hm := Lib.hid hm; clear hm
    go_enter Tryz.func44, Tryz.ntmps44
    go_wp2_with fail
    with_reducible refine (isPiles_no _ _ _ _ _ h Hg.out).mono ?_
    rintro e w' ⟨rfl, rfl⟩
    go_wp2
    go_ret2
    rw [Hm.out]
    exact ⟨none, 0, 0, rfl, Own.nil _ _ _, Below.refl _ _⟩
  · by_cases hk : 0 ≤ k ∧ k ≤ 1000
    · obtain ⟨q, rfl⟩ := Int.eq_ofNat_of_zero_le hk.1
      have hq : q ≤ 1000 := by omega
      have hm := mSteps_yes hg hq
      have hG := good_iff.1 hg
      have hlen := hG.len
      have hl := h.length
      have hcp := copyOf_any ao n cap xs w h (by omega)
      have Hg := Lib.hid hg; clear hg
      have Hm := Lib.hid hm; clear hm
      have Hk := Lib.hid hk; clear hk
      have HG := Lib.hid hG; clear hG
      have Hcp := Lib.hid hcp; clear hcp
      have Hl := Lib.hid hl; clear hl
      go_enter Tryz.func44, Tryz.ntmps44
      go_wp2_with fail
      with_reducible refine (isPiles_yes _ _ _ _ _ h HG.out).mono ?_
      rintro e w' ⟨rfl, rfl⟩
      go_wp2_with fail
      with_reducible refine (inRange_yes _ _ _ Hk.out).mono ?_
      rintro e w' ⟨rfl, rfl⟩
      go_wp2_with fail
      with_reducible refine (Hcp.out).mono ?_
      rintro e w1 ⟨a1, c1, rfl, ho1, hb1⟩
      go_wp2_with fail
      go_loopw [6, 18] (fun v i wr => ∃ (j : Nat) (a : Option Addr) (m c : Nat), j ≤ q ∧ i = .int .i64 j ∧ v = .slice a m c ∧ Own w.heap.size wr.heap.size wr a m c (stepsL j xs) ∧ Below w.heap.size w wr) (fun _ i _ => q - (intOf i).toNat)
      case atStart => exact ⟨0, a1, n, c1, Nat.zero_le _, rfl, rfl, ho1, hb1⟩
      case round =>
        obtain ⟨j, a, m, c, hj, rfl, rfl, hown, hb⟩ := hrel
        have hG2 := stepsL_good HG.out j
        by_cases hlt : j < q
        · have hcon := stepOf_any a m c _ wr hown.at hG2
          have Hcon := Lib.hid hcon; clear hcon
          have HG2 := Lib.hid hG2; clear hG2
          go_wp2_with fail
          with_reducible refine (Hcon.out).mono ?_
          rintro e w2 ⟨a2, m2, c2, rfl, ho2, hb2⟩
          go_wp2
          go_roundw
          case rel => exact ⟨j + 1, a2, m2, c2, by omega, valI (by omega), rfl, ho2.mono hb.size (Nat.le_refl _), belowTrans hb hb2 (Nat.le_refl _)⟩
          case measure => simp [intOf]; omega
        · obtain rfl : q = j := by omega
          go_wp2
          go_ret2
          rw [Hm.out]
          exact ⟨_, _, _, rfl, hown, hb⟩
    · have hm := mSteps_no2 (xs := xs) hk
      have Hg := Lib.hid hg; clear hg
      have Hm := Lib.hid hm; clear hm
      have Hk := Lib.hid hk; clear hk
      go_enter Tryz.func44, Tryz.ntmps44
      go_wp2_with fail
      with_reducible refine (isPiles_yes _ _ _ _ _ h (good_iff.1 Hg.out)).mono ?_
      rintro e w' ⟨rfl, rfl⟩
      go_wp2_with fail
      with_reducible refine (inRange_no _ _ _ Hk.out).mono ?_
      rintro e w' ⟨rfl, rfl⟩
      go_wp2
      go_ret2
      rw [Hm.out]
      exact ⟨none, 0, 0, rfl, Own.nil _ _ _, Below.refl _ _⟩

theorem impl_StepPiles (ao : Option Addr) (n cap : Nat) (xs : List Int) (w : World) (h : IntsAt w ao n cap xs) :
    Calls Tryz.prog 15 #[.slice ao n cap] w fun e w' => ∃ ao' n' cap', e = .returned (.tuple #[.slice ao' n' cap', .bool (mStepPiles xs).2]) ∧ Own w.heap.size w'.heap.size w' ao' n' cap' (mStepPiles xs).1 ∧ Below w.heap.size w w' := by
  have hcon := impl_StepsFrom ao n cap xs 1 w h
  have hm : mStepsFrom xs 1 = mStepPiles xs := by
    unfold mStepsFrom mStepPiles
    cases goodB xs <;> rfl
  rw [hm] at hcon
  have Hcon := Lib.hid hcon; clear hcon
  have Hm := Lib.hid hm; clear hm
  go_enter Tryz.func15, Tryz.ntmps15
  go_wp2_with fail
  with_reducible refine (Hcon.out).mono ?_
  rintro e w2 ⟨a2, m2, c2, rfl, ho2, hb2⟩
  go_wp2
  go_ret2
  exact ⟨_, _, _, rfl, ho2, hb2⟩
end
end Go.Proofs.YtimmjimeldejjaaGreatDoor
namespace Go.Proofs.YtimmjimeldejjaaGreatDoor
section
open Go.RowKit
set_option linter.unusedVariables false
set_option linter.unusedSimpArgs false

theorem first_at (xs : List Int) (x : Int) (h : x ∈ xs) : ∃ k, k < xs.length ∧ xs.getD k 0 = x ∧ (∀ j, j < k → xs.getD j 0 ≠ x) ∧ xs.erase x = xs.eraseIdx k := by
  induction xs with
  | nil => cases h
  | cons a l ih =>
    by_cases ha : a = x
    · subst ha
      exact ⟨0, by simp, rfl, fun j hj => absurd hj (Nat.not_lt_zero _), by rw [List.erase_cons_head]; rfl⟩
    · have hx : x ∈ l := by
        rcases List.mem_cons.1 h with e | e
        · exact absurd e.symm ha
        · exact e
      obtain ⟨k, h1, h2, h3, h4⟩ := ih hx
      refine ⟨k + 1, by simp; exact h1, by simpa using h2, fun j hj => ?_, ?_⟩
      · cases j with
        | zero => simpa using ha
        | succ j => simpa using h3 j (by omega)
      · rw [List.erase_cons_tail (by simpa using ha), h4]; rfl
theorem idx_of (xs : List Int) (x : Int) (h : x ∈ xs) : ∃ k, k < xs.length ∧ xs.getD k 0 = x ∧ Lib.idxOf xs x = k ∧ xs.erase x = xs.eraseIdx k := by
  obtain ⟨k, h1, h2, h3, h4⟩ := first_at xs x h
  have := Lib.idxOf_hit xs xs.length k x h1 (Nat.le_refl _) h2 h3
  rw [List.take_length] at this
  exact ⟨k, h1, h2, this, h4⟩
theorem idx_no (xs : List Int) (x : Int) (h : x ∉ xs) : Lib.idxOf xs x = -1 := by
  have := Lib.idxOf_miss xs xs.length x (fun j hj e => h (getD_mem e hj rfl))
  rwa [List.take_length] at this
def PastOk (xs : List Int) (x : Int) : Prop := x ∈ xs ∧ (xs.length : Int) - 1 ≤ x
instance (xs : List Int) (x : Int) : Decidable (PastOk xs x) := by unfold PastOk; infer_instance
/-- what pastBy comes to -/
def mPast (xs : List Int) (x : Int) : List Int × Bool := if PastOk xs x then (pastL xs x, true) else ([], false)
theorem mPast_yes {xs : List Int} {x : Int} (h : PastOk xs x) : mPast xs x = (pastL xs x, true) := by unfold mPast; rw [if_pos h]
theorem mPast_no {xs : List Int} {x : Int} (h : ¬ PastOk xs x) : mPast xs x = ([], false) := by unfold mPast; rw [if_neg h]

set_option maxHeartbeats 1600000 in
set_option maxRecDepth 100000 in
theorem beforeStep_any (ao : Option Addr) (n cap : Nat) (xs : List Int) (t : Nat) (w : World) (h : IntsAt w ao n cap xs) (hn : n ≤ t) (ht : t ≤ 1000) (hx : ∀ x ∈ xs, 0 ≤ x ∧ x ≤ 1000) :
    Calls Tryz.prog 202 #[.slice ao n cap, .int .i64 t] w fun e w' => ∃ ao' cap', e = .returned (.slice ao' t cap') ∧ Own w.heap.size w'.heap.size w' ao' t cap' (xs.map (· + 1) ++ List.replicate (t - n) 1) ∧ Below w.heap.size w w' := by
  have hl := h.length
  obtain ⟨i0, hi, hz0, hz1, hz2⟩ := info_parts Tryz.infoInt
  have Hl := Lib.hid hl; clear hl
  have Hx := Lib.hid hx; clear hx
  go_enter Tryz.func202, Tryz.ntmps202
  go_wp2_with (at_make; refine wpList_make_own w rfl _ _ _ rfl w.heap.size 3 i0 _ 1 Tryz.underlying24 hi hz0 hz1 _ _ _ t rfl rfl rfl ?_ ?_ (Nat.le_refl _) ?_)
  · rw [hz2]; omega
  · unfold maxLen; omega
  intro w1 hown hgrow
  have ho : Own w.heap.size w1.heap.size w1 (some ⟨w.heap.size, 0, none⟩) 0 t [] := Own.of hown
  have hb1 : Below w.heap.size w w1 := (Below.refl _ _).grown hgrow (Nat.le_refl _) (fun k hk => by cases hk)
  clear hown hgrow hi hz0 hz1 hz2
  go_wp2
  go_loopw [5, 12] (fun v i wr => ∃ (k : Nat) (a : Option Addr) (c : Nat), k ≤ n ∧ i = .int .i64 k ∧ v = .slice a k c ∧ Own w.heap.size wr.heap.size wr a k c ((xs.take k).map (· + 1)) ∧ Below w.heap.size w wr) (fun _ i _ => n - (intOf i).toNat)
  case atStart => exact ⟨0, _, _, Nat.zero_le _, rfl, rfl, by simpa using ho, hb1⟩
  case round =>
    obtain ⟨k, a, c, hk, rfl, rfl, hown, hb⟩ := hrel
    clear ho hb1
    by_cases hlt : k < n
    · have h1 := h.keep hb
      obtain ⟨b, oo, rfl, hbl, hc⟩ := h1.cell k hlt
      have hck := hc k hlt
      clear hc h1
      generalize hy : xs.getD k 0 = y at hck
      have hym := Hx.out y (getD_mem hy hlt Hl.out)
      have e := take_snoc hy hlt Hl.out
      have E := Lib.hid e; clear e
      have Hy := Lib.hid hy; clear hy
      go_wp2_with (at_builtin; refine wpList_push wr rfl _ _ rfl w.heap.size wr.heap.size a k c _ rfl hown _ rfl (by omega) hb.size ?_)
      intro a3 c3 w3 ho3 hc3
      have hb3 := hb.trans (hown.chgBelow hc3 hb.size)
      clear hown hc3
      go_wp2
      go_roundw
      case rel => exact ⟨k + 1, a3, c3, by omega, by go_num, rfl, by rw [E.out, List.map_append, List.map_take]; exact ho3, hb3⟩
      case measure => simp [intOf]; omega
    · obtain rfl : n = k := by omega
      rw [take_all Hl.out] at hown
      go_wp2
      go_loopw [5] (fun v wr => ∃ (p : Nat) (a : Option Addr) (c : Nat), n ≤ p ∧ p ≤ t ∧ v = .slice a p c ∧ Own w.heap.size wr.heap.size wr a p c (xs.map (· + 1) ++ List.replicate (p - n) 1) ∧ Below w.heap.size w wr) (fun v _ => match v with | .slice _ p _ => 2000 - p | _ => 0)
      case atStart => exact ⟨n, a, c, Nat.le_refl _, hn, rfl, by simpa using hown, hb⟩
      case round =>
        obtain ⟨p, a2, c2, hp1, hp2, rfl, hown2, hb2⟩ := hrel
        clear hown hb
        by_cases hlt2 : p < t
        · go_wp2_with (at_builtin; refine wpList_push wr rfl _ _ rfl w.heap.size wr.heap.size a2 p c2 _ rfl hown2 _ rfl (by omega) hb2.size ?_)
          intro a3 c3 w3 ho3 hc3
          have hb3 := hb2.trans (hown2.chgBelow hc3 hb2.size)
          clear hown2 hc3
          go_wp2
          go_roundw
          case rel => exact ⟨p + 1, a3, c3, by omega, by omega, rfl, by rw [show p + 1 - n = (p - n) + 1 by omega, List.replicate_succ']; exact ho3, hb3⟩
          case measure => simp; omega
        · obtain rfl : p = t := by omega
          go_wp2
          go_ret
          exact ⟨_, _, rfl, hown2, hb2⟩

set_option maxHeartbeats 1600000 in
set_option maxRecDepth 100000 in
theorem pastBy_any (ao : Option Addr) (n cap : Nat) (xs : List Int) (x : Int) (w : World) (h : IntsAt w ao n cap xs) (hg : Good xs) :
    Calls Tryz.prog 161 #[.slice ao n cap, .int .i64 x] w fun e w' => ∃ ao' n' cap', e = .returned (.tuple #[.slice ao' n' cap', .bool (mPast xs x).2]) ∧ Own w.heap.size w'.heap.size w' ao' n' cap' (mPast xs x).1 ∧ Below w.heap.size w w' := by
  have hl := h.length
  have hlen := hg.len
  have hn28 : (n : Int) ≤ 28 := by omega
  by_cases hx : x ∈ xs
  · have hxm := hg.mem hx
    obtain ⟨q, hq1, hq2, hq3, hq4⟩ := idx_of xs x hx
    have hcon := index_any ao n cap xs x w h
    rw [hq3] at hcon
    by_cases hle : (n : Int) - 1 ≤ x
    · have hm := mPast_yes (xs := xs) (x := x) ⟨hx, by omega⟩
      have hd1 : decide ((q : Int) < 0) = false := by simp
      have hd2 : decide (x < (n : Int) - 1) = false := by simp; omega
      have hlo : (xs.erase x).length = n - 1 := by rw [List.length_erase_of_mem hx, hl]
      obtain ⟨a2, hsl2, hi2⟩ := slUpto w xs h q (by omega) .i64
      obtain ⟨a3, hsl3, hi3⟩ := slFrom w xs h (q + 1) (by omega) .i64
      have eq1 : ((q + 1 : Nat) : Int) = (q : Int) + 1 := by omega
      rw [eq1] at hsl3
      have hwq : IntKind.i64.wrap ((q : Int) + 1) = (q : Int) + 1 := IntWalk.i64_in _ (by omega)
      have hr : RowsAt (w.alloc (.cells #[.slice a2 q cap, .slice a3 (n - (q + 1)) (cap - (q + 1))] 24)).drew (some ⟨w.heap.size, 0, none⟩) 2 2 [xs.take q, xs.drop (q + 1)] := (rowsAt_pair hi2 hi3).drewN 1
      have hfl : [xs.take q, xs.drop (q + 1)].flatten = xs.erase x := by rw [hq4, List.eraseIdx_eq_take_drop_succ]; simp
      have hcc := concat_any _ _ _ _ _ hr (by rw [hfl, hlo]; omega)
      rw [hfl] at hcc
      have hba : Below w.heap.size w (w.alloc (.cells #[.slice a2 q cap, .slice a3 (n - (q + 1)) (cap - (q + 1))] 24)).drew := belowDrewN (belowAlloc w _) 1
      obtain ⟨X, rfl⟩ := Int.eq_ofNat_of_zero_le (show 0 ≤ x by omega)
      have hbs := fun a c W (hh : IntsAt W a (n - 1) c (xs.erase (X : Int))) => beforeStep_any a (n - 1) c _ X W hh (by omega) (by omega) (fun y hy => by have := hg.mem (List.mem_of_mem_erase hy); omega)
      clear hr hi2 hi3 hfl eq1
      have Hcon := Lib.hid hcon; clear hcon
      have Hm := Lib.hid hm; clear hm
      have Hq2 := Lib.hid hq2; clear hq2
      have Hq3 := Lib.hid hq3; clear hq3
      have Hq4 := Lib.hid hq4; clear hq4
      have Hl := Lib.hid hl; clear hl
      have Hg := Lib.hid hg; clear hg
      have Hx := Lib.hid hx; clear hx
      have Hcc := Lib.hid hcc; clear hcc
      have Hba := Lib.hid hba; clear hba
      have Hlo := Lib.hid hlo; clear hlo
      have Hbs := Lib.hid hbs; clear hbs
      go_enter Tryz.func161, Tryz.ntmps161
      go_wp2_with fail
      with_reducible refine (Hcon.out).mono ?_
      rintro e w' ⟨rfl, rfl⟩
      go_wp2_with fail
      go_region_law (first | (go_simp; with_reducible refine (Hcc.out).mono ?_; rintro e w2 ⟨a4, n4, c4, rfl, ho4, hb4⟩; obtain rfl : n4 = n - 1 := (by have := ho4.length; rw [Hlo.out] at this; omega)) | (go_simp; with_reducible refine (Hbs.out a4 c4 w2 ho4.at).mono ?_; rintro e w3 ⟨a5, c5, rfl, ho5, hb5⟩))
      all_goals
        go_wp2
        go_ret2
        rw [Hm.out]
        have hs := Hba.out.size
        have hs4 := hb4.size
        refine ⟨_, _, _, rfl, ?_, belowTrans (belowTrans Hba.out hb4 (Nat.le_refl _)) hb5 (Nat.le_refl _)⟩
        unfold pastL
        rw [Hl.out]
        exact ho5.mono (by omega) (Nat.le_refl _)
    · have hm := mPast_no (xs := xs) (x := x) (fun hh => hle (by have := hh.2; omega))
      have hd2 : decide (x < (n : Int) - 1) = true := by simp; omega
      have Hcon := Lib.hid hcon; clear hcon
      have Hm := Lib.hid hm; clear hm
      have Hq2 := Lib.hid hq2; clear hq2
      have Hq3 := Lib.hid hq3; clear hq3
      have Hq4 := Lib.hid hq4; clear hq4
      have Hl := Lib.hid hl; clear hl
      have Hg := Lib.hid hg; clear hg
      have Hx := Lib.hid hx; clear hx
      go_enter Tryz.func161, Tryz.ntmps161
      go_wp2_with fail
      with_reducible refine (Hcon.out).mono ?_
      rintro e w' ⟨rfl, rfl⟩
      go_wp2
      go_ret2
      rw [Hm.out]
      exact ⟨none, 0, 0, rfl, Own.nil _ _ _, Below.refl _ _⟩
  · have hm := mPast_no (xs := xs) (x := x) (fun hh => hx hh.1)
    have hcon := index_any ao n cap xs x w h
    rw [idx_no xs x hx] at hcon
    have Hcon := Lib.hid hcon; clear hcon
    have Hm := Lib.hid hm; clear hm
    have Hx := Lib.hid hx; clear hx
    have Hl := Lib.hid hl; clear hl
    have Hg := Lib.hid hg; clear hg
    go_enter Tryz.func161, Tryz.ntmps161
    go_wp2_with fail
    with_reducible refine (Hcon.out).mono ?_
    rintro e w' ⟨rfl, rfl⟩
    go_wp2
    go_ret2
    rw [Hm.out]
    exact ⟨none, 0, 0, rfl, Own.nil _ _ _, Below.refl _ _⟩

/-! ### The model's -/
theorem l1Has_any (ao : Option Addr) (n cap : Nat) (xs : List Int) (x : Int) (w : World) (h : IntsAt w ao n cap xs) :
    Calls Tryz.prog 179 #[.slice ao n cap, .int .i64 x] w fun e w' => e = .returned (.bool (decide (x ∈ xs))) ∧ w = w' := by
  have hn := h.lenInt
  go_enter Tryz.func179, Tryz.ntmps179
  go_wp2
  go_loop [9] (fun i => ∃ k : Nat, k ≤ n ∧ i = .int .i64 k ∧ x ∉ xs.take k) (fun i => n - (intOf i).toNat)
  case atStart => exact ⟨0, Nat.zero_le _, rfl, by simp⟩
  case round =>
    obtain ⟨k, hk, rfl, hno⟩ := hrel
    have Hno := Lib.hid hno; clear hno
    by_cases hlt : k < n
    · obtain ⟨b, o, rfl, hb, hc⟩ := h.cell k hlt
      have hck := hc k hlt
      clear hc
      generalize hx : xs.getD k 0 = y at hck
      have Hx := Lib.hid hx; clear hx
      have Hl := Lib.hid h.length; clear h
      by_cases hxy : y = x
      · subst hxy
        have hd : decide (y ∈ xs) = true := decide_eq_true (getD_mem Hx.out hlt Hl.out)
        have Hd := Lib.hid hd; clear hd
        go_wp2
        go_ret
        exact ⟨retB Hd.out.symm, rfl⟩
      · have hne : (y == x) = false := by simpa using hxy
        go_wp2
        go_round
        case rel =>
          refine ⟨k + 1, by omega, by go_num, fun hm => ?_⟩
          rw [take_snoc Hx.out hlt Hl.out] at hm
          rcases List.mem_append.1 hm with h' | h'
          · exact Hno.out h'
          · exact hxy (List.mem_singleton.1 h').symm
        case measure => simp [intOf]; omega
    · go_wp2
      go_ret
      obtain rfl : n = k := by omega
      have hh := Hno.out
      rw [take_all h.length] at hh
      exact ⟨retB (decide_eq_false hh).symm, rfl⟩

set_option maxHeartbeats 1600000 in
set_option maxRecDepth 100000 in
theorem piPast_any (ao : Option Addr) (n cap : Nat) (xs : List Int) (x : Int) (w : World) (h : IntsAt w ao n cap xs) (hg : Good xs) (hok : PastOk xs x) :
    Calls Tryz.prog 180 #[.slice ao n cap, .int .i64 x] w fun e w' => ∃ ao' n' cap', e = .returned (.slice ao' n' cap') ∧ Own w.heap.size w'.heap.size w' ao' n' cap' (pastL xs x) ∧ Below w.heap.size w w' := by
  have hl := h.length
  have hlen := hg.len
  have hn28 : (n : Int) ≤ 28 := by omega
  have hxm := hg.mem hok.1
  have hle := hok.2
  rw [hl] at hle
  have Hl := Lib.hid hl; clear hl
  have Hg := Lib.hid hg; clear hg
  have Hok := Lib.hid hok; clear hok
  go_enter Tryz.func180, Tryz.ntmps180
  go_wp2
  go_loopw [5, 6, 12] (fun v t i wr => ∃ (k : Nat) (a : Option Addr) (p c : Nat), k ≤ n ∧ i = .int .i64 k ∧ t = .bool (decide (x ∈ xs.take k)) ∧ v = .slice a p c ∧ p ≤ k ∧ Own w.heap.size wr.heap.size wr a p c (((xs.take k).erase x).map (· + 1)) ∧ Below w.heap.size w wr) (fun _ _ i _ => n - (intOf i).toNat)
  case atStart => exact ⟨0, none, 0, 0, Nat.zero_le _, rfl, by simp, rfl, Nat.le_refl _, by simpa using Own.nil _ _ _, Below.refl _ _⟩
  case round =>
    obtain ⟨k, a, p, c, hk, rfl, rfl, rfl, hpk, hown, hb⟩ := hrel
    by_cases hlt : k < n
    · have h1 := h.keep hb
      obtain ⟨b, oo, rfl, hbl, hc⟩ := h1.cell k hlt
      have hck := hc k hlt
      clear hc h1
      generalize hy : xs.getD k 0 = y at hck
      have hym := Hg.out.mem (getD_mem hy hlt Hl.out)
      have e := take_snoc hy hlt Hl.out
      by_cases hyx : y = x ∧ x ∉ xs.take k
      · obtain ⟨rfl, hno⟩ := hyx
        have e2 : (xs.take (k + 1)).erase y = (xs.take k).erase y := by rw [e, List.erase_append_right _ hno, List.erase_of_not_mem hno]; simp
        rw [← e2] at hown
        have e3 : decide (y ∈ xs.take (k + 1)) = true := decide_eq_true (by rw [e]; simp)
        have hd : decide (y ∈ xs.take k) = false := decide_eq_false hno
        have hself : (y == y) = true := by simp
        have E := Lib.hid e; clear e
        have E2 := Lib.hid e2; clear e2
        have E3 := Lib.hid e3; clear e3
        have Hno := Lib.hid hno; clear hno
        have Hy := Lib.hid hy; clear hy
        rw [hd]
        go_wp2
        go_roundw
        case rel => exact ⟨k + 1, a, p, c, by omega, by go_num, by rw [E3.out], rfl, by omega, hown, hb⟩
        case measure => simp [intOf]; omega
      · have e2 : (xs.take (k + 1)).erase x = (xs.take k).erase x ++ [y] := by
          rw [e]
          by_cases hm : x ∈ xs.take k
          · rw [List.erase_append_left _ hm]
          · have hxy : ¬ y = x := fun e => hyx ⟨e, hm⟩
            rw [List.erase_append_right _ hm, List.erase_of_not_mem hm, List.erase_cons_tail (by simpa using hxy)]
            rfl
        have e3 : decide (x ∈ xs.take (k + 1)) = decide (x ∈ xs.take k) := by
          rw [decide_eq_decide, e]
          constructor
          · intro hm
            rcases List.mem_append.1 hm with h' | h'
            · exact h'
            · by_cases hm : x ∈ xs.take k
              · exact hm
              · exact absurd ⟨(List.mem_singleton.1 h').symm, hm⟩ hyx
          · exact fun hm => List.mem_append.2 (.inl hm)
        by_cases hxy : y = x
        · have hm : x ∈ xs.take k := by
            by_cases hm : x ∈ xs.take k
            · exact hm
            · exact absurd ⟨hxy, hm⟩ hyx
          have hd : decide (x ∈ xs.take k) = true := decide_eq_true hm
          rw [hd] at e3
          have hself : (y == x) = true := by simpa using hxy
          have E := Lib.hid e; clear e
          have E2 := Lib.hid e2; clear e2
          have E3 := Lib.hid e3; clear e3
          have Hm := Lib.hid hm; clear hm
          have Hy := Lib.hid hy; clear hy
          have Hyx := Lib.hid hyx; clear hyx
          have Hxy := Lib.hid hxy; clear hxy
          rw [hd]
          clear hd
          go_wp2_with (at_builtin; refine wpList_push wr rfl _ _ rfl w.heap.size wr.heap.size a p c _ rfl hown _ rfl (by omega) hb.size ?_)
          intro a3 c3 w3 ho3 hc3
          have hb3 := hb.trans (hown.chgBelow hc3 hb.size)
          clear hown hc3
          go_wp2
          go_roundw
          case rel => exact ⟨k + 1, a3, p + 1, c3, by omega, by go_num, by rw [E3.out], rfl, by omega, by rw [E2.out, List.map_append]; exact ho3, hb3⟩
          case measure => simp [intOf]; omega
        · have hself : (y == x) = false := by simpa using hxy
          have E := Lib.hid e; clear e
          have E2 := Lib.hid e2; clear e2
          have E3 := Lib.hid e3; clear e3
          have Hy := Lib.hid hy; clear hy
          have Hyx := Lib.hid hyx; clear hyx
          have Hxy := Lib.hid hxy; clear hxy
          go_wp2_with (at_builtin; refine wpList_push wr rfl _ _ rfl w.heap.size wr.heap.size a p c _ rfl hown _ rfl (by omega) hb.size ?_)
          intro a3 c3 w3 ho3 hc3
          have hb3 := hb.trans (hown.chgBelow hc3 hb.size)
          clear hown hc3
          go_wp2
          go_roundw
          case rel => exact ⟨k + 1, a3, p + 1, c3, by omega, by go_num, by rw [E3.out], rfl, by omega, by rw [E2.out, List.map_append]; exact ho3, hb3⟩
          case measure => simp [intOf]; omega
    · obtain rfl : n = k := by omega
      rw [take_all Hl.out] at hown
      have hpl := hown.length
      rw [List.length_map, List.length_erase_of_mem Hok.out.1, Hl.out] at hpl
      subst hpl
      have hn1 : 1 ≤ n := by
        have := List.length_pos_of_mem Hok.out.1
        rw [Hl.out] at this
        exact this
      have ecast : ((n - 1 : Nat) : Int) = (n : Int) - 1 := by omega
      have hmem : decide (x ∈ xs.take n) = true := decide_eq_true (by rw [take_all Hl.out]; exact Hok.out.1)
      have Ecast := Lib.hid ecast; clear ecast
      have Hmem := Lib.hid hmem; clear hmem
      go_wp2
      go_loopw [5, 9] (fun v i wr => ∃ (p : Nat) (a : Option Addr) (c : Nat), n - 1 ≤ p ∧ (p : Int) ≤ x ∧ i = .int .i64 (x - p) ∧ v = .slice a p c ∧ Own w.heap.size wr.heap.size wr a p c ((xs.erase x).map (· + 1) ++ List.replicate (p - (n - 1)) 1) ∧ Below w.heap.size w wr) (fun _ i _ => (intOf i).toNat)
      case atStart => exact ⟨n - 1, a, c, Nat.le_refl _, by omega, rfl, rfl, by simpa using hown, hb⟩
      case round =>
        obtain ⟨p, a2, c2, hp1, hp2, rfl, rfl, hown2, hb2⟩ := hrel
        clear hown hb
        by_cases hlt2 : (p : Int) < x
        · go_wp2_with (at_builtin; refine wpList_push wr rfl _ _ rfl w.heap.size wr.heap.size a2 p c2 _ rfl hown2 _ rfl (by omega) hb2.size ?_)
          intro a3 c3 w3 ho3 hc3
          have hb3 := hb2.trans (hown2.chgBelow hc3 hb2.size)
          clear hown2 hc3
          go_wp2
          go_roundw
          case rel => exact ⟨p + 1, a3, c3, by omega, by omega, valI (by omega), rfl, by rw [show p + 1 - (n - 1) = (p - (n - 1)) + 1 by omega, List.replicate_succ']; exact ho3, hb3⟩
          case measure => simp [intOf]; omega
        · go_wp2
          go_ret
          have e5 : p - (n - 1) = x.toNat - (n - 1) := by omega
          rw [e5] at hown2
          refine ⟨_, _, _, rfl, ?_, hb2⟩
          unfold pastL
          rw [Hl.out]
          exact hown2

def mPastBy (xs : List Int) (x : Int) : List Int × Bool := if goodB xs = true then mPast xs x else ([], false)
theorem mPastBy_yes {xs : List Int} {x : Int} (h : goodB xs = true) : mPastBy xs x = mPast xs x := by unfold mPastBy; rw [if_pos h]
theorem mPastBy_no {xs : List Int} {x : Int} (h : goodB xs = false) : mPastBy xs x = ([], false) := by unfold mPastBy; rw [if_neg (by rw [h]; simp)]
theorem impl_PastBy (ao : Option Addr) (n cap : Nat) (xs : List Int) (x : Int) (w : World) (h : IntsAt w ao n cap xs) :
    Calls Tryz.prog 102 #[.slice ao n cap, .int .i64 x] w fun e w' => ∃ ao' n' cap', e = .returned (.tuple #[.slice ao' n' cap', .bool (mPastBy xs x).2]) ∧ Own w.heap.size w'.heap.size w' ao' n' cap' (mPastBy xs x).1 ∧ Below w.heap.size w w' := by
  cases hg : goodB xs
  · have hm := mPastBy_no (x := x) hg
    have Hg := Lib.hid hg; clear hg
    have Hm := Lib.hid hm; clear hm
    go_enter Tryz.func102, Tryz.ntmps102
    go_wp2_with fail
    with_reducible refine (isPiles_no _ _ _ _ _ h Hg.out).mono ?_
    rintro e w' ⟨rfl, rfl⟩
    go_wp2
    go_ret2
    rw [Hm.out]
    exact ⟨none, 0, 0, rfl, Own.nil _ _ _, Below.refl _ _⟩
  · have hm := mPastBy_yes (x := x) hg
    have Hg := Lib.hid hg; clear hg
    have Hm := Lib.hid hm; clear hm
    go_enter Tryz.func102, Tryz.ntmps102
    go_wp2_with fail
    with_reducible refine (isPiles_yes _ _ _ _ _ h (good_iff.1 Hg.out)).mono ?_
    rintro e w' ⟨rfl, rfl⟩
    go_wp2_with fail
    with_reducible refine (pastBy_any _ _ _ _ _ _ h (good_iff.1 Hg.out)).mono ?_
    rintro e w1 ⟨a1, n1, c1, rfl, ho1, hb1⟩
    go_wp2
    go_ret2
    rw [Hm.out]
    exact ⟨_, _, _, rfl, ho1, hb1⟩

theorem spec_PastBy (ao : Option Addr) (n cap : Nat) (xs : List Int) (x : Int) (w : World) (h : IntsAt w ao n cap xs) :
    Calls Tryz.prog 130 #[.slice ao n cap, .int .i64 x] w fun e w' => ∃ ao' n' cap', e = .returned (.tuple #[.slice ao' n' cap', .bool (mPastBy xs x).2]) ∧ Own w.heap.size w'.heap.size w' ao' n' cap' (mPastBy xs x).1 ∧ Below w.heap.size w w' := by
  cases hg : goodB xs
  · have hm := mPastBy_no (x := x) hg
    have Hg := Lib.hid hg; clear hg
    have Hm := Lib.hid hm; clear hm
    go_enter Tryz.func130, Tryz.ntmps130
    go_wp2_with fail
    with_reducible refine (piGood_no _ _ _ _ _ h Hg.out).mono ?_
    rintro e w' ⟨rfl, rfl⟩
    go_wp2
    go_ret2
    rw [Hm.out]
    exact ⟨none, 0, 0, rfl, Own.nil _ _ _, Below.refl _ _⟩
  · have hm := mPastBy_yes (x := x) hg
    have hl := h.length
    have hG := good_iff.1 hg
    have hlen := hG.len
    have hn28 : (n : Int) ≤ 28 := by omega
    have hhas := l1Has_any ao n cap xs x w h
    by_cases hx1 : x ∈ xs
    · rw [decide_eq_true hx1] at hhas
      have hxm := hG.mem hx1
      by_cases hle : (n : Int) - 1 ≤ x
      · have hok : PastOk xs x := ⟨hx1, by omega⟩
        rw [mPast_yes hok] at hm
        have Hg := Lib.hid hg; clear hg
        have Hm := Lib.hid hm; clear hm
        have Hhas := Lib.hid hhas; clear hhas
        have HG := Lib.hid hG; clear hG
        have Hok := Lib.hid hok; clear hok
        have Hl := Lib.hid hl; clear hl
        have Hx1 := Lib.hid hx1; clear hx1
        go_enter Tryz.func130, Tryz.ntmps130
        go_wp2_with fail
        with_reducible refine (piGood_yes _ _ _ _ _ h HG.out).mono ?_
        rintro e w' ⟨rfl, rfl⟩
        go_wp2_with fail
        with_reducible refine (Hhas.out).mono ?_
        rintro e w' ⟨rfl, rfl⟩
        go_wp2_with fail
        with_reducible refine (piPast_any _ _ _ _ _ _ h HG.out Hok.out).mono ?_
        rintro e w1 ⟨a1, n1, c1, rfl, ho1, hb1⟩
        go_wp2
        go_ret2
        rw [Hm.out]
        exact ⟨_, _, _, rfl, ho1, hb1⟩
      · rw [mPast_no (fun hh => hle (by have := hh.2; omega))] at hm
        have Hg := Lib.hid hg; clear hg
        have Hm := Lib.hid hm; clear hm
        have Hhas := Lib.hid hhas; clear hhas
        have HG := Lib.hid hG; clear hG
        have Hl := Lib.hid hl; clear hl
        have Hx1 := Lib.hid hx1; clear hx1
        go_enter Tryz.func130, Tryz.ntmps130
        go_wp2_with fail
        with_reducible refine (piGood_yes _ _ _ _ _ h HG.out).mono ?_
        rintro e w' ⟨rfl, rfl⟩
        go_wp2_with fail
        with_reducible refine (Hhas.out).mono ?_
        rintro e w' ⟨rfl, rfl⟩
        go_wp2
        go_ret2
        rw [Hm.out]
        exact ⟨none, 0, 0, rfl, Own.nil _ _ _, Below.refl _ _⟩
    · rw [decide_eq_false hx1] at hhas
      rw [mPast_no (fun hh => hx1 hh.1)] at hm
      have Hg := Lib.hid hg; clear hg
      have Hm := Lib.hid hm; clear hm
      have Hhas := Lib.hid hhas; clear hhas
      have HG := Lib.hid hG; clear hG
      have Hl := Lib.hid hl; clear hl
      have Hx1 := Lib.hid hx1; clear hx1
      go_enter Tryz.func130, Tryz.ntmps130
      go_wp2_with fail
      with_reducible refine (piGood_yes _ _ _ _ _ h HG.out).mono ?_
      rintro e w' ⟨rfl, rfl⟩
      go_wp2_with fail
      with_reducible refine (Hhas.out).mono ?_
      rintro e w' ⟨rfl, rfl⟩
      go_wp2
      go_ret2
      rw [Hm.out]
      exact ⟨none, 0, 0, rfl, Own.nil _ _ _, Below.refl _ _⟩
end
end Go.Proofs.YtimmjimeldejjaaGreatDoor
