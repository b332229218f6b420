/- slices.Concat, inOrder, and a step of piles by the program. No condition but sizes. -/
import Derived.Test.YteofiikjilhlgaaSort
import Derived.Test.YteofiikjilhlgaaPileF
namespace Go.Proofs.Yteofiikjilhlgaa
open Go.RowKit Go.Shelf
set_option linter.unusedVariables false
set_option maxRecDepth 20000
set_option linter.unusedSimpArgs false

def catTo (xss : List (List Int)) (k : Nat) : List Int := (xss.take k).flatten
theorem catTo_succ (xss : List (List Int)) (k n : Nat) (x : List Int) (hk : k < n) (hl : xss.length = n) (hx : xss.getD k [] = x) : catTo xss (k + 1) = catTo xss k ++ x := by
  unfold catTo
  rw [take_snocR hx hk hl, List.flatten_append]
  simp
theorem catTo_all (xss : List (List Int)) (n : Nat) (hl : xss.length = n) : catTo xss n = xss.flatten := by unfold catTo; rw [take_allR hl]
theorem catTo_le (xss : List (List Int)) (k : Nat) : (catTo xss k).length ≤ xss.flatten.length := by
  unfold catTo
  have := congrArg List.flatten (List.take_append_drop k xss)
  rw [List.flatten_append] at this
  have := congrArg List.length this
  simp at this ⊢
  omega

theorem intsAt_one (w : World) (x : Int) : IntsAt (w.alloc (.cells #[.int .i64 x] 3)) (some ⟨w.heap.size, 0, none⟩) 1 1 [x] :=
  ⟨rfl, Nat.le_refl _, by unfold maxLen; omega, (fun e => by cases e), fun j hj => ⟨_, _, rfl, by simp, fun i hi => by
    obtain rfl : i = 0 := by omega
    rw [World.cell?_alloc_at _ _ _ _ rfl]; rfl⟩⟩
theorem rowsAt_pair {w : World} {a m c xs a2 m2 c2 ys} (h1 : IntsAt w a m c xs) (h2 : IntsAt w a2 m2 c2 ys) :
    RowsAt (w.alloc (.cells #[.slice a m c, .slice a2 m2 c2] 25)) (some ⟨w.heap.size, 0, none⟩) 2 2 [xs, ys] :=
  ⟨rfl, Nat.le_refl _, by unfold maxLen; omega, (fun e => by cases e), fun j hj => ⟨_, _, rfl, by simp, fun i hi => by
    have hb := belowAlloc w (.cells #[.slice a m c, .slice a2 m2 c2] 25)
    have hi' : i = 0 ∨ i = 1 := by omega
    rcases hi' with rfl | rfl
    · exact ⟨a, m, c, by rw [World.cell?_alloc_at _ _ _ _ rfl]; rfl, h1.keep hb⟩
    · exact ⟨a2, m2, c2, by rw [World.cell?_alloc_at _ _ _ _ rfl]; rfl, h2.keep hb⟩⟩⟩

theorem rowsAt_one {w : World} {a m c xs} (h1 : IntsAt w a m c xs) :
    RowsAt (w.alloc (.cells #[.slice a m c] 25)) (some ⟨w.heap.size, 0, none⟩) 1 1 [xs] :=
  ⟨rfl, Nat.le_refl _, by unfold maxLen; omega, (fun e => by cases e), fun j hj => ⟨_, _, rfl, by simp, fun i hi => by
    have hb := belowAlloc w (.cells #[.slice a m c] 25)
    obtain rfl : i = 0 := by omega
    exact ⟨a, m, c, by rw [World.cell?_alloc_at _ _ _ _ rfl]; rfl, h1.keep hb⟩⟩⟩

/-- a row of one number that the call made -/
theorem Own.single (w : World) (x : Int) : Own w.heap.size (w.alloc (.cells #[.int .i64 x] 3)).heap.size (w.alloc (.cells #[.int .i64 x] 3)) (some ⟨w.heap.size, 0, none⟩) 1 1 [x] :=
  Own.of (World.ownsRow_lit w #[.int .i64 x] 1 (Nat.le_refl _) (by unfold maxLen; omega) rfl)

set_option maxHeartbeats 1600000 in
theorem stepOfRow_any (ao : Option Addr) (n cap : Nat) (xs : List Int) (w : World) (h : IntsAt w ao n cap xs) (hg : RowOk xs) :
    Calls Try.prog 35 #[.slice ao n cap] w fun e w' => ∃ ao' n' cap', e = .returned (.slice ao' n' cap') ∧ Own w.heap.size w'.heap.size w' ao' n' cap' (rowStepL xs) ∧ Below w.heap.size w w' := by
  have hlen := hg.len
  have hl0 := h.length
  by_cases hz : n = 0
  · have hxs : xs = [] := List.eq_nil_of_length_eq_zero (by omega)
    subst hz
    subst hxs
    go_enter Try.func35, Try.ntmps35
    go_wp2
    go_ret
    exact ⟨_, _, _, rfl, Own.empty w, belowAlloc w _⟩
  · have hn : (n : Int) ≤ 28 := by omega
    have hne : ((n : Int) == 0) = false := by simp; omega
    have hxs : xs ≠ [] := fun e => hz (by rw [← hl0, e]; rfl)
    have hsg := Own.single w (n : Int)
    have hba := belowAlloc w (.cells #[.int .i64 (n : Int)] 3)
    have Hxs := Lib.hid hxs; clear hxs
    have Hg := Lib.hid hg; clear hg
    have Hl0 := Lib.hid hl0; clear hl0
    have Hsg := Lib.hid hsg; clear hsg
    have Hba := Lib.hid hba; clear hba
    go_enter Try.func35, Try.ntmps35
    go_wp2
    go_loopw [3, 15] (fun v i wr => ∃ (k : Nat) (a : Option Addr) (m c : Nat), k ≤ n ∧ i = .int .i64 k ∧ v = .slice a m c ∧ Own w.heap.size wr.heap.size wr a m c ((n : Int) :: lowL (xs.take k)) ∧ Below w.heap.size w wr) (fun _ i _ => n - (intOf i).toNat)
    case atStart => exact ⟨0, _, _, _, Nat.zero_le _, rfl, rfl, Hsg.out, Hba.out⟩
    case round =>
      obtain ⟨k, a, m, c, hk, rfl, rfl, hown, hb⟩ := hrel
      have hm := hown.length
      have hml := lowL_length (xs.take k)
      have htl : (xs.take k).length ≤ 28 := by rw [List.length_take]; omega
      rw [List.length_cons] at hm
      have Hm := Lib.hid hm; clear hm
      by_cases hlt : k < n
      · have h1 := h.keep hb
        obtain ⟨b, oo, rfl, hbl, hc⟩ := h1.cell k hlt
        have hck := hc k hlt
        clear hc h1
        generalize hx : xs.getD k 0 = x at hck
        have hxm := Hg.out.mem (getD_mem hx hlt Hl0.out)
        have e := lowL_snoc (xs.take k) x
        rw [← take_snoc hx hlt Hl0.out] at e
        have hm28 : m ≤ 29 := by have := Hm.out; omega
        have Hx := Lib.hid hx; clear hx
        by_cases hx1 : 1 < x
        · rw [if_pos hx1] at e
          have E := Lib.hid e; clear e
          go_wp2_with (at_builtin; refine wpList_push wr rfl _ _ rfl w.heap.size wr.heap.size a m c _ rfl hown _ rfl (by omega) hb.size ?_)
          intro ao2 cap2 w2 ho2 hc2
          have hb2 := hown.chgBelow hc2 hb.size
          clear hown
          go_wp2
          go_roundw
          case rel => exact ⟨k + 1, ao2, _, cap2, by omega, by go_num, rfl, by rw [E.out]; exact ho2, hb.trans hb2⟩
          case measure => simp [intOf]; omega
        · rw [if_neg hx1, List.append_nil] at e
          have E := Lib.hid e; clear e
          go_wp2
          go_roundw
          case rel => exact ⟨k + 1, a, m, c, by omega, by go_num, rfl, by rw [E.out]; exact hown, hb⟩
          case measure => simp [intOf]; omega
      · obtain rfl : n = k := by omega
        rw [take_all Hl0.out] at hown
        go_wp2
        go_ret
        refine ⟨_, _, _, rfl, ?_, hb⟩
        rw [rowStepL_cons Hxs.out, Hl0.out]
        exact hown

end Go.Proofs.Yteofiikjilhlgaa
