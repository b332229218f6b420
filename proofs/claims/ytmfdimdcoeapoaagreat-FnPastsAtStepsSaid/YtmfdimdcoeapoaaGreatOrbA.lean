/- Chapter 2: small readers: equal lists, order of lists, is it there, are these bits. No condition. -/
import Derived.Test.YtmfdimdcoeapoaaGreatRing
import Derived.Test.YtmfdimdcoeapoaaGreatSort
namespace Go.Proofs.YtmfdimdcoeapoaaGreat
open Go.RowKit
set_option linter.unusedVariables false
set_option linter.unusedSimpArgs false
set_option maxRecDepth 20000

set_option maxHeartbeats 400000 in
theorem l1HasB_any (ao : Option Addr) (n cap : Nat) (xs : List Int) (v : Int) (w : World) (h : IntsAt w ao n cap xs) :
    Calls Tryz.prog 54 #[.slice ao n cap, .int .i64 v] w fun e w' => e = .returned (.bool (decide (v ∈ xs))) ∧ w = w' := by
  have hn := h.lenInt
  go_enter Tryz.func54, Tryz.ntmps54
  go_wp2
  go_loop [9] (fun i => ∃ k : Nat, k ≤ n ∧ i = .int .i64 k ∧ ∀ x ∈ xs.take k, x ≠ v) (fun i => n - (intOf i).toNat)
  case atStart => exact ⟨0, Nat.zero_le _, rfl, by simp⟩
  case round =>
    obtain ⟨k, hk, rfl, hall⟩ := hrel
    have Hall := Lib.hid hall; clear hall
    by_cases hlt : k < n
    · obtain ⟨b, o, rfl, hb, hc⟩ := h.cell k hlt
      have hck := hc k hlt
      clear hc
      generalize hx : xs.getD k 0 = x at hck
      have Hx := Lib.hid hx; clear hx
      have Hl := Lib.hid h.length; clear h
      by_cases hin : x = v
      · subst hin
        go_wp2
        go_ret
        have hyes : decide (x ∈ xs) = true := decide_eq_true (getD_mem Hx.out hlt Hl.out)
        exact ⟨by first | rfl | (rw [hyes]; rfl), rfl⟩
      · have hne : (x == v) = false := by simpa using hin
        have Hin := Lib.hid hin; clear hin
        go_wp2
        go_round
        case rel =>
          refine ⟨k + 1, by omega, by go_num, fun y hy => ?_⟩
          rw [take_snoc Hx.out hlt Hl.out] at hy
          rcases List.mem_append.1 hy with h' | h'
          · exact Hall.out y h'
          · rw [List.mem_singleton.1 h']; exact Hin.out
        case measure => simp [intOf]; omega
    · go_wp2
      go_ret
      obtain rfl : n = k := by omega
      have hh := Hall.out
      rw [take_all h.length] at hh
      have hno : decide (v ∈ xs) = false := decide_eq_false (fun hm => hh v hm rfl)
      exact ⟨by first | rfl | (rw [hno]; rfl), rfl⟩

theorem idxFrom_mem (xs : List Int) (x : Int) : ∀ i : Nat, 0 ≤ Lib.idxFrom xs x i ↔ x ∈ xs := by
  induction xs with
  | nil => intro i; simp [Lib.idxFrom]
  | cons a l ih =>
    intro i
    unfold Lib.idxFrom
    by_cases h : a = x
    · subst h; simp
    · have h' : ¬ x = a := fun e => h e.symm
      simp only [h, h', List.mem_cons, false_or]
      exact ih (i + 1)
theorem idxOf_mem (xs : List Int) (x : Int) : 0 ≤ Lib.idxOf xs x ↔ x ∈ xs := idxFrom_mem xs x 0
/-! ### Bits -/
def Bits (bs : List Int) : Prop := (1 ≤ bs.length ∧ bs.length ≤ 8) ∧ (∀ b ∈ bs, 0 ≤ b ∧ b ≤ 1) ∧ 0 ∈ bs
instance (bs : List Int) : Decidable (Bits bs) := by unfold Bits; infer_instance
def bitsB (bs : List Int) : Bool := decide (Bits bs)
theorem bits_iff {bs : List Int} : bitsB bs = true ↔ Bits bs := by unfold bitsB; simp
theorem Bits.isB {bs : List Int} (h : Bits bs) : IsB bs := fun b hb => by have := h.2.1 b hb; omega

set_option maxHeartbeats 800000 in
theorem orBits_any (ao : Option Addr) (n cap : Nat) (bs : List Int) (w : World) (h : IntsAt w ao n cap bs) :
    Calls Tryz.prog 34 #[.slice ao n cap] w fun e w' => e = .returned (.bool (bitsB bs)) ∧ w = w' := by
  have hn := h.lenInt
  have hl := h.length
  have hin := l1In_any n 1 8 w
  have hall := l1All_any ao n cap bs 0 1 w h
  have hhas := l1HasB_any ao n cap bs 0 w h
  by_cases h1 : 1 ≤ (n : Int) ∧ (n : Int) ≤ 8
  · rw [decide_eq_true h1] at hin
    by_cases h2 : ∀ b ∈ bs, 0 ≤ b ∧ b ≤ 1
    · rw [decide_eq_true h2] at hall
      by_cases h3 : 0 ∈ bs
      · rw [decide_eq_true h3] at hhas
        have hb : bitsB bs = true := bits_iff.2 ⟨⟨by omega, by omega⟩, h2, h3⟩
        have Hb := Lib.hid hb; clear hb
        have H2 := Lib.hid h2; clear h2
        have H3 := Lib.hid h3; clear h3
        have Hin := Lib.hid hin; clear hin
        have Hall := Lib.hid hall; clear hall
        have Hhas := Lib.hid hhas; clear hhas
        go_enter Tryz.func34, Tryz.ntmps34
        go_wp2_with (first | (go_at_call 27; refine (Hin.out).mono ?_; rintro e w' ⟨rfl, rfl⟩) | (go_at_call 46; refine (Hall.out).mono ?_; rintro e w' ⟨rfl, rfl⟩) | (go_at_call 54; refine (Hhas.out).mono ?_; rintro e w' ⟨rfl, rfl⟩))
        go_ret
        exact ⟨by rw [Hb.out]; rfl, rfl⟩
      · rw [decide_eq_false h3] at hhas
        have hb : bitsB bs = false := by cases hb : bitsB bs with
          | false => rfl
          | true => exact absurd (bits_iff.1 hb).2.2 h3
        have Hb := Lib.hid hb; clear hb
        have H2 := Lib.hid h2; clear h2
        have H3 := Lib.hid h3; clear h3
        have Hin := Lib.hid hin; clear hin
        have Hall := Lib.hid hall; clear hall
        have Hhas := Lib.hid hhas; clear hhas
        go_enter Tryz.func34, Tryz.ntmps34
        go_wp2_with (first | (go_at_call 27; refine (Hin.out).mono ?_; rintro e w' ⟨rfl, rfl⟩) | (go_at_call 46; refine (Hall.out).mono ?_; rintro e w' ⟨rfl, rfl⟩) | (go_at_call 54; refine (Hhas.out).mono ?_; rintro e w' ⟨rfl, rfl⟩))
        go_ret
        exact ⟨by rw [Hb.out]; rfl, rfl⟩
    · rw [decide_eq_false h2] at hall
      have hb : bitsB bs = false := by cases hb : bitsB bs with
        | false => rfl
        | true => exact absurd (bits_iff.1 hb).2.1 h2
      have Hb := Lib.hid hb; clear hb
      have H2 := Lib.hid h2; clear h2
      have Hin := Lib.hid hin; clear hin
      have Hall := Lib.hid hall; clear hall
      have Hhas := Lib.hid hhas; clear hhas
      go_enter Tryz.func34, Tryz.ntmps34
      go_wp2_with (first | (go_at_call 27; refine (Hin.out).mono ?_; rintro e w' ⟨rfl, rfl⟩) | (go_at_call 46; refine (Hall.out).mono ?_; rintro e w' ⟨rfl, rfl⟩))
      go_ret
      exact ⟨by rw [Hb.out]; rfl, rfl⟩
  · rw [decide_eq_false h1] at hin
    have hb : bitsB bs = false := by cases hb : bitsB bs with
      | false => rfl
      | true => have := (bits_iff.1 hb).1; omega
    have Hb := Lib.hid hb; clear hb
    have H1 := Lib.hid h1; clear h1
    have Hin := Lib.hid hin; clear hin
    have Hall := Lib.hid hall; clear hall
    have Hhas := Lib.hid hhas; clear hhas
    go_enter Tryz.func34, Tryz.ntmps34
    go_wp2_with (first | (go_at_call 27; refine (Hin.out).mono ?_; rintro e w' ⟨rfl, rfl⟩))
    go_ret
    exact ⟨by rw [Hb.out]; rfl, rfl⟩

/-! ### The piles of bits -/
/-- the piles of the first k bits -/
def fromT (bs : List Int) (n k : Nat) : List Int := ((List.range k).map fun (i : Nat) => (n : Int) - 1 - i + bs.getD i 0).filter (fun x => decide (0 < x))
theorem fromT_succ (bs : List Int) (n k : Nat) : fromT bs n (k + 1) = fromT bs n k ++ if 0 < (n : Int) - 1 - k + bs.getD k 0 then [(n : Int) - 1 - k + bs.getD k 0] else [] := by
  unfold fromT
  rw [List.range_succ, List.map_append, List.filter_append]
  congr 1
  by_cases h : 0 < (n : Int) - 1 - k + bs.getD k 0
  · rw [if_pos h, List.map_singleton, List.filter_cons_of_pos (by simpa using h)]; rfl
  · rw [if_neg h, List.map_singleton, List.filter_cons_of_neg (by simpa using h)]; rfl
theorem fromT_all (bs : List Int) (n : Nat) (hn : bs.length = n) : fromT bs n n = fromB bs := by
  subst hn
  induction bs with
  | nil => rfl
  | cons b l ih =>
    unfold fromT
    rw [List.length_cons, List.range_succ_eq_map, List.map_cons, List.map_map]
    have e : ((fun (i : Nat) => (((l.length + 1 : Nat)) : Int) - 1 - i + (b :: l).getD i 0) ∘ Nat.succ) = fun (i : Nat) => ((l.length : Nat) : Int) - 1 - i + l.getD i 0 := by
      funext i
      simp only [Function.comp, Nat.succ_eq_add_one, List.getD_cons_succ]
      omega
    rw [e]
    have e0 : (((l.length + 1 : Nat)) : Int) - 1 - ((0 : Nat) : Int) + (b :: l).getD 0 0 = l.length + b := by simp
    rw [e0]
    unfold fromB
    by_cases h : 0 < (l.length : Int) + b
    · rw [if_pos h, List.filter_cons_of_pos (by simpa using h)]
      congr 1
    · rw [if_neg h, List.filter_cons_of_neg (by simpa using h)]
      exact ih
theorem fromT_length (bs : List Int) (n k : Nat) : (fromT bs n k).length ≤ k := by
  unfold fromT
  have := List.length_filter_le (fun x => decide (0 < x)) ((List.range k).map fun (i : Nat) => (n : Int) - 1 - i + bs.getD i 0)
  simpa using this

set_option maxHeartbeats 800000 in
theorem orFrom_any (ao : Option Addr) (n cap : Nat) (bs : List Int) (w : World) (h : IntsAt w ao n cap bs) (hB : IsB bs) (h8 : n ≤ 8) :
    Calls Tryz.prog 35 #[.slice ao n cap] w fun e w' => ∃ ao' n' cap', e = .returned (.slice ao' n' cap') ∧ Own w.heap.size w'.heap.size w' ao' n' cap' (fromB bs) ∧ Below w.heap.size w w' := by
  have hl0 := h.length
  have Hl0 := Lib.hid hl0; clear hl0
  go_enter Tryz.func35, Tryz.ntmps35
  go_wp2
  go_loopw [3, 9] (fun v i wr => ∃ (k : Nat) (a : Option Addr) (m c : Nat), k ≤ n ∧ i = .int .i64 k ∧ v = .slice a m c ∧ Own w.heap.size wr.heap.size wr a m c (fromT bs n k) ∧ Below w.heap.size w wr) (fun _ i _ => n - (intOf i).toNat)
  case atStart => exact ⟨0, none, 0, 0, Nat.zero_le _, rfl, rfl, Own.nil _ _ _, Below.refl _ _⟩
  case round =>
    obtain ⟨k, a, m, c, hk, rfl, rfl, hown, hb⟩ := hrel
    have hm := hown.length
    have hml := fromT_length bs n k
    rw [hm] at hml
    have Hm := Lib.hid hm; clear hm
    by_cases hlt : k < n
    · have h1 := h.keep hb
      obtain ⟨b, oo, rfl, hbl, hc⟩ := h1.cell k hlt
      have hck := hc k hlt
      clear hc h1
      have e := fromT_succ bs n k
      generalize hx : bs.getD k 0 = x at hck e
      have hxm := hB x (getD_mem hx hlt Hl0.out)
      have Hx := Lib.hid hx; clear hx
      by_cases hx1 : 0 < (n : Int) - 1 - k + x
      · rw [if_pos hx1] at e
        have E := Lib.hid e; clear e
        go_wp2_with (at_builtin; refine wpList_push wr rfl _ _ rfl w.heap.size wr.heap.size a m c _ rfl hown _ rfl (by omega) hb.size ?_)
        intro ao2 cap2 w2 ho2 hc2
        have hb2 := hown.chgBelow hc2 hb.size
        clear hown
        go_wp2
        go_roundw
        case rel => exact ⟨k + 1, ao2, _, cap2, by omega, by go_num, rfl, by rw [E.out]; exact ho2, hb.trans hb2⟩
        case measure => simp [intOf]; omega
      · rw [if_neg hx1, List.append_nil] at e
        have E := Lib.hid e; clear e
        go_wp2
        go_roundw
        case rel => exact ⟨k + 1, a, m, c, by omega, by go_num, rfl, by rw [E.out]; exact hown, hb⟩
        case measure => simp [intOf]; omega
    · obtain rfl : n = k := by omega
      rw [fromT_all bs n Hl0.out] at hown
      go_wp2
      go_ret
      exact ⟨_, _, _, rfl, hown, hb⟩
end Go.Proofs.YtmfdimdcoeapoaaGreat
