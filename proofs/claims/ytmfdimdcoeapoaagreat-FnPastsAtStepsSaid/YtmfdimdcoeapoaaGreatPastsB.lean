/- Chapter 1: PastsOf and PastCount, by the model and by the program. No condition. -/
import Derived.Test.YtmfdimdcoeapoaaGreatPasts
namespace Go.Proofs.YtmfdimdcoeapoaaGreat
open Go.RowKit
set_option linter.unusedVariables false
set_option linter.unusedSimpArgs false

theorem Own.ge {B E w ao n cap xs} (h : Own B E w ao n cap xs) : ∀ g, (Value.slice ao n cap).ownBlock = some g → B ≤ g := fun g hg => (h.1.lt g hg).1
theorem OwnRows.drewN {B E w ao n cap xss} (h : OwnRows B E w ao n cap xss) (q : Nat) : OwnRows B E (w.drewN q) ao n cap xss := h
theorem OwnRows.chgBelow {B E w w' ao n cap xss} (h : OwnRows B E w ao n cap xss) (hc : Chg (fun k => (Value.slice ao n cap).ownBlock = some k) w w') (hB : B ≤ w.heap.size) : Below B w w' := by
  obtain ⟨vs, h1, _⟩ := h
  exact h1.chgBelow hc hB
theorem pastsOf_take_length (xs : List Int) (k : Nat) : (pastsOf xs (ascP none (xs.take k))).length ≤ xs.length := by
  have h1 := pastsOf_length xs (ascP none (xs.take k))
  rw [asc_none] at h1 ⊢
  have h2 := ascL_length (xs.take k)
  have h3 : (xs.take k).length ≤ xs.length := by rw [List.length_take]; omega
  omega

set_option maxHeartbeats 3200000 in
set_option maxRecDepth 100000 in
theorem piPasts_any (ao : Option Addr) (n cap : Nat) (xs : List Int) (w : World) (h : IntsAt w ao n cap xs) (hg : Good xs) :
    Calls Tryz.prog 48 #[.slice ao n cap] w fun e w' => ∃ ao' n' cap', e = .returned (.slice ao' n' cap') ∧ OwnRows w.heap.size w'.heap.size w' ao' n' cap' (pastsL xs) ∧ Below w.heap.size w w' := by
  have hl := h.length
  have hlen := hg.len
  have hn28 : (n : Int) ≤ 28 := by omega
  by_cases hz : n = 0
  · have hxs : xs = [] := List.eq_nil_of_length_eq_zero (by omega)
    subst hz
    subst hxs
    have ho := OwnRows.one (w := w) (Own.nil w.heap.size (w.heap.size + 1) w) w.heap.size (Nat.le_refl _) (Nat.le_refl _) (Nat.le_refl _)
    go_enter Tryz.func48, Tryz.ntmps48
    go_wp2
    go_ret
    exact ⟨_, _, _, rfl, by simpa [pastsL] using ho, belowAlloc w _⟩
  · have hne : ((n : Int) == 0) = false := by simp; omega
    have hxs : xs ≠ [] := fun e => hz (by rw [← hl, e]; rfl)
    have Hl := Lib.hid hl; clear hl
    have Hg := Lib.hid hg; clear hg
    have Hxs := Lib.hid hxs; clear hxs
    go_enter Tryz.func48, Tryz.ntmps48
    go_wp2
    go_loopw [3, 12] (fun v i wr => ∃ (k : Nat) (a : Option Addr) (p c : Nat), k ≤ n ∧ i = .int .i64 k ∧ v = .slice a p c ∧ OwnRows w.heap.size wr.heap.size wr a p c (pastsOf xs (ascP none (xs.take k))) ∧ Below w.heap.size w wr) (fun _ i _ => n - (intOf i).toNat)
    case atStart => exact ⟨0, none, 0, 0, Nat.zero_le _, rfl, rfl, OwnRows.nil _ _ _, Below.refl _ _⟩
    case round =>
      obtain ⟨k, a, p, c, hk, rfl, rfl, hown, hb⟩ := hrel
      have hp := hown.length
      have hpl := pastsOf_take_length xs k
      rw [hp] at hpl
      have Hp := Lib.hid hp; clear hp
      by_cases hlt : k < n
      · have h1 := h.keep hb
        obtain ⟨b, oo, rfl, hbl, hc⟩ := h1.cell k hlt
        have hck := hc k hlt
        have Hc := Lib.hid hc
        clear hc
        generalize hx : xs.getD k 0 = x at hck
        have hxm := Hg.out.mem (getD_mem hx hlt Hl.out)
        by_cases hle : (n : Int) - 1 ≤ x
        · have hok : PastOk xs x := ⟨getD_mem hx hlt Hl.out, by rw [Hl.out]; exact hle⟩
          have hcon := piPast_any _ n cap xs x wr h1 Hg.out hok
          by_cases hk0 : k = 0
          · subst hk0
            have hr := pasts_round Hg.out hlt Hl.out hx hle (.inl rfl)
            simp only [Nat.add_zero] at hck
            have Hcon := Lib.hid hcon; clear hcon
            have Hr := Lib.hid hr; clear hr
            have Hok := Lib.hid hok; clear hok
            have Hx := Lib.hid hx; clear hx
            go_wp2_with fail
            with_reducible refine (Hcon.out).mono ?_
            rintro e w1 ⟨a1, n1, c1, rfl, ho1, hb1⟩
            have hadd := piAdd_any w.heap.size wr.heap.size wr.heap.size w1.heap.size _ p c _ a1 n1 c1 _ w1 (hown.keep hb1) hb1.size ho1 hb.size (Nat.le_refl _) ho1.ge (by have := Hl.out; omega) (Nat.le_trans hb.size hb1.size)
            rw [← Hr.out] at hadd
            have Hadd := Lib.hid hadd; clear hadd
            go_wp2_with fail
            with_reducible refine (Hadd.out).mono ?_
            rintro e w2 ⟨a2, n2, c2, rfl, ho2, hb2⟩
            go_wp2
            go_roundw
            case rel => exact ⟨1, a2, n2, c2, by omega, rfl, rfl, ho2, belowTrans (belowTrans hb hb1 (Nat.le_refl _)) hb2 (Nat.le_refl _)⟩
            case measure => simp [intOf]; omega
          · have hck1 := Hc.out (k - 1) (by omega)
            generalize hy : xs.getD (k - 1) 0 = y at hck1
            by_cases hyx : y = x
            · have hr := pasts_skip hlt Hl.out hx (.inr ⟨by omega, by rw [hy, hyx]⟩)
              rw [← hr] at hown
              have hneq : (y != x) = false := by simpa using hyx
              clear hcon
              have Hr := Lib.hid hr; clear hr
              have Hok := Lib.hid hok; clear hok
              have Hx := Lib.hid hx; clear hx
              have Hy := Lib.hid hy; clear hy
              have Hyx := Lib.hid hyx; clear hyx
              go_wp2
              go_roundw
              case rel => exact ⟨k + 1, a, p, c, by omega, by go_num, rfl, hown, hb⟩
              case measure => simp [intOf]; omega
            · have hr := pasts_round Hg.out hlt Hl.out hx hle (.inr ⟨y, hy, hyx⟩)
              have hneq : (y != x) = true := by simpa using hyx
              have Hcon := Lib.hid hcon; clear hcon
              have Hr := Lib.hid hr; clear hr
              have Hok := Lib.hid hok; clear hok
              have Hx := Lib.hid hx; clear hx
              have Hy := Lib.hid hy; clear hy
              have Hyx := Lib.hid hyx; clear hyx
              go_wp2_with fail
              with_reducible refine (Hcon.out).mono ?_
              rintro e w1 ⟨a1, n1, c1, rfl, ho1, hb1⟩
              have hadd := piAdd_any w.heap.size wr.heap.size wr.heap.size w1.heap.size _ p c _ a1 n1 c1 _ w1 (hown.keep hb1) hb1.size ho1 hb.size (Nat.le_refl _) ho1.ge (by have := Hl.out; omega) (Nat.le_trans hb.size hb1.size)
              rw [← Hr.out] at hadd
              have Hadd := Lib.hid hadd; clear hadd
              go_wp2_with fail
              with_reducible refine (Hadd.out).mono ?_
              rintro e w2 ⟨a2, n2, c2, rfl, ho2, hb2⟩
              go_wp2
              go_roundw
              case rel => exact ⟨k + 1, a2, n2, c2, by omega, by go_num, rfl, ho2, belowTrans (belowTrans hb hb1 (Nat.le_refl _)) hb2 (Nat.le_refl _)⟩
              case measure => simp [intOf]; omega
        · have hr := pasts_skip hlt Hl.out hx (.inl (by omega))
          rw [← hr] at hown
          have Hr := Lib.hid hr; clear hr
          have Hx := Lib.hid hx; clear hx
          go_wp2
          go_roundw
          case rel => exact ⟨k + 1, a, p, c, by omega, by go_num, rfl, hown, hb⟩
          case measure => simp [intOf]; omega
      · obtain rfl : n = k := by omega
        go_wp2
        go_ret
        rw [take_all Hl.out, asc_none] at hown
        refine ⟨_, _, _, rfl, ?_, hb⟩
        unfold pastsL
        rw [if_neg Hxs.out]
        exact hown

def mPastsOf (xs : List Int) : List (List Int) × Bool := (if goodB xs then pastsL xs else [], goodB xs)
theorem mPasts_yes {xs : List Int} (h : goodB xs = true) : mPastsOf xs = (pastsL xs, true) := by unfold mPastsOf; rw [h]; rfl
theorem mPasts_no {xs : List Int} (h : goodB xs = false) : mPastsOf xs = ([], false) := by unfold mPastsOf; rw [h]; rfl
theorem pastsL_good {xs : List Int} (hg : Good xs) : ∀ ys ∈ pastsL xs, Good ys := by
  intro ys hy
  unfold pastsL at hy
  split at hy
  · rw [List.mem_singleton.1 hy]; exact good_nil
  · obtain ⟨x, hx, hx1, rfl⟩ := pastsOf_mem hy
    exact past_good hg x (ascL_mem hx) hx1
theorem mPastsOf_bound (xs : List Int) : (mPastsOf xs).1.length ≤ 1048576 ∧ total (mPastsOf xs).1 ≤ 1048576 := by
  cases h : goodB xs
  · rw [mPasts_no h]; simp [total]
  · rw [mPasts_yes h]
    have hG := good_iff.1 h
    have h1 := pastsL_length xs
    have h2 := hG.len
    have h3 := total_le (pastsL xs) 28 (fun ys hy => (pastsL_good hG ys hy).len)
    exact ⟨by show (pastsL xs).length ≤ _; omega, by show total (pastsL xs) ≤ _; omega⟩

set_option maxHeartbeats 3200000 in
set_option maxRecDepth 100000 in
theorem impl_PastsOf (ao : Option Addr) (n cap : Nat) (xs : List Int) (w : World) (h : IntsAt w ao n cap xs) :
    Calls Tryz.prog 31 #[.slice ao n cap] w fun e w' => ∃ ao' n' cap', e = .returned (.tuple #[.slice ao' n' cap', .bool (mPastsOf xs).2]) ∧ OwnRows w.heap.size w'.heap.size w' ao' n' cap' (mPastsOf xs).1 ∧ Below w.heap.size w w' := by
  cases hg : goodB xs
  · have hm := mPasts_no hg
    have Hg := Lib.hid hg; clear hg
    have Hm := Lib.hid hm; clear hm
    go_enter Tryz.func31, Tryz.ntmps31
    go_wp2_with fail
    with_reducible refine (isPiles_no _ _ _ _ _ h Hg.out).mono ?_
    rintro e w' ⟨rfl, rfl⟩
    go_wp2
    go_ret2
    rw [Hm.out]
    exact ⟨none, 0, 0, rfl, OwnRows.nil _ _ _, Below.refl _ _⟩
  · have hm := mPasts_yes hg
    have hG := good_iff.1 hg
    have hl := h.length
    have hlen := hG.len
    have hn28 : (n : Int) ≤ 28 := by omega
    by_cases hz : n = 0
    · have hxs : xs = [] := List.eq_nil_of_length_eq_zero (by omega)
      subst hz
      subst hxs
      have ho := OwnRows.one (Own.empty w) w.heap.size (Nat.le_refl _) (by simp) (by simp)
      have Hg := Lib.hid hg; clear hg
      have Hm := Lib.hid hm; clear hm
      go_enter Tryz.func31, Tryz.ntmps31
      go_wp2_with fail
      with_reducible refine (isPiles_yes _ _ _ _ _ h hG).mono ?_
      rintro e w' ⟨rfl, rfl⟩
      go_wp2
      go_ret2
      rw [Hm.out]
      refine ⟨_, _, _, rfl, ?_, (belowAlloc w _).alloc (by simp) _⟩
      have := ho.mono (Nat.le_refl _) (E' := ((w.alloc (.cells #[] 3)).alloc (.cells #[.slice (some ⟨w.heap.size, 0, none⟩) 0 0] 24)).heap.size) (by simp)
      rw [show (w.alloc (.cells #[] 3)).heap.size = w.heap.size + 1 by simp] at this
      simpa [pastsL] using this
    · have hne : ((n : Int) == 0) = false := by simp; omega
      have hxs : xs ≠ [] := fun e => hz (by rw [← hl, e]; rfl)
      have Hl := Lib.hid hl; clear hl
      have HG := Lib.hid hG; clear hG
      have Hxs := Lib.hid hxs; clear hxs
      have Hg := Lib.hid hg; clear hg
      have Hm := Lib.hid hm; clear hm
      go_enter Tryz.func31, Tryz.ntmps31
      go_wp2_with fail
      with_reducible refine (isPiles_yes _ _ _ _ _ h HG.out).mono ?_
      rintro e w' ⟨rfl, rfl⟩
      go_wp2
      go_loopw [4, 5] (fun v i wr => ∃ (k : Nat) (a : Option Addr) (p c : Nat), k ≤ n ∧ i = .int .i64 ((k : Int) - 1) ∧ v = .slice a p c ∧ OwnRows w.heap.size wr.heap.size wr a p c (pastsOf xs (ascL (xs.drop k))) ∧ Below w.heap.size w wr) (fun _ i _ => (intOf i + 1).toNat)
      case atStart => exact ⟨n, none, 0, 0, Nat.le_refl _, rfl, rfl, by rw [List.drop_of_length_le (by rw [Hl.out]; exact Nat.le_refl _)]; exact OwnRows.nil _ _ _, Below.refl _ _⟩
      case round =>
        obtain ⟨k', a, p, c, hk, rfl, rfl, hown, hb⟩ := hrel
        have hp := hown.length
        have hpl := pastsOf_length xs (ascL (xs.drop k'))
        have hpl2 := ascL_length (xs.drop k')
        rw [hp] at hpl
        rw [List.length_drop] at hpl2
        have Hp := Lib.hid hp; clear hp
        by_cases hlt' : 0 < k'
        · obtain ⟨k, rfl⟩ : ∃ k, k' = k + 1 := ⟨k' - 1, by omega⟩
          have hlt : k < n := by omega
          rw [show (((k + 1 : Nat)) : Int) - 1 = (k : Int) by omega]
          have h1 := h.keep hb
          obtain ⟨b, oo, rfl, hbl, hc⟩ := h1.cell k hlt
          have hck := hc k hlt
          have Hc := Lib.hid hc
          clear hc
          generalize hx : xs.getD k 0 = x at hck
          have hxm := HG.out.mem (getD_mem hx hlt Hl.out)
          have hdrop := ascL_drop hlt Hl.out hx
          by_cases hsame : k + 1 < n ∧ xs.getD (k + 1) 0 = x
          · rw [if_pos hsame, List.append_nil] at hdrop
            rw [← hdrop] at hown
            have hck1 := Hc.out (k + 1) hsame.1
            rw [hsame.2] at hck1
            have hlt1 := hsame.1
            have hd : decide ((k : Int) < (n : Int) - 1) = true := by simp; omega
            have hself : (x == x) = true := by simp
            have Hdrop := Lib.hid hdrop; clear hdrop
            have Hx := Lib.hid hx; clear hx
            have Hsame := Lib.hid hsame; clear hsame
            go_wp2
            go_quiet (fail)
            go_wp2
            go_roundw
            case rel => exact ⟨k, a, p, c, by omega, valI (by omega), rfl, hown.drewN _, belowDrewN hb _⟩
            case measure => simp [intOf] <;> omega
          · rw [if_neg hsame] at hdrop
            replace hdrop := congrArg (pastsOf xs) hdrop
            rw [pastsOf_append] at hdrop
            by_cases hlt1 : k + 1 < n
            · have hck1 := Hc.out (k + 1) hlt1
              generalize hy : xs.getD (k + 1) 0 = y at hck1 hsame
              have hd : decide ((k : Int) < (n : Int) - 1) = true := by simp; omega
              have hself : (x == y) = false := by
                have : ¬ x = y := fun e => hsame ⟨hlt1, e.symm⟩
                simpa using this
              have Hx := Lib.hid hx; clear hx
              have Hsame := Lib.hid hsame; clear hsame
              have Hy := Lib.hid hy; clear hy
              have hcon := fun q => pastBy_any _ n cap xs x (wr.drewN q) (h1.drewN q) HG.out
              by_cases hle : (n : Int) - 1 ≤ x
              · have hok : PastOk xs x := ⟨getD_mem Hx.out hlt Hl.out, by rw [Hl.out]; exact hle⟩
                rw [pastsOf_one, if_pos (by rw [Hl.out]; exact hle)] at hdrop
                have hmp := mPast_yes hok
                rw [hmp] at hcon
                have Hcon := Lib.hid hcon; clear hcon
                have Hdrop := Lib.hid hdrop; clear hdrop
                have Hok := Lib.hid hok; clear hok
                have Hmp := Lib.hid hmp; clear hmp
                go_wp2
                go_quiet (fail)
                go_wp2_with fail
                with_reducible refine (Hcon.out _).mono ?_
                rintro e w1 ⟨a1, n1, c1, rfl, ho1, hb1⟩
                have hown1 := (hown.drewN _).keep hb1
                have hbw := belowTrans (belowDrewN hb _) hb1 (Nat.le_refl _)
                clear hown hck
                go_wp2_with (at_builtin; refine wpList_pushR w1 rfl _ _ rfl w.heap.size wr.heap.size a p c _ rfl hown1 hb1.size a1 n1 c1 wr.heap.size _ ho1 hb.size ho1.ge rfl (by omega) hbw.size ?_)
                intro a3 c3 w3 ho3 hc3
                have hb3 : Below w.heap.size w w3 := hbw.trans (hown1.chgBelow hc3 hbw.size)
                clear hown1 hc3
                go_wp2
                go_roundw
                case rel => exact ⟨k, a3, p + 1, c3, by omega, valI (by omega), rfl, by rw [Hdrop.out]; exact ho3, hb3⟩
                case measure => simp [intOf] <;> omega
              · rw [pastsOf_one, if_neg (by rw [Hl.out]; exact hle), List.append_nil] at hdrop
                have hmp := mPast_no (xs := xs) (x := x) (fun hh => hle (by have := hh.2; rw [Hl.out] at this; exact this))
                rw [hmp] at hcon
                rw [← hdrop] at hown
                have Hcon := Lib.hid hcon; clear hcon
                have Hdrop := Lib.hid hdrop; clear hdrop
                have Hmp := Lib.hid hmp; clear hmp
                go_wp2
                go_quiet (fail)
                go_wp2_with fail
                with_reducible refine (Hcon.out _).mono ?_
                rintro e w1 ⟨a1, n1, c1, rfl, ho1, hb1⟩
                have hown1 := (hown.drewN _).keep hb1
                have hbw := belowTrans (belowDrewN hb _) hb1 (Nat.le_refl _)
                clear hown hck
                go_wp2
                go_roundw
                case rel => exact ⟨k, a, p, c, by omega, valI (by omega), rfl, hown1.mono (Nat.le_refl _) hb1.size, hbw⟩
                case measure => simp [intOf] <;> omega
            · have hd : decide ((k : Int) < (n : Int) - 1) = false := by simp; omega
              have Hx := Lib.hid hx; clear hx
              have Hsame := Lib.hid hsame; clear hsame
              have hcon := fun q => pastBy_any _ n cap xs x (wr.drewN q) (h1.drewN q) HG.out
              by_cases hle : (n : Int) - 1 ≤ x
              · have hok : PastOk xs x := ⟨getD_mem Hx.out hlt Hl.out, by rw [Hl.out]; exact hle⟩
                rw [pastsOf_one, if_pos (by rw [Hl.out]; exact hle)] at hdrop
                have hmp := mPast_yes hok
                rw [hmp] at hcon
                have Hcon := Lib.hid hcon; clear hcon
                have Hdrop := Lib.hid hdrop; clear hdrop
                have Hok := Lib.hid hok; clear hok
                have Hmp := Lib.hid hmp; clear hmp
                go_wp2
                go_quiet (fail)
                go_wp2_with fail
                with_reducible refine (Hcon.out _).mono ?_
                rintro e w1 ⟨a1, n1, c1, rfl, ho1, hb1⟩
                have hown1 := (hown.drewN _).keep hb1
                have hbw := belowTrans (belowDrewN hb _) hb1 (Nat.le_refl _)
                clear hown hck
                go_wp2_with (at_builtin; refine wpList_pushR w1 rfl _ _ rfl w.heap.size wr.heap.size a p c _ rfl hown1 hb1.size a1 n1 c1 wr.heap.size _ ho1 hb.size ho1.ge rfl (by omega) hbw.size ?_)
                intro a3 c3 w3 ho3 hc3
                have hb3 : Below w.heap.size w w3 := hbw.trans (hown1.chgBelow hc3 hbw.size)
                clear hown1 hc3
                go_wp2
                go_roundw
                case rel => exact ⟨k, a3, p + 1, c3, by omega, valI (by omega), rfl, by rw [Hdrop.out]; exact ho3, hb3⟩
                case measure => simp [intOf] <;> omega
              · rw [pastsOf_one, if_neg (by rw [Hl.out]; exact hle), List.append_nil] at hdrop
                have hmp := mPast_no (xs := xs) (x := x) (fun hh => hle (by have := hh.2; rw [Hl.out] at this; exact this))
                rw [hmp] at hcon
                rw [← hdrop] at hown
                have Hcon := Lib.hid hcon; clear hcon
                have Hdrop := Lib.hid hdrop; clear hdrop
                have Hmp := Lib.hid hmp; clear hmp
                go_wp2
                go_quiet (fail)
                go_wp2_with fail
                with_reducible refine (Hcon.out _).mono ?_
                rintro e w1 ⟨a1, n1, c1, rfl, ho1, hb1⟩
                have hown1 := (hown.drewN _).keep hb1
                have hbw := belowTrans (belowDrewN hb _) hb1 (Nat.le_refl _)
                clear hown hck
                go_wp2
                go_roundw
                case rel => exact ⟨k, a, p, c, by omega, valI (by omega), rfl, hown1.mono (Nat.le_refl _) hb1.size, hbw⟩
                case measure => simp [intOf] <;> omega
        · obtain rfl : k' = 0 := by omega
          rw [List.drop_zero] at hown
          go_wp2
          go_ret2
          rw [Hm.out]
          refine ⟨_, _, _, rfl, ?_, hb⟩
          show OwnRows _ _ _ _ _ _ (pastsL xs)
          unfold pastsL
          rw [if_neg Hxs.out]
          exact hown

def mPastCount (xs : List Int) : Int × Bool := (if goodB xs then ((pastsL xs).length : Int) else 0, goodB xs)
theorem mPastCount_yes {xs : List Int} (h : goodB xs = true) : mPastCount xs = (((pastsL xs).length : Int), true) := by unfold mPastCount; rw [h]; rfl
theorem mPastCount_no {xs : List Int} (h : goodB xs = false) : mPastCount xs = (0, false) := by unfold mPastCount; rw [h]; rfl
theorem impl_PastCount (ao : Option Addr) (n cap : Nat) (xs : List Int) (w : World) (h : IntsAt w ao n cap xs) :
    Calls Tryz.prog 14 #[.slice ao n cap] w fun e w' => e = .returned (.tuple #[.int .i64 (mPastCount xs).1, .bool (mPastCount xs).2]) ∧ Below w.heap.size w w' := by
  have hcon := impl_PastsOf ao n cap xs w h
  have hm : (((mPastsOf xs).1.length : Nat) : Int) = (mPastCount xs).1 ∧ (mPastsOf xs).2 = (mPastCount xs).2 := by
    unfold mPastCount mPastsOf
    cases goodB xs <;> exact ⟨rfl, rfl⟩
  have Hcon := Lib.hid hcon; clear hcon
  have Hm := Lib.hid hm; clear hm
  go_enter Tryz.func14, Tryz.ntmps14
  go_wp2_with fail
  with_reducible refine (Hcon.out).mono ?_
  rintro e w1 ⟨a1, n1, c1, rfl, ho1, hb1⟩
  have hl := ho1.length
  have Hl := Lib.hid hl; clear hl
  go_wp2
  go_ret2
  rw [← Hm.out.1, ← Hm.out.2, Hl.out]
  exact ⟨rfl, hb1⟩
end Go.Proofs.YtmfdimdcoeapoaaGreat
