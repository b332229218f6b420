/- Several texts in one: Pasts, PastsB, All, BbR. No condition. -/
import Derived.Test.YtnebfojnbjbogaaGreatDoorGh
import Derived.Test.YtnebfojnbjbogaaGreatDoorGg
import Derived.Test.YtnebfojnbjbogaaGreatDoorGa
import Derived.Test.YtnebfojnbjbogaaGreatDoorGf
import Derived.Test.YtnebfojnbjbogaaGreatDoorGc
namespace Go.Proofs.YtnebfojnbjbogaaGreatDoor
section
open Go.RowKit
set_option linter.unusedVariables false
set_option linter.unusedSimpArgs false

/-! ### Order of lists -/
theorem befB_eq {xs ys : List Int} {k : Nat} (h : xs.take k = ys.take k) (hx : k ≤ xs.length) (hy : k ≤ ys.length) : befB xs ys = befB (xs.drop k) (ys.drop k) := by
  induction k generalizing xs ys with
  | zero => rfl
  | succ k ih =>
    cases xs with
    | nil => simp at hx
    | cons a t1 =>
      cases ys with
      | nil => simp at hy
      | cons b t2 =>
        simp only [List.take_succ_cons, List.cons.injEq] at h
        obtain ⟨rfl, h⟩ := h
        simp only [List.length_cons] at hx hy
        simp only [befB, if_true, List.drop_succ_cons]
        exact ih h (by omega) (by omega)
theorem befB_diff {xs ys : List Int} {k : Nat} {a b : Int} (h : xs.take k = ys.take k) (hx : k < xs.length) (hy : k < ys.length) (ha : xs.getD k 0 = a) (hb : ys.getD k 0 = b) (hab : a ≠ b) : befB xs ys = decide (b < a) := by
  rw [befB_eq h (by omega) (by omega), List.drop_eq_getElem_cons hx, List.drop_eq_getElem_cons hy]
  rw [List.getD_eq_getElem?_getD, List.getElem?_eq_getElem hx] at ha
  rw [List.getD_eq_getElem?_getD, List.getElem?_eq_getElem hy] at hb
  simp only [Option.getD_some] at ha hb
  rw [ha, hb]
  simp only [befB, if_neg hab]
theorem befB_end {xs ys : List Int} {k : Nat} (h : xs.take k = ys.take k) (hx : k ≤ xs.length) (hy : k ≤ ys.length) (hk : k = xs.length ∨ k = ys.length) : befB xs ys = decide (ys.length < xs.length) := by
  rw [befB_eq h hx hy]
  rcases hk with rfl | rfl
  · rw [List.drop_of_length_le (Nat.le_refl _)]
    simp only [befB]
    symm; rw [decide_eq_false_iff_not]; omega
  · rw [List.drop_of_length_le (l := ys) (Nat.le_refl _)]
    cases h' : xs.drop ys.length with
    | nil =>
      have := congrArg List.length h'
      simp at this
      simp only [befB]
      symm; rw [decide_eq_false_iff_not]; omega
    | cons z l =>
      have := congrArg List.length h'
      simp at this
      simp only [befB]
      symm; rw [decide_eq_true_iff]; omega

theorem addL_at {xss : List (List Int)} {ys : List Int} {k : Nat} (h1 : ∀ l ∈ xss.take k, befB l ys = true) (h2 : ∀ l, (xss.drop k).head? = some l → befB l ys = false) : addL xss ys = xss.take k ++ ys :: xss.drop k := by
  have e := List.take_append_drop k xss
  unfold addL
  conv => lhs; rw [← e]
  rw [List.takeWhile_append_of_pos h1, List.dropWhile_append_of_pos h1]
  cases h : xss.drop k with
  | nil => simp
  | cons l t =>
    have := h2 l (by rw [h]; rfl)
    rw [List.takeWhile_cons_of_neg (by rw [this]; simp), List.dropWhile_cons_of_neg (by rw [this]; simp)]
    simp

theorem OwnRow.drew {B E w ty ao n cap vs} (h : OwnRow B E w ty ao n cap vs) : OwnRow B E w.drew ty ao n cap vs := h
theorem ValsAt.drew {w ao n cap vs} (h : ValsAt w ao n cap vs) : ValsAt w.drew ao n cap vs := ⟨h.length, h.le, h.max, h.isNil, h.cell⟩
theorem valsAt_one (w : World) (v : Value) : ValsAt (w.alloc (.cells #[v] 30)) (some ⟨w.heap.size, 0, none⟩) 1 1 [v] :=
  ⟨rfl, Nat.le_refl _, by unfold maxLen; omega, (fun e => by cases e), fun j hj => ⟨_, _, rfl, by simp, fun i hi => by
    obtain rfl : i = 0 := by omega
    rw [World.cell?_alloc_at _ _ _ _ rfl]; rfl⟩⟩

end
end Go.Proofs.YtnebfojnbjbogaaGreatDoor
namespace Go.Proofs.YtnebfojnbjbogaaGreatDoor
section
open Go.RowKit
set_option linter.unusedVariables false
set_option linter.unusedSimpArgs false

theorem Own.ge {B E w ao n cap xs} (h : Own B E w ao n cap xs) : ∀ g, (Value.slice ao n cap).ownBlock = some g → B ≤ g := fun g hg => (h.1.lt g hg).1
theorem OwnRows.drewN {B E w ao n cap xss} (h : OwnRows B E w ao n cap xss) (q : Nat) : OwnRows B E (w.drewN q) ao n cap xss := h
theorem OwnRows.chgBelow {B E w w' ao n cap xss} (h : OwnRows B E w ao n cap xss) (hc : Chg (fun k => (Value.slice ao n cap).ownBlock = some k) w w') (hB : B ≤ w.heap.size) : Below B w w' := by
  obtain ⟨vs, h1, _⟩ := h
  exact h1.chgBelow hc hB
theorem pastsOf_take_length (xs : List Int) (k : Nat) : (pastsOf xs (ascP none (xs.take k))).length ≤ xs.length := by
  have h1 := pastsOf_length xs (ascP none (xs.take k))
  rw [asc_none] at h1 ⊢
  have h2 := ascL_length (xs.take k)
  have h3 : (xs.take k).length ≤ xs.length := by rw [List.length_take]; omega
  omega

def mPastsOf (xs : List Int) : List (List Int) × Bool := (if goodB xs then pastsL xs else [], goodB xs)
theorem mPasts_yes {xs : List Int} (h : goodB xs = true) : mPastsOf xs = (pastsL xs, true) := by unfold mPastsOf; rw [h]; rfl
theorem mPasts_no {xs : List Int} (h : goodB xs = false) : mPastsOf xs = ([], false) := by unfold mPastsOf; rw [h]; rfl
theorem pastsL_good {xs : List Int} (hg : Good xs) : ∀ ys ∈ pastsL xs, Good ys := by
  intro ys hy
  unfold pastsL at hy
  split at hy
  · rw [List.mem_singleton.1 hy]; exact good_nil
  · obtain ⟨x, hx, hx1, rfl⟩ := pastsOf_mem hy
    exact past_good hg x (ascL_mem hx) hx1
theorem mPastsOf_bound (xs : List Int) : (mPastsOf xs).1.length ≤ 1048576 ∧ total (mPastsOf xs).1 ≤ 1048576 := by
  cases h : goodB xs
  · rw [mPasts_no h]; simp [total]
  · rw [mPasts_yes h]
    have hG := good_iff.1 h
    have h1 := pastsL_length xs
    have h2 := hG.len
    have h3 := total_le (pastsL xs) 28 (fun ys hy => (pastsL_good hG ys hy).len)
    exact ⟨by show (pastsL xs).length ≤ _; omega, by show total (pastsL xs) ≤ _; omega⟩

def mPastCount (xs : List Int) : Int × Bool := (if goodB xs then ((pastsL xs).length : Int) else 0, goodB xs)
theorem mPastCount_yes {xs : List Int} (h : goodB xs = true) : mPastCount xs = (((pastsL xs).length : Int), true) := by unfold mPastCount; rw [h]; rfl
theorem mPastCount_no {xs : List Int} (h : goodB xs = false) : mPastCount xs = (0, false) := by unfold mPastCount; rw [h]; rfl
end
end Go.Proofs.YtnebfojnbjbogaaGreatDoor
namespace Go.Proofs.YtnebfojnbjbogaaGreatDoor
section
open Go.RowKit
set_option linter.unusedVariables false
set_option linter.unusedSimpArgs false

theorem mAllPiles_bound (n : Int) : (mAllPiles n).1.length ≤ 1048576 ∧ total (mAllPiles n).1 ≤ 1048576 := by
  unfold mAllPiles
  split
  · next h =>
    have h1 := allF_length 28 n.toNat n.toNat (by omega) (by omega) (by omega)
    have h2 := cnt_le n.toNat (by omega) n.toNat (by omega)
    have h3 := total_le (allL n.toNat) 28 (fun ys hy => Nat.le_trans (allF_row 28 n.toNat n.toNat ys hy) (by omega))
    have h4 : (allL n.toNat).length = cnt n.toNat n.toNat := h1
    exact ⟨by show (allL n.toNat).length ≤ _; omega, by show total (allL n.toNat) ≤ _; omega⟩
  · simp [total]

theorem own_one (w : World) (x : Int) : Own w.heap.size (w.heap.size + 1) (w.alloc (.cells #[.int .i64 x] 3)) (some ⟨w.heap.size, 0, none⟩) 1 1 [x] :=
  ⟨⟨rfl, .inr ⟨w.heap.size, 1, #[.int .i64 x], rfl, Nat.le_refl _, heap_alloc_new w _, Nat.le_refl _, by unfold maxLen; omega, rfl, rfl⟩⟩, fun g hg => by simp [Value.ownBlock] at hg; omega⟩

set_option maxHeartbeats 3200000 in
set_option maxRecDepth 100000 in
theorem piAll_any (f : Nat) : ∀ (n most : Nat) (w : World), n ≤ f → n ≤ 28 → most ≤ 28 →
    Calls Tryz.prog 43 #[.int .i64 n, .int .i64 most] w fun e w' => ∃ ao' n' cap', e = .returned (.slice ao' n' cap') ∧ OwnRows w.heap.size w'.heap.size w' ao' n' cap' (allF f n most) ∧ Below w.heap.size w w' := by
  induction f with
  | zero =>
    intro n most w h1 h2 h3
    obtain rfl : n = 0 := by omega
    have ho := OwnRows.one (w := w) (Own.nil w.heap.size (w.heap.size + 1) w) w.heap.size (Nat.le_refl _) (Nat.le_refl _) (Nat.le_refl _)
    go_enter Tryz.func43, Tryz.ntmps43
    go_wp2_with fail
    go_ret
    exact ⟨_, _, _, rfl, by simpa [allF] using ho, belowAlloc w _⟩
  | succ f ih =>
    intro n most w h1 h2 h3
    by_cases hn : n = 0
    · subst hn
      have ho := OwnRows.one (w := w) (Own.nil w.heap.size (w.heap.size + 1) w) w.heap.size (Nat.le_refl _) (Nat.le_refl _) (Nat.le_refl _)
      go_enter Tryz.func43, Tryz.ntmps43
      go_wp2_with fail
      go_ret
      exact ⟨_, _, _, rfl, by simpa [allF] using ho, belowAlloc w _⟩
    · have hne : ((n : Int) == 0) = false := by simp; omega
      have hmn : min (n : Int) (most : Int) = ((min n most : Nat) : Int) := by omega
      have hq : min n most ≤ n := Nat.min_le_left _ _
      have hlen := fun X => allPart_length f n most X hn h1 h2 h3
      have hend := allPart_end f n most hn
      have hstart := allPart_start f n (min n most)
      have hstep := fun X => allPart_step f n (min n most) X
      have hcon := l1Least_any (n : Int) (most : Int) w
      rw [hmn] at hcon
      generalize min n most = Q at *
      have Hmn := Lib.hid hmn; clear hmn
      have Hlen := Lib.hid hlen; clear hlen
      have Hend := Lib.hid hend; clear hend
      have Hstart := Lib.hid hstart; clear hstart
      have Hstep := Lib.hid hstep; clear hstep
      have Hcon := Lib.hid hcon; clear hcon
      have Ih := Lib.hid ih; clear ih
      go_enter Tryz.func43, Tryz.ntmps43
      go_wp2_with fail
      with_reducible refine (Hcon.out).mono ?_
      rintro e w' ⟨rfl, rfl⟩
      go_wp2_with fail
      go_loopw [5, 6] (fun v x wr => ∃ (X : Nat) (a : Option Addr) (p c : Nat), X ≤ Q ∧ x = .int .i64 X ∧ v = .slice a p c ∧ OwnRows w.heap.size wr.heap.size wr a p c (allPart f n Q X) ∧ Below w.heap.size w wr) (fun _ x _ => (intOf x).toNat)
      case atStart => exact ⟨Q, none, 0, 0, Nat.le_refl _, rfl, rfl, by rw [Hstart.out]; exact OwnRows.nil _ _ _, Below.refl _ _⟩
      case round =>
        obtain ⟨X, a, p, c, hX, rfl, rfl, hown, hb⟩ := hrel
        by_cases hlt : 1 ≤ X
        · have hcon2 := Ih.out (n - X) X wr (by omega) (by omega) (by omega)
          have ecast : ((n - X : Nat) : Int) = (n : Int) - (X : Int) := by omega
          rw [ecast] at hcon2
          have hst := Hstep.out X hlt hX
          have hrow := allF_row f (n - X) X
          have hlen2 := allF_length f (n - X) X (by omega) (by omega) (by omega)
          have hcl := cnt_le X (by omega) (n - X) (by omega)
          rw [← hlen2] at hcl
          have hpl := Hlen.out X
          have hpl1 := Hlen.out (X - 1)
          have hp0 := hown.length
          generalize allF f (n - X) X = R at *
          generalize hPX : allPart f n Q X = PX at *
          have hrl := getD_row hrow
          have Hcon2 := Lib.hid hcon2; clear hcon2
          have Ecast := Lib.hid ecast; clear ecast
          have Hst := Lib.hid hst; clear hst
          have Hrow := Lib.hid hrow; clear hrow
          have Hrl := Lib.hid hrl; clear hrl
          have HPX := Lib.hid hPX; clear hPX
          have Hpl1 := Lib.hid hpl1; clear hpl1
          have Hlen2 := Lib.hid hlen2; clear hlen2
          go_wp2_with fail
          with_reducible refine (Hcon2.out).mono ?_
          rintro e w1 ⟨a1, n1, c1, rfl, ho1, hb1⟩
          have hn1 := ho1.length
          have hown1 := hown.keep hb1
          have hbw := belowTrans hb hb1 (Nat.le_refl _)
          rw [hp0] at hpl
          rw [hn1] at hcl
          have Hn1 := Lib.hid hn1; clear hn1
          have Hp0 := Lib.hid hp0; clear hp0
          have hB1 := hb1.size
          have hB2 := hb.size
          have hsp : ∀ g, (Value.slice a p c).ownBlock = some g → g < wr.heap.size := by
            obtain ⟨vs, k1, _⟩ := hown
            exact fun g hg => k1.2 g hg
          clear hown hb hb1
          obtain ⟨wi, hwi⟩ : ∃ wi : World, wi = wr := ⟨_, rfl⟩
          subst hwi
          obtain ⟨wo, hwo⟩ : ∃ wo : World, wo = w1 := ⟨_, rfl⟩
          subst hwo
          have Hsp := Lib.hid hsp; clear hsp
          go_wp2_with fail
          go_loopw [5, 25] (fun v i wq => ∃ (j : Nat) (a : Option Addr) (p c : Nat), j ≤ n1 ∧ i = .int .i64 j ∧ v = .slice a p c ∧ OwnRows w.heap.size wq.heap.size wq a p c (PX ++ (R.take j).map ((X : Int) :: ·)) ∧ Below w.heap.size w wq ∧ OwnRows wi.heap.size wo.heap.size wq a1 n1 c1 R ∧ wo.heap.size ≤ wq.heap.size ∧ Hid (∀ g, (Value.slice a p c).ownBlock = some g → g < wi.heap.size ∨ wo.heap.size ≤ g)) (fun _ i _ => n1 - (intOf i).toNat)
          case atStart => exact ⟨0, a, p, c, Nat.zero_le _, rfl, rfl, by simpa using hown1.mono (Nat.le_refl _) hB1, hbw, ho1, Nat.le_refl _, Lib.hid (fun g hg => .inl (Hsp.out g hg))⟩
          case round =>
            obtain ⟨j, a2, p2, c2, hj, rfl, rfl, hoq, hbq, hrs, hsz, hsep⟩ := hrel
            clear hown1 hbw ho1
            have hp2 := hoq.length
            simp only [List.length_append, List.length_map, List.length_take] at hp2
            have hp2' : p2 ≤ 7436 := by have := Hp0.out; omega
            have Hp2 := Lib.hid hp2; clear hp2
            by_cases hlt2 : j < n1
            · obtain ⟨b, oo, rfl, hbl, hc⟩ := hrs.at.cell j hlt2
              obtain ⟨a3, m3, c3, hck, hi⟩ := hc j hlt2
              clear hc
              have hm3 := Hrl.out j
              rw [hi.length] at hm3
              generalize hx : R.getD j [] = ys at hi
              have ho1 := own_one wr (X : Int)
              have hbx := belowAlloc wr (.cells #[.int .i64 (X : Int)] 3)
              have hi1 := hi.keep hbx
              have Hx := Lib.hid hx; clear hx
              go_wp2_with (at_builtin; refine wpList_cat _ rfl _ _ rfl wr.heap.size _ _ 1 1 [(X : Int)] rfl ho1 a3 m3 c3 ys rfl hi1 (by omega) (by simp) ?_)
              intro a4 c4 w4 ho4 hc4
              have hb4 : Below wr.heap.size wr w4 := hbx.trans (ho1.chgBelow hc4 (by simp))
              have hoq4 := hoq.keep hb4
              have hbq4 := belowTrans hbq hb4 (Nat.le_refl _)
              have hrs4 := hrs.keep hb4
              have hs4 := hb4.size
              have htk := take_snocR Hx.out hlt2 (show R.length = n1 by have := Hn1.out; omega)
              have Htk := Lib.hid htk; clear htk
              clear hoq hck hi hi1 hc4 hbx ho1 hrs
              go_wp2_with (at_builtin; refine wpList_pushRX w4 rfl _ _ rfl w.heap.size wr.heap.size a2 p2 c2 _ rfl hoq4 hs4 a4 (1 + m3) c4 wr.heap.size _ ho4 hbq.size ho4.ge rfl (by omega) hbq4.size ?_)
              intro a5 c5 w5 ho5 hc5 hnew
              have hb5 : Below w.heap.size w w5 := hbq4.trans (hoq4.chgBelow hc5 hbq4.size)
              have hrs5 : OwnRows wi.heap.size wo.heap.size w5 _ n1 c1 R := hrs4.chg hc5 fun g g1 g2 hg => by
                have := hsep.out g hg; omega
              have hsep5 := Lib.hid (show ∀ g, (Value.slice a5 (p2 + 1) c5).ownBlock = some g → g < wi.heap.size ∨ wo.heap.size ≤ g from fun g hg => by
                rcases hnew g hg with h' | h'
                · exact hsep.out g h'
                · exact .inr (by omega))
              have hsz5 : wo.heap.size ≤ w5.heap.size := by have := hc5.size; omega
              clear hoq4 hc5 ho4 hb4 hrs4 hnew
              go_wp2
              go_roundw
              case rel => exact ⟨j + 1, a5, p2 + 1, c5, by omega, by go_num, rfl, by rw [Htk.out, List.map_append]; simpa using ho5, hb5, hrs5, hsz5, hsep5⟩
              case measure => simp [intOf] <;> omega
            · obtain rfl : n1 = j := by omega
              rw [List.take_of_length_le (by have := Hn1.out; omega), ← Hst.out] at hoq
              clear hrs
              go_wp2
              go_roundw
              case rel => exact ⟨X - 1, a2, p2, c2, by omega, valI (by omega), rfl, hoq, hbq⟩
              case measure => simp [intOf] <;> omega
        · obtain rfl : X = 0 := by omega
          rw [Hend.out] at hown
          go_wp2
          go_ret
          exact ⟨_, _, _, rfl, hown, hb⟩

end
end Go.Proofs.YtnebfojnbjbogaaGreatDoor
namespace Go.Proofs.YtnebfojnbjbogaaGreatDoor
section
open Go.RowKit
set_option linter.unusedVariables false
set_option linter.unusedSimpArgs false
set_option maxRecDepth 20000

theorem rowBk_take (H l : Nat) (R : List (List Int)) (j : Nat) (ys : List Int) (hj : j < R.length) (hy : R.getD j [] = ys) :
    (R.take (j + 1)).map (fun p => (⟨(H : Int), (l : Int), p⟩ : Bk)) = (R.take j).map (fun p => (⟨(H : Int), (l : Int), p⟩ : Bk)) ++ [⟨(H : Int), (l : Int), ys⟩] := by
  rw [List.take_add_one, List.getElem?_eq_getElem hj, List.map_append]
  rw [List.getD_eq_getElem?_getD, List.getElem?_eq_getElem hj] at hy
  simp at hy
  simp [hy]
set_option maxHeartbeats 3200000 in
set_option maxRecDepth 100000 in
theorem baAll_any (H N : Nat) (w : World) (hH : H ≤ 10) (hN : N ≤ 14) :
    Calls Tryz.prog 19 #[.int .i64 H, .int .i64 N] w fun e w' => ∃ ao n cap, e = .returned (.slice ao n cap) ∧ BksOwn w.heap.size w'.heap.size w' ao n cap (baL H N (min H (N + 1))) ∧ Below w.heap.size w w' := by
  have hcon := fun l (q : l ≤ N) W => piAll_any (N - l) (N - l) H W (Nat.le_refl _) (by omega) (by omega)
  have hbl := fun k => baL_length hH hN k
  have hrl := fun l => rowBk_length hH hN l
  have Hcon := Lib.hid hcon; clear hcon
  have Hbl := Lib.hid hbl; clear hbl
  have Hrl := Lib.hid hrl; clear hrl
  go_enter Tryz.func19, Tryz.ntmps19
  go_wp2
  go_loopw [5, 6] (fun v i wr => ∃ (k : Nat) (a : Option Addr) (p c : Nat), k ≤ min H (N + 1) ∧ i = .int .i64 k ∧ v = .slice a p c ∧ BksOwn w.heap.size wr.heap.size wr a p c (baL H N k) ∧ Below w.heap.size w wr) (fun _ i _ => H - (intOf i).toNat)
  case atStart => exact ⟨0, none, 0, 0, Nat.zero_le _, rfl, rfl, by rw [baL_zero]; exact BksOwn.nil _ _ _, Below.refl _ _⟩
  case round =>
    obtain ⟨k, a, p, c, hk, rfl, rfl, hown, hb⟩ := hrel
    by_cases hlt : k < min H (N + 1)
    · have hkH : (k : Int) < H := by omega
      have hkN : (k : Int) ≤ N := by omega
      have hcon2 := Hcon.out k (by omega) wr
      have ecast : ((N - k : Nat) : Int) = (N : Int) - (k : Int) := by omega
      rw [ecast] at hcon2
      have hp0 := hown.length
      have hp1 := Hbl.out k
      have hst := baL_succ H N k
      have hrk := Hrl.out k
      have hry := getD_row (allF_row (N - k) (N - k) H)
      unfold rowBk at hst hrk
      rw [List.length_map] at hrk
      generalize allF (N - k) (N - k) H = R at *
      generalize hPX : baL H N k = PX at *
      have hk10 : k ≤ 10 := by omega
      have Hcon2 := Lib.hid hcon2; clear hcon2
      have Hst := Lib.hid hst; clear hst
      have Hrk := Lib.hid hrk; clear hrk
      have HPX := Lib.hid hPX; clear hPX
      have Hp0 := Lib.hid hp0; clear hp0
      have Hp1 := Lib.hid hp1; clear hp1
      have Ecast := Lib.hid ecast; clear ecast
      have Hry := Lib.hid hry; clear hry
      go_wp2_with fail
      with_reducible refine (Hcon2.out).mono ?_
      rintro e w1 ⟨a1, n1, c1, rfl, ho1, hb1⟩
      have hn1 := ho1.length
      have hown1 := hown.keep hb1
      have hbw := belowTrans hb hb1 (Nat.le_refl _)
      have hB1 := hb1.size
      have hB2 := hb.size
      have hn8 : n1 ≤ 3718 := by have := Hrk.out; omega
      have hp8 : p ≤ 37180 := by have := Hp0.out; have := Hp1.out; omega
      clear hown hb hb1
      have Hn1 := Lib.hid hn1; clear hn1
      obtain ⟨wi, hwi⟩ : ∃ wi : World, wi = wr := ⟨_, rfl⟩
      subst hwi
      obtain ⟨wo, hwo⟩ : ∃ wo : World, wo = w1 := ⟨_, rfl⟩
      subst hwo
      go_wp2_with fail
      go_loopw [5, 25] (fun v i wq => ∃ (j : Nat) (a : Option Addr) (q c : Nat), j ≤ n1 ∧ i = .int .i64 j ∧ v = .slice a q c ∧ q = p + j ∧ BksOwn w.heap.size wq.heap.size wq a q c (PX ++ (R.take j).map (fun p => (⟨(H : Int), (k : Int), p⟩ : Bk))) ∧ Below w.heap.size w wq ∧ OwnRows wi.heap.size wo.heap.size wq a1 n1 c1 R ∧ wo.heap.size ≤ wq.heap.size) (fun _ i _ => n1 - (intOf i).toNat)
      case atStart => exact ⟨0, a, p, c, Nat.zero_le _, rfl, rfl, rfl, by simpa using hown1.mono (Nat.le_refl _) hB1, hbw, ho1, Nat.le_refl _⟩
      case round =>
        obtain ⟨j, a2, p2, c2, hj, rfl, rfl, hq2, hoq, hbq, hrs, hsz⟩ := hrel
        clear hown1 hbw ho1
        have hp2' : p2 ≤ 40898 := by omega
        have Hq2 := Lib.hid hq2; clear hq2
        by_cases hlt2 : j < n1
        · obtain ⟨b, oo, rfl, hbl, hc⟩ := hrs.at.cell j hlt2
          obtain ⟨a3, m3, c3, hck, hi⟩ := hc j hlt2
          clear hc
          have hm3 : m3 ≤ 1048576 := by have := Hry.out j; rw [hi.length] at this; omega
          generalize hx : R.getD j [] = ys at hi
          have htk := rowBk_take H k R j ys (by have := Hn1.out; omega) hx
          have hl1 := fun W (q : IntsAt W a3 m3 c3 ys) => l1Own_any a3 m3 c3 ys W q hm3
          have Hx := Lib.hid hx; clear hx
          have Htk := Lib.hid htk; clear htk
          have Hl1 := Lib.hid hl1; clear hl1
          go_wp2_with fail
          with_reducible refine (Hl1.out _ hi).mono ?_
          rintro e w4 ⟨a4, c4, rfl, ho4, hb4⟩
          have hoq4 := hoq.keep hb4
          have hbq4 := belowTrans hbq hb4 (Nat.le_refl _)
          have hrs4 := hrs.keep hb4
          have hs4 := hb4.size
          have hsB := hbq.size
          clear hoq hck hi hb4 hrs hbq
          go_wp2_with (at_builtin; refine wpList_pushBk w4 rfl _ _ rfl w.heap.size wr.heap.size w4.heap.size a2 p2 c2 _ rfl hoq4 (H : Int) (k : Int) a4 m3 c4 ys ho4 hsB hs4 (Nat.le_refl _) rfl (by omega) ?_)
          intro a5 c5 w5 ho5 hc5
          have hb5 : Below w.heap.size w w5 := hbq4.trans (hoq4.chgBelow hc5 hbq4.size)
          have hrs5 := hrs4.chgBks hoq4 hc5
          have hsz5 : wo.heap.size ≤ w5.heap.size := by have := hc5.size; omega
          clear hoq4 hc5 ho4 hrs4 hbq4
          go_wp2
          go_roundw
          case rel => exact ⟨j + 1, a5, p2 + 1, c5, by omega, by go_num, rfl, by have := Hq2.out; omega, by rw [Htk.out]; simpa using ho5, hb5, hrs5, hsz5⟩
          case measure => simp [intOf] <;> omega
        · obtain rfl : n1 = j := by omega
          rw [List.take_of_length_le (by have := Hn1.out; omega), ← Hst.out] at hoq
          clear hrs
          go_wp2
          go_roundw
          case rel => exact ⟨k + 1, a2, p2, c2, by omega, by go_num, rfl, hoq, hbq⟩
          case measure => simp [intOf] <;> omega
    · have hk' : k = min H (N + 1) := by omega
      have hlast : BksOwn w.heap.size wr.heap.size wr a p c (baL H N (min H (N + 1))) := by rw [← hk']; exact hown
      clear hown
      by_cases hkH : k < H
      · have h1 : (k : Int) < H := by omega
        have h2 : ¬ (k : Int) ≤ N := by omega
        have Hk' := Lib.hid hk'; clear hk'
        have Hlast := Lib.hid hlast; clear hlast
        go_wp2
        go_ret
        exact ⟨_, _, _, rfl, Hlast.out, hb⟩
      · have h1 : ¬ (k : Int) < H := by omega
        have Hk' := Lib.hid hk'; clear hk'
        have Hlast := Lib.hid hlast; clear hlast
        go_wp2
        go_ret
        exact ⟨_, _, _, rfl, Hlast.out, hb⟩
end
end Go.Proofs.YtnebfojnbjbogaaGreatDoor
