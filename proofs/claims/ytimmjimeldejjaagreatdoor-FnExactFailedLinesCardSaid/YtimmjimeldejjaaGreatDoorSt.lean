/- Several texts in one: StH, StI. No condition. -/
import Derived.Test.YtimmjimeldejjaaGreatDoorHelp
import Derived.Test.YtimmjimeldejjaaGreatDoorGk
import Derived.Test.YtimmjimeldejjaaGreatDoorGj
import Derived.Test.YtimmjimeldejjaaGreatDoorGu
namespace Go.Proofs.YtimmjimeldejjaaGreatDoor
section
open Go.RowKit
set_option linter.unusedVariables false
set_option linter.unusedSimpArgs false
set_option maxRecDepth 20000

theorem ValsAt.drewN {w ao n cap vs} (h : ValsAt w ao n cap vs) (q : Nat) : ValsAt (w.drewN q) ao n cap vs := ⟨h.length, h.le, h.max, h.isNil, h.cell⟩
theorem strVs_length (O : List (List UInt8)) : (strVs O).length = O.length := by simp [strVs]
theorem take_snocT {O : List (List UInt8)} {k n : Nat} {x : List UInt8} (hx : O.getD k [] = x) (hk : k < n) (hl : O.length = n) : O.take (k + 1) = O.take k ++ [x] := by
  subst hx hl
  rw [List.take_add_one, List.getElem?_eq_getElem hk, List.getD_eq_getElem?_getD, List.getElem?_eq_getElem hk]
  rfl
theorem str_same (x : List UInt8) : ((⟨x.toArray⟩ : ByteArray).toList != (⟨x.toArray⟩ : ByteArray).toList) = false := by simp
theorem str_other {x y : List UInt8} (h : x ≠ y) : ((⟨x.toArray⟩ : ByteArray).toList != (⟨y.toArray⟩ : ByteArray).toList) = true := by
  rw [bne_iff_ne, ByteArray.toList_eq, ByteArray.toList_eq]
  simpa using h
theorem str_otherE {x y : List UInt8} (h : x ≠ y) : ((⟨x.toArray⟩ : ByteArray).toList == (⟨y.toArray⟩ : ByteArray).toList) = false := by
  rw [beq_eq_false_iff_ne, ByteArray.toList_eq, ByteArray.toList_eq]
  simpa using h
theorem eqStringS_any (ao bo : Option Addr) (n m cap cap' : Nat) (O P : List (List UInt8)) (w : World) (hx : ValsAt w ao n cap (strVs O)) (hy : ValsAt w bo m cap' (strVs P)) :
    Calls Tryz.prog 28 #[.slice ao n cap, .slice bo m cap'] w fun e w' => e = .returned (.bool (decide (O = P))) ∧ Below w.heap.size w w' := by
  have hn' : (n : Int) ≤ 9223372036854775807 := maxLen_le (Nat.le_trans hx.le hx.max)
  have hm' : (m : Int) ≤ 9223372036854775807 := maxLen_le (Nat.le_trans hy.le hy.max)
  have hxl : O.length = n := by have := hx.length; rw [strVs_length] at this; exact this
  have hyl : P.length = m := by have := hy.length; rw [strVs_length] at this; exact this
  by_cases hnm : n = m
  · subst hnm
    have Hxl := Lib.hid hxl; clear hxl
    have Hyl := Lib.hid hyl; clear hyl
    go_enter Tryz.func28, Tryz.ntmps28
    go_wp2
    go_loopw [5] (fun i wr => ∃ k : Nat, k ≤ n ∧ i = .int .i64 k ∧ O.take k = P.take k ∧ ∃ q, wr = w.drewN q)
      (fun i _ => n - (intOf i).toNat)
    case atStart => exact ⟨0, Nat.zero_le _, rfl, rfl, 0, rfl⟩
    case round =>
      obtain ⟨k, hk, rfl, heq, q, rfl⟩ := hrel
      have Heq := Lib.hid heq; clear heq
      by_cases hlt : k < n
      · obtain ⟨b1, o1, rfl, hb1, hc1⟩ := hx.cell k hlt
        obtain ⟨b2, o2, rfl, hb2, hc2⟩ := hy.cell k hlt
        have h1 := hc1 k hlt
        have h2 := hc2 k hlt
        rw [strVs_getD (by rw [Hxl.out]; exact hlt)] at h1
        rw [strVs_getD (by rw [Hyl.out]; exact hlt)] at h2
        clear hc1 hc2
        generalize hx1 : O.getD k [] = x at h1
        generalize hy1 : P.getD k [] = y at h2
        by_cases hxy : x = y
        · subst hxy
          have hcf := str_same x
          have Hx1 := Lib.hid hx1; clear hx1
          have Hy1 := Lib.hid hy1; clear hy1
          go_wp2
          go_quiet (fail)
          go_wp2
          exact ⟨⟨k + 1, by omega, by go_num, by rw [take_snocT Hx1.out hlt Hxl.out, take_snocT Hy1.out hlt Hyl.out, Heq.out], _, rfl⟩, by simp [intOf]; omega⟩
        · have hct := str_other hxy
          have hce := str_otherE hxy
          have hcx : (x == y) = false := by simpa using hxy
          have hne : O ≠ P := fun e => hxy (by rw [← hx1, ← hy1, e])
          have Hx1 := Lib.hid hx1; clear hx1
          have Hy1 := Lib.hid hy1; clear hy1
          have Hne := Lib.hid hne; clear hne
          have Hxy := Lib.hid hxy; clear hxy
          go_wp2
          go_quiet (fail)
          go_wp2
          go_ret
          exact ⟨by simp [Hne.out], belowDrewN (belowDrewN (Below.refl _ _) _) _⟩
      · go_wp2
        go_ret
        obtain rfl : n = k := by omega
        have e := Heq.out
        rw [List.take_of_length_le (Nat.le_of_eq Hxl.out), List.take_of_length_le (Nat.le_of_eq Hyl.out)] at e
        exact ⟨by simp [e], belowDrewN (Below.refl _ _) _⟩
  · have hne : ((n : Int) != (m : Int)) = true := by simp; omega
    have hxy : O ≠ P := fun e => hnm (by rw [← hxl, ← hyl, e])
    go_enter Tryz.func28, Tryz.ntmps28
    go_wp2
    go_ret
    exact ⟨by simp [hxy], Below.refl _ _⟩

/-! ### Marks -/
def mtL (k : Nat) : List UInt8 := 109 :: Lib.decDigits k
def marksT (k : Nat) : Nat → List (List UInt8)
  | 0 => []
  | n + 1 => mtL k :: marksT (k + 1) n
theorem marksT_length (k n : Nat) : (marksT k n).length = n := by
  induction n generalizing k with
  | zero => rfl
  | succ n ih => simp [marksT, ih]
theorem marksT_getD (k n i : Nat) (h : i < n) : (marksT k n).getD i [] = mtL (k + i) := by
  induction n generalizing k i with
  | zero => omega
  | succ n ih =>
    cases i with
    | zero => simp [marksT]
    | succ i =>
      have := ih (k + 1) i (by omega)
      simp only [marksT, List.getD_cons_succ, this]
      congr 1; omega
theorem set_marksT (k : Nat) (O : List (List UInt8)) (j n : Nat) (hj : j < n) (hl : O.length = n) :
    (strVs ((marksT k n).take j ++ O.drop j)).set j (Value.string ⟨(mtL (k + j)).toArray⟩) = strVs ((marksT k n).take (j + 1) ++ O.drop (j + 1)) := by
  have hm := marksT_length k n
  unfold strVs
  apply List.ext_getElem
  · simp only [List.length_set, List.length_map, List.length_append, List.length_take, List.length_drop]; omega
  · intro i h1 h2
    simp only [List.length_set, List.length_map, List.length_append, List.length_take, List.length_drop] at h1
    rw [List.getElem_set]
    split
    · next h =>
      subst h
      have := marksT_getD k n j hj
      rw [List.getD_eq_getElem?_getD, List.getElem?_eq_getElem (by omega)] at this
      simp [List.getElem_append, List.getElem_take, show j < min (j+1) (marksT k n).length by omega]
      simpa using this.symm
    · next h =>
      simp only [List.getElem_map, List.getElem_append, List.length_take, List.getElem_take, List.getElem_drop]
      by_cases hi : i < j
      · simp [show i < min j (marksT k n).length by omega, show i < min (j+1) (marksT k n).length by omega]
      · simp only [show ¬ i < min j (marksT k n).length by omega, show ¬ i < min (j+1) (marksT k n).length by omega, dite_false]
        have e : j + (i - min j (marksT k n).length) = j + 1 + (i - min (j + 1) (marksT k n).length) := by omega
        simp only [e]
theorem wrapN64 (x : Int) (h0 : 0 ≤ x) (h1 : x ≤ 1000) : wrap64 x = x := IntWalk.wrap64_in _ (by omega)
theorem wrapN (x : Int) (h0 : 0 ≤ x) (h1 : x ≤ 1000) : IntKind.i64.wrap x = x := IntWalk.i64_in _ (by omega)
theorem wrapN8 (x : Int) (h0 : 0 ≤ x) (h1 : x ≤ 100) : IntKind.u8.wrap x = x := IntWalk.u8_in _ (by omega)
theorem glueC (c : UInt8) (O : List UInt8) : (⟨#[c]⟩ : ByteArray) ++ ⟨O.toArray⟩ = ⟨(c :: O).toArray⟩ := by
  apply ByteArray.ext
  simp
set_option maxHeartbeats 1600000 in
set_option maxRecDepth 100000 in
theorem markText_any (k : Nat) (h1 : 1 ≤ k) (hk : k ≤ 1000) (w : World) :
    Calls Tryz.prog 51 #[.int .i64 k] w fun e w' => e = .returned (.string ⟨(mtL k).toArray⟩) ∧ Below w.heap.size w w' := by
  have hp : ¬ (k : Int) ≤ 0 := by omega
  go_enter Tryz.func51, Tryz.ntmps51
  go_wp2
  go_loopw [0, 3] (fun kk o wr => ∃ (m : Nat) (O : List UInt8), kk = .int .i64 m ∧ o = .string ⟨O.toArray⟩ ∧ m ≤ 1000 ∧ O.length + m ≤ 1000 ∧ Hid ((0 < m → Lib.decDigits k = Lib.decDigits m ++ O) ∧ (m = 0 → Lib.decDigits k = O)) ∧ Hid (Below w.heap.size w wr)) (fun kk _ _ => (intOf kk).toNat)
  case atStart => exact ⟨k, [], rfl, rfl, hk, by simp; omega, Lib.hid ⟨fun _ => by simp, fun h => by omega⟩, Lib.hid (Below.refl _ _)⟩
  case round =>
    obtain ⟨m, O, rfl, rfl, hm, hO, Hd, Hb⟩ := hrel
    by_cases h0 : 0 < m
    · have h0i : (0 : Int) < (m : Int) := by omega
      have hq : m % 10 < 10 := by omega
      have e2 : (m : Int).tmod 10 = ((m % 10 : Nat) : Int) := by rw [Int.tmod_eq_emod_of_nonneg (by omega)]; omega
      have e1 : (m : Int).tdiv 10 = ((m / 10 : Nat) : Int) := by rw [Int.tdiv_eq_ediv_of_nonneg (by omega)]; omega
      have hd2 : Hid ((0 < m / 10 → Lib.decDigits k = Lib.decDigits (m / 10) ++ (UInt8.ofNat (48 + m % 10) :: O)) ∧ (m / 10 = 0 → Lib.decDigits k = UInt8.ofNat (48 + m % 10) :: O)) := by
        have hh := Hd.out.1 h0
        refine Lib.hid ⟨fun h => ?_, fun h => ?_⟩
        · rw [hh]; conv => lhs; rw [Lib.decDigits]
          rw [dif_neg (by omega)]; simp
        · rw [hh, Lib.decDigits_one (by omega)]
          rw [show m % 10 = m by omega]; rfl
      have hml : m / 10 ≤ 1000 ∧ O.length + 1 + m / 10 ≤ 1000 ∧ m / 10 < m := by omega
      have hno : ¬ (9223372036854775807 < 1 + O.length) := by omega
      generalize hr : m % 10 = r at *
      generalize hs : m / 10 = s at *
      have e3 : IntKind.i64.wrap ((48 : Int) + (r : Int)) = (48 : Int) + (r : Int) := wrapN _ (by omega) (by omega)
      have e4 : IntKind.u8.wrap ((48 : Int) + (r : Int)) = (48 : Int) + (r : Int) := wrapN8 _ (by omega) (by omega)
      have hs8 : (s : Int) ≤ 1000 := by omega
      have hc := digit_back wr r hq
      have hbn := Hb.out.alloc Hb.out.size (.cells #[.int .u8 ((48 : Int) + (r : Int))] 5)
      have Hbn := Lib.hid hbn; clear hbn
      have Hml := Lib.hid hml; clear hml
      have Hr := Lib.hid hr; clear hr
      have Hs := Lib.hid hs; clear hs
      clear Hd
      go_wp2
      go_roundw
      case rel => exact ⟨s, UInt8.ofNat (48 + r) :: O, by first | rfl | go_num, by first | exact congrArg Value.string (glueC _ _) | (rw [← ofNat48]; exact congrArg Value.string (glueC _ _)), Hml.out.1, by simp only [List.length_cons]; exact Hml.out.2.1, hd2, Hbn⟩
      case measure => simp [intOf]; exact Hml.out.2.2
    · obtain rfl : m = 0 := by omega
      have hk2 := Hd.out.2 rfl
      have hno : ¬ (9223372036854775807 < 1 + O.length) := by omega
      clear Hd
      have Hk2 := Lib.hid hk2; clear hk2
      go_wp2
      go_ret
      refine ⟨?_, Hb.out⟩
      unfold mtL
      rw [Hk2.out]
      first | rfl | exact congrArg (fun s => Ending.returned (Value.string s)) (glueC _ _)
end
end Go.Proofs.YtimmjimeldejjaaGreatDoor
namespace Go.Proofs.YtimmjimeldejjaaGreatDoor
section
open Go.RowKit
set_option linter.unusedVariables false
set_option linter.unusedSimpArgs false
set_option maxRecDepth 20000

set_option maxHeartbeats 1600000 in
theorem markStringS_any (B E : Nat) (ao : Option Addr) (n cap : Nat) (O : List (List UInt8)) (k : Nat) (w : World) (h : OwnRow B E w 9 ao n cap (strVs O)) (hn : n ≤ 900) (hk0 : 1 ≤ k) (hk1 : k ≤ 100) (hE : E ≤ w.heap.size) :
    Calls Tryz.prog 29 #[.slice ao n cap, .int .i64 k] w fun e w' => e = .returned (.int .i64 (k + n : Nat)) ∧ OwnRow B E w' 9 ao n cap (strVs (marksT k n)) ∧ Chg (Rg B E) w w' := by
  have hn' : (n : Int) ≤ 900 := by omega
  have hOl : O.length = n := by have := h.length; simpa [strVs] using this
  have HOl := Lib.hid hOl; clear hOl
  go_enter Tryz.func29, Tryz.ntmps29
  go_wp2
  go_loopw [1, 5] (fun q i wr => ∃ j : Nat, j ≤ n ∧ i = .int .i64 j ∧ q = .int .i64 (k + j : Nat) ∧ OwnRow B E wr 9 ao n cap (strVs ((marksT k n).take j ++ O.drop j)) ∧ Hid (Chg (Rg B E) w wr))
    (fun _ i _ => n - (intOf i).toNat)
  case atStart => exact ⟨0, Nat.zero_le _, rfl, by simp, by simpa using h, Lib.hid (Chg.refl _ _)⟩
  case round =>
    obtain ⟨j, hj, rfl, rfl, hown, Hc⟩ := hrel
    by_cases hlt : j < n
    · have hmk := markText_any (k + j) (by omega) (by omega) wr
      have hjk : ((k + j : Nat) : Int) ≤ 1000 := by omega
      have hsz := Hc.out.size
      have Hmk := Lib.hid hmk; clear hmk
      generalize hkj : k + j = kj at *
      go_wp2_with fail
      with_reducible refine (Hmk.out).mono ?_
      rintro e w2 ⟨rfl, hb2⟩
      have hown2 := hown.keep hb2
      have Hc2 := Lib.hid (Hc.out.trans (Chg.ofBelow hb2))
      clear hown hb2
      rcases hown2.cases with ⟨_, hz, _⟩ | ⟨g, rfl, hg, hgE, hgs⟩
      · omega
      · have hfz := World.ownsRow.frozenAt hown2.1 j
        have hcell := World.ownsRow.cellAt hown2.1 j (by omega)
        have hst := World.ownsRow.stored hown2.1 j (Value.string ⟨(mtL kj).toArray⟩)
        have hbb := hown2.2
        have Hst := Lib.hid hst; clear hst
        have hlen2 := hown2.length
        generalize hyy : (strVs ((marksT k n).take j ++ O.drop j))[j]? = yy at hcell
        have hsome : ∃ y, yy = some y := by
          rw [← hyy]; exact ⟨_, List.getElem?_eq_getElem (by omega)⟩
        obtain ⟨y, rfl⟩ := hsome
        have Hown := Lib.hid hown2; clear hown2
        have Hbb := Lib.hid hbb; clear hbb
        have Hyy := Lib.hid hyy; clear hyy
        have Hkj := Lib.hid hkj; clear hkj
        go_wp2
        go_roundw
        case rel =>
          refine ⟨j + 1, by omega, by go_num, by first | rfl | (have := Hkj.out; go_num) | (have := Hkj.out; congr 1; omega), ?_, Lib.hid (Hc2.out.trans ((Chg.ofGrown Hst.out.2).mono (fun q hq => by cases hq; exact ⟨hg, hgE⟩)))⟩
          have := (Hst.out).1
          have hsm := set_marksT k O j n hlt HOl.out
          rw [Hkj.out] at hsm
          rw [hsm] at this
          exact ⟨this, Hbb.out⟩
        case measure => simp [intOf]; omega
    · go_wp2
      go_ret
      obtain rfl : n = j := by omega
      refine ⟨rfl, ?_, Hc.out⟩
      have e : (marksT k n).take n ++ O.drop n = marksT k n := by
        rw [List.take_of_length_le (Nat.le_of_eq (marksT_length k n)), List.drop_of_length_le (Nat.le_of_eq HOl.out)]; simp
      rw [e] at hown
      exact hown
theorem cutST {P Q : Prop} (f : Hid P → Q) (p : P) : Q := f (Lib.hid p)
set_option maxHeartbeats 1600000 in
theorem heldStringS_any (ao : Option Addr) (n cap : Nat) (k : Nat) (w : World) (h : ValsAt w ao n cap (strVs (marksT k n))) (hn : n ≤ 900) (hk0 : 1 ≤ k) (hk1 : k ≤ 100) :
    Calls Tryz.prog 30 #[.slice ao n cap, .int .i64 k] w fun e w' => e = .returned (.int .i64 (k + n : Nat)) ∧ Below w.heap.size w w' := by
  have hn' : (n : Int) ≤ 900 := by omega
  go_enter Tryz.func30, Tryz.ntmps30
  go_wp2
  go_loopw [1, 5] (fun q i wr => ∃ j : Nat, j ≤ n ∧ i = .int .i64 j ∧ q = .int .i64 (k + j : Nat) ∧ Hid (Below w.heap.size w wr))
    (fun _ i _ => n - (intOf i).toNat)
  case atStart => exact ⟨0, Nat.zero_le _, rfl, by simp, Lib.hid (Below.refl _ _)⟩
  case round =>
    obtain ⟨j, hj, rfl, rfl, Hb⟩ := hrel
    by_cases hlt : j < n
    · have hv := h.keep Hb.out
      obtain ⟨b, o, rfl, hbl, hcl⟩ := hv.cell j hlt
      have hck := hcl j hlt
      rw [strVs_getD (by rw [marksT_length]; exact hlt), marksT_getD k n j hlt] at hck
      have hmk := (markText_any (k + j) (by omega) (by omega) wr.drew).mono (R' := fun e w2 => e = .returned (.string ⟨(mtL (k + j)).toArray⟩) ∧ w2.cell? ⟨b, o + j, none⟩ = some (.string ⟨(mtL (k + j)).toArray⟩) ∧ Below w.heap.size w w2)
        (fun e w2 ⟨e1, e2⟩ => ⟨e1, by rw [e2.cell (p := ⟨b, o + j, none⟩) hbl]; exact hck, belowTrans Hb.out.drew e2 (Nat.le_refl _)⟩)
      have hjk : ((k + j : Nat) : Int) ≤ 1000 := by omega
      have hsame := str_same (mtL (k + j))
      generalize hkj : k + j = kj at *
      generalize mtL kj = mt at *
      clear hcl hv
      have Hmk := Lib.hid hmk; clear hmk
      have Hkj := Lib.hid hkj; clear hkj
      go_wp2_with fail
      refine' cutST (fun key => ?main) ?pf
      case main =>
        go_region_law (first | (go_simp; with_reducible refine (Hmk.out).mono ?_; rintro e w2 ⟨rfl, hc2, hb2⟩; have Hb2 := Lib.hid hb2; clear hb2))
        all_goals
          revert w2 hc2 Hb2
          exact key.out
      case pf =>
        intro w2 hc2 Hb2
        go_wp2
        go_roundw
        case rel => exact ⟨j + 1, by omega, by go_num, by first | rfl | (have := Hkj.out; go_num) | (have := Hkj.out; congr 1; omega), Hb2⟩
        case measure => simp [intOf]; omega
    · go_wp2
      go_ret
      obtain rfl : n = j := by omega
      exact ⟨rfl, Hb.out⟩
end
end Go.Proofs.YtimmjimeldejjaaGreatDoor
