/- slices.DeleteFunc over piles: those of one height go. No condition. -/
import Derived.Test.YtbkihnejgcebpaaBcM
import Derived.Test.YtbkihnejgcebpaaRowsC
namespace Go.Proofs.Ytbkihnejgcebpaa
open Go.RowKit
set_option linter.unusedVariables false
set_option linter.unusedSimpArgs false
set_option maxRecDepth 20000

def newF (g : Nat) : Value := .func (.func 46) #[] #[.pointer (some ⟨g, 0, none⟩)]
theorem isNew_any (g : Nat) (x h : Int) (w : World) (hc : w.cell? ⟨g, 0, none⟩ = some (.int .i64 h)) :
    Calls Try.prog 46 #[.int .i64 x, .pointer (some ⟨g, 0, none⟩)] w fun e w' => e = .returned (.bool (decide (x = h))) ∧ Below w.heap.size w w' := by
  go_enter Try.func46, Try.ntmps46
  go_wp2
  go_ret
  exact ⟨by simp [Bool.beq_eq_decide_eq], Below.refl _ _⟩
theorem oldP_snoc (h : Int) (xs : List Int) (x : Int) : oldP h (xs ++ [x]) = oldP h xs ++ if x = h then [] else [x] := by
  unfold oldP
  rw [List.filter_append]
  by_cases e : x = h
  · rw [List.filter_cons_of_neg (by simpa using e), if_pos e]; simp
  · rw [List.filter_cons_of_pos (by simpa using e), if_neg e]; simp
theorem take_snocI {xs : List Int} {j n : Nat} {x : Int} (hj : j < n) (hl : xs.length = n) (hx : xs.getD j 0 = x) : xs.take (j + 1) = xs.take j ++ [x] := by
  rw [List.take_add_one, List.getElem?_eq_getElem (by omega)]
  rw [List.getD_eq_getElem?_getD, List.getElem?_eq_getElem (by omega)] at hx
  simp at hx
  simp [hx]
set_option maxHeartbeats 1600000 in
theorem indexNew_any (g : Nat) (h : Int) (ao : Option Addr) (n cap : Nat) (xs : List Int) (w : World) (hA : IntsAt w ao n cap xs) (hn : n ≤ 4000) (hg : g < w.heap.size) (hc : w.cell? ⟨g, 0, none⟩ = some (.int .i64 h)) :
    Calls Try.prog 72 #[.slice ao n cap, newF g] w fun e w' => ∃ r : Int, e = .returned (.int .i64 r) ∧ ((r = -1 ∧ ∀ x ∈ xs, x ≠ h) ∨ ∃ i : Nat, r = i ∧ i < n ∧ xs.getD i 0 = h ∧ ∀ x ∈ xs.take i, x ≠ h) ∧ Below w.heap.size w w' := by
  have hl := hA.length
  have Hl := Lib.hid hl; clear hl
  unfold newF
  go_enter Try.func72, Try.ntmps72
  go_wp2
  go_loopw [8] (fun i wr => ∃ j : Nat, j ≤ n ∧ i = .int .i64 j ∧ (∀ x ∈ xs.take j, x ≠ h) ∧ Below w.heap.size w wr) (fun i _ => n - (intOf i).toNat)
  case atStart => exact ⟨0, Nat.zero_le _, rfl, by simp, Below.refl _ _⟩
  case round =>
    obtain ⟨j, hj, rfl, hall, hb⟩ := hrel
    by_cases hlt : j < n
    · obtain ⟨b, oo, rfl, hbl, hcl⟩ := (hA.keep hb).cell j hlt
      have hcb := hb.cell (p := ⟨g, 0, none⟩) hg
      rw [hc] at hcb
      have hck := hcl j hlt
      clear hcl
      generalize hx : xs.getD j 0 = x at hck
      have htk := take_snocI hlt Hl.out hx
      have hcon := isNew_any g x h wr hcb
      by_cases hq : x = h
      · rw [decide_eq_true hq] at hcon
        have Hcon := Lib.hid hcon; clear hcon
        have Hx := Lib.hid hx; clear hx
        have Hq := Lib.hid hq; clear hq
        have Htk := Lib.hid htk; clear htk
        have Hall := Lib.hid hall; clear hall
        have Hcb := Lib.hid hcb; clear hcb
        go_wp2_with fail
        with_reducible refine (Hcon.out).mono ?_
        rintro e w2 ⟨rfl, hb2⟩
        go_wp2
        go_ret
        exact ⟨_, rfl, .inr ⟨j, rfl, hlt, by rw [Hx.out]; exact Hq.out, Hall.out⟩, belowTrans hb hb2 (Nat.le_refl _)⟩
      · rw [decide_eq_false hq] at hcon
        have Hcon := Lib.hid hcon; clear hcon
        have Hx := Lib.hid hx; clear hx
        have Hq := Lib.hid hq; clear hq
        have Htk := Lib.hid htk; clear htk
        have Hall := Lib.hid hall; clear hall
        have Hcb := Lib.hid hcb; clear hcb
        go_wp2_with fail
        with_reducible refine (Hcon.out).mono ?_
        rintro e w2 ⟨rfl, hb2⟩
        go_wp2
        go_roundw
        case rel =>
          refine ⟨j + 1, by omega, by go_num, fun y hy => ?_, belowTrans hb hb2 (Nat.le_refl _)⟩
          rw [Htk.out] at hy
          rcases List.mem_append.1 hy with h' | h'
          · exact Hall.out y h'
          · rw [List.mem_singleton.1 h']; exact Hq.out
        case measure => simp [intOf]; omega
    · obtain rfl : n = j := by omega
      rw [List.take_of_length_le (by rw [Hl.out]; exact Nat.le_refl _)] at hall
      have Hall := Lib.hid hall; clear hall
      go_wp2
      go_ret
      exact ⟨_, rfl, .inl ⟨rfl, Hall.out⟩, hb⟩

theorem zeroInt (w : World) : (zeroValue 3).run Try.prog w = .ok (.int .i64 0) w := by kernel_rfl
theorem clear_runI (w : World) (B E : Nat) (g i n cap c2 : Nat) (us : List Value) (hown : OwnRow B E w 3 (some ⟨g, 0, none⟩) n cap us) (hi : i < n) (ty : TypeId) :
    ∃ w', (Builtin.clear_ #[28] ty #[.slice (some ⟨g, i, none⟩) (n - i) c2]).run Try.prog w = .ok (.tuple #[]) w' ∧ OwnRow B E w' 3 (some ⟨g, 0, none⟩) i cap (us.take i) ∧ Chg (fun k => k = g) w w' := by
  obtain ⟨us', h1, h2, h3⟩ := setCells_own g (List.replicate (n - i) (Value.int .i64 0)) i w us hown
  have hl := hown.length
  have hr := Lib.run_clear_slice (P := Try.prog) w 28 3 ty (.int .i64 0) Try.underlying28 zeroInt rfl rfl g i (n - i) c2 (by omega) (fun j hj => by
      rw [World.ownsRow.cellAt hown.1 (i + j) (by omega), List.getElem?_eq_getElem (by omega)]; rfl) (fun j hj => World.ownsRow.frozenAt hown.1 (i + j))
  refine ⟨_, hr, ?_, h3⟩
  rw [← h2]
  exact h1.cut (by omega)
theorem slFromGI (g n cap lo : Nat) (h1 : lo < n) (h2 : n ≤ cap) (k : IntKind) (w : World) : (Instr.sliceAt 28 (.slice (some ⟨g, 0, none⟩) n cap) (some (.int k (lo : Int))) none none).run Try.prog w = .ok (.slice (some ⟨g, lo, none⟩) (n - lo) (cap - lo)) w := by
  have hrun := run_slice_l (P := Try.prog) (w := w) 28 (some ⟨g, 0, none⟩) n cap Try.underlying28 k (lo : Int) (by omega) (by omega)
  rw [sizeInt] at hrun
  rw [run_sliceAt_slice _ _ _ _ _ _ Try.underlying28, hrun]
  have : ¬ cap = lo := by omega
  simp [Result.andThen, sliced, this, Addr.add_lit]
theorem slUptoGI (g n cap hi : Nat) (h1 : hi ≤ n) (h2 : n ≤ cap) (h3 : 0 < cap) (k : IntKind) (w : World) : (Instr.sliceAt 28 (.slice (some ⟨g, 0, none⟩) n cap) none (some (.int k (hi : Int))) none).run Try.prog w = .ok (.slice (some ⟨g, 0, none⟩) hi cap) w := by
  have hrun := run_slice_h (P := Try.prog) (w := w) 28 (some ⟨g, 0, none⟩) n cap Try.underlying28 k (hi : Int) (by omega) (by omega)
  rw [sizeInt] at hrun
  rw [run_sliceAt_slice _ _ _ _ _ _ Try.underlying28, hrun]
  have : ¬ cap = 0 := by omega
  simp [Result.andThen, sliced, this, Addr.add_lit]
set_option maxHeartbeats 3200000 in
theorem delNew_any (B E : Nat) (gb : Nat) (h : Int) (ao : Option Addr) (n cap : Nat) (xs : List Int) (w : World) (hA : Own B E w ao n cap xs) (hn : n ≤ 4000) (hE : E ≤ w.heap.size) (hB : B ≤ w.heap.size) (hgb : gb < B) (hc : w.cell? ⟨gb, 0, none⟩ = some (.int .i64 h)) :
    Calls Try.prog 47 #[.slice ao n cap, newF gb] w fun e w' => ∃ m, e = .returned (.slice ao m cap) ∧ Own B E w' ao m cap (oldP h xs) ∧ Below B w w' := by
  have hl := hA.length
  have hcon := indexNew_any gb h ao n cap xs w hA.at hn (by omega) hc
  have Hcon := Lib.hid hcon; clear hcon
  have Hl := Lib.hid hl; clear hl
  unfold newF at *
  go_enter Try.func47, Try.ntmps47
  go_wp2_with fail
  with_reducible refine (Hcon.out).mono ?_
  rintro e w1 ⟨r, rfl, ⟨rfl, hall⟩ | ⟨i0, rfl, hi0, hx0, hall⟩, hb1⟩
  · have hfe := oldP_all hall
    have hk := hA.keep hb1
    rw [← hfe] at hk
    have Hfe := Lib.hid hfe; clear hfe
    have Hall := Lib.hid hall; clear hall
    have Hk := Lib.hid hk; clear hk
    go_wp2
    go_ret
    exact ⟨_, rfl, Hk.out, hb1.mono hB⟩
  · obtain ⟨hz, hrest⟩ | ⟨g, rfl, hg, hgE, hgw⟩ := hA.cases
    · omega
    have hcap : n ≤ cap := hA.at.le
    have hne1 : ((i0 : Int) == -1) = false := by rw [beq_eq_false_iff_ne]; omega
    have hstart : (xs.map (Value.int .i64)).take i0 = (oldP h (xs.take (i0 + 1))).map (Value.int .i64) := by
      rw [take_snocI hi0 Hl.out hx0, oldP_snoc, if_pos rfl, List.append_nil, oldP_all hall, List.map_take]
    have hA1 := hA.keep hb1
    have hbB := hb1.mono hB
    have hi0I : (i0 : Int) + 1 ≤ 4000 := by omega
    clear hA hb1
    have Hall := Lib.hid hall; clear hall
    have Hx0 := Lib.hid hx0; clear hx0
    have Hstart := Lib.hid hstart; clear hstart
    go_wp2_with fail
    go_loopw [5, 6] (fun a b wr => ∃ (i j : Nat) (us : List Value), i < j ∧ j ≤ n ∧ a = .int .i64 i ∧ b = .int .i64 j ∧ OwnRow B E wr 3 (some ⟨g, 0, none⟩) n cap us ∧ us.take i = (oldP h (xs.take j)).map (Value.int .i64) ∧ us.drop j = (xs.map (Value.int .i64)).drop j ∧ Below B w wr) (fun _ b _ => n - (intOf b).toNat)
    case atStart => exact ⟨i0, i0 + 1, xs.map (Value.int .i64), by omega, by omega, rfl, by go_num, hA1, Hstart.out, rfl, hbB⟩
    case round =>
      obtain ⟨i, j, us, hij, hj, rfl, rfl, hov, htk, hdr, hb⟩ := hrel
      clear hA1 hbB
      have hul := hov.length
      have hsz := hb.size
      by_cases hlt : j < n
      · have hck := World.ownsRow.cellAt hov.1 j (by omega)
        have huj : us[j]? = (xs.map (Value.int .i64))[j]? := by
          have h1 := congrArg (fun l => l[0]?) hdr
          simpa [List.getElem?_drop] using h1
        generalize hx : xs.getD j 0 = x
        have hvj : (xs.map (Value.int .i64))[j]? = some (.int .i64 x) := by
          rw [List.getElem?_map, List.getElem?_eq_getElem (by rw [Hl.out]; exact hlt)]
          rw [List.getD_eq_getElem?_getD, List.getElem?_eq_getElem (by rw [Hl.out]; exact hlt)] at hx
          simpa using hx
        rw [huj, hvj] at hck
        have htx := take_snocI hlt Hl.out hx
        have hfs := oldP_snoc h (xs.take j) x
        rw [← htx] at hfs
        have hdr1 : us.drop (j + 1) = (xs.map (Value.int .i64)).drop (j + 1) := by
          have := congrArg (List.drop 1) hdr
          rwa [List.drop_drop, List.drop_drop] at this
        have hcb := hb.cell (p := ⟨gb, 0, none⟩) hgb
        rw [hc] at hcb
        have hcon := isNew_any gb x h wr hcb
        by_cases hq : x = h
        · rw [decide_eq_true hq] at hcon
          rw [if_pos hq, List.append_nil] at hfs
          rw [← hfs] at htk
          have Hcon := Lib.hid hcon; clear hcon
          have Hq := Lib.hid hq; clear hq
          have Htx := Lib.hid htx; clear htx
          have Hfs := Lib.hid hfs; clear hfs
          have Huj := Lib.hid huj; clear huj
          have Hvj := Lib.hid hvj; clear hvj
          have Hx := Lib.hid hx; clear hx
          have Hdr := Lib.hid hdr; clear hdr
          have Hdr1 := Lib.hid hdr1; clear hdr1
          have Htk := Lib.hid htk; clear htk
          have Hul := Lib.hid hul; clear hul
          have Hcb := Lib.hid hcb; clear hcb
          go_wp2_with fail
          with_reducible refine (Hcon.out).mono ?_
          rintro e w2 ⟨rfl, hb2⟩
          have hov2 := hov.keep hb2
          have hb3 := belowTrans hb hb2 hB
          clear hov hb hb2
          go_wp2
          go_roundw
          case rel => exact ⟨i, j + 1, us, by omega, by omega, rfl, by go_num, hov2, Htk.out, Hdr1.out, hb3⟩
          case measure => simp [intOf]; omega
        · rw [decide_eq_false hq] at hcon
          rw [if_neg hq] at hfs
          have Hcon := Lib.hid hcon; clear hcon
          have Hq := Lib.hid hq; clear hq
          have Htx := Lib.hid htx; clear htx
          have Hfs := Lib.hid hfs; clear hfs
          have Huj := Lib.hid huj; clear huj
          have Hvj := Lib.hid hvj; clear hvj
          have Hx := Lib.hid hx; clear hx
          have Hdr := Lib.hid hdr; clear hdr
          have Hdr1 := Lib.hid hdr1; clear hdr1
          have Htk := Lib.hid htk; clear htk
          have Hul := Lib.hid hul; clear hul
          have Hcb := Lib.hid hcb; clear hcb
          go_wp2_with fail
          with_reducible refine (Hcon.out).mono ?_
          rintro e w2 ⟨rfl, hb2⟩
          have hov2 := hov.keep hb2
          have hck2 := World.ownsRow.cellAt hov2.1 i (by omega)
          obtain ⟨u, hu⟩ : ∃ u, us[i]? = some u := ⟨_, List.getElem?_eq_getElem (by have := Hul.out; omega)⟩
          rw [hu] at hck2
          have hck3 := World.ownsRow.cellAt hov2.1 j (by omega)
          rw [Huj.out, Hvj.out] at hck3
          have hfz := World.ownsRow.frozenAt hov2.1 i
          obtain ⟨hst1, hst2⟩ := World.ownsRow.stored hov2.1 i (.int .i64 x)
          have hst : OwnRow B E (w2.setCell ⟨g, i, none⟩ (.int .i64 x)) 3 (some ⟨g, 0, none⟩) n cap (us.set i (.int .i64 x)) := ⟨hst1, hov2.2⟩
          have hb3 : Below B w (w2.setCell ⟨g, i, none⟩ (.int .i64 x)) := (belowTrans hb hb2 hB).setCell hg _
          have htk3 : (us.set i (.int .i64 x)).take (i + 1) = (oldP h (xs.take (j + 1))).map (Value.int .i64) := by
            rw [Hfs.out, List.map_append, ← Htk.out, List.take_add_one, List.take_set_of_le (Nat.le_refl _), List.getElem?_set_self (by have := Hul.out; omega)]; rfl
          have hdr3 : (us.set i (.int .i64 x)).drop (j + 1) = (xs.map (Value.int .i64)).drop (j + 1) := by rw [List.drop_set_of_lt (by omega)]; exact Hdr1.out
          have Hst := Lib.hid hst; clear hst
          have Htk3 := Lib.hid htk3; clear htk3
          have Hdr3 := Lib.hid hdr3; clear hdr3
          have Hb3 := Lib.hid hb3; clear hb3
          have Hu := Lib.hid hu; clear hu
          clear hst1 hst2 hov hov2 hb hb2
          go_wp2
          go_roundw
          case rel => exact ⟨i + 1, j + 1, _, by omega, by omega, by go_num, by go_num, Hst.out, Htk3.out, Hdr3.out, Hb3.out⟩
          case measure => simp [intOf]; omega
      · obtain rfl : n = j := by omega
        rw [List.take_of_length_le (l := xs) (by rw [Hl.out]; exact Nat.le_refl _)] at htk
        have hs1 := slFromGI g n cap i hij hcap .i64
        have hs2 := slUptoGI g n cap i (by omega) hcap (by omega) .i64
        have hnm : n - i < 9223372036854775807 := by omega
        have Htk := Lib.hid htk; clear htk
        have Hdr := Lib.hid hdr; clear hdr
        have Hul := Lib.hid hul; clear hul
        obtain ⟨w3, hclr, hov3, hc3⟩ := clear_runI wr B E g i n cap (cap - i) us hov hij 0
        have hb3 : Below B w w3 := hb.trans (hc3.below (by omega) (fun k hk => by omega))
        rw [Htk.out] at hov3
        have hfin : Own B E w3 (some ⟨g, 0, none⟩) i cap (oldP h xs) := hov3
        have Hfin := Lib.hid hfin; clear hfin
        clear hov hov3 hc3
        go_wp2
        go_ret
        exact ⟨_, rfl, Hfin.out, hb3⟩
end Go.Proofs.Ytbkihnejgcebpaa
