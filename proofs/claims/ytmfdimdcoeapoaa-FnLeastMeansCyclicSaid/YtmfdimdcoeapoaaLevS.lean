/- Chapter 3: levels and the potential by the model. No condition. -/
import Derived.Test.YtmfdimdcoeapoaaGv
import Derived.Test.YtmfdimdcoeapoaaPush
import Derived.Test.YtmfdimdcoeapoaaPast
import Derived.Test.YtmfdimdcoeapoaaPileB
import Derived.Test.YtmfdimdcoeapoaaPileF
namespace Go.Proofs.Ytmfdimdcoeapoaa
open Go.RowKit
set_option linter.unusedVariables false
set_option linter.unusedSimpArgs false

theorem bumpsS_le {xs : List Int} (hg : Good xs) {k q : Nat} (hk : k < xs.length) (hq : (q : Int) ≤ xs.getD k 0) : (bumps (levNV xs k) k q).length ≤ 28 := by
  have h1 := level_top hg hk
  have h2 := levNV_le hg (k := k) (by omega)
  rw [bumps_length _ _ _ (levNV_ge hg (by omega))]
  omega
theorem bumpsS_at {xs : List Int} (hg : Good xs) {k q : Nat} (hk : k < xs.length) (l : Nat) : 0 ≤ (bumps (levNV xs k) k q).getD l 0 ∧ (bumps (levNV xs k) k q).getD l 0 ≤ 29 := by
  have h1 := lev_bound xs l k
  have := hg.len
  rw [bumps_getD _ _ _ _ (levNV_ge hg (by omega)), levNV_getD hg (by omega)]
  split <;> omega
theorem bumpsS_ge {xs : List Int} (hg : Good xs) {k q : Nat} (hk : k < xs.length) : k + q ≤ (bumps (levNV xs k) k q).length := by
  rw [bumps_length _ _ _ (levNV_ge hg (by omega))]; omega
def lenOfS : Value → Nat
  | .slice _ n _ => n
  | _ => 0
/-- a list with room for a level -/
def roomL (ls : List Int) (l : Nat) : List Int := if ls.length ≤ l then ls ++ [0] else ls
theorem room_bump {ls : List Int} {l : Nat} (h : l ≤ ls.length) : (roomL ls l).set l ((roomL ls l).getD l 0 + 1) = bumpV ls l ∧ l < (roomL ls l).length ∧ (roomL ls l).getD l 0 = ls.getD l 0 := by
  unfold roomL bumpV
  by_cases hc : ls.length ≤ l
  · obtain rfl : l = ls.length := by omega
    rw [if_pos hc, if_neg (by omega), getD_snoc, if_pos rfl]
    refine ⟨?_, by simp, by rw [getD_past (Nat.le_refl _)]⟩
    rw [List.set_append_right _ _ (Nat.le_refl _)]; simp
  · rw [if_neg hc, if_pos (by omega)]
    exact ⟨rfl, by omega, rfl⟩

set_option maxRecDepth 100000 in
set_option maxHeartbeats 3200000 in
theorem leLevels_any (ao : Option Addr) (n cap : Nat) (xs : List Int) (w : World) (h : IntsAt w ao n cap xs) (hg : Good xs) :
    Calls Try.prog 69 #[.slice ao n cap] w fun e w' => ∃ ao' n' cap', e = .returned (.slice ao' n' cap') ∧ Own w.heap.size w'.heap.size w' ao' n' cap' (lvsL xs) ∧ Below w.heap.size w w' := by
  have hl := h.length
  have hlen := hg.len
  have hn28 : n ≤ 28 := by omega
  have Hg := Lib.hid hg; clear hg
  have Hl := Lib.hid hl; clear hl
  go_enter Try.func69, Try.ntmps69
  go_wp2
  go_loopw [3, 9] (fun o i wr => ∃ (k : Nat) (a : Option Addr) (m c : Nat), k ≤ n ∧ i = .int .i64 k ∧ o = .slice a m c ∧ Own w.heap.size wr.heap.size wr a m c (levNV xs k) ∧ Below w.heap.size w wr) (fun _ i _ => n - (intOf i).toNat)
  case atStart => exact ⟨0, none, 0, 0, Nat.zero_le _, rfl, rfl, Own.nil _ _ _, Below.refl _ _⟩
  case round =>
    obtain ⟨k, a, m, c, hk, rfl, rfl, hm, hbk⟩ := hrel
    by_cases hlt : k < n
    · have hr := h.keep hbk
      obtain ⟨b, o, rfl, hb, hc⟩ := hr.cell k hlt
      have hck := hc k hlt
      clear hc
      generalize hx : xs.getD k 0 = x at hck
      have Hx := Lib.hid hx; clear hx
      have hxl : k < xs.length := by rw [Hl.out]; exact hlt
      have hx1 := good_at Hg.out hxl
      rw [Hx.out] at hx1
      obtain ⟨wi, hwi⟩ : ∃ wi : World, wi = wr := ⟨_, rfl⟩
      subst hwi
      have Hxl := Lib.hid hxl; clear hxl
      have Hr := Lib.hid hr; clear hr
      go_wp2
      go_loopw [3, 6] (fun o p wq => ∃ (q : Nat) (a : Option Addr) (m c : Nat), (q : Int) ≤ x ∧ p = .int .i64 q ∧ o = .slice a m c ∧ Own w.heap.size wq.heap.size wq a m c (bumps (levNV xs k) k q) ∧ Below w.heap.size w wq) (fun _ p _ => x.toNat - (intOf p).toNat)
      case atStart => exact ⟨0, a, m, c, by omega, rfl, rfl, hm, hbk⟩
      case round =>
        obtain ⟨q, a2, m2, c2, hq, rfl, rfl, hmq, hbq⟩ := hrel
        clear hm hbk
        by_cases hlt2 : (q : Int) < x
        · have b1 := bumpsS_le Hg.out Hxl.out (by rw [Hx.out]; exact hq)
          have b2 := bumpsS_at Hg.out (q := q) Hxl.out (k + q)
          have b3 := bumpsS_ge Hg.out (q := q) Hxl.out
          have e3 : bumps (levNV xs k) k (q + 1) = bumpV (bumps (levNV xs k) k q) (k + q) := rfl
          generalize bumps (levNV xs k) k q = ls at *
          have hlm := hmq.length
          have hrb := room_bump b3
          obtain ⟨wj, hwj⟩ : ∃ wj : World, wj = wr := ⟨_, rfl⟩
          subst hwj
          have E3 := Lib.hid e3; clear e3
          have Hrb := Lib.hid hrb; clear hrb
          go_wp2
          go_loopw [3] (fun o wq => ∃ (a : Option Addr) (m c : Nat) (zs : List Int), o = .slice a m c ∧ Own w.heap.size wq.heap.size wq a m c zs ∧ (zs = ls ∨ zs = roomL ls (k + q)) ∧ Below w.heap.size w wq) (fun o _ => k + q + 1 - lenOfS o)
          case atStart => exact ⟨a2, m2, c2, ls, rfl, hmq, .inl rfl, hbq⟩
          case round =>
            obtain ⟨a3, m3, c3, zs, rfl, ho3, hzs, hb3⟩ := hrel
            clear hmq hbq
            have hl3 := ho3.length
            by_cases hroom : m3 ≤ k + q
            · have hz : zs = ls := by
                rcases hzs with e | e
                · exact e
                · have := (Hrb.out).2.1; rw [← e] at this; omega
              subst hz
              have er : roomL zs (k + q) = zs ++ [0] := by unfold roomL; rw [if_pos (by omega)]
              have Er := Lib.hid er; clear er
              clear hzs
              go_wp2_with (at_builtin; refine wpList_push wr rfl _ _ rfl w.heap.size wr.heap.size _ m3 c3 _ rfl ho3 0 rfl (by omega) hb3.size ?_)
              intro a4 c4 w4 ho4 hc4
              have hb4 := hb3.trans (ho3.chgBelow hc4 hb3.size)
              clear ho3 hc4 hb3
              go_wp2
              go_roundw
              case rel => exact ⟨a4, m3 + 1, c4, _, rfl, ho4, .inr (Er.out).symm, hb4⟩
              case measure => simp [lenOfS]; omega
            · have hz : zs = roomL ls (k + q) := by
                rcases hzs with e | e
                · rw [e]; unfold roomL; rw [if_neg (by rw [← e]; omega)]
                · exact e
              rw [← hz] at Hrb
              rcases ho3.cases with ⟨_, hz0, _⟩ | ⟨g, rfl, hg1, hg2, hg3⟩
              · omega
              · have hcell := getD_cells ho3 (k + q) (by omega)
                have hfz := ho3.frozenAt (k + q)
                have hst := ho3.set (k + q) (zs.getD (k + q) 0 + 1)
                rw [(Hrb.out).1] at hst
                have b2' := b2
                rw [← (Hrb.out).2.2] at b2'
                have hb4 := hb3.setCell (p := ⟨g, k + q, none⟩) hg1 (.int .i64 (zs.getD (k + q) 0 + 1))
                generalize zs.getD (k + q) 0 = z at *
                have Hst := Lib.hid hst; clear hst
                have Ho3 := Lib.hid ho3; clear ho3
                have Hb4 := Lib.hid hb4; clear hb4
                clear b2 hzs
                go_wp2
                go_roundw
                case rel => exact ⟨q + 1, _, m3, c3, by omega, valI (by omega), rfl, by rw [E3.out]; exact (Hst.out.1).mono (Nat.le_refl _) (by simp), Hb4.out⟩
                case measure => simp [intOf]; omega
        · have hxq : x = (q : Int) := by omega
          have e4 : levNV xs (k + 1) = bumps (levNV xs k) k q := by show bumps (levNV xs k) k (xs.getD k 0).toNat = _; rw [Hx.out, hxq]; rfl
          have E4 := Lib.hid e4; clear e4
          have Hxq := Lib.hid hxq; clear hxq
          go_wp2_with fail
          go_roundw
          case rel => exact ⟨k + 1, a2, m2, c2, by omega, valI (by omega), rfl, by rw [E4.out]; exact hmq, hbq⟩
          case measure => simp [intOf]; omega
    · have hkn : k = xs.length := by rw [Hl.out]; omega
      go_wp2_with fail
      go_ret
      refine ⟨a, m, c, rfl, ?_, hbk⟩
      rw [hkn] at hm
      exact hm

set_option maxRecDepth 100000 in
set_option maxHeartbeats 1600000 in
theorem lePotential_any (ao : Option Addr) (n cap : Nat) (xs : List Int) (w : World) (h : IntsAt w ao n cap xs) (hg : Good xs) :
    Calls Try.prog 53 #[.slice ao n cap] w fun e w' => e = .returned (.int .i64 (pot xs)) ∧ Below w.heap.size w w' := by
  have hcon := leLevels_any ao n cap xs w h hg
  have hle := lvsL_le hg
  have hw : ∀ j, j ≤ (lvsL xs).length → 0 ≤ wsumN (lvsL xs) j ∧ wsumN (lvsL xs) j ≤ 21952 := fun j hj => by have := pot_bound hg (k := j) (by omega); omega
  have hm : ∀ j, j < (lvsL xs).length → 0 ≤ (j : Int) * (lvsL xs).getD j 0 ∧ (j : Int) * (lvsL xs).getD j 0 ≤ 784 := fun j hj => by
    have h2 := lvsL_at hg j
    have h3 : (j : Int) * (lvsL xs).getD j 0 ≤ 28 * 28 := Int.mul_le_mul (by omega) h2.2.1 h2.1 (by omega)
    exact ⟨Int.mul_nonneg (by omega) h2.1, by omega⟩
  unfold pot
  generalize lvsL xs = ls at *
  generalize hL : ls.length = L at *
  have Hcon := Lib.hid hcon; clear hcon
  have Hw := Lib.hid hw; clear hw
  have Hm := Lib.hid hm; clear hm
  have HL := Lib.hid hL; clear hL
  clear h hg
  go_enter Try.func53, Try.ntmps53
  go_wp2_with fail
  with_reducible refine (Hcon.out).mono ?_
  rintro e w1 ⟨a1, m1, c1, rfl, ho, hb⟩
  have hat := ho.at
  obtain rfl : L = m1 := by rw [← HL.out]; exact ho.length
  clear ho
  go_wp2_with fail
  go_loop [3, 9] (fun s i => ∃ (j : Nat) (t : Int), j ≤ L ∧ i = .int .i64 j ∧ s = .int .i64 t ∧ wsumN ls j = t) (fun _ i => L - (intOf i).toNat)
  case atStart => exact ⟨0, 0, Nat.zero_le _, rfl, rfl, rfl⟩
  case round =>
    obtain ⟨j, s, hj, rfl, rfl, hs⟩ := hrel
    have hs1 := Hw.out j (by omega)
    rw [hs] at hs1
    by_cases hlt : j < L
    · have hm1 := Hm.out j (by omega)
      have es : wsumN ls (j + 1) = s + (j : Int) * ls.getD j 0 := by rw [wsumN, hs]
      obtain ⟨b, o, rfl, hb, hc⟩ := hat.cell j hlt
      have hck := hc j hlt
      clear hc
      generalize hx : ls.getD j 0 = x at hck
      have Hx := Lib.hid hx; clear hx
      rw [Hx.out] at hm1 es
      generalize hp : (j : Int) * x = p at hm1 es
      have Hs := Lib.hid hs; clear hs
      have Es := Lib.hid es; clear es
      go_wp2_with fail
      go_round
      case rel => exact ⟨j + 1, s + p, by omega, valI (by omega), valI (by go_num), Es.out⟩
      case measure => simp [intOf]; omega
    · obtain rfl : L = j := by omega
      go_wp2_with fail
      go_ret
      exact ⟨by first | rfl | rw [hs], hb⟩
end Go.Proofs.Ytmfdimdcoeapoaa
