/- Several texts in one: DkE, DkF, DkG, DkH. No condition. -/
import Derived.Test.YtimmjimeldejjaaGreatDoorDkO
import Derived.Test.YtimmjimeldejjaaGreatDoorDk2
import Derived.Test.YtimmjimeldejjaaGreatDoorEr
import Derived.Test.YtimmjimeldejjaaGreatDoorSt
import Derived.Test.YtimmjimeldejjaaGreatDoorCoJ
import Derived.Test.YtimmjimeldejjaaGreatDoorShelfC
import Derived.Lib.Bytealg
import Derived.Test.YtimmjimeldejjaaGreatDoorGb
namespace Go.Proofs.YtimmjimeldejjaaGreatDoor
section
open Go.RowKit
set_option linter.unusedVariables false
set_option linter.unusedSimpArgs false
set_option maxRecDepth 20000

theorem cutPE {P Q : Prop} (f : Hid P → Q) (p : P) : Q := f (Lib.hid p)
theorem Tryz.infoErr : (Tryz.prog.info? 73).map (fun i => (i.zero, i.size, i.bytes)) = some (some .nilIface, 1, 16) := by kernel_rfl
/-- the error that is kept for a line -/
def erV (n : Int) (pn pw : Addr) : Ans → Value
  | .ok _ => .nilIface
  | .no => .iface 75 (.agg #[.int .i64 n, errV pn])
  | .what => .iface 75 (.agg #[.int .i64 n, errV pw])
section
variable {w0 w : World} {g : Nat} {pa : Option Addr} {pk pc : Nat} {ra : Option Addr} {rn rc : Nat} {ea : Option Addr} {en ec : Nat}
theorem obey_any (pn pw : Addr) (hd : DkOk w0 pn pw) (h0 : Below w0.heap.size w0 w) (hg0 : w0.heap.size ≤ g) (D : DkB w g pa pk pc ra rn rc ea en ec) {a : List Int} (ha : Good a) (hP : Own w0.heap.size w.heap.size w pa pk pc a)
    {wa : Option Addr} {wn wc : Nat} {v : List UInt8} {r : List (List UInt8)} (hW : ValsAt w wa wn wc (strVs r)) (hw : wn ≤ 4000) (hr : ∀ t ∈ r, t.length ≤ 1048576) :
    Calls Tryz.prog 66 #[.pointer (some ⟨g, 0, none⟩), .string ⟨v.toArray⟩, .slice wa wn wc] w fun e w' => ∃ s E, e = .returned (.tuple #[.string s, E]) ∧ ObRest pn pw g w0.heap.size (wordsA a (v :: r)) ra rn rc ea en ec w s E w' := by
  rcases ord_cases v with ⟨o, rfl, ho⟩ | ⟨hv, ho⟩
  · cases o with
    | take => exact obey_take pn pw hd h0 hg0 D ha hP hW hw hr
    | step => exact obey_step pn pw hd h0 hg0 D ha hP hW hw hr
    | steps => exact obey_steps pn pw hd h0 hg0 D ha hP hW hw hr
    | side => exact obey_side pn pw hd h0 hg0 D ha hP hW hw hr
    | past => exact obey_past pn pw hd h0 hg0 D ha hP hW hw hr
    | stairs => exact obey_stairs pn pw hd h0 hg0 D ha hP hW hw hr
    | sort => exact obey_sort pn pw hd h0 hg0 D ha hP hW hw hr
    | shown => exact obey_show pn pw hd h0 hg0 D ha hP hW hw hr
    | cards => exact obey_cards pn pw hd h0 hg0 D ha hP hW hw hr
    | pasts => exact obey_pasts pn pw hd h0 hg0 D ha hP hW hw hr
    | tail => exact obey_tail pn pw hd h0 hg0 D ha hP hW hw hr
    | length => exact obey_length pn pw hd h0 hg0 D ha hP hW hw hr
    | row => exact obey_row pn pw hd h0 hg0 D ha hP hW hw hr
    | orbit => exact obey_orbit pn pw hd h0 hg0 D ha hP hW hw hr
    | bank => exact obey_bank pn pw hd h0 hg0 D ha hP hW hw hr
    | start => exact obey_start pn pw hd h0 hg0 D ha hP hW hw hr
  · exact obey_none pn pw hd h0 hg0 D ha hP hv ho
/-- what a line has done to the desk -/
def ExPost (pn pw : Addr) (g : Nat) (X : List Int × Ans) (R : List (List UInt8)) (Es : List Value) (rn en : Nat) (w0 w' : World) : Prop :=
  ∃ pa' pk' pc' ra' rc' ea' ec', DkB w' g pa' pk' pc' ra' (rn + 1) rc' ea' (en + 1) ec' ∧ Own w0.heap.size w'.heap.size w' pa' pk' pc' X.1 ∧ OwnRow w0.heap.size w'.heap.size w' 9 ra' (rn + 1) rc' (strVs (R ++ [repA X.2])) ∧ OwnRow w0.heap.size w'.heap.size w' 73 ea' (en + 1) ec' (Es ++ [erV ((rn + 1 : Nat) : Int) pn pw X.2]) ∧ Below w0.heap.size w0 w'
/-- two lists of the desk lie apart from each other and from the desk -/
theorem row_off {B E B' E' : Nat} {w : World} {ty ty' : TypeId} {a b : Option Addr} {n c m d : Nat} {us vs : List Value} (h : OwnRow B E w ty a n c us) (k : OwnRow B' E' w ty' b m d vs) (ht : ty ≠ ty') {q : Nat} (h1 : (Value.slice a n c).ownBlock = some q) (h2 : (Value.slice b m d).ownBlock = some q) : False := by
  obtain ⟨cur, e1⟩ := h.typedI h1
  obtain ⟨cur', e2⟩ := k.typedI h2
  rw [e1] at e2
  simp only [Option.some.injEq, Obj.cells.injEq] at e2
  exact ht e2.2.1
theorem strVs_snoc (R : List (List UInt8)) (t : List UInt8) : strVs (R ++ [t]) = strVs R ++ [.string ⟨t.toArray⟩] := by simp [strVs]
set_option maxHeartbeats 6400000 in
theorem execute_any (pn pw : Addr) (hd : DkOk w0 pn pw) (h0 : Below w0.heap.size w0 w) (hg0 : w0.heap.size ≤ g) (D : DkB w g pa pk pc ra rn rc ea en ec) {a : List Int} (ha : Good a) (hP : Own w0.heap.size w.heap.size w pa pk pc a)
    {R : List (List UInt8)} (hR : OwnRow w0.heap.size w.heap.size w 9 ra rn rc (strVs R)) {Es : List Value} (hE : OwnRow w0.heap.size w.heap.size w 73 ea en ec Es) (hrn : rn ≤ 1000) (hen : en ≤ 1000) (s : ByteArray) (hs : s.size ≤ 3000) :
    Calls Tryz.prog 38 #[.pointer (some ⟨g, 0, none⟩), .string s] w fun e w' => e = .returned (.tuple #[]) ∧ ExPost pn pw g (lineA a s.data.toList) R Es rn en w0 w' := by
  have hsp := split_any s 32 w (by omega) (hd.keep h0).lib
  have hmem : ∀ t ∈ splitL 32 s.data.toList, t.length ≤ 1048576 := fun t ht => by
    have h1 := splitL_word_le 32 s.data.toList t ht
    have h2 : s.data.toList.length = s.size := rfl
    omega
  have hlen : (splitL 32 s.data.toList).length ≤ 3001 := by
    have h1 := splitL_le 32 s.data.toList
    have h2 : s.data.toList.length = s.size := rfl
    omega
  obtain ⟨v, r, hvr⟩ : ∃ v r, splitL 32 s.data.toList = v :: r := by
    cases h : splitL 32 s.data.toList with
    | nil => exact absurd h (splitL_ne _ _)
    | cons v r => exact ⟨v, r, rfl⟩
  have hX : lineA a s.data.toList = wordsA a (v :: r) := by unfold lineA; rw [hvr]
  rw [hvr] at hsp hmem hlen
  simp only [List.length_cons] at hlen
  rw [hX]
  clear hvr hX
  have Hsp := Lib.hid hsp; clear hsp
  go_enter Tryz.func38, Tryz.ntmps38
  go_wp2_with fail
  with_reducible refine (Hsp.out).mono ?_
  rintro e w1 ⟨wa, wn, wc, rfl, how, hb1⟩
  have hva := how.at
  have hwn : wn = r.length + 1 := by have := how.length; simp [strVs] at this; exact this.symm
  subst hwn
  have hcap := hva.le
  obtain ⟨b, o, rfl, hw0⟩ := wordAt hva (k := 0) (by omega)
  rw [List.getD_cons_zero, Nat.add_zero] at hw0
  obtain ⟨a2, hrun, hva2⟩ := slFromW w1 _ hva 1 (by omega) .i64
  have hva3 : ValsAt w1 a2 r.length (wc - 1) (strVs r) := hva2
  have hrun2 : ∀ w : World, (Instr.sliceAt 38 (.slice (some ⟨b, o, none⟩) (r.length + 1) wc) (some (.int .i64 1)) none none).run Tryz.prog w = .ok (.slice a2 r.length (wc - 1)) w := hrun
  have hb1d := hb1.drew
  have h01 := belowTrans h0 hb1d (Nat.le_refl _)
  have hs1 : w.heap.size ≤ w1.heap.size := hb1.size
  have hs0 : w0.heap.size ≤ w.heap.size := h0.size
  have hob := obey_any (w := w1.drew) pn pw hd h01 hg0 ((D.keep hb1).drew) ha ((hP.keep hb1d).mono (Nat.le_refl _) hs1) (v := v) (wn := r.length) (wc := wc - 1) (r := r) (wa := a2) ⟨hva3.length, hva3.le, hva3.max, hva3.isNil, hva3.cell⟩ (by omega) (fun t ht => hmem t (by simp [ht]))
  have hd2 := fun W (q : Below w0.heap.size w0 W) => hd.keep q
  have hR1 : OwnRow w0.heap.size w1.heap.size w1.drew 9 ra rn rc (strVs R) := (hR.keep hb1d).mono (Nat.le_refl _) hs1
  have hE1 : OwnRow w0.heap.size w1.heap.size w1.drew 73 ea en ec Es := (hE.keep hb1d).mono (Nat.le_refl _) hs1
  have D1 : DkB w1.drew g pa pk pc ra rn rc ea en ec := (D.keep hb1).drew
  generalize hxq : wordsA a (v :: r) = X at hob
  obtain ⟨A2, X2⟩ := X
  have Hxq := Lib.hid hxq; clear hxq
  have hob2 := hob.mono (R' := fun e w2 => ∃ s E, e = .returned (.tuple #[.string s, E]) ∧ Hid (E = errA pn pw X2 ∧ (∀ t, X2 = .ok t → s = ⟨t.toArray⟩) ∧ (∃ pa' pk' pc', DkB w2 g pa' pk' pc' ra rn rc ea en ec ∧ Own w0.heap.size w2.heap.size w2 pa' pk' pc' A2) ∧ OwnRow w0.heap.size w2.heap.size w2 9 ra rn rc (strVs R) ∧ OwnRow w0.heap.size w2.heap.size w2 73 ea en ec Es ∧ Below w0.heap.size w0 w2)) (by
    rintro e w2 ⟨s2, E2, e1, q1, q2, pa', pk', pc', q3, q4, q5⟩
    have hb2 : Below w0.heap.size w0 w2 := h01.trans (q5.below h01.size (fun k hk => by omega))
    refine ⟨s2, E2, e1, Lib.hid ⟨q1, q2, ⟨pa', pk', pc', q3, q4⟩, ?_, ?_, hb2⟩⟩
    · exact (hR1.chg q5 (fun g' _ _ e h => D1.off hR1 (by decide) (h ▸ e))).mono (Nat.le_refl _) q5.size
    · exact (hE1.chg q5 (fun g' _ _ e h => D1.off hE1 (by decide) (h ▸ e))).mono (Nat.le_refl _) q5.size)
  clear hob hR hE hP D D1 hR1 hE1 hva hva2 hva3 how hb1 hb1d h01 hs1 hmem hlen hrun hd h0 ha
  have Hob2 := Lib.hid hob2; clear hob2
  have Hd2 := Lib.hid hd2; clear hd2
  go_wp2_with fail
  refine' cutPE (fun key => ?main) ?pf
  case main =>
    go_region_law (first | (go_simp; with_reducible refine (Hob2.out).mono ?_; rintro e w2 ⟨s2, E2, rfl, Hq⟩))
    all_goals
      revert w2 s2 E2
      exact key.out
  case pf =>
    intro w2 s2 E2 Hq
    obtain ⟨rfl, hs2, ⟨pa', pk', pc', D2, hP2⟩, hR2, hE2, hb2⟩ := Hq.out
    clear Hq Hob2
    cases X2 with
    | ok t =>
      obtain rfl := hs2 t rfl
      simp only [errA]
      obtain ⟨wq, hwq⟩ : ∃ wq : World, wq = w2 := ⟨_, rfl⟩
      subst hwq
      have D3 := D2
      have hP3 := hP2
      have hR3 := hR2
      have hE3 := hE2
      have hb3 := hb2
      clear D2 hP2 hR2 hE2 hb2 hs2
      obtain ⟨⟨x0, x1, x2⟩, y0, y1, y2⟩ := D3.cells
      have hsq := hb3.size
      have HP3 := Lib.hid hP3; clear hP3
      go_wp2_with (at_builtin; refine wpList_pushV wq rfl _ _ 38 rfl 9 _ 16 Tryz.underlying38 Tryz.infoStr rfl (by decide) w0.heap.size wq.heap.size ra rn rc _ rfl hR3 _ rfl rfl (by omega) hb3.size ?_)
      intro ra5 rc5 w5 hR5 hc5
      have hE5 := hE3.chg hc5 (fun q _ _ e h => row_off hR3 hE3 (by decide) h e)
      have hP5 := HP3.out.chg hc5 (fun q _ _ e h => row_off hR3 HP3.out (by decide) h e)
      have D5 := D3.chg hc5 (fun h => D3.off hR3 (by decide) h)
      have hb5 := hb3.trans (hR3.chgBelow hc5 hb3.size)
      have hs5 := hc5.size
      have D6 := D5.setR ra5 (rn + 1) rc5
      have hc6 := chgCell w5 g 1 (.slice ra5 (rn + 1) rc5)
      have hR6 := hR5.chg hc6 (fun q _ _ e h => D5.off hR5 (by decide) (h ▸ e))
      have hE6 := hE5.chg hc6 (fun q _ _ e h => D5.off hE5 (by decide) (h ▸ e))
      have hP6 := hP5.chg hc6 (fun q _ _ e h => D5.off hP5 (by decide) (h ▸ e))
      have hb6 : Below w0.heap.size w0 (w5.setCell ⟨g, 1, none⟩ (.slice ra5 (rn + 1) rc5)) := hb5.setCell (p := ⟨g, 1, none⟩) hg0 _
      obtain ⟨⟨p0, p1, p2⟩, q0, q1, q2⟩ := D5.cells
      obtain ⟨⟨u0, u1, u2⟩, f0, f1, f2⟩ := D6.cells
      have hs6 : (w5.setCell ⟨g, 1, none⟩ (.slice ra5 (rn + 1) rc5)).heap.size = w5.heap.size := by simp
      have hbs6 := hb6.size
      clear x0 x1 x2 y0 y1 y2 hR3 D3 hc5 D5 hc6 hb5 hR5 hE5 hP5 HP3
      have HR6 := Lib.hid hR6; clear hR6
      have HP6 := Lib.hid hP6; clear hP6
      go_wp2_with (at_builtin; refine wpList_pushV (w5.setCell ⟨g, 1, none⟩ (.slice ra5 (rn + 1) rc5)) rfl _ _ 56 rfl 73 _ 16 Tryz.underlying56 Tryz.infoErr rfl (by decide) w0.heap.size wq.heap.size ea en ec _ rfl hE6 _ rfl (by rw [hs6]; rfl) (by omega) hbs6 ?_)
      intro ea7 ec7 w7 hE7 hc7
      have hP7 := HP6.out.chg hc7 (fun q _ _ e h => row_off hE6 HP6.out (by decide) h e)
      have hR7 := HR6.out.chg hc7 (fun q _ _ e h => row_off hE6 HR6.out (by decide) h e)
      have D7 := D6.chg hc7 (fun h => D6.off hE6 (by decide) h)
      have hb7 := hb6.trans (hE6.chgBelow hc7 hb6.size)
      have hs7 := hc7.size
      have D8 := D7.setE ea7 (en + 1) ec7
      have hc8 := chgCell w7 g 2 (.slice ea7 (en + 1) ec7)
      have hR8 := hR7.chg hc8 (fun q _ _ e h => D7.off hR7 (by decide) (h ▸ e))
      have hE8 := hE7.chg hc8 (fun q _ _ e h => D7.off hE7 (by decide) (h ▸ e))
      have hP8 := hP7.chg hc8 (fun q _ _ e h => D7.off hP7 (by decide) (h ▸ e))
      have hb8 : Below w0.heap.size w0 (w7.setCell ⟨g, 2, none⟩ (.slice ea7 (en + 1) ec7)) := hb7.setCell (p := ⟨g, 2, none⟩) hg0 _
      have hs8 : (w7.setCell ⟨g, 2, none⟩ (.slice ea7 (en + 1) ec7)).heap.size = w7.heap.size := by simp
      have hfin : ExPost pn pw g (A2, Ans.ok t) R Es rn en w0 (w7.setCell ⟨g, 2, none⟩ (.slice ea7 (en + 1) ec7)) :=
        ⟨pa', pk', pc', ra5, rc5, ea7, ec7, D8, hP8.mono (Nat.le_refl _) (by omega), by rw [strVs_snoc]; exact hR8.mono (Nat.le_refl _) (by omega), hE8.mono (Nat.le_refl _) (by omega), hb8⟩
      obtain ⟨⟨p0, p1, p2⟩, q0, q1, q2⟩ := D7.cells
      clear u0 u1 u2 f0 f1 f2 hE6 D6 hb6 HR6 HP6 hc7 hE7 hP7 hR7 D7 hb7 D8 hc8 hR8 hE8 hP8 hb8 hs8 hs7 hs6 hbs6 hs5 hsq hE3 hb3
      have Hfin := Lib.hid hfin; clear hfin
      go_wp2
      go_end0
      rw [Hxq.out]
      exact ⟨rfl, Hfin.out⟩
    | no =>
      obtain ⟨⟨z0, z1, z2⟩, k0, k1, k2⟩ := D2.cells
      have hrf := refusal_no pn pw ((rn : Int) + 1) w2 (Hd2.out w2 hb2)
      simp only [errA]
      unfold errV at hrf
      unfold errV
      have hrn8 : (rn : Int) ≤ 1000 := by omega
      clear hs2
      have Hrf := Lib.hid hrf; clear hrf
      go_wp2_with fail
      with_reducible refine (Hrf.out).mono ?_
      rintro e wq ⟨rfl, hbq⟩
      have D3 := D2.keep hbq
      have hP3 := (hP2.keep hbq).mono (Nat.le_refl _) hbq.size
      have hR3 := (hR2.keep hbq).mono (Nat.le_refl _) hbq.size
      have hE3 := (hE2.keep hbq).mono (Nat.le_refl _) hbq.size
      have hb3 := belowTrans hb2 hbq (Nat.le_refl _)
      clear D2 hP2 hR2 hE2 hb2 hbq z0 z1 z2 k0 k1 k2
      obtain ⟨⟨x0, x1, x2⟩, y0, y1, y2⟩ := D3.cells
      have hsq := hb3.size
      have HP3 := Lib.hid hP3; clear hP3
      go_wp2_with (at_builtin; refine wpList_pushV wq rfl _ _ 38 rfl 9 _ 16 Tryz.underlying38 Tryz.infoStr rfl (by decide) w0.heap.size wq.heap.size ra rn rc _ rfl hR3 _ rfl rfl (by omega) hb3.size ?_)
      intro ra5 rc5 w5 hR5 hc5
      have hE5 := hE3.chg hc5 (fun q _ _ e h => row_off hR3 hE3 (by decide) h e)
      have hP5 := HP3.out.chg hc5 (fun q _ _ e h => row_off hR3 HP3.out (by decide) h e)
      have D5 := D3.chg hc5 (fun h => D3.off hR3 (by decide) h)
      have hb5 := hb3.trans (hR3.chgBelow hc5 hb3.size)
      have hs5 := hc5.size
      have D6 := D5.setR ra5 (rn + 1) rc5
      have hc6 := chgCell w5 g 1 (.slice ra5 (rn + 1) rc5)
      have hR6 := hR5.chg hc6 (fun q _ _ e h => D5.off hR5 (by decide) (h ▸ e))
      have hE6 := hE5.chg hc6 (fun q _ _ e h => D5.off hE5 (by decide) (h ▸ e))
      have hP6 := hP5.chg hc6 (fun q _ _ e h => D5.off hP5 (by decide) (h ▸ e))
      have hb6 : Below w0.heap.size w0 (w5.setCell ⟨g, 1, none⟩ (.slice ra5 (rn + 1) rc5)) := hb5.setCell (p := ⟨g, 1, none⟩) hg0 _
      obtain ⟨⟨p0, p1, p2⟩, q0, q1, q2⟩ := D5.cells
      obtain ⟨⟨u0, u1, u2⟩, f0, f1, f2⟩ := D6.cells
      have hs6 : (w5.setCell ⟨g, 1, none⟩ (.slice ra5 (rn + 1) rc5)).heap.size = w5.heap.size := by simp
      have hbs6 := hb6.size
      clear x0 x1 x2 y0 y1 y2 hR3 D3 hc5 D5 hc6 hb5 hR5 hE5 hP5 HP3
      have HR6 := Lib.hid hR6; clear hR6
      have HP6 := Lib.hid hP6; clear hP6
      go_wp2_with (at_builtin; refine wpList_pushV (w5.setCell ⟨g, 1, none⟩ (.slice ra5 (rn + 1) rc5)) rfl _ _ 56 rfl 73 _ 16 Tryz.underlying56 Tryz.infoErr rfl (by decide) w0.heap.size wq.heap.size ea en ec _ rfl hE6 _ rfl (by rw [hs6]; rfl) (by omega) hbs6 ?_)
      intro ea7 ec7 w7 hE7 hc7
      have hP7 := HP6.out.chg hc7 (fun q _ _ e h => row_off hE6 HP6.out (by decide) h e)
      have hR7 := HR6.out.chg hc7 (fun q _ _ e h => row_off hE6 HR6.out (by decide) h e)
      have D7 := D6.chg hc7 (fun h => D6.off hE6 (by decide) h)
      have hb7 := hb6.trans (hE6.chgBelow hc7 hb6.size)
      have hs7 := hc7.size
      have D8 := D7.setE ea7 (en + 1) ec7
      have hc8 := chgCell w7 g 2 (.slice ea7 (en + 1) ec7)
      have hR8 := hR7.chg hc8 (fun q _ _ e h => D7.off hR7 (by decide) (h ▸ e))
      have hE8 := hE7.chg hc8 (fun q _ _ e h => D7.off hE7 (by decide) (h ▸ e))
      have hP8 := hP7.chg hc8 (fun q _ _ e h => D7.off hP7 (by decide) (h ▸ e))
      have hb8 : Below w0.heap.size w0 (w7.setCell ⟨g, 2, none⟩ (.slice ea7 (en + 1) ec7)) := hb7.setCell (p := ⟨g, 2, none⟩) hg0 _
      have hs8 : (w7.setCell ⟨g, 2, none⟩ (.slice ea7 (en + 1) ec7)).heap.size = w7.heap.size := by simp
      have hfin : ExPost pn pw g (A2, Ans.no) R Es rn en w0 (w7.setCell ⟨g, 2, none⟩ (.slice ea7 (en + 1) ec7)) :=
        ⟨pa', pk', pc', ra5, rc5, ea7, ec7, D8, hP8.mono (Nat.le_refl _) (by omega), by rw [strVs_snoc]; exact hR8.mono (Nat.le_refl _) (by omega), hE8.mono (Nat.le_refl _) (by omega), hb8⟩
      obtain ⟨⟨p0, p1, p2⟩, q0, q1, q2⟩ := D7.cells
      clear u0 u1 u2 f0 f1 f2 hE6 D6 hb6 HR6 HP6 hc7 hE7 hP7 hR7 D7 hb7 D8 hc8 hR8 hE8 hP8 hb8 hs8 hs7 hs6 hbs6 hs5 hsq hE3 hb3
      have Hfin := Lib.hid hfin; clear hfin
      go_wp2
      go_end0
      rw [Hxq.out]
      exact ⟨rfl, Hfin.out⟩
    | what =>
      obtain ⟨⟨z0, z1, z2⟩, k0, k1, k2⟩ := D2.cells
      have hrf := refusal_what pn pw ((rn : Int) + 1) w2 (Hd2.out w2 hb2)
      simp only [errA]
      unfold errV at hrf
      unfold errV
      have hrn8 : (rn : Int) ≤ 1000 := by omega
      clear hs2
      have Hrf := Lib.hid hrf; clear hrf
      go_wp2_with fail
      with_reducible refine (Hrf.out).mono ?_
      rintro e wq ⟨rfl, hbq⟩
      have D3 := D2.keep hbq
      have hP3 := (hP2.keep hbq).mono (Nat.le_refl _) hbq.size
      have hR3 := (hR2.keep hbq).mono (Nat.le_refl _) hbq.size
      have hE3 := (hE2.keep hbq).mono (Nat.le_refl _) hbq.size
      have hb3 := belowTrans hb2 hbq (Nat.le_refl _)
      clear D2 hP2 hR2 hE2 hb2 hbq z0 z1 z2 k0 k1 k2
      obtain ⟨⟨x0, x1, x2⟩, y0, y1, y2⟩ := D3.cells
      have hsq := hb3.size
      have HP3 := Lib.hid hP3; clear hP3
      go_wp2_with (at_builtin; refine wpList_pushV wq rfl _ _ 38 rfl 9 _ 16 Tryz.underlying38 Tryz.infoStr rfl (by decide) w0.heap.size wq.heap.size ra rn rc _ rfl hR3 _ rfl rfl (by omega) hb3.size ?_)
      intro ra5 rc5 w5 hR5 hc5
      have hE5 := hE3.chg hc5 (fun q _ _ e h => row_off hR3 hE3 (by decide) h e)
      have hP5 := HP3.out.chg hc5 (fun q _ _ e h => row_off hR3 HP3.out (by decide) h e)
      have D5 := D3.chg hc5 (fun h => D3.off hR3 (by decide) h)
      have hb5 := hb3.trans (hR3.chgBelow hc5 hb3.size)
      have hs5 := hc5.size
      have D6 := D5.setR ra5 (rn + 1) rc5
      have hc6 := chgCell w5 g 1 (.slice ra5 (rn + 1) rc5)
      have hR6 := hR5.chg hc6 (fun q _ _ e h => D5.off hR5 (by decide) (h ▸ e))
      have hE6 := hE5.chg hc6 (fun q _ _ e h => D5.off hE5 (by decide) (h ▸ e))
      have hP6 := hP5.chg hc6 (fun q _ _ e h => D5.off hP5 (by decide) (h ▸ e))
      have hb6 : Below w0.heap.size w0 (w5.setCell ⟨g, 1, none⟩ (.slice ra5 (rn + 1) rc5)) := hb5.setCell (p := ⟨g, 1, none⟩) hg0 _
      obtain ⟨⟨p0, p1, p2⟩, q0, q1, q2⟩ := D5.cells
      obtain ⟨⟨u0, u1, u2⟩, f0, f1, f2⟩ := D6.cells
      have hs6 : (w5.setCell ⟨g, 1, none⟩ (.slice ra5 (rn + 1) rc5)).heap.size = w5.heap.size := by simp
      have hbs6 := hb6.size
      clear x0 x1 x2 y0 y1 y2 hR3 D3 hc5 D5 hc6 hb5 hR5 hE5 hP5 HP3
      have HR6 := Lib.hid hR6; clear hR6
      have HP6 := Lib.hid hP6; clear hP6
      go_wp2_with (at_builtin; refine wpList_pushV (w5.setCell ⟨g, 1, none⟩ (.slice ra5 (rn + 1) rc5)) rfl _ _ 56 rfl 73 _ 16 Tryz.underlying56 Tryz.infoErr rfl (by decide) w0.heap.size wq.heap.size ea en ec _ rfl hE6 _ rfl (by rw [hs6]; rfl) (by omega) hbs6 ?_)
      intro ea7 ec7 w7 hE7 hc7
      have hP7 := HP6.out.chg hc7 (fun q _ _ e h => row_off hE6 HP6.out (by decide) h e)
      have hR7 := HR6.out.chg hc7 (fun q _ _ e h => row_off hE6 HR6.out (by decide) h e)
      have D7 := D6.chg hc7 (fun h => D6.off hE6 (by decide) h)
      have hb7 := hb6.trans (hE6.chgBelow hc7 hb6.size)
      have hs7 := hc7.size
      have D8 := D7.setE ea7 (en + 1) ec7
      have hc8 := chgCell w7 g 2 (.slice ea7 (en + 1) ec7)
      have hR8 := hR7.chg hc8 (fun q _ _ e h => D7.off hR7 (by decide) (h ▸ e))
      have hE8 := hE7.chg hc8 (fun q _ _ e h => D7.off hE7 (by decide) (h ▸ e))
      have hP8 := hP7.chg hc8 (fun q _ _ e h => D7.off hP7 (by decide) (h ▸ e))
      have hb8 : Below w0.heap.size w0 (w7.setCell ⟨g, 2, none⟩ (.slice ea7 (en + 1) ec7)) := hb7.setCell (p := ⟨g, 2, none⟩) hg0 _
      have hs8 : (w7.setCell ⟨g, 2, none⟩ (.slice ea7 (en + 1) ec7)).heap.size = w7.heap.size := by simp
      have hfin : ExPost pn pw g (A2, Ans.what) R Es rn en w0 (w7.setCell ⟨g, 2, none⟩ (.slice ea7 (en + 1) ec7)) :=
        ⟨pa', pk', pc', ra5, rc5, ea7, ec7, D8, hP8.mono (Nat.le_refl _) (by omega), by rw [strVs_snoc]; exact hR8.mono (Nat.le_refl _) (by omega), hE8.mono (Nat.le_refl _) (by omega), hb8⟩
      obtain ⟨⟨p0, p1, p2⟩, q0, q1, q2⟩ := D7.cells
      clear u0 u1 u2 f0 f1 f2 hE6 D6 hb6 HR6 HP6 hc7 hE7 hP7 hR7 D7 hb7 D8 hc8 hR8 hE8 hP8 hb8 hs8 hs7 hs6 hbs6 hs5 hsq hE3 hb3
      have Hfin := Lib.hid hfin; clear hfin
      go_wp2
      go_end0
      rw [Hxq.out]
      exact ⟨rfl, Hfin.out⟩
end
end
end Go.Proofs.YtimmjimeldejjaaGreatDoor
namespace Go.Proofs.YtimmjimeldejjaaGreatDoor
section
open Go.RowKit
set_option linter.unusedVariables false
set_option linter.unusedSimpArgs false
set_option maxRecDepth 20000

end
end Go.Proofs.YtimmjimeldejjaaGreatDoor
namespace Go.Proofs.YtimmjimeldejjaaGreatDoor
section
open Go.RowKit
set_option linter.unusedVariables false
set_option linter.unusedSimpArgs false
set_option maxRecDepth 20000

end
end Go.Proofs.YtimmjimeldejjaaGreatDoor
namespace Go.Proofs.YtimmjimeldejjaaGreatDoor
section
open Go.RowKit
set_option linter.unusedVariables false
set_option linter.unusedSimpArgs false
set_option maxRecDepth 20000

theorem idx_mem (l : List UInt8) (c : UInt8) : decide (0 ≤ Lib.indexByte l c) = decide (c ∈ l) := by
  have key : 0 ≤ Lib.indexByte l c ↔ c ∈ l := by
    induction l with
    | nil => simp [Lib.indexByte]
    | cons b l ih =>
      have hge := Lib.indexByte_ge l c
      unfold Lib.indexByte
      by_cases hb : b = c
      · subst hb; simp
      · have hbc : (b == c) = false := by simpa using hb
        rw [hbc]
        simp only [Bool.false_eq_true, if_false]
        by_cases h1 : Lib.indexByte l c = -1
        · rw [if_pos (by simpa using h1)]
          have : ¬ c ∈ l := fun h => by have := ih.2 h; omega
          simp [this, Ne.symm hb]
        · rw [if_neg (by simpa using h1)]
          have : c ∈ l := ih.1 (by omega)
          simp [this]; omega
  by_cases h : c ∈ l
  · rw [decide_eq_true h, decide_eq_true (key.2 h)]
  · rw [decide_eq_false h, decide_eq_false (fun q => h (key.1 q))]
theorem contains_any (s : ByteArray) (w : World) : Calls Tryz.prog 36 #[.string s, .string ⟨#[10]⟩] w fun e w' => e = .returned (.bool (decide ((10 : UInt8) ∈ s.data.toList))) ∧ w' = w := by
  have h := Tryz.strings_Contains_one s 10 w
  rw [idx_mem] at h
  exact h
theorem mDL_no {a : List Int} {s : List UInt8} (h : ¬ (goodB a = true ∧ s.length ≤ 3000 ∧ (10 : UInt8) ∉ s)) : mDeskLine a s = ([], [], false) := by unfold mDeskLine; rw [if_neg h]
theorem mDL_yes {a : List Int} {s : List UInt8} (h : goodB a = true ∧ s.length ≤ 3000 ∧ (10 : UInt8) ∉ s) : mDeskLine a s = ((lineA a s).1, repA (lineA a s).2, true) := by unfold mDeskLine; rw [if_pos h]
set_option maxHeartbeats 3200000 in
theorem impl_DeskLine (pn pw : Addr) (ao : Option Addr) (n cap : Nat) (xs : List Int) (s : ByteArray) (w : World) (h : IntsAt w ao n cap xs) (hs : s.size ≤ 1048576) (hd : DkOk w pn pw) :
    Calls Tryz.prog 11 #[.slice ao n cap, .string s] w fun e w' => ∃ a m c, e = .returned (.tuple #[.slice a m c, .string ⟨(mDeskLine xs s.data.toList).2.1.toArray⟩, .bool (mDeskLine xs s.data.toList).2.2]) ∧ Own w.heap.size w'.heap.size w' a m c (mDeskLine xs s.data.toList).1 ∧ Below w.heap.size w w' := by
  have hsz : s.data.toList.length = s.size := rfl
  have hgd := impl_IsPiles ao n cap xs w h
  have hb0 := Below.refl w.heap.size w
  unfold mIsPiles at hgd
  cases hg : goodB xs
  · have hm := mDL_no (a := xs) (s := s.data.toList) (fun q => by rw [hg] at q; cases q.1)
    rw [hg] at hgd
    clear hsz hs hd h
    have Hgd := Lib.hid hgd; clear hgd
    have Hm := Lib.hid hm; clear hm
    have Hg := Lib.hid hg; clear hg
    go_enter Tryz.func11, Tryz.ntmps11
    go_wp2_with fail
    with_reducible refine (Hgd.out).mono ?_
    rintro e w1 ⟨rfl, hb1⟩
    go_wp2
    go_ret3
    rw [Hm.out]
    exact ⟨none, 0, 0, rfl, Own.nil _ _ _, hb1⟩
  · rw [hg] at hgd
    by_cases h3 : s.size ≤ 3000
    · have h3i : ¬ (3000 : Int) < (s.size : Int) := by omega
      have hct := fun W => contains_any s W
      by_cases hnl : (10 : UInt8) ∈ s.data.toList
      · have hm := mDL_no (a := xs) (s := s.data.toList) (fun q => q.2.2 hnl)
        rw [decide_eq_true hnl] at hct
        clear hsz hs hd h h3
        have Hgd := Lib.hid hgd; clear hgd
        have Hm := Lib.hid hm; clear hm
        have Hg := Lib.hid hg; clear hg
        have Hct := Lib.hid hct; clear hct
        have Hnl := Lib.hid hnl; clear hnl
        go_enter Tryz.func11, Tryz.ntmps11
        go_wp2_with fail
        with_reducible refine (Hgd.out).mono ?_
        rintro e w1 ⟨rfl, hb1⟩
        go_wp2_with fail
        with_reducible refine (Hct.out _).mono ?_
        rintro e w2 ⟨rfl, rfl⟩
        go_wp2
        go_ret3
        rw [Hm.out]
        exact ⟨none, 0, 0, rfl, Own.nil _ _ _, hb1⟩
      · have hm := mDL_yes (a := xs) (s := s.data.toList) ⟨hg, by omega, hnl⟩
        rw [decide_eq_false hnl] at hct
        have hG := good_iff.1 hg
        have hln := h.length
        have hn28 : n ≤ 28 := by have := hG.len; omega
        have hdk := fun W (q : Below w.heap.size w W) => hd.keep q
        have hI := fun W (q : Below w.heap.size w W) => h.keep q
        clear hsz hs h
        have Hgd := Lib.hid hgd; clear hgd
        have Hm := Lib.hid hm; clear hm
        have Hg := Lib.hid hg; clear hg
        have Hct := Lib.hid hct; clear hct
        have Hnl := Lib.hid hnl; clear hnl
        have HG := Lib.hid hG; clear hG
        have Hdk := Lib.hid hdk; clear hdk
        have HI := Lib.hid hI; clear hI
        have Hln := Lib.hid hln; clear hln
        go_enter Tryz.func11, Tryz.ntmps11
        go_wp2_with fail
        with_reducible refine (Hgd.out).mono ?_
        rintro e w1 ⟨rfl, hb1⟩
        go_wp2_with fail
        with_reducible refine (Hct.out _).mono ?_
        rintro e w2 ⟨rfl, rfl⟩
        have hcp := copyOf_any ao n cap xs w2 (HI.out w2 hb1) (by omega)
        have Hcp := Lib.hid hcp; clear hcp
        have Hb1 := Lib.hid hb1; clear hb1
        go_wp2_with fail
        with_reducible refine (Hcp.out).mono ?_
        rintro e w3 ⟨a3, c3, rfl, ho3, hb3⟩
        have hbD := belowAlloc w3 (.cells #[.slice a3 n c3, .slice none 0 0, .slice none 0 0] 58)
        have D0 := DkB.new w3 a3 n c3 none 0 0 none 0 0
        have hb13 := belowTrans Hb1.out hb3 (Nat.le_refl _)
        have hb14 := belowTrans hb13 hbD (Nat.le_refl _)
        have hs3 := hb13.size
        have hs1 := Hb1.out.size
        have ho4 : Own w.heap.size (w3.alloc (.cells #[.slice a3 n c3, .slice none 0 0, .slice none 0 0] 58)).heap.size (w3.alloc (.cells #[.slice a3 n c3, .slice none 0 0, .slice none 0 0] 58)) a3 n c3 xs := (ho3.keep hbD).mono hs1 (by have := hbD.size; omega)
        have hex := execute_any (w0 := w) pn pw hd hb14 hs3 D0 HG.out ho4 (R := []) (OwnRow.nil _ _ _ _) (Es := []) (OwnRow.nil _ _ _ _) (by omega) (by omega) s h3
        clear hbD D0 hb13 hb14 ho4 ho3 hb3 hs1
        have Hex := Lib.hid hex; clear hex
        go_wp2_with fail
        with_reducible refine (Hex.out).mono ?_
        rintro e w4 ⟨rfl, pa, pk, pc, ra, rc, ea, ec, D, hP, hR, hE, hb4⟩
        obtain ⟨⟨x0, x1, x2⟩, y0, y1, y2⟩ := D.cells
        obtain ⟨b, o, rfl, hw0⟩ := wordAt hR.at (k := 0) (by omega)
        rw [List.nil_append, List.getD_cons_zero, Nat.add_zero] at hw0
        clear D hR hE
        have HP := Lib.hid hP; clear hP
        have Hb4 := Lib.hid hb4; clear hb4
        go_wp2
        go_quiet (fail)
        go_wp2
        go_ret3
        rw [Hm.out]
        exact ⟨pa, pk, pc, rfl, (HP.out).drewN _, belowDrewN Hb4.out _⟩
    · have h3i : (3000 : Int) < (s.size : Int) := by omega
      have hm := mDL_no (a := xs) (s := s.data.toList) (fun q => h3 (by omega))
      clear hsz hs hd h h3
      have Hgd := Lib.hid hgd; clear hgd
      have Hm := Lib.hid hm; clear hm
      have Hg := Lib.hid hg; clear hg
      go_enter Tryz.func11, Tryz.ntmps11
      go_wp2_with fail
      with_reducible refine (Hgd.out).mono ?_
      rintro e w1 ⟨rfl, hb1⟩
      go_wp2
      go_ret3
      rw [Hm.out]
      exact ⟨none, 0, 0, rfl, Own.nil _ _ _, hb1⟩
end
end Go.Proofs.YtimmjimeldejjaaGreatDoor
