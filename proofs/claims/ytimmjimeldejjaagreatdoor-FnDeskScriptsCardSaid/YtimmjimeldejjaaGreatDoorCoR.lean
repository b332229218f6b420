/- The console's model reads a line. No condition but sizes. -/
import Derived.Test.YtimmjimeldejjaaGreatDoorCo1
import Derived.Test.YtimmjimeldejjaaGreatDoorGj
import Derived.Test.YtimmjimeldejjaaGreatDoorBt2
namespace Go.Proofs.YtimmjimeldejjaaGreatDoor
open Go.RowKit
set_option linter.unusedVariables false
set_option linter.unusedSimpArgs false
set_option maxRecDepth 20000

theorem resLn {fn : Func} {p u v : Tmp} {ty : TypeId} (h : fn.results = #[.tmp u, .cell p ty, .tmp v]) (tmps : Array Value) (P : Program) (w : World) :
    (results fn tmps).run P w = ((asAddr (tmps.getD p undef)).run P w).andThen fun a w₁ => ((loadVar ty a).run P w₁).andThen fun x w₂ => .ok (.tuple #[tmps.getD u undef, x, tmps.getD v undef]) w₂ := by
  simp only [results, h]
  simp [Sem.run_bind, Result.andThen]
theorem Own.off6 {B E w a n c zs} (h : Own B E w a n c zs) {R : Nat} (hR : R < B) (v0 v1 v2 v3 v4 v5 : Value) : Own B E ((((((w.setCell ⟨R, 0, none⟩ v0).setCell ⟨R, 1, none⟩ v1).setCell ⟨R, 2, none⟩ v2).setCell ⟨R, 3, none⟩ v3).setCell ⟨R, 4, none⟩ v4).setCell ⟨R, 5, none⟩ v5) a n c zs :=
  (((((h.offCell hR 0 v0).offCell hR 1 v1).offCell hR 2 v2).offCell hR 3 v3).offCell hR 4 v4).offCell hR 5 v5
theorem below6 {B : Nat} {w w' : World} (h : Below B w w') {R : Nat} (hR : B ≤ R) (v0 v1 v2 v3 v4 v5 : Value) : Below B w ((((((w'.setCell ⟨R, 0, none⟩ v0).setCell ⟨R, 1, none⟩ v1).setCell ⟨R, 2, none⟩ v2).setCell ⟨R, 3, none⟩ v3).setCell ⟨R, 4, none⟩ v4).setCell ⟨R, 5, none⟩ v5) :=
  (((((h.setCell (p := ⟨R, 0, none⟩) hR v0).setCell (p := ⟨R, 1, none⟩) hR v1).setCell (p := ⟨R, 2, none⟩) hR v2).setCell (p := ⟨R, 3, none⟩) hR v3).setCell (p := ⟨R, 4, none⟩) hR v4).setCell (p := ⟨R, 5, none⟩) hR v5
theorem OwnRow.offCell {B E w ty a n c vs} (h : OwnRow B E w ty a n c vs) {R : Nat} (hR : R < B) (i : Nat) (v : Value) : OwnRow B E (w.setCell ⟨R, i, none⟩ v) ty a n c vs :=
  h.chg (chgCell w R i v) fun g hg _ _ e => by omega
theorem slFromW2 (ao : Option Addr) (n cap lo : Nat) (h1 : lo ≤ n) (h2 : n ≤ cap) (k : IntKind) : ∃ a2, a2 = (if cap = lo then ao else ao.map (·.add (lo * 1))) ∧ ∀ w : World, (Instr.sliceAt 38 (.slice ao n cap) (some (.int k (lo : Int))) none none).run Tryz.prog w = .ok (.slice a2 (n - lo) (cap - lo)) w := by
  refine ⟨_, rfl, fun w => ?_⟩
  have hrun := run_slice_l (P := Tryz.prog) (w := w) 38 ao n cap Tryz.underlying38 k (lo : Int) (by omega) (by omega)
  rw [sizeStrW] at hrun
  rw [run_sliceAt_slice _ _ _ _ _ _ Tryz.underlying38, hrun]
  simp [Result.andThen, sliced]
theorem own_off {B E w a n c zs} (h : Own B E w a n c zs) {g : Nat} (hg : g < B) : ¬ (Value.slice a n c).ownBlock = some g := by
  rcases h.cases with ⟨rfl, _⟩ | ⟨b, rfl, h1, _⟩
  · simp [Value.ownBlock]
  · intro e
    simp only [Value.ownBlock, Option.some.injEq] at e
    omega
theorem two_words {α : Type} : ∀ {r : List α}, r.length = 2 → ∃ t u, r = [t, u]
  | [t, u], _ => ⟨t, u, rfl⟩
theorem read_len {K : Kd} {r : List (List UInt8)} (h : r.length ≠ (kdL K).length) : readK K r = none := by
  cases K <;> rcases r with _ | ⟨t, _ | ⟨u, _ | ⟨v, r⟩⟩⟩ <;> simp_all [readK, kdL]
theorem line_no {v : List UInt8} {r : List (List UInt8)} (h : readK (kdW v) r = none) (q : List Int) : wordsA q (v :: r) = (q, .what) := by
  unfold wordsA
  unfold kdW at h
  cases ho : ordOf v with
  | none => simp only [ho]
  | some o =>
    simp only [ho] at h
    simp only [ho, h]
theorem line_yes {v : List UInt8} {r : List (List UInt8)} {l : Ln} (h : readK (kdW v) r = some l) : ∃ o, v = wordO o ∧ KdOk (kdO o) l ∧ ∀ q, wordsA q (v :: r) = runO q l o := by
  rcases ord_cases v with ⟨o, rfl, ho⟩ | ⟨_, ho⟩
  · rw [kdW_word] at h
    refine ⟨o, rfl, read_ok h, fun q => ?_⟩
    unfold wordsA
    simp only [ho, h]
  · unfold kdW at h
    rw [ho] at h
    cases r <;> simp [readK] at h
theorem stK_all {K : Kd} {r : List (List UInt8)} {l : Ln} (hl : r.length = (kdL K).length) (h : stK K r r.length = some l) : readK K r = some l := by
  cases K <;> rcases r with _ | ⟨t, _ | ⟨u, _ | ⟨v, r⟩⟩⟩ <;> simp_all [stK, readK, kdL]
/-- a line's six cells, whatever they hold -/
def IsLn (x : Value) : Prop := ∃ pa pn pc la ln lc bh bl ba bn bc na nn nc, x = .agg #[.slice pa pn pc, .slice la ln lc, .int .i64 bh, .int .i64 bl, .slice ba bn bc, .slice na nn nc]
def RdPost (s : ByteArray) (ao : Option Addr) (n cap : Nat) (w : World) (e : Ending) (w' : World) : Prop :=
  Below w.heap.size w w' ∧ ((∃ x, IsLn x ∧ e = .returned (.tuple #[.string ⟨#[]⟩, x, .bool false]) ∧ ∀ q, lineA q s.data.toList = (q, .what)) ∨
    ∃ o l la ln lc ba bn bc na nn nc, e = .returned (.tuple #[.string ⟨(wordO o).toArray⟩, .agg #[.slice ao n cap, .slice la ln lc, .int .i64 l.bank.h, .int .i64 l.bank.l, .slice ba bn bc, .slice na nn nc], .bool true]) ∧ (∀ q, lineA q s.data.toList = runO q l o) ∧ KdOk (kdO o) l ∧
      Own w.heap.size w'.heap.size w' la ln lc l.list ∧ Own w.heap.size w'.heap.size w' ba bn bc l.bank.p ∧ Own w.heap.size w'.heap.size w' na nn nc l.n)

set_option maxHeartbeats 12800000 in
theorem coRead_any (ao : Option Addr) (n cap : Nat) (s : ByteArray) (w : World) (hs : s.size ≤ 1048576) :
    Calls Tryz.prog 69 #[.slice ao n cap, .string s] w fun e w' => RdPost s ao n cap w e w' := by
  obtain ⟨hb2, k1, m1⟩ := twoLn w ao n cap
  have hsp := fun W => l1Split_any s 32 W hs
  simp only [show (((32 : UInt8).toNat : Nat) : Int) = 32 from rfl] at hsp
  have hwl := splitL_word_le 32 s.data.toList
  have hcl := splitL_le 32 s.data.toList
  have hpo := splitL_ne 32 s.data.toList
  have hsz : s.data.toList.length = s.size := rfl
  have hln : ∀ q, lineA q s.data.toList = wordsA q (splitL 32 s.data.toList) := fun q => rfl
  generalize splitL 32 s.data.toList = O at *
  obtain ⟨v, r, rfl⟩ : ∃ v r, O = v :: r := by cases O with
    | nil => exact absurd rfl hpo
    | cons v r => exact ⟨v, r, rfl⟩
  have hno := fun h q => (hln q).trans (line_no (v := v) (r := r) h q)
  have hyes := fun l (h : readK (kdW v) r = some l) => line_yes h
  have hsh := fun W => coShape_any v W
  generalize kdW v = K at *
  have Hsp := Lib.hid hsp; clear hsp
  have Hwl := Lib.hid hwl; clear hwl
  have Hpo := Lib.hid hpo; clear hpo
  have Hln := Lib.hid hln; clear hln
  have Hno := Lib.hid hno; clear hno
  have Hyes := Lib.hid hyes; clear hyes
  have Hsh := Lib.hid hsh; clear hsh
  have Hcl := Lib.hid hcl; clear hcl
  have Hsz := Lib.hid hsz; clear hsz
  go_enter Tryz.func69, Tryz.ntmps69
  go_wp2_with fail
  with_reducible refine (Hsp.out _).mono ?_
  rintro e w1 ⟨a1, n1, c1, rfl, ho1, hb1⟩
  have hn1 := ho1.length
  simp only [strVs, List.length_map, List.length_cons] at hn1
  have hs1 := hb1.size
  have hs2 : w.heap.size + 2 ≤ w1.heap.size := by simpa using hs1
  have m2 := m1.keep hb1
  have k2 := k1.keep hb1
  have hbw := belowTrans hb2 hb1 (by simp)
  have how : OwnRow (w.heap.size + 2) w1.heap.size w1 9 a1 n1 c1 (strVs (v :: r)) := ho1.mono (by simp) (Nat.le_refl _)
  clear m1 k1 hb2 ho1 hb1
  obtain ⟨g1, rfl, hg1, hw0⟩ := how.strAt (k := 0) (by omega)
  rw [List.getD_cons_zero] at hw0
  go_wp2_with fail
  with_reducible refine (Hsh.out _).mono ?_
  rintro e w' ⟨rfl, rfl⟩
  clear Hsh Hsp
  have hn8 : (n1 : Int) ≤ 1048578 := by have := Hcl.out; have := Hsz.out; simp only [List.length_cons] at *; omega
  obtain ⟨S, hS⟩ : ∃ S : ByteArray, S = ⟨(kdL K).toArray⟩ := ⟨_, rfl⟩
  have hSm : S.size = (kdL K).length := by rw [hS]; exact List.size_toArray
  rw [← hS]
  by_cases hm : r.length = (kdL K).length
  · have hne : (((S.size : Nat) : Int) != (n1 : Int) - 1) = false := by simp; omega
    have hm2 : (kdL K).length ≤ 2 := by cases K <;> simp [kdL]
    have hn4 : n1 ≤ 3 := by omega
    have hS2 : S.size ≤ 2 := by omega
    obtain ⟨a2, ha2, hsl⟩ := slFromW2 (some ⟨g1, 0, none⟩) n1 c1 1 (by omega) (how.at.le) .i64
    obtain ⟨mm, hmm⟩ : ∃ mm, mm = n1 - 1 := ⟨_, rfl⟩
    have hva : ∀ W, OwnRow (w.heap.size + 2) w1.heap.size W 9 (some ⟨g1, 0, none⟩) n1 c1 (strVs (v :: r)) → ValsAt W a2 mm (c1 - 1) (strVs r) := fun W h => by
      have := h.at.drop 1 (by omega)
      rw [← ha2, ← hmm] at this
      exact this
    rw [← hmm] at hsl
    clear ha2
    have hrm : r.length = mm := by omega
    have hmi : (n1 : Int) - 1 = (mm : Int) := by omega
    have hm8 : (mm : Int) ≤ 2 := by omega
    simp only [show (((1 : Nat)) : Int) = 1 from rfl] at hsl
    have hall := fun l => stK_all (K := K) (r := r) (l := l) hm
    rw [hrm] at hall
    have HS := Lib.hid hS; clear hS
    have HSm := Lib.hid hSm; clear hSm
    have Hn1 := Lib.hid hn1; clear hn1
    have Hva := Lib.hid hva; clear hva
    have Hall := Lib.hid hall; clear hall
    obtain ⟨wo, hwo⟩ : ∃ wo : World, wo = w1 := ⟨_, rfl⟩
    subst hwo
    go_wp2_with fail
    go_loopw [32] (fun i wr => ∃ (k : Nat) (l : Ln) (la : Option Addr) (ln lc : Nat) (ba : Option Addr) (bn bc : Nat) (na : Option Addr) (nn nc : Nat), k ≤ mm ∧ i = .int .i64 k ∧ stK K r k = some l ∧ LnB wr (w.heap.size + 1) ao n cap la ln lc l.bank.h l.bank.l ba bn bc na nn nc 96 ∧ LnB wr w.heap.size none 0 0 none 0 0 0 0 none 0 0 none 0 0 96 ∧ Own (w.heap.size + 2) wr.heap.size wr la ln lc l.list ∧ Own (w.heap.size + 2) wr.heap.size wr ba bn bc l.bank.p ∧ Own (w.heap.size + 2) wr.heap.size wr na nn nc l.n ∧ OwnRow (w.heap.size + 2) wo.heap.size wr 9 (some ⟨g1, 0, none⟩) n1 c1 (strVs (v :: r)) ∧ Below w.heap.size w wr ∧ wo.heap.size ≤ wr.heap.size ∧ (0 < k → K = .nn → la = none ∧ ln = 0 ∧ lc = 0 ∧ ba = none ∧ bn = 0 ∧ bc = 0) ∧ (k = 0 → la = none ∧ ln = 0 ∧ lc = 0 ∧ ba = none ∧ bn = 0 ∧ bc = 0 ∧ na = none ∧ nn = 0 ∧ nc = 0)) (fun i _ => mm - (intOf i).toNat)
    case atStart => exact ⟨0, ⟨[], noBk, []⟩, none, 0, 0, none, 0, 0, none, 0, 0, Nat.zero_le _, rfl, rfl, m2, k2, Own.nil _ _ _, Own.nil _ _ _, Own.nil _ _ _, how, hbw, Nat.le_refl _, fun h => absurd h (by omega), fun _ => ⟨rfl, rfl, rfl, rfl, rfl, rfl, rfl, rfl, rfl⟩⟩
    case round =>
      clear m2 k2 how hbw hw0
      obtain ⟨k, l, la, ln, lc, ba, bn, bc, na, nn, nc, hk, rfl, hst, m2, k2, hol, hob, hon, how, hbw, hsz8, hnn, hz0⟩ := hrel
      by_cases hlt : k < mm
      · cases K with
        | z => simp only [kdL, List.length_nil] at hm; omega
        | q =>
          have hS : S = ⟨#[63]⟩ := HS.out
          subst hS
          obtain ⟨b3, o3, e3, hck⟩ := wordAt (Hva.out _ how) hlt
          subst e3
          obtain rfl : k = 0 := by simp only [kdL, List.length_cons, List.length_nil] at hm; omega
          obtain ⟨rfl, rfl, rfl, rfl, rfl, rfl, rfl, rfl, rfl⟩ := hz0 rfl
          have hst' : some (⟨[], noBk, []⟩ : Ln) = some l := hst
          cases hst'
          simp only [Nat.add_zero] at hck
          clear hst hnn hz0 hol hob hon
          replace m2 : LnB wr (w.heap.size + 1) ao n cap none 0 0 0 0 none 0 0 none 0 0 96 := m2
          have hno1 := Hno.out (by rcases r with _ | ⟨t, _ | ⟨u, r⟩⟩ <;> rfl)
          have hbd := hbw
          have HOW := Lib.hid how
          clear how hbw
          have Hno1 := Lib.hid hno1; clear hno1
          obtain ⟨⟨x0, x1, x2, x3, x4, x5⟩, y0, y1, y2, y3, y4, y5⟩ := k2.cells
          obtain ⟨⟨u0, u1, u2, u3, u4, u5⟩, f0, f1, f2, f3, f4, f5⟩ := m2.cells
          have Hbad := Lib.hid hbd
          clear k2 m2 hbd
          go_wp2_with fail
          go_region
          all_goals
            go_wp2
            refine bodyPost_ret (v := .tuple #[.string ⟨#[]⟩, .agg #[.slice ao n cap, .slice none 0 0, .int .i64 0, .int .i64 0, .slice none 0 0, .slice none 0 0], .bool false]) ?_ rfl ⟨(below6 Hbad.out (Nat.le_refl _) _ _ _ _ _ _).drew, .inl ⟨_, ⟨_, _, _, _, _, _, _, _, _, _, _, _, _, _, rfl⟩, rfl, fun q => Hno1.out q⟩⟩
            rw [resLn rfl]
            simp [go_sem, asAddr, Result.andThen, loadVar, *]
        | p =>
          have hS : S = ⟨#[112]⟩ := HS.out
          subst hS
          obtain ⟨b3, o3, e3, hck⟩ := wordAt (Hva.out _ how) hlt
          subst e3
          obtain rfl : k = 0 := by simp only [kdL, List.length_cons, List.length_nil] at hm; omega
          obtain ⟨rfl, rfl, rfl, rfl, rfl, rfl, rfl, rfl, rfl⟩ := hz0 rfl
          have hst' : some (⟨[], noBk, []⟩ : Ln) = some l := hst
          cases hst'
          simp only [Nat.add_zero] at hck
          clear hst hnn hz0 hol hob hon
          replace m2 : LnB wr (w.heap.size + 1) ao n cap none 0 0 0 0 none 0 0 none 0 0 96 := m2
          obtain ⟨t, rfl⟩ := List.length_eq_one_iff.1 (show r.length = 1 from hm)
          rw [List.getD_cons_zero] at hck
          have htl := Hwl.out t (by simp)
          have hts : (⟨t.toArray⟩ : ByteArray).size ≤ 1048576 := by show t.toArray.size ≤ _; rw [List.size_toArray]; have := Hsz.out; omega
          have hcon := spec_ParsePiles ⟨t.toArray⟩ wr hts
          have hrk : readK .p [t] = if (mParsePiles ⟨t.toArray⟩).2 = true then some ⟨(mParsePiles ⟨t.toArray⟩).1, noBk, []⟩ else none := rfl
          generalize mParsePiles ⟨t.toArray⟩ = P at hcon hrk
          obtain ⟨ps, pb⟩ := P
          simp only at hcon hrk
          have Hcon := Lib.hid hcon; clear hcon
          have Hrk := Lib.hid hrk; clear hrk
          go_wp2_with fail
          with_reducible refine (Hcon.out).mono ?_
          rintro e w2 ⟨a3, n3, c3, rfl, ho3, hb3⟩
          have hs3 := hb3.size
          have m3 := m2.keep hb3
          have k3 := (k2.keep hb3).chg (chgCell w2 (w.heap.size + 1) 1 (.slice a3 n3 c3)) (by omega)
          have hbw3 := (belowTrans hbw hb3 (Nat.le_refl _)).setCell (p := ⟨w.heap.size + 1, 1, none⟩) (by show w.heap.size ≤ w.heap.size + 1; omega) (.slice a3 n3 c3)
          obtain ⟨⟨u0, u1, u2, u3, u4, u5⟩, f0, f1, f2, f3, f4, f5⟩ := m3.cells
          have m4 := m3.setL a3 n3 c3
          have ho4 := (ho3.mono (show w.heap.size + 2 ≤ wr.heap.size by omega) (Nat.le_refl _)).offCell (R := w.heap.size + 1) (by omega) 1 (.slice a3 n3 c3)
          have how4 := (how.keep hb3).offCell (R := w.heap.size + 1) (by omega) 1 (.slice a3 n3 c3)
          clear ho3 how m3 m2 k2 hb3 hbw hck
          have hz4 : wo.heap.size ≤ w2.heap.size := by omega
          cases pb
          · have hno1 := Hno.out Hrk.out
            have HOW := Lib.hid how4
            have HO4 := Lib.hid ho4
            clear how4 ho4
            have Hno1 := Lib.hid hno1; clear hno1
            have m5 := m4
            clear m4
            have hk5 := k3
            clear k3
            have hbd := hbw3
            clear hbw3
            obtain ⟨⟨x0, x1, x2, x3, x4, x5⟩, y0, y1, y2, y3, y4, y5⟩ := hk5.cells
            obtain ⟨⟨u0, u1, u2, u3, u4, u5⟩, f0, f1, f2, f3, f4, f5⟩ := m5.cells
            have Hbad := Lib.hid hbd
            clear hk5 m5 hbd
            go_wp2_with fail
            go_region
            all_goals
              go_wp2
              refine bodyPost_ret (v := .tuple #[.string ⟨#[]⟩, .agg #[.slice ao n cap, .slice a3 n3 c3, .int .i64 0, .int .i64 0, .slice none 0 0, .slice none 0 0], .bool false]) ?_ rfl ⟨(below6 Hbad.out (Nat.le_refl _) _ _ _ _ _ _).drew, .inl ⟨_, ⟨_, _, _, _, _, _, _, _, _, _, _, _, _, _, rfl⟩, rfl, fun q => Hno1.out q⟩⟩
              rw [resLn rfl]
              simp [go_sem, asAddr, Result.andThen, loadVar, *]
          · have M4 := Lib.hid m4
            have K3 := Lib.hid k3
            have HB3 := Lib.hid hbw3
            have HOW := Lib.hid how4
            have HO4 := Lib.hid ho4
            clear m4 k3 hbw3 how4 ho4
            go_wp2
            go_roundw
            case rel => exact ⟨_, _, _, _, _, _, _, _, _, _, _, _, _, _, _, _, _, _, _, _, _, _, _, _, _, _, _, _, _, _, _, _, _, _, _, _, _, _, _, _, _, _, _, _, _, _, _, _, _, _, _, _, _, _, ⟨1, ⟨ps, noBk, []⟩, a3, n3, c3, none, 0, 0, none, 0, 0, by omega, rfl, Hrk.out, M4.out, K3.out, by have := HO4.out; simpa using this, Own.nil _ _ _, Own.nil _ _ _, HOW.out, HB3.out, by simpa using hz4, (fun _ h => by cases h), (fun h => by omega)⟩, rfl⟩
            case measure => simp [intOf] <;> omega
        | r =>
          have hS : S = ⟨#[114]⟩ := HS.out
          subst hS
          obtain ⟨b3, o3, e3, hck⟩ := wordAt (Hva.out _ how) hlt
          subst e3
          obtain rfl : k = 0 := by simp only [kdL, List.length_cons, List.length_nil] at hm; omega
          obtain ⟨rfl, rfl, rfl, rfl, rfl, rfl, rfl, rfl, rfl⟩ := hz0 rfl
          have hst' : some (⟨[], noBk, []⟩ : Ln) = some l := hst
          cases hst'
          simp only [Nat.add_zero] at hck
          clear hst hnn hz0 hol hob hon
          replace m2 : LnB wr (w.heap.size + 1) ao n cap none 0 0 0 0 none 0 0 none 0 0 96 := m2
          obtain ⟨t, rfl⟩ := List.length_eq_one_iff.1 (show r.length = 1 from hm)
          rw [List.getD_cons_zero] at hck
          have htl := Hwl.out t (by simp)
          have hts : (⟨t.toArray⟩ : ByteArray).size ≤ 1048576 := by show t.toArray.size ≤ _; rw [List.size_toArray]; have := Hsz.out; omega
          have hcon := spec_ParseRow ⟨t.toArray⟩ wr hts
          have hrk : readK .r [t] = if (mParseRow ⟨t.toArray⟩).2 = true then some ⟨(mParseRow ⟨t.toArray⟩).1, noBk, []⟩ else none := rfl
          generalize mParseRow ⟨t.toArray⟩ = P at hcon hrk
          obtain ⟨ps, pb⟩ := P
          simp only at hcon hrk
          have Hcon := Lib.hid hcon; clear hcon
          have Hrk := Lib.hid hrk; clear hrk
          go_wp2_with fail
          with_reducible refine (Hcon.out).mono ?_
          rintro e w2 ⟨a3, n3, c3, rfl, ho3, hb3⟩
          have hs3 := hb3.size
          have m3 := m2.keep hb3
          have k3 := (k2.keep hb3).chg (chgCell w2 (w.heap.size + 1) 1 (.slice a3 n3 c3)) (by omega)
          have hbw3 := (belowTrans hbw hb3 (Nat.le_refl _)).setCell (p := ⟨w.heap.size + 1, 1, none⟩) (by show w.heap.size ≤ w.heap.size + 1; omega) (.slice a3 n3 c3)
          obtain ⟨⟨u0, u1, u2, u3, u4, u5⟩, f0, f1, f2, f3, f4, f5⟩ := m3.cells
          have m4 := m3.setL a3 n3 c3
          have ho4 := (ho3.mono (show w.heap.size + 2 ≤ wr.heap.size by omega) (Nat.le_refl _)).offCell (R := w.heap.size + 1) (by omega) 1 (.slice a3 n3 c3)
          have how4 := (how.keep hb3).offCell (R := w.heap.size + 1) (by omega) 1 (.slice a3 n3 c3)
          clear ho3 how m3 m2 k2 hb3 hbw hck
          have hz4 : wo.heap.size ≤ w2.heap.size := by omega
          cases pb
          · have hno1 := Hno.out Hrk.out
            have HOW := Lib.hid how4
            have HO4 := Lib.hid ho4
            clear how4 ho4
            have Hno1 := Lib.hid hno1; clear hno1
            have m5 := m4
            clear m4
            have hk5 := k3
            clear k3
            have hbd := hbw3
            clear hbw3
            obtain ⟨⟨x0, x1, x2, x3, x4, x5⟩, y0, y1, y2, y3, y4, y5⟩ := hk5.cells
            obtain ⟨⟨u0, u1, u2, u3, u4, u5⟩, f0, f1, f2, f3, f4, f5⟩ := m5.cells
            have Hbad := Lib.hid hbd
            clear hk5 m5 hbd
            go_wp2_with fail
            go_region
            all_goals
              go_wp2
              refine bodyPost_ret (v := .tuple #[.string ⟨#[]⟩, .agg #[.slice ao n cap, .slice a3 n3 c3, .int .i64 0, .int .i64 0, .slice none 0 0, .slice none 0 0], .bool false]) ?_ rfl ⟨(below6 Hbad.out (Nat.le_refl _) _ _ _ _ _ _).drew, .inl ⟨_, ⟨_, _, _, _, _, _, _, _, _, _, _, _, _, _, rfl⟩, rfl, fun q => Hno1.out q⟩⟩
              rw [resLn rfl]
              simp [go_sem, asAddr, Result.andThen, loadVar, *]
          · have M4 := Lib.hid m4
            have K3 := Lib.hid k3
            have HB3 := Lib.hid hbw3
            have HOW := Lib.hid how4
            have HO4 := Lib.hid ho4
            clear m4 k3 hbw3 how4 ho4
            go_wp2
            go_roundw
            case rel => exact ⟨_, _, _, _, _, _, _, _, _, _, _, _, _, _, _, _, _, _, _, _, _, _, _, _, _, _, _, _, _, _, _, _, _, _, _, _, _, _, _, _, _, _, _, _, _, _, _, _, _, _, _, _, _, _, ⟨1, ⟨ps, noBk, []⟩, a3, n3, c3, none, 0, 0, none, 0, 0, by omega, rfl, Hrk.out, M4.out, K3.out, by have := HO4.out; simpa using this, Own.nil _ _ _, Own.nil _ _ _, HOW.out, HB3.out, by simpa using hz4, (fun _ h => by cases h), (fun h => by omega)⟩, rfl⟩
            case measure => simp [intOf] <;> omega
        | b =>
          have hS : S = ⟨#[98]⟩ := HS.out
          subst hS
          obtain ⟨b3, o3, e3, hck⟩ := wordAt (Hva.out _ how) hlt
          subst e3
          obtain rfl : k = 0 := by simp only [kdL, List.length_cons, List.length_nil] at hm; omega
          obtain ⟨rfl, rfl, rfl, rfl, rfl, rfl, rfl, rfl, rfl⟩ := hz0 rfl
          have hst' : some (⟨[], noBk, []⟩ : Ln) = some l := hst
          cases hst'
          simp only [Nat.add_zero] at hck
          clear hst hnn hz0 hol hob hon
          replace m2 : LnB wr (w.heap.size + 1) ao n cap none 0 0 0 0 none 0 0 none 0 0 96 := m2
          obtain ⟨t, rfl⟩ := List.length_eq_one_iff.1 (show r.length = 1 from hm)
          rw [List.getD_cons_zero] at hck
          have htl := Hwl.out t (by simp)
          have hts : (⟨t.toArray⟩ : ByteArray).size ≤ 1048576 := by show t.toArray.size ≤ _; rw [List.size_toArray]; have := Hsz.out; omega
          have hcon := spec_ParseBank ⟨t.toArray⟩ wr hts
          have hrk : readK .b [t] = if (mParseBank ⟨t.toArray⟩).2 = true then some ⟨[], (mParseBank ⟨t.toArray⟩).1, []⟩ else none := rfl
          generalize mParseBank ⟨t.toArray⟩ = P at hcon hrk
          obtain ⟨⟨ph, pl, pp⟩, pb⟩ := P
          simp only at hcon hrk
          have Hcon := Lib.hid hcon; clear hcon
          have Hrk := Lib.hid hrk; clear hrk
          go_wp2_with fail
          with_reducible refine (Hcon.out).mono ?_
          rintro e w2 ⟨a3, n3, c3, rfl, ho3, hb3⟩
          have hs3 := hb3.size
          have m3 := m2.keep hb3
          have k3 := (((k2.keep hb3).chg (chgCell w2 (w.heap.size + 1) 2 (.int .i64 ph)) (by omega)).chg (chgCell _ (w.heap.size + 1) 3 (.int .i64 pl)) (by omega)).chg (chgCell _ (w.heap.size + 1) 4 (.slice a3 n3 c3)) (by omega)
          have hbw3 := (((belowTrans hbw hb3 (Nat.le_refl _)).setCell (p := ⟨w.heap.size + 1, 2, none⟩) (by show w.heap.size ≤ w.heap.size + 1; omega) (.int .i64 ph)).setCell (p := ⟨w.heap.size + 1, 3, none⟩) (by show w.heap.size ≤ w.heap.size + 1; omega) (.int .i64 pl)).setCell (p := ⟨w.heap.size + 1, 4, none⟩) (by show w.heap.size ≤ w.heap.size + 1; omega) (.slice a3 n3 c3)
          obtain ⟨⟨u0, u1, u2, u3, u4, u5⟩, f0, f1, f2, f3, f4, f5⟩ := m3.cells
          have m4 := m3.setB ph pl a3 n3 c3
          have ho4 := (((ho3.mono (show w.heap.size + 2 ≤ wr.heap.size by omega) (Nat.le_refl _)).offCell (R := w.heap.size + 1) (by omega) 2 (.int .i64 ph)).offCell (R := w.heap.size + 1) (by omega) 3 (.int .i64 pl)).offCell (R := w.heap.size + 1) (by omega) 4 (.slice a3 n3 c3)
          have how4 := (((how.keep hb3).offCell (R := w.heap.size + 1) (by omega) 2 (.int .i64 ph)).offCell (R := w.heap.size + 1) (by omega) 3 (.int .i64 pl)).offCell (R := w.heap.size + 1) (by omega) 4 (.slice a3 n3 c3)
          clear ho3 how m3 m2 k2 hb3 hbw hck
          have hz4 : wo.heap.size ≤ w2.heap.size := by omega
          cases pb
          · have hno1 := Hno.out Hrk.out
            have HOW := Lib.hid how4
            have HO4 := Lib.hid ho4
            clear how4 ho4
            have Hno1 := Lib.hid hno1; clear hno1
            have m5 := m4
            clear m4
            have hk5 := k3
            clear k3
            have hbd := hbw3
            clear hbw3
            obtain ⟨⟨x0, x1, x2, x3, x4, x5⟩, y0, y1, y2, y3, y4, y5⟩ := hk5.cells
            obtain ⟨⟨u0, u1, u2, u3, u4, u5⟩, f0, f1, f2, f3, f4, f5⟩ := m5.cells
            have Hbad := Lib.hid hbd
            clear hk5 m5 hbd
            go_wp2_with fail
            go_region
            all_goals
              go_wp2
              refine bodyPost_ret (v := .tuple #[.string ⟨#[]⟩, .agg #[.slice ao n cap, .slice none 0 0, .int .i64 ph, .int .i64 pl, .slice a3 n3 c3, .slice none 0 0], .bool false]) ?_ rfl ⟨(below6 Hbad.out (Nat.le_refl _) _ _ _ _ _ _).drew, .inl ⟨_, ⟨_, _, _, _, _, _, _, _, _, _, _, _, _, _, rfl⟩, rfl, fun q => Hno1.out q⟩⟩
              rw [resLn rfl]
              simp [go_sem, asAddr, Result.andThen, loadVar, *]
          · have M4 := Lib.hid m4
            have K3 := Lib.hid k3
            have HB3 := Lib.hid hbw3
            have HOW := Lib.hid how4
            have HO4 := Lib.hid ho4
            clear m4 k3 hbw3 how4 ho4
            go_wp2
            go_roundw
            case rel => exact ⟨_, _, _, _, _, _, _, _, _, _, _, _, _, _, _, _, _, _, _, _, _, _, _, _, _, _, _, _, _, _, _, _, _, _, _, _, _, _, _, _, _, _, _, _, _, _, _, _, _, _, _, _, _, _, ⟨1, ⟨[], ⟨ph, pl, pp⟩, []⟩, none, 0, 0, a3, n3, c3, none, 0, 0, by omega, rfl, Hrk.out, M4.out, K3.out, Own.nil _ _ _, by have := HO4.out; simpa using this, Own.nil _ _ _, HOW.out, HB3.out, by simpa using hz4, (fun _ h => by cases h), (fun h => by omega)⟩, rfl⟩
            case measure => simp [intOf] <;> omega
        | n =>
          have hS : S = ⟨#[110]⟩ := HS.out
          subst hS
          obtain ⟨b3, o3, e3, hck⟩ := wordAt (Hva.out _ how) hlt
          subst e3
          obtain rfl : k = 0 := by simp only [kdL, List.length_cons, List.length_nil] at hm; omega
          obtain ⟨rfl, rfl, rfl, rfl, rfl, rfl, rfl, rfl, rfl⟩ := hz0 rfl
          have hst' : some (⟨[], noBk, []⟩ : Ln) = some l := hst
          cases hst'
          simp only [Nat.add_zero] at hck
          clear hst hnn hz0 hol hob
          replace m2 : LnB wr (w.heap.size + 1) ao n cap none 0 0 0 0 none 0 0 none 0 0 96 := m2
          obtain ⟨t, rfl⟩ := List.length_eq_one_iff.1 (show r.length = 1 from hm)
          rw [List.getD_cons_zero] at hck
          have htl := Hwl.out t (by simp)
          have hts : (⟨t.toArray⟩ : ByteArray).size ≤ 1048576 := by show t.toArray.size ≤ _; rw [List.size_toArray]; have := Hsz.out; omega
          have hcon := l1Read_any ⟨t.toArray⟩ wr hts
          simp only [List.toList_toArray] at hcon
          have hrb := readL_bounds t
          have hrk : readK .n [t] = if 0 ≤ readL t then some ⟨[], noBk, [readL t]⟩ else none := rfl
          have hr0 : ¬ 0 ≤ readL t → readK .n [t] = none := fun h => if_neg h
          generalize readL t = x at hcon hrb hrk hr0
          have Hcon := Lib.hid hcon; clear hcon
          have Hrk := Lib.hid hrk; clear hrk
          have Hr0 := Lib.hid hr0; clear hr0
          go_wp2_with fail
          with_reducible refine (Hcon.out).mono ?_
          rintro e w' ⟨rfl, rfl⟩
          obtain ⟨⟨u0, u1, u2, u3, u4, u5⟩, f0, f1, f2, f3, f4, f5⟩ := m2.cells
          by_cases hx : 0 ≤ x
          · have hx2 : x ≥ 0 := hx
            go_wp2_with (at_builtin; refine wpList_push wr rfl _ _ rfl (w.heap.size + 2) wr.heap.size none 0 0 _ rfl hon _ rfl (by omega) (by omega) ?_)
            intro a3 c3 w3 ho3 hc3
            have hB3 := hon.chgBelow hc3 (by omega)
            have hs3 := hB3.size
            have m3 : LnB w3 (w.heap.size + 1) _ _ _ _ _ _ _ _ _ _ _ _ _ _ _ := m2.chg hc3 (own_off hon (by omega))
            have k3 : LnB w3 w.heap.size _ _ _ _ _ _ _ _ _ _ _ _ _ _ _ := k2.chg hc3 (own_off hon (by omega))
            have how3 := how.chg hc3 (fun g' _ _ hg' hs' => strInt how hon hg' hs')
            have hbw3 := (hbw.trans (hB3.mono (by omega))).setCell (p := ⟨w.heap.size + 1, 5, none⟩) (by show w.heap.size ≤ w.heap.size + 1; omega) (.slice a3 1 c3)
            have k4 := k3.chg (chgCell w3 (w.heap.size + 1) 5 (.slice a3 1 c3)) (by omega)
            have ho4 := ho3.offCell (R := w.heap.size + 1) (by omega) 5 (.slice a3 1 c3)
            have how4 := how3.offCell (R := w.heap.size + 1) (by omega) 5 (.slice a3 1 c3)
            clear u0 u1 u2 u3 u4 u5 f0 f1 f2 f3 f4 f5
            obtain ⟨⟨u0, u1, u2, u3, u4, u5⟩, f0, f1, f2, f3, f4, f5⟩ := m3.cells
            have m4 := m3.setN a3 1 c3
            clear ho3 how how3 m3 m2 k2 k3 hc3 hB3 hbw hck hon
            have hz4 : wo.heap.size ≤ w3.heap.size := by omega
            have hrk2 := Hrk.out
            rw [if_pos hx] at hrk2
            have M4 := Lib.hid m4
            have K3 := Lib.hid k4
            have HB3 := Lib.hid hbw3
            have HOW := Lib.hid how4
            have HO4 := Lib.hid ho4
            have HK := Lib.hid hrk2
            clear m4 k4 hbw3 how4 ho4 hrk2
            go_wp2
            go_roundw
            case rel => exact ⟨_, _, _, _, _, _, _, _, _, _, _, _, _, _, _, _, _, _, _, _, _, _, _, _, _, _, _, _, _, _, _, _, _, _, _, _, _, _, _, _, _, _, _, _, _, _, _, _, _, _, _, _, _, _, ⟨1, ⟨[], noBk, [x]⟩, none, 0, 0, none, 0, 0, a3, 1, c3, by omega, rfl, HK.out, M4.out, K3.out, Own.nil _ _ _, Own.nil _ _ _, by have := HO4.out; simpa using this, HOW.out, HB3.out, by simpa using hz4, (fun _ _ => ⟨rfl, rfl, rfl, rfl, rfl, rfl⟩), (fun h => by omega)⟩, rfl⟩
            case measure => simp [intOf] <;> omega
          · have hx2 : ¬ x ≥ 0 := hx
            go_wp2_with (at_builtin; refine wpList_push wr rfl _ _ rfl (w.heap.size + 2) wr.heap.size none 0 0 _ rfl hon _ rfl (by omega) (by omega) ?_)
            intro a3 c3 w3 ho3 hc3
            have hB3 := hon.chgBelow hc3 (by omega)
            have hs3 := hB3.size
            have m3 : LnB w3 (w.heap.size + 1) _ _ _ _ _ _ _ _ _ _ _ _ _ _ _ := m2.chg hc3 (own_off hon (by omega))
            have k3 : LnB w3 w.heap.size _ _ _ _ _ _ _ _ _ _ _ _ _ _ _ := k2.chg hc3 (own_off hon (by omega))
            have how3 := how.chg hc3 (fun g' _ _ hg' hs' => strInt how hon hg' hs')
            have hbw3 := (hbw.trans (hB3.mono (by omega))).setCell (p := ⟨w.heap.size + 1, 5, none⟩) (by show w.heap.size ≤ w.heap.size + 1; omega) (.slice a3 1 c3)
            have k4 := k3.chg (chgCell w3 (w.heap.size + 1) 5 (.slice a3 1 c3)) (by omega)
            have ho4 := ho3.offCell (R := w.heap.size + 1) (by omega) 5 (.slice a3 1 c3)
            have how4 := how3.offCell (R := w.heap.size + 1) (by omega) 5 (.slice a3 1 c3)
            clear u0 u1 u2 u3 u4 u5 f0 f1 f2 f3 f4 f5
            obtain ⟨⟨u0, u1, u2, u3, u4, u5⟩, f0, f1, f2, f3, f4, f5⟩ := m3.cells
            have m4 := m3.setN a3 1 c3
            clear ho3 how how3 m3 m2 k2 k3 hc3 hB3 hbw hck hon
            have hz4 : wo.heap.size ≤ w3.heap.size := by omega
            have hno1 := Hno.out (Hr0.out hx)
            have HOW := Lib.hid how4
            have HO4 := Lib.hid ho4
            clear how4 ho4
            have Hno1 := Lib.hid hno1; clear hno1
            have m5 := m4
            clear m4
            have hbd := hbw3
            clear hbw3
            obtain ⟨⟨x0, x1, x2, x3, x4, x5⟩, y0, y1, y2, y3, y4, y5⟩ := k4.cells
            obtain ⟨⟨u0, u1, u2, u3, u4, u5⟩, f0, f1, f2, f3, f4, f5⟩ := m5.cells
            have Hbad := Lib.hid hbd
            clear k4 m5 hbd
            go_wp2_with fail
            rotate_left
            · exfalso
              rename_i h
              simp at h
              omega
            go_region
            all_goals
              go_wp2
              refine bodyPost_ret (v := .tuple #[.string ⟨#[]⟩, .agg #[.slice ao n cap, .slice none 0 0, .int .i64 0, .int .i64 0, .slice none 0 0, .slice a3 1 c3], .bool false]) ?_ rfl ⟨(below6 Hbad.out (Nat.le_refl _) _ _ _ _ _ _).drew, .inl ⟨_, ⟨_, _, _, _, _, _, _, _, _, _, _, _, _, _, rfl⟩, rfl, fun q => Hno1.out q⟩⟩
              rw [resLn rfl]
              simp [go_sem, asAddr, Result.andThen, loadVar, *]
        | nn =>
          have hS : S = ⟨#[110, 110]⟩ := HS.out
          subst hS
          obtain ⟨b3, o3, e3, hck⟩ := wordAt (Hva.out _ how) hlt
          subst e3
          obtain ⟨t, u, rfl⟩ := two_words (show r.length = 2 from hm)
          by_cases hk0 : k = 0
          · subst hk0
            obtain ⟨rfl, rfl, rfl, rfl, rfl, rfl, rfl, rfl, rfl⟩ := hz0 rfl
            have hst' : some (⟨[], noBk, []⟩ : Ln) = some l := hst
            cases hst'
            simp only [Nat.add_zero] at hck
            clear hst hnn hz0 hol hob
            replace m2 : LnB wr (w.heap.size + 1) ao n cap none 0 0 0 0 none 0 0 none 0 0 96 := m2
            rw [List.getD_cons_zero] at hck
            have htl := Hwl.out t (by simp)
            have hts : (⟨t.toArray⟩ : ByteArray).size ≤ 1048576 := by show t.toArray.size ≤ _; rw [List.size_toArray]; have := Hsz.out; omega
            have hcon := l1Read_any ⟨t.toArray⟩ wr hts
            simp only [List.toList_toArray] at hcon
            have hrb := readL_bounds t
            have hrk : stK .nn [t, u] 1 = if 0 ≤ readL t then some ⟨[], noBk, [readL t]⟩ else none := rfl
            have hr0 : ¬ 0 ≤ readL t → readK .nn [t, u] = none := fun h => if_neg (fun q => h q.1)
            generalize readL t = x at hcon hrb hrk hr0
            have Hcon := Lib.hid hcon; clear hcon
            have Hrk := Lib.hid hrk; clear hrk
            have Hr0 := Lib.hid hr0; clear hr0
            go_wp2_with fail
            with_reducible refine (Hcon.out).mono ?_
            rintro e w' ⟨rfl, rfl⟩
            obtain ⟨⟨u0, u1, u2, u3, u4, u5⟩, f0, f1, f2, f3, f4, f5⟩ := m2.cells
            by_cases hx : 0 ≤ x
            · have hx2 : x ≥ 0 := hx
              go_wp2_with (at_builtin; refine wpList_push wr rfl _ _ rfl (w.heap.size + 2) wr.heap.size none 0 0 _ rfl hon _ rfl (by omega) (by omega) ?_)
              intro a3 c3 w3 ho3 hc3
              have hB3 := hon.chgBelow hc3 (by omega)
              have hs3 := hB3.size
              have m3 : LnB w3 (w.heap.size + 1) _ _ _ _ _ _ _ _ _ _ _ _ _ _ _ := m2.chg hc3 (own_off hon (by omega))
              have k3 : LnB w3 w.heap.size _ _ _ _ _ _ _ _ _ _ _ _ _ _ _ := k2.chg hc3 (own_off hon (by omega))
              have how3 := how.chg hc3 (fun g' _ _ hg' hs' => strInt how hon hg' hs')
              have hbw3 := (hbw.trans (hB3.mono (by omega))).setCell (p := ⟨w.heap.size + 1, 5, none⟩) (by show w.heap.size ≤ w.heap.size + 1; omega) (.slice a3 1 c3)
              have k4 := k3.chg (chgCell w3 (w.heap.size + 1) 5 (.slice a3 1 c3)) (by omega)
              have ho4 := ho3.offCell (R := w.heap.size + 1) (by omega) 5 (.slice a3 1 c3)
              have how4 := how3.offCell (R := w.heap.size + 1) (by omega) 5 (.slice a3 1 c3)
              clear u0 u1 u2 u3 u4 u5 f0 f1 f2 f3 f4 f5
              obtain ⟨⟨u0, u1, u2, u3, u4, u5⟩, f0, f1, f2, f3, f4, f5⟩ := m3.cells
              have m4 := m3.setN a3 1 c3
              clear ho3 how how3 m3 m2 k2 k3 hc3 hB3 hbw hck hon
              have hz4 : wo.heap.size ≤ w3.heap.size := by omega
              have hrk2 := Hrk.out
              rw [if_pos hx] at hrk2
              have M4 := Lib.hid m4
              have K3 := Lib.hid k4
              have HB3 := Lib.hid hbw3
              have HOW := Lib.hid how4
              have HO4 := Lib.hid ho4
              have HK := Lib.hid hrk2
              clear m4 k4 hbw3 how4 ho4 hrk2
              go_wp2
              go_roundw
              case rel => exact ⟨_, _, _, _, _, _, _, _, _, _, _, _, _, _, _, _, _, _, _, _, _, _, _, _, _, _, _, _, _, _, _, _, _, _, _, _, _, _, _, _, _, _, _, _, _, _, _, _, _, _, _, _, _, _, ⟨1, ⟨[], noBk, [x]⟩, none, 0, 0, none, 0, 0, a3, 1, c3, by omega, rfl, HK.out, M4.out, K3.out, Own.nil _ _ _, Own.nil _ _ _, by have := HO4.out; simpa using this, HOW.out, HB3.out, by simpa using hz4, (fun _ _ => ⟨rfl, rfl, rfl, rfl, rfl, rfl⟩), (fun h => by omega)⟩, rfl⟩
              case measure => simp [intOf] <;> omega
            · have hx2 : ¬ x ≥ 0 := hx
              go_wp2_with (at_builtin; refine wpList_push wr rfl _ _ rfl (w.heap.size + 2) wr.heap.size none 0 0 _ rfl hon _ rfl (by omega) (by omega) ?_)
              intro a3 c3 w3 ho3 hc3
              have hB3 := hon.chgBelow hc3 (by omega)
              have hs3 := hB3.size
              have m3 : LnB w3 (w.heap.size + 1) _ _ _ _ _ _ _ _ _ _ _ _ _ _ _ := m2.chg hc3 (own_off hon (by omega))
              have k3 : LnB w3 w.heap.size _ _ _ _ _ _ _ _ _ _ _ _ _ _ _ := k2.chg hc3 (own_off hon (by omega))
              have how3 := how.chg hc3 (fun g' _ _ hg' hs' => strInt how hon hg' hs')
              have hbw3 := (hbw.trans (hB3.mono (by omega))).setCell (p := ⟨w.heap.size + 1, 5, none⟩) (by show w.heap.size ≤ w.heap.size + 1; omega) (.slice a3 1 c3)
              have k4 := k3.chg (chgCell w3 (w.heap.size + 1) 5 (.slice a3 1 c3)) (by omega)
              have ho4 := ho3.offCell (R := w.heap.size + 1) (by omega) 5 (.slice a3 1 c3)
              have how4 := how3.offCell (R := w.heap.size + 1) (by omega) 5 (.slice a3 1 c3)
              clear u0 u1 u2 u3 u4 u5 f0 f1 f2 f3 f4 f5
              obtain ⟨⟨u0, u1, u2, u3, u4, u5⟩, f0, f1, f2, f3, f4, f5⟩ := m3.cells
              have m4 := m3.setN a3 1 c3
              clear ho3 how how3 m3 m2 k2 k3 hc3 hB3 hbw hck hon
              have hz4 : wo.heap.size ≤ w3.heap.size := by omega
              have hno1 := Hno.out (Hr0.out hx)
              have HOW := Lib.hid how4
              have HO4 := Lib.hid ho4
              clear how4 ho4
              have Hno1 := Lib.hid hno1; clear hno1
              have m5 := m4
              clear m4
              have hbd := hbw3
              clear hbw3
              obtain ⟨⟨x0, x1, x2, x3, x4, x5⟩, y0, y1, y2, y3, y4, y5⟩ := k4.cells
              obtain ⟨⟨u0, u1, u2, u3, u4, u5⟩, f0, f1, f2, f3, f4, f5⟩ := m5.cells
              have Hbad := Lib.hid hbd
              clear k4 m5 hbd
              go_wp2_with fail
              rotate_left
              · exfalso
                rename_i h
                simp at h
                omega
              go_region
              all_goals
                go_wp2
                refine bodyPost_ret (v := .tuple #[.string ⟨#[]⟩, .agg #[.slice ao n cap, .slice none 0 0, .int .i64 0, .int .i64 0, .slice none 0 0, .slice a3 1 c3], .bool false]) ?_ rfl ⟨(below6 Hbad.out (Nat.le_refl _) _ _ _ _ _ _).drew, .inl ⟨_, ⟨_, _, _, _, _, _, _, _, _, _, _, _, _, _, rfl⟩, rfl, fun q => Hno1.out q⟩⟩
                rw [resLn rfl]
                simp [go_sem, asAddr, Result.andThen, loadVar, *]
          · obtain rfl : k = 1 := by omega
            obtain ⟨rfl, rfl, rfl, rfl, rfl, rfl⟩ := hnn (by omega) rfl
            have hst' : (if 0 ≤ readL t then some (⟨[], noBk, [readL t]⟩ : Ln) else none) = some l := hst
            have hrk : readK .nn [t, u] = if 0 ≤ readL t ∧ 0 ≤ readL u then some ⟨[], noBk, [readL t, readL u]⟩ else none := rfl
            have hr0 : ¬ 0 ≤ readL u → readK .nn [t, u] = none := fun h => if_neg (fun q => h q.2)
            have h0 : 0 ≤ readL t := by
              by_cases h0 : 0 ≤ readL t
              · exact h0
              · rw [if_neg h0] at hst'; cases hst'
            rw [if_pos h0] at hst'
            cases hst'
            clear hst hnn hz0 hol hob hk0
            replace m2 : LnB wr (w.heap.size + 1) ao n cap none 0 0 0 0 none 0 0 na nn nc 96 := m2
            obtain rfl : nn = 1 := by have := hon.length; simpa using this.symm
            replace hon : Own (w.heap.size + 2) wr.heap.size wr na 1 nc [readL t] := hon
            generalize readL t = y at hon hrk h0
            rw [show ([t, u] : List (List UInt8)).getD 1 [] = u from rfl] at hck
            have htl := Hwl.out u (by simp)
            have hts : (⟨u.toArray⟩ : ByteArray).size ≤ 1048576 := by show u.toArray.size ≤ _; rw [List.size_toArray]; have := Hsz.out; omega
            have hcon := l1Read_any ⟨u.toArray⟩ wr hts
            simp only [List.toList_toArray] at hcon
            have hrb := readL_bounds u
            skip
            generalize readL u = x at hcon hrb hrk hr0
            have Hcon := Lib.hid hcon; clear hcon
            have Hrk := Lib.hid hrk; clear hrk
            have Hr0 := Lib.hid hr0; clear hr0
            go_wp2_with fail
            with_reducible refine (Hcon.out).mono ?_
            rintro e w' ⟨rfl, rfl⟩
            obtain ⟨⟨u0, u1, u2, u3, u4, u5⟩, f0, f1, f2, f3, f4, f5⟩ := m2.cells
            by_cases hx : 0 ≤ x
            · have hx2 : x ≥ 0 := hx
              go_wp2_with (at_builtin; refine wpList_push wr rfl _ _ rfl (w.heap.size + 2) wr.heap.size na 1 nc _ rfl hon _ rfl (by omega) (by omega) ?_)
              intro a3 c3 w3 ho3 hc3
              have hB3 := hon.chgBelow hc3 (by omega)
              have hs3 := hB3.size
              have m3 : LnB w3 (w.heap.size + 1) _ _ _ _ _ _ _ _ _ _ _ _ _ _ _ := m2.chg hc3 (own_off hon (by omega))
              have k3 : LnB w3 w.heap.size _ _ _ _ _ _ _ _ _ _ _ _ _ _ _ := k2.chg hc3 (own_off hon (by omega))
              have how3 := how.chg hc3 (fun g' _ _ hg' hs' => strInt how hon hg' hs')
              have hbw3 := (hbw.trans (hB3.mono (by omega))).setCell (p := ⟨w.heap.size + 1, 5, none⟩) (by show w.heap.size ≤ w.heap.size + 1; omega) (.slice a3 2 c3)
              have k4 := k3.chg (chgCell w3 (w.heap.size + 1) 5 (.slice a3 2 c3)) (by omega)
              have ho4 := ho3.offCell (R := w.heap.size + 1) (by omega) 5 (.slice a3 2 c3)
              have how4 := how3.offCell (R := w.heap.size + 1) (by omega) 5 (.slice a3 2 c3)
              clear u0 u1 u2 u3 u4 u5 f0 f1 f2 f3 f4 f5
              obtain ⟨⟨u0, u1, u2, u3, u4, u5⟩, f0, f1, f2, f3, f4, f5⟩ := m3.cells
              have m4 := m3.setN a3 2 c3
              clear ho3 how how3 m3 m2 k2 k3 hc3 hB3 hbw hck hon
              have hz4 : wo.heap.size ≤ w3.heap.size := by omega
              have hrk2 := Hrk.out
              rw [if_pos ⟨h0, hx⟩] at hrk2
              have M4 := Lib.hid m4
              have K3 := Lib.hid k4
              have HB3 := Lib.hid hbw3
              have HOW := Lib.hid how4
              have HO4 := Lib.hid ho4
              have HK := Lib.hid hrk2
              clear m4 k4 hbw3 how4 ho4 hrk2
              go_wp2
              go_roundw
              case rel => exact ⟨_, _, _, _, _, _, _, _, _, _, _, _, _, _, _, _, _, _, _, _, _, _, _, _, _, _, _, _, _, _, _, _, _, _, _, _, _, _, _, _, _, _, _, _, _, _, _, _, _, _, _, _, _, _, ⟨2, ⟨[], noBk, [y, x]⟩, none, 0, 0, none, 0, 0, a3, 2, c3, by omega, rfl, HK.out, M4.out, K3.out, Own.nil _ _ _, Own.nil _ _ _, by have := HO4.out; simpa using this, HOW.out, HB3.out, by simpa using hz4, (fun _ _ => ⟨rfl, rfl, rfl, rfl, rfl, rfl⟩), (fun h => by omega)⟩, rfl⟩
              case measure => simp [intOf] <;> omega
            · have hx2 : ¬ x ≥ 0 := hx
              go_wp2_with (at_builtin; refine wpList_push wr rfl _ _ rfl (w.heap.size + 2) wr.heap.size na 1 nc _ rfl hon _ rfl (by omega) (by omega) ?_)
              intro a3 c3 w3 ho3 hc3
              have hB3 := hon.chgBelow hc3 (by omega)
              have hs3 := hB3.size
              have m3 : LnB w3 (w.heap.size + 1) _ _ _ _ _ _ _ _ _ _ _ _ _ _ _ := m2.chg hc3 (own_off hon (by omega))
              have k3 : LnB w3 w.heap.size _ _ _ _ _ _ _ _ _ _ _ _ _ _ _ := k2.chg hc3 (own_off hon (by omega))
              have how3 := how.chg hc3 (fun g' _ _ hg' hs' => strInt how hon hg' hs')
              have hbw3 := (hbw.trans (hB3.mono (by omega))).setCell (p := ⟨w.heap.size + 1, 5, none⟩) (by show w.heap.size ≤ w.heap.size + 1; omega) (.slice a3 2 c3)
              have k4 := k3.chg (chgCell w3 (w.heap.size + 1) 5 (.slice a3 2 c3)) (by omega)
              have ho4 := ho3.offCell (R := w.heap.size + 1) (by omega) 5 (.slice a3 2 c3)
              have how4 := how3.offCell (R := w.heap.size + 1) (by omega) 5 (.slice a3 2 c3)
              clear u0 u1 u2 u3 u4 u5 f0 f1 f2 f3 f4 f5
              obtain ⟨⟨u0, u1, u2, u3, u4, u5⟩, f0, f1, f2, f3, f4, f5⟩ := m3.cells
              have m4 := m3.setN a3 2 c3
              clear ho3 how how3 m3 m2 k2 k3 hc3 hB3 hbw hck hon
              have hz4 : wo.heap.size ≤ w3.heap.size := by omega
              have hno1 := Hno.out (Hr0.out hx)
              have HOW := Lib.hid how4
              have HO4 := Lib.hid ho4
              clear how4 ho4
              have Hno1 := Lib.hid hno1; clear hno1
              have m5 := m4
              clear m4
              have hbd := hbw3
              clear hbw3
              obtain ⟨⟨x0, x1, x2, x3, x4, x5⟩, y0, y1, y2, y3, y4, y5⟩ := k4.cells
              obtain ⟨⟨u0, u1, u2, u3, u4, u5⟩, f0, f1, f2, f3, f4, f5⟩ := m5.cells
              have Hbad := Lib.hid hbd
              clear k4 m5 hbd
              go_wp2_with fail
              rotate_left
              · exfalso
                rename_i h
                simp at h
                omega
              go_region
              all_goals
                go_wp2
                refine bodyPost_ret (v := .tuple #[.string ⟨#[]⟩, .agg #[.slice ao n cap, .slice none 0 0, .int .i64 0, .int .i64 0, .slice none 0 0, .slice a3 2 c3], .bool false]) ?_ rfl ⟨(below6 Hbad.out (Nat.le_refl _) _ _ _ _ _ _).drew, .inl ⟨_, ⟨_, _, _, _, _, _, _, _, _, _, _, _, _, _, rfl⟩, rfl, fun q => Hno1.out q⟩⟩
                rw [resLn rfl]
                simp [go_sem, asAddr, Result.andThen, loadVar, *]
      · obtain rfl : mm = k := by omega
        obtain ⟨o, hvo, hko, hlo⟩ := Hyes.out l (Hall.out l hst)
        subst hvo
        obtain ⟨g1', e1, hg1', hw0⟩ := how.strAt (k := 0) (by omega)
        cases e1
        rw [List.getD_cons_zero] at hw0
        obtain ⟨⟨x0, x1, x2, x3, x4, x5⟩, y0, y1, y2, y3, y4, y5⟩ := k2.cells
        obtain ⟨⟨u0, u1, u2, u3, u4, u5⟩, f0, f1, f2, f3, f4, f5⟩ := m2.cells
        have H1 := Lib.hid hol
        have H2 := Lib.hid hob
        have H3 := Lib.hid hon
        have H4 := Lib.hid hbw
        have H5 := Lib.hid hlo
        have H6 := Lib.hid hko
        clear k2 m2 hol hob hon hbw how hst hlo hko
        go_wp2_with fail
        go_region
        all_goals
          go_wp2
          refine bodyPost_ret (v := .tuple #[.string ⟨(wordO o).toArray⟩, .agg #[.slice ao n cap, .slice la ln lc, .int .i64 l.bank.h, .int .i64 l.bank.l, .slice ba bn bc, .slice na nn nc], .bool true]) ?_ rfl ⟨(below6 H4.out (Nat.le_refl _) _ _ _ _ _ _).drew, .inr ⟨o, l, la, ln, lc, ba, bn, bc, na, nn, nc, rfl, fun q => (Hln.out q).trans (H5.out q), H6.out, ?_, ?_, ?_⟩⟩
          · rw [resLn rfl]
            simp [go_sem, asAddr, Result.andThen, loadVar, *]
          · exact ((H1.out.off6 (R := w.heap.size) (by omega) _ _ _ _ _ _).drew).mono (by omega) (by simp)
          · exact ((H2.out.off6 (R := w.heap.size) (by omega) _ _ _ _ _ _).drew).mono (by omega) (by simp)
          · exact ((H3.out.off6 (R := w.heap.size) (by omega) _ _ _ _ _ _).drew).mono (by omega) (by simp)
  · have hne : (((S.size : Nat) : Int) != (n1 : Int) - 1) = true := by simp; omega
    have hSs : S.size ≤ 2 := by rw [hSm]; cases K <;> simp [kdL]
    have hno1 := Hno.out (read_len hm)
    have HS := Lib.hid hS; clear hS
    have HSm := Lib.hid hSm; clear hSm
    have Hn1 := Lib.hid hn1; clear hn1
    have Hno1 := Lib.hid hno1; clear hno1
    have How := Lib.hid how; clear how
    obtain ⟨⟨x0, x1, x2, x3, x4, x5⟩, y0, y1, y2, y3, y4, y5⟩ := k2.cells
    obtain ⟨⟨u0, u1, u2, u3, u4, u5⟩, f0, f1, f2, f3, f4, f5⟩ := m2.cells
    have Hbad := Lib.hid hbw
    clear k2 m2 hbw
    go_wp2_with fail
    go_region
    all_goals
      go_wp2
      refine bodyPost_ret (v := .tuple #[.string ⟨#[]⟩, .agg #[.slice ao n cap, .slice none 0 0, .int .i64 0, .int .i64 0, .slice none 0 0, .slice none 0 0], .bool false]) ?_ rfl ⟨(below6 Hbad.out (Nat.le_refl _) _ _ _ _ _ _).drew, .inl ⟨_, ⟨_, _, _, _, _, _, _, _, _, _, _, _, _, _, rfl⟩, rfl, fun q => Hno1.out q⟩⟩
      rw [resLn rfl]
      simp [go_sem, asAddr, Result.andThen, loadVar, *]
end Go.Proofs.YtimmjimeldejjaaGreatDoor
