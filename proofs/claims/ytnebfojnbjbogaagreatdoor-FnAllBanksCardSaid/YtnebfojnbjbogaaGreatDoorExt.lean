/- Chapter 1: AllPiles by the program: the function value that calls itself, by a contract of its own. No condition. -/
import Derived.Test.YtnebfojnbjbogaaGreatDoorGi
import Derived.Test.YtnebfojnbjbogaaGreatDoorRank
import Derived.OneCell
import Derived.IntWalk
namespace Go.Proofs.YtnebfojnbjbogaaGreatDoor
open Go.RowKit
set_option linter.unusedVariables false
set_option linter.unusedSimpArgs false

theorem chg_setCell (w : World) (b : Nat) (v : Value) : Chg (fun k => k = b) w (w.setCell ⟨b, 0, none⟩ v) :=
  ⟨rfl, rfl, rfl, by simp, fun k _ hk => heap_setCell_other w ⟨b, 0, none⟩ k v hk⟩
theorem RowsV.chg {S : Nat → Prop} {B E w w' vs xss} (h : RowsV B E w vs xss) (hc : Chg S w w') (hs : ∀ g, B ≤ g → g < E → (∃ i, i < xss.length ∧ (vs.getD i undef).ownBlock = some g) → ¬ S g) : RowsV B E w' vs xss :=
  ⟨h.length, fun i hi => by
    obtain ⟨a, m, c, e, ho⟩ := h.row i hi
    exact ⟨a, m, c, e, ho.chg hc fun g g1 g2 hg => hs g g1 g2 ⟨i, hi, by rw [e]; exact hg⟩⟩, h.two⟩

/-- lists that the call made, none of them in a block of X -/
def RowsOut (X : Nat → Prop) (B E : Nat) (w : World) (a : Option Addr) (p c : Nat) (acc : List (List Int)) : Prop :=
  ∃ vs, OwnRow B E w 30 a p c vs ∧ RowsV B E w vs acc ∧ ∀ i, i < acc.length → ∀ g, (vs.getD i undef).ownBlock = some g → ¬ X g
/-- the function value that AllPiles lays -/
def extV (B : Nat) : Value := .func (.func 52) #[] #[.pointer (some ⟨B, 0, none⟩), .pointer (some ⟨B + 1, 0, none⟩)]
structure St (B : Nat) (X : Nat → Prop) (w : World) (a : Option Addr) (p c : Nat) (acc : List (List Int)) : Prop where
  all : w.heap[B]? = some (.cells #[.slice a p c] 55 (0, 0))
  ext : w.heap[B + 1]? = some (.cells #[extV B] 72 (0, 0))
  rows : RowsOut X (B + 2) w.heap.size w a p c acc
structure ExtPost (B : Nat) (X : Nat → Prop) (w : World) (a : Option Addr) (p c : Nat) (acc : List (List Int)) (pa : Option Addr) (pn pcap : Nat) (ps : List Int) (w' : World) (a' : Option Addr) (p' c' : Nat) : Prop where
  st : St B X w' a' p' c' acc
  piles : Own (B + 2) w'.heap.size w' pa pn pcap ps
  frame : Chg (fun k => k = B ∨ (Value.slice a p c).ownBlock = some k ∨ (Value.slice pa pn pcap).ownBlock = some k) w w'
  spine : NewOr w (.slice a p c) (.slice a' p' c')

theorem RowsOut.length {X B E w a p c acc} (h : RowsOut X B E w a p c acc) : acc.length = p := by
  obtain ⟨vs, h1, h2, _⟩ := h
  rw [← h2.length, h1.length]

/-- the end of a leaf -/
theorem ext_leaf {B : Nat} {X : Nat → Prop} {w w1 w3 : World} {a a1 a3 pa : Option Addr} {p c c1 c3 pn pcap : Nat} {acc : List (List Int)} {ps : List Int} {vs : List Value} (hst : St B X w a p c acc)
    (hv1 : OwnRow (B + 2) w.heap.size w 30 a p c vs) (hv2 : RowsV (B + 2) w.heap.size w vs acc) (hv3 : ∀ i, i < acc.length → ∀ g, (vs.getD i undef).ownBlock = some g → ¬ X g)
    (hp : Own (B + 2) w.heap.size w pa pn pcap ps) (hXlt : ∀ k, X k → k < w.heap.size) (ho1 : Own w.heap.size w1.heap.size w1 a1 pn c1 ps) (hb1 : Below w.heap.size w w1) (hB : B + 2 ≤ w.heap.size)
    (ho3 : OwnRow (B + 2) w3.heap.size w3 30 a3 (p + 1) c3 (vs ++ [.slice a1 pn c1])) (hc3 : Chg (fun k => (Value.slice a p c).ownBlock = some k) (w1.alloc (.cells #[.slice a1 pn c1] 30)) w3)
    (hn3 : NewOr (w1.alloc (.cells #[.slice a1 pn c1] 30)) (.slice a p c) (.slice a3 (p + 1) c3)) :
    ExtPost B X w a p c (acc ++ [ps]) pa pn pcap ps (w3.setCell ⟨B, 0, none⟩ (.slice a3 (p + 1) c3)) a3 (p + 1) c3 := by
  have hbW : Below w.heap.size w (w1.alloc (.cells #[.slice a1 pn c1] 30)) := hb1.alloc hb1.size _
  have hlen : acc.length = p := by rw [← hv2.length, hv1.length]
  have hvl := hv1.length
  have hal := belowAlloc w1 (.cells #[.slice a1 pn c1] 30)
  have hsz1 := hb1.size
  have hszW : (w1.alloc (.cells #[.slice a1 pn c1] 30)).heap.size = w1.heap.size + 1 := by simp
  have hsz3 := hc3.size
  have hns : ∀ g, (Value.slice a p c).ownBlock = some g → B + 2 ≤ g ∧ g < w.heap.size := fun g hg => ⟨(hv1.1.lt g hg).1, hv1.2 g hg⟩
  have hins := (hv2.keep hbW).ins p (by omega) ((ho1.keep hal)) hB (by omega : w.heap.size ≤ w1.heap.size) ho1.ge
  rw [List.take_of_length_le (by omega), List.drop_of_length_le (by omega), List.take_of_length_le (by omega), List.drop_of_length_le (by omega)] at hins
  have hrow3 := hins.chgSpine (hv1.keep hbW) hc3
  have hcs := chg_setCell w3 B (.slice a3 (p + 1) c3)
  have hbk : ∀ q, q = B ∨ q = B + 1 → w3.heap[q]? = w.heap[q]? := fun q hq => by
    rw [hc3.block q (by rw [hszW]; omega) (fun hh => by have := hns q hh; omega), (Chg.ofBelow (S := fun _ => False) hbW).block q (by omega) id]
  have hallB : w3.heap[B]? = some (.cells #[.slice a p c] 55 (0, 0)) := by rw [hbk B (.inl rfl)]; exact hst.all
  have hfr : Chg (fun k => k = B ∨ (Value.slice a p c).ownBlock = some k ∨ (Value.slice pa pn pcap).ownBlock = some k) w (w3.setCell ⟨B, 0, none⟩ (.slice a3 (p + 1) c3)) :=
    ((Chg.ofBelow hbW).trans (hc3.mono (fun k hk => .inr (.inl hk)))).trans (hcs.mono (fun k hk => .inl hk))
  refine ⟨⟨one_setCell hallB, ?_, ⟨vs ++ [.slice a1 pn c1], ?_, ?_, ?_⟩⟩, ?_, hfr, ?_⟩
  · rw [hcs.block (B + 1) (by omega) (by omega), hbk (B + 1) (.inr rfl)]; exact hst.ext
  · exact (ho3.chg hcs (fun g g1 _ _ hg => by omega)).mono (Nat.le_refl _) hcs.size
  · exact (hrow3.chg hcs (fun g g1 _ _ hg => by omega)).mono (Nat.le_refl _) (by have := hcs.size; omega)
  · intro i hi g hg hX
    simp only [List.length_append, List.length_singleton] at hi
    by_cases hlt : i < p
    · rw [List.getD_eq_getElem?_getD, List.getElem?_append_left (by omega), ← List.getD_eq_getElem?_getD] at hg
      exact hv3 i (by omega) g hg hX
    · rw [List.getD_eq_getElem?_getD, List.getElem?_append_right (by omega), show i - vs.length = 0 by omega] at hg
      have := ho1.ge g hg
      have := hXlt g hX
      omega
  · refine ((((hp.keep hbW).chg hc3 fun g g1 g2 h1 h2 => ?_).chg hcs fun g g1 _ _ hg => by omega).mono (Nat.le_refl _) ?_)
    · exact OwnRow.apart_ty (hp.keep hbW) (hv1.keep hbW) (by decide) h1 h2
    · have := hcs.size; omega
  · intro g hg
    rcases hn3 g hg with h | h
    · exact .inl h
    · exact .inr (by omega)

set_option maxHeartbeats 3200000 in
set_option maxRecDepth 100000 in
/-- nothing is left: the piles are noted -/
theorem ext_zero (B : Nat) (X : Nat → Prop) (pa : Option Addr) (pn pcap : Nat) (ps : List Int) (a : Option Addr) (p c : Nat) (acc : List (List Int)) (w : World) (hpn : pn ≤ 28) (hp8 : p ≤ 100000)
    (hst : St B X w a p c acc) (hp : Own (B + 2) w.heap.size w pa pn pcap ps) (hXlt : ∀ k, X k → k < w.heap.size) (hB : B + 2 ≤ w.heap.size) :
    Calls Tryz.prog 52 #[.int .i64 0, .slice pa pn pcap, .pointer (some ⟨B, 0, none⟩), .pointer (some ⟨B + 1, 0, none⟩)] w fun e w' => e = .returned (.tuple #[]) ∧ ∃ a' p' c', ExtPost B X w a p c (acc ++ [ps]) pa pn pcap ps w' a' p' c' := by
  obtain ⟨vs, hv1, hv2, hv3⟩ := hst.rows
  have hc0 : w.drew.cell? ⟨B, 0, none⟩ = some (.slice a p c) := cell_of_one hst.all
  have hpd : IntsAt w.drew pa pn pcap ps := hp.at.drewN 1
  have hcp := copyOf_any pa pn pcap ps w.drew hpd (by omega)
  have hlate : ∀ W, Below w.heap.size w W → W.cell? ⟨B, 0, none⟩ = some (.slice a p c) := fun W hW => cell_of_one (by rw [(Chg.ofBelow (S := fun _ => False) hW).block B (by omega) id]; exact hst.all)
  have hlt8 : ∀ g, (Value.slice a p c).ownBlock = some g → B + 2 ≤ g ∧ g < w.heap.size := fun g hg => ⟨(hv1.1.lt g hg).1, hv1.2 g hg⟩
  have hfin : ∀ (w1 : World) (a1 : Option Addr) (c1 : Nat), Own w.heap.size w1.heap.size w1 a1 pn c1 ps → Below w.heap.size w w1 → ∀ (a3 : Option Addr) (c3 : Nat) (w3 : World), OwnRow (B + 2) w3.heap.size w3 30 a3 (p + 1) c3 (vs ++ [.slice a1 pn c1]) → Chg (fun k => (Value.slice a p c).ownBlock = some k) (w1.alloc (.cells #[.slice a1 pn c1] 30)) w3 → NewOr (w1.alloc (.cells #[.slice a1 pn c1] 30)) (.slice a p c) (.slice a3 (p + 1) c3) →
      w3.cell? ⟨B, 0, none⟩ = some (.slice a p c) ∧ w3.frozen? ⟨B, 0, none⟩ = false ∧ ExtPost B X w a p c (acc ++ [ps]) pa pn pcap ps (w3.setCell ⟨B, 0, none⟩ (.slice a3 (p + 1) c3)) a3 (p + 1) c3 := by
    intro w1 a1 c1 ho1 hb1 a3 c3 w3 ho3 hc3 hn3
    have hbW : Below w.heap.size w (w1.alloc (.cells #[.slice a1 pn c1] 30)) := hb1.alloc hb1.size _
    have h8 : w3.heap[B]? = some (.cells #[.slice a p c] 55 (0, 0)) := by
      rw [hc3.block B (by have := hbW.size; omega) (fun hh => by have := hlt8 B hh; omega), (Chg.ofBelow (S := fun _ => False) hbW).block B (by omega) id]; exact hst.all
    exact ⟨cell_of_one h8, free_of_one h8, ext_leaf hst hv1 hv2 hv3 hp hXlt ho1 hb1 hB ho3 hc3 hn3⟩
  have hrefl : Below w.heap.size w w.drew := belowDrewN (Below.refl w.heap.size w) 1
  have Hcp := Lib.hid hcp; clear hcp
  have Hlate := Lib.hid hlate; clear hlate
  have Hlt8 := Lib.hid hlt8; clear hlt8
  have Hfin := Lib.hid hfin; clear hfin
  have Hv3 := Lib.hid hv3; clear hv3
  clear hst
  go_enter Tryz.func52, Tryz.ntmps52
  go_wp2
  go_region_law (first | (go_simp; with_reducible refine (Hcp.out).mono ?_; rintro e w1 ⟨a1, c1, rfl, ho1, hb1⟩; have hb1' : Below w.heap.size w w1 := belowTrans hrefl hb1 (Nat.le_refl _); have ho1' : Own w.heap.size w1.heap.size w1 a1 pn c1 ps := ho1.mono hrefl.size (Nat.le_refl _); have hc1 := Hlate.out w1 hb1'; have hc2 := Hlate.out (w1.alloc (.cells #[.slice a1 pn c1] 30)) (hb1'.alloc hb1'.size _)) | (refine step_catVX (w1.alloc (.cells #[.slice a1 pn c1] 30)) rfl (.tmp 9) (.tmp 12) 55 rfl 30 _ 24 Tryz.underlying55 Tryz.infoInts rfl (by decide) (B + 2) w.heap.size a p c vs rfl (hv1.keep (hb1'.alloc hb1'.size _)) w1.heap.size (.slice a1 pn c1) rfl (by rw [World.cell?_alloc_at _ _ _ _ rfl]; rfl) rfl (by omega) (by have := hb1'.size; simp; omega) ?_; intro a3 c3 w3 ho3 hc3 hn3 hr3; obtain ⟨hc4, hf4, hpost⟩ := Hfin.out w1 a1 c1 ho1' hb1' a3 c3 w3 ho3 hc3 hn3; clear hc1 hc2 hc0))
  all_goals
    go_wp2
    refine bodyPost_ret (results_none rfl _ _ _) rfl ?_
    exact ⟨rfl, _, _, _, hpost⟩

/-- one number more: the function value is called with the longer piles, and what that call does is done for the shorter ones -/
theorem ext_step {B : Nat} {X : Nat → Prop} {w wr : World} {a a' pa : Option Addr} {p c p' c' pn pcap : Nat} {acc1 : List (List Int)} {ps : List Int} (hP : ExtPost B X w a p c acc1 pa pn pcap ps wr a' p' c')
    (hX : ∀ g, (Value.slice pa pn pcap).ownBlock = some g → X g) (hXlt : ∀ k, X k → k < w.heap.size) (hB : B + 2 ≤ w.heap.size) (x : Int) {Wd : World} (hWd : Below wr.heap.size wr Wd) {a4 : Option Addr} {c4 : Nat} {w4 : World}
    (ho4 : Own (B + 2) w4.heap.size w4 a4 (pn + 1) c4 (ps ++ [x])) (hc4 : Chg (fun k => (Value.slice pa pn pcap).ownBlock = some k) Wd w4) (hr4 : NewR Wd w4 pa pcap a4 c4) :
    St B (fun k => X k ∨ (Value.slice a4 (pn + 1) c4).ownBlock = some k) w4 a' p' c' acc1 ∧ (∀ k, (X k ∨ (Value.slice a4 (pn + 1) c4).ownBlock = some k) → k < w4.heap.size) ∧
    (∀ acc2 w5 a5 p5 c5, ExtPost B (fun k => X k ∨ (Value.slice a4 (pn + 1) c4).ownBlock = some k) w4 a' p' c' acc2 a4 (pn + 1) c4 (ps ++ [x]) w5 a5 p5 c5 → ExtPost B X w a p c acc2 pa pn pcap ps w5 a5 p5 c5) := by
  have s1 := hP.frame.size
  have s2 := hWd.size
  have s3 := hc4.size
  have hpd := hP.piles.keep hWd
  have hpg : ∀ g, (Value.slice pa pn pcap).ownBlock = some g → B + 2 ≤ g ∧ g < wr.heap.size := fun g hg => ⟨(hP.piles.1.lt g hg).1, hP.piles.2 g hg⟩
  have ha4 : ∀ g, (Value.slice a4 (pn + 1) c4).ownBlock = some g → (Value.slice pa pn pcap).ownBlock = some g ∨ Wd.heap.size ≤ g := fun g hg => by
    rcases hr4 with ⟨rfl, rfl⟩ | ⟨⟨q, rfl, hq⟩, _⟩
    · refine .inl ?_
      cases a4 with
      | none => simp [Value.ownBlock] at hg
      | some q => simpa [Value.ownBlock] using hg
    · simp [Value.ownBlock] at hg
      exact .inr (by omega)
  obtain ⟨vs, r1, r2, r3⟩ := hP.st.rows
  have r1d := r1.keep hWd
  have hbk : ∀ q, q = B ∨ q = B + 1 → w4.heap[q]? = wr.heap[q]? := fun q hq => by
    rw [hc4.block q (by omega) (fun hh => by have := hpg q hh; omega), (Chg.ofBelow (S := fun _ => False) hWd).block q (by omega) id]
  have r1w : OwnRow (B + 2) wr.heap.size w4 30 a' p' c' vs := r1d.chg hc4 fun g _ _ h1 h2 => OwnRow.apart_ty r1d hpd (by decide) h1 h2
  have r2w : RowsV (B + 2) wr.heap.size w4 vs acc1 := (r2.keep hWd).chg hc4 fun g _ _ ⟨i, hi, hg⟩ hs => r3 i hi g hg (hX g hs)
  have hst4 : St B (fun k => X k ∨ (Value.slice a4 (pn + 1) c4).ownBlock = some k) w4 a' p' c' acc1 := by
    refine ⟨by rw [hbk B (.inl rfl)]; exact hP.st.all, by rw [hbk (B + 1) (.inr rfl)]; exact hP.st.ext, vs, r1w.mono (Nat.le_refl _) (by omega), r2w.mono (Nat.le_refl _) (by omega), fun i hi g hg hh => ?_⟩
    rcases hh with h' | h'
    · exact r3 i hi g hg h'
    · rcases ha4 g h' with h2 | h2
      · exact r3 i hi g hg (hX g h2)
      · obtain ⟨a0, m0, c0, e0, ho0⟩ := r2.row i hi
        rw [e0] at hg
        have := ho0.2 g hg
        omega
  refine ⟨hst4, fun k hk => ?_, fun acc2 w5 a5 p5 c5 hQ => ⟨⟨hQ.st.all, hQ.st.ext, ?_⟩, ?_, ?_, ?_⟩⟩
  · rcases hk with h' | h'
    · have := hXlt k h'; omega
    · exact ho4.2 k h'
  · obtain ⟨us, q1, q2, q3⟩ := hQ.st.rows
    exact ⟨us, q1, q2, fun i hi g hg hh => q3 i hi g hg (.inl hh)⟩
  · have s5 := hQ.frame.size
    rcases hr4 with ⟨rfl, rfl⟩ | ⟨⟨q, rfl, hq⟩, hno⟩
    · rcases ho4.cases with ⟨_, hz, _⟩ | ⟨g, rfl, _⟩
      · omega
      · exact hQ.piles.shrink
    · have hp4 : Own (B + 2) wr.heap.size w4 pa pn pcap ps := hpd.chg hno fun _ _ _ _ h => h
      refine (hp4.chg hQ.frame fun g g1 g2 hg hs => ?_).mono (Nat.le_refl _) (by omega)
      rcases hs with h' | h' | h'
      · omega
      · exact OwnRow.apart_ty hp4 r1w (by decide) hg h'
      · simp [Value.ownBlock] at h'; omega
  · have s5 := hQ.frame.size
    refine ⟨hQ.frame.os.trans (hc4.os.trans (hWd.os.trans hP.frame.os)), hQ.frame.tape.trans (hc4.tape.trans (hWd.tape.trans hP.frame.tape)), hQ.frame.output.trans (hc4.output.trans (hWd.output.trans hP.frame.output)), by omega, fun k hk hs => ?_⟩
    rw [hQ.frame.block k (by omega) (fun hh => ?_), hc4.block k (by omega) (fun hh => hs (.inr (.inr hh))), (Chg.ofBelow (S := fun _ => False) hWd).block k (by omega) id, hP.frame.block k hk hs]
    rcases hh with h' | h' | h'
    · exact hs (.inl h')
    · rcases hP.spine k h' with h2 | h2
      · exact hs (.inr (.inl h2))
      · omega
    · rcases ha4 k h' with h2 | h2
      · exact hs (.inr (.inr h2))
      · omega
  · exact hP.spine.trans (by omega) hQ.spine

theorem map_ext (ps : List Int) (x : Int) (R : List (List Int)) : R.map ((ps ++ [x]) ++ ·) = (R.map (x :: ·)).map (ps ++ ·) := by
  rw [List.map_map]
  apply List.map_congr_left
  intro ys _
  simp
theorem allPart_le (f n most X : Nat) (hn : n ≠ 0) : (allPart f n (min n most) X).length ≤ (allF (f + 1) n most).length := by
  rw [← allPart_end f n most hn]
  unfold allPart
  have hs := List.take_append_drop (min n most - X) (downs (min n most))
  rw [Nat.sub_zero, List.take_of_length_le (i := min n most) (by rw [downs_length]; exact Nat.le_refl _)]
  conv => rhs; rw [← hs]
  rw [List.flatMap_append, List.length_append]
  omega

set_option maxHeartbeats 6400000 in
set_option maxRecDepth 100000 in
theorem ext_any (B : Nat) (f : Nat) : ∀ (left M : Nat) (X : Nat → Prop) (pa : Option Addr) (pn pcap : Nat) (ps : List Int) (a : Option Addr) (p c : Nat) (acc : List (List Int)) (w : World), left ≤ f → left ≤ 28 → M ≤ 28 → pn + left ≤ 28 →
    (pn = 0 → M = left) → (pn ≠ 0 → ps.getD (pn - 1) 0 = M) → p + (allF f left M).length ≤ 100000 → St B X w a p c acc → Own (B + 2) w.heap.size w pa pn pcap ps → (∀ g, (Value.slice pa pn pcap).ownBlock = some g → X g) → (∀ k, X k → k < w.heap.size) → B + 2 ≤ w.heap.size →
    Calls Tryz.prog 52 #[.int .i64 left, .slice pa pn pcap, .pointer (some ⟨B, 0, none⟩), .pointer (some ⟨B + 1, 0, none⟩)] w fun e w' => e = .returned (.tuple #[]) ∧ ∃ a' p' c', ExtPost B X w a p c (acc ++ (allF f left M).map (ps ++ ·)) pa pn pcap ps w' a' p' c' := by
  induction f with
  | zero =>
    intro left M X pa pn pcap ps a p c acc w h1 _ _ h2 _ _ hp8 hst hp hX hXlt hB
    obtain rfl : left = 0 := by omega
    have := ext_zero B X pa pn pcap ps a p c acc w (by omega) (by omega) hst hp hXlt hB
    rw [allF_zero]
    simpa using this
  | succ f ih =>
    intro left M X pa pn pcap ps a p c acc w h1 hl28 hM28 h2 hm0 hm1 hp8 hst hp hX hXlt hB
    by_cases hn : left = 0
    · subst hn
      have := ext_zero B X pa pn pcap ps a p c acc w (by omega) (by omega) hst hp hXlt hB
      rw [allF_zero]
      simpa using this
    · have hne : ((left : Int) == 0) = false := by simp; omega
      have hh := highestNext_any (left : Int) pa pn pcap ps w hp.at
      have hv : (if pn = 0 then (left : Int) else min (left : Int) (ps.getD (pn - 1) 0)) = ((min left M : Nat) : Int) := by
        by_cases h0 : pn = 0
        · rw [if_pos h0, hm0 h0, Nat.min_self]
        · rw [if_neg h0, hm1 h0]; omega
      rw [hv] at hh
      have hq : min left M ≤ left := Nat.min_le_left _ _
      have hlen := fun X => allPart_le f left M X hn
      have hend := allPart_end f left M hn
      have hstart := allPart_start f left (min left M)
      have hstep := fun X => allPart_step f left (min left M) X
      have hlenps := hp.length
      generalize min left M = Q at *
      have hP0 : ExtPost B X w a p c (acc ++ (allPart f left Q Q).map (ps ++ ·)) pa pn pcap ps w a p c :=
        ⟨⟨hst.all, hst.ext, by rw [hstart]; simpa using hst.rows⟩, hp, Chg.refl _ _, NewOr.refl _ _⟩
      have hacc := hst.rows.length
      have Hh := Lib.hid hh; clear hh
      have Hv := Lib.hid hv; clear hv
      have Hlen := Lib.hid hlen; clear hlen
      have Hend := Lib.hid hend; clear hend
      have Hstart := Lib.hid hstart; clear hstart
      have Hstep := Lib.hid hstep; clear hstep
      have HX := Lib.hid hX; clear hX
      have HXlt := Lib.hid hXlt; clear hXlt
      have Hst := Lib.hid hst; clear hst
      have Hm0 := Lib.hid hm0; clear hm0
      have Hm1 := Lib.hid hm1; clear hm1
      have Ih := Lib.hid ih; clear ih
      have Hlenps := Lib.hid hlenps; clear hlenps
      have Hacc := Lib.hid hacc; clear hacc
      clear hp
      go_enter Tryz.func52, Tryz.ntmps52
      go_wp2_with fail
      with_reducible refine (Hh.out).mono ?_
      rintro e w' ⟨rfl, rfl⟩
      go_wp2_with fail
      go_loopw [6] (fun x wr => ∃ (Y : Nat) (a' : Option Addr) (p' c' : Nat), Y ≤ Q ∧ x = .int .i64 Y ∧ ExtPost B X w a p c (acc ++ (allPart f left Q Y).map (ps ++ ·)) pa pn pcap ps wr a' p' c') (fun x _ => (intOf x).toNat)
      case atStart => exact ⟨Q, a, p, c, Nat.le_refl _, rfl, hP0⟩
      case round =>
        obtain ⟨Y, a', p', c', hY, rfl, hP⟩ := hrel
        clear hP0
        by_cases hlt : 1 ≤ Y
        · have hsr := hP.frame.size
          have hst2 := Hstep.out Y hlt hY
          have hWd : Below wr.heap.size wr (wr.alloc (.cells #[.int .i64 (Y : Int)] 3)).drew := belowDrewN (belowAlloc wr _) 1
          have hE : ∀ W : World, W.heap[B + 1]? = wr.heap[B + 1]? → W.cell? ⟨B + 1, 0, none⟩ = some (.func (.func 52) #[] #[.pointer (some ⟨B, 0, none⟩), .pointer (some ⟨B + 1, 0, none⟩)]) := fun W hW => cell_of_one (by rw [hW]; exact hP.st.ext)
          have hE0 := hE wr.drew rfl
          have hE1 := hE (wr.alloc (.cells #[.int .i64 (Y : Int)] 3)).drew ((Chg.ofBelow (S := fun _ => False) hWd).block (B + 1) (by omega) id)
          have hpd : OwnRow (B + 2) wr.heap.size (wr.alloc (.cells #[.int .i64 (Y : Int)] 3)).drew 3 pa pn pcap (ps.map (Value.int .i64)) := hP.piles.keep hWd
          have hcell : (wr.alloc (.cells #[.int .i64 (Y : Int)] 3)).drew.cell? ⟨wr.heap.size, 0, none⟩ = some (.int .i64 (Y : Int)) := by
            have : (wr.alloc (.cells #[.int .i64 (Y : Int)] 3)).cell? ⟨wr.heap.size, 0, none⟩ = some (.int .i64 (Y : Int)) := by rw [World.cell?_alloc_at _ _ _ _ rfl]; rfl
            exact this
          have hpl := hP.st.rows.length
          simp only [List.length_append, List.length_map] at hpl
          have hl1 := Hlen.out (Y - 1)
          rw [hst2, List.length_append, List.length_map] at hl1
          have hacc := Hacc.out
          have ecast : ((left - Y : Nat) : Int) = (left : Int) - (Y : Int) := by omega
          have hcall : ∀ (a4 : Option Addr) (c4 : Nat) (w4 : World), OwnRow (B + 2) w4.heap.size w4 3 a4 (pn + 1) c4 (ps.map (Value.int .i64) ++ [.int .i64 (Y : Int)]) → Chg (fun k => (Value.slice pa pn pcap).ownBlock = some k) (wr.alloc (.cells #[.int .i64 (Y : Int)] 3)).drew w4 → NewR (wr.alloc (.cells #[.int .i64 (Y : Int)] 3)).drew w4 pa pcap a4 c4 →
              w4.cell? ⟨B + 1, 0, none⟩ = some (.func (.func 52) #[] #[.pointer (some ⟨B, 0, none⟩), .pointer (some ⟨B + 1, 0, none⟩)]) ∧ Calls Tryz.prog 52 #[.int .i64 ((left : Int) - (Y : Int)), .slice a4 (pn + 1) c4, .pointer (some ⟨B, 0, none⟩), .pointer (some ⟨B + 1, 0, none⟩)] w4 fun e w5 => e = .returned (.tuple #[]) ∧ ∃ a5 p5 c5, ExtPost B X w a p c (acc ++ (allPart f left Q (Y - 1)).map (ps ++ ·)) pa pn pcap ps w5 a5 p5 c5 := by
            intro a4 c4 w4 ho4 hc4 hr4
            have ho4' : Own (B + 2) w4.heap.size w4 a4 (pn + 1) c4 (ps ++ [(Y : Int)]) := by unfold Own; rw [List.map_append]; exact ho4
            obtain ⟨k1, k2, k3⟩ := ext_step hP HX.out HXlt.out hB (Y : Int) hWd ho4' hc4 hr4
            have hsz4 := hc4.size
            have hszd := hWd.size
            refine ⟨cell_of_one k1.ext, ?_⟩
            rw [← ecast]
            refine (Ih.out (left - Y) Y _ a4 (pn + 1) c4 (ps ++ [(Y : Int)]) a' p' c' _ w4 (by omega) (by omega) (by omega) (by omega) (fun h => by omega) (fun _ => ?_) (by omega) k1 ho4' (fun g hg => .inr hg) k2 (by omega)).mono fun e w5 ⟨he, a5, p5, c5, hpost⟩ => ⟨he, a5, p5, c5, ?_⟩
            · rw [List.getD_eq_getElem?_getD, List.getElem?_append_right (by rw [Hlenps.out]; omega), Hlenps.out]; simp
            · have := k3 _ _ _ _ _ hpost
              rw [map_ext, List.append_assoc, ← List.map_append, ← hst2] at this
              exact this
          have Hcall := Lib.hid hcall
          clear hcall hE hst2 hl1 hpl ecast hacc
          have HP := Lib.hid hP
          have hpn8 : pn ≤ 28 := by omega
          have hBd : B + 2 ≤ (wr.alloc (.cells #[.int .i64 (Y : Int)] 3)).drew.heap.size := by have := hWd.size; omega
          clear hP hWd
          have Hpd := Lib.hid hpd; clear hpd
          have Hcell := Lib.hid hcell; clear hcell
          go_wp2
          have hwrap : IntKind.i64.wrap ((left : Int) - (Y : Int)) = (left : Int) - (Y : Int) := IntWalk.i64_in _ (by omega)
          go_region_law (first | (refine step_catVX (wr.alloc (.cells #[.int .i64 (Y : Int)] 3)).drew rfl (.tmp 25) (.tmp 27) 30 rfl 3 _ 8 Tryz.underlying30 Tryz.infoInt rfl (by decide) (B + 2) wr.heap.size pa pn pcap _ rfl Hpd.out wr.heap.size (.int .i64 (Y : Int)) rfl Hcell.out rfl (by omega) hBd ?_; intro a4 c4 w4 ho4 hc4 hn4 hr4; obtain ⟨hE2, hgo⟩ := Hcall.out a4 c4 w4 ho4 hc4 hr4; have Hgo := Lib.hid hgo; clear hgo ho4 hc4 hn4 hr4) | (go_simp; with_reducible refine (Hgo.out).mono ?_; rintro e w5 ⟨rfl, a5, p5, c5, hpost5⟩))
          all_goals
            clear hwrap
            go_wp2
            go_roundw
            case rel => exact ⟨Y - 1, a5, p5, c5, by omega, valI (by omega), hpost5⟩
            case measure => simp [intOf] <;> omega
        · obtain rfl : Y = 0 := by omega
          rw [Hend.out] at hP
          have HP := Lib.hid hP; clear hP
          go_wp2
          go_end0
          exact ⟨rfl, _, _, _, HP.out⟩
end Go.Proofs.YtnebfojnbjbogaaGreatDoor
