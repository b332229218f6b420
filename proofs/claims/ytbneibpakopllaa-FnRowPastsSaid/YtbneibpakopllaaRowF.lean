/- Chapter 5: the function value of RowPasts, which calls itself, by a contract of its own. No condition. -/
import Derived.Test.YtbneibpakopllaaGk
import Derived.Test.YtbneibpakopllaaRowB
import Derived.Test.YtbneibpakopllaaRowE
namespace Go.Proofs.Ytbneibpakopllaa
open Go.RowKit
set_option linter.unusedVariables false
set_option linter.unusedSimpArgs false

/-- the function value that RowPasts lays: the row in block A, the pasts in block B, itself behind -/
def extPV (A B : Nat) : Value := .func (.func 115) #[] #[.pointer (some ⟨A, 0, none⟩), .pointer (some ⟨B, 0, none⟩), .pointer (some ⟨B + 1, 0, none⟩)]
structure StP (A B : Nat) (X : Nat → Prop) (w : World) (a : Option Addr) (p c : Nat) (acc : List (List Int)) : Prop where
  all : w.heap[B]? = some (.cells #[.slice a p c] 59 (0, 0))
  ext : w.heap[B + 1]? = some (.cells #[extPV A B] 102 (0, 0))
  rows : RowsOut X (B + 2) w.heap.size w a p c acc
structure ExtPP (A B : Nat) (X : Nat → Prop) (w : World) (a : Option Addr) (p c : Nat) (acc : List (List Int)) (pa : Option Addr) (pn pcap : Nat) (ps : List Int) (w' : World) (a' : Option Addr) (p' c' : Nat) : Prop where
  st : StP A B X w' a' p' c' acc
  piles : Own (B + 2) w'.heap.size w' pa pn pcap ps
  frame : Chg (fun k => k = B ∨ (Value.slice a p c).ownBlock = some k ∨ (Value.slice pa pn pcap).ownBlock = some k) w w'
  spine : NewOr w (.slice a p c) (.slice a' p' c')
/-- the row's own block, and its first number -/
structure BoxP (A b0 o0 n0 c0 M : Nat) (w : World) : Prop where
  box : w.heap[A]? = some (.cells #[.slice (some ⟨b0, o0, none⟩) n0 c0] 22 (0, 0))
  first : w.cell? ⟨b0, o0, none⟩ = some (.int .i64 M)
  lt : b0 < A
theorem BoxP.chg {S : Nat → Prop} {A b0 o0 n0 c0 M : Nat} {w w' : World} (h : BoxP A b0 o0 n0 c0 M w) (hc : Chg S w w') (hs : ∀ k, k ≤ A → ¬ S k) : BoxP A b0 o0 n0 c0 M w' := by
  have hlt : A < w.heap.size := (Array.getElem?_eq_some_iff.1 h.box).1
  have hl := h.lt
  exact ⟨(hc.block A hlt (hs A (Nat.le_refl _))).trans h.box, by rw [World.cell?_of_block (a := ⟨b0, o0, none⟩) (hc.block b0 (by omega) (hs b0 (by omega)))]; exact h.first, hl⟩
theorem BoxP.keep {A b0 o0 n0 c0 M : Nat} {w w' : World} (h : BoxP A b0 o0 n0 c0 M w) (hb : Below w.heap.size w w') : BoxP A b0 o0 n0 c0 M w' := h.chg (S := fun _ => False) (Chg.ofBelow hb) (fun _ _ h => h)
theorem BoxP.cells {A b0 o0 n0 c0 M : Nat} {w : World} (h : BoxP A b0 o0 n0 c0 M w) : w.cell? ⟨A, 0, none⟩ = some (.slice (some ⟨b0, o0, none⟩) n0 c0) ∧ w.cell? ⟨b0, o0, none⟩ = some (.int .i64 M) := ⟨cell_of_one h.box, h.first⟩
theorem ExtPP.low {A B X w a p c acc pa pn pcap ps w' a' p' c'} {W0 : World} (h : ExtPP A B X w a p c acc pa pn pcap ps w' a' p' c') (hB : W0.heap.size < B) (hb : Below W0.heap.size W0 w) (h1 : ∀ g, (Value.slice a p c).ownBlock = some g → B + 2 ≤ g) (h2 : ∀ g, (Value.slice pa pn pcap).ownBlock = some g → B + 2 ≤ g) : Below W0.heap.size W0 w' :=
  hb.trans (h.frame.below hb.size (fun k hk => hk.elim (fun e => by omega) fun e => e.elim (fun e => by have := h1 k e; omega) fun e => by have := h2 k e; omega))
theorem ExtPP.boxed {A B X w a p c acc pa pn pcap ps w' a' p' c' b0 o0 n0 c0 M} (h : ExtPP A B X w a p c acc pa pn pcap ps w' a' p' c') (hB : A < B) (hb : BoxP A b0 o0 n0 c0 M w) (h1 : ∀ g, (Value.slice a p c).ownBlock = some g → B + 2 ≤ g) (h2 : ∀ g, (Value.slice pa pn pcap).ownBlock = some g → B + 2 ≤ g) : BoxP A b0 o0 n0 c0 M w' :=
  hb.chg h.frame (fun k hk e => e.elim (fun e => by omega) fun e => e.elim (fun e => by have := h1 k e; omega) fun e => by have := h2 k e; omega)

/-- the end of a leaf -/
theorem leaf_p {A B : Nat} {X : Nat → Prop} {w w1 w3 : World} {a a1 a3 pa : Option Addr} {p c c1 c3 pn pcap : Nat} {acc : List (List Int)} {ps : List Int} {vs : List Value} (hst : StP A B X w a p c acc)
    (hv1 : OwnRow (B + 2) w.heap.size w 22 a p c vs) (hv2 : RowsV (B + 2) w.heap.size w vs acc) (hv3 : ∀ i, i < acc.length → ∀ g, (vs.getD i undef).ownBlock = some g → ¬ X g)
    (hp : Own (B + 2) w.heap.size w pa pn pcap ps) (hXlt : ∀ k, X k → k < w.heap.size) (ho1 : Own w.heap.size w1.heap.size w1 a1 pn c1 ps) (hb1 : Below w.heap.size w w1) (hB : B + 2 ≤ w.heap.size)
    (ho3 : OwnRow (B + 2) w3.heap.size w3 22 a3 (p + 1) c3 (vs ++ [.slice a1 pn c1])) (hc3 : Chg (fun k => (Value.slice a p c).ownBlock = some k) (w1.alloc (.cells #[.slice a1 pn c1] 22)) w3)
    (hn3 : NewOr (w1.alloc (.cells #[.slice a1 pn c1] 22)) (.slice a p c) (.slice a3 (p + 1) c3)) :
    ExtPP A B X w a p c (acc ++ [ps]) pa pn pcap ps (w3.setCell ⟨B, 0, none⟩ (.slice a3 (p + 1) c3)) a3 (p + 1) c3 := by
  have hbW : Below w.heap.size w (w1.alloc (.cells #[.slice a1 pn c1] 22)) := hb1.alloc hb1.size _
  have hlen : acc.length = p := by rw [← hv2.length, hv1.length]
  have hvl := hv1.length
  have hal := belowAlloc w1 (.cells #[.slice a1 pn c1] 22)
  have hsz1 := hb1.size
  have hszW : (w1.alloc (.cells #[.slice a1 pn c1] 22)).heap.size = w1.heap.size + 1 := by simp
  have hsz3 := hc3.size
  have hns : ∀ g, (Value.slice a p c).ownBlock = some g → B + 2 ≤ g ∧ g < w.heap.size := fun g hg => ⟨(hv1.1.lt g hg).1, hv1.2 g hg⟩
  have hins := (hv2.keep hbW).ins p (by omega) ((ho1.keep hal)) hB (by omega : w.heap.size ≤ w1.heap.size) ho1.ge
  rw [List.take_of_length_le (by omega), List.drop_of_length_le (by omega), List.take_of_length_le (by omega), List.drop_of_length_le (by omega)] at hins
  have hrow3 := hins.chgSpine (hv1.keep hbW) hc3
  have hcs := chg_setCell w3 B (.slice a3 (p + 1) c3)
  have hbk : ∀ q, q = B ∨ q = B + 1 → w3.heap[q]? = w.heap[q]? := fun q hq => by
    rw [hc3.block q (by rw [hszW]; omega) (fun hh => by have := hns q hh; omega), (Chg.ofBelow (S := fun _ => False) hbW).block q (by omega) id]
  have hallB : w3.heap[B]? = some (.cells #[.slice a p c] 59 (0, 0)) := by rw [hbk B (.inl rfl)]; exact hst.all
  have hfr : Chg (fun k => k = B ∨ (Value.slice a p c).ownBlock = some k ∨ (Value.slice pa pn pcap).ownBlock = some k) w (w3.setCell ⟨B, 0, none⟩ (.slice a3 (p + 1) c3)) :=
    ((Chg.ofBelow hbW).trans (hc3.mono (fun k hk => .inr (.inl hk)))).trans (hcs.mono (fun k hk => .inl hk))
  refine ⟨⟨one_setCell hallB, ?_, ⟨vs ++ [.slice a1 pn c1], ?_, ?_, ?_⟩⟩, ?_, hfr, ?_⟩
  · rw [hcs.block (B + 1) (by omega) (by omega), hbk (B + 1) (.inr rfl)]; exact hst.ext
  · exact (ho3.chg hcs (fun g g1 _ _ hg => by omega)).mono (Nat.le_refl _) hcs.size
  · exact (hrow3.chg hcs (fun g g1 _ _ hg => by omega)).mono (Nat.le_refl _) (by have := hcs.size; omega)
  · intro i hi g hg hX
    simp only [List.length_append, List.length_singleton] at hi
    by_cases hlt : i < p
    · rw [List.getD_eq_getElem?_getD, List.getElem?_append_left (by omega), ← List.getD_eq_getElem?_getD] at hg
      exact hv3 i (by omega) g hg hX
    · rw [List.getD_eq_getElem?_getD, List.getElem?_append_right (by omega), show i - vs.length = 0 by omega] at hg
      have := ho1.ge g hg
      have := hXlt g hX
      omega
  · refine ((((hp.keep hbW).chg hc3 fun g g1 g2 h1 h2 => ?_).chg hcs fun g g1 _ _ hg => by omega).mono (Nat.le_refl _) ?_)
    · exact OwnRow.apart_ty (hp.keep hbW) (hv1.keep hbW) (by decide) h1 h2
    · have := hcs.size; omega
  · intro g hg
    rcases hn3 g hg with h | h
    · exact .inl h
    · exact .inr (by omega)

set_option maxHeartbeats 3200000 in
set_option maxRecDepth 100000 in
/-- no place is left: the past is noted -/
theorem zero_p (A B : Nat) (b0 o0 n0 c0 M : Nat) (hn0 : 1 ≤ n0) (X : Nat → Prop) (ra : Option Addr) (rc : Nat) (pa : Option Addr) (pn pcap : Nat) (ps : List Int) (a : Option Addr) (p c : Nat) (acc : List (List Int)) (w : World) (hpn : pn ≤ 28) (hM : pn = M) (hp8 : p ≤ 100000)
    (hbox : BoxP A b0 o0 n0 c0 M w) (hst : StP A B X w a p c acc) (hp : Own (B + 2) w.heap.size w pa pn pcap ps) (hXlt : ∀ k, X k → k < w.heap.size) (hB : B + 2 ≤ w.heap.size) :
    Calls Try.prog 115 #[.slice pa pn pcap, .slice ra 0 rc, .pointer (some ⟨A, 0, none⟩), .pointer (some ⟨B, 0, none⟩), .pointer (some ⟨B + 1, 0, none⟩)] w fun e w' => e = .returned (.tuple #[]) ∧ ∃ a' p' c', ExtPP A B X w a p c (acc ++ [ps]) pa pn pcap ps w' a' p' c' := by
  obtain ⟨vs, hv1, hv2, hv3⟩ := hst.rows
  obtain ⟨hbx, hfx⟩ := hbox.cells
  have hc0 : w.drew.cell? ⟨B, 0, none⟩ = some (.slice a p c) := cell_of_one hst.all
  have hpd : IntsAt w.drew pa pn pcap ps := hp.at.drewN 1
  have hcp := copyOf_any pa pn pcap ps w.drew hpd (by omega)
  have hlate : ∀ W, Below w.heap.size w W → W.cell? ⟨B, 0, none⟩ = some (.slice a p c) := fun W hW => cell_of_one (by rw [(Chg.ofBelow (S := fun _ => False) hW).block B (by omega) id]; exact hst.all)
  have hlt8 : ∀ g, (Value.slice a p c).ownBlock = some g → B + 2 ≤ g ∧ g < w.heap.size := fun g hg => ⟨(hv1.1.lt g hg).1, hv1.2 g hg⟩
  have hfin : ∀ (w1 : World) (a1 : Option Addr) (c1 : Nat), Own w.heap.size w1.heap.size w1 a1 pn c1 ps → Below w.heap.size w w1 → ∀ (a3 : Option Addr) (c3 : Nat) (w3 : World), OwnRow (B + 2) w3.heap.size w3 22 a3 (p + 1) c3 (vs ++ [.slice a1 pn c1]) → Chg (fun k => (Value.slice a p c).ownBlock = some k) (w1.alloc (.cells #[.slice a1 pn c1] 22)) w3 → NewOr (w1.alloc (.cells #[.slice a1 pn c1] 22)) (.slice a p c) (.slice a3 (p + 1) c3) →
      w3.cell? ⟨B, 0, none⟩ = some (.slice a p c) ∧ w3.frozen? ⟨B, 0, none⟩ = false ∧ ExtPP A B X w a p c (acc ++ [ps]) pa pn pcap ps (w3.setCell ⟨B, 0, none⟩ (.slice a3 (p + 1) c3)) a3 (p + 1) c3 := by
    intro w1 a1 c1 ho1 hb1 a3 c3 w3 ho3 hc3 hn3
    have hbW : Below w.heap.size w (w1.alloc (.cells #[.slice a1 pn c1] 22)) := hb1.alloc hb1.size _
    have h8 : w3.heap[B]? = some (.cells #[.slice a p c] 59 (0, 0)) := by
      rw [hc3.block B (by have := hbW.size; omega) (fun hh => by have := hlt8 B hh; omega), (Chg.ofBelow (S := fun _ => False) hbW).block B (by omega) id]; exact hst.all
    exact ⟨cell_of_one h8, free_of_one h8, leaf_p hst hv1 hv2 hv3 hp hXlt ho1 hb1 hB ho3 hc3 hn3⟩
  have hrefl : Below w.heap.size w w.drew := belowDrewN (Below.refl w.heap.size w) 1
  have hMM : (M : Int) - (pn : Int) = 0 := by omega
  have hM8 : (M : Int) ≤ 28 := by omega
  have Hcp := Lib.hid hcp; clear hcp
  have Hlate := Lib.hid hlate; clear hlate
  have Hlt8 := Lib.hid hlt8; clear hlt8
  have Hfin := Lib.hid hfin; clear hfin
  have Hv3 := Lib.hid hv3; clear hv3
  have HM := Lib.hid hM; clear hM
  clear hst hbox
  go_enter Try.func115, Try.ntmps115
  go_wp2
  go_region_law (first | (go_simp; with_reducible refine (Hcp.out).mono ?_; rintro e w1 ⟨a1, c1, rfl, ho1, hb1⟩; have hb1' : Below w.heap.size w w1 := belowTrans hrefl hb1 (Nat.le_refl _); have ho1' : Own w.heap.size w1.heap.size w1 a1 pn c1 ps := ho1.mono hrefl.size (Nat.le_refl _); have hc1 := Hlate.out w1 hb1'; have hc2 := Hlate.out (w1.alloc (.cells #[.slice a1 pn c1] 22)) (hb1'.alloc hb1'.size _)) | (refine step_catVX (w1.alloc (.cells #[.slice a1 pn c1] 22)) rfl (.tmp 20) (.tmp 23) 59 rfl 22 _ 24 Try.underlying59 Try.infoInts rfl (by decide) (B + 2) w.heap.size a p c vs rfl (hv1.keep (hb1'.alloc hb1'.size _)) w1.heap.size (.slice a1 pn c1) rfl (by rw [World.cell?_alloc_at _ _ _ _ rfl]; rfl) rfl (by omega) (by have := hb1'.size; simp; omega) ?_; intro a3 c3 w3 ho3 hc3 hn3 hr3; obtain ⟨hc4, hf4, hpost⟩ := Hfin.out w1 a1 c1 ho1' hb1' a3 c3 w3 ho3 hc3 hn3; clear hc1 hc2 hc0))
  all_goals
    go_wp2
    refine bodyPost_ret (results_none rfl _ _ _) rfl ?_
    exact ⟨rfl, _, _, _, hpost⟩

/-- one number more: the function value is called with the longer piles, and what that call does is done for the shorter ones -/
theorem step_p {A B : Nat} {X : Nat → Prop} {w wr : World} {a a' pa : Option Addr} {p c p' c' pn pcap : Nat} {acc1 : List (List Int)} {ps : List Int} (hP : ExtPP A B X w a p c acc1 pa pn pcap ps wr a' p' c')
    (hX : ∀ g, (Value.slice pa pn pcap).ownBlock = some g → X g) (hXlt : ∀ k, X k → k < w.heap.size) (hB : B + 2 ≤ w.heap.size) (x : Int) {Wd : World} (hWd : Below wr.heap.size wr Wd) {a4 : Option Addr} {c4 : Nat} {w4 : World}
    (ho4 : Own (B + 2) w4.heap.size w4 a4 (pn + 1) c4 (ps ++ [x])) (hc4 : Chg (fun k => (Value.slice pa pn pcap).ownBlock = some k) Wd w4) (hr4 : NewR Wd w4 pa pcap a4 c4) :
    StP A B (fun k => X k ∨ (Value.slice a4 (pn + 1) c4).ownBlock = some k) w4 a' p' c' acc1 ∧ (∀ k, (X k ∨ (Value.slice a4 (pn + 1) c4).ownBlock = some k) → k < w4.heap.size) ∧
    (∀ acc2 w5 a5 p5 c5, ExtPP A B (fun k => X k ∨ (Value.slice a4 (pn + 1) c4).ownBlock = some k) w4 a' p' c' acc2 a4 (pn + 1) c4 (ps ++ [x]) w5 a5 p5 c5 → ExtPP A B X w a p c acc2 pa pn pcap ps w5 a5 p5 c5) := by
  have s1 := hP.frame.size
  have s2 := hWd.size
  have s3 := hc4.size
  have hpd := hP.piles.keep hWd
  have hpg : ∀ g, (Value.slice pa pn pcap).ownBlock = some g → B + 2 ≤ g ∧ g < wr.heap.size := fun g hg => ⟨(hP.piles.1.lt g hg).1, hP.piles.2 g hg⟩
  have ha4 : ∀ g, (Value.slice a4 (pn + 1) c4).ownBlock = some g → (Value.slice pa pn pcap).ownBlock = some g ∨ Wd.heap.size ≤ g := fun g hg => by
    rcases hr4 with ⟨rfl, rfl⟩ | ⟨⟨q, rfl, hq⟩, _⟩
    · refine .inl ?_
      cases a4 with
      | none => simp [Value.ownBlock] at hg
      | some q => simpa [Value.ownBlock] using hg
    · simp [Value.ownBlock] at hg
      exact .inr (by omega)
  obtain ⟨vs, r1, r2, r3⟩ := hP.st.rows
  have r1d := r1.keep hWd
  have hbk : ∀ q, q = B ∨ q = B + 1 → w4.heap[q]? = wr.heap[q]? := fun q hq => by
    rw [hc4.block q (by omega) (fun hh => by have := hpg q hh; omega), (Chg.ofBelow (S := fun _ => False) hWd).block q (by omega) id]
  have r1w : OwnRow (B + 2) wr.heap.size w4 22 a' p' c' vs := r1d.chg hc4 fun g _ _ h1 h2 => OwnRow.apart_ty r1d hpd (by decide) h1 h2
  have r2w : RowsV (B + 2) wr.heap.size w4 vs acc1 := (r2.keep hWd).chg hc4 fun g _ _ ⟨i, hi, hg⟩ hs => r3 i hi g hg (hX g hs)
  have hst4 : StP A B (fun k => X k ∨ (Value.slice a4 (pn + 1) c4).ownBlock = some k) w4 a' p' c' acc1 := by
    refine ⟨by rw [hbk B (.inl rfl)]; exact hP.st.all, by rw [hbk (B + 1) (.inr rfl)]; exact hP.st.ext, vs, r1w.mono (Nat.le_refl _) (by omega), r2w.mono (Nat.le_refl _) (by omega), fun i hi g hg hh => ?_⟩
    rcases hh with h' | h'
    · exact r3 i hi g hg h'
    · rcases ha4 g h' with h2 | h2
      · exact r3 i hi g hg (hX g h2)
      · obtain ⟨a0, m0, c0, e0, ho0⟩ := r2.row i hi
        rw [e0] at hg
        have := ho0.2 g hg
        omega
  refine ⟨hst4, fun k hk => ?_, fun acc2 w5 a5 p5 c5 hQ => ⟨⟨hQ.st.all, hQ.st.ext, ?_⟩, ?_, ?_, ?_⟩⟩
  · rcases hk with h' | h'
    · have := hXlt k h'; omega
    · exact ho4.2 k h'
  · obtain ⟨us, q1, q2, q3⟩ := hQ.st.rows
    exact ⟨us, q1, q2, fun i hi g hg hh => q3 i hi g hg (.inl hh)⟩
  · have s5 := hQ.frame.size
    rcases hr4 with ⟨rfl, rfl⟩ | ⟨⟨q, rfl, hq⟩, hno⟩
    · rcases ho4.cases with ⟨_, hz, _⟩ | ⟨g, rfl, _⟩
      · omega
      · exact hQ.piles.shrink
    · have hp4 : Own (B + 2) wr.heap.size w4 pa pn pcap ps := hpd.chg hno fun _ _ _ _ h => h
      refine (hp4.chg hQ.frame fun g g1 g2 hg hs => ?_).mono (Nat.le_refl _) (by omega)
      rcases hs with h' | h' | h'
      · omega
      · exact OwnRow.apart_ty hp4 r1w (by decide) hg h'
      · simp [Value.ownBlock] at h'; omega
  · have s5 := hQ.frame.size
    refine ⟨hQ.frame.os.trans (hc4.os.trans (hWd.os.trans hP.frame.os)), hQ.frame.tape.trans (hc4.tape.trans (hWd.tape.trans hP.frame.tape)), hQ.frame.output.trans (hc4.output.trans (hWd.output.trans hP.frame.output)), by omega, fun k hk hs => ?_⟩
    rw [hQ.frame.block k (by omega) (fun hh => ?_), hc4.block k (by omega) (fun hh => hs (.inr (.inr hh))), (Chg.ofBelow (S := fun _ => False) hWd).block k (by omega) id, hP.frame.block k hk hs]
    rcases hh with h' | h' | h'
    · exact hs (.inl h')
    · rcases hP.spine k h' with h2 | h2
      · exact hs (.inr (.inl h2))
      · omega
    · rcases ha4 k h' with h2 | h2
      · exact hs (.inr (.inr h2))
      · omega
  · exact hP.spine.trans (by omega) hQ.spine

/-- the contract of the function value, for so many places -/
def ExtOK (W0 : World) (A B b0 o0 n0 c0 M f : Nat) : Prop := ∀ (rs : List Int) (ra : Option Addr) (rn rc : Nat) (X : Nat → Prop) (pa : Option Addr) (pn pcap : Nat) (ps : List Int) (a : Option Addr) (p c : Nat) (acc : List (List Int)) (w : World),
    pn + f = M → (∀ x ∈ rs, 1 ≤ x ∧ x ≤ 28) → rn ≤ 28 → IntsAt W0 ra rn rc rs → Below W0.heap.size W0 w → BoxP A b0 o0 n0 c0 M w → p + (pR f rs).length ≤ 100000 → StP A B X w a p c acc → Own (B + 2) w.heap.size w pa pn pcap ps → (∀ g, (Value.slice pa pn pcap).ownBlock = some g → X g) → (∀ k, X k → k < w.heap.size) → B + 2 ≤ w.heap.size →
    Calls Try.prog 115 #[.slice pa pn pcap, .slice ra rn rc, .pointer (some ⟨A, 0, none⟩), .pointer (some ⟨B, 0, none⟩), .pointer (some ⟨B + 1, 0, none⟩)] w fun e w' => e = .returned (.tuple #[]) ∧ ∃ a' p' c', ExtPP A B X w a p c (acc ++ (pR f rs).map (ps ++ ·)) pa pn pcap ps w' a' p' c'

/-- one number more, then the call -/
theorem call_p {W0 : World} {A B b0 o0 n0 c0 M f : Nat} (ih : ExtOK W0 A B b0 o0 n0 c0 M f) (hAB : A < B) (hWA : W0.heap.size = A) {rs : List Int} {ra : Option Addr} {rn rc : Nat} (hrs : ∀ x ∈ rs, 1 ≤ x ∧ x ≤ 28) (hrn : rn ≤ 28) (hra : IntsAt W0 ra rn rc rs)
    {X : Nat → Prop} {w wr : World} {a a' pa : Option Addr} {p c p' c' pn pcap : Nat} {acc1 : List (List Int)} {ps : List Int} (hP : ExtPP A B X w a p c acc1 pa pn pcap ps wr a' p' c') (hpn : pn + (f + 1) = M)
    (h1 : ∀ g, (Value.slice a p c).ownBlock = some g → B + 2 ≤ g) (h2 : ∀ g, (Value.slice pa pn pcap).ownBlock = some g → B + 2 ≤ g) (hb : Below W0.heap.size W0 w) (hbox : BoxP A b0 o0 n0 c0 M w)
    (hX : ∀ g, (Value.slice pa pn pcap).ownBlock = some g → X g) (hXlt : ∀ k, X k → k < w.heap.size) (hB : B + 2 ≤ w.heap.size) (hlen : acc1.length + (pR f rs).length ≤ 100000) (x : Int) {Wd : World} (hWd : Below wr.heap.size wr Wd) {a4 : Option Addr} {c4 : Nat} {w4 : World}
    (ho4 : OwnRow (B + 2) w4.heap.size w4 3 a4 (pn + 1) c4 (ps.map (Value.int .i64) ++ [.int .i64 x])) (hc4 : Chg (fun k => (Value.slice pa pn pcap).ownBlock = some k) Wd w4) (hr4 : NewR Wd w4 pa pcap a4 c4) :
    w4.cell? ⟨B + 1, 0, none⟩ = some (.func (.func 115) #[] #[.pointer (some ⟨A, 0, none⟩), .pointer (some ⟨B, 0, none⟩), .pointer (some ⟨B + 1, 0, none⟩)]) ∧
    Calls Try.prog 115 #[.slice a4 (pn + 1) c4, .slice ra rn rc, .pointer (some ⟨A, 0, none⟩), .pointer (some ⟨B, 0, none⟩), .pointer (some ⟨B + 1, 0, none⟩)] w4 fun e w5 => e = .returned (.tuple #[]) ∧ ∃ a5 p5 c5, ExtPP A B X w a p c (acc1 ++ ((pR f rs).map (x :: ·)).map (ps ++ ·)) pa pn pcap ps w5 a5 p5 c5 := by
  have ho4' : Own (B + 2) w4.heap.size w4 a4 (pn + 1) c4 (ps ++ [x]) := by unfold Own; rw [List.map_append]; exact ho4
  obtain ⟨k1, k2, k3⟩ := step_p hP hX hXlt hB x hWd ho4' hc4 hr4
  have hsr := hP.frame.size
  have hsz4 := hc4.size
  have hszd := hWd.size
  have hlr := hP.st.rows.length
  have hlow := hP.low (by omega) hb h1 h2
  have hbx := hP.boxed hAB hbox h1 h2
  have hlow4 : Below W0.heap.size W0 w4 := (belowTrans hlow hWd (Nat.le_refl _)).trans (hc4.below (by omega) (fun k hk => by have := h2 k hk; omega))
  have hbx4 := (hbx.keep hWd).chg hc4 (fun k hk e => by have := h2 k e; omega)
  refine ⟨cell_of_one k1.ext, ?_⟩
  refine (ih rs ra rn rc _ a4 (pn + 1) c4 (ps ++ [x]) a' p' c' _ w4 (by omega) hrs hrn hra hlow4 hbx4 (by omega) k1 ho4' (fun g hg => .inr hg) k2 (by omega)).mono fun e w5 ⟨he, a5, p5, c5, hpost⟩ => ⟨he, a5, p5, c5, ?_⟩
  have := k3 _ _ _ _ _ hpost
  rw [map_ext] at this
  exact this

end Go.Proofs.Ytbneibpakopllaa
