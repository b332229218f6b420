/- Chapter 5: the function value of RowPasts for any number of places. No condition. -/
import Derived.Test.YtbneibpakopllaaRowF
import Derived.Laws.EntriesVeiled
import Derived.IntWalk
namespace Go.Proofs.Ytbneibpakopllaa
open Go.RowKit
set_option linter.unusedVariables false
set_option linter.unusedSimpArgs false

set_option maxHeartbeats 1600000 in
set_option maxRecDepth 100000 in
theorem ret_p {A B b0 o0 n0 c0 M f : Nat} (hn0 : 1 ≤ n0) (hM28 : M ≤ 28) (ra : Option Addr) (rn rc : Nat) (pa : Option Addr) (pn pcap : Nat) (w : World) (hpn : pn + f = M) (hlt : f < rn) (hrn : rn ≤ 28) (hbox : BoxP A b0 o0 n0 c0 M w) :
    Calls Try.prog 115 #[.slice pa pn pcap, .slice ra rn rc, .pointer (some ⟨A, 0, none⟩), .pointer (some ⟨B, 0, none⟩), .pointer (some ⟨B + 1, 0, none⟩)] w fun e w' => e = .returned (.tuple #[]) ∧ w' = w := by
  obtain ⟨hbx, hfx⟩ := hbox.cells
  have hd : (M : Int) - (pn : Int) < (rn : Int) := by omega
  have hM8 : (M : Int) ≤ 28 := by omega
  have hp8 : (pn : Int) ≤ 28 := by omega
  have Hpn := Lib.hid hpn; clear hpn
  have Hbox := Lib.hid hbox; clear hbox
  go_enter Try.func115, Try.ntmps115
  go_wp2
  refine bodyPost_ret (results_none rfl _ _ _) rfl ?_
  exact ⟨rfl, rfl⟩
theorem ExtPP.refl {A B X w a p c acc pa pn pcap ps} (hst : StP A B X w a p c acc) (hp : Own (B + 2) w.heap.size w pa pn pcap ps) : ExtPP A B X w a p c acc pa pn pcap ps w a p c := ⟨hst, hp, Chg.refl _ _, NewOr.refl _ _⟩
theorem StP.cell {A B X w a p c acc} (h : StP A B X w a p c acc) (W : World) (hW : W.heap[B + 1]? = w.heap[B + 1]?) : W.cell? ⟨B + 1, 0, none⟩ = some (.func (.func 115) #[] #[.pointer (some ⟨A, 0, none⟩), .pointer (some ⟨B, 0, none⟩), .pointer (some ⟨B + 1, 0, none⟩)]) := cell_of_one (by rw [hW]; exact h.ext)

set_option maxHeartbeats 6400000 in
set_option maxRecDepth 100000 in
/-- a place is left, and no number: a new pile -/
theorem ones_p {W0 : World} {A B b0 o0 n0 c0 M f : Nat} (hn0 : 1 ≤ n0) (hM28 : M ≤ 28) (hAB : A < B) (hWA : W0.heap.size = A) (ih : ExtOK W0 A B b0 o0 n0 c0 M f) (ra : Option Addr) (rc : Nat) (hra : IntsAt W0 ra 0 rc [])
    (X : Nat → Prop) (pa : Option Addr) (pn pcap : Nat) (ps : List Int) (a : Option Addr) (p c : Nat) (acc : List (List Int)) (w : World)
    (hpn : pn + (f + 1) = M) (hb : Below W0.heap.size W0 w) (hbox : BoxP A b0 o0 n0 c0 M w) (hp8 : p + (pR f []).length ≤ 100000) (hst : StP A B X w a p c acc) (hp : Own (B + 2) w.heap.size w pa pn pcap ps) (hX : ∀ g, (Value.slice pa pn pcap).ownBlock = some g → X g) (hXlt : ∀ k, X k → k < w.heap.size) (hB : B + 2 ≤ w.heap.size) :
    Calls Try.prog 115 #[.slice pa pn pcap, .slice ra 0 rc, .pointer (some ⟨A, 0, none⟩), .pointer (some ⟨B, 0, none⟩), .pointer (some ⟨B + 1, 0, none⟩)] w fun e w' => e = .returned (.tuple #[]) ∧ ∃ a' p' c', ExtPP A B X w a p c (acc ++ (pR (f + 1) []).map (ps ++ ·)) pa pn pcap ps w' a' p' c' := by
  obtain ⟨hbx, hfx⟩ := hbox.cells
  have h1 : ∀ g, (Value.slice a p c).ownBlock = some g → B + 2 ≤ g := by
    obtain ⟨vs, r1, _⟩ := hst.rows
    exact fun g hg => (r1.1.lt g hg).1
  have h2 : ∀ g, (Value.slice pa pn pcap).ownBlock = some g → B + 2 ≤ g := fun g hg => (hp.1.lt g hg).1
  have hlr := hst.rows.length
  have hP0 := ExtPP.refl hst hp
  have hWd : Below w.heap.size w (w.alloc (.cells #[.int .i64 1] 3)).drew := belowDrewN (belowAlloc w _) 1
  have hE0 := hst.cell w.drew rfl
  have hE1 := hst.cell (w.alloc (.cells #[.int .i64 1] 3)).drew ((Chg.ofBelow (S := fun _ => False) hWd).block (B + 1) (by omega) id)
  have hpd : OwnRow (B + 2) w.heap.size (w.alloc (.cells #[.int .i64 1] 3)).drew 3 pa pn pcap (ps.map (Value.int .i64)) := hp.keep hWd
  have hcell : (w.alloc (.cells #[.int .i64 1] 3)).drew.cell? ⟨w.heap.size, 0, none⟩ = some (.int .i64 1) := by
    have : (w.alloc (.cells #[.int .i64 1] 3)).cell? ⟨w.heap.size, 0, none⟩ = some (.int .i64 1) := by rw [World.cell?_alloc_at _ _ _ _ rfl]; rfl
    exact this
  have hcall := fun (a4 : Option Addr) (c4 : Nat) (w4 : World) ho4 hc4 hr4 => call_p (a4 := a4) (c4 := c4) (w4 := w4) ih hAB hWA (rs := []) (fun x hx => by cases hx) (Nat.zero_le _) hra hP0 hpn h1 h2 hb hbox hX hXlt hB (by omega) 1 hWd ho4 hc4 hr4
  rw [← pR_nil] at hcall
  generalize acc ++ (pR (f + 1) []).map (ps ++ ·) = Z at hcall ⊢
  have hd : ¬ (M : Int) - (pn : Int) < 0 := by omega
  have hd2 : ¬ (M : Int) - (pn : Int) = 0 := by omega
  have hM8 : (M : Int) ≤ 28 := by omega
  have hp9 : (pn : Int) ≤ 28 := by omega
  have hpn8 : pn ≤ 28 := by omega
  have hBd : B + 2 ≤ (w.alloc (.cells #[.int .i64 1] 3)).drew.heap.size := by have := hWd.size; omega
  have Hcall := Lib.hid hcall
  clear hcall hP0 hWd ih hra hb hbox hst hp hX hXlt hlr hp8 hpn
  have Hpd := Lib.hid hpd; clear hpd
  have Hcell := Lib.hid hcell; clear hcell
  have H1 := Lib.hid h1; clear h1
  have H2 := Lib.hid h2; clear h2
  go_enter Try.func115, Try.ntmps115
  go_wp2
  go_region_law (first | (refine step_catVX (w.alloc (.cells #[.int .i64 1] 3)).drew rfl (.tmp 40) (.tmp 41) 22 rfl 3 _ 8 Try.underlying22 Try.infoInt rfl (by decide) (B + 2) w.heap.size pa pn pcap _ rfl Hpd.out w.heap.size (.int .i64 1) rfl Hcell.out rfl (by omega) hBd ?_; intro a4 c4 w4 ho4 hc4 hn4 hr4; obtain ⟨hE2, hgo⟩ := Hcall.out a4 c4 w4 ho4 hc4 hr4; have Hgo := Lib.hid hgo; clear hgo ho4 hc4 hn4 hr4) | (go_simp; with_reducible refine (Hgo.out).mono ?_; rintro e w5 ⟨rfl, a5, p5, c5, hpost5⟩))
  all_goals
    have Hpost5 := Lib.hid hpost5
    clear hpost5
    go_wp2
    go_end0
    exact ⟨rfl, _, _, _, Hpost5.out⟩

set_option maxHeartbeats 6400000 in
set_option maxRecDepth 100000 in
/-- a place is left, and a number: the number's pile, then a new pile -/
theorem more_p {W0 : World} {A B b0 o0 n0 c0 M f : Nat} (hn0 : 1 ≤ n0) (hM28 : M ≤ 28) (hAB : A < B) (hWA : W0.heap.size = A) (ih : ExtOK W0 A B b0 o0 n0 c0 M f) (x : Int) (t : List Int) (ra : Option Addr) (r rc : Nat) (hrn : r + 1 ≤ 28) (hrf : r ≤ f) (hrs : ∀ y ∈ x :: t, 1 ≤ y ∧ y ≤ 28) (hra : IntsAt W0 ra (r + 1) rc (x :: t))
    (X : Nat → Prop) (pa : Option Addr) (pn pcap : Nat) (ps : List Int) (a : Option Addr) (p c : Nat) (acc : List (List Int)) (w : World)
    (hpn : pn + (f + 1) = M) (hb : Below W0.heap.size W0 w) (hbox : BoxP A b0 o0 n0 c0 M w) (hp8 : p + (pR (f + 1) (x :: t)).length ≤ 100000) (hst : StP A B X w a p c acc) (hp : Own (B + 2) w.heap.size w pa pn pcap ps) (hX : ∀ g, (Value.slice pa pn pcap).ownBlock = some g → X g) (hXlt : ∀ k, X k → k < w.heap.size) (hB : B + 2 ≤ w.heap.size) :
    Calls Try.prog 115 #[.slice pa pn pcap, .slice ra (r + 1) rc, .pointer (some ⟨A, 0, none⟩), .pointer (some ⟨B, 0, none⟩), .pointer (some ⟨B + 1, 0, none⟩)] w fun e w' => e = .returned (.tuple #[]) ∧ ∃ a' p' c', ExtPP A B X w a p c (acc ++ (pR (f + 1) (x :: t)).map (ps ++ ·)) pa pn pcap ps w' a' p' c' := by
  obtain ⟨hbx, hfx⟩ := hbox.cells
  have h1 : ∀ g, (Value.slice a p c).ownBlock = some g → B + 2 ≤ g := by
    obtain ⟨vs, r1, _⟩ := hst.rows
    exact fun g hg => (r1.1.lt g hg).1
  have h2 : ∀ g, (Value.slice pa pn pcap).ownBlock = some g → B + 2 ≤ g := fun g hg => (hp.1.lt g hg).1
  have hlr := hst.rows.length
  have hP0 := ExtPP.refl hst hp
  have hx := hrs x (by simp)
  have hl8 : (pR (f + 1) (x :: t)).length = (pR f t).length + (pR f (x :: t)).length := by rw [pR_cons]; simp
  obtain ⟨ra2, hsl, hra2⟩ := slFrom W0 (x :: t) hra 1 (by omega) .i64
  rw [show r + 1 - 1 = r by omega] at hsl hra2
  rw [show (x :: t).drop 1 = t from rfl] at hra2
  rw [show ((1 : Nat) : Int) = 1 from rfl] at hsl
  have hraw := hra.keep hb
  obtain ⟨rb, ro, rfl, hrb, hrc⟩ := hraw.cell 0 (by omega)
  have hx0 := hrc 0 (by omega)
  rw [Nat.add_zero] at hx0
  rw [show (x :: t).getD 0 0 = x from rfl] at hx0
  clear hrc
  have hWd : Below w.heap.size w (w.alloc (.cells #[.int .i64 (x + 1)] 3)).drew := belowDrewN (belowAlloc w _) 1
  have hE0 := hst.cell w.drew rfl
  have hE1 := hst.cell (w.alloc (.cells #[.int .i64 (x + 1)] 3)).drew ((Chg.ofBelow (S := fun _ => False) hWd).block (B + 1) (by omega) id)
  have hxd : w.drew.cell? ⟨rb, ro, none⟩ = some (.int .i64 x) := hx0
  have hpd : OwnRow (B + 2) w.heap.size (w.alloc (.cells #[.int .i64 (x + 1)] 3)).drew 3 pa pn pcap (ps.map (Value.int .i64)) := hp.keep hWd
  have hcell : (w.alloc (.cells #[.int .i64 (x + 1)] 3)).drew.cell? ⟨w.heap.size, 0, none⟩ = some (.int .i64 (x + 1)) := by
    have : (w.alloc (.cells #[.int .i64 (x + 1)] 3)).cell? ⟨w.heap.size, 0, none⟩ = some (.int .i64 (x + 1)) := by rw [World.cell?_alloc_at _ _ _ _ rfl]; rfl
    exact this
  have hcall := fun (a4 : Option Addr) (c4 : Nat) (w4 : World) ho4 hc4 hr4 => call_p (a4 := a4) (c4 := c4) (w4 := w4) ih hAB hWA (rs := t) (fun y hy => hrs y (by simp [hy])) (by omega) hra2 hP0 hpn h1 h2 hb hbox hX hXlt hB (by omega) (x + 1) hWd ho4 hc4 hr4
  obtain ⟨acc1, hacc1⟩ : ∃ z, z = acc ++ ((pR f t).map ((x + 1) :: ·)).map (ps ++ ·) := ⟨_, rfl⟩
  have hl1 : acc1.length = acc.length + (pR f t).length := by rw [hacc1]; simp
  have hZ : acc ++ (pR (f + 1) (x :: t)).map (ps ++ ·) = acc1 ++ ((pR f (x :: t)).map (1 :: ·)).map (ps ++ ·) := by rw [hacc1, pR_cons, List.map_append, List.append_assoc]
  rw [← hacc1] at hcall
  have hcall2 : ∀ (w5 : World) (a5 : Option Addr) (p5 c5 : Nat), ExtPP A B X w a p c acc1 pa pn pcap ps w5 a5 p5 c5 → w5.drew.cell? ⟨B + 1, 0, none⟩ = some (.func (.func 115) #[] #[.pointer (some ⟨A, 0, none⟩), .pointer (some ⟨B, 0, none⟩), .pointer (some ⟨B + 1, 0, none⟩)]) ∧
      (w5.alloc (.cells #[.int .i64 1] 3)).drew.cell? ⟨B + 1, 0, none⟩ = some (.func (.func 115) #[] #[.pointer (some ⟨A, 0, none⟩), .pointer (some ⟨B, 0, none⟩), .pointer (some ⟨B + 1, 0, none⟩)]) ∧
      Hid (OwnRow (B + 2) w5.heap.size (w5.alloc (.cells #[.int .i64 1] 3)).drew 3 pa pn pcap (ps.map (Value.int .i64))) ∧ Hid ((w5.alloc (.cells #[.int .i64 1] 3)).drew.cell? ⟨w5.heap.size, 0, none⟩ = some (.int .i64 1)) ∧ B + 2 ≤ (w5.alloc (.cells #[.int .i64 1] 3)).drew.heap.size ∧
      Hid (∀ (a4 : Option Addr) (c4 : Nat) (w6 : World), OwnRow (B + 2) w6.heap.size w6 3 a4 (pn + 1) c4 (ps.map (Value.int .i64) ++ [.int .i64 1]) → Chg (fun k => (Value.slice pa pn pcap).ownBlock = some k) (w5.alloc (.cells #[.int .i64 1] 3)).drew w6 → NewR (w5.alloc (.cells #[.int .i64 1] 3)).drew w6 pa pcap a4 c4 →
        w6.cell? ⟨B + 1, 0, none⟩ = some (.func (.func 115) #[] #[.pointer (some ⟨A, 0, none⟩), .pointer (some ⟨B, 0, none⟩), .pointer (some ⟨B + 1, 0, none⟩)]) ∧
        Calls Try.prog 115 #[.slice a4 (pn + 1) c4, .slice (some ⟨rb, ro, none⟩) (r + 1) rc, .pointer (some ⟨A, 0, none⟩), .pointer (some ⟨B, 0, none⟩), .pointer (some ⟨B + 1, 0, none⟩)] w6 fun e w7 => e = .returned (.tuple #[]) ∧ ∃ a7 p7 c7, ExtPP A B X w a p c (acc ++ (pR (f + 1) (x :: t)).map (ps ++ ·)) pa pn pcap ps w7 a7 p7 c7) := by
    intro w5 a5 p5 c5 hP
    have hWd5 : Below w5.heap.size w5 (w5.alloc (.cells #[.int .i64 1] 3)).drew := belowDrewN (belowAlloc w5 _) 1
    have hs5 := hP.frame.size
    refine ⟨hP.st.cell _ rfl, hP.st.cell _ ((Chg.ofBelow (S := fun _ => False) hWd5).block (B + 1) (by omega) id), Lib.hid (hP.piles.keep hWd5), Lib.hid ?_, by have := hWd5.size; omega, Lib.hid ?_⟩
    · have : (w5.alloc (.cells #[.int .i64 1] 3)).cell? ⟨w5.heap.size, 0, none⟩ = some (.int .i64 1) := by rw [World.cell?_alloc_at _ _ _ _ rfl]; rfl
      exact this
    · intro a4 c4 w6 ho4 hc4 hr4
      have := call_p (a4 := a4) (c4 := c4) (w4 := w6) ih hAB hWA hrs hrn hra hP hpn h1 h2 hb hbox hX hXlt hB (by omega) 1 hWd5 ho4 hc4 hr4
      rw [← hZ] at this
      exact this
  generalize acc ++ (pR (f + 1) (x :: t)).map (ps ++ ·) = Z at hcall2 ⊢
  have hd : ¬ (M : Int) - (pn : Int) < (r : Int) + 1 := by omega
  have hd2 : ¬ (M : Int) - (pn : Int) = 0 := by omega
  have hd3 : (0 : Int) < (r : Int) + 1 := by omega
  have hM8 : (M : Int) ≤ 28 := by omega
  have hp9 : (pn : Int) ≤ 28 := by omega
  have hr9 : (r : Int) ≤ 28 := by omega
  have hpn8 : pn ≤ 28 := by omega
  have hwrap : IntKind.i64.wrap (x + 1) = x + 1 := IntWalk.i64_in _ (by omega)
  have hBd : B + 2 ≤ (w.alloc (.cells #[.int .i64 (x + 1)] 3)).drew.heap.size := by have := hWd.size; omega
  have Hcall := Lib.hid hcall
  have Hcall2 := Lib.hid hcall2
  clear hcall hcall2 hP0 hWd ih hra hra2 hraw hb hbox hst hp hX hXlt hlr hp8 hpn hl8 hl1 hacc1 hZ hrs hx0 hrb hrf
  have Hx := Lib.hid hx
  clear hx
  have Hpd := Lib.hid hpd; clear hpd
  have Hcell := Lib.hid hcell; clear hcell
  have H1 := Lib.hid h1; clear h1
  have H2 := Lib.hid h2; clear h2
  go_enter Try.func115, Try.ntmps115
  go_wp2
  go_region_law (first | (refine step_catVX (w.alloc (.cells #[.int .i64 (x + 1)] 3)).drew rfl (.tmp 29) (.tmp 34) 22 rfl 3 _ 8 Try.underlying22 Try.infoInt rfl (by decide) (B + 2) w.heap.size pa pn pcap _ rfl Hpd.out w.heap.size (.int .i64 (x + 1)) rfl Hcell.out rfl (by omega) hBd ?_; intro a4 c4 w4 ho4 hc4 hn4 hr4; obtain ⟨hE2, hgo⟩ := Hcall.out a4 c4 w4 ho4 hc4 hr4; have Hgo := Lib.hid hgo; clear hgo ho4 hc4 hn4 hr4) | (go_simp; with_reducible refine (Hgo.out).mono ?_; rintro e w5 ⟨rfl, a5, p5, c5, hpost5⟩))
  all_goals
    clear hwrap hE0 hE1 hE2 Hgo hBd hxd hsl
    obtain ⟨hE0, hE1, Hpd5, Hcell5, hBd5, Hcall5⟩ := Hcall2.out w5 a5 p5 c5 hpost5
    clear hpost5 Hcall2 Hpd Hcell Hcall
    go_wp2
    go_region_law (first | (refine step_catVX (w5.alloc (.cells #[.int .i64 1] 3)).drew rfl (.tmp 40) (.tmp 41) 22 rfl 3 _ 8 Try.underlying22 Try.infoInt rfl (by decide) (B + 2) w5.heap.size pa pn pcap _ rfl Hpd5.out w5.heap.size (.int .i64 1) rfl Hcell5.out rfl (by omega) hBd5 ?_; intro a4 c4 w6 ho4 hc4 hn4 hr4; obtain ⟨hE2, hgo⟩ := Hcall5.out a4 c4 w6 ho4 hc4 hr4; have Hgo := Lib.hid hgo; clear hgo ho4 hc4 hn4 hr4) | (go_simp; with_reducible refine (Hgo.out).mono ?_; rintro e w7 ⟨rfl, a7, p7, c7, hpost7⟩))
    all_goals
      have Hpost7 := Lib.hid hpost7
      clear hpost7
      go_wp2
      go_end0
      exact ⟨rfl, _, _, _, Hpost7.out⟩

theorem ext_p {W0 : World} {A B b0 o0 n0 c0 M : Nat} (hn0 : 1 ≤ n0) (hM28 : M ≤ 28) (hAB : A < B) (hWA : W0.heap.size = A) : ∀ f, ExtOK W0 A B b0 o0 n0 c0 M f := by
  intro f
  induction f with
  | zero =>
    intro rs ra rn rc X pa pn pcap ps a p c acc w hpn hrs hrn hra hb hbox hp8 hst hp hX hXlt hB
    have hl := hra.length
    cases rs with
    | nil =>
      simp only [List.length_nil] at hl
      subst hl
      have := zero_p A B b0 o0 n0 c0 M hn0 X ra rc pa pn pcap ps a p c acc w (by omega) (by omega) (by omega) hbox hst hp hXlt hB
      simpa [pR] using this
    | cons x t =>
      simp only [List.length_cons] at hl
      refine (ret_p (f := 0) hn0 hM28 ra rn rc pa pn pcap w hpn (by omega) hrn hbox).mono ?_
      rintro e w' ⟨rfl, rfl⟩
      exact ⟨rfl, a, p, c, by have := ExtPP.refl hst hp; simpa [pR] using this⟩
  | succ f ih =>
    intro rs ra rn rc X pa pn pcap ps a p c acc w hpn hrs hrn hra hb hbox hp8 hst hp hX hXlt hB
    have hl := hra.length
    cases rs with
    | nil =>
      simp only [List.length_nil] at hl
      subst hl
      exact ones_p hn0 hM28 hAB hWA ih ra rc hra X pa pn pcap ps a p c acc w hpn hb hbox (by rw [pR_nil, List.length_map] at hp8; exact hp8) hst hp hX hXlt hB
    | cons x t =>
      simp only [List.length_cons] at hl
      subst hl
      by_cases hlt : f + 1 < t.length + 1
      · refine (ret_p (f := f + 1) hn0 hM28 ra _ rc pa pn pcap w hpn hlt hrn hbox).mono ?_
        rintro e w' ⟨rfl, rfl⟩
        rw [pR_short (f + 1) (x :: t) (by simpa using hlt)]
        exact ⟨rfl, a, p, c, by have := ExtPP.refl hst hp; simpa using this⟩
      · exact more_p hn0 hM28 hAB hWA ih x t ra t.length rc hrn (by omega) hrs hra X pa pn pcap ps a p c acc w hpn hb hbox hp8 hst hp hX hXlt hB
end Go.Proofs.Ytbneibpakopllaa
