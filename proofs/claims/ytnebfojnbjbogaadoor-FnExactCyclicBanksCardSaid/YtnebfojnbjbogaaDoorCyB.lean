/- A map from texts to bank states, ranged over, its values sorted. No condition. -/
import Derived.Test.YtnebfojnbjbogaaDoorCyA
import Derived.Test.YtnebfojnbjbogaaDoorBoI
import Derived.Test.YtnebfojnbjbogaaDoorGf
import Derived.Maps.RangeWalk
namespace Go.Proofs.YtnebfojnbjbogaaDoor
open Go.RowKit Go.Maps
set_option linter.unusedVariables false
set_option linter.unusedSimpArgs false
set_option maxRecDepth 20000

/-- a map's element reads as itself -/
def Rv (v : Value) : Option (DataW Value × List MemPlace) := some (.held v, [])
def aggB (V : Bk → Value) (b : Bk) : Value := .agg #[.int .i64 b.h, .int .i64 b.l, V b]
/-- a map from the texts of some bank states to these, each with piles of its own -/
structure MapB (B E : Nat) (w : World) (g n : Nat) (D : DataW Value) (S : List Bk) (V : Bk → Value) : Prop where
  own : w.ownsMap Tryd.prog 9 Rv g n D
  yes : ∀ b ∈ S, Maps.has D (.string (bankL b)) = true ∧ ∀ zd, D.atKey (.string (bankL b)) zd = .held (aggB V b)
  no : ∀ kl, Maps.has D kl = true → ∃ b ∈ S, kl = .string (bankL b)
  ok : ∀ b ∈ S, BankOk b
  rows : ∀ b ∈ S, ∃ a m c, V b = .slice a m c ∧ Own B E w a m c b.p
  far : ∀ b ∈ S, ∀ c ∈ S, b ≠ c → apart (V b) (V c)
theorem MapB.made (B E : Nat) (w : World) (V : Bk → Value) : MapB B E (w.alloc (.map #[] 0)) w.heap.size 0 (.map []) [] V :=
  ⟨World.ownsMap_made _ _ _ _, fun b hb => (by cases hb), fun kl h => by (simp [Maps.has] at h), fun b hb => (by cases hb), fun b hb => (by cases hb), fun b hb => (by cases hb)⟩
theorem ownsMap_chg {S : Nat → Prop} {w w' : World} {R : Value → Option (DataW Value × List MemPlace)} {g n : Nat} {D : DataW Value} (h : w.ownsMap Tryd.prog 9 R g n D) (hc : Chg S w w') (hs : ¬ S g) : w'.ownsMap Tryd.prog 9 R g n D := by
  have hg := h.lt
  obtain ⟨es, clock, h1, h2⟩ := h
  exact ⟨es, clock, (hc.block g hg hs).trans h1, h2⟩
theorem ranges_chg {S : Nat → Prop} {w w' : World} {R : Value → Option (DataW Value × List MemPlace)} {g r n : Nat} {D : DataW Value} {left : Lit → Bool} {cnt : Nat} (h : w.ranges Tryd.prog 9 R g r n D left cnt) (hc : Chg S w w') (hs : ¬ S g) (hs2 : ¬ S r) : w'.ranges Tryd.prog 9 R g r n D left cnt := by
  have hg := h.owns.lt
  have hr := h.lt
  obtain ⟨es, clock, since, seen, c0, h1, h2, h3, h4, h5, h6⟩ := h
  exact ⟨es, clock, since, seen, c0, (hc.block g hg hs).trans h1, h2, h3, h4, (hc.block r hr hs2).trans h5, h6⟩
theorem MapB.chg {S : Nat → Prop} {B E w w' g n D T V} (h : MapB B E w g n D T V) (hc : Chg S w w') (hs : ¬ S g) (hs2 : ∀ k, B ≤ k → k < E → ¬ S k) : MapB B E w' g n D T V :=
  ⟨ownsMap_chg h.own hc hs, h.yes, h.no, h.ok, fun b hb => by
    obtain ⟨a, m, c, e, ho⟩ := h.rows b hb
    exact ⟨a, m, c, e, ho.chg hc (fun k h1 h2 _ => hs2 k h1 h2)⟩, h.far⟩
theorem MapB.keep {B E w w' g n D T V} (h : MapB B E w g n D T V) (hb : Below w.heap.size w w') : MapB B E w' g n D T V :=
  h.chg (S := fun _ => False) (Chg.ofBelow hb) (fun q => q) (fun _ _ _ q => q)
theorem MapB.mono {B E E' w g n n' D T V} (h : MapB B E w g n D T V) (hE : E ≤ E') (hn : n ≤ n') : MapB B E' w g n' D T V :=
  ⟨h.own.mono hn, h.yes, h.no, h.ok, fun b hb => by
    obtain ⟨a, m, c, e, ho⟩ := h.rows b hb
    exact ⟨a, m, c, e, ho.mono (Nat.le_refl _) hE⟩, h.far⟩
theorem apart_regions {B E C F : Nat} {w w' : World} {a a' : Option Addr} {m m' c c' : Nat} {xs ys : List Int} (h1 : Own B E w a m c xs) (h2 : Own C F w' a' m' c' ys) (hE : E ≤ C) :
    apart (.slice a m c) (.slice a' m' c') ∧ apart (.slice a' m' c') (.slice a m c) := by
  unfold apart
  rcases h1.cases with ⟨rfl, -⟩ | ⟨k, rfl, k1, k2, -⟩
  · refine ⟨.inl rfl, ?_⟩
    rcases h2.cases with ⟨rfl, -⟩ | ⟨k', rfl, -⟩
    · exact .inl rfl
    · exact .inr (by simp [Value.ownBlock])
  · rcases h2.cases with ⟨rfl, -⟩ | ⟨k', rfl, k1', k2', -⟩
    · exact ⟨.inr (by simp [Value.ownBlock]), .inl rfl⟩
    · exact ⟨.inr (by simp [Value.ownBlock]; omega), .inr (by simp [Value.ownBlock]; omega)⟩
/-- one more, whose piles were made behind all others -/
theorem MapB.put {B E E' w g n D T V} {w' : World} (h : MapB B E w g n D T V) {b : Bk} (hk : BankOk b) {a : Option Addr} {m c : Nat} (ho : Own E E' w' a m c b.p) (hE : E ≤ E') (hB : B ≤ E)
    (hown : w'.ownsMap Tryd.prog 9 Rv g (n + 1) (D.put (.string (bankL b)) (.held (.agg #[.int .i64 b.h, .int .i64 b.l, .slice a m c]))))
    (hrow : ∀ x ∈ T, ∃ a m c, V x = .slice a m c ∧ Own B E w' a m c x.p) :
    MapB B E' w' g (n + 1) (D.put (.string (bankL b)) (.held (.agg #[.int .i64 b.h, .int .i64 b.l, .slice a m c]))) (T ++ [b]) (fun x => if x = b then .slice a m c else V x) := by
  have hkl : WideAt.IsKeyLit (.string (bankL b)) := trivial
  have hm := h.own.isMap
  have hne : ∀ x ∈ T, x ≠ b → (Lit.string (bankL x)) ≠ .string (bankL b) := fun x hx hxb e => by
    injection e with e
    exact hxb (bankL_inj (h.ok x hx) hk e)
  refine ⟨hown, fun x hx => ?_, fun kl hkl2 => ?_, fun x hx => ?_, fun x hx => ?_, fun x hx y hy hxy => ?_⟩
  · by_cases e : x = b
    · subst e
      refine ⟨Maps.has_put_same hm hkl _, fun zd => ?_⟩
      rw [Maps.atKey_put_same hm hkl]
      simp [aggB]
    · have hxT : x ∈ T := by
        rcases List.mem_append.1 hx with q | q
        · exact q
        · exact absurd (List.mem_singleton.1 q) e
      obtain ⟨h1, h2⟩ := h.yes x hxT
      refine ⟨by rw [Maps.has_put_other (hne x hxT e)]; exact h1, fun zd => ?_⟩
      rw [Maps.atKey_put_other (hne x hxT e), h2 zd]
      simp [aggB, e]
  · by_cases e : kl = .string (bankL b)
    · exact ⟨b, by simp, e⟩
    · rw [Maps.has_put_other e] at hkl2
      obtain ⟨x, hx, e2⟩ := h.no kl hkl2
      exact ⟨x, by simp [hx], e2⟩
  · rcases List.mem_append.1 hx with q | q
    · exact h.ok x q
    · rw [List.mem_singleton.1 q]; exact hk
  · by_cases e : x = b
    · subst e
      exact ⟨a, m, c, if_pos rfl, ho.mono hB (Nat.le_refl _)⟩
    · have hxT : x ∈ T := by
        rcases List.mem_append.1 hx with q | q
        · exact q
        · exact absurd (List.mem_singleton.1 q) e
      obtain ⟨a', m', c', e1, e2⟩ := hrow x hxT
      exact ⟨a', m', c', by rw [← e1]; exact if_neg e, e2.mono (Nat.le_refl _) hE⟩
  · have hT : ∀ z, z ∈ T ++ [b] → z ≠ b → z ∈ T := fun z hz e => by
      rcases List.mem_append.1 hz with q | q
      · exact q
      · exact absurd (List.mem_singleton.1 q) e
    have hfar : ∀ z ∈ T, apart (V z) (.slice a m c) ∧ apart (.slice a m c) (V z) := fun z hz => by
      obtain ⟨a', m', c', e1, e2⟩ := hrow z hz
      rw [e1]
      exact apart_regions e2 ho (Nat.le_refl _)
    by_cases e : x = b
    · have e2 : y ≠ b := fun q => hxy (e.trans q.symm)
      show apart (if x = b then _ else V x) (if y = b then _ else V y)
      rw [if_pos e, if_neg e2]
      exact (hfar y (hT y hy e2)).2
    · show apart (if x = b then _ else V x) (if y = b then _ else V y)
      rw [if_neg e]
      by_cases e2 : y = b
      · rw [if_pos e2]; exact (hfar x (hT x hx e)).1
      · rw [if_neg e2]; exact h.far x (hT x hx e) y (hT y hy e2) hxy
/-- cells and rows make a slice of bank states -/
theorem bks_of_cells {B E F B2 E2 : Nat} {w : World} {ao : Option Addr} {p cap : Nat} {V : Bk → Value} {cs : List Bk} (h : Row3 B2 E2 w ao p cap (cellsB V cs)) (hl : cs.length = p) (hB : B ≤ B2) (hE : E ≤ F) (hE2 : E2 ≤ F)
    (hV : ∀ b ∈ cs, ∃ a m c, V b = .slice a m c ∧ Own B E w a m c b.p) (hap : ∀ b ∈ cs, ∀ c ∈ cs, b ≠ c → apart (V b) (V c)) (hn : cs.Nodup) : BksOwn B F w ao p cap cs := by
  have hmem : ∀ i, i < p → cs.getD i noBank ∈ cs := fun i hi => by
    rw [List.getD_eq_getElem?_getD, List.getElem?_eq_getElem (by omega)]
    exact List.getElem_mem _
  refine ⟨cellsB V cs, h.mono hB hE2, hl, fun i hi => ?_, fun i j hij hj => ?_⟩
  · obtain ⟨a, m, c, e, ho⟩ := hV _ (hmem i hi)
    refine ⟨a, m, c, ?_, ?_, ?_, ho.mono (Nat.le_refl _) hE⟩
    · have := cellsB_getD V cs i 0 (by omega) (by omega)
      rw [Nat.add_zero] at this
      rw [this]; rfl
    · rw [cellsB_getD V cs i 1 (by omega) (by omega)]; rfl
    · rw [cellsB_getD V cs i 2 (by omega) (by omega)]; exact e
  · rw [cellsB_getD V cs i 2 (by omega) (by omega), cellsB_getD V cs j 2 (by omega) (by omega)]
    refine hap _ (hmem i (by omega)) _ (hmem j hj) fun e => ?_
    rw [List.getD_eq_getElem?_getD, List.getD_eq_getElem?_getD, List.getElem?_eq_getElem (by omega), List.getElem?_eq_getElem (by omega)] at e
    have := (List.pairwise_iff_getElem.1 hn) i j (by omega) (by omega) hij
    exact this e
/-- which of them have come -/
structure DoneIs (left : Lit → Bool) (S done : List Bk) : Prop where
  nodup : done.Nodup
  sub : ∀ b ∈ done, b ∈ S
  came : ∀ b ∈ S, (left (.string (bankL b)) = true ↔ b ∉ done)
  keys : ∀ kl, left kl = true → ∃ b ∈ S, kl = .string (bankL b)
theorem DoneIs.step {left : Lit → Bool} {S done : List Bk} (h : DoneIs left S done) (hok : ∀ b ∈ S, BankOk b) {b : Bk} (hb : b ∈ S) (hl : left (.string (bankL b)) = true) :
    DoneIs (fun z => left z && !z.sameKey (.string (bankL b))) S (done ++ [b]) := by
  have hnb : b ∉ done := (h.came b hb).1 hl
  have hsame : ∀ x, (Lit.string (bankL x)).sameKey (.string (bankL b)) = decide (bankL x = bankL b) := fun x => by
    by_cases e : bankL x = bankL b
    · rw [e, decide_eq_true rfl]; exact WideAt.sameKey_self trivial
    · rw [decide_eq_false e]
      exact sameKey_ne (fun q => e (by injection q))
  refine ⟨?_, fun x hx => ?_, fun x hx => ?_, fun kl hk => ?_⟩
  · exact List.nodup_append.2 ⟨h.nodup, by simp, fun x hx y hy e => by
      rw [List.mem_singleton] at hy
      subst hy
      subst e
      exact hnb hx⟩
  · rcases List.mem_append.1 hx with q | q
    · exact h.sub x q
    · rw [List.mem_singleton.1 q]; exact hb
  · show (left (.string (bankL x)) && !(Lit.string (bankL x)).sameKey (.string (bankL b))) = true ↔ _
    rw [hsame, Bool.and_eq_true, h.came x hx]
    by_cases e : x = b
    · subst e
      simp
    · have : bankL x ≠ bankL b := fun q => e (bankL_inj (hok x hx) (hok b hb) q)
      simp [this, e]
  · exact h.keys kl (by
      have : (left kl && !kl.sameKey (.string (bankL b))) = true := hk
      rw [Bool.and_eq_true] at this
      exact this.1)
theorem DoneIs.all {left : Lit → Bool} {S done : List Bk} (h : DoneIs left S done) (hl : ∀ kl, left kl = false) : ∀ b, b ∈ done ↔ b ∈ S := fun b => by
  refine ⟨h.sub b, fun hb => ?_⟩
  by_cases q : b ∈ done
  · exact q
  · have := (h.came b hb).2 q
    rw [hl] at this
    cases this
end Go.Proofs.YtnebfojnbjbogaaDoor
