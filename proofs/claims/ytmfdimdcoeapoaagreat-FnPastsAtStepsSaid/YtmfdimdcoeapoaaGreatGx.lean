/- Several texts in one: Lawb, Lawy, Lawz. No condition. -/
import Derived.Test.YtmfdimdcoeapoaaGreatGe
import Derived.Test.YtmfdimdcoeapoaaGreatGl
import Derived.Test.YtmfdimdcoeapoaaGreatFirstI
import Derived.Test.YtmfdimdcoeapoaaGreatGs
namespace Go.Proofs.YtmfdimdcoeapoaaGreat
section
set_option linter.unusedVariables false
set_option linter.unusedSimpArgs false

theorem end_end {xs : List Int} (hg : Good xs) : endL (endL xs) = endL xs := by
  have h := (tail_cyc (endL_good hg)).2 (endL_cyc hg)
  show stepsL (tailL (endL xs)) (endL xs) = endL xs
  rw [h]
  exact steps_none _
theorem basin_end {xs : List Int} (hg : Good xs) : basinL (endL xs) = basinL xs := by
  unfold basinL cycL
  rw [end_end hg, end_sum hg]
theorem basin_cyc {xs : List Int} (hg : Good xs) : (cycL xs).length ≤ basinL xs ∧ basinL xs ≤ 3718 := by
  obtain ⟨s, hs, h28, hC⟩ := cyc_cyclics hg
  have hb : basinL xs = ((allL s).filter fun b => decide (endL b ∈ cycL xs)).length := by unfold basinL; rw [hs]; rfl
  rw [hb]
  constructor
  · refine nodup_len hC.nodup fun x hx => ?_
    have hgx := hC.good x hx
    have hcx := hC.cyc x hx
    rw [List.mem_filter]
    refine ⟨?_, ?_⟩
    · have := mem_allL hgx
      rw [hC.sum x hx] at this
      simpa using this
    · have e : endL x = x := by (show stepsL (tailL x) x = x; rw [(tail_cyc hgx).2 hcx]; exact steps_none _)
      rw [e]; simpa using hx
  · have h1 := List.length_filter_le (fun b => decide (endL b ∈ cycL xs)) (allL s)
    rw [allL_length h28] at h1
    have := cnt_le s (by omega) s (by omega)
    omega
def oneRing (n : Nat) : Bool := (choiceL (hgt n + 1) (n - tri (hgt n))).all fun bs => ((choiceL (hgt n + 1) (n - tri (hgt n))).filter isFirstB).countP (fun f => decide (bs ∈ ringB f)) == 1
theorem one_ring : ∀ n, n < 29 → oneRing n = true := by decide +kernel
theorem swap_one {α β : Type} (A : List β) (P : α → β → Bool) : ∀ ps : List α, (∀ p ∈ ps, A.countP (P p) = 1) → (A.map fun a => (((ps.filter fun p => P p a).length : Nat) : Int)).sum = ps.length
  | [], _ => by
    have : ∀ A : List β, (A.map fun a => (((([] : List α).filter fun p => P p a).length : Nat) : Int)).sum = 0 := fun A => by
      induction A with
      | nil => rfl
      | cons a A ih => rw [List.map_cons, List.sum_cons, ih]; rfl
    exact this A
  | p :: ps, h => by
    have ih := swap_one A P ps (fun q hq => h q (by simp [hq]))
    have h1 : ∀ A : List β, (A.map fun a => ((((p :: ps).filter fun p => P p a).length : Nat) : Int)).sum = (A.countP (P p) : Int) + (A.map fun a => (((ps.filter fun p => P p a).length : Nat) : Int)).sum := fun A => by
      induction A with
      | nil => rfl
      | cons a A ih =>
        rw [List.map_cons, List.sum_cons, ih, List.countP_cons, List.map_cons, List.sum_cons]
        cases hp : P p a
        · rw [List.filter_cons_of_neg (by simp [hp])]; simp; omega
        · rw [List.filter_cons_of_pos (by simp [hp]), List.length_cons]; simp; omega
    rw [h1, ih, h p (by simp), List.length_cons]; omega
theorem choice_GB {n : Nat} (h : n ≤ 28) {bs : List Int} (hb : bs ∈ choiceL (hgt n + 1) (n - tri (hgt n))) : GB bs := by
  obtain ⟨h1, h2, h3⟩ := choice_good n (by omega) bs hb
  exact ⟨(choice_row _ _ bs hb).2, h3, h1.2.2⟩
theorem first_once {n : Nat} (h : n ≤ 28) {p : List Int} (hp : p ∈ allC n) : (firstsL n).countP (fun b => decide (p ∈ cycL b)) = 1 := by
  unfold allC at hp
  obtain ⟨bs, hb, rfl⟩ := List.mem_map.1 hp
  have h1 := one_ring n (by omega)
  unfold oneRing at h1
  have h2 := List.all_eq_true.1 h1 bs hb
  rw [beq_iff_eq] at h2
  unfold firstsL
  rw [List.countP_map]
  refine (List.countP_congr fun f hf => ?_).trans h2
  have hfG := choice_GB h (List.mem_filter.1 hf).1
  have hbG := choice_GB h hb
  simp only [Function.comp, decide_eq_true_iff]
  rw [cycle_bits hfG]
  exact mem_bits hbG (ringB_GB hfG)
theorem firsts_good {n : Nat} (h : n ≤ 28) {b : List Int} (hb : b ∈ firstsL n) : Good b ∧ b.sum = n ∧ Cyc b := allC_good h (firsts_sub h hb)
theorem basins_add {n : Nat} (h : n ≤ 28) (hall : ∀ x, Good x → Cyc x → x.sum = n → x ∈ allC n) : ((firstsL n).map fun b => ((basinL b : Nat) : Int)).sum = ((allL n).length : Int) := by
  rw [← swap_one (firstsL n) (fun p b => decide (endL p ∈ cycL b)) (allL n) (fun p hp => by
    obtain ⟨hg, hs⟩ := allL_good h hp
    exact first_once h (hall _ (endL_good hg) (endL_cyc hg) (by rw [end_sum hg, hs])))]
  congr 1
  refine List.map_congr_left fun b hb => ?_
  obtain ⟨_, hs, _⟩ := firsts_good h hb
  unfold basinL
  rw [hs]; rfl
/-- the sum of the first k basins -/
def basS (l : List (List Int)) (k : Nat) : Int := ((l.take k).map fun b => ((basinL b : Nat) : Int)).sum
theorem basS_succ {l : List (List Int)} {k : Nat} (h : k < l.length) : basS l (k + 1) = basS l k + (basinL (l.getD k []) : Int) := by
  unfold basS
  have e : l.take (k + 1) = l.take k ++ [l.getD k []] := by
    rw [List.take_add_one, List.getD_eq_getElem?_getD, List.getElem?_eq_getElem h]; rfl
  rw [e, List.map_append, List.sum_append]; simp
theorem basS_le (l : List (List Int)) (k : Nat) : 0 ≤ basS l k ∧ basS l k ≤ (l.map fun b => ((basinL b : Nat) : Int)).sum := by
  have h0 : ∀ m : List (List Int), 0 ≤ (m.map fun b => ((basinL b : Nat) : Int)).sum := fun m => by
    induction m with
    | nil => exact Int.le_refl _
    | cons a m ih => rw [List.map_cons, List.sum_cons]; omega
  have := congrArg (fun m : List (List Int) => (m.map fun b => ((basinL b : Nat) : Int)).sum) (List.take_append_drop k l)
  simp only [List.map_append, List.sum_append] at this
  have h1 := h0 (l.take k)
  have h2 := h0 (l.drop k)
  unfold basS
  omega
end
end Go.Proofs.YtmfdimdcoeapoaaGreat
namespace Go.Proofs.YtmfdimdcoeapoaaGreat
section
set_option linter.unusedVariables false
set_option linter.unusedSimpArgs false

theorem range_getD {α : Type} (f : Nat → α) (N i : Nat) (d : α) (h : i < N) : ((List.range N).map f).getD i d = f i := by
  rw [List.getD_eq_getElem?_getD, List.getElem?_map, List.getElem?_range h]; rfl
theorem line_facts {xs : List Int} (hg : Good xs) : (lineL xs).length = lineN xs + 1 ∧ (lineL xs).getD 0 [] = xs ∧
    (∀ i, i < lineN xs → goodB ((lineL xs).getD (i + 1) []) = true ∧ stepL ((lineL xs).getD (i + 1) []) = (lineL xs).getD i [] ∧ mFirstPast ((lineL xs).getD i []) = ((lineL xs).getD (i + 1) [], true) ∧ (goodB ((lineL xs).getD (i + 1) []) && cycB ((lineL xs).getD (i + 1) [])) = false) ∧
    mFirstPast ((lineL xs).getD (lineN xs) []) = ([], false) := by
  obtain ⟨h1, h2, h3⟩ := lineN_spec hg
  have hat : ∀ i, i ≤ lineN xs → (lineL xs).getD i [] = lineE xs i := fun i hi => by
    unfold lineL lineTo; exact range_getD _ _ _ _ (by omega)
  refine ⟨by unfold lineL; rw [lineTo_length], by rw [hat 0 (by omega)]; rfl, fun i hi => ?_, ?_⟩
  · rw [hat (i + 1) (by omega), hat i (by omega)]
    have hgi := lineE_good hg (t := i) (fun u hu => h3 u (by omega))
    have hmem := loose_head (h3 i hi)
    obtain ⟨m1, m2, m3⟩ := (mem_loose hgi).1 hmem
    have e : lineE xs (i + 1) = (loosePasts (lineE xs i)).headD [] := rfl
    rw [e]
    refine ⟨good_iff.2 m1, m2, mFP_yes (good_iff.2 hgi) (h3 i hi), ?_⟩
    have : cycB ((loosePasts (lineE xs i)).headD []) = false := by
      have := (List.mem_filter.1 (show _ ∈ (pastsL (lineE xs i)).filter (fun p => !cycB p) from hmem)).2
      simpa using this
    rw [this, Bool.and_false]
  · rw [hat _ (Nat.le_refl _)]
    exact mFP_no2 h2

/-! ### Tables -/
theorem sum_one {f : Nat → Int} (N k : Nat) (h : k < N) : ((List.range N).map fun d => if k = d then f d else 0).sum = f k := by
  induction N with
  | zero => omega
  | succ N ih =>
    rw [List.range_succ, List.map_append, List.sum_append]
    simp only [List.map_cons, List.map_nil, List.sum_cons, List.sum_nil, Int.add_zero]
    by_cases hk : k = N
    · subst hk
      rw [if_pos rfl]
      have : ((List.range k).map fun d => if k = d then f d else 0).sum = 0 := by
        have e : ((List.range k).map fun d => if k = d then f d else 0) = (List.range k).map fun _ => (0 : Int) := List.map_congr_left fun d hd => if_neg (by have := List.mem_range.1 hd; omega)
        rw [e]
        have : ∀ m : Nat, ((List.range m).map fun _ => (0 : Int)).sum = 0 := fun m => by
          induction m with
          | zero => rfl
          | succ m ih => rw [List.range_succ, List.map_append, List.sum_append, ih]; rfl
        exact this k
      omega
    · rw [if_neg hk, ih (by omega)]; omega
theorem sum_addf (f g : Nat → Int) (N : Nat) : ((List.range N).map fun d => f d + g d).sum = ((List.range N).map f).sum + ((List.range N).map g).sum := by
  induction N with
  | zero => rfl
  | succ N ih =>
    simp only [List.range_succ, List.map_append, List.sum_append, List.map_cons, List.map_nil, List.sum_cons, List.sum_nil] at *
    omega
theorem tab_sums (f : List Int → Nat) (c : Nat → Int) (N : Nat) : ∀ l : List (List Int), (∀ x ∈ l, f x < N) → ((List.range N).map fun d => c d * ((l.countP fun x => decide (f x = d) : Nat) : Int)).sum = (l.map fun x => c (f x)).sum
  | [], _ => by
    have : ∀ m : Nat, ((List.range m).map fun d => c d * (((([] : List (List Int)).countP fun x => decide (f x = d)) : Nat) : Int)).sum = 0 := fun m => by
      induction m with
      | zero => rfl
      | succ m ih => rw [List.range_succ, List.map_append, List.sum_append, ih]; simp
    exact this N
  | x :: l, h => by
    have ih := tab_sums f c N l (fun y hy => h y (by simp [hy]))
    have e : ((List.range N).map fun d => c d * (((x :: l).countP fun y => decide (f y = d) : Nat) : Int)) = (List.range N).map fun d => (if f x = d then c d else 0) + c d * ((l.countP fun y => decide (f y = d) : Nat) : Int) := by
      refine List.map_congr_left fun d _ => ?_
      rw [List.countP_cons]
      by_cases hd : f x = d
      · simp only [hd, decide_true, if_true]
        rw [Int.natCast_add, Int.mul_add]; simp; omega
      · simp [hd]
    rw [e, sum_addf, ih, sum_one N (f x) (h x (by simp)), List.map_cons, List.sum_cons]
theorem tab_sum {f : List Int → Nat} {l : List (List Int)} : (tabT f l).sum = (l.length : Int) := by
  have h := tab_sums f (fun _ => 1) (topT f l) l (fun x hx => topT_le hx)
  unfold tabT
  have e : ((List.range (topT f l)).map fun d => ((l.countP fun x => decide (f x = d) : Nat) : Int)) = (List.range (topT f l)).map fun d => (1 : Int) * ((l.countP fun x => decide (f x = d) : Nat) : Int) := List.map_congr_left fun d _ => by rw [Int.one_mul]
  rw [e, h]
  have : ∀ m : List (List Int), (m.map fun _ => (1 : Int)).sum = m.length := fun m => by
    induction m with
    | nil => rfl
    | cons x m ih => rw [List.map_cons, List.sum_cons, ih, List.length_cons]; omega
  exact this l
/-- a table's places, each times what stands there -/
def wsT (t : List Int) (k : Nat) : Int := ((List.range k).map fun (d : Nat) => (d : Int) * t.getD d 0).sum
theorem wsT_succ (t : List Int) (k : Nat) : wsT t (k + 1) = wsT t k + (k : Int) * t.getD k 0 := by
  unfold wsT; rw [List.range_succ, List.map_append, List.sum_append]; simp
theorem tab_wsum {f : List Int → Nat} {l : List (List Int)} : wsT (tabT f l) (tabT f l).length = (l.map fun x => ((f x : Nat) : Int)).sum := by
  have h := tab_sums f (fun d => (d : Int)) (topT f l) l (fun x hx => topT_le hx)
  unfold wsT
  rw [← h, tabT_length]
  congr 1
  refine List.map_congr_left fun d hd => ?_
  rw [tabT_getD]
theorem ones_sum {A : List (List Int)} (hA : A.Nodup) {y : List Int} (hy : y ∈ A) : (A.map fun a => if y = a then (1 : Int) else 0).sum = 1 := by
  induction A with
  | nil => cases hy
  | cons a A ih =>
    rw [List.map_cons, List.sum_cons]
    obtain ⟨h1, h2⟩ := List.nodup_cons.1 hA
    by_cases e : y = a
    · rw [if_pos e]
      have : (A.map fun b => if y = b then (1 : Int) else 0).sum = 0 := by
        have hn : y ∉ A := by rw [e]; exact h1
        clear ih hA hy h1 h2
        induction A with
        | nil => rfl
        | cons b B ih =>
          rw [List.map_cons, List.sum_cons, if_neg (fun e => hn (by simp [e])), ih (fun h => hn (by simp [h]))]; rfl
      omega
    · rw [if_neg e, ih h2 ((List.mem_cons.1 hy).resolve_left e)]; omega
theorem sum_addl (f g : List Int → Int) (A : List (List Int)) : (A.map fun a => f a + g a).sum = (A.map f).sum + (A.map g).sum := by
  induction A with
  | nil => rfl
  | cons a A ih => simp only [List.map_cons, List.sum_cons, ih]; omega
theorem steps_swap {A : List (List Int)} (hA : A.Nodup) : ∀ ps : List (List Int), (∀ p ∈ ps, stepL p ∈ A) → (A.map fun a => (((ps.filter fun p => decide (stepL p = a)).length : Nat) : Int)).sum = ps.length
  | [], _ => by
    have : ∀ A : List (List Int), (A.map fun a => (((([] : List (List Int)).filter fun p => decide (stepL p = a)).length : Nat) : Int)).sum = 0 := fun A => by
      induction A with
      | nil => rfl
      | cons a A ih => rw [List.map_cons, List.sum_cons, ih]; rfl
    exact this A
  | p :: ps, h => by
    have ih := steps_swap hA ps (fun q hq => h q (by simp [hq]))
    have e : (A.map fun a => ((((p :: ps).filter fun p => decide (stepL p = a)).length : Nat) : Int)) = A.map fun a => (if stepL p = a then (1 : Int) else 0) + (((ps.filter fun p => decide (stepL p = a)).length : Nat) : Int) := by
      refine List.map_congr_left fun a _ => ?_
      by_cases ha : stepL p = a
      · rw [List.filter_cons_of_pos (by simpa using ha), if_pos ha, List.length_cons]; omega
      · rw [List.filter_cons_of_neg (by simpa using ha), if_neg ha]; omega
    rw [e, sum_addl, ih, ones_sum hA (h p (by simp)), List.length_cons]; omega
theorem pasts_all {n : Nat} (hn : n ≤ 28) : ((allL n).map fun x => ((pasN x : Nat) : Int)).sum = ((allL n).length : Int) := by
  have hnd := nodup_of_bef (allL_up n)
  rw [← steps_swap hnd (allL n) (fun p hp => by
    obtain ⟨hg, hs⟩ := allL_good hn hp
    have := mem_allL (stepL_good hg)
    rw [stepL_sum hg.1, hs] at this
    simpa using this)]
  congr 1
  refine List.map_congr_left fun x hx => ?_
  obtain ⟨hg, hs⟩ := allL_good hn hx
  have := pasts_count hg
  rw [hs] at this
  simp only [Int.toNat_natCast] at this
  unfold pasN
  rw [this]
theorem gard_iff {x : List Int} (hg : Good x) : gardB x = decide (pasN x = 0) := by
  by_cases hx : x = []
  · subst hx; rfl
  · unfold gardB pasN
    have hd : x.headD 0 = x.getD 0 0 := by cases x <;> rfl
    have hl : 0 < x.length := List.length_pos_iff.2 hx
    have hmx : ∀ y ∈ x, y ≤ x.headD 0 := by
      cases x with
      | nil => exact absurd rfl hx
      | cons a r =>
        intro y hy
        show y ≤ a
        rcases List.mem_cons.1 hy with rfl | hy
        · exact Int.le_refl _
        · exact (List.pairwise_cons.1 hg.2.1).1 y hy
    rw [decide_eq_true hx, Bool.true_and, decide_eq_decide]
    constructor
    · intro hlt
      rw [List.length_eq_zero_iff]
      rw [List.eq_nil_iff_forall_not_mem]
      intro p hp
      obtain ⟨e, hgp⟩ := pasts_sound hg hp
      by_cases hpn : p = []
      · subst hpn; rw [stepL_nil] at e; exact hx e.symm
      · rw [stepL_cons hpn] at e
        have hmem : (p.length : Int) ∈ x := by
          rw [← e]; exact (sortD_perm _).mem_iff.2 (by simp)
        have hlen : x.length ≤ p.length + 1 := by
          rw [← e, sortD_length, List.length_append]
          have := lowL_length p
          simp; omega
        have := hmx _ hmem
        omega
    · intro h0
      have h0 := List.length_eq_zero_iff.1 h0
      rcases Int.lt_or_le (x.headD 0) ((x.length : Int) - 1) with h | h
      · exact h
      · exfalso
        have hm : x.headD 0 ∈ x := by
          cases x with
          | nil => exact absurd rfl hx
          | cons a r => exact List.mem_cons_self
        have := mem_pasts hm h
        rw [h0] at this; cases this
theorem gard_count {n : Nat} (hn : n ≤ 28) : (pasT n).getD 0 0 = (((gardL n).length : Nat) : Int) := by
  unfold pasT
  rw [tabT_getD]
  unfold gardL
  rw [List.countP_eq_length_filter]
  have : (allL n).filter (fun x => decide (pasN x = 0)) = (allL n).filter gardB := List.filter_congr fun x hx => (gard_iff (allL_good hn hx).1).symm
  rw [this]
theorem pasT_facts {n : Nat} (hn : n ≤ 28) : (pasT n).sum = ((allL n).length : Int) ∧ wsT (pasT n) (pasT n).length = ((allL n).length : Int) ∧ 1 ≤ (pasT n).length ∧ (pasT n).length ≤ 30 ∧ (∀ d, 0 ≤ (pasT n).getD d 0 ∧ (pasT n).getD d 0 ≤ 3718) ∧ (∀ k, k ≤ (pasT n).length → 0 ≤ wsT (pasT n) k ∧ wsT (pasT n) k ≤ 3718) := by
  have h2 : wsT (pasT n) (pasT n).length = ((allL n).length : Int) := by unfold pasT; rw [tab_wsum]; exact pasts_all hn
  have h8 := allL_le hn
  have hv : ∀ d, 0 ≤ (pasT n).getD d 0 ∧ (pasT n).getD d 0 ≤ 3718 := fun d => by
    have := tabT_val pasN (allL n) d
    unfold pasT; omega
  have hmono : ∀ k : Nat, 0 ≤ (k : Int) * (pasT n).getD k 0 := fun k => Int.mul_nonneg (by omega) (hv k).1
  have h0 : ∀ k : Nat, 0 ≤ wsT (pasT n) k := fun k => by
    induction k with
    | zero => exact Int.le_refl _
    | succ k ih => rw [wsT_succ]; have := hmono k; omega
  have hup : ∀ k d : Nat, wsT (pasT n) k ≤ wsT (pasT n) (k + d) := fun k d => by
    induction d with
    | zero => exact Int.le_refl _
    | succ d ih => rw [← Nat.add_assoc, wsT_succ]; have := hmono (k + d); omega
  refine ⟨by unfold pasT; exact tab_sum, h2, ?_, ?_, hv, fun k hk => ⟨h0 k, ?_⟩⟩
  · have : allL n ≠ [] := fun e => by
      have := allL_length hn
      rw [e] at this
      have h1 : ∀ m, m < 29 → 1 ≤ cnt m m := by decide +kernel
      have := h1 n (by omega)
      simp at *
      omega
    cases hl : allL n with
    | nil => exact absurd hl this
    | cons x l =>
      have := topT_le (f := pasN) (l := allL n) (x := x) (by rw [hl]; exact List.mem_cons_self)
      unfold pasT; rw [tabT_length]; omega
  · unfold pasT; exact tabT_le fun x hx => by have := pasN_le (allL_good hn hx).1; omega
  · have := hup k ((pasT n).length - k)
    rw [show k + ((pasT n).length - k) = (pasT n).length by omega, h2] at this
    omega
theorem garden_facts {n : Nat} (hn : n ≤ 28) : ordB (gardL n) = true ∧ ∀ i, i < (gardL n).length → Good ((gardL n).getD i []) ∧ 1 ≤ ((gardL n).getD i []).length ∧ ((gardL n).getD i []).getD 0 0 < (((gardL n).getD i []).length : Int) - 1 ∧ ((gardL n).getD i []).sum = n := by
  refine ⟨ordB_of ((allL_up n).filter _), fun i hi => ?_⟩
  have hm : (gardL n).getD i [] ∈ gardL n := by rw [List.getD_eq_getElem?_getD, List.getElem?_eq_getElem hi]; exact List.getElem_mem _
  generalize (gardL n).getD i [] = g at *
  obtain ⟨h1, h2⟩ := List.mem_filter.1 hm
  obtain ⟨hg, hs⟩ := allL_good hn h1
  unfold gardB at h2
  rw [Bool.and_eq_true, decide_eq_true_iff, decide_eq_true_iff] at h2
  refine ⟨hg, List.length_pos_iff.2 h2.1, ?_, hs⟩
  have : g.getD 0 0 = g.headD 0 := by cases g <;> rfl
  rw [this]; exact h2.2

/-! ### Tables of tails, and piles that come to others -/
theorem past_of {x y : List Int} (hx : goodB x = true) (hy : goodB y = true) : (∃ k : Nat, mIsPastOf x y = ((k : Int), true) ∧ k ≤ tailL x + 8 ∧ stepsL k x = y ∧ ∀ i, i < k → stepsL i x ≠ y) ∨ mIsPastOf x y = (0, false) := by
  by_cases h : ∃ k, k < tailL x + perL (endL x) ∧ stepsL k x = y
  · obtain ⟨m, hm1, hm2⟩ := least_hole (fun k => k < tailL x + perL (endL x) ∧ stepsL k x = y) _ h.choose_spec
    left
    have hno : ∀ i, i < m → stepsL i x ≠ y := fun i hi e => hm2 i hi ⟨by omega, e⟩
    have hg := good_iff.1 hx
    have h1 := (perL_spec (endL_good hg) (endL_cyc hg)).2.1
    have h2 := hL_le (endL x)
    exact ⟨m, mIPO_yes hx hy hm1.2 hno hm1.1, by omega, hm1.2, hno⟩
  · exact .inr (mIPO_none hx hy fun k hk e => h ⟨k, hk, e⟩)
theorem levN_long {c : List (List Int)} {n : Nat} (h : AllCyc c n) : 1 ≤ levN c ∧ (longF (allL n)).1 = ((levN c : Nat) : Int) - 1 := by
  obtain ⟨M, h1, h2, h3, _, _⟩ := long_lev h
  have hN : M + 1 = levN c := levN_unique h.toCyclics.roots h3 (fun t ht e => h2 (by
    have := levR_stop e (M - t)
    rwa [show t + (M - t) = M by omega] at this))
  rw [← hN]
  exact ⟨by omega, by rw [h1]; omega⟩
theorem depT_facts {c : List (List Int)} {n : Nat} (h : AllCyc c n) (hne : c ≠ []) : (depT n).sum = ((allL n).length : Int) ∧ 1 ≤ (depT n).length ∧ ((depT n).length : Int) = (longF (allL n)).1 + 1 ∧ (depT n).length ≤ 3719 ∧ (depT n).getD 0 0 = (c.length : Int) ∧ (∀ d, d < (depT n).length → 1 ≤ (depT n).getD d 0) ∧ (∀ d, 0 ≤ (depT n).getD d 0 ∧ (depT n).getD d 0 ≤ 3718) := by
  obtain ⟨h1, h2⟩ := levN_long h
  obtain ⟨h3, h4, h5⟩ := levN_spec h.toCyclics.roots
  have e := depT_levs h hne
  have hl : (depT n).length = levN c := by rw [e, List.length_map, levs_length]
  have hat : ∀ d, d < levN c → (depT n).getD d 0 = ((levL c d).length : Int) := fun d hd => by
    rw [e]
    unfold levs
    rw [List.map_map]
    exact range_getD _ _ _ _ hd
  refine ⟨by unfold depT; exact tab_sum, by omega, by omega, by omega, ?_, fun d hd => ?_, fun d => ?_⟩
  · rw [hat 0 (by omega)]; rfl
  · rw [hat d (by omega)]
    have := h5 d (by omega)
    have := List.length_pos_iff.2 this
    omega
  · have := tabT_val tailL (allL n) d
    have := allL_le h.toCyclics.small
    unfold depT; omega

/-! ### Pasts at some steps -/
def pasS (l : List (List Int)) (k : Nat) : Int := ((l.take k).map fun b => ((pasN b : Nat) : Int)).sum
theorem pasS_succ {l : List (List Int)} {k : Nat} (h : k < l.length) : pasS l (k + 1) = pasS l k + (pasN (l.getD k []) : Int) := by
  unfold pasS
  have e : l.take (k + 1) = l.take k ++ [l.getD k []] := by
    rw [List.take_add_one, List.getD_eq_getElem?_getD, List.getElem?_eq_getElem h]; rfl
  rw [e, List.map_append, List.sum_append]; simp
theorem pasS_all {l : List (List Int)} : pasS l l.length = ((l.flatMap pastsL).length : Int) := by
  unfold pasS
  rw [List.take_length]
  induction l with
  | nil => rfl
  | cons a l ih => rw [List.map_cons, List.sum_cons, ih, List.flatMap_cons, List.length_append]; unfold pasN; omega
theorem at_facts {xs : List Int} (hg : Good xs) {k : Nat} (hk : k ≤ 60) : ordB (atL xs k) = true ∧ (∀ i, i < (atL xs k).length → goodB ((atL xs k).getD i []) = true ∧ stepsL k ((atL xs k).getD i []) = xs ∧ pasN ((atL xs k).getD i []) ≤ 29) ∧ pasS (atL xs k) (atL xs k).length = ((atL xs (k + 1)).length : Int) ∧ (atL xs k).length ≤ 3718 ∧ (atL xs (k + 1)).length ≤ 3718 := by
  refine ⟨ordB_of (srt_up (lvA_nodup hg k)), fun i hi => ?_, ?_, atL_le hg k, atL_le hg (k + 1)⟩
  · have hm : (atL xs k).getD i [] ∈ atL xs k := by rw [List.getD_eq_getElem?_getD, List.getElem?_eq_getElem hi]; exact List.getElem_mem _
    obtain ⟨h1, h2⟩ := (mem_lvA hg k _).1 (srt_mem.1 hm)
    exact ⟨good_iff.2 h1, h2, pasN_le h1⟩
  · rw [pasS_all, atL_succ, srt_length]
end
end Go.Proofs.YtmfdimdcoeapoaaGreat
namespace Go.Proofs.YtmfdimdcoeapoaaGreat
section
open Go.RowKit
set_option linter.unusedVariables false
set_option linter.unusedSimpArgs false

end
end Go.Proofs.YtmfdimdcoeapoaaGreat
