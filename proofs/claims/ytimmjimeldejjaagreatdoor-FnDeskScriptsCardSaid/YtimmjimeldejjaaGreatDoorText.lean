/- Texts of numbers and of piles. No condition but sizes. -/
import Derived.Test.YtimmjimeldejjaaGreatDoorPileA
import Derived.Test.YtimmjimeldejjaaGreatDoorHelpA
import Derived.Test.YtimmjimeldejjaaGreatDoorShelf
import Derived.Lib.ItoaNum
import Derived.Laws.BytesString
import Derived.Laws.Concat
import Derived.IntWalk
import Derived.Lib.Join
namespace Go.Proofs.YtimmjimeldejjaaGreatDoor
open Go.RowKit
set_option linter.unusedVariables false
set_option linter.unusedSimpArgs false

theorem isPilesT_yes (ao : Option Addr) (n cap : Nat) (xs : List Int) (w : World) (h : IntsAt w ao n cap xs) (hg : Good xs) :
    Calls Tryz.prog 14 #[.slice ao n cap] w fun e w' => e = .returned (.bool true) ∧ w = w' := by
  have := isPiles_any ao n cap xs w h; rw [good_iff.2 hg] at this; exact this
theorem isPilesT_no (ao : Option Addr) (n cap : Nat) (xs : List Int) (w : World) (h : IntsAt w ao n cap xs) (hg : goodB xs = false) :
    Calls Tryz.prog 14 #[.slice ao n cap] w fun e w' => e = .returned (.bool false) ∧ w = w' := by
  have := isPiles_any ao n cap xs w h; rw [hg] at this; exact this
theorem piGoodT_yes (ao : Option Addr) (n cap : Nat) (xs : List Int) (w : World) (h : IntsAt w ao n cap xs) (hg : Good xs) :
    Calls Tryz.prog 39 #[.slice ao n cap] w fun e w' => e = .returned (.bool true) ∧ w = w' := by
  have := piGood_any ao n cap xs w h; rw [good_iff.2 hg] at this; exact this
theorem piGoodT_no (ao : Option Addr) (n cap : Nat) (xs : List Int) (w : World) (h : IntsAt w ao n cap xs) (hg : goodB xs = false) :
    Calls Tryz.prog 39 #[.slice ao n cap] w fun e w' => e = .returned (.bool false) ∧ w = w' := by
  have := piGood_any ao n cap xs w h; rw [hg] at this; exact this

theorem digit_back (w : World) (d : Nat) (hd : d < 10) : (convert 22 9 (.slice (some ⟨w.heap.size, 0, none⟩) 1 1)).run Tryz.prog (w.alloc (.cells #[.int .u8 ((48 : Int) + (d : Int))] 5)) = .ok (.string ⟨#[UInt8.ofNat (48 + d)]⟩) (w.alloc (.cells #[.int .u8 ((48 : Int) + (d : Int))] 5)) := by
  have := run_convert_bytes_back (P := Tryz.prog) (w.alloc (.cells #[.int .u8 ((48 : Int) + (d : Int))] 5)) 22 9 5 ⟨w.heap.size, 0, none⟩ 1 [UInt8.ofNat (48 + d)] Tryz.underlying22 Tryz.underlying5 Tryz.underlying9 (fun j hj => by
    obtain rfl : j = 0 := by simp at hj; omega
    rw [Addr.add_lit, World.cell?_alloc_at _ _ _ _ rfl]
    simp
    omega)
  exact this

set_option maxHeartbeats 800000 in
theorem ofNat48 (d : Nat) : (48 : UInt8) + UInt8.ofNat d = UInt8.ofNat (48 + d) := by rw [UInt8.ofNat_add]; rfl
theorem digit_backW (W : World) (g d : Nat) (hd : d < 10) (hc : W.cell? ⟨g, 0, none⟩ = some (.int .u8 ((48 : Int) + (d : Int)))) : (convert 22 9 (.slice (some ⟨g, 0, none⟩) 1 1)).run Tryz.prog W = .ok (.string ⟨#[UInt8.ofNat (48 + d)]⟩) W := by
  have := run_convert_bytes_back (P := Tryz.prog) W 22 9 5 ⟨g, 0, none⟩ 1 [UInt8.ofNat (48 + d)] Tryz.underlying22 Tryz.underlying5 Tryz.underlying9 (fun j hj => by
    obtain rfl : j = 0 := by simp at hj; omega
    rw [Addr.add_lit, hc]
    simp
    omega)
  exact this
theorem belAlloc (w : World) (o : Obj) : Below w.heap.size w (w.alloc o) := (Below.refl _ _).alloc (Nat.le_refl _) o

set_option maxRecDepth 100000 in
theorem l1Num_small (d : Nat) (w : World) (hd : d < 10) :
    Calls Tryz.prog 55 #[.int .i64 d] w fun e w' => e = .returned (.string ⟨(Lib.decDigits d).toArray⟩) ∧ Below w.heap.size w w' := by
  have hb := digit_back w d hd
  have he := Lib.decDigits_one hd
  have He := Lib.hid he; clear he
  go_enter Tryz.func55, Tryz.ntmps55
  go_wp2_with fail
  go_ret
  exact ⟨by rw [He.out, ← ofNat48]; rfl, belAlloc w _⟩

theorem nDigits_le (N : Nat) : ∀ q, q ≤ N → Lib.nDigits q ≤ q + 1 := by
  induction N with
  | zero => intro q h; obtain rfl : q = 0 := by omega
            rw [Lib.nDigits]; simp
  | succ N ih =>
    intro q h
    rw [Lib.nDigits]
    split
    · omega
    · have := ih (q / 10) (by omega); omega
set_option maxHeartbeats 1600000 in
set_option maxRecDepth 100000 in
theorem l1Num_any (N : Nat) : ∀ (n : Nat) (w : World), n ≤ N → n ≤ 999999999 →
    Calls Tryz.prog 55 #[.int .i64 n] w fun e w' => e = .returned (.string ⟨(Lib.decDigits n).toArray⟩) ∧ Below w.heap.size w w' := by
  induction N with
  | zero =>
    intro n w h1 _
    exact l1Num_small n w (by omega)
  | succ N ih =>
    intro n w h1 h2
    by_cases hd : n < 10
    · exact l1Num_small n w hd
    · have hlt : ¬ ((n : Int) < 10) := by omega
      have hih := fun W => ih (n / 10) W (by omega) (by omega)
      have hrec : Lib.decDigits n = Lib.decDigits (n / 10) ++ [UInt8.ofNat (48 + n % 10)] := by rw [Lib.decDigits, dif_neg hd]
      have hm : n % 10 < 10 := by omega
      have e1 : IntKind.i64.wrap ((n : Int) / 10) = ((n / 10 : Nat) : Int) := by rw [IntWalk.i64_in _ (by omega)]; omega
      have e2 : (n : Int).tmod 10 = ((n % 10 : Nat) : Int) := by rw [Int.tmod_eq_emod_of_nonneg (by omega)]; omega
      have hlen := Lib.decDigits_length (n / 10)
      generalize hD : Lib.decDigits (n / 10) = D at *
      generalize hm' : n % 10 = m at *
      generalize hq' : n / 10 = q at *
      have e3 : IntKind.i64.wrap ((48 : Int) + (m : Int)) = (48 : Int) + (m : Int) := IntWalk.i64_in _ (by omega)
      have e4 : IntKind.u8.wrap ((48 : Int) + (m : Int)) = (48 : Int) + (m : Int) := IntWalk.u8_in _ (by omega)
      have hDl : D.length ≤ 1000000000 := by have := nDigits_le q q (Nat.le_refl _); omega
      have hno : ¬ (9223372036854775807 < D.length + 1) := by omega
      have hw1 : ∀ W : World, (W.alloc (.cells #[.int .u8 ((48 : Int) + (m : Int))] 5)).cell? ⟨W.heap.size, 0, none⟩ = some (.int .u8 ((48 : Int) + (m : Int))) := fun W => by rw [World.cell?_alloc_at _ _ _ _ rfl]; rfl
      have hW0 : (w.alloc (.cells #[.int .u8 ((48 : Int) + (m : Int))] 5)).drew.cell? ⟨w.heap.size, 0, none⟩ = some (.int .u8 ((48 : Int) + (m : Int))) := hw1 w
      have hc0 := digit_backW _ w.heap.size m hm hW0
      have hbd : Below w.heap.size w (w.alloc (.cells #[.int .u8 ((48 : Int) + (m : Int))] 5)).drew := belowDrewN (belAlloc w _) 1
      have hbr : Below w.heap.size w w.drew := belowDrewN (Below.refl _ _) 1
      have Hih := Lib.hid hih; clear hih
      have Hrec := Lib.hid hrec; clear hrec
      have HD := Lib.hid hD; clear hD
      have Hm' := Lib.hid hm'; clear hm'
      have Hq' := Lib.hid hq'; clear hq'
      have Hlen := Lib.hid hlen; clear hlen
      go_enter Tryz.func55, Tryz.ntmps55
      go_wp2_with fail
      go_region_law (first | (go_simp; with_reducible refine (Hih.out w.drew).mono ?_; rintro e w1 ⟨rfl, hb1⟩; have hc1 := digit_backW _ w1.heap.size m hm (hw1 w1); have hfin : Below w.heap.size w (w1.alloc (.cells #[.int .u8 ((48 : Int) + (m : Int))] 5)) := (belowTrans hbr hb1 (Nat.le_refl _)).alloc (belowTrans hbr hb1 (Nat.le_refl _)).size _) | (go_simp; with_reducible refine (Hih.out (w.alloc (.cells #[.int .u8 ((48 : Int) + (m : Int))] 5)).drew).mono ?_; rintro e w1 ⟨rfl, hb1⟩; have hc1 := digit_backW w1 w.heap.size m hm (by rw [hb1.cell (p := ⟨w.heap.size, 0, none⟩) (by simp)]; exact hW0); have hfin : Below w.heap.size w w1 := belowTrans hbd hb1 (Nat.le_refl _)))
      all_goals
        clear e1 e2 e3 e4 hno
        go_wp2
        go_ret
        exact ⟨by rw [Hrec.out, ← ofNat48]; exact congrArg Ending.returned (congrArg Value.string (ByteArray.mk_append_mk _ _)), hfin⟩

/-! ### Texts of piles -/
def dd (x : Int) : List UInt8 := Lib.decDigits x.toNat
theorem dd_length (x : Int) (h : x ≤ 28) : (dd x).length ≤ 2 := by
  unfold dd
  by_cases h1 : x.toNat < 10
  · rw [Lib.decDigits_one h1]; simp
  · rw [Lib.decDigits_two h1 (by omega)]; simp
def joinL (xs : List Int) : List UInt8 := Lib.join (xs.map dd) [43]
theorem join_snoc (l : List (List UInt8)) (y sep : List UInt8) (h : l ≠ []) : Lib.join (l ++ [y]) sep = Lib.join l sep ++ sep ++ y := by
  cases l with
  | nil => exact absurd rfl h
  | cons x r =>
    rw [List.cons_append, Lib.join_cons, Lib.join_cons]
    simp [Lib.joinTail]
theorem joinL_snoc (xs : List Int) (x : Int) : joinL (xs ++ [x]) = if xs = [] then dd x else joinL xs ++ [43] ++ dd x := by
  unfold joinL
  rw [List.map_append]
  by_cases h : xs = []
  · subst h; rw [if_pos rfl]; simp [Lib.join_one]
  · rw [if_neg h]; exact join_snoc _ _ _ (by simpa using h)
theorem joinL_length {xs : List Int} (h : ∀ x ∈ xs, x ≤ 28) (k : Nat) : (joinL (xs.take k)).length ≤ 3 * k := by
  induction k with
  | zero => simp [joinL, Lib.join_nil]
  | succ k ih =>
    by_cases hk : k < xs.length
    · have e : xs.take (k + 1) = xs.take k ++ [xs[k]] := by rw [List.take_add_one, List.getElem?_eq_getElem hk]; rfl
      have hd := dd_length xs[k] (h _ (List.getElem_mem hk))
      rw [e, joinL_snoc]
      split
      · omega
      · simp only [List.length_append, List.length_singleton]; omega
    · rw [List.take_of_length_le (by omega)]
      rw [List.take_of_length_le (by omega)] at ih
      omega
/-- the text of piles -/
def textL (xs : List Int) : List UInt8 := if xs = [] then [48] else joinL xs
def mPilesText (xs : List Int) : List UInt8 × Bool := (if goodB xs then textL xs else [], goodB xs)
theorem mText_yes {xs : List Int} (h : goodB xs = true) : mPilesText xs = (textL xs, true) := by unfold mPilesText; rw [h]; rfl
theorem mText_no {xs : List Int} (h : goodB xs = false) : mPilesText xs = ([], false) := by unfold mPilesText; rw [h]; rfl
theorem retS {a b : List UInt8} (h : a = b) : Ending.returned (.string ⟨a.toArray⟩) = Ending.returned (.string ⟨b.toArray⟩) := by rw [h]
set_option maxHeartbeats 1600000 in
set_option maxRecDepth 100000 in
theorem piTextP_any (ao : Option Addr) (n cap : Nat) (xs : List Int) (w : World) (h : IntsAt w ao n cap xs) (hlen : xs.length ≤ 28) (hg : ∀ x ∈ xs, 1 ≤ x ∧ x ≤ 28) :
    Calls Tryz.prog 56 #[.slice ao n cap] w fun e w' => e = .returned (.string ⟨(textL xs).toArray⟩) ∧ Below w.heap.size w w' := by
  have hl := h.length
  have hn28 : (n : Int) ≤ 28 := by omega
  by_cases hz : n = 0
  · have hxs : xs = [] := List.eq_nil_of_length_eq_zero (by omega)
    subst hz
    subst hxs
    go_enter Tryz.func56, Tryz.ntmps56
    go_wp2
    go_ret
    exact ⟨rfl, Below.refl _ _⟩
  · have hne : ((n : Int) == 0) = false := by simp; omega
    have hxs : xs ≠ [] := fun e => hz (by rw [← hl, e]; rfl)
    have hjl := fun k => joinL_length (fun x hx => (hg x hx).2) k
    have Hl := Lib.hid hl; clear hl
    have Hg := Lib.hid hg; clear hg
    have Hxs := Lib.hid hxs; clear hxs
    have Hjl := Lib.hid hjl; clear hjl
    go_enter Tryz.func56, Tryz.ntmps56
    go_wp2
    go_loopw [3, 11] (fun s i wr => ∃ k : Nat, k ≤ n ∧ i = .int .i64 k ∧ s = .string ⟨(joinL (xs.take k)).toArray⟩ ∧ Below w.heap.size w wr) (fun _ i _ => n - (intOf i).toNat)
    case atStart => exact ⟨0, Nat.zero_le _, rfl, rfl, Below.refl _ _⟩
    case round =>
      obtain ⟨k, hk, rfl, rfl, hb⟩ := hrel
      by_cases hlt : k < n
      · have h1 := h.keep hb
        obtain ⟨b, oo, rfl, hbl, hc⟩ := h1.cell k hlt
        have hck := hc k hlt
        clear hc h1
        generalize hx : xs.getD k 0 = x at hck
        have hxm := Hg.out _ (getD_mem hx hlt Hl.out)
        have e := joinL_snoc (xs.take k) x
        rw [← take_snoc hx hlt Hl.out] at e
        have hd := dd_length x hxm.2
        obtain ⟨X, rfl⟩ := Int.eq_ofNat_of_zero_le (show 0 ≤ x by omega)
        have hcon := fun W => l1Num_any X X W (Nat.le_refl _) (by omega)
        have hdd : dd (X : Int) = Lib.decDigits X := by simp [dd]
        rw [← hdd] at hcon
        have hj := Hjl.out k
        by_cases hk0 : k = 0
        · subst hk0
          rw [List.take_zero, if_pos rfl] at e
          have hemp : joinL (List.take 0 xs) = [] := rfl
          generalize dd (X : Int) = D at *
          have hno : ¬ (9223372036854775807 < D.length) := by omega
          simp only [Nat.add_zero] at hck
          have Hcon := Lib.hid hcon; clear hcon
          have Hx := Lib.hid hx; clear hx
          have E := Lib.hid e; clear e
          have Hdd := Lib.hid hdd; clear hdd
          clear hj
          rw [hemp]
          go_wp2_with fail
          with_reducible refine (Hcon.out _).mono ?_
          rintro e w1 ⟨rfl, hb1⟩
          go_wp2
          go_roundw
          case rel => exact ⟨1, by omega, rfl, by rw [E.out]; exact congrArg Value.string (by have := ByteArray.mk_append_mk [] D; simpa using this), belowTrans hb hb1 (Nat.le_refl _)⟩
          case measure => simp [intOf] <;> omega
        · have hne0 : xs.take k ≠ [] := fun hh => by
            have := congrArg List.length hh
            rw [List.length_take, List.length_nil] at this
            have := Hl.out
            omega
          rw [if_neg hne0] at e
          generalize dd (X : Int) = D at *
          generalize joinL (xs.take k) = J at *
          have hno1 : ¬ (9223372036854775807 < J.length + 1) := by omega
          have hno : ¬ (9223372036854775807 < J.length + 1 + D.length) := by omega
          have Hcon := Lib.hid hcon; clear hcon
          have Hx := Lib.hid hx; clear hx
          have E := Lib.hid e; clear e
          have Hdd := Lib.hid hdd; clear hdd
          have Hne0 := Lib.hid hne0; clear hne0
          clear hj
          go_wp2_with fail
          with_reducible refine (Hcon.out _).mono ?_
          rintro e w1 ⟨rfl, hb1⟩
          go_wp2
          go_roundw
          case rel => exact ⟨k + 1, by omega, by go_num, by rw [E.out, ← ByteArray.mk_append_mk, ← ByteArray.mk_append_mk], belowTrans hb hb1 (Nat.le_refl _)⟩
          case measure => simp [intOf] <;> omega
      · obtain rfl : n = k := by omega
        rw [take_all Hl.out]
        go_wp2
        go_ret
        exact ⟨retS (by unfold textL; rw [if_neg Hxs.out]), hb⟩

theorem piText_any (ao : Option Addr) (n cap : Nat) (xs : List Int) (w : World) (h : IntsAt w ao n cap xs) (hg : Good xs) :
    Calls Tryz.prog 56 #[.slice ao n cap] w fun e w' => e = .returned (.string ⟨(textL xs).toArray⟩) ∧ Below w.heap.size w w' := piTextP_any ao n cap xs w h hg.len (fun x hx => hg.mem hx)
theorem Tryz.infoStr : (Tryz.prog.info? 9).map (fun i => (i.zero, i.size, i.bytes)) = some (some (.string ⟨#[]⟩), 1, 16) := by kernel_rfl
def wordB (x : Int) : ByteArray := ⟨(Lib.itoa x).toArray⟩
theorem itoa_dd {x : Int} (h : 0 ≤ x) : Lib.itoa x = dd x := by unfold Lib.itoa dd; rw [if_neg (by omega)]
def wordsAt (xs : List Int) (n k : Nat) : List Value := (xs.take k).map (fun x => Value.string (wordB x)) ++ List.replicate (n - k) (.string ⟨#[]⟩)
theorem wordsAt_zero (xs : List Int) (n : Nat) : (madeCells #[Value.string ⟨#[]⟩] n).toList = wordsAt xs n 0 := by
  apply List.ext_getElem
  · simp [size_madeCells, wordsAt]
  · intro i h1 h2
    simp [madeCells, Value.cells, Nat.mod_one, wordsAt]
theorem wordsAt_getD (xs : List Int) (n k : Nat) (hk : k < n) (hl : xs.length = n) : (wordsAt xs n k)[k]? = some (.string ⟨#[]⟩) := by
  unfold wordsAt
  have ht : ((xs.take k).map (fun x => Value.string (wordB x))).length = k := by rw [List.length_map, List.length_take]; omega
  rw [List.getElem?_append_right (by omega), ht, List.getElem?_replicate, if_pos (by omega)]
theorem wordsAt_set (xs : List Int) (n k : Nat) (x : Int) (hx : xs.getD k 0 = x) (hk : k < n) (hl : xs.length = n) : (wordsAt xs n k).set k (.string (wordB x)) = wordsAt xs n (k + 1) := by
  unfold wordsAt
  have ht : ((xs.take k).map (fun x => Value.string (wordB x))).length = k := by simp; omega
  rw [take_snoc hx hk hl, List.map_append, List.set_append_right _ _ (by omega), ht, Nat.sub_self, show n - k = (n - (k + 1)) + 1 by omega, List.replicate_succ]
  simp
theorem wordsAt_all (xs : List Int) (n : Nat) (hl : xs.length = n) : wordsAt xs n n = xs.map (fun x => Value.string (wordB x)) := by
  unfold wordsAt
  rw [take_all hl]; simp

/-- the text of numbers with a byte between them, or another one if there are none -/
def jnL (sep : UInt8) (nl : List UInt8) (xs : List Int) : List UInt8 := if xs = [] then nl else Lib.join (xs.map Lib.itoa) [sep]
theorem jnL_cons {sep : UInt8} {nl : List UInt8} {xs : List Int} (h : xs ≠ []) : jnL sep nl xs = Lib.join (xs.map Lib.itoa) [sep] := by unfold jnL; rw [if_neg h]
theorem joinT_length (ws : List (List UInt8)) (sep : UInt8) (b : Nat) (h : ∀ w ∈ ws, w.length ≤ b) : (Lib.join ws [sep]).length ≤ ws.length * (b + 1) := by
  cases ws with
  | nil => simp [Lib.join_nil]
  | cons w ws =>
    rw [Lib.join_cons]
    have ht : ∀ l : List (List UInt8), (∀ x ∈ l, x.length ≤ b) → (Lib.joinTail [sep] l).length ≤ l.length * (b + 1) := by
      intro l
      induction l with
      | nil => intro _; simp [Lib.joinTail]
      | cons y l ih =>
        intro hh
        have h1 := hh y (by simp)
        have h2 := ih (fun x hx => hh x (by simp [hx]))
        have e : Lib.joinTail [sep] (y :: l) = [sep] ++ y ++ Lib.joinTail [sep] l := by simp [Lib.joinTail]
        rw [e]
        simp only [List.length_append, List.length_cons, List.length_nil, Nat.succ_mul]
        omega
    have h1 := h w (by simp)
    have h2 := ht ws (fun x hx => h x (by simp [hx]))
    simp only [List.length_append, List.length_cons, Nat.succ_mul]
    omega
theorem jnL_text {xs : List Int} (h : ∀ x ∈ xs, 0 ≤ x) : jnL 43 [48] xs = textL xs := by
  unfold jnL textL joinL
  have : xs.map Lib.itoa = xs.map dd := List.map_congr_left fun x hx => itoa_dd (h x hx)
  rw [this]

/-- what is asked of strconv.Itoa -/
def ItoaOk (w : World) (x : Int) : Prop := ∀ W, Below w.heap.size w W → Calls Tryz.prog 74 #[.int .i64 x] W fun e w' => e = .returned (.string (wordB x)) ∧ Below W.heap.size W w'
theorem itoa_small (w : World) (x : Int) (h0 : 0 ≤ x) (h1 : x < 100) : ItoaOk w x := by
  intro W _
  obtain ⟨X, rfl⟩ := Int.eq_ofNat_of_zero_le h0
  have hcon := Tryz.strconv_Itoa_small X (by omega) W
  change Calls Tryz.prog 74 _ _ _ at hcon
  refine hcon.mono fun e w' ⟨he, hw⟩ => ⟨?_, ?_⟩
  · rw [he]; unfold wordB; rw [itoa_dd h0]; simp [dd]
  · rw [hw]; exact Below.refl _ _

set_option maxHeartbeats 1600000 in
set_option maxRecDepth 100000 in
theorem joinNumbers_any (ao : Option Addr) (n cap : Nat) (xs : List Int) (sep : UInt8) (nl : List UInt8) (w : World) (h : IntsAt w ao n cap xs) (hn : n ≤ 1048577) (hI : ∀ x ∈ xs, ItoaOk w x) (hD : ∀ x ∈ xs, (Lib.itoa x).length ≤ 21) :
    Calls Tryz.prog 45 #[.slice ao n cap, .string ⟨#[sep]⟩, .string ⟨nl.toArray⟩] w fun e w' => e = .returned (.string ⟨(jnL sep nl xs).toArray⟩) ∧ Below w.heap.size w w' := by
  have hl := h.length
  by_cases hz : n = 0
  · have hxs : xs = [] := List.eq_nil_of_length_eq_zero (by omega)
    subst hz
    subst hxs
    go_enter Tryz.func45, Tryz.ntmps45
    go_wp2
    go_ret
    exact ⟨rfl, Below.refl _ _⟩
  · have hne : ((n : Int) == 0) = false := by simp; omega
    have hxs : xs ≠ [] := fun e => hz (by rw [← hl, e]; rfl)
    obtain ⟨i0, hi, hz0, hz1, hz2⟩ := info_parts Tryz.infoStr
    have hjl := joinT_length (xs.map Lib.itoa) sep 21 (fun y hy => by obtain ⟨x, hx, rfl⟩ := List.mem_map.1 hy; exact hD x hx)
    rw [List.length_map, hl] at hjl
    have hnI : (n : Int) ≤ 1048577 := by omega
    have Hl := Lib.hid hl; clear hl
    have Hxs := Lib.hid hxs; clear hxs
    have HI := Lib.hid hI; clear hI
    have Hjl := Lib.hid hjl; clear hjl
    have HD := Lib.hid hD; clear hD
    go_enter Tryz.func45, Tryz.ntmps45
    go_wp2_with (at_make; refine wpList_make_full w rfl _ _ _ rfl w.heap.size 9 i0 _ 1 Tryz.underlying38 hi hz0 hz1 _ _ _ _ n rfl rfl rfl rfl ?_ ?_ (Nat.le_refl _) ?_)
    · rw [hz2]; omega
    · unfold maxLen; omega
    intro w1 hown hgrow
    have ho : OwnRow w.heap.size w1.heap.size w1 9 (some ⟨w.heap.size, 0, none⟩) n n (wordsAt xs n 0) := OwnRow.of (by rw [← wordsAt_zero]; simpa using hown)
    have hb1 : Below w.heap.size w w1 := (Below.refl _ _).grown hgrow (Nat.le_refl _) (fun k hk => by cases hk)
    clear hown hgrow hi hz0 hz1 hz2
    generalize hBe : w.heap.size = B at *
    have HBe := Lib.hid hBe; clear hBe
    go_wp2
    go_loopw [19] (fun i wr => ∃ k : Nat, k ≤ n ∧ i = .int .i64 k ∧ OwnRow B w1.heap.size wr 9 (some ⟨B, 0, none⟩) n n (wordsAt xs n k) ∧ Below B w wr) (fun i _ => n - (intOf i).toNat)
    case atStart => exact ⟨0, Nat.zero_le _, rfl, ho, hb1⟩
    case round =>
      obtain ⟨k, hk, rfl, hown, hb⟩ := hrel
      clear ho hb1
      by_cases hlt : k < n
      · have h1 := h.below hb (by intro b o e; obtain ⟨b', o', e', hl', _⟩ := h.cell k hlt; rw [e] at e'; cases e'; rw [HBe.out] at hl'; exact hl')
        obtain ⟨b, oo, rfl, hbl, hc⟩ := h1.cell k hlt
        have hck := hc k hlt
        clear hc h1
        generalize hx : xs.getD k 0 = x at hck
        have hcon := HI.out x (getD_mem hx hlt Hl.out) wr (by rw [HBe.out]; exact hb)
        have Hcon := Lib.hid hcon; clear hcon
        have Hx := Lib.hid hx; clear hx
        go_wp2_with fail
        with_reducible refine (Hcon.out).mono ?_
        rintro e w2 ⟨rfl, hb2⟩
        replace hown := hown.keep hb2
        replace hb := belowTrans hb hb2 (by rw [← HBe.out]; exact Nat.le_refl _)
        clear hb2
        have hst := World.ownsRow.stored hown.1 k (.string (wordB x))
        rw [wordsAt_set xs n k x Hx.out hlt Hl.out] at hst
        have hcell : w2.cell? ⟨B, k, none⟩ = some (.string ⟨#[]⟩) := by
          rw [World.ownsRow.cellAt hown.1 k (by have := hown.length; omega)]
          exact wordsAt_getD xs n k hlt Hl.out
        have hfz := World.ownsRow.frozenAt hown.1 k
        have hE := hown.2
        have Hst := Lib.hid hst; clear hst
        have HE := Lib.hid hE; clear hE
        clear hown
        go_wp2
        go_roundw
        case rel => exact ⟨k + 1, by omega, by go_num, ⟨Hst.out.1, HE.out⟩, hb.setCell (Nat.le_refl _) _⟩
        case measure => simp [intOf] <;> omega
      · obtain rfl : n = k := by omega
        rw [wordsAt_all xs n Hl.out] at hown
        have hmap : ((xs.map wordB).map (·.data.toList)) = xs.map Lib.itoa := by rw [List.map_map]; apply List.map_congr_left; intro x _; simp [wordB]
        have hcon := Tryz.strings_Join B 0 n (xs.map wordB) ⟨#[sep]⟩ wr (fun j x hj => by
          rw [List.getElem?_map] at hj
          cases hq : xs[j]? with
          | none => rw [hq] at hj; simp at hj
          | some y =>
            rw [hq] at hj
            simp only [Option.map_some, Option.some.injEq] at hj
            have hjn : j < xs.length := (List.getElem?_eq_some_iff.1 hq).1
            rw [Nat.zero_add, World.ownsRow.cellAt hown.1 j (by have := Hl.out; omega), List.getElem?_map, hq, ← hj]
            rfl) (by have := hown.1.lt B rfl; exact this.2) (by simp; have := Hl.out; omega) (by simp; have := Hl.out; omega) (by rw [hmap]; have := Hjl.out; simpa using (by omega : (Lib.join (xs.map Lib.itoa) [sep]).length ≤ 140737488355328))
        rw [hmap, List.length_map, Hl.out] at hcon
        change Calls Tryz.prog 75 _ _ _ at hcon
        have Hcon := Lib.hid hcon; clear hcon
        have Hmap := Lib.hid hmap; clear hmap
        have Hown := Lib.hid hown; clear hown
        go_wp2_with fail
        with_reducible refine (Hcon.out).mono ?_
        rintro e w2 ⟨rfl, hb2⟩
        go_wp2
        go_ret
        refine ⟨?_, HBe.out ▸ belowTrans hb hb2 (by rw [← HBe.out]; exact Nat.le_refl _)⟩
        rw [jnL_cons Hxs.out]
        rfl

theorem itoa_len_small {x : Int} (h0 : 0 ≤ x) (h1 : x ≤ 28) : (Lib.itoa x).length ≤ 21 := by rw [itoa_dd h0]; have := dd_length x h1; omega

theorem impl_PilesText (ao : Option Addr) (n cap : Nat) (xs : List Int) (w : World) (h : IntsAt w ao n cap xs) :
    Calls Tryz.prog 16 #[.slice ao n cap] w fun e w' => e = .returned (.tuple #[.string ⟨(mPilesText xs).1.toArray⟩, .bool (mPilesText xs).2]) ∧ Below w.heap.size w w' := by
  cases hg : goodB xs
  · have hm := mText_no hg
    have Hg := Lib.hid hg; clear hg
    have Hm := Lib.hid hm; clear hm
    go_enter Tryz.func16, Tryz.ntmps16
    go_wp2_with fail
    with_reducible refine (isPilesT_no _ _ _ _ _ h Hg.out).mono ?_
    rintro e w' ⟨rfl, rfl⟩
    go_wp2
    go_ret2
    rw [Hm.out]
    exact ⟨rfl, Below.refl _ _⟩
  · have hm := mText_yes hg
    have hG := good_iff.1 hg
    have hl := h.length
    have hlen := hG.len
    have hcon := joinNumbers_any ao n cap xs 43 [48] w h (by omega) (fun x hx => itoa_small w x (by have := hG.mem hx; omega) (by have := hG.mem hx; omega)) (fun x hx => itoa_len_small (by have := hG.mem hx; omega) (hG.mem hx).2)
    rw [jnL_text (fun x hx => by have := hG.mem hx; omega)] at hcon
    change Calls Tryz.prog 45 #[.slice ao n cap, .string ⟨#[43]⟩, .string ⟨#[48]⟩] _ _ at hcon
    have Hcon := Lib.hid hcon; clear hcon
    have Hm := Lib.hid hm; clear hm
    have HG := Lib.hid hG; clear hG
    have Hl := Lib.hid hl; clear hl
    go_enter Tryz.func16, Tryz.ntmps16
    go_wp2_with fail
    with_reducible refine (isPilesT_yes _ _ _ _ _ h HG.out).mono ?_
    rintro e w' ⟨rfl, rfl⟩
    go_wp2_with fail
    with_reducible refine (Hcon.out).mono ?_
    rintro e w1 ⟨rfl, hb1⟩
    go_wp2
    go_ret2
    rw [Hm.out]
    exact ⟨rfl, hb1⟩
end Go.Proofs.YtimmjimeldejjaaGreatDoor
