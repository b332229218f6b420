/- Facts on the program's head word that every row of this seat asks: proved once, letter by letter. No condition. -/
import Derived.Test.YtimmjimeldejjaaGreatDoorRows
import Derived.JoinedOf
import Derived.KernelRfl
namespace Go.Proofs.YtimmjimeldejjaaGreatDoor
open Go
set_option maxRecDepth 100000

def headA : List Nat := [104,97,114,110,101,115,115]
def headB : List Nat := [56,99,98,57,53,100,102,52,55,100,97,101,98,52,48,50,53,51,52,99,48,98,54,48,49,50,52,49,102,51,100,97,102,97,97,97,100,51,52,100,99,57,97,55,52,57,54,97,50,52,97,57,57,53,55,54,48,102,51,101,51,98,102,54]
def headC : List Nat := [99,117,116]
def headR : List Nat := [97,116,32,108,111,111,112,46,101,120,97,109,112,108,101,47,103,48,49,49,49,52,47,108,97,119,115,46,70,110,68,101,115,107,76,105,110,101,115,32,108,111,111,112,46,101,120,97,109,112,108,101,47,103,48,49,49,49,52,47,108,97,119,115,46,70,110,68,101,115,107,83,99,114,105,112,116,115,32,108,111,111,112,46,101,120,97,109,112,108,101,47,103,48,49,49,49,52,47,108,97,119,115,46,70,110,69,120,97,99,116,68,101,115,107,76,105,110,101,32,108,111,111,112,46,101,120,97,109,112,108,101,47,103,48,49,49,49,52,47,108,97,119,115,46,70,110,69,120,97,99,116,82,117,110,83,99,114,105,112,116,32,108,111,111,112,46,101,120,97,109,112,108,101,47,103,48,49,49,49,52,47,108,97,119,115,46,70,110,69,120,97,99,116,68,101,115,107,65,102,116,101,114,32,108,111,111,112,46,101,120,97,109,112,108,101,47,103,48,49,49,49,52,47,108,97,119,115,46,70,110,69,120,97,99,116,70,97,105,108,101,100,76,105,110,101,115]
def chars (l : List Nat) : List Char := l.map Char.ofNat
theorem head_is : Tryz.prog.initOrder = String.ofList (chars (headA ++ 32 :: (headB ++ 32 :: (headC ++ 32 :: headR)))) := by kernel_rfl
theorem words_step (a r : List Char) (h : ∀ c ∈ a, c ≠ Char.ofNat 32) : wordsSigns (a ++ Char.ofNat 32 :: r) = a :: wordsSigns r := by
  induction a with
  | nil => rfl
  | cons c a ih =>
    have := ih (fun x hx => h x (by simp [hx]))
    have hc : c ≠ Char.ofNat 32 := h c (by simp)
    rw [List.cons_append]
    conv => lhs; unfold wordsSigns
    split
    · next e => exact absurd e (by simp)
    · next e => simp only [List.cons.injEq] at e; exact absurd e.1 hc
    · next e => simp only [List.cons.injEq] at e; obtain ⟨rfl, rfl⟩ := e; rw [this]
theorem head_split : wordsSigns Tryz.prog.initOrder.toList = chars headA :: chars headB :: chars headC :: wordsSigns (chars headR) := by
  rw [head_is, String.toList_ofList]
  unfold chars
  simp only [List.map_append, List.map_cons]
  rw [words_step _ _ (by decide), words_step _ _ (by decide), words_step _ _ (by decide)]
theorem head_word : (chars headA == "harness".toList || chars headA == "ownmain".toList) = true := by kernel_rfl
theorem head_sum : isSumSigns (chars headB) = true := by kernel_rfl
theorem head_third : chars headC = "cut".toList := by kernel_rfl
theorem head_words : ∃ r, behindMainWord (wordsSigns Tryz.prog.initOrder.toList) = "cut".toList :: r := by
  rw [head_split, head_third]
  refine ⟨wordsSigns (chars headR), ?_⟩
  simp only [behindMainWord, head_word, head_sum, Bool.and_self, if_true]
theorem strip_all (os : List String) (w : List Char) (ws : List (List Char)) (h : os.all (fun o => !(w == o.toList)) = true) : stripLifts os (w :: ws) = ([], w :: ws) := by
  induction os with
  | nil => rfl
  | cons o os ih =>
    simp only [List.all_cons, Bool.and_eq_true, Bool.not_eq_true'] at h
    have h1 := ih h.2
    rw [stripLifts, if_neg (by rw [h.1]; decide), h1]
theorem strip_closed : liftWords.all (fun o => !("cut".toList == o.toList)) = true := by kernel_rfl
theorem strip_cut (r : List (List Char)) : stripLifts liftWords ("cut".toList :: r) = ([], "cut".toList :: r) := strip_all _ _ _ strip_closed
theorem cut_gc : ("cut".toList == "gc".toList) = false := by kernel_rfl
theorem cut_spec : ("cut".toList == "spec".toList) = false := by kernel_rfl
theorem cut_carried : ("cut".toList == "carried".toList) = false := by kernel_rfl
theorem cut_cut : ("cut".toList == "cut".toList) = true := by kernel_rfl
theorem cut_finals : ("cut".toList == "finals".toList) = false := by kernel_rfl
theorem some_carried : (some "cut".toList == some "carried".toList) = false := by kernel_rfl
theorem some_cut : (some "cut".toList == some "cut".toList) = true := by kernel_rfl
theorem make_of (P : Program) (r : List (List Char)) (hr : behindMainWord (wordsSigns P.initOrder.toList) = "cut".toList :: r) : P.make = some .cut := by
  unfold Program.make
  rw [hr]
  simp only [cut_gc, cut_spec, cut_cut, Bool.or_self, Bool.true_or, if_true, Bool.false_eq_true, if_false]
theorem headLifts_of (P : Program) (r : List (List Char)) (hr : behindMainWord (wordsSigns P.initOrder.toList) = "cut".toList :: r) : P.headLifts = [] := by
  unfold Program.headLifts
  rw [hr]
  simp only [strip_cut, List.head?_cons, some_cut, if_true]
theorem liftsFinal_of (P : Program) (r : List (List Char)) (hr : behindMainWord (wordsSigns P.initOrder.toList) = "cut".toList :: r) : P.liftsFinal = false := by
  unfold Program.liftsFinal
  simp only [hr, headLifts_of P r hr, List.head?_cons, some_carried, Bool.false_and, Bool.false_or, List.contains_nil]
theorem mayEnter_of (P : Program) (r : List (List Char)) (hr : behindMainWord (wordsSigns P.initOrder.toList) = "cut".toList :: r)
    (h1 : P.laysLater = false) (h2 : P.bearsReflect = false) (h3 : P.doorFits [] = true) : P.mayEnter = true := by
  unfold Program.mayEnter
  rw [hr]
  simp only [strip_cut, h1, h2, h3, cut_gc, cut_spec, cut_carried, List.head?_cons, some_cut, List.contains_nil, Bool.false_and, Bool.or_self, Bool.not_false, Bool.or_true, Bool.and_self]
theorem head_make : Tryz.prog.make = some .cut := by obtain ⟨r, hr⟩ := head_words; exact make_of _ r hr
theorem head_lifts : Tryz.prog.liftsFinal = false := by obtain ⟨r, hr⟩ := head_words; exact liftsFinal_of _ r hr
theorem head_later : Tryz.prog.laysLater = false := by kernel_rfl
theorem head_reflect : Tryz.prog.bearsReflect = false := by kernel_rfl
theorem head_door : Tryz.prog.doorFits [] = true := by kernel_rfl
theorem head_enter : Tryz.prog.mayEnter = true := by obtain ⟨r, hr⟩ := head_words; exact mayEnter_of _ r hr head_later head_reflect head_door
theorem progEq : Tryz.pinned.checked.prog = Tryz.prog := by kernel_rfl
theorem fact_laid : laidOutB Tryz.prog = true := by kernel_rfl
theorem fact_maps : mapsRowed Tryz.prog = true := by kernel_rfl
theorem fact_heard : Tryz.prog.stopsHeard = true := by kernel_rfl
theorem fact_own : ownKnob Tryz.prog.godebug = none := by kernel_rfl
theorem fact_stops : Tryz.prog.stops = [] := by kernel_rfl
theorem fact_knobs : Tryz.prog.stopKnobs = [] := by kernel_rfl
end Go.Proofs.YtimmjimeldejjaaGreatDoor
