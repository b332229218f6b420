/- Several texts in one: DsW, DsX. No condition. -/
import Derived.Test.YtimmjimeldejjaaGreatDoorDs1
import Derived.Test.YtimmjimeldejjaaGreatDoorEs
import Derived.Test.YtimmjimeldejjaaGreatDoorCo3
namespace Go.Proofs.YtimmjimeldejjaaGreatDoor
section
open Go.RowKit
set_option linter.unusedVariables false
set_option linter.unusedSimpArgs false
set_option maxRecDepth 100000

def Sc (s : ByteArray) (k sd fd : Nat) (L : ByteArray) : Prop :=
  L.data.toList = (spF (s.data.toList.take k)).2 ∧ sd = (spF (s.data.toList.take k)).1.length ∧ fd = (failF 0 (scrL (spF (s.data.toList.take k)).1).2).length
def pileK (s : ByteArray) (k : Nat) : List Int := (scrL (spF (s.data.toList.take k)).1).1
theorem Sc.zero (s : ByteArray) : Sc s 0 0 0 ⟨#[]⟩ := ⟨rfl, rfl, rfl⟩
theorem pileK_zero (s : ByteArray) : pileK s 0 = [3, 2, 1] := rfl
theorem Sc.ch {s : ByteArray} {k sd fd : Nat} {L : ByteArray} (h : Sc s k sd fd L) (hk : k < s.size) (hc : s[k] ≠ 10) : Sc s (k + 1) sd fd (L ++ s.extract k (k + 1)) ∧ pileK s (k + 1) = pileK s k := by
  have ht := take_data s k hk
  obtain ⟨h1, h2, h3⟩ := h
  unfold Sc pileK
  rw [ht, spF_ch _ _ hc]
  refine ⟨⟨?_, h2, h3⟩, rfl⟩
  show (L ++ s.extract k (k + 1)).data.toList = (spF (s.data.toList.take k)).2 ++ [s[k]]
  have he : (s.extract k (k + 1)).data.toList = [s[k]] := by
    have h := ext_str s k (k + 1)
    have h' : s.extract k (k + 1) = ⟨((s.data.toList.take (k + 1)).drop k).toArray⟩ := by injection h
    rw [h']
    show ((s.data.toList.take (k + 1)).drop k).toArray.toList = _
    rw [List.toList_toArray, ht, List.drop_append_of_le_length (by rw [List.length_take]; have : s.data.toList.length = s.size := rfl; omega), List.drop_of_length_le (by rw [List.length_take]; omega)]
    rfl
  rw [← he, ← h1]
  simp
/-- at a line's end: what the desk's line answers, and what the replies hold there -/
theorem Sc.nl {s : ByteArray} {k sd fd : Nat} {L : ByteArray} {ls : List (List UInt8)} (h : Sc s k sd fd L) (hk : k < s.size) (hc : s[k] = 10) (hl : linesS s.data.toList = some ls) :
    ∃ (P : List Int) (rr : List UInt8) (bad : Bool), mDeskLine (pileK s k) L.data.toList = (P, rr, true) ∧ bad = ((rr == [110, 111]) || (rr == [119, 104, 97, 116])) ∧ sd < ((scrL ls).2.map repA).length ∧ ((scrL ls).2.map repA).getD sd [] = rr ∧
      (bad = true → fd < (failF 0 (scrL ls).2).length ∧ (failF 0 (scrL ls).2).getD fd 0 = (sd : Int) + 1) ∧ Sc s (k + 1) (sd + 1) (fd + if bad = true then 1 else 0) ⟨#[]⟩ ∧ pileK s (k + 1) = P := by
  have ht := take_data s k hk
  obtain ⟨h1, h2, h3⟩ := h
  have hsp : s.data.toList = (s.data.toList.take k ++ [10]) ++ s.data.toList.drop (k + 1) := by
    rw [← hc, ← ht, List.take_append_drop]
  obtain ⟨a1, a2, a3⟩ := at_nl hl _ _ hsp
  obtain ⟨c1, c2, c3⟩ := spF_cur (s.data.toList.take k)
  obtain ⟨-, -, hlen⟩ := linesS_spF hl
  have hLl : (spF (s.data.toList.take k)).2.length ≤ 3000 := by rw [List.length_take] at c2; omega
  have hm : mDeskLine (pileK s k) L.data.toList = ((lineA (pileK s k) (spF (s.data.toList.take k)).2).1, repA (lineA (pileK s k) (spF (s.data.toList.take k)).2).2, true) := by
    rw [h1]
    exact mDL_yes ⟨good_iff.2 (scr_good _), hLl, c1⟩
  have hbd : isBad (repA (lineA (pileK s k) (spF (s.data.toList.take k)).2).2) = badA (lineA (pileK s k) (spF (s.data.toList.take k)).2).2 := bad_rep (fun t q => line_fine q)
  rw [bad_beq] at hbd
  refine ⟨_, _, _, hm, rfl, by rw [h2]; exact a1, by rw [h2]; exact a2, fun q => ?_, ?_, ?_⟩
  · rw [hbd] at q
    rw [h2, h3]
    exact a3 q
  · unfold Sc
    rw [ht, hc, spF_nl]
    refine ⟨rfl, by rw [h2]; simp, ?_⟩
    rw [hbd, h3]
    exact (fail_step _ _).symm
  · unfold pileK
    rw [ht, hc, spF_nl]
    show (scrL ((spF (s.data.toList.take k)).1 ++ [(spF (s.data.toList.take k)).2])).1 = _
    rw [scr_snoc]
theorem Sc.fin {s : ByteArray} {k sd fd : Nat} {L : ByteArray} {ls : List (List UInt8)} (h : Sc s k sd fd L) (hk : k = s.size) (hl : linesS s.data.toList = some ls) :
    sd = ((scrL ls).2.map repA).length ∧ fd = (failF 0 (scrL ls).2).length ∧ pileK s k = (scrL ls).1 := by
  obtain ⟨h1, h2, h3⟩ := h
  obtain ⟨e1, -, -⟩ := linesS_spF hl
  have ht : s.data.toList.take k = s.data.toList := List.take_of_length_le (by have : s.data.toList.length = s.size := rfl; omega)
  unfold pileK
  rw [ht, ← e1] at h2 h3 ⊢
  refine ⟨by rw [List.length_map, scr_length]; exact h2, h3, rfl⟩
end
end Go.Proofs.YtimmjimeldejjaaGreatDoor
namespace Go.Proofs.YtimmjimeldejjaaGreatDoor
section
open Go.RowKit
set_option linter.unusedVariables false
set_option linter.unusedSimpArgs false
set_option maxRecDepth 100000

set_option maxHeartbeats 8000000 in
theorem deskScripts_any (pn pw : Addr) (a0 a1 : Option Addr) (len0 cap0 len1 cap1 : Nat) (w : World) (by0 : ByteIn w w.heap.size a0 len0) (hl0 : len0 ≤ maxLen) (hd : DkOk w pn pw) (hT : TyOk w) :
    Calls Tryz.prog 4 #[.slice a0 len0 cap0, .slice a1 len1 cap1] w fun e w' => e = .returned (.bool true) ∧ Below w.heap.size w w' := by
  by_cases hbig : 1048576 < len0 ∨ (1048576 : Int) - len0 < len1
  · have hb := big_yes a0 a1 len0 len1 cap0 cap1 w hbig hl0
    have Hb := Lib.hid hb; clear hb
    go_enter Tryz.func4, Tryz.ntmps4
    go_wp2_with fail
    with_reducible refine (Hb.out).mono ?_
    rintro e w' ⟨rfl, rfl⟩
    go_wp2
    go_ret
    exact ⟨rfl, Below.refl _ _⟩
  have hb := big_no a0 a1 len0 len1 cap0 cap1 w (by omega) (by omega)
  have hdr := DrawRunScript_any a0 len0 cap0 w (by omega) by0
  clear by0 hl0 hbig
  have Hb := Lib.hid hb; clear hb
  have Hdr := Lib.hid hdr; clear hdr
  have acc : Below w.heap.size w w := Below.refl _ _
  go_enter Tryz.func4, Tryz.ntmps4
  go_wp2_with fail
  with_reducible refine (Hb.out).mono ?_
  rintro e w' ⟨rfl, rfl⟩
  clear Hb
  go_wp2_with fail
  with_reducible refine (Hdr.out).mono ?_
  rintro e v1 ⟨s, rfl, hs1, hb1⟩
  replace acc := belowTrans acc hb1 (Nat.le_refl _)
  clear hb1 Hdr
  have hrs := fun W q => impl_RunScript pn pw s W (by omega) q
  have hsr := fun W => spec_RunScript s W (by omega)
  have hda := fun W q => impl_DeskAfter pn pw s W (by omega) q
  have hfl := fun W q r => impl_FailedLines pn pw s W (by omega) q r
  cases hls : linesS s.data.toList with
  | none =>
    have e1 : mRunScript s.data.toList = ([], false) := by unfold mRunScript; rw [hls]
    have e2 : mDeskAfter s.data.toList = ([], false) := by unfold mDeskAfter; rw [hls]
    have e3 : mFailedLines s.data.toList = ([], false) := by unfold mFailedLines; rw [hls]
    simp only [e1] at hrs hsr
    simp only [e2] at hda
    simp only [e3] at hfl
    clear hls e1 e2 e3
    have Hrs := Lib.hid hrs; clear hrs
    have Hsr := Lib.hid hsr; clear hsr
    have Hda := Lib.hid hda; clear hda
    have Hfl := Lib.hid hfl; clear hfl
    go_wp2_with fail
    with_reducible refine (Hrs.out _ (DkOk.keep hd acc)).mono ?_
    rintro e v2 ⟨p2, n2, c2, rfl, ho2, hb2⟩
    replace acc := belowTrans acc hb2 (Nat.le_refl _)
    clear hb2
    go_wp2_with fail
    with_reducible refine (Hsr.out _).mono ?_
    rintro e v3 ⟨p3, n3, c3, rfl, ho3, hb3⟩
    replace ho2 := OwnRow.keep ho2 hb3
    replace acc := belowTrans acc hb3 (Nat.le_refl _)
    clear hb3
    go_wp2_with fail
    with_reducible refine (Hda.out _ (DkOk.keep hd acc)).mono ?_
    rintro e v4 ⟨p4, n4, c4, rfl, ho4, hb4⟩
    replace ho2 := OwnRow.keep ho2 hb4
    replace ho3 := OwnRow.keep ho3 hb4
    replace acc := belowTrans acc hb4 (Nat.le_refl _)
    clear hb4
    go_wp2_with fail
    with_reducible refine (Hfl.out _ (DkOk.keep hd acc) (TyOk.keep hT acc)).mono ?_
    rintro e v5 ⟨p5, n5, c5, rfl, ho5, hb5⟩
    replace ho2 := OwnRow.keep ho2 hb5
    replace ho3 := OwnRow.keep ho3 hb5
    replace ho4 := OwnRow.keep ho4 hb5
    replace acc := belowTrans acc hb5 (Nat.le_refl _)
    clear hb5
    have hcc := xTexts_any _ _ _ _ _ _ _ _ _ (OwnRow.at ho2) (OwnRow.at ho3)
    rw [decide_eq_true rfl] at hcc
    have Hcc := Lib.hid hcc; clear hcc
    go_wp2_with fail
    with_reducible refine (Hcc.out).mono ?_
    rintro e v6 ⟨rfl, hb6⟩
    replace ho2 := OwnRow.keep ho2 hb6
    replace ho3 := OwnRow.keep ho3 hb6
    replace ho4 := OwnRow.keep ho4 hb6
    replace ho5 := OwnRow.keep ho5 hb6
    replace acc := belowTrans acc hb6 (Nat.le_refl _)
    clear hb6 Hcc
    go_wp2
    go_ret
    exact ⟨rfl, acc⟩
  | some ls =>
    have e1 : mRunScript s.data.toList = ((scrL ls).2.map repA, true) := by unfold mRunScript; rw [hls]
    have e2 : mDeskAfter s.data.toList = ((scrL ls).1, true) := by unfold mDeskAfter; rw [hls]
    have e3 : mFailedLines s.data.toList = (failF 0 (scrL ls).2, true) := by unfold mFailedLines; rw [hls]
    simp only [e1] at hrs hsr
    simp only [e2] at hda
    simp only [e3] at hfl
    clear e1 e2 e3
    have hnl := fun k sd fd L (q : Sc s k sd fd L) (h1 : k < s.size) (h2 : s[k] = 10) => Sc.nl q h1 h2 hls
    have hfn := fun k sd fd L (q : Sc s k sd fd L) (h1 : k = s.size) => Sc.fin q h1 hls
    have hb50 : ((scrL ls).2.map repA).length ≤ 50 := by rw [List.length_map, scr_length]; exact lines_len hls
    have hf50 : (failF 0 (scrL ls).2).length ≤ 50 := by have := failF_length (scrL ls).2 0; rw [List.length_map] at hb50; omega
    generalize (scrL ls).2.map repA = R at *
    generalize failF 0 (scrL ls).2 = F at *
    generalize (scrL ls).1 = Z at *
    clear hls
    have Hrs := Lib.hid hrs; clear hrs
    have Hsr := Lib.hid hsr; clear hsr
    have Hda := Lib.hid hda; clear hda
    have Hfl := Lib.hid hfl; clear hfl
    have Hnl := Lib.hid hnl; clear hnl
    have Hfn := Lib.hid hfn; clear hfn
    go_wp2_with fail
    with_reducible refine (Hrs.out _ (DkOk.keep hd acc)).mono ?_
    rintro e v2 ⟨p2, n2, c2, rfl, ho2, hb2⟩
    replace acc := belowTrans acc hb2 (Nat.le_refl _)
    clear hb2
    go_wp2_with fail
    with_reducible refine (Hsr.out _).mono ?_
    rintro e v3 ⟨p3, n3, c3, rfl, ho3, hb3⟩
    replace ho2 := OwnRow.keep ho2 hb3
    replace acc := belowTrans acc hb3 (Nat.le_refl _)
    clear hb3
    go_wp2_with fail
    with_reducible refine (Hda.out _ (DkOk.keep hd acc)).mono ?_
    rintro e v4 ⟨p4, n4, c4, rfl, ho4, hb4⟩
    replace ho2 := OwnRow.keep ho2 hb4
    replace ho3 := OwnRow.keep ho3 hb4
    replace acc := belowTrans acc hb4 (Nat.le_refl _)
    clear hb4
    go_wp2_with fail
    with_reducible refine (Hfl.out _ (DkOk.keep hd acc) (TyOk.keep hT acc)).mono ?_
    rintro e v5 ⟨p5, n5, c5, rfl, ho5, hb5⟩
    replace ho2 := OwnRow.keep ho2 hb5
    replace ho3 := OwnRow.keep ho3 hb5
    replace ho4 := OwnRow.keep ho4 hb5
    replace acc := belowTrans acc hb5 (Nat.le_refl _)
    clear hb5
    have hcc := xTexts_any _ _ _ _ _ _ _ _ _ (OwnRow.at ho2) (OwnRow.at ho3)
    rw [decide_eq_true rfl] at hcc
    have Hcc := Lib.hid hcc; clear hcc
    go_wp2_with fail
    with_reducible refine (Hcc.out).mono ?_
    rintro e v6 ⟨rfl, hb6⟩
    replace ho2 := OwnRow.keep ho2 hb6
    replace ho3 := OwnRow.keep ho3 hb6
    replace ho4 := OwnRow.keep ho4 hb6
    replace ho5 := OwnRow.keep ho5 hb6
    replace acc := belowTrans acc hb6 (Nat.le_refl _)
    clear hb6 Hcc
    clear Hrs Hsr Hda Hfl ho3
    have hn2 : R.length = n2 := by have := ho2.length; rw [strVs_length] at this; exact this
    have hn5 : F.length = n5 := Own.length ho5
    have hdo := DkOk.keep hd acc
    have hva := OwnRow.at ho2
    have hbI := Own.at ho5
    have hzI := Own.at ho4
    have hoI : Own v6.heap.size (v6.alloc (.cells #[.int .i64 3, .int .i64 2, .int .i64 1] 3)).heap.size (v6.alloc (.cells #[.int .i64 3, .int .i64 2, .int .i64 1] 3)) (some ⟨v6.heap.size, 0, none⟩) 3 3 [3, 2, 1] :=
      Own.of (World.ownsRow_lit v6 #[.int .i64 3, .int .i64 2, .int .i64 1] 3 (Nat.le_refl _) (by unfold maxLen; omega) rfl)
    have hI0 : IntsAt (v6.alloc (.cells #[.int .i64 3, .int .i64 2, .int .i64 1] 3)) (some ⟨v6.heap.size, 0, none⟩) 3 3 (pileK s 0) := by rw [pileK_zero]; exact hoI.at
    have hB0 := belowAlloc v6 (.cells #[.int .i64 3, .int .i64 2, .int .i64 1] 3)
    clear ho2 ho4 ho5 hoI hd hT
    have HI0 := Lib.hid hI0; clear hI0
    have HB0 := Lib.hid hB0; clear hB0
    have Hdo := Lib.hid hdo; clear hdo
    have Hva := Lib.hid hva; clear hva
    have HbI := Lib.hid hbI; clear hbI
    have HzI := Lib.hid hzI; clear hzI
    have Acc := Lib.hid acc; clear acc
    go_wp2_with fail
    go_loopw [14, 15, 16, 17, 18] (fun pv lv sv fv iv wr => ∃ (k sd fd : Nat) (a : Option Addr) (m c : Nat) (L : ByteArray), k ≤ s.size ∧ sd ≤ k ∧ fd ≤ k ∧ L.size ≤ k ∧ pv = .slice a m c ∧ lv = .string L ∧ sv = .int .i64 sd ∧ fv = .int .i64 fd ∧ iv = .int .i64 k ∧ Hid (Sc s k sd fd L) ∧ Hid (IntsAt wr a m c (pileK s k)) ∧ Hid (Below v6.heap.size v6 wr)) (fun _ _ _ _ iv _ => s.size - (intOf iv).toNat)
    case atStart => exact ⟨0, 0, 0, _, 3, 3, ⟨#[]⟩, Nat.zero_le _, Nat.le_refl _, Nat.le_refl _, Nat.le_refl _, rfl, rfl, rfl, rfl, rfl, Lib.hid (Sc.zero s), HI0, HB0⟩
    case round =>
      obtain ⟨k, sd, fd, a, m, c, L, hk, hsd, hfd, hL, rfl, rfl, rfl, rfl, rfl, HS, HI, HB⟩ := hrel
      by_cases hlt : k < s.size
      · by_cases hc : s[k] = 10
        · obtain ⟨P, rr, bad, hm, hbad, hr1, hr2, hf, hS2, hP2⟩ := Hnl.out k sd fd L HS.out hlt hc
          have hq : s[k].toNat = 10 := by rw [hc]; rfl
          have hq1 : ((s[k].toNat : Int) == 10) = true := by rw [hq]; rfl
          have hq2 : ((s[k].toNat : Int) != 10) = false := by rw [hq]; rfl
          have hdl := fun W q d => impl_DeskLine pn pw a m c (pileK s k) L W q (by omega) d
          simp only [hm] at hdl
          have hsdn : sd < n2 := by omega
          have hge : ¬ ((n2 : Int) ≤ (sd : Int)) := by omega
          clear hm
          have Hr2 := Lib.hid hr2; clear hr2
          have Hf := Lib.hid hf; clear hf
          have HS2 := Lib.hid hS2; clear hS2
          have HP2 := Lib.hid hP2; clear hP2
          have Hdl := Lib.hid hdl; clear hdl
          have Hbad := Lib.hid hbad; clear hbad
          have Hc := Lib.hid hc; clear hc
          go_wp2_with fail
          with_reducible refine (Hdl.out _ HI.out (DkOk.keep Hdo.out HB.out)).mono ?_
          rintro e w2 ⟨pa, pm, pc, rfl, hoP, hb2⟩
          have hB2 := belowTrans HB.out hb2 (Nat.le_refl _)
          obtain ⟨b2, o2, e_, hcell⟩ := wordAt (Hva.out.keep hB2) hsdn
          subst e_
          rw [Hr2.out] at hcell
          have hsame := str_same rr
          have hIP := Own.at hoP
          have hbI2 := HbI.out.keep hB2
          clear hoP hb2 Hdl HB HI
          cases bad
          · have h12 : (rr == [110, 111]) = false ∧ (rr == [119, 104, 97, 116]) = false := by
              have := Hbad.out; simp only [Bool.false_eq, Bool.or_eq_false_iff] at this; exact this
            obtain ⟨h1, h2⟩ := h12
            clear Hbad hbI2
            have HIP := Lib.hid hIP; clear hIP
            have HB2 := Lib.hid hB2; clear hB2
            go_wp2
            go_roundw
            case rel => exact ⟨k + 1, sd + 1, fd, pa, pm, pc, ⟨#[]⟩, by omega, by omega, by omega, Nat.zero_le _, rfl, rfl, by go_num, rfl, by go_num, Lib.hid HS2.out, Lib.hid (by rw [HP2.out]; exact HIP.out), HB2⟩
            case measure => simp [intOf] <;> omega
          · obtain ⟨hf1, hf2⟩ := Hf.out rfl
            have hfn5 : fd < n5 := by omega
            have hgf : ¬ ((n5 : Int) ≤ (fd : Int)) := by omega
            obtain ⟨b, o, rfl, hb, hc⟩ := hbI2.cell fd hfn5
            have hck := hc fd hfn5
            clear hc
            generalize hx : F.getD fd 0 = x at hck
            have Hx := Lib.hid hx; clear hx
            have hxe : x = (sd : Int) + 1 := Hx.out.symm.trans hf2
            subst hxe
            have hxs : (((sd : Int) + 1) != ((sd : Int) + 1)) = false := by simp
            clear hf2
            have fin : ∀ W, Below w2.heap.size w2 W → True := fun _ _ => trivial
            cases h1 : (rr == [110, 111])
            · have h2 : (rr == [119, 104, 97, 116]) = true := by
                have := Hbad.out; rw [h1] at this; simpa using this.symm
              clear Hbad hbI2
              have HIP := Lib.hid hIP; clear hIP
              have HB2 := Lib.hid hB2; clear hB2
              go_wp2
              go_roundw
              case rel => exact ⟨k + 1, sd + 1, fd + 1, pa, pm, pc, ⟨#[]⟩, by omega, by omega, by omega, Nat.zero_le _, rfl, rfl, by go_num, by go_num, by go_num, Lib.hid HS2.out, Lib.hid (by rw [HP2.out]; exact HIP.out), HB2⟩
              case measure => simp [intOf] <;> omega
            · clear Hbad hbI2
              have HIP := Lib.hid hIP; clear hIP
              have HB2 := Lib.hid hB2; clear hB2
              go_wp2
              go_roundw
              case rel => exact ⟨k + 1, sd + 1, fd + 1, pa, pm, pc, ⟨#[]⟩, by omega, by omega, by omega, Nat.zero_le _, rfl, rfl, by go_num, by go_num, by go_num, Lib.hid HS2.out, Lib.hid (by rw [HP2.out]; exact HIP.out), HB2⟩
              case measure => simp [intOf] <;> omega
        · obtain ⟨hS2, hP2⟩ := HS.out.ch hlt hc
          have hq : ¬ s[k].toNat = 10 := fun e => hc (UInt8.toNat_inj.1 e)
          have hq1 : ((s[k].toNat : Int) == 10) = false := by simp; omega
          have hq2 : ((s[k].toNat : Int) != 10) = true := by simp; omega
          have hq3 : ¬ (s[k].toNat : Int) = 10 := by omega
          have he1 : (s.extract k (k + 1)).size = 1 := by simp; omega
          have hno : ¬ (9223372036854775807 < L.size + 1) := by omega
          have HS2 := Lib.hid hS2; clear hS2
          have HP2 := Lib.hid hP2; clear hP2
          have Hc := Lib.hid hc; clear hc
          go_wp2
          go_roundw
          case rel => exact ⟨k + 1, sd, fd, a, m, c, _, by omega, by omega, by omega, by simp only [ByteArray.size_append]; omega, rfl, rfl, rfl, rfl, by go_num, Lib.hid HS2.out, Lib.hid (by rw [HP2.out]; exact HI.out), HB⟩
          case measure => simp [intOf] <;> omega
      · obtain ⟨r1, r2, r3⟩ := Hfn.out k sd fd L HS.out (by omega)
        have hsn : sd = n2 := by omega
        have hfn2 : fd = n5 := by omega
        subst hsn hfn2
        have hI9 := HI.out
        rw [r3] at hI9
        have hcx := xSame_any _ _ _ _ _ _ _ _ _ hI9 (HzI.out.keep HB.out)
        rw [decide_eq_true rfl] at hcx
        clear hI9
        have Hcx := Lib.hid hcx; clear hcx
        have R1 := Lib.hid r1; clear r1
        have R2 := Lib.hid r2; clear r2
        have R3 := Lib.hid r3; clear r3
        go_wp2_with fail
        with_reducible refine (Hcx.out).mono ?_
        rintro e w9 ⟨rfl, hb9⟩
        have hfin := belowTrans Acc.out (belowTrans HB.out hb9 (Nat.le_refl _)) (Nat.le_refl _)
        clear hb9
        have Hfin := Lib.hid hfin; clear hfin
        go_wp2
        go_ret
        exact ⟨rfl, Hfin.out⟩
end
end Go.Proofs.YtimmjimeldejjaaGreatDoor
