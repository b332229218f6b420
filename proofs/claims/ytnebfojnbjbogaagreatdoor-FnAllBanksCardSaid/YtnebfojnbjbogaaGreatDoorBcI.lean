/- BankPasts by the program. No condition. -/
import Derived.Test.YtnebfojnbjbogaaGreatDoorGf
import Derived.Test.YtnebfojnbjbogaaGreatDoorGg
import Derived.Test.YtnebfojnbjbogaaGreatDoorGe
import Derived.Test.YtnebfojnbjbogaaGreatDoorGh
namespace Go.Proofs.YtnebfojnbjbogaaGreatDoor
open Go.RowKit
set_option linter.unusedVariables false
set_option linter.unusedSimpArgs false
set_option maxRecDepth 20000

/-- what follows is proved once: every way through a region that draws is brought to it -/
theorem cutP2 {P Q : Prop} (f : Hid P → Q) (p : P) : Q := f (Lib.hid p)
theorem range_snoc (f : Nat → Bk) (k : Nat) : (List.range (k + 1)).map f = (List.range k).map f ++ [f k] := by
  rw [List.range_succ, List.map_append]; rfl
set_option maxHeartbeats 3200000 in
set_option maxRecDepth 100000 in
theorem impl_BankPasts (h l : Int) (ao : Option Addr) (n cap : Nat) (xs : List Int) (w : World) (hA : IntsAt w ao n cap xs) :
    Calls Tryz.prog 10 #[.agg #[.int .i64 h, .int .i64 l, .slice ao n cap]] w fun e w' => ∃ a m c, e = .returned (.tuple #[.slice a m c, .bool (mBankPasts ⟨h, l, xs⟩).2]) ∧ BksOwn w.heap.size w'.heap.size w' a m c (mBankPasts ⟨h, l, xs⟩).1 ∧ Below w.heap.size w w' := by
  have hb0 := belowAlloc w (.cells #[.int .i64 h, .int .i64 l, .slice ao n cap] 32)
  have hA0 := hA.keep hb0
  have k0 := Blk.new w h l ao n cap 32
  have hcon := isBank_any h l ao n cap xs (w.alloc (.cells #[.int .i64 h, .int .i64 l, .slice ao n cap] 32)) hA0
  unfold bankV at hcon
  by_cases hk : BankOk ⟨h, l, xs⟩
  · rw [bank_iff.2 hk] at hcon
    have hG : Good xs := hk.2.2.1
    have h1 : 1 ≤ h ∧ h ≤ 10 := hk.1
    have h2 : 0 ≤ l ∧ l ≤ h - 1 := hk.2.1
    have hsum : 0 ≤ xs.sum ∧ xs.sum ≤ 28 ∧ (xs.length : Int) ≤ xs.sum := hk.sum
    have hcw := fun U (q : IntsAt U ao n cap xs) => cardsWith_any h l ao n cap xs U q hG (by omega)
    unfold bankV at hcw
    have hln := hA.length
    by_cases h14 : l + xs.sum ≤ 14
    · obtain ⟨H, rfl⟩ := Int.eq_ofNat_of_zero_le (show 0 ≤ h by omega)
      obtain ⟨L, rfl⟩ := Int.eq_ofNat_of_zero_le h2.1
      obtain ⟨N, hN⟩ := Int.eq_ofNat_of_zero_le (show 0 ≤ (L : Int) + xs.sum by omega)
      have hm := mBankPasts_yes hk hN (by omega)
      rw [pasts_all hk hN] at hm
      have hle : ∀ x ∈ xs, 1 ≤ x ∧ x ≤ (H : Int) := fun x hx => hk.le (b := ⟨(H : Int), (L : Int), xs⟩) hx
      have hos := oldP_sum (H : Int) xs
      have hol := oldP_length (H : Int) xs
      have hoP := fun x (hx : x ∈ oldP (H : Int) xs) => hle x (oldP_mem hx).1
      have ho0 := sum_nonneg (fun x hx => (hoP x hx).1 : ∀ x ∈ oldP (H : Int) xs, 1 ≤ x)
      rw [hln] at hm hos hol
      generalize hO : oldP (H : Int) xs = O at *
      obtain ⟨m, hmO⟩ : ∃ m, m = O.length := ⟨_, rfl⟩
      rw [← hmO] at hm hos hol ho0
      generalize hS : xs.sum = S at *
      have hcast : (((n - m : Nat) : Nat) : Int) = (n : Int) - (m : Int) := by omega
      rw [hcast] at hos
      have hIc : (((n - m) * H + L : Nat) : Int) = ((n : Int) - (m : Int)) * (H : Int) + (L : Int) := by
        rw [Int.natCast_add, Int.natCast_mul, hcast]
      have hp0 : 0 ≤ ((n : Int) - (m : Int)) * (H : Int) := Int.mul_nonneg (by omega) (by omega)
      generalize hI : (n - m) * H + L = I at *
      have hI14 : I ≤ 14 := by omega
      have hwr : wrap64 (wrap64 (((n : Int) - (m : Int)) * (H : Int)) + (L : Int)) = (I : Int) := by
        rw [show wrap64 (((n : Int) - (m : Int)) * (H : Int)) = ((n : Int) - (m : Int)) * (H : Int) from IntWalk.wrap64_in _ (by omega), IntWalk.wrap64_in _ (by omega)]
        exact hIc.symm
      have hd14 : decide (14 < (L : Int) + S) = false := decide_eq_false (by omega)
      have hTe : ∀ k, k < min H (I + 1 - m) ↔ (k < H ∧ k + m ≤ I) := fun k => by omega
      have hTH : min H (I + 1 - m) ≤ H := by omega
      have hpb : ∀ k, pastB H k O I = ⟨(H : Int), (k : Int), O.map (· + 1) ++ List.replicate (I - k - m) 1⟩ := fun k => by unfold pastB befP; rw [← hmO]
      generalize hT : min H (I + 1 - m) = T at *
      have hn28 : n ≤ 28 := by omega
      have hm28 : m ≤ n := by omega
      have hH10 : H ≤ 10 := by omega
      obtain ⟨⟨x0, x1, x2⟩, y0, y1, y2⟩ := k0.cells
      clear hk hle hsum hN
      have Hcon := Lib.hid hcon; clear hcon
      have Hcw := Lib.hid hcw; clear hcw
      have Hm := Lib.hid hm; clear hm
      have Hb0 := Lib.hid hb0; clear hb0
      have HA0 := Lib.hid hA0; clear hA0
      have K0 := Lib.hid k0; clear k0
      have HG := Lib.hid hG; clear hG
      have Hos := Lib.hid hos; clear hos
      have HIc := Lib.hid hIc; clear hIc
      have Hwr := Lib.hid hwr; clear hwr
      have HO := Lib.hid hO; clear hO
      have HmO := Lib.hid hmO; clear hmO
      have HI := Lib.hid hI; clear hI
      have HTe := Lib.hid hTe; clear hTe
      have Hpb := Lib.hid hpb; clear hpb
      have HoP := Lib.hid hoP; clear hoP
      have Hln := Lib.hid hln; clear hln
      have HT := Lib.hid hT; clear hT
      have HS := Lib.hid hS; clear hS
      have Hcast := Lib.hid hcast; clear hcast
      go_enter Tryz.func10, Tryz.ntmps10
      go_wp2_with fail
      with_reducible refine ((Hcon.out)).mono ?_
      rintro e w1 ⟨rfl, hb1⟩
      have k1 := K0.out.keep hb1
      have hI1 := HA0.out.keep hb1
      have hbb1 := belowTrans Hb0.out hb1 (Nat.le_refl _)
      clear x0 x1 x2 y0 y1 y2
      obtain ⟨⟨x0, x1, x2⟩, y0, y1, y2⟩ := k1.cells
      have K1 := Lib.hid k1; clear k1
      have HI1 := Lib.hid hI1; clear hI1
      have Hbb1 := Lib.hid hbb1; clear hbb1
      clear hb1
      go_wp2_with fail
      with_reducible refine ((Hcw.out w1 HI1.out)).mono ?_
      rintro e w2 ⟨rfl, hb2⟩
      have k2 := K1.out.keep hb2
      have hI2 := HI1.out.keep hb2
      have hbb2 := belowTrans Hbb1.out hb2 (Nat.le_refl _)
      clear x0 x1 x2 y0 y1 y2 HI1 Hbb1 K1
      obtain ⟨⟨x0, x1, x2⟩, y0, y1, y2⟩ := k2.cells
      have hmf : ∀ (fn : Fn) (first cap : Array Value) (w : World), (Instr.makeFunc fn first cap).run Tryz.prog w = .ok (.func fn first cap) w := fun _ _ _ _ => rfl
      have hcp := copyOf_any ao n cap xs w2 hI2 (by omega)
      have K2 := Lib.hid k2; clear k2
      have HI2 := Lib.hid hI2; clear hI2
      have Hbb2 := Lib.hid hbb2; clear hbb2
      have Hcp := Lib.hid hcp; clear hcp
      clear hb2
      go_wp2_with fail
      with_reducible refine (Hcp.out).mono ?_
      rintro e w3 ⟨a3, c3, rfl, ho3, hb3⟩
      have k3 := K2.out.keep hb3
      have hbb3 := belowTrans Hbb2.out hb3 (Nat.le_refl _)
      have hsz2 : w.heap.size < w2.heap.size := K2.out.size
      have hsz3 : w2.heap.size ≤ w3.heap.size := hb3.size
      clear x0 x1 x2 y0 y1 y2
      obtain ⟨⟨x0, x1, x2⟩, y0, y1, y2⟩ := k3.cells
      have hdl := delNew_any w2.heap.size w3.heap.size w.heap.size (H : Int) a3 n c3 xs w3 ho3 (by omega) (Nat.le_refl _) hsz3 hsz2 x0
      rw [HO.out] at hdl
      unfold newF at hdl
      clear ho3 hb3 hmf
      have K3 := Lib.hid k3; clear k3
      have Hbb3 := Lib.hid hbb3; clear hbb3
      have Hdl := Lib.hid hdl; clear hdl
      go_wp2_with fail
      with_reducible refine (Hdl.out).mono ?_
      rintro e w4 ⟨m', rfl, ho4, hb4⟩
      obtain rfl : m = m' := by rw [HmO.out]; exact ho4.length
      have k4 : Blk w4 w.heap.size (H : Int) (L : Int) ao n cap 32 := by
        have := hb4.block w.heap.size hsz2
        unfold Blk
        rw [this]
        exact K3.out
      have hbb4 := Hbb3.out.trans (hb4.mono (Nat.le_of_lt hsz2))
      have hsz4 : w3.heap.size ≤ w4.heap.size := hb4.size
      have hoA := ho4.at
      clear x0 x1 x2 y0 y1 y2 hb4 ho4
      obtain ⟨⟨x0, x1, x2⟩, y0, y1, y2⟩ := k4.cells
      have K4 := Lib.hid k4; clear k4
      have Hbb4 := Lib.hid hbb4; clear hbb4
      have HoA := Lib.hid hoA; clear hoA
      obtain ⟨wo, hwo⟩ : ∃ wo : World, wo = w4 := ⟨_, rfl⟩
      subst hwo
      go_wp2_with fail
      rw [Hwr.out]
      clear x0 x1 x2 y0 y1 y2
      have Hd14 := Lib.hid hd14; clear hd14
      go_loopw [8, 9] (fun v i wr => ∃ (k : Nat) (a : Option Addr) (c : Nat), k ≤ T ∧ i = .int .i64 k ∧ v = .slice a k c ∧ Hid (BksOwn wo.heap.size wr.heap.size wr a k c ((List.range k).map fun l => pastB H l O I)) ∧ Hid (Below wo.heap.size wo wr)) (fun _ i _ => T - (intOf i).toNat)
      case atStart => exact ⟨0, none, 0, Nat.zero_le _, rfl, rfl, Lib.hid (BksOwn.nil _ _ _), Lib.hid (Below.refl _ _)⟩
      case round =>
        obtain ⟨k, a, c, hk, rfl, rfl, Hr, Hbr⟩ := hrel
        have kr := K4.out.keep Hbr.out
        have hor := HoA.out.keep Hbr.out
        have hbsz := Hbr.out.size
        obtain ⟨⟨x0, x1, x2⟩, y0, y1, y2⟩ := kr.cells
        by_cases hlt : k < T
        · obtain ⟨hkH, hkI⟩ := (HTe.out k).1 hlt
          have hkHi : (k : Int) < H := by omega
          have hkIi : (m : Int) ≤ (I : Int) - k := by omega
          have hkI2 : (0 : Int) ≤ (I : Int) - k := by omega
          have hwrap : IntKind.i64.wrap ((I : Int) - (k : Int)) = (I : Int) - (k : Int) := IntWalk.i64_in _ (by omega)
          have ecast : ((I - k : Nat) : Int) = (I : Int) - (k : Int) := by omega
          have hbs := beforeStep_any a3 m c3 O (I - k) wr.drew hor.drewB (by omega) (by omega) (fun x hx => by have := HoP.out x hx; omega)
          rw [ecast] at hbs
          obtain ⟨t, ht⟩ : ∃ t, t = I - k := ⟨_, rfl⟩
          have hpk := Hpb.out k
          rw [← ht] at hbs hpk
          have hsn := range_snoc (fun l => pastB H l O I) k
          (try simp only at hsn)
          rw [hpk] at hsn
          generalize hPL : O.map (· + 1) ++ List.replicate (t - m) 1 = PL at *
          clear hkH hkI
          have Hbs := Lib.hid hbs; clear hbs
          have Hsn := Lib.hid hsn; clear hsn
          have Ecast := Lib.hid ecast; clear ecast
          have Hpk := Lib.hid hpk; clear hpk
          have Ht := Lib.hid ht; clear ht
          have HPL := Lib.hid hPL; clear hPL
          have Kr := Lib.hid kr; clear kr
          have Hor := Lib.hid hor; clear hor
          go_wp2_with fail
          have hkn : k ≤ 1048576 := by omega
          have hdz : wr.drew.heap.size = wr.heap.size := by simp
          refine' cutP2 (fun key => ?main) ?pf
          case main =>
            go_region_law (first | (go_simp; with_reducible refine (Hbs.out).mono ?_; rintro e w5 ⟨a5, c5, rfl, hp5, hb5⟩; rw [hdz] at hp5; have Hp5 := Lib.hid hp5; have hw5 := belowTrans (Below.refl wr.heap.size wr).drew hb5 (Nat.le_refl _); have Hb5 := Lib.hid (belowTrans Hbr.out hw5 (Nat.le_refl _)); have Ho5 : Hid (BksOwn wo.heap.size wr.heap.size w5 a k c ((List.range k).map fun l => pastB H l O I)) := Lib.hid (Hr.out.keep hw5); have hs5 := hw5.size; obtain ⟨⟨u0, u1, u2⟩, v0, v1, v2⟩ := (Kr.out.keep hw5).cells; clear hp5 hb5 hw5) | (refine step_pushBk w5 rfl (.tmp 51) (.tmp 61) rfl wo.heap.size wr.heap.size w5.heap.size a k c ((List.range k).map fun l => pastB H l O I) rfl Ho5.out (H : Int) (k : Int) a5 t c5 PL Hp5.out hbsz hs5 (Nat.le_refl _) rfl hkn ?_; intro a6 c6 w6 ho6 hc6; have Hb6 := Lib.hid (Hb5.out.trans (Ho5.out.chgBelow hc6 Hb5.out.size)); have Ho6 := Lib.hid ho6; clear ho6 hc6 Ho5 Hb5 Hp5 u0 u1 u2 v0 v1 v2 hs5))
            all_goals
              revert w5 a5 c5 a6 c6 w6
              exact key.out
          case pf =>
            intro w5 a5 c5 a6 c6 w6 Hb6 Ho6
            clear x0 x1 x2 y0 y1 y2
            go_wp2
            go_roundw
            case rel => exact ⟨k + 1, a6, c6, by omega, by go_num, rfl, Lib.hid (by rw [Hsn.out]; exact Ho6.out), Hb6⟩
            case measure => simp [intOf] <;> omega
        · obtain rfl : k = T := by omega
          have hfin : BksOwn w.heap.size wr.heap.size wr a k c ((List.range k).map fun l => pastB H l O I) := Hr.out.mono (by omega) (Nat.le_refl _)
          have hbf := belowTrans Hbb4.out Hbr.out (Nat.le_refl _)
          have hne := fun q => hlt ((HTe.out k).2 q)
          by_cases hkH : k < H
          · have hkHi : (k : Int) < H := by omega
            have hkIi : ¬ (m : Int) ≤ (I : Int) - k := fun e => hne ⟨hkH, by omega⟩
            have Hfin := Lib.hid hfin; clear hfin
            have Hbf := Lib.hid hbf; clear hbf
            have Hne := Lib.hid hne; clear hne
            go_wp2
            go_ret2
            rw [Hm.out]
            exact ⟨_, _, _, rfl, Hfin.out, Hbf.out⟩
          · have hkHi : ¬ (k : Int) < H := by omega
            have Hfin := Lib.hid hfin; clear hfin
            have Hbf := Lib.hid hbf; clear hbf
            have Hne := Lib.hid hne; clear hne
            go_wp2
            go_ret2
            rw [Hm.out]
            exact ⟨_, _, _, rfl, Hfin.out, Hbf.out⟩
    · have hm := mBankPasts_no (b := ⟨h, l, xs⟩) (fun q => h14 q.2)
      generalize hS : xs.sum = S at *
      have hd14 : decide (14 < l + S) = true := decide_eq_true (by omega)
      obtain ⟨⟨x0, x1, x2⟩, y0, y1, y2⟩ := k0.cells
      clear hk
      have Hcon := Lib.hid hcon; clear hcon
      have Hcw := Lib.hid hcw; clear hcw
      have Hm := Lib.hid hm; clear hm
      have Hb0 := Lib.hid hb0; clear hb0
      have HA0 := Lib.hid hA0; clear hA0
      have K0 := Lib.hid k0; clear k0
      have HG := Lib.hid hG; clear hG
      have Hln := Lib.hid hln; clear hln
      have HS := Lib.hid hS; clear hS
      go_enter Tryz.func10, Tryz.ntmps10
      go_wp2_with fail
      with_reducible refine ((Hcon.out)).mono ?_
      rintro e w1 ⟨rfl, hb1⟩
      have k1 := K0.out.keep hb1
      have hI1 := HA0.out.keep hb1
      have hbb1 := belowTrans Hb0.out hb1 (Nat.le_refl _)
      clear x0 x1 x2 y0 y1 y2
      obtain ⟨⟨x0, x1, x2⟩, y0, y1, y2⟩ := k1.cells
      have K1 := Lib.hid k1; clear k1
      have HI1 := Lib.hid hI1; clear hI1
      have Hbb1 := Lib.hid hbb1; clear hbb1
      clear hb1
      go_wp2_with fail
      with_reducible refine ((Hcw.out w1 HI1.out)).mono ?_
      rintro e w2 ⟨rfl, hb2⟩
      have hbb2 := belowTrans Hbb1.out hb2 (Nat.le_refl _)
      go_wp2
      go_ret2
      rw [Hm.out]
      exact ⟨none, 0, 0, rfl, BksOwn.nil _ _ _, hbb2⟩
  · have hm := mBankPasts_no (b := ⟨h, l, xs⟩) (fun q => hk q.1)
    rw [bank_no.2 hk] at hcon
    obtain ⟨⟨x0, x1, x2⟩, y0, y1, y2⟩ := k0.cells
    have Hcon := Lib.hid hcon; clear hcon
    have Hm := Lib.hid hm; clear hm
    have Hb0 := Lib.hid hb0; clear hb0
    have HA0 := Lib.hid hA0; clear hA0
    have K0 := Lib.hid k0; clear k0
    have Hk := Lib.hid hk; clear hk
    go_enter Tryz.func10, Tryz.ntmps10
    go_wp2_with fail
    with_reducible refine ((Hcon.out)).mono ?_
    rintro e w1 ⟨rfl, hb1⟩
    have hbb1 := belowTrans Hb0.out hb1 (Nat.le_refl _)
    go_wp2
    go_ret2
    rw [Hm.out]
    exact ⟨none, 0, 0, rfl, BksOwn.nil _ _ _, hbb1⟩
end Go.Proofs.YtnebfojnbjbogaaGreatDoor
