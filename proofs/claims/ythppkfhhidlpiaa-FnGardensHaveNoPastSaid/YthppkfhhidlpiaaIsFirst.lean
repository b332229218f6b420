/- Chapter 2: does a ring come first of all its turns. No condition. -/
import Derived.Test.YthppkfhhidlpiaaCmp
namespace Go.Proofs.Ythppkfhhidlpiaa
open Go.RowKit
set_option linter.unusedVariables false
set_option linter.unusedSimpArgs false
set_option maxRecDepth 20000

theorem isFirst_iff (bs : List Int) : isFirstB bs = true ↔ ∀ k, k < bs.length → cmpL (rotN k bs) bs ≤ 0 := by
  unfold isFirstB
  rw [List.all_eq_true]
  constructor
  · intro h k hk; simpa using h k (List.mem_range.2 hk)
  · intro h k hk; simpa using h k (List.mem_range.1 hk)

set_option maxHeartbeats 3200000 in
theorem isFirst_any (bs : List Int) (w : World) (h8' : bs.length ≤ 8) :
    Calls Try.prog 131 #[ringV bs] w fun e w' => e = .returned (.bool (isFirstB bs)) ∧ Below w.heap.size w w' := by
  obtain ⟨b0, b1, b2, b3, b4, b5, b6, b7, n, hr⟩ := R9.of h8'
  rw [hr.v]
  have h8 := hr.2.1
  have hw0 := rowNew [b0, b1, b2, b3, b4, b5, b6, b7, (n : Int)] _ 9 (heap_alloc_new w (.cells #[.int .i64 b0, .int .i64 b1, .int .i64 b2, .int .i64 b3, .int .i64 b4, .int .i64 b5, .int .i64 b6, .int .i64 b7, .int .i64 n] 76)) rfl rfl (by omega)
  have hba := belowAlloc w (.cells #[.int .i64 b0, .int .i64 b1, .int .i64 b2, .int .i64 b3, .int .i64 b4, .int .i64 b5, .int .i64 b6, .int .i64 b7, .int .i64 n] 76)
  have Hr := Lib.hid hr; clear hr
  have H8' := Lib.hid h8'; clear h8'
  go_enter Try.func131, Try.ntmps131
  go_wp2_with fail
  generalize (w.alloc (.cells #[.int .i64 b0, .int .i64 b1, .int .i64 b2, .int .i64 b3, .int .i64 b4, .int .i64 b5, .int .i64 b6, .int .i64 b7, .int .i64 n] 76)) = w0 at *
  generalize hBe : w.heap.size = B at *
  have HBe := Lib.hid hBe; clear hBe
  have hcells : ∀ w', Below w0.heap.size w0 w' → w'.cell? ⟨B, 0, none⟩ = some (.int .i64 b0) ∧ w'.cell? ⟨B, 1, none⟩ = some (.int .i64 b1) ∧ w'.cell? ⟨B, 2, none⟩ = some (.int .i64 b2) ∧ w'.cell? ⟨B, 3, none⟩ = some (.int .i64 b3) ∧ w'.cell? ⟨B, 4, none⟩ = some (.int .i64 b4) ∧
    w'.cell? ⟨B, 5, none⟩ = some (.int .i64 b5) ∧ w'.cell? ⟨B, 6, none⟩ = some (.int .i64 b6) ∧ w'.cell? ⟨B, 7, none⟩ = some (.int .i64 b7) ∧ w'.cell? ⟨B, 8, none⟩ = some (.int .i64 n) := fun w' hb => put9_cells (hw0.keep hb)
  have Hw0 := Lib.hid hw0; clear hw0
  have Hcells := Lib.hid hcells; clear hcells
  go_loopw [6] (fun i wr => ∃ k : Nat, k ≤ n ∧ i = .int .i64 k ∧ (∀ q, q < k → cmpL (rotN q bs) bs ≤ 0) ∧ Below w0.heap.size w0 wr) (fun i _ => n - (intOf i).toNat)
  case atStart => exact ⟨0, Nat.zero_le _, rfl, fun q hq => by omega, Below.refl _ _⟩
  case round =>
    obtain ⟨k, hk, rfl, hall, hb⟩ := hrel
    by_cases hlt : k < n
    · have htu := fun w => turned_any bs k w H8'.out (by omega)
      obtain ⟨d0, d1, d2, d3, d4, d5, d6, d7, n', hr2⟩ := R9.of (bs := rotN k bs) (by rw [rotN_length]; exact H8'.out)
      have hnn : n' = n := by have := hr2.1; rw [rotN_length, Hr.out.1] at this; exact this.symm
      subst hnn
      rw [Hr.out.v, hr2.v] at htu
      have hcmp : ∀ aA aB cA cB w, IntsAt w aA n' cA (rotN k bs) → IntsAt w aB n' cB bs → Calls Try.prog 172 #[.slice aA n' cA, .slice aB n' cB] w fun e w' => e = .returned (.int .i64 (cmpL (rotN k bs) bs)) ∧ w = w' :=
        fun aA aB cA cB w h1 h2 => compare_any aA aB n' n' cA cB _ _ w h1 h2
      have hiff := isFirst_iff bs
      obtain ⟨g0, g1, g2, g3, g4, g5, g6, g7, g8⟩ := Hcells.out wr hb
      have hrefl : Below wr.heap.size wr wr.drew := (Below.refl _ _).drew
      have hb0 : Below w0.heap.size w0 wr.drew := belowTrans hb hrefl (Nat.le_refl _)
      generalize hC : cmpL (rotN k bs) bs = C at *
      by_cases hpos : 0 < C
      · have hno : isFirstB bs = false := by
          cases hf : isFirstB bs with
          | false => rfl
          | true =>
            have := hiff.1 hf k (by rw [Hr.out.1]; exact hlt)
            omega
        have Htu := Lib.hid htu; clear htu
        have Hr2 := Lib.hid hr2; clear hr2
        have Hcmp := Lib.hid hcmp; clear hcmp
        have Hall := Lib.hid hall; clear hall
        have HC := Lib.hid hC; clear hC
        have Hno := Lib.hid hno; clear hno
        have Hiff := Lib.hid hiff; clear hiff
        go_wp2_with fail
        go_region_law (first | (go_simp; with_reducible refine (Htu.out wr.drew).mono ?_; rintro e wT ⟨rfl, hT⟩; have hT0 : Below w0.heap.size w0 wT := belowTrans hb0 hT (Nat.le_refl _); obtain ⟨t0, t1, t2, t3, t4, t5, t6, t7, t8⟩ := Hcells.out wT hT0) | (go_simp; with_reducible refine (Hr2.out.list wT).mono ?_; rintro e wA ⟨aA, cA, rfl, hoA, hA⟩; have hA0 : Below w0.heap.size w0 wA := belowTrans hT0 hA (Nat.le_refl _); obtain ⟨v0, v1, v2, v3, v4, v5, v6, v7, v8⟩ := Hcells.out wA hA0) | (go_simp; with_reducible refine (Hr.out.list wA).mono ?_; rintro e wB ⟨aB, cB, rfl, hoB, hB⟩; have hB0 : Below w0.heap.size w0 wB := belowTrans hA0 hB (Nat.le_refl _)) | (go_simp; with_reducible refine (Hcmp.out aA aB cA cB wB (hoA.at.keep hB) hoB.at).mono ?_; rintro e wZ ⟨rfl, rfl⟩))
        all_goals
          clear hoA hoB
          go_wp2_with fail
          go_ret
          rw [HBe.out]
          exact ⟨by rw [Hno.out]; rfl, hba.trans (hB0.mono (by rw [← HBe.out]; exact hba.size))⟩
      · have hle : C ≤ 0 := by omega
        have hall2 : ∀ q, q < k + 1 → cmpL (rotN q bs) bs ≤ 0 := fun q hq => by
          by_cases e : q = k
          · subst e; rw [hC]; exact hle
          · exact hall q (by omega)
        have Htu := Lib.hid htu; clear htu
        have Hr2 := Lib.hid hr2; clear hr2
        have Hcmp := Lib.hid hcmp; clear hcmp
        have Hall := Lib.hid hall; clear hall
        have HC := Lib.hid hC; clear hC
        have Hall2 := Lib.hid hall2; clear hall2
        have Hiff := Lib.hid hiff; clear hiff
        go_wp2_with fail
        go_region_law (first | (go_simp; with_reducible refine (Htu.out wr.drew).mono ?_; rintro e wT ⟨rfl, hT⟩; have hT0 : Below w0.heap.size w0 wT := belowTrans hb0 hT (Nat.le_refl _); obtain ⟨t0, t1, t2, t3, t4, t5, t6, t7, t8⟩ := Hcells.out wT hT0) | (go_simp; with_reducible refine (Hr2.out.list wT).mono ?_; rintro e wA ⟨aA, cA, rfl, hoA, hA⟩; have hA0 : Below w0.heap.size w0 wA := belowTrans hT0 hA (Nat.le_refl _); obtain ⟨v0, v1, v2, v3, v4, v5, v6, v7, v8⟩ := Hcells.out wA hA0) | (go_simp; with_reducible refine (Hr.out.list wA).mono ?_; rintro e wB ⟨aB, cB, rfl, hoB, hB⟩; have hB0 : Below w0.heap.size w0 wB := belowTrans hA0 hB (Nat.le_refl _)) | (go_simp; with_reducible refine (Hcmp.out aA aB cA cB wB (hoA.at.keep hB) hoB.at).mono ?_; rintro e wZ ⟨rfl, rfl⟩))
        all_goals
          clear hoA hoB
          go_wp2_with fail
          go_roundw
          case rel => exact ⟨k + 1, by omega, by go_num, Hall2.out, hB0⟩
          case measure => simp [intOf]; omega
    · have hk' : k = n := by omega
      subst hk'
      have hyes : isFirstB bs = true := (isFirst_iff bs).2 (fun q hq => hall q (by rw [Hr.out.1] at hq; exact hq))
      obtain ⟨g0, g1, g2, g3, g4, g5, g6, g7, g8⟩ := Hcells.out wr hb
      have Hyes := Lib.hid hyes; clear hyes
      have Hall := Lib.hid hall; clear hall
      go_wp2_with fail
      go_ret
      rw [HBe.out]
      exact ⟨by rw [Hyes.out]; rfl, hba.trans (hb.mono (by rw [← HBe.out]; exact hba.size))⟩
end Go.Proofs.Ythppkfhhidlpiaa
