/- Contracts: impl's coefficients.turn and turnBack. Conditions: a length of at most 3, a nail, coefficients that are small. -/
import Derived.Test.YtnmjanhpjnlfcaaBdWindKit
import Derived.StillTailTactics
namespace Go.Proofs.Ytnmjanhpjnlfcaa
open Go.ChangeShapes Go.WideShapes Go.ChangeAt Go.RowKit
set_option linter.unusedVariables false

set_option maxRecDepth 100000 in
set_option maxHeartbeats 2000000 in
theorem turn_any (G l n : Nat) (c : Nat → Int) (w : World) (h : Hid (CoefAt w G l (Plain.cutC (Plain.cntL (l + 1)) c))) (hs : Hid (Plain.Small c)) (hl : l ≤ 3) (h1 : 1 ≤ n) (h6 : n ≤ 6) :
    Calls Try.prog 49 #[.pointer (some ⟨G, 0, none⟩), .int .i64 (n : Int)] w fun e w' => e = .returned (.tuple #[]) ∧ CoefAt w' G l (Plain.cutC (Plain.cntL (l + 1)) (Plain.upC n c)) ∧ Below G w w' := by
  have c0 := h.out.len
  have hC := Plain.cntL_le hl
  have hS : Plain.cntL (l + 1) = 1 + 6 * Plain.cntL l := rfl
  obtain ⟨C, hCC⟩ : ∃ C, C = Plain.cntL l := ⟨_, rfl⟩
  have hC43 : C ≤ 43 := by omega
  have HC := Lib.hid hCC
  have HS := Lib.hid hS
  clear hS hCC hC
  go_enter Try.func49, Try.ntmps49
  go_wp2_with fail
  refine (countLists_any l _ (by omega)).mono ?_
  rw [← HC.out]
  rintro e w' ⟨rfl, rfl⟩
  go_wp2_with fail
  go_loopw [4] (fun i wr => ∃ k : Nat, k ≤ C ∧ i = .int .i64 ((k : Int) - 1) ∧ CoefAt wr G l (Plain.cutC (Plain.cntL (l + 1)) (Plain.midUp n c k)) ∧ Below G w' wr) (fun i _ => (intOf i + 1).toNat)
  case atStart =>
    refine ⟨C, Nat.le_refl _, rfl, h.out.cong fun q hq => ?_, Below.refl _ _⟩
    unfold Plain.cutC
    by_cases hm : q < Plain.cntL (l + 1)
    · rw [if_pos hm, if_pos hm, HC.out, Plain.midUp_start hm]
    · rw [if_neg hm, if_neg hm]
  case round =>
    obtain ⟨k, hk, rfl, hrel, hb⟩ := hrel
    have HR := Lib.hid hrel
    have HB := Lib.hid hb
    clear hrel hb
    cases k with
    | zero =>
      go_wp2_with fail
      go_end0
      refine ⟨rfl, ?_, HB.out⟩
      rw [← Plain.midUp_end]
      exact HR.out
    | succ j =>
      have hm := Plain.cntL_le hl
      obtain ⟨P, hP⟩ : ∃ P, P = 6 * j + n := ⟨_, rfl⟩
      have HP := Lib.hid hP
      have hq : P < Plain.cntL (l + 1) := by rw [HS.out, ← HC.out]; omega
      have e1 := HR.out.cell (k := P) (by omega)
      have e2 := HR.out.cell (k := j) (by omega)
      rw [Plain.cutC_in hq, hP, Plain.midUp_read2 h1 h6, ← hP] at e1
      rw [Plain.cutC_in (by omega), Plain.midUp_read] at e2
      have ef := HR.out.free (1 + P)
      have s1 := hs.out P (by omega)
      have s2 := hs.out j (by omega)
      have hP1 : (P : Int) < 259 := by omega
      have hP0 : (0 : Int) ≤ (P : Int) := by omega
      have hj1 : (j : Int) < 259 := by omega
      have hj0 : (0 : Int) ≤ (j : Int) := by omega
      have HN : Hid (CoefAt (wr.setCell ⟨G, 1 + P, none⟩ (.int .i64 (c P + c j))) G l (Plain.cutC (Plain.cntL (l + 1)) (Plain.midUp n c j))) := Lib.hid (HR.out.set _ (by omega) fun q hq2 => by
        unfold Plain.cutC
        by_cases hqm : q < Plain.cntL (l + 1)
        · rw [if_pos hqm, if_pos hqm, Plain.midUp_step h1 h6, hP]
        · rw [if_neg hqm, if_neg hqm, if_neg (by omega)])
      have HNB : Hid (Below G w' (wr.setCell ⟨G, 1 + P, none⟩ (.int .i64 (c P + c j)))) := Lib.hid (HB.out.setCell (p := ⟨G, 1 + P, none⟩) (Nat.le_refl _) _)
      clear HR HB hq hm hP
      generalize c P = x1 at e1 s1 HN HNB
      generalize c j = x2 at e2 s2 HN HNB
      go_wp2_with fail
      have d1 : wr.drew.cell? ⟨G, 1 + P, none⟩ = some (.int .i64 x1) := e1
      have d2 : wr.drew.cell? ⟨G, 1 + j, none⟩ = some (.int .i64 x2) := e2
      have df : wr.drew.frozen? ⟨G, 1 + P, none⟩ = false := ef
      have HN2 : Hid (CoefAt (wr.drew.setCell ⟨G, 1 + P, none⟩ (.int .i64 (x1 + x2))) G l (Plain.cutC (Plain.cntL (l + 1)) (Plain.midUp n c j))) := Lib.hid HN.out
      have HB2 : Hid (Below G w' (wr.drew.setCell ⟨G, 1 + P, none⟩ (.int .i64 (x1 + x2)))) := Lib.hid HNB.out.drew
      clear e1 e2 ef HN HNB
      refine wp_region_still_tail 18 (by kernel_rfl) (by kernel_rfl) ?_
      simp only [List.take_succ_cons, List.take_zero, List.drop_succ_cons, List.drop_zero]
      change wpStill _ _ (World.drew _) (fun a' => wpList _ _ _ _ a' (World.drew _)) _ _
      generalize (World.drew _) = V at d1 d2 df HN2 HB2 ⊢
      repeat still_step
      still_call (placeBehind_is j n P V (by omega) (by omega) HP)
      repeat still_step
      refine wpStill_nil ?_
      go_wp2_with fail
      go_roundw
      case rel => exact ⟨j, by omega, by go_num, HN2.out, HB2.out⟩
      case measure => simp [intOf]

set_option maxRecDepth 100000 in
set_option maxHeartbeats 2000000 in
theorem turnBack_any (G l n : Nat) (c : Nat → Int) (w : World) (h : Hid (CoefAt w G l (Plain.cutC (Plain.cntL (l + 1)) c))) (hs : Hid (Plain.Small c)) (hd : Hid (Plain.Small (Plain.dnC n c))) (hl : l ≤ 3) (h1 : 1 ≤ n) (h6 : n ≤ 6) :
    Calls Try.prog 50 #[.pointer (some ⟨G, 0, none⟩), .int .i64 (n : Int)] w fun e w' => e = .returned (.tuple #[]) ∧ CoefAt w' G l (Plain.cutC (Plain.cntL (l + 1)) (Plain.dnC n c)) ∧ Below G w w' := by
  have c0 := h.out.len
  have hC := Plain.cntL_le hl
  have hS : Plain.cntL (l + 1) = 1 + 6 * Plain.cntL l := rfl
  obtain ⟨C, hCC⟩ : ∃ C, C = Plain.cntL l := ⟨_, rfl⟩
  have hC43 : C ≤ 43 := by omega
  have HC := Lib.hid hCC
  have HS := Lib.hid hS
  clear hS hCC hC
  go_enter Try.func50, Try.ntmps50
  go_wp2_with fail
  refine (countLists_any l _ (by omega)).mono ?_
  rw [← HC.out]
  rintro e w' ⟨rfl, rfl⟩
  go_wp2_with fail
  go_loopw [11] (fun i wr => ∃ k : Nat, k ≤ C ∧ i = .int .i64 (k : Int) ∧ CoefAt wr G l (Plain.cutC (Plain.cntL (l + 1)) (Plain.midDn n c k)) ∧ Below G w' wr) (fun i _ => C - (intOf i).toNat)
  case atStart =>
    refine ⟨0, Nat.zero_le _, rfl, ?_, Below.refl _ _⟩
    rw [Plain.midDn_start]
    exact h.out
  case round =>
    obtain ⟨j, hk, rfl, hrel, hb⟩ := hrel
    have HR := Lib.hid hrel
    have HB := Lib.hid hb
    clear hrel hb
    by_cases hlt : j < C
    · have hm := Plain.cntL_le hl
      obtain ⟨P, hP⟩ : ∃ P, P = 6 * j + n := ⟨_, rfl⟩
      have HP := Lib.hid hP
      have hq : P < Plain.cntL (l + 1) := by rw [HS.out, ← HC.out]; omega
      have e1 := HR.out.cell (k := P) (by omega)
      have e2 := HR.out.cell (k := j) (by omega)
      rw [Plain.cutC_in hq, hP, Plain.midDn_read2 h1 h6, ← hP] at e1
      rw [Plain.cutC_in (by omega), Plain.midDn_read (by omega)] at e2
      have ef := HR.out.free (1 + P)
      have s1 := hs.out P (by omega)
      have s2 := hd.out j (by omega)
      have hP1 : (P : Int) < 259 := by omega
      have hP0 : (0 : Int) ≤ (P : Int) := by omega
      have hj1 : (j : Int) < 259 := by omega
      have hj0 : (0 : Int) ≤ (j : Int) := by omega
      have HN : Hid (CoefAt (wr.setCell ⟨G, 1 + P, none⟩ (.int .i64 (c P - Plain.dnC n c j))) G l (Plain.cutC (Plain.cntL (l + 1)) (Plain.midDn n c (j + 1)))) := Lib.hid (HR.out.set _ (by omega) fun q hq2 => by
        unfold Plain.cutC
        by_cases hqm : q < Plain.cntL (l + 1)
        · rw [if_pos hqm, if_pos hqm, Plain.midDn_step h1 h6 (by omega), hP]
        · rw [if_neg hqm, if_neg hqm, if_neg (by omega)])
      have HNB : Hid (Below G w' (wr.setCell ⟨G, 1 + P, none⟩ (.int .i64 (c P - Plain.dnC n c j)))) := Lib.hid (HB.out.setCell (p := ⟨G, 1 + P, none⟩) (Nat.le_refl _) _)
      clear HR HB hq hm hP
      generalize c P = x1 at e1 s1 HN HNB
      generalize Plain.dnC n c j = x2 at e2 s2 HN HNB
      have hij : (j : Int) < (C : Int) := by omega
      go_wp2_with fail
      have d1 : wr.drew.cell? ⟨G, 1 + P, none⟩ = some (.int .i64 x1) := e1
      have d2 : wr.drew.cell? ⟨G, 1 + j, none⟩ = some (.int .i64 x2) := e2
      have df : wr.drew.frozen? ⟨G, 1 + P, none⟩ = false := ef
      have HN2 : Hid (CoefAt (wr.drew.setCell ⟨G, 1 + P, none⟩ (.int .i64 (x1 - x2))) G l (Plain.cutC (Plain.cntL (l + 1)) (Plain.midDn n c (j + 1)))) := Lib.hid HN.out
      have HB2 : Hid (Below G w' (wr.drew.setCell ⟨G, 1 + P, none⟩ (.int .i64 (x1 - x2)))) := Lib.hid HNB.out.drew
      clear e1 e2 ef HN HNB
      refine wp_region_still_tail 18 (by kernel_rfl) (by kernel_rfl) ?_
      simp only [List.take_succ_cons, List.take_zero, List.drop_succ_cons, List.drop_zero]
      change wpStill _ _ (World.drew _) (fun a' => wpList _ _ _ _ a' (World.drew _)) _ _
      generalize (World.drew _) = V at d1 d2 df HN2 HB2 ⊢
      repeat still_step
      still_call (placeBehind_is j n P V (by omega) (by omega) HP)
      repeat still_step
      refine wpStill_nil ?_
      go_wp2_with fail
      go_roundw
      case rel => exact ⟨j + 1, by omega, by go_num, HN2.out, HB2.out⟩
      case measure => simp [intOf]; omega
    · obtain rfl : j = C := by omega
      go_wp2_with fail
      go_end0
      refine ⟨rfl, HR.out.cong fun q hq => ?_, HB.out⟩
      unfold Plain.cutC
      by_cases hm : q < Plain.cntL (l + 1)
      · rw [if_pos hm, if_pos hm, HC.out, Plain.midDn_end hl hm]
      · rw [if_neg hm, if_neg hm]

end Go.Proofs.Ytnmjanhpjnlfcaa
