/- Contract: spec.SwapTree. No condition (texts of any length). -/
import Derived.Test.YtoikehpnpealpaaWhole
namespace Go.Proofs.Ytoikehpnpealpaa
open Go.ChangeShapes Go.WideShapes Go.ChangeAt Go.RowKit
set_option linter.unusedVariables false

/-- A tree that begins with a bracket: what its first part is, and that both parts lie in the text. -/
theorem whole_cut {s : ByteArray} (h : wholeB s = true) : 0 < s.size ∧ s.size ≤ 80 ∧ (s.data.toList[0]? = some 91 → ∃ a b : Nat × Nat × Nat × Nat, readT s.size (s.data.toList.drop 1) = some a ∧ readT s.size (s.data.toList.drop (2 + a.1)) = some b ∧ s.size = 3 + a.1 + b.1) := by
  unfold wholeB at h
  cases hw : wholeT s with
  | none => rw [hw] at h; cases h
  | some t =>
    rw [hw] at h
    simp only [Bool.and_eq_true, decide_eq_true_eq] at h
    have ht := h.2
    unfold wholeT at hw
    split at hw
    · rename_i h80
      have hf := readT_fit _ _ _ hw
      refine ⟨by have := hf.2.1; omega, h80, fun h91 => ?_⟩
      rw [readT, h91] at hw
      have h0 : runLen s.data.toList = 0 := by
        cases hl : s.data.toList with
        | nil => rfl
        | cons c l =>
          rw [hl] at h91
          simp at h91
          subst h91
          rfl
      rw [h0] at hw
      simp only [ne_eq, not_true_eq_false, if_false, if_true] at hw
      cases ha : readT s.size (s.data.toList.drop 1) with
      | none => rw [ha] at hw; cases hw
      | some a =>
        rw [ha] at hw
        simp only at hw
        split at hw
        · cases hb : readT s.size (s.data.toList.drop (2 + a.1)) with
          | none => rw [hb] at hw; cases hw
          | some b =>
            rw [hb] at hw
            simp only at hw
            split at hw
            · cases hw
              exact ⟨a, b, rfl, hb, by simp only at ht; omega⟩
            · cases hw
        · cases hw
    · cases hw

/-- The text with the two parts of its tree changed about. -/
def swapS (s : ByteArray) : ByteArray × Bool := if wholeB s = true ∧ s.data.toList[0]? = some 91 then (match readT s.size (s.data.toList.drop 1) with
  | some a => (⟨#[91]⟩ ++ s.extract (2 + a.1) (s.size - 1) ++ ⟨#[44]⟩ ++ s.extract 1 (1 + a.1) ++ ⟨#[93]⟩, true)
  | none => (⟨#[]⟩, false)) else (⟨#[]⟩, false)

set_option maxRecDepth 100000 in
set_option maxHeartbeats 2000000 in
theorem specSwapTree_any (s : ByteArray) (w : World) : Calls Try.prog 35 #[.string s] w fun e w' => e = .returned (.tuple #[.string (swapS s).1, .bool (swapS s).2]) ∧ Below w.heap.size w w' := by
  obtain ⟨ok, hok⟩ : ∃ ok, ok = wholeB s := ⟨_, rfl⟩
  have HC : Hid (∀ w, Calls Try.prog 67 #[.string s] w fun e w' => e = .returned (.bool ok) ∧ Below w.heap.size w w') := Lib.hid (by rw [hok]; exact specIsTree_any s)
  cases ok
  · have he : swapS s = (⟨#[]⟩, false) := if_neg (by rw [← hok]; simp)
    rw [he]
    clear he hok
    go_enter Try.func35, Try.ntmps35
    go_wp2_with fail
    refine (HC.out _).mono ?_
    rintro e w1 ⟨rfl, hb⟩
    go_wp2_with fail
    refine bodyPost_ret ?_ rfl ⟨rfl, hb⟩
    simp [results, Try.results35, go_sem]
  · obtain ⟨h0, h80, hcut⟩ := whole_cut hok.symm
    have hsi : (s.size : Int) ≤ 80 := by omega
    have hs0 : (0 : Int) < (s.size : Int) := by omega
    have hbt := byte_list h0
    by_cases h91 : s[0] = 91
    · obtain ⟨a, b, ha, hb, hsz⟩ := hcut (by rw [hbt, h91])
      have he : swapS s = (⟨#[91]⟩ ++ s.extract (2 + a.1) (s.size - 1) ++ ⟨#[44]⟩ ++ s.extract 1 (1 + a.1) ++ ⟨#[93]⟩, true) := by
        unfold swapS
        rw [if_pos ⟨hok.symm, by rw [hbt, h91]⟩, ha]
      rw [he]
      obtain ⟨a1, a2, a3, a4⟩ := a
      have hc := fun W => l4Read_any s.size (s.extract 1 s.size) W (by simp; omega) (by simp; omega)
      rw [Lib.extract_to_end, ha] at hc
      have HR := Lib.hid hc
      have hq : (((s[0]).toNat : Int) != 91) = false := by rw [h91]; rfl
      have HSZ := Lib.hid hsz
      simp only at hsz
      have hi1 : (1 : Int) + (a1 : Int) ≤ (s.size : Int) := by omega
      have hi2 : (2 : Int) + (a1 : Int) ≤ (s.size : Int) - 1 := by omega
      clear he hok ha hb hcut hc HSZ hsz hbt h91
      go_enter Try.func35, Try.ntmps35
      go_wp2_with fail
      refine (HC.out _).mono ?_
      rintro e w1 ⟨rfl, hb⟩
      go_wp2_with fail
      refine (HR.out _).mono ?_
      rintro e w2 ⟨rfl, hb2⟩
      unfold treeAgg
      go_wp2_with fail
      have HB := Lib.hid (((hb.trans (hb2.mono hb.size)).alloc (hb.trans (hb2.mono hb.size)).size (.cells #[.int .i64 (a1 : Int), .int .i64 (a2 : Int), .int .i64 (a3 : Int), .int .i64 (a4 : Int)] 76)).drew)
      have k1 : (w2.alloc (.cells #[.int .i64 (a1 : Int), .int .i64 (a2 : Int), .int .i64 (a3 : Int), .int .i64 (a4 : Int)] 76)).drew.heap[w2.heap.size]? = _ := heap_alloc_new w2 _
      clear hb hb2
      refine wp_region_still_tail 17 (by kernel_rfl) (by kernel_rfl) ?_
      simp only [List.take_succ_cons, List.take_zero, List.drop_succ_cons, List.drop_zero]
      change wpStill _ _ (World.drew _) (fun a' => wpList _ _ _ _ a' (World.drew _)) _ _
      generalize (World.drew _) = V at HB k1 ⊢
      have K1 : Hid (Four V w2.heap.size a1 a2 a3 a4) := Lib.hid k1
      clear k1
      obtain ⟨q0, q1, q2, q3, -⟩ := K1.out.cells
      have e1 : IntKind.i64.wrap ((s.size : Int) - 1) = (s.size : Int) - 1 := Go.IntWalk.i64_in _ (by omega)
      have e2 : IntKind.i64.wrap (2 + (a1 : Int)) = 2 + (a1 : Int) := Go.IntWalk.i64_in _ (by omega)
      have e3 : IntKind.i64.wrap (1 + (a1 : Int)) = 1 + (a1 : Int) := Go.IntWalk.i64_in _ (by omega)
      have t1 : ((s.size : Int) - 1).toNat = s.size - 1 := by omega
      have t2 : (2 + (a1 : Int)).toNat = 2 + a1 := by omega
      have t3 : (1 + (a1 : Int)).toNat = 1 + a1 := by omega
      have p1 : (0 : Int) ≤ (s.size : Int) - 1 := by omega
      have p2 : (s.size : Int) - 1 ≤ (s.size : Int) := by omega
      have p3 : (0 : Int) ≤ 2 + (a1 : Int) := by omega
      have p4 : (0 : Int) ≤ 1 + (a1 : Int) := by omega
      have p5 : (1 : Int) ≤ 1 + (a1 : Int) := by omega
      repeat still_step
      (refine wpStill_step (fun K hK => ?_); go_simp; rw [if_neg (by omega)]; refine ⟨rfl, hK _ ?_⟩; clear hK K)
      (refine wpStill_step (fun K hK => ?_); go_simp; rw [if_neg (by omega)]; refine ⟨rfl, hK _ ?_⟩; clear hK K)
      repeat still_step
      (refine wpStill_step (fun K hK => ?_); go_simp; rw [if_neg (by omega)]; refine ⟨rfl, hK _ ?_⟩; clear hK K)
      (refine wpStill_step (fun K hK => ?_); go_simp; rw [if_neg (by omega)]; refine ⟨rfl, hK _ ?_⟩; clear hK K)
      repeat still_step
      refine wpStill_nil ?_
      go_wp2_with fail
      refine bodyPost_ret ?_ rfl ⟨rfl, HB.out⟩
      simp [results, Try.results35, go_sem]
    · have he : swapS s = (⟨#[]⟩, false) := if_neg (by rw [hbt]; simpa using fun _ => h91)
      have hq : (((s[0]).toNat : Int) != 91) = true := by
        have : ¬ (s[0]).toNat = 91 := fun e => h91 (UInt8.toNat_inj.1 e)
        simp; omega
      rw [he]
      clear he hok hcut hbt
      go_enter Try.func35, Try.ntmps35
      go_wp2_with fail
      refine (HC.out _).mono ?_
      rintro e w1 ⟨rfl, hb⟩
      go_wp2_with fail
      refine bodyPost_ret ?_ rfl ⟨rfl, hb⟩
      simp [results, Try.results35, go_sem]

end Go.Proofs.Ytoikehpnpealpaa
