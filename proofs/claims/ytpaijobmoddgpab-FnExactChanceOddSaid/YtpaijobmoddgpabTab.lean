/- Tables of 64 bools in a block. No condition. -/
import Derived.Test.YtpaijobmoddgpabFallSpec
import Derived.Laws.Rows
import Derived.Laws.Tables
import Derived.Laws.CopyOwn
import Derived.Test.YtpaijobmoddgpabTabKit
namespace Go.Proofs.Ytpaijobmoddgpab
open Go.ChangeShapes Go.WideShapes Go.ChangeAt Go.RowKit
set_option linter.unusedVariables false

set_option maxRecDepth 100000 in
set_option maxHeartbeats 800000 in
theorem l3Table_any (a : Option Addr) (cap : Nat) (xs : List Int) (w : World) (h : Hid (Ints w a xs)) (hl : Hid (Plain.Letters xs)) (hn : xs.length ≤ 1048576) :
    Calls Try.prog 22 #[.slice a xs.length cap] w (Val (.agg (bools (Plain.fallsB xs))) w) := by
  have H0 := Lib.hid (two64_start w)
  go_enter Try.func22, Try.ntmps22
  go_wp2_with (refine wpList_store_row rfl 37 _ _ rfl (w.heap.size + 1) (bools fun _ => false) rfl (by rw [bools_zero]; rfl) 37 (bools fun _ => false) (by rw [bools_zero]; exact heap_alloc2_new _ _ _) info64 rfl (bools_one _) ?_)
  rw [← bools_zero]
  obtain ⟨W, hW⟩ : ∃ W, W = (((w.alloc (.cells (bools fun _ => false) 37)).alloc (.cells (bools fun _ => false) 37)).setRow (w.heap.size + 1) (bools fun _ => false)) := ⟨_, rfl⟩
  rw [← hW] at H0 ⊢
  clear hW
  go_loopw [4] (fun i wr => ∃ k : Nat, k ≤ 64 ∧ i = .int .i64 k ∧ Two64 w wr (upTo (Plain.fallsB xs) k) (fun _ => false)) (fun i _ => 64 - (intOf i).toNat)
  case atStart => exact ⟨0, Nat.zero_le _, rfl, by rw [upTo_zero]; exact H0.out⟩
  case round =>
    obtain ⟨k, hk, rfl, hrel⟩ := hrel
    by_cases hlt : k < 64
    · have HK := Lib.hid hrel
      have HI := Lib.hid (h.out.on (hrel.2.2))
      have hi : (k : Int) < 64 := by omega
      have hi0 : (0 : Int) ≤ (k : Int) := by omega
      clear hrel
      go_wp2_with fail
      refine (l3Falls_any a cap xs k _ HI hl hn hlt).mono ?_
      rintro e w1 ⟨rfl, hb⟩
      have H1 := Lib.hid (HK.out.later hb)
      have hc : w1.cell? ⟨w.heap.size + 1, k, none⟩ = some (.bool (upTo (Plain.fallsB xs) k k)) := H1.out.1.cell hlt
      have hf : w1.frozen? ⟨w.heap.size + 1, k, none⟩ = false := H1.out.1.free k
      have H2 := Lib.hid (H1.out.set hlt)
      clear hb HK HI
      go_wp2_with fail
      go_roundw
      case rel => exact ⟨k + 1, by omega, by go_num, H2.out⟩
      case measure => simp [intOf]; omega
    · obtain rfl : k = 64 := by omega
      have T1 := hrel.1
      have T2 := hrel.2.1
      have HB := Lib.hid hrel.2.2
      rw [Tab, upTo_all] at T1
      have HT := Lib.hid T1
      have HT2 := Lib.hid T2
      have HF := Lib.hid (tab_row (t := Plain.fallsB xs) T2)
      have HB2 := Lib.hid (below_setRow HB.out (Nat.le_refl _) (bools (Plain.fallsB xs)))
      clear T1 T2 hrel
      go_wp2_with (first
        | (refine wpList_load_row rfl 37 _ rfl (w.heap.size + 1) rfl 37 (bools (Plain.fallsB xs)) (0, 0) _ HT.out Try.underlying37 rfl info64 ?_)
        | (refine wpList_store_row rfl 37 _ _ rfl w.heap.size (bools (Plain.fallsB xs)) rfl rfl 37 _ HT2.out info64 rfl (bools_one _) ?_))
      exact bodyPost_ret (v := .agg (bools (Plain.fallsB xs))) (results_cell_row rfl _ _ w.heap.size 37 _ (0, 0) _ rfl HF.out Try.underlying37 rfl info64) rfl ⟨rfl, HB2.out⟩

end Go.Proofs.Ytpaijobmoddgpab
