/- Contracts: laws.eqBoolA64 and laws.eqIntA64 find equal tables equal. No condition. -/
import Derived.Test.YtkooibimeoojeaaLetters
import Derived.Deep.Cut
namespace Go.Proofs.Ytkooibimeoojeaa
open Go.ChangeShapes Go.WideShapes Go.ChangeAt Go.RowKit
set_option linter.unusedVariables false

set_option maxRecDepth 100000 in
set_option maxHeartbeats 800000 in
theorem eqB64_same (t : Nat → Bool) (w : World) : Calls Try.prog 16 #[.agg (bools t), .agg (bools t)] w fun e w' => e = .returned (.bool true) ∧ Below w.heap.size w w' := by
  have hb0 : Below w.heap.size w ((w.alloc (.cells (bools t) 23)).alloc (.cells (bools t) 23)) := ((Below.refl _ _).alloc (Nat.le_refl _) _).alloc (by simp) _
  have H1 : Hid (Tab ((w.alloc (.cells (bools t) 23)).alloc (.cells (bools t) 23)) (w.heap.size + 1) t) := Lib.hid (heap_alloc2_new _ _ _)
  have H2 : Hid (Tab ((w.alloc (.cells (bools t) 23)).alloc (.cells (bools t) 23)) w.heap.size t) := Lib.hid (heap_alloc2_old _ _ _)
  have HB := Lib.hid hb0
  clear hb0
  go_enter Try.func16, Try.ntmps16
  go_wp2_with fail
  generalize ((w.alloc (.cells (bools t) 23)).alloc (.cells (bools t) 23)) = W at H1 H2 HB ⊢
  go_loopw [5] (fun i wr => ∃ k : Nat, k ≤ 64 ∧ i = .int .i64 (k : Int) ∧ ∃ n, wr = W.drewN n) (fun i _ => 64 - (intOf i).toNat)
  case atStart => exact ⟨0, Nat.zero_le _, rfl, 0, rfl⟩
  case round =>
    obtain ⟨k, hk, rfl, n, rfl⟩ := hrel
    by_cases hlt : k < 64
    · have hc1 := H1.out.cell hlt
      have hc2 := H2.out.cell hlt
      have hi : (k : Int) < 64 := by omega
      have hi0 : (0 : Int) ≤ (k : Int) := by omega
      go_wp2_with fail
      go_quiet (fail)
      go_wp2_with fail
      go_roundw
      case rel => exact ⟨k + 1, by omega, by go_num, _, rfl⟩
      case measure => simp [intOf]; omega
    · obtain rfl : k = 64 := by omega
      go_wp2_with fail
      go_ret
      exact ⟨rfl, below_drewN HB.out _⟩

end Go.Proofs.Ytkooibimeoojeaa
