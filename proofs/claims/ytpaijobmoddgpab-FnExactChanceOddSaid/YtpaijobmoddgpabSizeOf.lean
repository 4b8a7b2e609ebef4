/- Contracts: math/bits.OnesCount64, OnesCount, impl.sizeOf. Condition: a set from 0 to 63. -/
import Derived.Test.YtpaijobmoddgpabSetKit
namespace Go.Proofs.Ytpaijobmoddgpab
open Go.ChangeShapes Go.WideShapes Go.ChangeAt Go.RowKit
set_option linter.unusedVariables false

theorem all64 {f g : Nat → Int} (h : ((List.range 64).all fun s => f s == g s) = true) : ∀ s : Nat, s < 64 → f s = g s := by
  intro s hs
  simpa using List.all_eq_true.1 h s (List.mem_range.2 hs)
set_option maxRecDepth 100000 in
theorem ones64_any (s : Nat) (w : World) (hs : s < 64) : Calls Try.prog 77 #[.int .u64 (s : Int)] w fun e w' => e = .returned (.int .i64 (Plain.many s : Nat)) ∧ w = w' := by
  go_enter Try.func77, Try.ntmps77
  go_wp2_with fail
  go_ret
  refine ⟨ret_int ?_, rfl⟩
  revert s
  refine all64 ?_
  kernel_rfl
theorem ones_any (s : Nat) (w : World) (hs : s < 64) : Calls Try.prog 68 #[.int .u64 (s : Int)] w fun e w' => e = .returned (.int .i64 (Plain.many s : Nat)) ∧ w = w' := by
  go_enter Try.func68, Try.ntmps68
  go_wp2_with fail
  refine (ones64_any s _ hs).mono ?_
  rintro e w' ⟨rfl, rfl⟩
  go_wp2_with fail
  go_ret
  exact ⟨rfl, rfl⟩
theorem sizeOf_any (s : Nat) (w : World) (hs : s < 64) : Calls Try.prog 54 #[.int .i64 (s : Int)] w fun e w' => e = .returned (.int .i64 (Plain.many s : Nat)) ∧ w = w' := by
  go_enter Try.func54, Try.ntmps54
  go_wp2_with fail
  refine (ones_any s _ hs).mono ?_
  rintro e w' ⟨rfl, rfl⟩
  go_wp2_with fail
  go_ret
  exact ⟨rfl, rfl⟩

end Go.Proofs.Ytpaijobmoddgpab
