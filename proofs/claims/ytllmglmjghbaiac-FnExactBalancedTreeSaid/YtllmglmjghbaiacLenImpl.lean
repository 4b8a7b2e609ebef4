/- Contracts: impl.hasLengths, LeftLength, firstHalf, balancedLength, BalancedLength. Condition: numbers of 64 bits. -/
import Derived.Test.YtllmglmjghbaiacLeftSpec
namespace Go.Proofs.Ytllmglmjghbaiac
open Go.ChangeShapes Go.WideShapes Go.ChangeAt Go.RowKit
set_option linter.unusedVariables false


theorem firstHalf_any (n : Nat) (w : World) (h : n ≤ 1048576) : Calls Try.prog 35 #[.int .i64 (n : Int)] w fun e w' => e = .returned (.int .i64 (((n + 1) / 2 : Nat) : Int)) ∧ w = w' := by
  have e1 : ((n : Int) + 1) / 2 = (((n + 1) / 2 : Nat) : Int) := by omega
  go_enter Try.func35, Try.ntmps35
  go_wp2_with fail
  go_ret
  exact ⟨ret_int e1, rfl⟩

end Go.Proofs.Ytllmglmjghbaiac
