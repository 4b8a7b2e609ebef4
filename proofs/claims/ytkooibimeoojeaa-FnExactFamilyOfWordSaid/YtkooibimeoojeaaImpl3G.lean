/- Contracts: math/bits.OnesCount64, OnesCount at small numbers, impl.sizeOf. Conditions: sets from 0 to 63. -/
import Derived.Test.YtkooibimeoojeaaImpl3F
import Derived.Test.YtkooibimeoojeaaSizeOf
namespace Go.Proofs.Ytkooibimeoojeaa
open Go.ChangeShapes Go.WideShapes Go.ChangeAt Go.RowKit
set_option linter.unusedVariables false

theorem run_index64 (t : Nat → Bool) (k : Nat) (w : World) (hk : k < 64) : (Instr.index 50 (.agg (bools t)) (.int .i64 (k : Int))).run Try.prog w = .ok (.bool (t k)) w := by
  have h1 : (0 : Int) ≤ (k : Int) ∧ (k : Int) < 64 := by omega
  have h2 : (bools t)[k]? = some (.bool (t k)) := arr64_at _ hk
  simp [Instr.index, run_underlying Try.underlying50, asIntOf, part, go_sem, h1, h2, hk]
end Go.Proofs.Ytkooibimeoojeaa
