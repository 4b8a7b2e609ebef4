/- How many tables of sixteen bits keep the rule, a quarter. No condition. -/
import Derived.Test.YtfikbjfgieiifaaUpC
namespace Go.Proofs.Ytfikbjfgieiifaa
open Go.ChangeShapes Go.WideShapes Go.ChangeAt Go.RowKit
set_option linter.unusedVariables false

theorem k12_8 : cntB (risesB 4) 32768 12 = 5 := by kernel_rfl
theorem k12_9 : cntB (risesB 4) 36864 12 = 0 := by kernel_rfl
theorem k12_10 : cntB (risesB 4) 40960 12 = 14 := by kernel_rfl
theorem k12_11 : cntB (risesB 4) 45056 12 = 0 := by kernel_rfl

end Go.Proofs.Ytfikbjfgieiifaa
