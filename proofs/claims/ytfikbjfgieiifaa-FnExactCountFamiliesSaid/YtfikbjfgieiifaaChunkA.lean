/- How many tables of sixteen bits keep the rule, a quarter. No condition. -/
import Derived.Test.YtfikbjfgieiifaaUpC
namespace Go.Proofs.Ytfikbjfgieiifaa
open Go.ChangeShapes Go.WideShapes Go.ChangeAt Go.RowKit
set_option linter.unusedVariables false

theorem k12_0 : cntB (risesB 4) 0 12 = 1 := by kernel_rfl
theorem k12_1 : cntB (risesB 4) 4096 12 = 0 := by kernel_rfl
theorem k12_2 : cntB (risesB 4) 8192 12 = 0 := by kernel_rfl
theorem k12_3 : cntB (risesB 4) 12288 12 = 0 := by kernel_rfl

end Go.Proofs.Ytfikbjfgieiifaa
