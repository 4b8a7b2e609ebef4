/- How many tables of sixteen bits keep the rule, a quarter. No condition. -/
import Derived.Test.YtfikbjfgieiifaaUpC
namespace Go.Proofs.Ytfikbjfgieiifaa
open Go.ChangeShapes Go.WideShapes Go.ChangeAt Go.RowKit
set_option linter.unusedVariables false

theorem k12_4 : cntB (risesB 4) 16384 12 = 0 := by kernel_rfl
theorem k12_5 : cntB (risesB 4) 20480 12 = 0 := by kernel_rfl
theorem k12_6 : cntB (risesB 4) 24576 12 = 0 := by kernel_rfl
theorem k12_7 : cntB (risesB 4) 28672 12 = 0 := by kernel_rfl

end Go.Proofs.Ytfikbjfgieiifaa
