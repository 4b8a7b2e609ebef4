/- How many tables of sixteen bits keep the rule, a quarter. No condition. -/
import Derived.Test.YtfikbjfgieiifaaUpC
namespace Go.Proofs.Ytfikbjfgieiifaa
open Go.ChangeShapes Go.WideShapes Go.ChangeAt Go.RowKit
set_option linter.unusedVariables false

theorem k12_12 : cntB (risesB 4) 49152 12 = 14 := by kernel_rfl
theorem k12_13 : cntB (risesB 4) 53248 12 = 0 := by kernel_rfl
theorem k12_14 : cntB (risesB 4) 57344 12 = 50 := by kernel_rfl
theorem k12_15 : cntB (risesB 4) 61440 12 = 84 := by kernel_rfl

end Go.Proofs.Ytfikbjfgieiifaa
