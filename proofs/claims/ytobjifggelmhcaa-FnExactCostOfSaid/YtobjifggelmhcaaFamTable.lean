/- Contract: impl's Family.table. Conditions: sets from 0 to 63, lengths that fit. -/
import Derived.Test.YtobjifggelmhcaaTell
import Derived.Test.YtobjifggelmhcaaHasImpl
namespace Go.Proofs.Ytobjifggelmhcaa
open Go.ChangeShapes Go.WideShapes Go.ChangeAt Go.RowKit
set_option linter.unusedVariables false


end Go.Proofs.Ytobjifggelmhcaa
