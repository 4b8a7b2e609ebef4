/- Contract: impl's Family.table. Conditions: sets from 0 to 63, lengths that fit. -/
import Derived.Test.YtobjifggelmhcaaGreatTell
import Derived.Test.YtobjifggelmhcaaGreatHasImpl
namespace Go.Proofs.YtobjifggelmhcaaGreat
open Go.ChangeShapes Go.WideShapes Go.ChangeAt Go.RowKit
set_option linter.unusedVariables false


end Go.Proofs.YtobjifggelmhcaaGreat
