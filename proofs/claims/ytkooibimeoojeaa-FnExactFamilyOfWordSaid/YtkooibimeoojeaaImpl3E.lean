/- Contracts: impl's fallTable.deciders, isLeast, isGreatest, mattering, setsThat, LeastFalls, GreatestHangs, MatteringNails. Conditions: sets from 0 to 63, numbers of 64 bits, lengths that fit. -/
import Derived.Test.YtkooibimeoojeaaImpl3D
import Derived.Test.YtkooibimeoojeaaFallMore
namespace Go.Proofs.Ytkooibimeoojeaa
open Go.ChangeShapes Go.WideShapes Go.ChangeAt Go.RowKit
set_option linter.unusedVariables false




end Go.Proofs.Ytkooibimeoojeaa
