/- Contracts: impl.nailOf and spec.l2Nail return the nail of a letter. Condition: a number from -6 to 6. -/
import Derived.Test.YtllmglmjghbaiaaMostWalks
import Derived.Test.YtllmglmjghbaiaaLessW
namespace Go.Proofs.Ytllmglmjghbaiaa
open Go.ChangeShapes Go.WideShapes Go.ChangeAt Go.RowKit
set_option linter.unusedVariables false



end Go.Proofs.Ytllmglmjghbaiaa
