/- Contract: spec.l1Most returns the greater one of two numbers. Condition: small numbers. -/
import Derived.Test.YtllmglmjghbaiacInts
namespace Go.Proofs.Ytllmglmjghbaiac
open Go.ChangeShapes Go.WideShapes Go.ChangeAt Go.RowKit
set_option linter.unusedVariables false


end Go.Proofs.Ytllmglmjghbaiac
