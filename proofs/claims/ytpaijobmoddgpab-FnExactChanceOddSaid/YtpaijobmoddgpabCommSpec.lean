/- Contracts: spec.l4Commutator, CommutatorOf, l1Has, l4Nails, LeftWord, LeftLength, l4Length, BalancedLength. Conditions: letters, numbers of 64 bits, lengths that fit. -/
import Derived.Test.YtpaijobmoddgpabComm
import Derived.Test.YtpaijobmoddgpabProd
namespace Go.Proofs.Ytpaijobmoddgpab
open Go.ChangeShapes Go.WideShapes Go.ChangeAt Go.RowKit
set_option linter.unusedVariables false


def commZ (xs ys : List Int) : List Int := xs ++ (ys ++ (Plain.inv xs ++ Plain.inv ys))

end Go.Proofs.Ytpaijobmoddgpab
