/- Contracts: spec.JoinWords, impl.JoinWords. Conditions: numbers of 64 bits, lengths that fit. -/
import Derived.Test.YtoikehpnpealpaaFormWalks
import Derived.Test.YtoikehpnpealpaaConjKit
namespace Go.Proofs.Ytoikehpnpealpaa
open Go.ChangeShapes Go.WideShapes Go.ChangeAt Go.RowKit



end Go.Proofs.Ytoikehpnpealpaa
