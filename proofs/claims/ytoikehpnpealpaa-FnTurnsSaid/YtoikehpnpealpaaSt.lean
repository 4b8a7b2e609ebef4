/- What a walk over drawn words carries along, with their draws. No condition. -/
import Derived.Test.YtoikehpnpealpaaStK
import Derived.Test.YtoikehpnpealpaaDrawWs
namespace Go.Proofs.Ytoikehpnpealpaa
open Go.ChangeShapes Go.WideShapes Go.ChangeAt Go.RowKit
set_option linter.unusedVariables false

end Go.Proofs.Ytoikehpnpealpaa
