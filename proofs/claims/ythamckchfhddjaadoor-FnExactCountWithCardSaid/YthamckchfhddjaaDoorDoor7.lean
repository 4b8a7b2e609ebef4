/- What the rows' listed table of greatest lengths gives a walk, and one world in which it lies as the program's text lays it. No condition. -/
import Derived.Test.YthamckchfhddjaaDoorCards
import Derived.Test.YthamckchfhddjaaDoorTie
import Derived.Test.YthamckchfhddjaaDoorListed
import Derived.WalkKit
import Derived.ProofKit
import Derived.OpenShut
import Derived.ShutString
import Derived.SizedLaws
import Derived.OpenVars
import Derived.ChangeVars
import Derived.Deep.DeepHandedRow
import Derived.Lib.LaidTab
namespace Go.Proofs.YthamckchfhddjaaDoor
open Go.ChangeShapes Go.WideShapes Go.ChangeAt Go.RowKit

theorem own : ownKnob Tryd.prog.godebug = none := by kernel_rfl
theorem gL : Tryd.prog.globalNamed "loop.example/g01206/impl.longestListed" = some 0 := by kernel_rfl
theorem gLType : (Tryd.prog.globals[0]?).map (·.type) = some 66 := by kernel_rfl
theorem cells4 : Tryd.prog.cellsOf 66 = 4 := by kernel_rfl
theorem cellsInt : Tryd.prog.cellsOf 3 = 1 := by kernel_rfl
theorem longTab : (Rows.laid_loop_example_g01206_impl_longestListed : DataW Unit) = Lib.tabData .i64 [0, 8, 8, 5] := by kernel_rfl
theorem listed_of {W : World} (h : laidMet Tryd.prog [("loop.example/g01206/impl.longestListed", Rows.laid_loop_example_g01206_impl_longestListed)] W) : Listed W := by
  rw [longTab] at h
  have ht : Lib.TabIs Tryd.prog W "loop.example/g01206/impl.longestListed" .i64 [0, 8, 8, 5] := Lib.tabIs_of_head (rest := []) gL gLType Tryd.underlying66 Tryd.underlying3 cellsInt cells4 h
  exact ⟨ht.cell gL 1 (by decide), ht.cell gL 2 (by decide), ht.cell gL 3 (by decide)⟩
theorem laidOut : laidOutB Tryd.prog = true := by kernel_rfl
def putCells (cs : Array Value) : Obj → Obj := fun
  | .cells _ t frozen => .cells cs t frozen
  | o => o
noncomputable def laidWorld (os : Os) : World :=
  let w0 := World.holding Tryd.prog os ⟨#[], #[], []⟩
  { w0 with heap := w0.heap.modify 0 (putCells #[.int .i64 0, .int .i64 8, .int .i64 8, .int .i64 5]) }

end Go.Proofs.YthamckchfhddjaaDoor
