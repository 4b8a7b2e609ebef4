/- What the rows' listed library variables give a walk, and one world in which they lie as their initialisers lay them. No condition. -/
import Derived.Test.YtaepmgfodjjidaaDoorCards
import Derived.Test.YtaepmgfodjjidaaDoorTie
import Derived.Test.YtaepmgfodjjidaaDoorShelf
import Derived.WalkKit
import Derived.ProofKit
import Derived.OpenShut
import Derived.ShutString
import Derived.SizedLaws
import Derived.Deep.DeepHandedRow
import Derived.Lib.LaidTab
import Derived.Stop.LaidErr
import Derived.Lib.ItoaNum
namespace Go.Proofs.YtaepmgfodjjidaaDoor
open Go.ChangeShapes Go.WideShapes Go.ChangeAt Go.RowKit

theorem own : ownKnob Tryd.prog.godebug = none := by kernel_rfl
theorem gPow : Tryd.prog.globalNamed "internal/strconv.uint64pow10" = some 2 := by kernel_rfl
theorem gPowType : (Tryd.prog.globals[2]?).map (·.type) = some 92 := by kernel_rfl
theorem cellsPow : Tryd.prog.cellsOf 92 = 20 := by kernel_rfl
theorem cellsU64 : Tryd.prog.cellsOf 74 = 1 := by kernel_rfl

theorem powTab_eq : (Rows.laid_internal_strconv_uint64pow10 : DataW Unit) = Lib.tabData .u64 Lib.pow10Tab := by kernel_rfl

theorem pow_of {W : World} {a b : String × DataW Unit} {r : List (String × DataW Unit)}
    (h : laidMet Tryd.prog (a :: b :: ("internal/strconv.uint64pow10", Rows.laid_internal_strconv_uint64pow10) :: r) W) : Lib.TabIs Tryd.prog W "internal/strconv.uint64pow10" .u64 Lib.pow10Tab := by
  have h2 : laidMet Tryd.prog (("internal/strconv.uint64pow10", Rows.laid_internal_strconv_uint64pow10) :: r) W := h.tail.tail
  rw [powTab_eq] at h2
  exact Lib.tabIs_of_head (rest := r) gPow gPowType Tryd.underlying92 Tryd.underlying74 cellsU64 cellsPow h2

theorem pow3 {W : World} (h : laidMetH Tryd.prog Rows.fnExactFormatIntRow.laid W) : Lib.TabIs Tryd.prog W "internal/strconv.uint64pow10" .u64 Lib.pow10Tab := pow_of (r := []) h
theorem pow5 {W : World} (h : laidMetH Tryd.prog Rows.fnExactParseIntRow.laid W) : Lib.TabIs Tryd.prog W "internal/strconv.uint64pow10" .u64 Lib.pow10Tab := pow_of h

theorem gRange : Tryd.prog.globalNamed "strconv.ErrRange" = some 1 := by kernel_rfl
theorem gRangeType : (Tryd.prog.globals[1]?).map (·.type) = some 36 := by kernel_rfl
theorem gSyntax : Tryd.prog.globalNamed "strconv.ErrSyntax" = some 0 := by kernel_rfl
theorem gSyntaxType : (Tryd.prog.globals[0]?).map (·.type) = some 36 := by kernel_rfl

theorem pow8 {W : World} (h : laidMetH Tryd.prog Rows.fnExactWindingTextRow.laid W) : Lib.TabIs Tryd.prog W "internal/strconv.uint64pow10" .u64 Lib.pow10Tab := pow_of (r := []) h
noncomputable def low : Nat := (World.holding Tryd.prog default ⟨#[], #[], []⟩).heap.size
def synS : ByteArray := { data := #[105, 110, 118, 97, 108, 105, 100, 32, 115, 121, 110, 116, 97, 120] }
def rngS : ByteArray := { data := #[118, 97, 108, 117, 101, 32, 111, 117, 116, 32, 111, 102, 32, 114, 97, 110, 103, 101] }
def cellsOfTab {H : Type} (d : DataW H) : Array Value := match d with
  | .agg l => (l.map fun x => match x with
    | .lit (.int k n) => Value.int k n
    | _ => undef).toArray
  | _ => #[]
def putCells (cs : Array Value) : Obj → Obj := fun
  | .cells _ t frozen => .cells cs t frozen
  | o => o
noncomputable def laidWorld (os : Os) : World :=
  let w0 := World.holding Tryd.prog os ⟨#[.cells #[.string synS] 99, .cells #[.string rngS] 99], #[], []⟩
  { w0 with heap := ((((w0.heap.modify 2 (putCells (cellsOfTab (H := Unit) Rows.laid_internal_strconv_uint64pow10))).modify 4 (putCells (cellsOfTab (H := Unit) Rows.laid_math_bits_deBruijn32tab))).modify 5 (putCells (cellsOfTab (H := Unit) Rows.laid_math_bits_deBruijn64tab))).modify 0 (putCells #[.iface 97 (.pointer (some ⟨low, 0, none⟩))])).modify 1 (putCells #[.iface 97 (.pointer (some ⟨low + 1, 0, none⟩))]) }
noncomputable def laidWorld8 (os : Os) : World :=
  let w0 := World.holding Tryd.prog os ⟨#[], #[], []⟩
  { w0 with heap := (((w0.heap.modify 2 (putCells (cellsOfTab (H := Unit) Rows.laid_internal_strconv_uint64pow10))).modify 4 (putCells (cellsOfTab (H := Unit) Rows.laid_math_bits_deBruijn32tab))).modify 5 (putCells (cellsOfTab (H := Unit) Rows.laid_math_bits_deBruijn64tab))) }

theorem met3 (os : Os) (args : Array Value) : laidMet Tryd.prog Rows.fnExactFormatIntRow.laid ((laidWorld os).forCall (fun _ _ => 0) ⟨#[], args, []⟩).memory :=
  laidMet_of_run' 8 (by kernel_rfl) (by kernel_rfl)
theorem met5 (os : Os) (args : Array Value) : laidMet Tryd.prog Rows.fnExactParseIntRow.laid ((laidWorld os).forCall (fun _ _ => 0) ⟨#[], args, []⟩).memory :=
  laidMet_of_run' 8 (by kernel_rfl) (by kernel_rfl)

end Go.Proofs.YtaepmgfodjjidaaDoor
