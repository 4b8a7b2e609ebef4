/- What the walks of the laws on lists share: lists in blocks apart, and what stays behind the marks. No condition. -/
import Derived.Test.YteidddagpnfalaaIntsWalks
namespace Go.Proofs.Yteidddagpnfalaa
set_option linter.unusedVariables false
open Go.ChangeShapes Go.WideShapes Go.ChangeAt Go.RowKit

/-- Behind a call that hands back a value: new memory alone. -/
def Val (v : Value) (w : World) (e : Ending) (w' : World) : Prop := e = .returned v ∧ Below w.heap.size w w'
/-- A list and a bool. -/
def SB (out : List Int) (ok : Bool) (w : World) (e : Ending) (w' : World) : Prop := ∃ v, e = .returned (.tuple #[v, .bool ok]) ∧ Res w.heap.size w' v out ∧ Below w.heap.size w w'
/-- A list. -/
def S1 (out : List Int) (w : World) (e : Ending) (w' : World) : Prop := ∃ v, e = .returned v ∧ Res w.heap.size w' v out ∧ Below w.heap.size w w'
theorem val_same {v : Value} {w w' : World} {e : Ending} (h : e = .returned v ∧ w = w') : Val v w e w' := by obtain ⟨rfl, rfl⟩ := h; exact ⟨rfl, Below.refl _ _⟩

end Go.Proofs.Yteidddagpnfalaa
