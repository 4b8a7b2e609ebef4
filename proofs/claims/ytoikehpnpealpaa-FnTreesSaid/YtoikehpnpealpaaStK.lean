/- What a walk over drawn lists carries along: the code's bytes, the memory that is kept, the lists so far. No condition. -/
import Derived.Test.YtoikehpnpealpaaRKit
import Derived.Test.YtoikehpnpealpaaLawKit
import Derived.Test.YtoikehpnpealpaaCurW
import Derived.Deep.DeepCutAuto
import Derived.LoopTactic
namespace Go.Proofs.Ytoikehpnpealpaa
open Go.ChangeShapes Go.WideShapes Go.ChangeAt Go.RowKit
set_option linter.unusedVariables false

/-- The code's bytes, what has been kept, and the lists so far. -/
def St (w0 w : World) (a0 : Option Addr) (len0 : Nat) (ls : List (Option Addr × List Int)) : Prop := Code8 w a0 len0 ∧ Below w0.heap.size w0 w ∧ ∀ p ∈ ls, Ints w p.1 p.2
theorem St.on {w0 w w' : World} {a0 : Option Addr} {len0 : Nat} {ls : List (Option Addr × List Int)} (h : St w0 w a0 len0 ls) (hb : Below w.heap.size w w') : St w0 w' a0 len0 ls :=
  ⟨h.1.on hb, h.2.1.trans (hb.mono h.2.1.size), fun p hp => (h.2.2 p hp).on hb⟩
theorem St.add {w0 w : World} {a0 a : Option Addr} {len0 : Nat} {xs : List Int} {ls : List (Option Addr × List Int)} (h : St w0 w a0 len0 ls) (hi : Ints w a xs) : St w0 w a0 len0 ((a, xs) :: ls) :=
  ⟨h.1, h.2.1, fun p hp => by
    rcases List.mem_cons.1 hp with rfl | hp
    · exact hi
    · exact h.2.2 p hp⟩
theorem St.get {w0 w : World} {a0 a : Option Addr} {len0 : Nat} {xs : List Int} {ls : List (Option Addr × List Int)} (h : Hid (St w0 w a0 len0 ls)) (hp : (a, xs) ∈ ls) : Hid (Ints w a xs) := Lib.hid (h.out.2.2 _ hp)
theorem eqr {w w' : World} {e : Ending} {xs : List Int} (h : EqPost (decide (xs = xs)) w e w') : e = .returned (.bool true) ∧ Below w.heap.size w w' := by
  obtain ⟨rfl, hb⟩ := h.on
  exact ⟨by simp, hb⟩

end Go.Proofs.Ytoikehpnpealpaa
