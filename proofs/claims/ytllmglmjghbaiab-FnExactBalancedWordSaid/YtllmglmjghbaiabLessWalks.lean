/- Contracts: spec.l2Less, (impl.word).isBefore and what they call tell whether a list of letters comes before another one. Conditions: letters, lengths that fit. -/
import Derived.Deep.RegionWith
import Derived.Test.YtllmglmjghbaiabIntsWalks
import Derived.Test.YtllmglmjghbaiabLessW
import Derived.Test.YtllmglmjghbaiabNailOf
namespace Go.Proofs.Ytllmglmjghbaiab
open Go.ChangeShapes Go.WideShapes Go.ChangeAt Go.RowKit
set_option linter.unusedVariables false

/-- A call that leaves the world alone, behind draws that have been joined. -/
theorem still_drawn {f : FuncId} {args : Array Value} {v : Value} (hc : ∀ W, Calls Try.prog f args W fun e w' => e = .returned v ∧ w' = W) (w : World) (a n : Nat) :
    Calls Try.prog f args (w.drewN (a + n)) fun e w' => e = .returned v ∧ ∃ m, w' = w.drewN (a + m) := by
  refine (hc (w.drewN (a + n))).mono ?_
  rintro e w' ⟨rfl, rfl⟩
  exact ⟨rfl, n, rfl⟩



end Go.Proofs.Ytllmglmjghbaiab
