/- Both programs of stage 4 answer alike: the contracts of spec and impl side by side. Conditions: numbers of 64 bits, lengths that fit. -/
import Derived.Test.YtllmglmjghbaiabTops
namespace Go.Proofs.Ytllmglmjghbaiab
open Go.ChangeShapes Go.WideShapes Go.ChangeAt Go.RowKit
set_option linter.unusedVariables false

theorem bothSwapTree (s : ByteArray) (hs : s.size ≤ 1048576) : ∃ (t : ByteArray) (b : Bool),
    (∀ w, Calls Try.prog 11 #[.string s] w (Val (.tuple #[.string t, .bool b]) w)) ∧
    (∀ w, Calls Try.prog 12 #[.string s] w (Val (.tuple #[.string t, .bool b]) w)) :=
  ⟨_, _, fun w => specSwapTree_any s w, fun w => implSwapTree_any s w (by omega)⟩

end Go.Proofs.Ytllmglmjghbaiab
