/- Both programs of stage 4 answer alike: the contracts of spec and impl side by side. Conditions: numbers of 64 bits, lengths that fit. -/
import Derived.Test.YtllmglmjghbaiacNailText
import Derived.Test.YtllmglmjghbaiacTreeText
namespace Go.Proofs.Ytllmglmjghbaiac
open Go.ChangeShapes Go.WideShapes Go.ChangeAt Go.RowKit
set_option linter.unusedVariables false

theorem bothBalancedTree (xs : List Int) (h64 : Hid (In64 xs)) (hn : xs.length ≤ 1048576) : ∃ (t : ByteArray) (b : Bool),
    (∀ a cap w, Hid (Ints w a xs) → Hid (Cap a xs.length cap) → Calls Try.prog 5 #[.slice a xs.length cap] w (Val (.tuple #[.string t, .bool b]) w)) ∧
    (∀ a cap w, Hid (Ints w a xs) → Hid (Cap a xs.length cap) → Calls Try.prog 7 #[.slice a xs.length cap] w (Val (.tuple #[.string t, .bool b]) w)) :=
  ⟨_, _, fun a cap w h k => specBalancedTree_any a cap xs w h k h64 (by omega), fun a cap w h k => implBalancedTree_any a cap xs w h k h64 (by omega)⟩

end Go.Proofs.Ytllmglmjghbaiac
