/- Both programs of stage 4 answer alike: the contracts of spec and impl side by side. Conditions: numbers of 64 bits, lengths that fit. -/
import Derived.Test.YtllmglmjghbaiabNailTops
import Derived.Test.YtllmglmjghbaiabBalSpec
namespace Go.Proofs.Ytllmglmjghbaiab
open Go.ChangeShapes Go.WideShapes Go.ChangeAt Go.RowKit
set_option linter.unusedVariables false

theorem bothLeftWord (xs : List Int) (h64 : Hid (In64 xs)) (hn : xs.length ≤ 1048576) : ∃ (out : List Int) (ok : Bool), out.length ≤ 1048576 ∧
    (∀ a cap w, Hid (Ints w a xs) → Hid (Cap a xs.length cap) → Calls Try.prog 13 #[.slice a xs.length cap] w (SB out ok w)) ∧
    (∀ a cap w, Hid (Ints w a xs) → Hid (Cap a xs.length cap) → Calls Try.prog 15 #[.slice a xs.length cap] w (SB out ok w)) :=
  ⟨_, _, Nat.le_trans (nailW_le xs _) (by omega), fun a cap w h k => specLeftWord_any a cap xs w h k h64 (by omega), fun a cap w h k => implLeftWord_any a cap xs w h k h64 (by omega)⟩
theorem bothBalancedWord (xs : List Int) (h64 : Hid (In64 xs)) (hn : xs.length ≤ 1048576) : ∃ (out : List Int) (ok : Bool), out.length ≤ 1048576 ∧
    (∀ a cap w, Hid (Ints w a xs) → Hid (Cap a xs.length cap) → Calls Try.prog 19 #[.slice a xs.length cap] w (SB out ok w)) ∧
    (∀ a cap w, Hid (Ints w a xs) → Hid (Cap a xs.length cap) → Calls Try.prog 20 #[.slice a xs.length cap] w (SB out ok w)) :=
  ⟨_, _, Nat.le_trans (nailW_le xs _) (by omega), fun a cap w h k => specBalancedWord_any a cap xs w h k h64 (by omega), fun a cap w h k => implBalancedWord_any a cap xs w h k h64 (by omega)⟩

end Go.Proofs.Ytllmglmjghbaiab
