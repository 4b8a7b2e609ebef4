/- Both programs of stage 4 answer alike: the contracts of spec and impl side by side. Conditions: numbers of 64 bits, lengths that fit. -/
import Derived.Test.YtepmldbleconfaaCommImpl
namespace Go.Proofs.Ytepmldbleconfaa
open Go.ChangeShapes Go.WideShapes Go.ChangeAt Go.RowKit
set_option linter.unusedVariables false

theorem bothCommutatorOf (xs : List Int) (n1 : Hid (In64 xs)) (hx : xs.length ≤ 1048576) (ys : List Int) (n2 : Hid (In64 ys)) (hy : ys.length ≤ 1048576) : ∃ (out : List Int) (ok : Bool), out.length ≤ 1048576 ∧
    (∀ a1 c1 a2 c2 w, Hid (Ints w a1 xs) → Hid (Cap a1 xs.length c1) → Hid (Ints w a2 ys) → Hid (Cap a2 ys.length c2) → Calls Try.prog 42 #[.slice a1 xs.length c1, .slice a2 ys.length c2] w (SB out ok w)) ∧
    (∀ a1 c1 a2 c2 w, Hid (Ints w a1 xs) → Hid (Cap a1 xs.length c1) → Hid (Ints w a2 ys) → Hid (Cap a2 ys.length c2) → Calls Try.prog 43 #[.slice a1 xs.length c1, .slice a2 ys.length c2] w (SB out ok w)) :=
  ⟨_, _, prod_le xs ys _, fun a1 c1 a2 c2 w h1 k1 h2 k2 => specCommutatorOf_any a1 a2 c1 c2 xs ys w h1 k1 n1 h2 k2 n2 (by omega) (by omega), fun a1 c1 a2 c2 w h1 k1 h2 k2 => implCommutatorOf_any a1 a2 c1 c2 xs ys w h1 k1 n1 h2 k2 n2 (by omega) (by omega)⟩

end Go.Proofs.Ytepmldbleconfaa
