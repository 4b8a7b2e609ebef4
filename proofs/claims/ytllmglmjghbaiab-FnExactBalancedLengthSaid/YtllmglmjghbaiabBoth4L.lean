/- Both programs of stage 4 answer alike: the contracts of spec and impl side by side. Conditions: numbers of 64 bits, lengths that fit. -/
import Derived.Test.YtllmglmjghbaiabLenImpl
import Derived.Test.YtllmglmjghbaiabLeftSpec
namespace Go.Proofs.Ytllmglmjghbaiab
open Go.ChangeShapes Go.WideShapes Go.ChangeAt Go.RowKit
set_option linter.unusedVariables false

theorem bothLeftLength (n : Int) (h1 : -9223372036854775808 ≤ n) (h2 : n ≤ 9223372036854775807) : ∃ (m : Int) (b : Bool),
    (∀ w, Calls Try.prog 21 #[.int .i64 n] w (Val (.tuple #[.int .i64 m, .bool b]) w)) ∧
    (∀ w, Calls Try.prog 22 #[.int .i64 n] w (Val (.tuple #[.int .i64 m, .bool b]) w)) :=
  ⟨_, _, fun w => specLeftLength_any n w ⟨h1, h2⟩, fun w => implLeftLength_any n w ⟨h1, h2⟩⟩
theorem bothBalancedLength (n : Int) (h1 : -9223372036854775808 ≤ n) (h2 : n ≤ 9223372036854775807) : ∃ (m : Int) (b : Bool),
    (∀ w, Calls Try.prog 23 #[.int .i64 n] w (Val (.tuple #[.int .i64 m, .bool b]) w)) ∧
    (∀ w, Calls Try.prog 24 #[.int .i64 n] w (Val (.tuple #[.int .i64 m, .bool b]) w)) :=
  ⟨_, _, fun w => specBalancedLength_any n w ⟨h1, h2⟩, fun w => implBalancedLength_any n w ⟨h1, h2⟩⟩

end Go.Proofs.Ytllmglmjghbaiab
