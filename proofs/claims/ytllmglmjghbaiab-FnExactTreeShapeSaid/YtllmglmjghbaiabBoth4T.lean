/- Both programs of stage 4 answer alike: the contracts of spec and impl side by side. Conditions: numbers of 64 bits, lengths that fit. -/
import Derived.Test.YtllmglmjghbaiabTops
namespace Go.Proofs.Ytllmglmjghbaiab
open Go.ChangeShapes Go.WideShapes Go.ChangeAt Go.RowKit
set_option linter.unusedVariables false

theorem bothTreeShape (s : ByteArray) (hs : s.size ≤ 1048576) : ∃ (m n : Int) (b : Bool),
    (∀ w, Calls Try.prog 9 #[.string s] w (Val (.tuple #[.int .i64 m, .int .i64 n, .bool b]) w)) ∧
    (∀ w, Calls Try.prog 10 #[.string s] w (Val (.tuple #[.int .i64 m, .int .i64 n, .bool b]) w)) :=
  ⟨_, _, _, fun w => specTreeShape_any s w, fun w => implTreeShape_any s w (by omega)⟩

end Go.Proofs.Ytllmglmjghbaiab
