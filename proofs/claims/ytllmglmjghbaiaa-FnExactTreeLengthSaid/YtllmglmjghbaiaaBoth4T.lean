/- Both programs of stage 4 answer alike: the contracts of spec and impl side by side. Conditions: numbers of 64 bits, lengths that fit. -/
import Derived.Test.YtllmglmjghbaiaaTops
namespace Go.Proofs.Ytllmglmjghbaiaa
open Go.ChangeShapes Go.WideShapes Go.ChangeAt Go.RowKit
set_option linter.unusedVariables false

theorem bothIsTree (s : ByteArray) (hs : s.size ≤ 1048576) : ∃ (b : Bool),
    (∀ w, Calls Try.prog 27 #[.string s] w (Val (.bool b) w)) ∧
    (∀ w, Calls Try.prog 15 #[.string s] w (Val (.bool b) w)) :=
  ⟨_, fun w => specIsTree_any s w, fun w => implIsTree_any s w (by omega)⟩
theorem bothTreeLength (s : ByteArray) (hs : s.size ≤ 1048576) : ∃ (m : Int) (b : Bool),
    (∀ w, Calls Try.prog 14 #[.string s] w (Val (.tuple #[.int .i64 m, .bool b]) w)) ∧
    (∀ w, Calls Try.prog 13 #[.string s] w (Val (.tuple #[.int .i64 m, .bool b]) w)) :=
  ⟨_, _, fun w => specTreeLength_any s w, fun w => implTreeLength_any s w (by omega)⟩
theorem bothTreeShape (s : ByteArray) (hs : s.size ≤ 1048576) : ∃ (m n : Int) (b : Bool),
    (∀ w, Calls Try.prog 17 #[.string s] w (Val (.tuple #[.int .i64 m, .int .i64 n, .bool b]) w)) ∧
    (∀ w, Calls Try.prog 16 #[.string s] w (Val (.tuple #[.int .i64 m, .int .i64 n, .bool b]) w)) :=
  ⟨_, _, _, fun w => specTreeShape_any s w, fun w => implTreeShape_any s w (by omega)⟩

end Go.Proofs.Ytllmglmjghbaiaa
