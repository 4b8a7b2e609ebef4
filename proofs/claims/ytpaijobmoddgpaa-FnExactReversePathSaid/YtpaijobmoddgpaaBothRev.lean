/- Both programs' ReversePath side by side. Condition: texts of at most 2^20 bytes. -/
import Derived.Test.YtpaijobmoddgpaaPathReverse
namespace Go.Proofs.Ytpaijobmoddgpaa
open Go.ChangeShapes Go.WideShapes Go.ChangeAt Go.RowKit
set_option linter.unusedVariables false

theorem bothReversePath (s : ByteArray) (hs : s.size ≤ 1048576) : ∃ (o : ByteArray) (b : Bool),
    (∀ w, Calls Try.prog 32 #[.string s] w (Val (.tuple #[.string o, .bool b]) w)) ∧
    (∀ w, Calls Try.prog 33 #[.string s] w (Val (.tuple #[.string o, .bool b]) w)) :=
  ⟨_, _, fun w => specReversePath_any s _ (Lib.hid rfl) w (by omega), fun w => implReversePath_any s _ (Lib.hid rfl) w (by omega)⟩
end Go.Proofs.Ytpaijobmoddgpaa
