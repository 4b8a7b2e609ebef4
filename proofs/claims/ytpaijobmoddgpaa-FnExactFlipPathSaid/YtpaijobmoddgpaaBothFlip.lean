/- Both programs' FlipPath side by side. Condition: texts of at most 2^20 bytes. -/
import Derived.Test.YtpaijobmoddgpaaPathChange
namespace Go.Proofs.Ytpaijobmoddgpaa
open Go.ChangeShapes Go.WideShapes Go.ChangeAt Go.RowKit
set_option linter.unusedVariables false

theorem bothFlipPath (s : ByteArray) (hs : s.size ≤ 1048576) : ∃ (o : ByteArray) (b : Bool),
    (∀ w, Calls Try.prog 38 #[.string s] w (Val (.tuple #[.string o, .bool b]) w)) ∧
    (∀ w, Calls Try.prog 39 #[.string s] w (Val (.tuple #[.string o, .bool b]) w)) :=
  ⟨_, _, fun w => specFlipPath_any s _ (Lib.hid rfl) w (by omega), fun w => implFlipPath_any s _ (Lib.hid rfl) w (by omega)⟩
end Go.Proofs.Ytpaijobmoddgpaa
