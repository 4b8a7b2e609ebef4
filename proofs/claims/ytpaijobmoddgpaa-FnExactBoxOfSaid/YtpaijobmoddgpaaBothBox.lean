/- Both programs' BoxOf side by side. Condition: texts of at most 2^20 bytes. -/
import Derived.Test.YtpaijobmoddgpaaPathBox
import Derived.Test.YtpaijobmoddgpaaArr4
namespace Go.Proofs.Ytpaijobmoddgpaa
open Go.ChangeShapes Go.WideShapes Go.ChangeAt Go.RowKit
set_option linter.unusedVariables false

theorem bothBoxOf (s : ByteArray) (hs : s.size ≤ 1048576) : ∃ (a b c d : Int) (ok : Bool),
    (∀ w, Calls Try.prog 44 #[.string s] w (Val (.tuple #[.agg #[.int .i64 a, .int .i64 b, .int .i64 c, .int .i64 d], .bool ok]) w)) ∧
    (∀ w, Calls Try.prog 45 #[.string s] w (Val (.tuple #[.agg #[.int .i64 a, .int .i64 b, .int .i64 c, .int .i64 d], .bool ok]) w)) :=
  ⟨_, _, _, _, _, fun w => specBoxOf_any s _ (Lib.hid rfl) w (by omega), fun w => implBoxOf_any s _ (Lib.hid rfl) w (by omega)⟩
end Go.Proofs.Ytpaijobmoddgpaa
