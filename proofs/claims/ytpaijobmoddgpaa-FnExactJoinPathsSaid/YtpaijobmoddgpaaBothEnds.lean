/- Both programs' IsPath, EndOf, IsClosed, JoinPaths side by side. Condition: texts of at most 2^20 bytes. -/
import Derived.Test.YtpaijobmoddgpaaPathJoin
import Derived.Test.YtpaijobmoddgpaaArr2
namespace Go.Proofs.Ytpaijobmoddgpaa
open Go.ChangeShapes Go.WideShapes Go.ChangeAt Go.RowKit
set_option linter.unusedVariables false

theorem bothIsPath (s : ByteArray) (hs : s.size ≤ 1048576) : ∃ (b : Bool),
    (∀ w, Calls Try.prog 17 #[.string s] w (Val (.bool b) w)) ∧
    (∀ w, Calls Try.prog 18 #[.string s] w (Val (.bool b) w)) :=
  ⟨_, fun w => specIsPath_any s _ (Lib.hid rfl) w (by omega), fun w => implIsPath_any s _ (Lib.hid rfl) w (by omega)⟩
theorem bothIsClosed (s : ByteArray) (hs : s.size ≤ 1048576) : ∃ (b c : Bool),
    (∀ w, Calls Try.prog 22 #[.string s] w (Val (.tuple #[.bool b, .bool c]) w)) ∧
    (∀ w, Calls Try.prog 23 #[.string s] w (Val (.tuple #[.bool b, .bool c]) w)) :=
  ⟨_, _, fun w => specIsClosed_any s _ (Lib.hid rfl) w (by omega), fun w => implIsClosed_any s _ (Lib.hid rfl) w (by omega)⟩
theorem bothEndOf (s : ByteArray) (hs : s.size ≤ 1048576) : ∃ (x y : Int) (b : Bool),
    (∀ w, Calls Try.prog 19 #[.string s] w (Val (.tuple #[.agg #[.int .i64 x, .int .i64 y], .bool b]) w)) ∧
    (∀ w, Calls Try.prog 20 #[.string s] w (Val (.tuple #[.agg #[.int .i64 x, .int .i64 y], .bool b]) w)) :=
  ⟨_, _, _, fun w => specEndOf_any s _ (Lib.hid rfl) w (by omega), fun w => implEndOf_any s _ (Lib.hid rfl) w (by omega)⟩
theorem bothJoinPaths (s : ByteArray) (hs : s.size ≤ 1048576) (t : ByteArray) (ht : t.size ≤ 1048576) : ∃ (o : ByteArray) (b : Bool),
    (∀ w, Calls Try.prog 34 #[.string s, .string t] w (Val (.tuple #[.string o, .bool b]) w)) ∧
    (∀ w, Calls Try.prog 35 #[.string s, .string t] w (Val (.tuple #[.string o, .bool b]) w)) :=
  ⟨_, _, fun w => specJoinPaths_any s t w hs ht, fun w => implJoinPaths_any s t w hs ht⟩
end Go.Proofs.Ytpaijobmoddgpaa
