/- Both programs' FreeCorners side by side. Condition: texts of at most 2^20 bytes. -/
import Derived.Test.YtpaijobmoddgpaaPathFrees
namespace Go.Proofs.Ytpaijobmoddgpaa
open Go.ChangeShapes Go.WideShapes Go.ChangeAt Go.RowKit
set_option linter.unusedVariables false

theorem bothFreeCorners (s : ByteArray) (hs : s.size ≤ 1048576) : ∃ (out : List Int) (ok : Bool), out.length ≤ 1048576 ∧
    (∀ w, Calls Try.prog 42 #[.string s] w (SB out ok w)) ∧
    (∀ w, Calls Try.prog 43 #[.string s] w (SB out ok w)) :=
  ⟨_, _, Nat.le_trans (freeL_le s.data.toList) (by omega), fun w => specFreeCorners_any s _ (Lib.hid rfl) w hs, fun w => implFreeCorners_any s _ (Lib.hid rfl) w (by omega)⟩
end Go.Proofs.Ytpaijobmoddgpaa
