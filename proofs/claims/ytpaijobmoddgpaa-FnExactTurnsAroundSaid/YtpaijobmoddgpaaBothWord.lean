/- Both programs' ReadPath, TurnsAround side by side. Condition: texts of at most 2^20 bytes. -/
import Derived.Test.YtpaijobmoddgpaaPathTurns
namespace Go.Proofs.Ytpaijobmoddgpaa
open Go.ChangeShapes Go.WideShapes Go.ChangeAt Go.RowKit
set_option linter.unusedVariables false

theorem bothReadPath (s : ByteArray) (hs : s.size ≤ 1048576) : ∃ (out : List Int) (ok : Bool), out.length ≤ 1048576 ∧
    (∀ w, Calls Try.prog 24 #[.string s] w (SB out ok w)) ∧
    (∀ w, Calls Try.prog 25 #[.string s] w (SB out ok w)) :=
  ⟨_, _, Nat.le_trans (readL_le s.data.toList) (by omega), fun w => specReadPath_any s _ (Lib.hid rfl) w (by omega), fun w => implReadPath_any s _ (Lib.hid rfl) w (by omega)⟩
theorem bothTurnsAround (s : ByteArray) (hs : s.size ≤ 1048576) (n : Int) (hl : -9223372036854775808 ≤ n) (hh : n ≤ 9223372036854775807) : ∃ (m : Int) (b : Bool),
    (∀ w, Calls Try.prog 52 #[.string s, .int .i64 n] w (Val (.tuple #[.int .i64 m, .bool b]) w)) ∧
    (∀ w, Calls Try.prog 53 #[.string s, .int .i64 n] w (Val (.tuple #[.int .i64 m, .bool b]) w)) :=
  ⟨_, _, fun w => specTurns_any s _ (Lib.hid rfl) n w (by omega) ⟨hl, hh⟩, fun w => implTurns_any s _ (Lib.hid rfl) n w (by omega)⟩
end Go.Proofs.Ytpaijobmoddgpaa
