/- Both programs of stage 4 answer alike: the contracts of spec and impl side by side. Conditions: numbers of 64 bits, lengths that fit. -/
import Derived.Test.YtoikehpnpealpaaTopVal
namespace Go.Proofs.Ytoikehpnpealpaa
open Go.ChangeShapes Go.WideShapes Go.ChangeAt Go.RowKit
set_option linter.unusedVariables false

theorem bothTreeValue (s : ByteArray) (hs : s.size ≤ 1048576) : ∃ (out : List Int) (ok : Bool), out.length ≤ 1048576 ∧
    (∀ w, Calls Try.prog 28 #[.string s] w (SB out ok w)) ∧
    (∀ w, Calls Try.prog 27 #[.string s] w (SB out ok w)) :=
  ⟨_, _, Nat.le_trans (treeV_fine s).1 (by omega), fun w => specTreeValue_any s w, fun w => implTreeValue_any s w (by omega)⟩

end Go.Proofs.Ytoikehpnpealpaa
