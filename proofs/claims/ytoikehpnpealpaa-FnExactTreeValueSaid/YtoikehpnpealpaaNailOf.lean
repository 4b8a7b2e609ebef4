/- Contracts: impl.nailOf and spec.l2Nail return the nail of a letter. Condition: a number from -6 to 6. -/
import Derived.Test.YtoikehpnpealpaaMostWalks
import Derived.Test.YtoikehpnpealpaaWord
namespace Go.Proofs.Ytoikehpnpealpaa
open Go.ChangeShapes Go.WideShapes Go.ChangeAt Go.RowKit
set_option linter.unusedVariables false

theorem nailOf_any (x : Int) (w : World) (h : -6 ≤ x ∧ x ≤ 6) : Calls Try.prog 99 #[.int .i64 x] w fun e w' => e = .returned (.int .i64 (Plain.nail x)) ∧ w' = w := by
  obtain ⟨h1, h2⟩ := h
  by_cases hp : 0 < x
  · have HC : Hid (Plain.nail x = x) := Lib.hid (if_pos hp)
    have hm : ¬ x < -x := by omega
    go_enter Try.func99, Try.ntmps99
    go_wp2
    all_goals
      go_ret
      exact ⟨ret_int (by have := HC.out; omega), rfl⟩
  · have HC : Hid (Plain.nail x = -x) := Lib.hid (if_neg hp)
    have hm : ¬ -x < x := by omega
    go_enter Try.func99, Try.ntmps99
    go_wp2
    all_goals
      go_ret
      exact ⟨ret_int (by have := HC.out; omega), rfl⟩
theorem nailOf_left (x : Int) (w : World) (h : -6 ≤ x ∧ x ≤ 6) : Calls Try.prog 99 #[.int .i64 x] w fun e w' => e = .returned (.int .i64 (Plain.nail x)) ∧ w = w' := (nailOf_any x w h).mono fun _ _ h => ⟨h.1, h.2.symm⟩


end Go.Proofs.Ytoikehpnpealpaa
