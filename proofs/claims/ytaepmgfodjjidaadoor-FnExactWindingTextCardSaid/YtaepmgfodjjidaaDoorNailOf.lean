/- Contracts: impl.nailOf and spec.l2Nail return the nail of a letter. Condition: a number from -6 to 6. -/
import Derived.Test.YtaepmgfodjjidaaDoorMostWalks
import Derived.Test.YtaepmgfodjjidaaDoorWord
namespace Go.Proofs.YtaepmgfodjjidaaDoor
open Go.ChangeShapes Go.WideShapes Go.ChangeAt Go.RowKit
set_option linter.unusedVariables false


theorem l2Nail_any (x : Int) (w : World) (h : -6 ≤ x ∧ x ≤ 6) : Calls Tryd.prog 43 #[.int .i64 x] w fun e w' => e = .returned (.int .i64 (Plain.nail x)) ∧ w = w' := by
  obtain ⟨h1, h2⟩ := h
  by_cases hp : 0 < x
  · have HC : Hid (Plain.nail x = x) := Lib.hid (if_pos hp)
    go_enter Tryd.func43, Tryd.ntmps43
    go_wp2_with (go_at_call 55; refine (l1Most_ge x (-x) _ (by omega) (by omega) (by omega)).mono ?_; rintro e w' ⟨rfl, rfl⟩)
    go_ret
    exact ⟨ret_int HC.out.symm, rfl⟩
  · have HC : Hid (Plain.nail x = -x) := Lib.hid (if_neg hp)
    by_cases h0 : x = 0
    · subst h0
      go_enter Tryd.func43, Tryd.ntmps43
      go_wp2_with (go_at_call 55; refine (l1Most_ge 0 0 _ (by omega) (by omega) (by omega)).mono ?_; rintro e w' ⟨rfl, rfl⟩)
      go_ret
      exact ⟨ret_int (by rw [HC.out]; rfl), rfl⟩
    · go_enter Tryd.func43, Tryd.ntmps43
      go_wp2_with (go_at_call 55; refine (l1Most_le x (-x) _ (by omega) (by omega) (by omega)).mono ?_; rintro e w' ⟨rfl, rfl⟩)
      go_ret
      exact ⟨ret_int HC.out.symm, rfl⟩

end Go.Proofs.YtaepmgfodjjidaaDoor
