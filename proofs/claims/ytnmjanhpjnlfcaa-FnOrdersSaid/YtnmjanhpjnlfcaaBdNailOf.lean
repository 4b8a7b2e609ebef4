/- Contract: spec.l1Most returns the greater one of two numbers. Condition: small numbers. -/
import Derived.Test.YtnmjanhpjnlfcaaInts
import Derived.Test.YtnmjanhpjnlfcaaWord
namespace Go.Proofs.Ytnmjanhpjnlfcaa
open Go.ChangeShapes Go.WideShapes Go.ChangeAt Go.RowKit
set_option linter.unusedVariables false

theorem l1Most_ge (x y : Int) (w : World) (h : y ≤ x) (hx : -100 ≤ x ∧ x ≤ 100) (hy : -100 ≤ y ∧ y ≤ 100) : Calls Try.prog 67 #[.int .i64 x, .int .i64 y] w fun e w' => e = .returned (.int .i64 x) ∧ w = w' := by
  by_cases he : y < x
  · go_enter Try.func67, Try.ntmps67
    go_wp2
    go_ret
    exact ⟨rfl, rfl⟩
  · obtain rfl : x = y := by omega
    go_enter Try.func67, Try.ntmps67
    go_wp2
    go_ret
    exact ⟨rfl, rfl⟩
theorem l1Most_le (x y : Int) (w : World) (h : x < y) (hx : -100 ≤ x ∧ x ≤ 100) (hy : -100 ≤ y ∧ y ≤ 100) : Calls Try.prog 67 #[.int .i64 x, .int .i64 y] w fun e w' => e = .returned (.int .i64 y) ∧ w = w' := by
  have h2 : ¬ y < x := by omega
  go_enter Try.func67, Try.ntmps67
  go_wp2
  go_ret
  exact ⟨rfl, rfl⟩

end Go.Proofs.Ytnmjanhpjnlfcaa

/- Contracts: impl.nailOf and spec.l2Nail return the nail of a letter. Condition: a number from -6 to 6. -/
namespace Go.Proofs.Ytnmjanhpjnlfcaa
open Go.ChangeShapes Go.WideShapes Go.ChangeAt Go.RowKit
set_option linter.unusedVariables false


theorem l2Nail_any (x : Int) (w : World) (h : -6 ≤ x ∧ x ≤ 6) : Calls Try.prog 62 #[.int .i64 x] w fun e w' => e = .returned (.int .i64 (Plain.nail x)) ∧ w = w' := by
  obtain ⟨h1, h2⟩ := h
  by_cases hp : 0 < x
  · have HC : Hid (Plain.nail x = x) := Lib.hid (if_pos hp)
    go_enter Try.func62, Try.ntmps62
    go_wp2_with (go_at_call 67; refine (l1Most_ge x (-x) _ (by omega) (by omega) (by omega)).mono ?_; rintro e w' ⟨rfl, rfl⟩)
    go_ret
    exact ⟨ret_int HC.out.symm, rfl⟩
  · have HC : Hid (Plain.nail x = -x) := Lib.hid (if_neg hp)
    by_cases h0 : x = 0
    · subst h0
      go_enter Try.func62, Try.ntmps62
      go_wp2_with (go_at_call 67; refine (l1Most_ge 0 0 _ (by omega) (by omega) (by omega)).mono ?_; rintro e w' ⟨rfl, rfl⟩)
      go_ret
      exact ⟨ret_int (by rw [HC.out]; rfl), rfl⟩
    · go_enter Try.func62, Try.ntmps62
      go_wp2_with (go_at_call 67; refine (l1Most_le x (-x) _ (by omega) (by omega) (by omega)).mono ?_; rintro e w' ⟨rfl, rfl⟩)
      go_ret
      exact ⟨ret_int HC.out.symm, rfl⟩

end Go.Proofs.Ytnmjanhpjnlfcaa
