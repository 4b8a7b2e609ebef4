/- Contracts: impl.nailOf and spec.l2Nail return the nail of a letter. Condition: a number from -6 to 6. -/
import Derived.Test.YtpaijobmoddgpabMostWalks
import Derived.Test.YtpaijobmoddgpabWord
namespace Go.Proofs.Ytpaijobmoddgpab
open Go.ChangeShapes Go.WideShapes Go.ChangeAt Go.RowKit
set_option linter.unusedVariables false

theorem nailOf_any (x : Int) (w : World) (h : -6 ≤ x ∧ x ≤ 6) : Calls Try.prog 85 #[.int .i64 x] w fun e w' => e = .returned (.int .i64 (Plain.nail x)) ∧ w' = w := by
  obtain ⟨h1, h2⟩ := h
  by_cases hp : 0 < x
  · have HC : Hid (Plain.nail x = x) := Lib.hid (if_pos hp)
    have hm : ¬ x < -x := by omega
    go_enter Try.func85, Try.ntmps85
    go_wp2
    all_goals
      go_ret
      exact ⟨ret_int (by have := HC.out; omega), rfl⟩
  · have HC : Hid (Plain.nail x = -x) := Lib.hid (if_neg hp)
    have hm : ¬ -x < x := by omega
    go_enter Try.func85, Try.ntmps85
    go_wp2
    all_goals
      go_ret
      exact ⟨ret_int (by have := HC.out; omega), rfl⟩
theorem nailOf_left (x : Int) (w : World) (h : -6 ≤ x ∧ x ≤ 6) : Calls Try.prog 85 #[.int .i64 x] w fun e w' => e = .returned (.int .i64 (Plain.nail x)) ∧ w = w' := (nailOf_any x w h).mono fun _ _ h => ⟨h.1, h.2.symm⟩

theorem l2Nail_any (x : Int) (w : World) (h : -6 ≤ x ∧ x ≤ 6) : Calls Try.prog 73 #[.int .i64 x] w fun e w' => e = .returned (.int .i64 (Plain.nail x)) ∧ w = w' := by
  obtain ⟨h1, h2⟩ := h
  by_cases hp : 0 < x
  · have HC : Hid (Plain.nail x = x) := Lib.hid (if_pos hp)
    go_enter Try.func73, Try.ntmps73
    go_wp2_with (go_at_call 64; refine (l1Most_ge x (-x) _ (by omega) (by omega) (by omega)).mono ?_; rintro e w' ⟨rfl, rfl⟩)
    go_ret
    exact ⟨ret_int HC.out.symm, rfl⟩
  · have HC : Hid (Plain.nail x = -x) := Lib.hid (if_neg hp)
    by_cases h0 : x = 0
    · subst h0
      go_enter Try.func73, Try.ntmps73
      go_wp2_with (go_at_call 64; refine (l1Most_ge 0 0 _ (by omega) (by omega) (by omega)).mono ?_; rintro e w' ⟨rfl, rfl⟩)
      go_ret
      exact ⟨ret_int (by rw [HC.out]; rfl), rfl⟩
    · go_enter Try.func73, Try.ntmps73
      go_wp2_with (go_at_call 64; refine (l1Most_le x (-x) _ (by omega) (by omega) (by omega)).mono ?_; rintro e w' ⟨rfl, rfl⟩)
      go_ret
      exact ⟨ret_int HC.out.symm, rfl⟩

end Go.Proofs.Ytpaijobmoddgpab
