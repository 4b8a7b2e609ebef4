/- Contract: spec.l1In: a number between two bounds. -/
import Derived.Test.YtpaijobmoddgpabInts
namespace Go.Proofs.Ytpaijobmoddgpab
open Go.ChangeShapes Go.WideShapes Go.ChangeAt Go.RowKit
set_option linter.unusedVariables false

theorem l1In_any (x a b : Int) (w : World) (h : -9223372036854775808 ≤ x ∧ x ≤ 9223372036854775807) :
    Calls Try.prog 36 #[.int .i64 x, .int .i64 a, .int .i64 b] w fun e w' => e = .returned (.bool (decide (a ≤ x ∧ x ≤ b))) ∧ w = w' := by
  obtain ⟨hl, hh⟩ := h
  by_cases h1 : a ≤ x
  · have hd1 : decide (a ≤ x) = true := by simpa using h1
    by_cases h2 : x ≤ b
    · have HL := Lib.hid (show decide (a ≤ x ∧ x ≤ b) = true by simp; omega)
      have hd2 : decide (x ≤ b) = true := by simpa using h2
      go_enter Try.func36, Try.ntmps36
      go_wp2
      go_ret
      exact ⟨ret_bool (by first | rfl | exact HL.out.symm), rfl⟩
    · have HL := Lib.hid (show decide (a ≤ x ∧ x ≤ b) = false by simp; omega)
      have hd2 : decide (x ≤ b) = false := by simpa using h2
      go_enter Try.func36, Try.ntmps36
      go_wp2
      go_ret
      exact ⟨ret_bool (by first | rfl | exact HL.out.symm), rfl⟩
  · have HL := Lib.hid (show decide (a ≤ x ∧ x ≤ b) = false by simp; omega)
    have hd1 : decide (a ≤ x) = false := by simpa using h1
    go_enter Try.func36, Try.ntmps36
    go_wp2
    go_ret
    exact ⟨ret_bool (by first | rfl | exact HL.out.symm), rfl⟩

end Go.Proofs.Ytpaijobmoddgpab
