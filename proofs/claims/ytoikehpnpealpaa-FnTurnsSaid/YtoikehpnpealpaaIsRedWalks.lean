/- Contracts: spec.IsReduced and impl.IsReduced tell whether a word is reduced. Conditions: numbers of 64 bits, a length that fits. -/
import Derived.Test.YtoikehpnpealpaaFormWalks
namespace Go.Proofs.Ytoikehpnpealpaa
open Go.ChangeShapes Go.WideShapes Go.ChangeAt Go.RowKit

theorem ret_bb {a b c : Bool} (h : a = b) : Ending.returned (.tuple #[.bool a, .bool c]) = .returned (.tuple #[.bool b, .bool c]) := by rw [h]
def redB (xs : List Int) : Bool := decide ((Plain.red xs).length = xs.length)
theorem red_iff {xs : List Int} : redB xs = true ↔ Plain.Reduced xs := by rw [redB, decide_eq_true_iff, Plain.red_length_eq]
/-- No letter up to place k is behind its opposite. -/
theorem reduced_take_succ {xs : List Int} {k : Nat} {x y : Int} (hx : xs[k]? = some x) (hy : xs[k + 1]? = some y) : Plain.Reduced (xs.take (k + 2)) ↔ Plain.Reduced (xs.take (k + 1)) ∧ x ≠ -y := by
  rw [Plain.take_snoc hy, Plain.reduced_append, Plain.take_snoc hx]
  simp [Plain.Reduced]
theorem reduced_all {xs : List Int} {k : Nat} (h : xs.length ≤ k) : xs.take k = xs := List.take_of_length_le h
theorem reduced_part {xs : List Int} {k : Nat} (h : Plain.Reduced xs) : Plain.Reduced (xs.take k) := by
  have := h
  rw [← List.take_append_drop k xs, Plain.reduced_append] at this
  exact this.1
theorem reduced_one (xs : List Int) : Plain.Reduced (xs.take 1) := by
  cases xs with
  | nil => trivial
  | cons x t => simp [Plain.Reduced]


/-- Whether a word is reduced; false for what is no word. -/
def isRedB (xs : List Int) : Bool := Plain.wordB xs && redB xs
theorem isRed_yes {xs : List Int} (h : Plain.wordB xs = true) : isRedB xs = redB xs := by rw [isRedB, h]; rfl
theorem isRed_no {xs : List Int} (h : Plain.wordB xs = false) : isRedB xs = false := by rw [isRedB, h]; rfl


end Go.Proofs.Ytoikehpnpealpaa
