/- Contracts: spec.l2Inverse and (impl.word).inverse return the inverse of a list of letters, spec.l1Own a copy, spec.l2Join a product, in new memory. Conditions: letters, lengths that fit. -/
import Derived.Test.YtpaijobmoddgpabReducedWalks
import Derived.Test.YtpaijobmoddgpabSetKit
namespace Go.Proofs.Ytpaijobmoddgpab
open Go.ChangeShapes Go.WideShapes Go.ChangeAt Go.RowKit

/-- The opposites of what stands from place j on, from the last one on. -/
def invTo (xs : List Int) (j : Nat) : List Int := Plain.inv (xs.drop j)
theorem invTo_end (xs : List Int) : invTo xs xs.length = [] := by simp [invTo, Plain.inv]
theorem invTo_zero (xs : List Int) : invTo xs 0 = Plain.inv xs := by simp [invTo]
theorem invTo_step {xs : List Int} {j : Nat} {x : Int} (h : xs[j]? = some x) : invTo xs j = invTo xs (j + 1) ++ [-x] := by
  have hj := at_lt h
  have : xs.drop j = x :: xs.drop (j + 1) := by
    rw [List.drop_eq_getElem_cons hj]
    congr 1
    rw [List.getElem?_eq_getElem hj] at h
    simpa using h
  rw [invTo, this, Plain.inv_cons]
  rfl
theorem invTo_length (xs : List Int) (j : Nat) : (invTo xs j).length ≤ xs.length := by simp [invTo, Plain.inv]

theorem RedPost_def (xs : List Int) (w : World) : RedPost xs w = ListPost (Plain.red xs) w := rfl




end Go.Proofs.Ytpaijobmoddgpab
