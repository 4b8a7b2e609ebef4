/- Contract: spec.l2Text returns the text of a list of letters. Conditions: letters, a length that fits. -/
import Derived.Test.YtllmglmjghbaiabLessWalks
import Derived.Test.YtllmglmjghbaiabLawKit
namespace Go.Proofs.Ytllmglmjghbaiab
open Go.ChangeShapes Go.WideShapes Go.ChangeAt Go.RowKit
set_option linter.unusedVariables false

/-- The byte of a letter. -/
def signNat (x : Int) : Nat := if x < 0 then (65 - x - 1).toNat else (97 + x - 1).toNat
def signB (x : Int) : UInt8 := UInt8.ofNat (signNat x)
theorem sign_six {x : Int} (hx : x ≠ 0 ∧ -6 ≤ x ∧ x ≤ 6) : x = 1 ∨ x = -1 ∨ x = 2 ∨ x = -2 ∨ x = 3 ∨ x = -3 ∨ x = 4 ∨ x = -4 ∨ x = 5 ∨ x = -5 ∨ x = 6 ∨ x = -6 := by omega
def textB (l : List Int) : List UInt8 := l.map signB
def textOf (l : List Int) : ByteArray := ⟨(textB l).toArray⟩
theorem textOf_nil : textOf [] = ⟨#[]⟩ := rfl
theorem textOf_snoc (l : List Int) (x : Int) : textOf (l ++ [x]) = textOf l ++ ⟨#[signB x]⟩ := by
  apply ByteArray.ext
  simp [textOf, textB]
theorem textOf_size (l : List Int) : (textOf l).size = l.length := by simp [textOf, textB, ByteArray.size]


end Go.Proofs.Ytllmglmjghbaiab
