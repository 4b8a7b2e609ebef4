/- Contracts: spec.l3Set, l3In, l3Take, TakeOut, l3Falls, DoesFall: what is left of a word when nails are taken out. Conditions: letters, sets from 0 to 63, lengths that fit. -/
import Derived.Test.YticekahpmjjmkaaNailOf
import Derived.Test.YticekahpmjjmkaaNailsWalks
import Derived.Test.YticekahpmjjmkaaWord
import Derived.Test.YticekahpmjjmkaaInvWalks
import Derived.Test.YticekahpmjjmkaaWordWalks
import Derived.Test.YticekahpmjjmkaaLawKit
import Derived.Test.YticekahpmjjmkaaSetKit
namespace Go.Proofs.Yticekahpmjjmkaa
open Go.ChangeShapes Go.WideShapes Go.ChangeAt Go.RowKit
set_option linter.unusedVariables false



/-- What TakeOut answers. -/
def takeB (xs : List Int) (n : Int) : Bool := Plain.wordB xs && setB n
def takeW (xs : List Int) (n : Int) : List Int := if takeB xs n = true then Plain.takeOut xs n.toNat else []
theorem takeW_le (xs : List Int) (n : Int) : (takeW xs n).length ≤ xs.length := by
  unfold takeW
  split
  · exact Plain.takeOut_le xs _
  · simp
theorem take_yes {xs : List Int} {s : Nat} (h : Plain.wordB xs = true) (hs : setB (s : Int) = true) : takeW xs (s : Int) = Plain.takeOut xs s ∧ takeB xs (s : Int) = true := by
  have hb : takeB xs (s : Int) = true := by simp [takeB, h, hs]
  exact ⟨by rw [takeW, if_pos hb]; rfl, hb⟩
theorem take_no {xs : List Int} {n : Int} (h : Plain.wordB xs = false ∨ setB n = false) : takeW xs n = [] ∧ takeB xs n = false := by
  have hb : takeB xs n = false := by rcases h with h | h <;> simp [takeB, h]
  exact ⟨by rw [takeW, if_neg (by rw [hb]; simp)], hb⟩


def fallW (xs : List Int) (n : Int) : Bool := takeB xs n && Plain.fallsB xs n.toNat
theorem fall_yes {xs : List Int} {s : Nat} (h : Plain.wordB xs = true) (hs : setB (s : Int) = true) : fallW xs (s : Int) = Plain.fallsB xs s ∧ takeB xs (s : Int) = true := by
  have hb := (take_yes h hs).2
  exact ⟨by rw [fallW, hb]; rfl, hb⟩
theorem fall_no {xs : List Int} {n : Int} (h : Plain.wordB xs = false ∨ setB n = false) : fallW xs n = false ∧ takeB xs n = false := by
  have hb := (take_no h).2
  exact ⟨by rw [fallW, hb]; rfl, hb⟩

end Go.Proofs.Yticekahpmjjmkaa
