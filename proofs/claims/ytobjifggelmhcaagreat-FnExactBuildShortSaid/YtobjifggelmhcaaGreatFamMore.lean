/- Contracts: spec.IsFamily, HasMember, FamilyOf; impl.HasMember. Conditions: numbers of 64 bits, lengths that fit. -/
import Derived.Test.YtobjifggelmhcaaGreatFamOf
namespace Go.Proofs.YtobjifggelmhcaaGreat
open Go.ChangeShapes Go.WideShapes Go.ChangeAt Go.RowKit
set_option linter.unusedVariables false

/-- What HasMember answers. -/
def hasOk (xs : List Int) (n : Int) : Bool := Plain.famB xs && setB n
def hasV (xs : List Int) (n : Int) : Bool := hasOk xs n && Plain.hasB xs n.toNat
theorem has_no {xs : List Int} {n : Int} (h : Plain.famB xs = false ∨ setB n = false) : hasV xs n = false ∧ hasOk xs n = false := by
  have hb : hasOk xs n = false := by rcases h with h | h <;> simp [hasOk, h]
  exact ⟨by rw [hasV, hb]; rfl, hb⟩
theorem has_yes {xs : List Int} {m : Nat} (h : Plain.famB xs = true) (hn : setB (m : Int) = true) : hasV xs (m : Int) = Plain.hasB xs m ∧ hasOk xs (m : Int) = true := by
  have hb : hasOk xs (m : Int) = true := by simp [hasOk, h, hn]
  exact ⟨by rw [hasV, hb]; rfl, hb⟩

end Go.Proofs.YtobjifggelmhcaaGreat
