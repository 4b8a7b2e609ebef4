/- Contracts: spec.OutFamily, FixFamily. Conditions: numbers of 64 bits, lengths that fit. -/
import Derived.Test.YtkifniailkppnaaFamTab
namespace Go.Proofs.Ytkifniailkppnaa
open Go.ChangeShapes Go.WideShapes Go.ChangeAt Go.RowKit
set_option linter.unusedVariables false

/-- What OutFamily answers. -/
def outB (xs : List Int) (n : Int) : Bool := Plain.famB xs && setB n
def outW (xs : List Int) (n : Int) : List Int := if outB xs n = true then Plain.edges (fun s => Plain.hasB xs (s ||| n.toNat)) true else []
theorem out_no {xs : List Int} {n : Int} (h : Plain.famB xs = false ∨ setB n = false) : outW xs n = [] ∧ outB xs n = false := by
  have hb : outB xs n = false := by rcases h with h | h <;> simp [outB, h]
  exact ⟨by rw [outW, hb]; simp, hb⟩
theorem out_yes {xs : List Int} {m : Nat} (h : Plain.famB xs = true) (hn : setB (m : Int) = true) : outW xs (m : Int) = Plain.edges (fun s => Plain.hasB xs (s ||| m)) true ∧ outB xs (m : Int) = true := by
  have hb : outB xs (m : Int) = true := by simp [outB, h, hn]
  exact ⟨by rw [outW, hb]; simp, hb⟩
theorem outW_le (xs : List Int) (n : Int) : (outW xs n).length ≤ 64 := by
  unfold outW
  split
  · exact Plain.edges_le _ _
  · simp
/-- What FixFamily answers. -/
def fixB (xs : List Int) (n : Int) : Bool := Plain.famB xs && setB n
def fixW (xs : List Int) (n : Int) : List Int := if fixB xs n = true then Plain.edges (fun s => Plain.hasB xs (Plain.clr s n.toNat)) true else []
theorem fix_no {xs : List Int} {n : Int} (h : Plain.famB xs = false ∨ setB n = false) : fixW xs n = [] ∧ fixB xs n = false := by
  have hb : fixB xs n = false := by rcases h with h | h <;> simp [fixB, h]
  exact ⟨by rw [fixW, hb]; simp, hb⟩
theorem fix_yes {xs : List Int} {m : Nat} (h : Plain.famB xs = true) (hn : setB (m : Int) = true) : fixW xs (m : Int) = Plain.edges (fun s => Plain.hasB xs (Plain.clr s m)) true ∧ fixB xs (m : Int) = true := by
  have hb : fixB xs (m : Int) = true := by simp [fixB, h, hn]
  exact ⟨by rw [fixW, hb]; simp, hb⟩
theorem fixW_le (xs : List Int) (n : Int) : (fixW xs n).length ≤ 64 := by
  unfold fixW
  split
  · exact Plain.edges_le _ _
  · simp

end Go.Proofs.Ytkifniailkppnaa
