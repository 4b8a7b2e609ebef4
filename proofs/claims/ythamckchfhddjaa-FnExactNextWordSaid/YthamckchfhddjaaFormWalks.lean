/- Contracts: impl.wordForms, impl.formOf at the first two forms; spec.ReduceWord, impl.ReduceWord, spec.InverseWord, impl.InverseWord. Conditions: numbers of 64 bits, lengths that fit. -/
import Derived.Laws.EntriesVeiled
import Derived.Test.YthamckchfhddjaaInvWalks
import Derived.Test.YthamckchfhddjaaWordWalks
import Derived.Test.YthamckchfhddjaaLawKit
namespace Go.Proofs.Ythamckchfhddjaa
open Go.ChangeShapes Go.WideShapes Go.ChangeAt Go.RowKit






/-- What a form comes to: empty for what is no word. -/
def ifWord (xs out : List Int) : List Int := if Plain.wordB xs = true then out else []
theorem ifWord_yes {xs out : List Int} (h : Plain.wordB xs = true) : ifWord xs out = out := if_pos h
theorem ifWord_no {xs out : List Int} (h : Plain.wordB xs = false) : ifWord xs out = [] := if_neg (by rw [h]; simp)
theorem ifWord_le {xs out : List Int} {n : Nat} (h : out.length ≤ n) : (ifWord xs out).length ≤ n := by
  by_cases hw : Plain.wordB xs = true
  · rw [ifWord_yes hw]; exact h
  · rw [ifWord_no (by simpa using hw)]; exact Nat.zero_le _





end Go.Proofs.Ythamckchfhddjaa
