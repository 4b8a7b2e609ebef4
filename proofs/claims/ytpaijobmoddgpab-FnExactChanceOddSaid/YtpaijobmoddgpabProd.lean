/- Contracts: spec.l2Join, l2Short; what products come to. Conditions: letters, lengths that fit. -/
import Derived.Test.YtpaijobmoddgpabInvWalks
import Derived.Test.YtpaijobmoddgpabWordWalks
import Derived.Test.YtpaijobmoddgpabLawKit
namespace Go.Proofs.Ytpaijobmoddgpab
open Go.ChangeShapes Go.WideShapes Go.ChangeAt Go.RowKit
set_option linter.unusedVariables false

theorem ListPost.of {xs : List Int} {w w' : World} {e : Ending} (h : RedPost xs w e w') : ListPost (Plain.red xs) w e w' := h


/-- A product of at most 64 letters, or none. -/
def shortB (xs : List Int) : Bool := decide (xs.length ≤ 64)
def short (xs : List Int) : List Int := if xs.length ≤ 64 then xs else []
theorem short_yes {xs : List Int} (h : xs.length ≤ 64) : short xs = xs ∧ shortB xs = true := ⟨if_pos h, by simp [shortB, h]⟩
theorem short_no {xs : List Int} (h : ¬ xs.length ≤ 64) : short xs = [] ∧ shortB xs = false := ⟨if_neg h, by simp [shortB, h]⟩
theorem short_le (xs : List Int) : (short xs).length ≤ 64 := by
  by_cases h : xs.length ≤ 64
  · rw [(short_yes h).1]; exact h
  · rw [(short_no h).1]; exact Nat.zero_le _
theorem sb_eq {out out' : List Int} {ok ok' : Bool} {w w' : World} {e : Ending} (h1 : out = out') (h2 : ok = ok') (h : SB out' ok' w e w') : SB out ok w e w' := by subst h1 h2; exact h


/-- Both are words. -/
def bothB (xs ys : List Int) : Bool := Plain.wordB xs && Plain.wordB ys
/-- What a product comes to. -/
def prodOut (xs ys zs : List Int) : List Int := if bothB xs ys = true then short (Plain.red zs) else []
def prodOk (xs ys zs : List Int) : Bool := bothB xs ys && shortB (Plain.red zs)
theorem prod_yes {xs ys zs : List Int} (h1 : Plain.wordB xs = true) (h2 : Plain.wordB ys = true) : prodOut xs ys zs = short (Plain.red zs) ∧ prodOk xs ys zs = shortB (Plain.red zs) := by simp [prodOut, prodOk, bothB, h1, h2]
theorem prod_no1 {xs ys zs : List Int} (h1 : Plain.wordB xs = false) : prodOut xs ys zs = [] ∧ prodOk xs ys zs = false := by simp [prodOut, prodOk, bothB, h1]
theorem prod_no2 {xs ys zs : List Int} (h2 : Plain.wordB ys = false) : prodOut xs ys zs = [] ∧ prodOk xs ys zs = false := by simp [prodOut, prodOk, bothB, h2]
theorem prod_le (xs ys zs : List Int) : (prodOut xs ys zs).length ≤ 1048576 := by
  have := short_le (Plain.red zs)
  unfold prodOut
  split
  · omega
  · simp

end Go.Proofs.Ytpaijobmoddgpab
