/- Contracts: spec.NailsOf, impl.NailsOf and what they call return the set of the nails of a word. Conditions: numbers of 64 bits, a length that fits. -/
import Derived.Test.YtpaijobmoddgpabLawKit
import Derived.Test.YtpaijobmoddgpabNailOf
import Derived.Test.YtpaijobmoddgpabWordWalks
import Derived.Test.YtpaijobmoddgpabMostWalks
import Derived.Laws.BitsAllLaws
import Derived.Test.YtpaijobmoddgpabSetKit
namespace Go.Proofs.Ytpaijobmoddgpab
open Go.ChangeShapes Go.WideShapes Go.ChangeAt Go.RowKit
set_option linter.unusedVariables false

/-- The set of the nails of a list of letters. -/
def nailStep (s : Nat) (x : Int) : Nat := s ||| 2 ^ ((Plain.nail x).toNat - 1)
def nailSet (l : List Int) : Nat := l.foldl nailStep 0
theorem nailStep_lt {s : Nat} {x : Int} (hs : s < 64) (hx : -6 ≤ x ∧ x ≤ 6) : nailStep s x < 64 := by
  have h : (Plain.nail x).toNat - 1 ≤ 5 := by unfold Plain.nail; split <;> omega
  exact Nat.or_lt_two_pow (n := 6) hs (Nat.lt_of_le_of_lt (Nat.pow_le_pow_right (by decide) h) (by decide))
theorem nailFold_lt (l : List Int) : ∀ s, s < 64 → Plain.Letters l → l.foldl nailStep s < 64 := by
  induction l with
  | nil => intro s hs _; exact hs
  | cons x l ih => intro s hs hl; exact ih _ (nailStep_lt hs (hl x (by simp)).2) (fun y hy => hl y (List.mem_cons_of_mem _ hy))
theorem nailSet_lt {l : List Int} (hl : Plain.Letters l) : nailSet l < 64 := nailFold_lt l 0 (by decide) hl
theorem nailSet_take {l : List Int} {k : Nat} {x : Int} (h : l[k]? = some x) : nailSet (l.take (k + 1)) = nailStep (nailSet (l.take k)) x := by
  rw [Plain.take_snoc h, nailSet, List.foldl_append]
  rfl
theorem take_letters {l : List Int} (h : Plain.Letters l) (k : Nat) : Plain.Letters (l.take k) := fun x hx => h x (List.mem_of_mem_take hx)
/-- The nail of a letter, as a place and a power. -/
theorem nail_parts {x : Int} (hx : x ≠ 0 ∧ -6 ≤ x ∧ x ≤ 6) : ∃ p q : Nat, Plain.nail x = (p : Int) + 1 ∧ p ≤ 5 ∧ (2 : Int) ^ p = (q : Int) ∧ q ≤ 32 ∧ ∀ s, nailStep s x = s ||| q := by
  have h : ∃ p : Nat, Plain.nail x = (p : Int) + 1 ∧ p ≤ 5 := ⟨(Plain.nail x).toNat - 1, by unfold Plain.nail; split <;> omega, by unfold Plain.nail; split <;> omega⟩
  obtain ⟨p, hp, hp5⟩ := h
  refine ⟨p, 2 ^ p, hp, hp5, by simp, ?_, fun s => ?_⟩
  · exact Nat.le_trans (Nat.pow_le_pow_right (by decide) hp5) (by decide)
  · rw [nailStep, hp]
    congr 2


theorem ret_ib {a b : Int} {c d : Bool} (h1 : a = b) (h2 : c = d) : Ending.returned (.tuple #[.int .i64 a, .bool c]) = .returned (.tuple #[.int .i64 b, .bool d]) := by rw [h1, h2]
def nailsOut (xs : List Int) : Int := if Plain.wordB xs = true then (nailSet xs : Nat) else 0
theorem nails_yes {xs : List Int} (h : Plain.wordB xs = true) : nailsOut xs = (nailSet xs : Nat) := if_pos h
theorem nails_no {xs : List Int} (h : Plain.wordB xs = false) : nailsOut xs = 0 := if_neg (by rw [h]; simp)


end Go.Proofs.Ytpaijobmoddgpab
