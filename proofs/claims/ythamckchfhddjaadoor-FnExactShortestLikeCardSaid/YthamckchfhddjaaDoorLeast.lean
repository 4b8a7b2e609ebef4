/- Plain mathematics of least turns. No condition. -/
import Derived.Test.YthamckchfhddjaaDoorWord
namespace Go.Proofs.YthamckchfhddjaaDoor.Plain
set_option linter.unusedVariables false

def turnAt (l : List Int) (k : Nat) : List Int := l.drop k ++ l.take k
/-- The least one of the first k turns. -/
def leastTo (l : List Int) : Nat → List Int
  | 0 => l
  | k + 1 => if lessB (turnAt l k) (leastTo l k) = true then turnAt l k else leastTo l k
def least (l : List Int) : List Int := leastTo l l.length
theorem turnAt_zero (l : List Int) : turnAt l 0 = l := by simp [turnAt]
theorem turnAt_length (l : List Int) (k : Nat) : (turnAt l k).length = l.length := by simp [turnAt]; omega
theorem leastTo_one (l : List Int) : leastTo l 1 = l := by
  have : lessB (turnAt l 0) l = false := by rw [turnAt_zero]; exact less_same rfl
  simp [leastTo, this]
theorem leastTo_yes {l : List Int} {k : Nat} (h : lessB (turnAt l k) (leastTo l k) = true) : leastTo l (k + 1) = turnAt l k := if_pos h
theorem leastTo_no {l : List Int} {k : Nat} (h : lessB (turnAt l k) (leastTo l k) = false) : leastTo l (k + 1) = leastTo l k := if_neg (by rw [h]; simp)
theorem leastTo_length (l : List Int) (k : Nat) : (leastTo l k).length = l.length := by
  induction k with
  | zero => rfl
  | succ k ih => rw [leastTo]; split
                 · exact turnAt_length l k
                 · exact ih
theorem Letters.turnAt {l : List Int} (h : Letters l) (k : Nat) : Letters (turnAt l k) := fun x hx => by
  rcases List.mem_append.1 hx with hx | hx
  · exact h x (List.mem_of_mem_drop hx)
  · exact h x (List.mem_of_mem_take hx)
theorem Letters.leastTo {l : List Int} (h : Letters l) (k : Nat) : Letters (leastTo l k) := by
  induction k with
  | zero => exact h
  | succ k ih => rw [Plain.leastTo]; split
                 · exact h.turnAt k
                 · exact ih
theorem least_length (l : List Int) : (least l).length = l.length := leastTo_length l _
/-- A list of at most one number. -/
theorem least_short {l : List Int} (h : l.length ≤ 1) : leastTo l 1 = least l := by
  unfold least
  rw [leastTo_one]
  match l, h with
  | [], _ => rfl
  | [x], _ => exact (leastTo_one [x]).symm
end Go.Proofs.YthamckchfhddjaaDoor.Plain
