/- Plain mathematics: the lists of nails by their places. No condition. -/
import Derived.Test.YtnmjanhpjnlfcaaWindList
namespace Go.Proofs.Ytnmjanhpjnlfcaa.Plain
set_option linter.unusedVariables false

def listF : Nat → Nat → List Int
  | 0, _ => []
  | k + 1, q => if q = 0 then [] else listF k (parQ q) ++ [(((q - 1) % 6 + 1 : Nat) : Int)]
/-- The list at a place. -/
def listP (q : Nat) : List Int := listF 4 q
theorem listF_zero (k : Nat) : listF k 0 = [] := by cases k <;> rfl
theorem listF_one (k : Nat) {q : Nat} (h : q < 7) : listF (k + 1) q = listF 1 q := by
  show (if q = 0 then [] else listF k (parQ q) ++ _) = (if q = 0 then [] else listF 0 (parQ q) ++ _)
  have e : parQ q = 0 := by unfold parQ; omega
  rw [e, listF_zero, listF_zero]
theorem listF_two (k : Nat) {q : Nat} (h : q < 43) : listF (k + 2) q = listF 2 q := by
  show (if q = 0 then [] else listF (k + 1) (parQ q) ++ _) = (if q = 0 then [] else listF 1 (parQ q) ++ _)
  rw [listF_one k (q := parQ q) (by unfold parQ; omega)]
theorem listP_zero : listP 0 = [] := rfl
theorem listP_at {q : Nat} (h : q < 259) (h0 : q ≠ 0) : listP q = listP (parQ q) ++ [(((q - 1) % 6 + 1 : Nat) : Int)] := by
  show (if q = 0 then [] else listF 3 (parQ q) ++ _) = listF (2 + 2) (parQ q) ++ _
  rw [if_neg h0, listF_two 2 (q := parQ q) (by unfold parQ; omega), listF_two 1 (q := parQ q) (by unfold parQ; omega)]
theorem listP_behind {p t : Nat} (hp : p < 43) (ht : t < 6) : listP (6 * p + (t + 1)) = listP p ++ [((t : Nat) : Int) + 1] := by
  rw [listP_at (by omega) (by omega), show parQ (6 * p + (t + 1)) = p by unfold parQ; omega, show (6 * p + (t + 1) - 1) % 6 + 1 = t + 1 by omega]
  rfl
/-- How many nails the list at a place has. -/
def lenQ (q : Nat) : Nat := if q = 0 then 0 else if q < 7 then 1 else if q < 43 then 2 else 3
set_option maxRecDepth 100000 in
theorem list_facts : ((List.range 259).all fun q => listB (listP q) && decide (placeL (listP q) = q) && decide ((listP q).length = lenQ q)) = true := by kernel_rfl
theorem listP_fact {q : Nat} (h : q < 259) : listB (listP q) = true ∧ placeL (listP q) = q ∧ (listP q).length = lenQ q := by
  have := List.all_eq_true.1 list_facts q (List.mem_range.2 h)
  simp only [Bool.and_eq_true, decide_eq_true_eq] at this
  exact ⟨this.1.1, this.1.2, this.2⟩
theorem listP_len {q : Nat} (h : q < 259) : (listP q).length ≤ 3 := (listB_iff.1 (listP_fact h).1).1
/-- The lists of n nails, in order. -/
def manyL (n : Nat) : Nat := 6 ^ n
def listsTo (n k : Nat) : List (List Int) := (List.range k).map fun i => listP (cntL n + i)
theorem listsTo_len (n k : Nat) : (listsTo n k).length = k := by simp [listsTo]
theorem listsTo_at {n k i : Nat} (h : i < k) : (listsTo n k)[i]? = some (listP (cntL n + i)) := by simp [listsTo, h]
theorem listsTo_step (n k : Nat) : listsTo n (k + 1) = listsTo n k ++ [listP (cntL n + k)] := by simp [listsTo, List.range_succ]
theorem listsTo_zero (n : Nat) : listsTo n 0 = [] := rfl
theorem lists_first : listsTo 0 1 = [[]] := rfl
theorem manyL_cnt (n : Nat) : cntL n + manyL n = cntL (n + 1) := by
  induction n with
  | zero => rfl
  | succ n ih =>
    have e : manyL (n + 1) = 6 * manyL n := by unfold manyL; rw [Nat.pow_succ, Nat.mul_comm]
    show (1 + 6 * cntL n) + manyL (n + 1) = 1 + 6 * cntL (n + 1)
    rw [e]; omega
theorem manyL_step (n : Nat) : manyL (n + 1) = 6 * manyL n := by unfold manyL; rw [Nat.pow_succ, Nat.mul_comm]
theorem manyL_le {n : Nat} (h : n ≤ 3) : manyL n ≤ 216 := by
  have e : n = 0 ∨ n = 1 ∨ n = 2 ∨ n = 3 := by omega
  rcases e with rfl | rfl | rfl | rfl <;> decide
/-- A list with a nail behind it is the next one of the longer ones. -/
theorem listsTo_more {n i t : Nat} (hn : n ≤ 2) (hi : i < manyL n) (ht : t < 6) : listsTo (n + 1) (6 * i + t) ++ [listP (cntL n + i) ++ [(t : Int) + 1]] = listsTo (n + 1) (6 * i + (t + 1)) := by
  have hc := manyL_cnt n
  have hl := cntL_le (l := n) (by omega)
  have h43 : cntL (n + 1) ≤ 43 := by
    have e : n = 0 ∨ n = 1 ∨ n = 2 := by omega
    rcases e with rfl | rfl | rfl <;> decide
  rw [show 6 * i + (t + 1) = (6 * i + t) + 1 by omega, listsTo_step, show cntL (n + 1) + (6 * i + t) = 6 * (cntL n + i) + (t + 1) by show 1 + 6 * cntL n + (6 * i + t) = _; omega, listP_behind (by omega) ht]

/-! the first place with a coefficient -/
def firstQ (c : Nat → Int) : Option Nat := (List.range 259).find? fun q => decide (0 < q ∧ c q ≠ 0)
theorem firstQ_some {c : Nat → Int} {q : Nat} (h0 : 0 < q) (h : q < 259) (hc : c q ≠ 0) (hz : ∀ p, 0 < p → p < q → c p = 0) : firstQ c = some q := by
  unfold firstQ
  rw [List.find?_range_eq_some]
  exact ⟨by simp [h0, hc], List.mem_range.2 h, fun j hj => by
    by_cases hj0 : j = 0
    · simp [hj0]
    · simp [hz j (by omega) hj]⟩
theorem firstQ_none {c : Nat → Int} (hz : ∀ p, 0 < p → p < 259 → c p = 0) : firstQ c = none := by
  unfold firstQ
  rw [List.find?_eq_none]
  intro q hq
  simp at hq ⊢
  exact fun h => hz q h hq

end Go.Proofs.Ytnmjanhpjnlfcaa.Plain
