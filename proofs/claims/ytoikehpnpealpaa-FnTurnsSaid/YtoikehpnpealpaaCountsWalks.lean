/- Contracts: laws.eqIntA7 at equal arrays; spec.CountLetters, impl.CountLetters. Conditions: numbers of 64 bits, a length that fits. -/
import Derived.Test.YtoikehpnpealpaaNailsWalks
namespace Go.Proofs.Ytoikehpnpealpaa
open Go.ChangeShapes Go.WideShapes Go.ChangeAt Go.RowKit
set_option linter.unusedVariables false

/-- How many letters have a nail. -/
def cnt (l : List Int) (n : Nat) : Nat := (l.filter (fun x => decide (Plain.nail x = (n : Int)))).length
theorem cnt_le (l : List Int) (n : Nat) : cnt l n ≤ l.length := List.length_filter_le _ _
theorem cnt_snoc (l : List Int) (x : Int) (n : Nat) : cnt (l ++ [x]) n = cnt l n + if Plain.nail x = (n : Int) then 1 else 0 := by
  unfold cnt
  rw [List.filter_append, List.length_append]
  by_cases h : Plain.nail x = (n : Int) <;> simp [h]
theorem cnt_zero {l : List Int} (h : Plain.Letters l) : cnt l 0 = 0 := by
  unfold cnt
  rw [List.length_eq_zero_iff, List.filter_eq_nil_iff]
  intro x hx
  have := h x hx
  rw [decide_eq_true_iff]
  unfold Plain.nail
  split <;> omega
def cells7 (c : Nat → Nat) : Array Value := #[.int .i64 (c 0), .int .i64 (c 1), .int .i64 (c 2), .int .i64 (c 3), .int .i64 (c 4), .int .i64 (c 5), .int .i64 (c 6)]
theorem nail_six {x : Int} (hx : x ≠ 0 ∧ -6 ≤ x ∧ x ≤ 6) : Plain.nail x = 1 ∨ Plain.nail x = 2 ∨ Plain.nail x = 3 ∨ Plain.nail x = 4 ∨ Plain.nail x = 5 ∨ Plain.nail x = 6 := by unfold Plain.nail; split <;> omega
/-- What is counted: nothing for what is no word. -/
def cntOf (xs : List Int) (n : Nat) : Nat := if Plain.wordB xs = true then cnt xs n else 0
theorem cntOf_yes {xs : List Int} (h : Plain.wordB xs = true) : cnt xs = cntOf xs := by funext n; exact (if_pos h).symm
theorem cntOf_no {xs : List Int} (h : Plain.wordB xs = false) (n : Nat) : cntOf xs n = 0 := if_neg (by rw [h]; simp)
theorem cells_no {xs : List Int} (h : Plain.wordB xs = false) : cells7 (cntOf xs) = #[.int .i64 0, .int .i64 0, .int .i64 0, .int .i64 0, .int .i64 0, .int .i64 0, .int .i64 0] := by simp [cells7, cntOf_no h]
def CntPost (xs : List Int) (w : World) (e : Ending) (w' : World) : Prop := e = .returned (.tuple #[.agg (cells7 (cntOf xs)), .bool (Plain.wordB xs)]) ∧ Below w.heap.size w w'
theorem cnt_yes {xs : List Int} {w w' : World} (h : Plain.wordB xs = true) (hb : Below w.heap.size w w') : CntPost xs w (.returned (.tuple #[.agg #[.int .i64 (cnt xs 0 : Nat), .int .i64 (cnt xs 1 : Nat), .int .i64 (cnt xs 2 : Nat), .int .i64 (cnt xs 3 : Nat), .int .i64 (cnt xs 4 : Nat), .int .i64 (cnt xs 5 : Nat), .int .i64 (cnt xs 6 : Nat)], .bool true])) w' := ⟨by rw [← cntOf_yes h, h]; rfl, hb⟩
theorem cnt_no {xs : List Int} {w w' : World} (h : Plain.wordB xs = false) (hb : Below w.heap.size w w') : CntPost xs w (.returned (.tuple #[.agg #[.int .i64 0, .int .i64 0, .int .i64 0, .int .i64 0, .int .i64 0, .int .i64 0, .int .i64 0], .bool false])) w' := ⟨by rw [cells_no h, h], hb⟩



end Go.Proofs.Ytoikehpnpealpaa
