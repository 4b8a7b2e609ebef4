/- Contracts: spec.LeftWord, LeftLength, l4Length, BalancedLength. Conditions: numbers of 64 bits, lengths that fit. -/
import Derived.Test.YtllmglmjghbaiacNailList
namespace Go.Proofs.Ytllmglmjghbaiac
open Go.ChangeShapes Go.WideShapes Go.ChangeAt Go.RowKit
set_option linter.unusedVariables false

theorem take_one {ns : List Int} {x : Int} (h : ns[0]? = some x) : ns.take 1 = [x] := by
  cases ns with
  | nil => simp at h
  | cons y t => simp at h; subst h; rfl
def nailW (ns out : List Int) : List Int := if Plain.nailsOk ns = true then short out else []
def nailW_B (ns out : List Int) : Bool := Plain.nailsOk ns && shortB out
theorem nailW_yes {ns out : List Int} (h : Plain.nailsOk ns = true) : nailW ns out = short out ∧ nailW_B ns out = shortB out := by simp [nailW, nailW_B, h]
theorem nailW_no {ns out : List Int} (h : Plain.nailsOk ns = false) : nailW ns out = [] ∧ nailW_B ns out = false := by simp [nailW, nailW_B, h]
theorem nailW_le (ns out : List Int) : (nailW ns out).length ≤ 64 := by
  unfold nailW
  split
  · exact short_le out
  · simp
theorem ints_one (W : World) (x : Int) : Ints (W.alloc (.cells #[.int .i64 x] 3)) (some ⟨W.heap.size, 0, none⟩) [x] := fun j y hy => by
  cases j with
  | succ j => simp at hy
  | zero =>
    simp at hy
    subst hy
    refine ⟨W.heap.size, 0, rfl, ?_⟩
    rw [cell_of_row _ W.heap.size 0 _ _ _ (heap_alloc_new W _)]
    rfl
theorem own_one (W : World) (x : Int) {B : Nat} (hB : B ≤ W.heap.size) (n : Nat) : Own B (W.alloc (.cells #[.int .i64 x] 3)) (some ⟨W.heap.size, 0, none⟩) n :=
  .inr ⟨W.heap.size, 0, rfl, hB, by simp, fun j => frozen_of_row _ W.heap.size j _ _ (heap_alloc_new W _)⟩

/-! lengths -/
def lenB (n : Int) : Bool := decide (1 ≤ n ∧ n ≤ 40)
def leftL (n : Int) : Nat := if lenB n = true then Plain.leftLen (n.toNat - 1) else 0
theorem leftL_yes {n : Int} (h : lenB n = true) : leftL n = Plain.leftLen (n.toNat - 1) := if_pos h
theorem leftL_no {n : Int} (h : lenB n = false) : leftL n = 0 := if_neg (by rw [h]; simp)
theorem val_nb {a a' : Nat} {c c' : Bool} {w w' : World} {e : Ending} (h1 : a = a') (h2 : c = c') (h : Val (.tuple #[.int .i64 (a : Int), .bool c]) w e w') : Val (.tuple #[.int .i64 (a' : Int), .bool c']) w e w' := by subst h1; subst h2; exact h
theorem len_nat {n : Int} (h : lenB n = true) : ∃ p : Nat, n = (p : Int) ∧ 1 ≤ p ∧ p ≤ 40 := by
  have h' : 1 ≤ n ∧ n ≤ 40 := by simpa [lenB] using h
  exact ⟨n.toNat, by omega, by omega, by omega⟩

def balL (n : Int) : Nat := if lenB n = true then Plain.balLen 6 n.toNat else 0
theorem balL_yes {n : Int} (h : lenB n = true) : balL n = Plain.balLen 6 n.toNat := if_pos h
theorem balL_no {n : Int} (h : lenB n = false) : balL n = 0 := if_neg (by rw [h]; simp)

end Go.Proofs.Ytllmglmjghbaiac
