/- Lists of nails and their places. Contracts: impl.isNail, areNails, isList, placeOf; spec.l8List, l8Get. Conditions: numbers of 64 bits, lengths that fit; coefficients that are small. -/
import Derived.Test.YtaepmgfodjjidaaDoorWindKit
import Derived.Test.YtaepmgfodjjidaaDoorRange
import Derived.StillTailTactics
namespace Go.Proofs.YtaepmgfodjjidaaDoor.Plain
set_option linter.unusedVariables false
def nail8 (n : Int) : Bool := decide (1 ≤ n ∧ n ≤ 6)
def nails8 (l : List Int) : Bool := l.all nail8
def listB (l : List Int) : Bool := decide (l.length ≤ 3) && nails8 l
def placeL (l : List Int) : Nat := l.foldl (fun p n => 6 * p + n.toNat) 0
theorem nails8_iff {l : List Int} : nails8 l = true ↔ ∀ x ∈ l, 1 ≤ x ∧ x ≤ 6 := by simp [nails8, nail8]
theorem listB_iff {l : List Int} : listB l = true ↔ l.length ≤ 3 ∧ ∀ x ∈ l, 1 ≤ x ∧ x ≤ 6 := by simp only [listB, Bool.and_eq_true, decide_eq_true_eq, nails8_iff]
theorem place_snoc (l : List Int) (x : Int) : placeL (l ++ [x]) = 6 * placeL l + x.toNat := by simp [placeL]
theorem place_take {l : List Int} {k : Nat} {x : Int} (h : l[k]? = some x) : placeL (l.take (k + 1)) = 6 * placeL (l.take k) + x.toNat := by rw [take_snoc h, place_snoc]
theorem place_lt {l : List Int} (h : listB l = true) : placeL l < cntL (l.length + 1) := by
  obtain ⟨hl, hn⟩ := listB_iff.1 h
  match l, hl, hn with
  | [], _, _ => decide
  | [a], _, hn => have := hn a (by simp); simp [placeL, cntL]; omega
  | [a, b], _, hn => have := hn a (by simp); have := hn b (by simp); simp [placeL, cntL]; omega
  | [a, b, c], _, hn => have := hn a (by simp); have := hn b (by simp); have := hn c (by simp); simp [placeL, cntL]; omega
theorem place_lt259 {l : List Int} (h : listB l = true) : placeL l < 259 := Nat.lt_of_lt_of_le (place_lt h) (cntL_le (listB_iff.1 h).1)
theorem listB_take {l : List Int} (h : listB l = true) (k : Nat) : listB (l.take k) = true := by
  obtain ⟨hl, hn⟩ := listB_iff.1 h
  exact listB_iff.2 ⟨by simp; omega, fun x hx => hn x (List.mem_of_mem_take hx)⟩
end Go.Proofs.YtaepmgfodjjidaaDoor.Plain
namespace Go.Proofs.YtaepmgfodjjidaaDoor
open Go.ChangeShapes Go.WideShapes Go.ChangeAt Go.RowKit
set_option linter.unusedVariables false


end Go.Proofs.YtaepmgfodjjidaaDoor
