/- Contracts: spec.l2Turn and (impl.word).turned begin a list at its place k. Conditions: a place in the list, a length that fits. -/
import Derived.Test.YtnmjanhpjnlfcaaInvWalks
import Derived.Deep.RegionLaw
namespace Go.Proofs.Ytnmjanhpjnlfcaa
open Go.ChangeShapes Go.WideShapes Go.ChangeAt Go.RowKit
set_option linter.unusedVariables false

def turn (xs : List Int) (k : Nat) : List Int := xs.drop k ++ xs.take k
theorem turn_length (xs : List Int) (k : Nat) : (turn xs k).length = xs.length := by simp [turn]; omega
theorem l1Own_at (a : Option Addr) (cap n : Nat) (xs : List Int) (w : World) (hl : xs.length = n) (h : Hid (Ints w a xs)) (hcp : Hid (Cap a n cap)) (hn : n ≤ 1048576) :
    Calls Try.prog 52 #[.slice a n cap] w fun e w' => ∃ v, e = .returned v ∧ Coll xs w.heap.size w v w' ∧ v ≠ .slice none 0 0 := by
  subst hl
  exact l1Own_any a cap xs w h hcp hn
theorem Coll.undrew {L : List Int} {B : Nat} {w wr : World} {v : Value} (h : Coll L B w.drew v wr) : Coll L B w v wr := ⟨h.1, (Below.refl _ w).drew.trans h.2.1, h.2.2⟩


end Go.Proofs.Ytnmjanhpjnlfcaa
