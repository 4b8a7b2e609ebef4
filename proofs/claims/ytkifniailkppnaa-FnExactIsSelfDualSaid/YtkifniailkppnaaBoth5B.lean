/- Contracts: impl.OutFamily, FixFamily and their closures. Conditions: numbers of 64 bits, lengths that fit. -/
import Derived.Test.YtkifniailkppnaaFamOf
import Derived.Test.YtkifniailkppnaaFamLaw
import Derived.Test.YtkifniailkppnaaSpecOut
namespace Go.Proofs.Ytkifniailkppnaa
open Go.ChangeShapes Go.WideShapes Go.ChangeAt Go.RowKit
set_option linter.unusedVariables false

/-- A Family's variable, a number's and a result's, in three new blocks. -/
theorem box_int_result (w : World) (v u : Value) : FamAt (((w.alloc (.cells #[v] 28)).alloc (.cells #[u] 3)).alloc (.cells #[.slice none 0 0] 28)) w.heap.size v ∧ At1 3 (((w.alloc (.cells #[v] 28)).alloc (.cells #[u] 3)).alloc (.cells #[.slice none 0 0] 28)) (w.heap.size + 1) u ∧
    FamAt (((w.alloc (.cells #[v] 28)).alloc (.cells #[u] 3)).alloc (.cells #[.slice none 0 0] 28)) (w.heap.size + 1 + 1) (.slice none 0 0) ∧ Below w.heap.size w (((w.alloc (.cells #[v] 28)).alloc (.cells #[u] 3)).alloc (.cells #[.slice none 0 0] 28)) := by
  have h1 : At1 3 ((w.alloc (.cells #[v] 28)).alloc (.cells #[u] 3)) (w.heap.size + 1) u := At1.second w v u
  have h2 := famAt_new ((w.alloc (.cells #[v] 28)).alloc (.cells #[u] 3)) (.slice none 0 0)
  rw [show ((w.alloc (.cells #[v] 28)).alloc (.cells #[u] 3)).heap.size = w.heap.size + 1 + 1 by simp] at h2
  have h0 : FamAt ((w.alloc (.cells #[v] 28)).alloc (.cells #[u] 3)) w.heap.size v := (famAt_new w v).alloc _
  exact ⟨h0.alloc _, (Below.heap_alloc _ _ _ h1.lt).trans h1, h2, (((Below.refl _ _).alloc (Nat.le_refl _) _).alloc (by simp) _).alloc (by simp; omega) _⟩
/-! both programs side by side -/

end Go.Proofs.Ytkifniailkppnaa
