/- Contracts: spec.l2Less, (impl.word).isBefore and what they call tell whether a list of letters comes before another one. Conditions: letters, lengths that fit. -/
import Derived.Deep.RegionWith
import Derived.Test.YtaepmgfodjjidaaDoorIntsWalks
import Derived.Test.YtaepmgfodjjidaaDoorWord
import Derived.Test.YtaepmgfodjjidaaDoorNailOf
namespace Go.Proofs.YtaepmgfodjjidaaDoor
open Go.ChangeShapes Go.WideShapes Go.ChangeAt Go.RowKit
set_option linter.unusedVariables false

/-- A call that leaves the world alone, behind draws that have been joined. -/
theorem still_drawn {f : FuncId} {args : Array Value} {v : Value} (hc : ∀ W, Calls Tryd.prog f args W fun e w' => e = .returned v ∧ w' = W) (w : World) (a n : Nat) :
    Calls Tryd.prog f args (w.drewN (a + n)) fun e w' => e = .returned v ∧ ∃ m, w' = w.drewN (a + m) := by
  refine (hc (w.drewN (a + n))).mono ?_
  rintro e w' ⟨rfl, rfl⟩
  exact ⟨rfl, n, rfl⟩
theorem l2Code_any (x : Int) (w : World) (h : -6 ≤ x ∧ x ≤ 6) : Calls Tryd.prog 31 #[.int .i64 x] w fun e w' => e = .returned (.int .i64 (Plain.codeOf x)) ∧ w' = w := by
  obtain ⟨h1, h2⟩ := h
  by_cases hp : 0 < x
  · have HC : Hid (Plain.codeOf x = 2 * x - 2) := Lib.hid (if_pos hp)
    go_enter Tryd.func31, Tryd.ntmps31
    go_wp2
    go_ret
    exact ⟨ret_int HC.out.symm, rfl⟩
  · have HC : Hid (Plain.codeOf x = -2 * x - 1) := Lib.hid (if_neg hp)
    go_enter Tryd.func31, Tryd.ntmps31
    go_wp2
    go_ret
    exact ⟨ret_int HC.out.symm, rfl⟩



end Go.Proofs.YtaepmgfodjjidaaDoor
