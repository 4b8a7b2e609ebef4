/- Contracts: spec.l6Set, impl.setWord, SetWord of both. Conditions: sets from 0 to 63, numbers of 64 bits. -/
import Derived.Test.YticekahpmjjmkaaBuildMath
import Derived.Test.YticekahpmjjmkaaFallSpec
namespace Go.Proofs.Yticekahpmjjmkaa
open Go.ChangeShapes Go.WideShapes Go.ChangeAt Go.RowKit
set_option linter.unusedVariables false

/-- What SetWord answers. -/
def setwW (n : Int) : List Int := if setB n = true then Plain.setWord n.toNat else []
theorem setwW_le (n : Int) : (setwW n).length ≤ 64 := by
  unfold setwW
  split
  · have := Plain.setWord_le n.toNat; omega
  · simp
theorem setw_no {n : Int} (h : setB n = false) : setwW n = [] := if_neg (by rw [h]; simp)
theorem setw_yes {s : Nat} (h : setB (s : Int) = true) : setwW (s : Int) = Plain.setWord s := by rw [setwW, if_pos h, Int.toNat_natCast]

end Go.Proofs.Yticekahpmjjmkaa
