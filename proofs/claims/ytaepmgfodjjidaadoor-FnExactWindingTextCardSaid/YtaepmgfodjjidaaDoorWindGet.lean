/- Fields and places of the coefficients as values. Contract: spec.l8Get. Condition: a list of at most three nails. -/
import Derived.Test.YtaepmgfodjjidaaDoorWindOf
import Derived.Test.YtaepmgfodjjidaaDoorWindImpl
import Derived.Test.YtaepmgfodjjidaaDoorWindList
namespace Go.Proofs.YtaepmgfodjjidaaDoor
open Go.ChangeShapes Go.WideShapes Go.ChangeAt Go.RowKit
set_option linter.unusedVariables false
set_option maxRecDepth 100000

def c259 (c : Nat → Int) : Array Value := arrN 259 (fun i => .int .i64 (c i))
theorem coefs_cut (l : Int) (c : Nat → Int) : (coefs l c).extract 1 260 = c259 c := by
  refine arrN_ext (by simp [coefs_size]) fun i hi => ?_
  rw [Array.getElem?_extract, if_pos (by rw [coefs_size]; omega)]
  refine (arrN_at _ (by omega)).trans ?_
  unfold coefV
  rw [if_neg (by omega), show 1 + i - 1 = i by omega]
theorem field_cut (cs : Array Value) (w : World) : Sem.run Tryd.prog (Instr.field 57 (.agg cs) 1) w = .ok (.agg (cs.extract 1 260)) w := by
  unfold Instr.field
  go_simp
  rfl
theorem field_coefs (l : Int) (c : Nat → Int) (w : World) : Sem.run Tryd.prog (Instr.field 57 (.agg (coefs l c)) 1) w = .ok (.agg (c259 c)) w := by
  rw [← coefs_cut l c]
  exact field_cut _ w
theorem index_c259 (c : Nat → Int) (k : Nat) (w : World) (hk : (k : Int) < 259) : Sem.run Tryd.prog (Instr.index 55 (.agg (c259 c)) (.int .i64 (k : Int))) w = .ok (.int .i64 (c k)) w := by
  have h2 : (c259 c)[k]? = some (.int .i64 (c k)) := arrN_at (n := 259) (fun i => Value.int .i64 (c i)) (i := k) (by omega)
  unfold Instr.index
  go_simp
  intro h
  omega
theorem extract_arr {n m d : Nat} (f : Nat → Value) (h : d + m ≤ n) : (arrN n f).extract d (d + m) = arrN m (fun i => f (d + i)) := by
  refine arrN_ext (by simp [arrN_size]; omega) fun i hi => ?_
  rw [Array.getElem?_extract, if_pos (by rw [arrN_size]; omega)]
  exact arrN_at _ (by omega)


end Go.Proofs.YtaepmgfodjjidaaDoor
