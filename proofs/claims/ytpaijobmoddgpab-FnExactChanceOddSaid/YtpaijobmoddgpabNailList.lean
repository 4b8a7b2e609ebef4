/- Contracts: spec.l1Has, l4Nails, LeftWord, LeftLength, l4Length, BalancedLength. Conditions: numbers of 64 bits, lengths that fit. -/
import Derived.Test.YtpaijobmoddgpabCommSpec
namespace Go.Proofs.Ytpaijobmoddgpab
open Go.ChangeShapes Go.WideShapes Go.ChangeAt Go.RowKit
set_option linter.unusedVariables false

theorem hasB_take {l : List Int} {k : Nat} {x y : Int} (h : l[k]? = some y) : Plain.memB (l.take (k + 1)) x = (Plain.memB (l.take k) x || decide (y = x)) := by
  rw [Plain.take_snoc h]
  simp [Plain.memB]
theorem hasB_hit {l : List Int} {k : Nat} {x : Int} (h : l[k]? = some x) : Plain.memB l x = true := by
  rw [Plain.memB, List.any_eq_true]
  exact ⟨x, List.mem_of_getElem? h, by simp⟩

theorem quiet_of_left {f : FuncId} {args : Array Value} {w : World} {n : Nat} {v : Value} (h : Calls Try.prog f args (w.drewN n) fun e w' => e = .returned v ∧ w.drewN n = w') : Calls Try.prog f args (w.drewN n) fun e w'' => e = .returned v ∧ ∃ m, w'' = w.drewN m :=
  h.mono fun _ _ ⟨he, hm⟩ => ⟨he, n, hm.symm⟩
theorem nailAt_of {ns : List Int} {k : Nat} {x : Int} (h : ns[k]? = some x) : Plain.nailAt ns k = (decide (1 ≤ x ∧ x ≤ 6) && !Plain.memB (ns.take k) x) := by
  rw [Plain.nailAt, List.getD_eq_getElem?_getD, h]
  rfl
theorem nailsOk_bad {ns : List Int} {k : Nat} (hk : k < ns.length) (h : Plain.nailAt ns k = false) : Plain.nailsOk ns = false := by
  rw [Plain.nailsOk, Plain.goodTo_no h _ hk, Bool.and_false]

end Go.Proofs.Ytpaijobmoddgpab
