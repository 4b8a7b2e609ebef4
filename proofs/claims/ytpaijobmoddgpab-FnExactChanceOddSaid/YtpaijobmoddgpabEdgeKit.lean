/- Contracts: spec.l3Edge, l3Edges: the edges of a table. Condition: a set from 0 to 63. -/
import Derived.Test.YtpaijobmoddgpabTabKit
namespace Go.Proofs.Ytpaijobmoddgpab
open Go.ChangeShapes Go.WideShapes Go.ChangeAt Go.RowKit
set_option linter.unusedVariables false

theorem results_tab2 {fn : Func} {p q : Tmp} {ty : TypeId} (h : fn.results = #[.cell p ty, .tmp q]) (tmps : Array Value) (w : World) (g : Nat) (cs : Array Value)
    (hp : tmps.getD p undef = .pointer (some ⟨g, 0, none⟩)) (hl : (loadVar ty ⟨g, 0, none⟩).run Try.prog w = .ok (.agg cs) w) :
    (results fn tmps).run Try.prog w = .ok (.tuple #[.agg cs, tmps.getD q undef]) w := by
  have hp' : tmps[p]?.getD undef = .pointer (some ⟨g, 0, none⟩) := by simpa using hp
  simp [results, h, hp', asAddr, hl]
theorem tab_load {w : World} {G : Nat} {t : Nat → Bool} (h : Tab w G t) : (loadVar 37 ⟨G, 0, none⟩).run Try.prog w = .ok (.agg (bools t)) w :=
  run_loadVar_row w G 37 37 _ (0, 0) _ h Try.underlying37 rfl info64

end Go.Proofs.Ytpaijobmoddgpab
