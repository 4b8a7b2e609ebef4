/- A whole row that is loaded in a region that draws its order and is walked once. No condition. -/
import Derived.Test.YtepmldbleconfaaLater
import Derived.Laws.Rows
import Derived.BigRegion
namespace Go.Proofs.Ytepmldbleconfaa
open Go.ChangeShapes Go.WideShapes Go.ChangeAt Go.RowKit
set_option linter.unusedVariables false

theorem later_row {ops : Array Oper} {w : World} {Q : Act → Prop} {a : Act} {o : Oper} {rest : List Oper} (hgd : o.guard = none) (T : TypeId) (x : Operand) (ho : o.op = .load T x) (g : Nat) (hx : a.eval x = .pointer (some ⟨g, 0, none⟩))
    (cs : Array Value) (hl : ∀ p : Later w, (loadVar T ⟨g, 0, none⟩).run Try.prog p.W = .ok (.agg cs) p.W) (h : wpQuiet Try.prog ops (fun w' => ∃ p : Later w, w' = p.W) Q rest (a.put o.dst (.agg cs))) :
    wpQuiet Try.prog ops (fun w' => ∃ p : Later w, w' = p.W) Q (o :: rest) a :=
  wpQuiet_step fun K hK => by
    have hw : Region.wanted o (yielded ops a.tmps) = true := by simp [Region.wanted, hgd]
    rw [if_pos hw]
    refine ⟨.agg cs, fun w' hw' => ?_, hK _ h⟩
    obtain ⟨p, rfl⟩ := hw'
    unfold Oper.quietAt execOp
    simp only [ho, hx, Instr.loadAt, Instr.sureAddr, Sem.run_bind, Sem.run_pure, Result.andThen_ok, hl p]
    exact ⟨rfl, rfl⟩

end Go.Proofs.Ytepmldbleconfaa
